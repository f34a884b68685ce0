/- ClusSizes: for all arguments the call returns true. The law is brought to a function of Lean's own (W_..) by the machine of the texts beside it, and that is reckoned; no condition. -/
import Derived.Test.YtjbgbmldfdeokaaExtSo
import Derived.Test.YtjbgbmldfdeokaaExtCm
import Derived.Test.YtjbgbmldfdeokaaRows
import Derived.WalkKit
import Derived.ProofKit
import Derived.OpenShut
import Derived.ShutString
import Derived.ChangeOld
import Derived.Below
import Derived.Shelf.Sort.Plain
import Derived.Shelf.Slices.In.SortNone
import Derived.Shelf.SlicesE.DeleteFunc
import Derived.Shelf.RegionOpenPlain
import Derived.Deep.RegionLaw
import Derived.Lib.Walk
namespace Go.Proofs.Ytjbgbmldfdeokaa.clusSizesX
open Go.Abs Go.RowKit Go.ChangeShapes Go.WideShapes Go.ChangeAt
set_option maxRecDepth 100000
set_option linter.unusedVariables false
set_option linter.unusedSimpArgs false
noncomputable abbrev P0 : Program := Try.prog
noncomputable def bodyOf (fn : Func) : Code := fn.body.getD .skip
def L0 : Lend := fun f => aget [] [(60, [0]), (61, [0]), (83, [0]), (89, [0]), (90, [0]), (91, [0]), (93, [0]), (94, [0]), (96, [0]), (97, [0]), (101, [0])] f
def kpL (l : List Bool) : Nat → Bool := fun j => l.getD j true
theorem own : ownKnob Try.prog.godebug = none := by kernel_rfl
theorem laidOut : laidOutB Try.prog = true := by kernel_rfl
theorem mixed : P0.follows .mixedOrders = true := by decide +kernel
theorem progOk_ : progOk P0 = true := by decide +kernel
def soRen : Go.Shelf.Ren := ⟨fun | 189 => 60 | 125 => 84 | 257 => 83 | 128 => 98 | 129 => 99 | 294 => 89 | 295 => 90 | 296 => 91 | 297 => 92 | 298 => 93 | 299 => 94 | 216 => 95 | 300 => 96 | 301 => 97 | 328 => 101 | 329 => 102 | 330 => 103 | 331 => 104 | 332 => 105 | 215 => 106 | 343 => 107 | n => n, fun | 28 => 34 | 3 => 3 | 46 => 108 | 0 => 0 | 51 => 123 | 53 => 125 | 4 => 4 | 183 => 115 | 182 => 114 | 131 => 120 | 5 => 5 | 9 => 9 | 218 => 126 | 222 => 130 | 228 => 132 | 229 => 133 | n => n, fun | n => n⟩
theorem soLays : Go.Proofs.Lays.n189 Try.prog soRen := {
  mixed := by kernel_rfl
  f125 := Try.func84.trans (congrArg some (by kernel_rfl))
  f128 := Try.func98.trans (congrArg some (by kernel_rfl))
  f129 := Try.func99.trans (congrArg some (by kernel_rfl))
  f189 := Try.func60.trans (congrArg some (by kernel_rfl))
  f215 := Try.func106.trans (congrArg some (by kernel_rfl))
  f216 := Try.func95.trans (congrArg some (by kernel_rfl))
  f257 := Try.func83.trans (congrArg some (by kernel_rfl))
  f294 := Try.func89.trans (congrArg some (by kernel_rfl))
  f295 := Try.func90.trans (congrArg some (by kernel_rfl))
  f296 := Try.func91.trans (congrArg some (by kernel_rfl))
  f297 := Try.func92.trans (congrArg some (by kernel_rfl))
  f298 := Try.func93.trans (congrArg some (by kernel_rfl))
  f299 := Try.func94.trans (congrArg some (by kernel_rfl))
  f300 := Try.func96.trans (congrArg some (by kernel_rfl))
  f301 := Try.func97.trans (congrArg some (by kernel_rfl))
  f328 := Try.func101.trans (congrArg some (by kernel_rfl))
  f329 := Try.func102.trans (congrArg some (by kernel_rfl))
  f330 := Try.func103.trans (congrArg some (by kernel_rfl))
  f331 := Try.func104.trans (congrArg some (by kernel_rfl))
  f332 := Try.func105.trans (congrArg some (by kernel_rfl))
  f343 := Try.func107.trans (congrArg some (by kernel_rfl))
  t0 := Try.underlying0
  a0 := Try.isAgg0
  z0 := Try.sizeOf0
  v0 := Try.zeroValue0
  t3 := Try.underlying3
  a3 := Try.isAgg3
  z3 := Try.sizeOf3
  v3 := Try.zeroValue3
  t4 := Try.underlying4
  a4 := Try.isAgg4
  z4 := Try.sizeOf4
  v4 := Try.zeroValue4
  t5 := Try.underlying5
  a5 := Try.isAgg5
  z5 := Try.sizeOf5
  v5 := Try.zeroValue5
  t9 := Try.underlying9
  a9 := Try.isAgg9
  z9 := Try.sizeOf9
  v9 := Try.zeroValue9
  t28 := Try.underlying34
  a28 := Try.isAgg34
  z28 := Try.sizeOf34
  v28 := Try.zeroValue34
  t46 := Try.underlying108
  a46 := Try.isAgg108
  z46 := Try.sizeOf108
  v46 := Try.zeroValue108
  t51 := Try.underlying123
  a51 := Try.isAgg123
  z51 := Try.sizeOf123
  v51 := Try.zeroValue123
  t53 := Try.underlying125
  a53 := Try.isAgg125
  z53 := Try.sizeOf125
  v53 := Try.zeroValue125
  t131 := Try.underlying120
  a131 := Try.isAgg120
  z131 := Try.sizeOf120
  v131 := Try.zeroValue120
  t182 := Try.underlying114
  a182 := Try.isAgg114
  z182 := Try.sizeOf114
  v182 := Try.zeroValue114
  t183 := Try.underlying115
  a183 := Try.isAgg115
  z183 := Try.sizeOf115
  v183 := Try.zeroValue115
  t218 := Try.underlying126
  a218 := Try.isAgg126
  z218 := Try.sizeOf126
  v218 := Try.zeroValue126
  t222 := Try.underlying130
  a222 := Try.isAgg130
  z222 := Try.sizeOf130
  v222 := Try.zeroValue130
  t228 := Try.underlying132
  a228 := Try.isAgg132
  z228 := Try.sizeOf132
  v228 := Try.zeroValue132
  t229 := Try.underlying133
  a229 := Try.isAgg133
  z229 := Try.sizeOf133
  v229 := Try.zeroValue133 }
open Go.Sort Go.RowKit in
theorem soSort (blk off cap : Nat) (zs : List Int) (w : World) (hH : Holds (Value.int .i64) w blk off zs.toArray) (hblk : blk < w.heap.size) (hsz : zs.length < 4611686018427387904) :
    Calls Try.prog 60 #[.slice (some ⟨blk, off, none⟩) zs.length cap] w fun e w' =>
      e = .returned (.tuple #[]) ∧ ∃ n os, w' = grow (putRow (Value.int .i64) (Sort.ahead w n) blk off (zs.mergeSort fun x y => decide (x ≤ y)).toArray) os := Any.slices_Sort_int soLays blk off cap zs w hH hblk hsz
def dfRen : Go.Shelf.Ren := ⟨fun | 10 => 61 | 6 => 85 | n => n, fun | 22 => 34 | 23 => 3 | 25 => 92 | 3 => 3 | 4 => 4 | 0 => 0 | n => n, fun | n => n⟩
theorem dfLays : Go.Proofs.SlLaysH.n10 Try.prog dfRen := {
  mixed := by kernel_rfl
  f6 := ⟨Try.f85.name, by decide, Try.func85.trans (congrArg some (by kernel_rfl))⟩
  f10 := ⟨Try.f61.name, by decide, Try.func61.trans (congrArg some (by kernel_rfl))⟩
  t0 := Try.underlying0
  a0 := Try.isAgg0
  z0 := Try.sizeOf0
  v0 := Try.zeroValue0
  t3 := Try.underlying3
  a3 := Try.isAgg3
  z3 := Try.sizeOf3
  v3 := Try.zeroValue3
  t4 := Try.underlying4
  a4 := Try.isAgg4
  z4 := Try.sizeOf4
  v4 := Try.zeroValue4
  t22 := Try.underlying34
  a22 := Try.isAgg34
  z22 := Try.sizeOf34
  v22 := Try.zeroValue34
  a23 := Try.isAgg3
  z23 := Try.sizeOf3
  t25 := Try.underlying92
  a25 := Try.isAgg92
  z25 := Try.sizeOf92
  v25 := Try.zeroValue92 }
open Go.RowKit Go.Lib Go.Sort in
theorem dfDel {α : Type} [Inhabited α] (enc : α → Value) (hO : OneCell enc) (p : α → Bool) (g : Nat) (lb : Array Value) (eg : ∀ args w, (callFunc g args).run Try.prog w = .ok (.enter g args) w) (zr : α) (v23 : ∀ w, (zeroValue 3).run Try.prog w = .ok (enc zr) w) (blk off cap : Nat) (d : Array α) (w : World) (hp : PredAt Try.prog g lb enc p w) (hpo : PredOver Try.prog g lb enc p blk off d.size w) (hH : Holds enc w blk off d) (hsz : d.size ≤ 9223372036854775807) (hcap : d.size ≤ cap) :
    Calls Try.prog 61 #[.slice (some ⟨blk, off, none⟩) d.size cap, .func (.func g) #[] lb] w fun e w' => e = .returned (.slice (some ⟨blk, off, none⟩) (d.toList.filter fun x => !p x).length cap) ∧ ∃ q, w' = putRow enc (Sort.ahead w q) blk off ((d.toList.filter fun x => !p x) ++ List.replicate (d.size - (d.toList.filter fun x => !p x).length) zr).toArray := AnyE.slices_DeleteFunc dfLays enc hO p g lb eg zr v23 blk off cap d w hp hpo hH hsz hcap

theorem soN60 : SoN Try.prog 60 := fun p cap w => Any.slices_Sort_int_none soLays p cap w
theorem soF60 : SoF Try.prog 60 := fun blk off cap zs w hH hblk hsz => soSort blk off cap zs w hH hblk hsz
open Go.Lib Go.Sort in
theorem dfP {k : Int} {B : Nat} {W : World} (x : Int) (hc : W.cell? ⟨B, 0, none⟩ = some (.int .i64 k)) : FnGives Try.prog 62 #[.pointer (some ⟨B, 0, none⟩)] #[Value.int .i64 x] (.bool (decide (x = k))) W := by
  have e : (x == k) = decide (x = k) := Bool.eq_iff_iff.2 (by simp)
  unfold FnGives
  go_enter Try.func62, Try.ntmps62
  go_wp2
  go_ret
  exact ⟨by first | (simp; done) | (simp; exact e), 0, rfl⟩
open Go.Lib Go.Sort in
theorem dfF61 : DfF Try.prog 61 62 := fun blk off cap B zs k w hH hblk hB hne hc hcap hsz => by
  have hz : zs.toArray.size = zs.length := by simp
  have h := dfDel (Value.int .i64) (fun _ => rfl) (fun x => decide (x = k)) 62 #[.pointer (some ⟨B, 0, none⟩)] (enters_of Try.func62 (by kernel_rfl) rfl) 0 Try.zeroValue3 blk off cap zs.toArray w
    (fun W x hb => dfP x ((hb.cell (p := ⟨B, 0, none⟩) hB).trans hc))
    (fun n os dk x hs => dfP x (by
      have e : (Go.Sort.grow (Go.Sort.putRow (Value.int .i64) (Go.Sort.ahead w n) blk off dk) os).heap[B]? = w.heap[B]? := by
        unfold Go.Sort.grow
        rw [Array.getElem?_append_left (by rw [Go.Sort.size_putRow]; exact hB)]
        unfold Go.Sort.putRow Go.Sort.mapBlock Go.Sort.ahead
        simp only [Array.getElem?_modify, if_neg (fun q : blk = B => hne q.symm)]
      unfold sortWorld
      rw [← hc]
      unfold World.cell?
      rw [e]))
    hH (by omega) (by omega)
  rw [hz] at h
  exact h
noncomputable def u_Made : Uf := ⟨9, 6, Try.f9, [.val (.list (.int .u8))], [],
⟨[(2, .ptr 600005 0)], [(600005, .box 58 (.val (.pair (.list (.int .u8)) (.int .i64))))]⟩, [],
[],
[], fun y => (.ptr 2000000 0 0, [], [.box 58 (cellsW (.pair (.list (.int .u8)) (.int .i64)) y)])⟩
noncomputable def V_Made (N : Nat) (x : List Int) : Option ((List Int) × Int) :=
  some (x, (0:Int))
theorem q_Made : ∀ N x, u_Made.F L0 P0 (orcOf []) N x = V_Made N x := by intros; kernel_rfl
noncomputable def W_Made (N : Nat) := V_Made N
theorem con_Made_ok (N : Nat) : (u_Made.con (W_Made N)).ok P0 := Uf.ok mixed (q_Made N) trivial Try.func9 (by kernel_rfl) fun x y => by kernel_rfl
noncomputable def u_Picks_Num : Uf := ⟨29, 40, Try.f29, [.ptr 0 0, .val (.int .i64)], [.box 58 (.pair (.list (.int .u8)) (.int .i64))],
⟨[(0, .ptr 1000000 0), (4, .val (.int .i64))], [(1000000, .box 58 (.val (.pair (.list (.int .u8)) (.int .i64))))]⟩, [true],
[],
[], fun y => (valW (.int .i64) y.1, [.box 58 (cellsW (.pair (.list (.int .u8)) (.int .i64)) y.2)], [])⟩
noncomputable def V_Picks_Num (N : Nat) (x : Int × (List Int) × Int) : Option (Int × (List Int) × Int) :=
  cnd (decide ((↑(List.length x.2.1) : Int) ≤ x.2.2)) (some ((0:Int), x.2)) (cnd (decide (x.1 < (1:Int))) (some ((0:Int), x.2)) (cnd (decide ((0:Int) ≤
    wr .i64 (wr .i64 (x.2.2 + (1:Int)) - (1:Int))) && decide (wr .i64 (wr .i64 (x.2.2 + (1:Int)) - (1:Int)) < (↑(List.length x.2.1) : Int))) (cnd
    (!decide (x.1 = (0:Int))) (some (Int.tmod (wr .i64 (List.getD x.2.1 (Int.toNat (wr .i64 (wr .i64 (x.2.2 + (1:Int)) - (1:Int)))) (0:Int))) x.1,
    x.2.1, wr .i64 (x.2.2 + (1:Int)))) none) none))
theorem q_Picks_Num : ∀ N x, u_Picks_Num.F L0 P0 (orcOf []) N x = V_Picks_Num N x := by intros; kernel_rfl
noncomputable def W_Picks_Num (N : Nat) := V_Picks_Num N
theorem con_Picks_Num_ok (N : Nat) : (u_Picks_Num.con (W_Picks_Num N)).ok P0 := Uf.ok mixed (q_Picks_Num N) trivial Try.func29 (by kernel_rfl) fun x y => by kernel_rfl
noncomputable def u_Picks_Dist : Uf := ⟨10, 45, Try.f10, [.ptr 0 0], [.box 58 (.pair (.list (.int .u8)) (.int .i64))],
⟨[(0, .ptr 1000000 0), (2, .val (.list (.list (.int .i64))))], [(1000000, .box 58 (.val (.pair (.list (.int .u8)) (.int .i64))))]⟩, [true],
[(3, .unroll 9),
(10, .unroll 9),
(7, .unroll 9)],
[], fun y => (valW (.list (.list (.int .i64))) y.1, [.box 58 (cellsW (.pair (.list (.int .u8)) (.int .i64)) y.2)], [])⟩
noncomputable def V_Picks_Dist (w_Picks_Num : Int × (List Int) × Int → Option (Int × (List Int) × Int)) (N : Nat) (x : (List Int) × Int) : Option ((List (List Int)) × (List Int) × Int) :=
  obind (w_Picks_Num ((9:Int), x)) fun b0 => cnd (decide ((0:Int) ≤ b0.1)) (cnd (decide (b0.1 < ((↑(9:Nat) : Int) : Int))) (obind (w_Picks_Num
    ((9:Int), b0.2)) fun b1 => cnd (decide ((0:Int) ≤ b1.1)) (cnd (decide (b1.1 < ((↑(9:Nat) : Int) : Int))) (obind (w_Picks_Num ((9:Int), b1.2)) fun
    b2 => cnd (decide ((0:Int) ≤ b2.1)) (cnd (decide (b2.1 < ((↑(9:Nat) : Int) : Int))) (obind (w_Picks_Num ((9:Int), b2.2)) fun b3 => cnd (decide
    ((0:Int) ≤ b3.1)) (cnd (decide (b3.1 < ((↑(9:Nat) : Int) : Int))) (obind (w_Picks_Num ((9:Int), b3.2)) fun b4 => cnd (decide ((0:Int) ≤ b4.1))
    (cnd (decide (b4.1 < ((↑(9:Nat) : Int) : Int))) (obind (w_Picks_Num ((9:Int), b4.2)) fun b5 => cnd (decide ((0:Int) ≤ b5.1)) (cnd (decide (b5.1 <
    ((↑(9:Nat) : Int) : Int))) (obind (w_Picks_Num ((9:Int), b5.2)) fun b6 => cnd (decide ((0:Int) ≤ b6.1)) (cnd (decide (b6.1 < ((↑(9:Nat) : Int) :
    Int))) (obind (w_Picks_Num ((9:Int), b6.2)) fun b7 => cnd (decide ((0:Int) ≤ b7.1)) (cnd (decide (b7.1 < ((↑(9:Nat) : Int) : Int))) (obind
    (w_Picks_Num ((9:Int), b7.2)) fun b8 => cnd (decide ((0:Int) ≤ b8.1)) (cnd (decide (b8.1 < ((↑(9:Nat) : Int) : Int))) (obind (w_Picks_Num
    ((9:Int), b8.2)) fun b9 => cnd (decide ((0:Int) ≤ b9.1)) (cnd (decide (b9.1 < ((↑(9:Nat) : Int) : Int))) (obind (w_Picks_Num ((9:Int), b9.2)) fun
    b10 => cnd (decide ((0:Int) ≤ b10.1)) (cnd (decide (b10.1 < ((↑(9:Nat) : Int) : Int))) (obind (w_Picks_Num ((9:Int), b10.2)) fun b11 => cnd
    (decide ((0:Int) ≤ b11.1)) (cnd (decide (b11.1 < ((↑(9:Nat) : Int) : Int))) (obind (w_Picks_Num ((9:Int), b11.2)) fun b12 => cnd (decide ((0:Int)
    ≤ b12.1)) (cnd (decide (b12.1 < ((↑(9:Nat) : Int) : Int))) (obind (w_Picks_Num ((9:Int), b12.2)) fun b13 => cnd (decide ((0:Int) ≤ b13.1)) (cnd
    (decide (b13.1 < ((↑(9:Nat) : Int) : Int))) (obind (w_Picks_Num ((9:Int), b13.2)) fun b14 => cnd (decide ((0:Int) ≤ b14.1)) (cnd (decide (b14.1 <
    ((↑(9:Nat) : Int) : Int))) (obind (w_Picks_Num ((9:Int), b14.2)) fun b15 => cnd (decide ((0:Int) ≤ b15.1)) (cnd (decide (b15.1 < ((↑(9:Nat) : Int)
    : Int))) (obind (w_Picks_Num ((9:Int), b15.2)) fun b16 => cnd (decide ((0:Int) ≤ b16.1)) (cnd (decide (b16.1 < ((↑(9:Nat) : Int) : Int))) (obind
    (w_Picks_Num ((9:Int), b16.2)) fun b17 => cnd (decide ((0:Int) ≤ b17.1)) (cnd (decide (b17.1 < ((↑(9:Nat) : Int) : Int))) (obind (w_Picks_Num
    ((9:Int), b17.2)) fun b18 => cnd (decide ((0:Int) ≤ b18.1)) (cnd (decide (b18.1 < ((↑(9:Nat) : Int) : Int))) (obind (w_Picks_Num ((9:Int), b18.2))
    fun b19 => cnd (decide ((0:Int) ≤ b19.1)) (cnd (decide (b19.1 < ((↑(9:Nat) : Int) : Int))) (obind (w_Picks_Num ((9:Int), b19.2)) fun b20 => cnd
    (decide ((0:Int) ≤ b20.1)) (cnd (decide (b20.1 < ((↑(9:Nat) : Int) : Int))) (obind (w_Picks_Num ((9:Int), b20.2)) fun b21 => cnd (decide ((0:Int)
    ≤ b21.1)) (cnd (decide (b21.1 < ((↑(9:Nat) : Int) : Int))) (obind (w_Picks_Num ((9:Int), b21.2)) fun b22 => cnd (decide ((0:Int) ≤ b22.1)) (cnd
    (decide (b22.1 < ((↑(9:Nat) : Int) : Int))) (obind (w_Picks_Num ((9:Int), b22.2)) fun b23 => cnd (decide ((0:Int) ≤ b23.1)) (cnd (decide (b23.1 <
    ((↑(9:Nat) : Int) : Int))) (obind (w_Picks_Num ((9:Int), b23.2)) fun b24 => cnd (decide ((0:Int) ≤ b24.1)) (cnd (decide (b24.1 < ((↑(9:Nat) : Int)
    : Int))) (obind (w_Picks_Num ((9:Int), b24.2)) fun b25 => cnd (decide ((0:Int) ≤ b25.1)) (cnd (decide (b25.1 < ((↑(9:Nat) : Int) : Int))) (obind
    (w_Picks_Num ((9:Int), b25.2)) fun b26 => cnd (decide ((0:Int) ≤ b26.1)) (cnd (decide (b26.1 < ((↑(9:Nat) : Int) : Int))) (obind (w_Picks_Num
    ((9:Int), b26.2)) fun b27 => cnd (decide ((0:Int) ≤ b27.1)) (cnd (decide (b27.1 < ((↑(9:Nat) : Int) : Int))) (some ([[(0:Int), List.getD [(1:Int),
    (2:Int), (3:Int), (5:Int), (9:Int), (9:Int), (20:Int), (1000:Int), (0:Int)] (Int.toNat b0.1) (0:Int), List.getD [(1:Int), (2:Int), (3:Int), (5:Int),
    (9:Int), (9:Int), (20:Int), (1000:Int), (0:Int)] (Int.toNat b1.1) (0:Int), List.getD [(1:Int), (2:Int), (3:Int), (5:Int), (9:Int), (9:Int),
    (20:Int), (1000:Int), (0:Int)] (Int.toNat b3.1) (0:Int), List.getD [(1:Int), (2:Int), (3:Int), (5:Int), (9:Int), (9:Int), (20:Int), (1000:Int),
    (0:Int)] (Int.toNat b6.1) (0:Int), List.getD [(1:Int), (2:Int), (3:Int), (5:Int), (9:Int), (9:Int), (20:Int), (1000:Int), (0:Int)] (Int.toNat b10.1)
    (0:Int), List.getD [(1:Int), (2:Int), (3:Int), (5:Int), (9:Int), (9:Int), (20:Int), (1000:Int), (0:Int)] (Int.toNat b15.1) (0:Int), List.getD
    [(1:Int), (2:Int), (3:Int), (5:Int), (9:Int), (9:Int), (20:Int), (1000:Int), (0:Int)] (Int.toNat b21.1) (0:Int)], [List.getD [(1:Int), (2:Int),
    (3:Int), (5:Int), (9:Int), (9:Int), (20:Int), (1000:Int), (0:Int)] (Int.toNat b0.1) (0:Int), (0:Int), List.getD [(1:Int), (2:Int), (3:Int), (5:Int),
    (9:Int), (9:Int), (20:Int), (1000:Int), (0:Int)] (Int.toNat b2.1) (0:Int), List.getD [(1:Int), (2:Int), (3:Int), (5:Int), (9:Int), (9:Int),
    (20:Int), (1000:Int), (0:Int)] (Int.toNat b4.1) (0:Int), List.getD [(1:Int), (2:Int), (3:Int), (5:Int), (9:Int), (9:Int), (20:Int), (1000:Int),
    (0:Int)] (Int.toNat b7.1) (0:Int), List.getD [(1:Int), (2:Int), (3:Int), (5:Int), (9:Int), (9:Int), (20:Int), (1000:Int), (0:Int)] (Int.toNat b11.1)
    (0:Int), List.getD [(1:Int), (2:Int), (3:Int), (5:Int), (9:Int), (9:Int), (20:Int), (1000:Int), (0:Int)] (Int.toNat b16.1) (0:Int), List.getD
    [(1:Int), (2:Int), (3:Int), (5:Int), (9:Int), (9:Int), (20:Int), (1000:Int), (0:Int)] (Int.toNat b22.1) (0:Int)], [List.getD [(1:Int), (2:Int),
    (3:Int), (5:Int), (9:Int), (9:Int), (20:Int), (1000:Int), (0:Int)] (Int.toNat b1.1) (0:Int), List.getD [(1:Int), (2:Int), (3:Int), (5:Int), (9:Int),
    (9:Int), (20:Int), (1000:Int), (0:Int)] (Int.toNat b2.1) (0:Int), (0:Int), List.getD [(1:Int), (2:Int), (3:Int), (5:Int), (9:Int), (9:Int),
    (20:Int), (1000:Int), (0:Int)] (Int.toNat b5.1) (0:Int), List.getD [(1:Int), (2:Int), (3:Int), (5:Int), (9:Int), (9:Int), (20:Int), (1000:Int),
    (0:Int)] (Int.toNat b8.1) (0:Int), List.getD [(1:Int), (2:Int), (3:Int), (5:Int), (9:Int), (9:Int), (20:Int), (1000:Int), (0:Int)] (Int.toNat b12.1)
    (0:Int), List.getD [(1:Int), (2:Int), (3:Int), (5:Int), (9:Int), (9:Int), (20:Int), (1000:Int), (0:Int)] (Int.toNat b17.1) (0:Int), List.getD
    [(1:Int), (2:Int), (3:Int), (5:Int), (9:Int), (9:Int), (20:Int), (1000:Int), (0:Int)] (Int.toNat b23.1) (0:Int)], [List.getD [(1:Int), (2:Int),
    (3:Int), (5:Int), (9:Int), (9:Int), (20:Int), (1000:Int), (0:Int)] (Int.toNat b3.1) (0:Int), List.getD [(1:Int), (2:Int), (3:Int), (5:Int), (9:Int),
    (9:Int), (20:Int), (1000:Int), (0:Int)] (Int.toNat b4.1) (0:Int), List.getD [(1:Int), (2:Int), (3:Int), (5:Int), (9:Int), (9:Int), (20:Int),
    (1000:Int), (0:Int)] (Int.toNat b5.1) (0:Int), (0:Int), List.getD [(1:Int), (2:Int), (3:Int), (5:Int), (9:Int), (9:Int), (20:Int), (1000:Int),
    (0:Int)] (Int.toNat b9.1) (0:Int), List.getD [(1:Int), (2:Int), (3:Int), (5:Int), (9:Int), (9:Int), (20:Int), (1000:Int), (0:Int)] (Int.toNat b13.1)
    (0:Int), List.getD [(1:Int), (2:Int), (3:Int), (5:Int), (9:Int), (9:Int), (20:Int), (1000:Int), (0:Int)] (Int.toNat b18.1) (0:Int), List.getD
    [(1:Int), (2:Int), (3:Int), (5:Int), (9:Int), (9:Int), (20:Int), (1000:Int), (0:Int)] (Int.toNat b24.1) (0:Int)], [List.getD [(1:Int), (2:Int),
    (3:Int), (5:Int), (9:Int), (9:Int), (20:Int), (1000:Int), (0:Int)] (Int.toNat b6.1) (0:Int), List.getD [(1:Int), (2:Int), (3:Int), (5:Int), (9:Int),
    (9:Int), (20:Int), (1000:Int), (0:Int)] (Int.toNat b7.1) (0:Int), List.getD [(1:Int), (2:Int), (3:Int), (5:Int), (9:Int), (9:Int), (20:Int),
    (1000:Int), (0:Int)] (Int.toNat b8.1) (0:Int), List.getD [(1:Int), (2:Int), (3:Int), (5:Int), (9:Int), (9:Int), (20:Int), (1000:Int), (0:Int)]
    (Int.toNat b9.1) (0:Int), (0:Int), List.getD [(1:Int), (2:Int), (3:Int), (5:Int), (9:Int), (9:Int), (20:Int), (1000:Int), (0:Int)] (Int.toNat b14.1)
    (0:Int), List.getD [(1:Int), (2:Int), (3:Int), (5:Int), (9:Int), (9:Int), (20:Int), (1000:Int), (0:Int)] (Int.toNat b19.1) (0:Int), List.getD
    [(1:Int), (2:Int), (3:Int), (5:Int), (9:Int), (9:Int), (20:Int), (1000:Int), (0:Int)] (Int.toNat b25.1) (0:Int)], [List.getD [(1:Int), (2:Int),
    (3:Int), (5:Int), (9:Int), (9:Int), (20:Int), (1000:Int), (0:Int)] (Int.toNat b10.1) (0:Int), List.getD [(1:Int), (2:Int), (3:Int), (5:Int),
    (9:Int), (9:Int), (20:Int), (1000:Int), (0:Int)] (Int.toNat b11.1) (0:Int), List.getD [(1:Int), (2:Int), (3:Int), (5:Int), (9:Int), (9:Int),
    (20:Int), (1000:Int), (0:Int)] (Int.toNat b12.1) (0:Int), List.getD [(1:Int), (2:Int), (3:Int), (5:Int), (9:Int), (9:Int), (20:Int), (1000:Int),
    (0:Int)] (Int.toNat b13.1) (0:Int), List.getD [(1:Int), (2:Int), (3:Int), (5:Int), (9:Int), (9:Int), (20:Int), (1000:Int), (0:Int)] (Int.toNat
    b14.1) (0:Int), (0:Int), List.getD [(1:Int), (2:Int), (3:Int), (5:Int), (9:Int), (9:Int), (20:Int), (1000:Int), (0:Int)] (Int.toNat b20.1) (0:Int),
    List.getD [(1:Int), (2:Int), (3:Int), (5:Int), (9:Int), (9:Int), (20:Int), (1000:Int), (0:Int)] (Int.toNat b26.1) (0:Int)], [List.getD [(1:Int),
    (2:Int), (3:Int), (5:Int), (9:Int), (9:Int), (20:Int), (1000:Int), (0:Int)] (Int.toNat b15.1) (0:Int), List.getD [(1:Int), (2:Int), (3:Int),
    (5:Int), (9:Int), (9:Int), (20:Int), (1000:Int), (0:Int)] (Int.toNat b16.1) (0:Int), List.getD [(1:Int), (2:Int), (3:Int), (5:Int), (9:Int),
    (9:Int), (20:Int), (1000:Int), (0:Int)] (Int.toNat b17.1) (0:Int), List.getD [(1:Int), (2:Int), (3:Int), (5:Int), (9:Int), (9:Int), (20:Int),
    (1000:Int), (0:Int)] (Int.toNat b18.1) (0:Int), List.getD [(1:Int), (2:Int), (3:Int), (5:Int), (9:Int), (9:Int), (20:Int), (1000:Int), (0:Int)]
    (Int.toNat b19.1) (0:Int), List.getD [(1:Int), (2:Int), (3:Int), (5:Int), (9:Int), (9:Int), (20:Int), (1000:Int), (0:Int)] (Int.toNat b20.1)
    (0:Int), (0:Int), List.getD [(1:Int), (2:Int), (3:Int), (5:Int), (9:Int), (9:Int), (20:Int), (1000:Int), (0:Int)] (Int.toNat b27.1) (0:Int)],
    [List.getD [(1:Int), (2:Int), (3:Int), (5:Int), (9:Int), (9:Int), (20:Int), (1000:Int), (0:Int)] (Int.toNat b21.1) (0:Int), List.getD [(1:Int),
    (2:Int), (3:Int), (5:Int), (9:Int), (9:Int), (20:Int), (1000:Int), (0:Int)] (Int.toNat b22.1) (0:Int), List.getD [(1:Int), (2:Int), (3:Int),
    (5:Int), (9:Int), (9:Int), (20:Int), (1000:Int), (0:Int)] (Int.toNat b23.1) (0:Int), List.getD [(1:Int), (2:Int), (3:Int), (5:Int), (9:Int),
    (9:Int), (20:Int), (1000:Int), (0:Int)] (Int.toNat b24.1) (0:Int), List.getD [(1:Int), (2:Int), (3:Int), (5:Int), (9:Int), (9:Int), (20:Int),
    (1000:Int), (0:Int)] (Int.toNat b25.1) (0:Int), List.getD [(1:Int), (2:Int), (3:Int), (5:Int), (9:Int), (9:Int), (20:Int), (1000:Int), (0:Int)]
    (Int.toNat b26.1) (0:Int), List.getD [(1:Int), (2:Int), (3:Int), (5:Int), (9:Int), (9:Int), (20:Int), (1000:Int), (0:Int)] (Int.toNat b27.1)
    (0:Int), (0:Int)]], b27.2)) none) none) none) none) none) none) none) none) none) none) none) none) none) none) none) none) none) none) none) none)
    none) none) none) none) none) none) none) none) none) none) none) none) none) none) none) none) none) none) none) none) none) none) none) none)
    none) none) none) none) none) none) none) none) none) none) none) none
theorem q_Picks_Dist : ∀ w_Picks_Num N x, u_Picks_Dist.F L0 P0 (orcOf [u_Picks_Num.con w_Picks_Num]) N x = V_Picks_Dist w_Picks_Num N x := by intros; kernel_rfl
noncomputable def W_Picks_Dist (N : Nat) := V_Picks_Dist (W_Picks_Num N) N
theorem con_Picks_Dist_ok (N : Nat) : (u_Picks_Dist.con (W_Picks_Dist N)).ok P0 := Uf.ok mixed (q_Picks_Dist (W_Picks_Num N) N) ⟨con_Picks_Num_ok N, trivial⟩ Try.func10 (by kernel_rfl) fun x y => by kernel_rfl
noncomputable def u_clus_rises : Uf := ⟨81, 21, Try.f81, [.val (.list (.int .i64))], [],
⟨[(2, .val .bool)], []⟩, [],
[(3, .loop [6] ⟨[(3, .val (.int .i64)), (8, .val (.int .i64))], []⟩ [(.exit 0, ⟨[], []⟩), (.ret, ⟨[(2, .val .bool)], []⟩)])],
[], fun y => (valW .bool y, [], [])⟩
noncomputable def V_clus_rises (N : Nat) (x : List Int) : Option (Bool) :=
  obind (loopN N (fun (v : Int × Int) => cnd (decide (v.2 < (↑(List.length x) : Int))) (cnd (decide ((0:Int) ≤ v.2) && decide (v.2 < (↑(List.length x) :
    Int))) (cnd (decide (List.getD x (Int.toNat v.2) (0:Int) ≤ v.1)) (some (Sum.inr (Sum.inr false))) (cnd (decide ((8:Int) < List.getD x (Int.toNat
    v.2) (0:Int))) (some (Sum.inr (Sum.inr false))) (some (Sum.inl (List.getD x (Int.toNat v.2) (0:Int), wr .i64 (v.2 + (1:Int))))))) none) (some
    (Sum.inr (Sum.inl ())))) ((0:Int), (0:Int))) fun (b : PUnit ⊕ Bool) => selim (fun (b : PUnit) => some true) (fun (c : Bool) => some c) b
theorem q_clus_rises : ∀ N x, u_clus_rises.F L0 P0 (orcOf []) N x = V_clus_rises N x := by intros; kernel_rfl
noncomputable def W_clus_rises (N : Nat) := V_clus_rises N
theorem con_clus_rises_ok (N : Nat) : (u_clus_rises.con (W_clus_rises N)).ok P0 := Uf.ok mixed (q_clus_rises N) trivial Try.func81 (by kernel_rfl) fun x y => by kernel_rfl
noncomputable def u_mid_between : Uf := ⟨86, 38, Try.f86, [.val (.list (.list (.int .i64))), .val (.int .i64), .val (.int .i64)], [],
⟨[(6, .val (.int .i64))], []⟩, [],
[],
[(1000001, .reg [(8, [], ⟨[(14, .val .bool)], []⟩), (4, [], ⟨[(18, .val .bool)], []⟩)])], fun y => (valW (.int .i64) y, [], [])⟩
noncomputable def V_mid_between (N : Nat) (x : (List (List Int)) × Int × Int) : Option (Int) :=
  obind (cnd (decide (x.2.1 < (1:Int))) (some true) (some (decide ((↑(List.length x.1) : Int) < x.2.1)))) fun (b : Bool) => obind (cnd b (some true)
    (some (decide (x.2.2 < (1:Int))))) fun (b : Bool) => cnd b (some (0:Int)) (cnd (decide ((0:Int) ≤ wr .i64 (x.2.1 - (1:Int))) && decide (wr .i64
    (x.2.1 - (1:Int)) < (↑(List.length x.1) : Int))) (cnd (decide ((↑(List.length (List.getD x.1 (Int.toNat (wr .i64 (x.2.1 - (1:Int)))) [])) : Int) <
    x.2.2)) (some (0:Int)) (cnd (decide ((0:Int) ≤ wr .i64 (x.2.1 - (1:Int))) && decide (wr .i64 (x.2.1 - (1:Int)) < (↑(List.length x.1) : Int))) (cnd
    (decide ((0:Int) ≤ wr .i64 (x.2.2 - (1:Int))) && decide (wr .i64 (x.2.2 - (1:Int)) < (↑(List.length (List.getD x.1 (Int.toNat (wr .i64 (x.2.1 -
    (1:Int)))) [])) : Int))) (some (List.getD (List.getD x.1 (Int.toNat (wr .i64 (x.2.1 - (1:Int)))) []) (Int.toNat (wr .i64 (x.2.2 - (1:Int))))
    (0:Int))) none) none)) none)
theorem q_mid_between : ∀ N x, u_mid_between.F L0 P0 (orcOf []) N x = V_mid_between N x := by intros; kernel_rfl
noncomputable def W_mid_between (N : Nat) := V_mid_between N
theorem con_mid_between_ok (N : Nat) : (u_mid_between.con (W_mid_between N)).ok P0 := Uf.ok mixed (q_mid_between N) trivial Try.func86 (by kernel_rfl) fun x y => by kernel_rfl
noncomputable def u_mid_Far : Uf := ⟨65, 24, Try.f65, [.val (.list (.list (.int .i64))), .val (.int .i64), .val (.list (.int .i64))], [],
⟨[(6, .val (.int .i64))], []⟩, [],
[(3, .loop [10] ⟨[(7, .val (.int .i64)), (12, .val (.int .i64))], []⟩ [(.exit 0, ⟨[(7, .val (.int .i64))], []⟩)])],
[], fun y => (valW (.int .i64) y, [], [])⟩
noncomputable def V_mid_Far (w_mid_between : (List (List Int)) × Int × Int → Option (Int)) (N : Nat) (x : (List (List Int)) × Int × List Int) : Option (Int) :=
  obind (loopN N (fun (v : Int × Int) => cnd (decide (v.2 < (↑(List.length x.2.2) : Int))) (cnd (decide ((0:Int) ≤ v.2) && decide (v.2 < (↑(List.length
    x.2.2) : Int))) (obind (w_mid_between (x.1, x.2.1, List.getD x.2.2 (Int.toNat v.2) (0:Int))) fun b => some (Sum.inl (max v.1 b, wr .i64 (v.2 +
    (1:Int))))) none) (some (Sum.inr v.1))) ((0:Int), (0:Int))) fun (b : Int) => some b
theorem q_mid_Far : ∀ w_mid_between N x, u_mid_Far.F L0 P0 (orcOf [u_mid_between.con w_mid_between]) N x = V_mid_Far w_mid_between N x := by intros; kernel_rfl
noncomputable def W_mid_Far (N : Nat) := V_mid_Far (W_mid_between N) N
theorem con_mid_Far_ok (N : Nat) : (u_mid_Far.con (W_mid_Far N)).ok P0 := Uf.ok mixed (q_mid_Far (W_mid_between N) N) ⟨con_mid_between_ok N, trivial⟩ Try.func65 (by kernel_rfl) fun x y => by kernel_rfl
noncomputable def u_clus_apart : Uf := ⟨56, 12, Try.f56, [.val (.list (.list (.int .i64))), .val (.int .i64), .val (.int .i64)], [],
⟨[(6, .val (.int .i64))], []⟩, [],
[],
[], fun y => (valW (.int .i64) y, [], [])⟩
noncomputable def V_clus_apart (w_mid_Far : (List (List Int)) × Int × List Int → Option (Int)) (N : Nat) (x : (List (List Int)) × Int × Int) : Option (Int) :=
  obind (w_mid_Far (x.1, x.2.1, [x.2.2])) fun b => some b
theorem q_clus_apart : ∀ w_mid_Far N x, u_clus_apart.F L0 P0 (orcOf [u_mid_Far.con w_mid_Far]) N x = V_clus_apart w_mid_Far N x := by intros; kernel_rfl
noncomputable def W_clus_apart (N : Nat) := V_clus_apart (W_mid_Far N) N
theorem con_clus_apart_ok (N : Nat) : (u_clus_apart.con (W_clus_apart N)).ok P0 := Uf.ok mixed (q_clus_apart (W_mid_Far N) N) ⟨con_mid_Far_ok N, trivial⟩ Try.func56 (by kernel_rfl) fun x y => by kernel_rfl
noncomputable def u_clus_farthest : Uf := ⟨54, 61, Try.f54, [.val (.list (.list (.int .i64))), .val (.list (.int .i64))], [],
⟨[(4, .val (.alt 82 (.agg (.pair (.int .i64) (.int .i64))) (.alt1 104 (.agg .unit))))], []⟩, [],
[(8, .loop [27, 37] ⟨[(5, .ptr 600005 0), (39, .val (.int .i64))], [(600005, .box 82 (.val (.pair (.int .i64) (.int .i64))))]⟩ [(.exit 2, ⟨[(5, .ptr 600005 0)], [(600005, .box 82 (.val (.pair (.int .i64) (.int .i64))))]⟩)]),
(5, .loop [27] ⟨[(5, .ptr 600005 0), (29, .val (.int .i64))], [(600005, .box 82 (.val (.pair (.int .i64) (.int .i64))))]⟩ [(.exit 0, ⟨[(5, .ptr 600005 0)], [(600005, .box 82 (.val (.pair (.int .i64) (.int .i64))))]⟩)])],
[], fun y => (valW (.alt 82 (.agg (.pair (.int .i64) (.int .i64))) (.alt1 104 (.agg .unit))) y, [], [])⟩
noncomputable def V_clus_farthest (w_clus_rises : List Int → Option (Bool)) (w_clus_apart : (List (List Int)) × Int × Int → Option (Int)) (N : Nat) (x : (List (List Int)) × List Int) : Option ((Int × Int) ⊕ Unit) :=
  cnd (decide ((↑(List.length x.2) : Int) < (2:Int))) (some (Sum.inr ())) (obind (w_clus_rises x.2) fun b => cnd (!b) (some (Sum.inr ())) (cnd (decide
    ((0:Int) ≤ (0:Int)) && decide ((0:Int) < (↑(List.length x.2) : Int))) (cnd (decide ((0:Int) ≤ (1:Int)) && decide ((1:Int) < (↑(List.length x.2) :
    Int))) (obind (loopN N (fun (v : Int × Int × Int) => cnd (decide (v.1 < (↑(List.length x.2) : Int))) (cnd (decide ((0:Int) ≤ v.1) && decide (v.1 <
    (↑(List.length x.2) : Int))) (cnd (decide ((0:Int) ≤ wr .i64 (v.1 + (1:Int))) && decide (wr .i64 (v.1 + (1:Int)) ≤ (↑(List.length x.2) : Int)))
    (obind (loopN N (fun (v_1 : Int × Int × Int) => cnd (decide (v_1.1 < (↑(List.length (List.drop (Int.toNat (wr .i64 (v.1 + (1:Int)))) (List.take
    (List.length x.2) x.2))) : Int))) (cnd (decide ((0:Int) ≤ v_1.1) && decide (v_1.1 < (↑(List.length (List.drop (Int.toNat (wr .i64 (v.1 + (1:Int))))
    (List.take (List.length x.2) x.2))) : Int))) (obind (w_clus_apart (x.1, List.getD x.2 (Int.toNat v.1) (0:Int), List.getD (List.drop (Int.toNat (wr
    .i64 (v.1 + (1:Int)))) (List.take (List.length x.2) x.2)) (Int.toNat v_1.1) (0:Int))) fun b => obind (w_clus_apart (x.1, v_1.2)) fun b_1 => cnd
    (decide (b_1 < b)) (some (Sum.inl (wr .i64 (v_1.1 + (1:Int)), List.getD x.2 (Int.toNat v.1) (0:Int), List.getD (List.drop (Int.toNat (wr .i64 (v.1 +
    (1:Int)))) (List.take (List.length x.2) x.2)) (Int.toNat v_1.1) (0:Int)))) (some (Sum.inl (wr .i64 (v_1.1 + (1:Int)), v_1.2)))) none) (some (Sum.inr
    v_1.2))) ((0:Int), v.2)) fun (b : Int × Int) => some (Sum.inl (wr .i64 (v.1 + (1:Int)), b))) none) none) (some (Sum.inr v.2))) ((0:Int), List.getD
    x.2 (0:Nat) (0:Int), List.getD x.2 (1:Nat) (0:Int))) fun (b : Int × Int) => some (Sum.inl b)) none) none))
theorem q_clus_farthest : ∀ w_clus_rises w_clus_apart N x, u_clus_farthest.F L0 P0 (orcOf [u_clus_rises.con w_clus_rises, u_clus_apart.con w_clus_apart]) N x = V_clus_farthest w_clus_rises w_clus_apart N x := by intros; kernel_rfl
noncomputable def W_clus_farthest (N : Nat) := V_clus_farthest (W_clus_rises N) (W_clus_apart N) N
theorem con_clus_farthest_ok (N : Nat) : (u_clus_farthest.con (W_clus_farthest N)).ok P0 := Uf.ok mixed (q_clus_farthest (W_clus_rises N) (W_clus_apart N) N) ⟨con_clus_rises_ok N, con_clus_apart_ok N, trivial⟩ Try.func54 (by kernel_rfl) fun x y => by kernel_rfl
def as_slices_Clone_int : List AS := [.val (.list (.int .i64))]
def bs_slices_Clone_int : List BS := []
def pout_slices_Clone_int : Pat := ⟨[(2, .acc 700005)], [(700005, .nrow 3 (.int .i64) false true)]⟩
noncomputable def G_slices_Clone_int  (N : Nat) : OrcT := orcOf []
noncomputable def F_slices_Clone_int  (N : Nat) (x : List Int) : Option (List Int) :=
  (evT (G_slices_Clone_int  N) L0 P0 []
    [] N 400 (bodyOf Try.f55) ⟨8, slots 0 [.nl ⟨(.int .i64), x⟩], tabU (lbOf as_slices_Clone_int bs_slices_Clone_int x) [], []⟩).elim (kRet 8 pout_slices_Clone_int (kpL []) (lbOf as_slices_Clone_int bs_slices_Clone_int x))
def out_slices_Clone_int (y : List Int) : V × List OK × List OK := (.acc 2000000 0, [], [.nrow 3 false true ⟨(.int .i64), y⟩])
noncomputable def V_slices_Clone_int  (N : Nat) (x : List Int) : Option (List Int) :=
  cnd (decide (List.length x * (8:Nat) ≤ (140737488355328:Nat))) (some x) none
theorem FV_slices_Clone_int_eq  (N : Nat) (x : List Int) : F_slices_Clone_int  N x = V_slices_Clone_int  N x := by kernel_rfl
noncomputable def W_slices_Clone_int (N : Nat) (x : List Int) : Option (List Int) := V_slices_Clone_int  N x
theorem F_slices_Clone_int_eq (N : Nat) (x : List Int) : F_slices_Clone_int  N x = W_slices_Clone_int N x := (FV_slices_Clone_int_eq  N x).trans (by kernel_rfl)
noncomputable def conw_slices_Clone_int (w : List Int → Option (List Int)) : Con := ⟨55, as_slices_Clone_int, bs_slices_Clone_int, List Int, w, out_slices_Clone_int⟩
noncomputable def con_slices_Clone_int (N : Nat) : Con := conw_slices_Clone_int (W_slices_Clone_int N)
theorem R_slices_Clone_int_eq (x : List Int) (y : List Int) : retOf2 P0 Try.f55 (kpL []) (lbOf as_slices_Clone_int bs_slices_Clone_int x) (patS ⟨8, [], [], []⟩ pout_slices_Clone_int y) = some (out_slices_Clone_int y) := by kernel_rfl
noncomputable def FA_slices_Clone_int : Option (List Int) := (evT (G_slices_Clone_int 1) L0 P0 [] [] 1 400 (bodyOf Try.f55) ⟨8, slots 0 [.snil], tabU [] [], []⟩).elim (kRet 8 pout_slices_Clone_int (kpL []) [])
theorem FA_slices_Clone_int_eq : FA_slices_Clone_int = some [] := by kernel_rfl
theorem WN_slices_Clone_int (N : Nat) (r : List Int) (h : W_slices_Clone_int N [] = some r) : r = [] := by
  have e : W_slices_Clone_int N [] = some [] := by kernel_rfl
  rw [e] at h; injection h with h; exact h.symm
theorem con_slices_Clone_int_ok (N : Nat) : Con.ok P0 (con_slices_Clone_int N) := ⟨⟨Try.f55, Try.func55, by kernel_rfl, by kernel_rfl⟩, fun (x : List Int) (r : List Int) (hr : W_slices_Clone_int N x = some r) =>
  clone_split (e := (.int .i64)) (ty := 3) (l := x) (r := r)
    (spec2_evT (Γ := G_slices_Clone_int 1) (Λ := L0) (lb := []) (pout := pout_slices_Clone_int) (kp := kpL []) mixed (orcOf_ok [] (by simp)) Try.func55 (c := bodyOf Try.f55) (by kernel_rfl) (by kernel_rfl) (of_decide_eq_true (by kernel_rfl)) FA_slices_Clone_int_eq (R_slices_Clone_int_eq x []))
    (spec2_evT (Γ := G_slices_Clone_int N) (Λ := L0) (lb := []) (pout := pout_slices_Clone_int) (kp := kpL []) mixed (orcOf_ok [] (by simp)) Try.func55 (c := bodyOf Try.f55) (by kernel_rfl) (by kernel_rfl) (of_decide_eq_true (by kernel_rfl)) ((F_slices_Clone_int_eq N x).trans hr) (R_slices_Clone_int_eq x r))
    (fun h => by subst h; exact WN_slices_Clone_int N r hr)⟩
def as_slices_DeleteFunc_int__clus_without_1 : List AS := [.acc 0, .fn 62 [1]]
def bs_slices_DeleteFunc_int__clus_without_1 : List BS := [.nrow 3 (.int .i64) true, .box 3 (.int .i64)]
def out_slices_DeleteFunc_int__clus_without_1 (y : Int × List Int) : V × List OK × List OK := (.acc 2000000 0, [.dead, .box 3 (cellsW (.int .i64) y.1)], [.nrow 3 false false ⟨(.int .i64), y.2⟩])
noncomputable def W_slices_DeleteFunc_int__clus_without_1 (N : Nat) (x : (List Int) × Int) : Option (Int × List Int) :=
  cnd (decide ((0:Nat) < List.length x.1) && decide (List.length x.1 ≤ (140737488355328:Nat))) (some (x.2, List.filter (fun (a : Int) => !decide (a = x.2)) x.1)) none
noncomputable def conw_slices_DeleteFunc_int__clus_without_1 (w : (List Int) × Int → Option (Int × List Int)) : Con := ⟨61, as_slices_DeleteFunc_int__clus_without_1, bs_slices_DeleteFunc_int__clus_without_1, Int × List Int, w, out_slices_DeleteFunc_int__clus_without_1⟩
noncomputable def con_slices_DeleteFunc_int__clus_without_1 (N : Nat) : Con := conw_slices_DeleteFunc_int__clus_without_1 (W_slices_DeleteFunc_int__clus_without_1 N)
theorem con_slices_DeleteFunc_int__clus_without_1_ok (N : Nat) : Con.ok P0 (con_slices_DeleteFunc_int__clus_without_1 N) := ⟨⟨Try.f61, Try.func61, by kernel_rfl, by kernel_rfl⟩, fun (x : (List Int) × Int) (r : Int × List Int) (hr : W_slices_DeleteFunc_int__clus_without_1 N x = some r) => by
  obtain ⟨l, k⟩ := x
  exact df_con (ty := 3) (bt := 3) (nl := true) (l := l) (k := k) (r := r) dfF61 hr⟩
noncomputable def u_clus_without : Uf := ⟨35, 9, Try.f35, [.val (.list (.int .i64)), .val (.int .i64)], [],
⟨[(4, .val (.list (.int .i64)))], []⟩, [],
[],
[], fun y => (valW (.list (.int .i64)) y, [], [])⟩
noncomputable def V_clus_without (w_slices_Clone_int : List Int → Option (List Int)) (w_slices_DeleteFunc_int__clus_without_1 : (List Int) × Int → Option (Int × List Int)) (N : Nat) (x : (List Int) × Int) : Option (List Int) :=
  obind (w_slices_Clone_int x.1) fun b => obind (w_slices_DeleteFunc_int__clus_without_1 (b, x.2)) fun b => some b.2
theorem q_clus_without : ∀ w_slices_Clone_int w_slices_DeleteFunc_int__clus_without_1 N x, u_clus_without.F L0 P0 (orcOf [conw_slices_Clone_int w_slices_Clone_int, conw_slices_DeleteFunc_int__clus_without_1 w_slices_DeleteFunc_int__clus_without_1]) N x = V_clus_without w_slices_Clone_int w_slices_DeleteFunc_int__clus_without_1 N x := by intros; kernel_rfl
noncomputable def W_clus_without (N : Nat) := V_clus_without (W_slices_Clone_int N) (W_slices_DeleteFunc_int__clus_without_1 N) N
theorem con_clus_without_ok (N : Nat) : (u_clus_without.con (W_clus_without N)).ok P0 := Uf.ok mixed (q_clus_without (W_slices_Clone_int N) (W_slices_DeleteFunc_int__clus_without_1 N) N) ⟨con_slices_Clone_int_ok N, con_slices_DeleteFunc_int__clus_without_1_ok N, trivial⟩ Try.func35 (by kernel_rfl) fun x y => by kernel_rfl
noncomputable def u_mid_better : Uf := ⟨64, 39, Try.f64, [.val (.alt 93 (.agg .unit) (.alt1 111 (.agg (.pair (.int .i64) (.int .i64))))), .val (.int .i64), .val (.int .i64)], [],
⟨[(6, .val (.alt1 111 (.agg (.pair (.int .i64) (.int .i64)))))], []⟩, [],
[],
[], fun y => (valW (.alt1 111 (.agg (.pair (.int .i64) (.int .i64)))) y, [], [])⟩
noncomputable def V_mid_better (N : Nat) (x : (Unit ⊕ (Int × Int)) × Int × Int) : Option (Int × Int) :=
  selim (fun (b : PUnit) => some x.2) (fun (c : Int × Int) => cnd (decide (c.2 < x.2.2)) (some c) (cnd (decide (c.2 = x.2.2)) (cnd (decide (c.1 < x.2.1)) (some c) (some x.2)) (some x.2))) x.1
theorem q_mid_better : ∀ N x, u_mid_better.F L0 P0 (orcOf []) N x = V_mid_better N x := by intros; kernel_rfl
noncomputable def W_mid_better (N : Nat) := V_mid_better N
theorem con_mid_better_ok (N : Nat) : (u_mid_better.con (W_mid_better N)).ok P0 := Uf.ok mixed (q_mid_better N) trivial Try.func64 (by kernel_rfl) fun x y => by kernel_rfl
noncomputable def u_mid_who : Uf := ⟨66, 14, Try.f66, [.val (.alt 93 (.agg .unit) (.alt1 111 (.agg (.pair (.int .i64) (.int .i64)))))], [],
⟨[(2, .val (.int .i64))], []⟩, [],
[],
[], fun y => (valW (.int .i64) y, [], [])⟩
noncomputable def V_mid_who (N : Nat) (x : Unit ⊕ (Int × Int)) : Option (Int) :=
  selim (fun (b : PUnit) => some (0:Int)) (fun (c : Int × Int) => some c.1) x
theorem q_mid_who : ∀ N x, u_mid_who.F L0 P0 (orcOf []) N x = V_mid_who N x := by intros; kernel_rfl
noncomputable def W_mid_who (N : Nat) := V_mid_who N
theorem con_mid_who_ok (N : Nat) : (u_mid_who.con (W_mid_who N)).ok P0 := Uf.ok mixed (q_mid_who N) trivial Try.func66 (by kernel_rfl) fun x y => by kernel_rfl
noncomputable def u_mid_Near : Uf := ⟨63, 31, Try.f63, [.val (.list (.list (.int .i64))), .val (.int .i64), .val (.list (.int .i64))], [],
⟨[(6, .val (.int .i64))], []⟩, [],
[(3, .loop [12] ⟨[(7, .val (.alt 93 (.agg .unit) (.alt1 111 (.agg (.pair (.int .i64) (.int .i64)))))), (14, .val (.int .i64))], []⟩ [(.exit 0, ⟨[(7, .val (.alt 93 (.agg .unit) (.alt1 111 (.agg (.pair (.int .i64) (.int .i64))))))], []⟩)])],
[], fun y => (valW (.int .i64) y, [], [])⟩
noncomputable def V_mid_Near (w_mid_between : (List (List Int)) × Int × Int → Option (Int)) (w_mid_better : (Unit ⊕ (Int × Int)) × Int × Int → Option (Int × Int)) (w_mid_who : Unit ⊕ (Int × Int) → Option (Int)) (N : Nat) (x : (List (List Int)) × Int × List Int) : Option (Int) :=
  obind (loopN N (fun (v : (PUnit ⊕ Int × Int) × Int) => cnd (decide (v.2 < (↑(List.length x.2.2) : Int))) (cnd (decide ((0:Int) ≤ v.2) && decide (v.2 <
    (↑(List.length x.2.2) : Int))) (cnd (decide (List.getD x.2.2 (Int.toNat v.2) (0:Int) ≠ x.2.1)) (obind (w_mid_between (x.1, x.2.1, List.getD x.2.2
    (Int.toNat v.2) (0:Int))) fun b => obind (w_mid_better (v.1, List.getD x.2.2 (Int.toNat v.2) (0:Int), b)) fun b => some (Sum.inl (Sum.inr b, wr
    .i64 (v.2 + (1:Int))))) (some (Sum.inl (v.1, wr .i64 (v.2 + (1:Int)))))) none) (some (Sum.inr v.1))) (Sum.inl (), (0:Int))) fun (b : PUnit ⊕ Int ×
    Int) => obind (w_mid_who b) fun b => some b
theorem q_mid_Near : ∀ w_mid_between w_mid_better w_mid_who N x, u_mid_Near.F L0 P0 (orcOf [u_mid_between.con w_mid_between, u_mid_better.con w_mid_better, u_mid_who.con w_mid_who]) N x = V_mid_Near w_mid_between w_mid_better w_mid_who N x := by intros; kernel_rfl
noncomputable def W_mid_Near (N : Nat) := V_mid_Near (W_mid_between N) (W_mid_better N) (W_mid_who N) N
theorem con_mid_Near_ok (N : Nat) : (u_mid_Near.con (W_mid_Near N)).ok P0 := Uf.ok mixed (q_mid_Near (W_mid_between N) (W_mid_better N) (W_mid_who N) N) ⟨con_mid_between_ok N, con_mid_better_ok N, con_mid_who_ok N, trivial⟩ Try.func63 (by kernel_rfl) fun x y => by kernel_rfl
def as_slices_Sort_int : List AS := [.acc 0]
def bs_slices_Sort_int : List BS := [.nrow 3 (.int .i64) true]
def out_slices_Sort_int (y : List Int) : V × List OK × List OK := (.tup [], [.nrow 3 false true ⟨(.int .i64), y⟩], [])
noncomputable def W_slices_Sort_int (N : Nat) (x : List Int) : Option (List Int) :=
  cnd (decide (List.length x ≤ (140737488355328:Nat))) (some (srt x)) none
noncomputable def conw_slices_Sort_int (w : List Int → Option (List Int)) : Con := ⟨60, as_slices_Sort_int, bs_slices_Sort_int, List Int, w, out_slices_Sort_int⟩
noncomputable def con_slices_Sort_int (N : Nat) : Con := conw_slices_Sort_int (W_slices_Sort_int N)
theorem con_slices_Sort_int_ok (N : Nat) : Con.ok P0 (con_slices_Sort_int N) := ⟨⟨Try.f60, Try.func60, by kernel_rfl, by kernel_rfl⟩, fun (x : List Int) (r : List Int) (hr : W_slices_Sort_int N x = some r) => so_con0 (ty := 3) (l := x) (r := r) soF60 soN60 hr⟩
noncomputable def u_clus_with : Uf := ⟨34, 13, Try.f34, [.val (.list (.int .i64)), .val (.list (.int .i64))], [],
⟨[(4, .val (.list (.int .i64)))], []⟩, [],
[],
[], fun y => (valW (.list (.int .i64)) y, [], [])⟩
noncomputable def V_clus_with (w_slices_Clone_int : List Int → Option (List Int)) (w_slices_Sort_int : List Int → Option (List Int)) (N : Nat) (x : (List Int) × List Int) : Option (List Int) :=
  obind (w_slices_Clone_int x.1) fun b => cnd (decide ((List.length b + List.length x.2) * (8:Nat) ≤ (140737488355328:Nat))) (obind (w_slices_Sort_int (b ++ x.2)) fun b_1 => cnd (decide (List.length b_1 = List.length (b ++ x.2))) (some b_1) none) none
theorem q_clus_with : ∀ w_slices_Clone_int w_slices_Sort_int N x, u_clus_with.F L0 P0 (orcOf [conw_slices_Clone_int w_slices_Clone_int, conw_slices_Sort_int w_slices_Sort_int]) N x = V_clus_with w_slices_Clone_int w_slices_Sort_int N x := by intros; kernel_rfl
noncomputable def W_clus_with (N : Nat) := V_clus_with (W_slices_Clone_int N) (W_slices_Sort_int N) N
theorem con_clus_with_ok (N : Nat) : (u_clus_with.con (W_clus_with N)).ok P0 := Uf.ok mixed (q_clus_with (W_slices_Clone_int N) (W_slices_Sort_int N) N) ⟨con_slices_Clone_int_ok N, con_slices_Sort_int_ok N, trivial⟩ Try.func34 (by kernel_rfl) fun x y => by kernel_rfl
noncomputable def u_clus_fill : Uf := ⟨57, 40, Try.f57, [.val (.list (.list (.int .i64))), .val (.agg (.pair (.int .i64) (.int .i64))), .val (.list (.int .i64)), .val (.list (.int .i64)), .val (.int .i64)], [],
⟨[(10, .val (.list (.int .i64))), (11, .val (.list (.int .i64)))], []⟩, [],
[(1, .loop [] ⟨[(2, .val (.list (.int .i64))), (3, .val (.list (.int .i64))), (6, .ptr 600006 0)], [(600006, .box 82 (.val (.pair (.int .i64) (.int .i64))))]⟩ [(.exit 0, ⟨[(2, .val (.list (.int .i64))), (3, .val (.list (.int .i64)))], []⟩)])],
[], fun y => (.tup [valW (.list (.int .i64)) y.1, valW (.list (.int .i64)) y.2], [], [])⟩
noncomputable def V_clus_fill (w_clus_without : (List Int) × Int → Option (List Int)) (w_mid_Near : (List (List Int)) × Int × List Int → Option (Int)) (w_clus_with : (List Int) × List Int → Option (List Int)) (N : Nat) (x : (List (List Int)) × (Int × Int) × (List Int) × (List Int) × Int) : Option ((List Int) × List Int) :=
  obind (loopN N (fun (v : List Int × List Int × Int × Int) => cnd (decide ((↑(List.length v.1) : Int) < x.2.2.2.2)) (cnd (decide (x.2.2.2.2 <
    (↑(List.length v.2.1) : Int))) (obind (w_clus_without (v.2.1, v.2.2.2)) fun b => obind (w_mid_Near (x.1, v.2.2.1, b)) fun b => obind
    (w_clus_with (v.1, [b])) fun b_1 => obind (w_clus_without (v.2.1, b)) fun b => some (Sum.inl (b_1, b, v.2.2))) (some (Sum.inr (v.1, v.2.1))))
    (some (Sum.inr (v.1, v.2.1)))) (x.2.2.1, x.2.2.2.1, x.2.1)) fun (b : List Int × List Int) => some b
theorem q_clus_fill : ∀ w_clus_without w_mid_Near w_clus_with N x, u_clus_fill.F L0 P0 (orcOf [u_clus_without.con w_clus_without, u_mid_Near.con w_mid_Near, u_clus_with.con w_clus_with]) N x = V_clus_fill w_clus_without w_mid_Near w_clus_with N x := by intros; kernel_rfl
noncomputable def W_clus_fill (N : Nat) := V_clus_fill (W_clus_without N) (W_mid_Near N) (W_clus_with N) N
theorem con_clus_fill_ok (N : Nat) : (u_clus_fill.con (W_clus_fill N)).ok P0 := Uf.ok mixed (q_clus_fill (W_clus_without N) (W_mid_Near N) (W_clus_with N) N) ⟨con_clus_without_ok N, con_mid_Near_ok N, con_clus_with_ok N, trivial⟩ Try.func57 (by kernel_rfl) fun x y => by kernel_rfl
noncomputable def u_clus_Split : Uf := ⟨26, 85, Try.f26, [.val (.list (.list (.int .i64))), .val (.list (.int .i64)), .val (.int .i64)], [],
⟨[(6, .val (.list (.int .i64))), (7, .val (.list (.int .i64)))], []⟩, [],
[(5, .loop [23] ⟨[(6, .acc 700082), (7, .acc 700081), (8, .ptr 600008 0), (25, .val (.int .i64))], [(700082, .nrow 3 (.int .i64) true true), (700081, .nrow 3 (.int .i64) true true), (600008, .box 82 (.val (.pair (.int .i64) (.int .i64))))]⟩ [(.exit 0, ⟨[(6, .val (.list (.int .i64))), (7, .val (.list (.int .i64))), (8, .ptr 600008 0)], [(600008, .box 82 (.val (.pair (.int .i64) (.int .i64))))]⟩)])],
[], fun y => (.tup [valW (.list (.int .i64)) y.1, valW (.list (.int .i64)) y.2], [], [])⟩
noncomputable def V_clus_Split (w_clus_farthest : (List (List Int)) × List Int → Option ((Int × Int) ⊕ Unit)) (w_slices_Clone_int : List Int → Option (List Int)) (w_clus_apart : (List (List Int)) × Int × Int → Option (Int)) (w_clus_fill : (List (List Int)) × (Int × Int) × (List Int) × (List Int) × Int → Option ((List Int) × List Int)) (N : Nat) (x : (List (List Int)) × (List Int) × Int) : Option ((List Int) × List Int) :=
  obind (w_clus_farthest (x.1, x.2.1)) fun b => selim (fun (b : Int × Int) => obind (loopN N (fun (v : Int × List Int × List Int × Int × Int) => cnd
    (decide (v.1 < (↑(List.length x.2.1) : Int))) (cnd (decide ((0:Int) ≤ v.1) && decide (v.1 < (↑(List.length x.2.1) : Int))) (cnd (decide (List.getD
    x.2.1 (Int.toNat v.1) (0:Int) = v.2.2.2.1)) (cnd (decide ((List.length v.2.1 + List.length [List.getD x.2.1 (Int.toNat v.1) (0:Int)]) * (8:Nat) ≤
    (140737488355328:Nat))) (some (Sum.inl (wr .i64 (v.1 + (1:Int)), v.2.1 ++ [List.getD x.2.1 (Int.toNat v.1) (0:Int)], v.2.2))) none) (cnd (decide
    (List.getD x.2.1 (Int.toNat v.1) (0:Int) ≠ v.2.2.2.2)) (obind (w_clus_apart (x.1, List.getD x.2.1 (Int.toNat v.1) (0:Int), v.2.2.2.1)) fun b =>
    obind (w_clus_apart (x.1, List.getD x.2.1 (Int.toNat v.1) (0:Int), v.2.2.2.2)) fun b_1 => cnd (decide (b ≤ b_1)) (cnd (decide ((List.length v.2.1
    + List.length [List.getD x.2.1 (Int.toNat v.1) (0:Int)]) * (8:Nat) ≤ (140737488355328:Nat))) (some (Sum.inl (wr .i64 (v.1 + (1:Int)), v.2.1 ++
    [List.getD x.2.1 (Int.toNat v.1) (0:Int)], v.2.2))) none) (cnd (decide ((List.length v.2.2.1 + List.length [List.getD x.2.1 (Int.toNat v.1)
    (0:Int)]) * (8:Nat) ≤ (140737488355328:Nat))) (some (Sum.inl (wr .i64 (v.1 + (1:Int)), v.2.1, v.2.2.1 ++ [List.getD x.2.1 (Int.toNat v.1) (0:Int)],
    v.2.2.2))) none)) (cnd (decide ((List.length v.2.2.1 + List.length [List.getD x.2.1 (Int.toNat v.1) (0:Int)]) * (8:Nat) ≤ (140737488355328:Nat)))
    (some (Sum.inl (wr .i64 (v.1 + (1:Int)), v.2.1, v.2.2.1 ++ [List.getD x.2.1 (Int.toNat v.1) (0:Int)], v.2.2.2))) none))) none) (some (Sum.inr v.2)))
    ((0:Int), [], [], b)) fun (b : List Int × List Int × Int × Int) => obind (w_clus_fill (x.1, b.2.2, b.1, b.2.1, x.2.2)) fun b_1 => obind
    (w_clus_fill (x.1, (b.2.2.2, b.2.2.1), b_1.2, b_1.1, x.2.2)) fun b => some (b.2, b.1)) (fun (c : PUnit) => obind (w_slices_Clone_int x.2.1) fun
    b => some (b, [])) b
theorem q_clus_Split : ∀ w_clus_farthest w_slices_Clone_int w_clus_apart w_clus_fill N x, u_clus_Split.F L0 P0 (orcOf [u_clus_farthest.con w_clus_farthest, conw_slices_Clone_int w_slices_Clone_int, u_clus_apart.con w_clus_apart, u_clus_fill.con w_clus_fill]) N x = V_clus_Split w_clus_farthest w_slices_Clone_int w_clus_apart w_clus_fill N x := by intros; kernel_rfl
noncomputable def W_clus_Split (N : Nat) := V_clus_Split (W_clus_farthest N) (W_slices_Clone_int N) (W_clus_apart N) (W_clus_fill N) N
theorem con_clus_Split_ok (N : Nat) : (u_clus_Split.con (W_clus_Split N)).ok P0 := Uf.ok mixed (q_clus_Split (W_clus_farthest N) (W_slices_Clone_int N) (W_clus_apart N) (W_clus_fill N) N) ⟨con_clus_farthest_ok N, con_slices_Clone_int_ok N, con_clus_apart_ok N, con_clus_fill_ok N, trivial⟩ Try.func26 (by kernel_rfl) fun x y => by kernel_rfl
noncomputable def u_mid_Mid : Uf := ⟨37, 26, Try.f37, [.val (.list (.list (.int .i64))), .val (.list (.int .i64))], [],
⟨[(4, .val (.int .i64))], []⟩, [],
[(3, .loop [10] ⟨[(5, .val (.alt 93 (.agg .unit) (.alt1 111 (.agg (.pair (.int .i64) (.int .i64)))))), (12, .val (.int .i64))], []⟩ [(.exit 0, ⟨[(5, .val (.alt 93 (.agg .unit) (.alt1 111 (.agg (.pair (.int .i64) (.int .i64))))))], []⟩)])],
[], fun y => (valW (.int .i64) y, [], [])⟩
noncomputable def V_mid_Mid (w_mid_Far : (List (List Int)) × Int × List Int → Option (Int)) (w_mid_better : (Unit ⊕ (Int × Int)) × Int × Int → Option (Int × Int)) (w_mid_who : Unit ⊕ (Int × Int) → Option (Int)) (N : Nat) (x : (List (List Int)) × List Int) : Option (Int) :=
  obind (loopN N (fun (v : (PUnit ⊕ Int × Int) × Int) => cnd (decide (v.2 < (↑(List.length x.2) : Int))) (cnd (decide ((0:Int) ≤ v.2) && decide (v.2 <
    (↑(List.length x.2) : Int))) (obind (w_mid_Far (x.1, List.getD x.2 (Int.toNat v.2) (0:Int), x.2)) fun b => obind (w_mid_better (v.1, List.getD
    x.2 (Int.toNat v.2) (0:Int), b)) fun b => some (Sum.inl (Sum.inr b, wr .i64 (v.2 + (1:Int))))) none) (some (Sum.inr v.1))) (Sum.inl (), (0:Int)))
    fun (b : PUnit ⊕ Int × Int) => obind (w_mid_who b) fun b => some b
theorem q_mid_Mid : ∀ w_mid_Far w_mid_better w_mid_who N x, u_mid_Mid.F L0 P0 (orcOf [u_mid_Far.con w_mid_Far, u_mid_better.con w_mid_better, u_mid_who.con w_mid_who]) N x = V_mid_Mid w_mid_Far w_mid_better w_mid_who N x := by intros; kernel_rfl
noncomputable def W_mid_Mid (N : Nat) := V_mid_Mid (W_mid_Far N) (W_mid_better N) (W_mid_who N) N
theorem con_mid_Mid_ok (N : Nat) : (u_mid_Mid.con (W_mid_Mid N)).ok P0 := Uf.ok mixed (q_mid_Mid (W_mid_Far N) (W_mid_better N) (W_mid_who N) N) ⟨con_mid_Far_ok N, con_mid_better_ok N, con_mid_who_ok N, trivial⟩ Try.func37 (by kernel_rfl) fun x y => by kernel_rfl
noncomputable def u_clus_Of : Uf := ⟨28, 11, Try.f28, [.val (.list (.list (.int .i64))), .val (.list (.int .i64))], [],
⟨[(4, .ptr 600004 0)], [(600004, .box 36 (.val (.pair (.list (.int .i64)) (.int .i64))))]⟩, [],
[],
[], fun y => (valW (.agg (.pair (.list (.int .i64)) (.int .i64))) y, [], [])⟩
noncomputable def V_clus_Of (w_slices_Clone_int : List Int → Option (List Int)) (w_mid_Mid : (List (List Int)) × List Int → Option (Int)) (N : Nat) (x : (List (List Int)) × List Int) : Option ((List Int) × Int) :=
  obind (w_slices_Clone_int x.2) fun b => obind (w_mid_Mid x) fun b_1 => some (b, b_1)
theorem q_clus_Of : ∀ w_slices_Clone_int w_mid_Mid N x, u_clus_Of.F L0 P0 (orcOf [conw_slices_Clone_int w_slices_Clone_int, u_mid_Mid.con w_mid_Mid]) N x = V_clus_Of w_slices_Clone_int w_mid_Mid N x := by intros; kernel_rfl
noncomputable def W_clus_Of (N : Nat) := V_clus_Of (W_slices_Clone_int N) (W_mid_Mid N) N
theorem con_clus_Of_ok (N : Nat) : (u_clus_Of.con (W_clus_Of N)).ok P0 := Uf.ok mixed (q_clus_Of (W_slices_Clone_int N) (W_mid_Mid N) N) ⟨con_slices_Clone_int_ok N, con_mid_Mid_ok N, trivial⟩ Try.func28 (by kernel_rfl) fun x y => by kernel_rfl
noncomputable def u_clus_fitted : Uf := ⟨33, 40, Try.f33, [.val (.list (.list (.int .i64))), .val (.list (.int .i64)), .val (.int .i64)], [],
⟨[(6, .acc 700039)], [(700039, .nrow 36 (.agg (.pair (.list (.int .i64)) (.int .i64))) false true)]⟩, [],
[],
[], fun y => (.acc 2000000 0, [], [.nrow 36 false true ⟨(.agg (.pair (.list (.int .i64)) (.int .i64))), y⟩])⟩
noncomputable def V_clus_fitted (w_clus_Of : (List (List Int)) × List Int → Option ((List Int) × Int)) (w_clus_Split : (List (List Int)) × (List Int) × Int → Option ((List Int) × List Int)) (N : Nat) (x : (List (List Int)) × (List Int) × Int) : Option (List ((List Int) × Int)) :=
  cnd (decide ((↑(List.length x.2.1) : Int) ≤ wr .i64 (wr .i64 ((3:Int) * x.2.2) - (1:Int)))) (obind (w_clus_Of (x.1, x.2.1)) fun b => some [b])
    (obind (w_clus_Split x) fun b => cnd (decide ((↑(List.length b.2) : Int) = (0:Int))) (obind (w_clus_Of (x.1, b.1)) fun b => some [b]) (obind
    (w_clus_Of (x.1, b.1)) fun b_1 => obind (w_clus_Of (x.1, b.2)) fun b => some [b_1, b]))
theorem q_clus_fitted : ∀ w_clus_Of w_clus_Split N x, u_clus_fitted.F L0 P0 (orcOf [u_clus_Of.con w_clus_Of, u_clus_Split.con w_clus_Split]) N x = V_clus_fitted w_clus_Of w_clus_Split N x := by intros; kernel_rfl
noncomputable def W_clus_fitted (N : Nat) := V_clus_fitted (W_clus_Of N) (W_clus_Split N) N
theorem con_clus_fitted_ok (N : Nat) : (u_clus_fitted.con (W_clus_fitted N)).ok P0 := Uf.ok mixed (q_clus_fitted (W_clus_Of N) (W_clus_Split N) N) ⟨con_clus_Of_ok N, con_clus_Split_ok N, trivial⟩ Try.func33 (by kernel_rfl) fun x y => by kernel_rfl
def as_clus_Group : List AS := [.val (.list (.list (.int .i64))), .val (.list (.int .i64)), .val (.int .i64)]
def bs_clus_Group : List BS := []
def out_clus_Group (y : List ((List Int) × Int)) : V × List OK × List OK := (.acc 2000000 0, [], [.nrow 36 true true ⟨(.agg (.pair (.list (.int .i64)) (.int .i64))), y⟩])
noncomputable def conw_clus_Group (w : (List (List Int)) × (List Int) × Int → Option (List ((List Int) × Int))) : Con := ⟨27, as_clus_Group, bs_clus_Group, List ((List Int) × Int), w, out_clus_Group⟩
def pout_clus_Group : Pat := ⟨[(6, .acc 700025)], [(700025, .nrow 36 (.agg (.pair (.list (.int .i64)) (.int .i64))) true true)]⟩
noncomputable def G_clus_Group (w_clus_fitted : (List (List Int)) × (List Int) × Int → Option (List ((List Int) × Int))) (w_clus_Group : (List (List Int)) × (List Int) × Int → Option (List ((List Int) × Int))) (N : Nat) : OrcT := orcOf [u_clus_fitted.con w_clus_fitted, conw_clus_Group w_clus_Group]
noncomputable def F_clus_Group (w_clus_fitted : (List (List Int)) × (List Int) × Int → Option (List ((List Int) × Int))) (w_clus_Group : (List (List Int)) × (List Int) × Int → Option (List ((List Int) × Int))) (N : Nat) (x : (List (List Int)) × (List Int) × Int) : Option (List ((List Int) × Int)) :=
  (evT (G_clus_Group w_clus_fitted w_clus_Group N) L0 P0 []
    [] N 400 (bodyOf Try.f27) ⟨34, slots 0 (argsOf as_clus_Group bs_clus_Group x), tabU (lbOf as_clus_Group bs_clus_Group x) [], []⟩).elim (kRet 34 pout_clus_Group (kpL []) (lbOf as_clus_Group bs_clus_Group x))
noncomputable def V_clus_Group (w_clus_fitted : (List (List Int)) × (List Int) × Int → Option (List ((List Int) × Int))) (w_clus_Group : (List (List Int)) × (List Int) × Int → Option (List ((List Int) × Int))) (N : Nat) (x : (List (List Int)) × (List Int) × Int) : Option (List ((List Int) × Int)) :=
  cnd (decide ((↑(List.length x.2.1) : Int) = (0:Int))) (some []) (obind (w_clus_fitted x) fun b => cnd (decide ((↑(List.length b) : Int) = (1:Int)))
    (some b) (cnd (decide ((0:Int) ≤ (0:Int)) && decide ((0:Int) < (↑(List.length b) : Int))) (obind (w_clus_Group (x.1, Prod.fst (List.getD b (0:Nat)
    ([], (0:Int))), x.2.2)) fun b_1 => cnd (decide ((0:Int) ≤ (1:Int)) && decide ((1:Int) < (↑(List.length b) : Int))) (obind (w_clus_Group (x.1,
    Prod.fst (List.getD b (1:Nat) ([], (0:Int))), x.2.2)) fun b => cnd (decide ((List.length b_1 + List.length b) * (32:Nat) ≤ (140737488355328:Nat)))
    (some (b_1 ++ b)) none) none) none))
theorem FV_clus_Group_eq (w_clus_fitted : (List (List Int)) × (List Int) × Int → Option (List ((List Int) × Int))) (w_clus_Group : (List (List Int)) × (List Int) × Int → Option (List ((List Int) × Int))) (N : Nat) (x : (List (List Int)) × (List Int) × Int) : F_clus_Group w_clus_fitted w_clus_Group N x = V_clus_Group w_clus_fitted w_clus_Group N x := by kernel_rfl
noncomputable def WR_clus_Group (N : Nat) : Nat → ((List (List Int)) × (List Int) × Int) → Option (List ((List Int) × Int)) := fun m => Nat.rec (motive := fun _ => ((List (List Int)) × (List Int) × Int) → Option (List ((List Int) × Int))) (fun _ => none) (fun _ w_clus_Group x =>
  cnd (decide ((↑(List.length x.2.1) : Int) = (0:Int))) (some []) (obind (W_clus_fitted N x) fun b => cnd (decide ((↑(List.length b) : Int) = (1:Int)))
    (some b) (cnd (decide ((0:Int) ≤ (0:Int)) && decide ((0:Int) < (↑(List.length b) : Int))) (obind (w_clus_Group (x.1, Prod.fst (List.getD b (0:Nat)
    ([], (0:Int))), x.2.2)) fun b_1 => cnd (decide ((0:Int) ≤ (1:Int)) && decide ((1:Int) < (↑(List.length b) : Int))) (obind (w_clus_Group (x.1,
    Prod.fst (List.getD b (1:Nat) ([], (0:Int))), x.2.2)) fun b => cnd (decide ((List.length b_1 + List.length b) * (32:Nat) ≤ (140737488355328:Nat)))
    (some (b_1 ++ b)) none) none) none))) m
noncomputable def W_clus_Group (N : Nat) (x : (List (List Int)) × (List Int) × Int) : Option (List ((List Int) × Int)) := WR_clus_Group N N x
theorem F_clus_Group_eq (N m : Nat) (x : (List (List Int)) × (List Int) × Int) : F_clus_Group (W_clus_fitted N) (WR_clus_Group N m) N x = WR_clus_Group N (m + 1) x := (FV_clus_Group_eq (W_clus_fitted N) (WR_clus_Group N m) N x).trans (by kernel_rfl)
noncomputable def con_clus_Group (N : Nat) : Con := conw_clus_Group (W_clus_Group N)
theorem R_clus_Group_eq (x : (List (List Int)) × (List Int) × Int) (y : List ((List Int) × Int)) : retOf2 P0 Try.f27 (kpL []) (lbOf as_clus_Group bs_clus_Group x) (patS ⟨34, [], [], []⟩ pout_clus_Group y) = some (out_clus_Group y) := by kernel_rfl
theorem con_clus_Group_okR (N : Nat) : ∀ m, Con.ok P0 (conw_clus_Group (WR_clus_Group N m))
  | 0 => ⟨⟨Try.f27, Try.func27, by kernel_rfl, by kernel_rfl⟩, fun (x : (List (List Int)) × (List Int) × Int) (r : List ((List Int) × Int)) (hr : (none : Option (List ((List Int) × Int))) = some r) => by cases hr⟩
  | m + 1 => ⟨⟨Try.f27, Try.func27, by kernel_rfl, by kernel_rfl⟩, fun (x : (List (List Int)) × (List Int) × Int) (r : List ((List Int) × Int)) (hr : WR_clus_Group N (m + 1) x = some r) =>
    spec2_evT (Γ := G_clus_Group (W_clus_fitted N) (WR_clus_Group N m) N) (Λ := L0) (pout := pout_clus_Group) (kp := kpL []) mixed (orcOf_ok _ (by simp only [List.mem_cons, List.not_mem_nil, or_false, forall_eq_or_imp, forall_eq]; exact ⟨con_clus_fitted_ok N, con_clus_Group_okR N m⟩)) Try.func27 (c := bodyOf Try.f27) (by kernel_rfl) (by kernel_rfl) (of_decide_eq_true (by kernel_rfl)) ((F_clus_Group_eq N m x).trans hr) (R_clus_Group_eq x r)⟩
theorem con_clus_Group_ok (N : Nat) : Con.ok P0 (con_clus_Group N) := con_clus_Group_okR N N
noncomputable def u_slices_Index_int : Uf := ⟨82, 19, Try.f82, [.val (.list (.int .i64)), .val (.int .i64)], [],
⟨[(4, .val (.int .i64))], []⟩, [],
[(2, .loop [] ⟨[(8, .val (.int .i64))], []⟩ [(.exit 0, ⟨[], []⟩), (.ret, ⟨[(4, .val (.int .i64))], []⟩)])],
[], fun y => (valW (.int .i64) y, [], [])⟩
noncomputable def V_slices_Index_int (N : Nat) (x : (List Int) × Int) : Option (Int) :=
  obind (loopN N (fun (v : Int) => cnd (decide (v < (↑(List.length x.1) : Int))) (cnd (decide ((0:Int) ≤ v) && decide (v < (↑(List.length x.1) : Int)))
    (cnd (decide (x.2 = List.getD x.1 (Int.toNat v) (0:Int))) (some (Sum.inr (Sum.inr v))) (some (Sum.inl (wr .i64 (v + (1:Int)))))) none) (some
    (Sum.inr (Sum.inl ())))) (Int.ofNat (0:Nat))) fun (b : PUnit ⊕ Int) => selim (fun (b : PUnit) => some (-1 : Int)) (fun (c : Int) => some c) b
theorem q_slices_Index_int : ∀ N x, u_slices_Index_int.F L0 P0 (orcOf []) N x = V_slices_Index_int N x := by intros; kernel_rfl
noncomputable def W_slices_Index_int (N : Nat) := V_slices_Index_int N
theorem con_slices_Index_int_ok (N : Nat) : (u_slices_Index_int.con (W_slices_Index_int N)).ok P0 := Uf.ok mixed (q_slices_Index_int N) trivial Try.func82 (by kernel_rfl) fun x y => by kernel_rfl
noncomputable def u_slices_Contains_int : Uf := ⟨58, 9, Try.f58, [.val (.list (.int .i64)), .val (.int .i64)], [],
⟨[(4, .val .bool)], []⟩, [],
[],
[], fun y => (valW .bool y, [], [])⟩
noncomputable def V_slices_Contains_int (w_slices_Index_int : (List Int) × Int → Option (Int)) (N : Nat) (x : (List Int) × Int) : Option (Bool) :=
  obind (w_slices_Index_int x) fun b => some (decide ((0:Int) ≤ b))
theorem q_slices_Contains_int : ∀ w_slices_Index_int N x, u_slices_Contains_int.F L0 P0 (orcOf [u_slices_Index_int.con w_slices_Index_int]) N x = V_slices_Contains_int w_slices_Index_int N x := by intros; kernel_rfl
noncomputable def W_slices_Contains_int (N : Nat) := V_slices_Contains_int (W_slices_Index_int N) N
theorem con_slices_Contains_int_ok (N : Nat) : (u_slices_Contains_int.con (W_slices_Contains_int N)).ok P0 := Uf.ok mixed (q_slices_Contains_int (W_slices_Index_int N) N) ⟨con_slices_Index_int_ok N, trivial⟩ Try.func58 (by kernel_rfl) fun x y => by kernel_rfl
noncomputable def u_clus_find : Uf := ⟨30, 24, Try.f30, [.val (.list (.agg (.pair (.list (.int .i64)) (.int .i64)))), .val (.int .i64)], [],
⟨[(4, .val (.alt 61 (.agg (.int .i64)) (.alt1 89 (.agg .unit))))], []⟩, [],
[(2, .loop [7] ⟨[(9, .val (.int .i64))], []⟩ [(.exit 0, ⟨[], []⟩), (.ret, ⟨[(4, .val (.alt 61 (.agg (.int .i64)) (.alt1 89 (.agg .unit))))], []⟩)])],
[], fun y => (valW (.alt 61 (.agg (.int .i64)) (.alt1 89 (.agg .unit))) y, [], [])⟩
noncomputable def V_clus_find (w_slices_Contains_int : (List Int) × Int → Option (Bool)) (N : Nat) (x : (List ((List Int) × Int)) × Int) : Option (Int ⊕ Unit) :=
  obind (loopN N (fun (v : Int) => cnd (decide (v < (↑(List.length x.1) : Int))) (cnd (decide ((0:Int) ≤ v) && decide (v < (↑(List.length x.1) : Int)))
    (obind (w_slices_Contains_int (Prod.fst (List.getD x.1 (Int.toNat v) ([], (0:Int))), x.2)) fun b => cnd b (some (Sum.inr (Sum.inr (Sum.inl v))))
    (some (Sum.inl (wr .i64 (v + (1:Int)))))) none) (some (Sum.inr (Sum.inl ())))) (Int.ofNat (0:Nat))) fun (b : PUnit ⊕ Int ⊕ PUnit) => selim (fun (b :
    PUnit) => some (Sum.inr ())) (fun (c : Int ⊕ PUnit) => some c) b
theorem q_clus_find : ∀ w_slices_Contains_int N x, u_clus_find.F L0 P0 (orcOf [u_slices_Contains_int.con w_slices_Contains_int]) N x = V_clus_find w_slices_Contains_int N x := by intros; kernel_rfl
noncomputable def W_clus_find (N : Nat) := V_clus_find (W_slices_Contains_int N) N
theorem con_clus_find_ok (N : Nat) : (u_clus_find.con (W_clus_find N)).ok P0 := Uf.ok mixed (q_clus_find (W_slices_Contains_int N) N) ⟨con_slices_Contains_int_ok N, trivial⟩ Try.func30 (by kernel_rfl) fun x y => by kernel_rfl
def as_slices_Clone_api_Cluster : List AS := [.val (.list (.agg (.pair (.list (.int .i64)) (.int .i64))))]
def bs_slices_Clone_api_Cluster : List BS := []
def pout_slices_Clone_api_Cluster : Pat := ⟨[(2, .acc 700005)], [(700005, .nrow 36 (.agg (.pair (.list (.int .i64)) (.int .i64))) false true)]⟩
noncomputable def G_slices_Clone_api_Cluster  (N : Nat) : OrcT := orcOf []
noncomputable def F_slices_Clone_api_Cluster  (N : Nat) (x : List ((List Int) × Int)) : Option (List ((List Int) × Int)) :=
  (evT (G_slices_Clone_api_Cluster  N) L0 P0 []
    [] N 400 (bodyOf Try.f59) ⟨8, slots 0 [.nl ⟨(.agg (.pair (.list (.int .i64)) (.int .i64))), x⟩], tabU (lbOf as_slices_Clone_api_Cluster bs_slices_Clone_api_Cluster x) [], []⟩).elim (kRet 8 pout_slices_Clone_api_Cluster (kpL []) (lbOf as_slices_Clone_api_Cluster bs_slices_Clone_api_Cluster x))
def out_slices_Clone_api_Cluster (y : List ((List Int) × Int)) : V × List OK × List OK := (.acc 2000000 0, [], [.nrow 36 false true ⟨(.agg (.pair (.list (.int .i64)) (.int .i64))), y⟩])
noncomputable def V_slices_Clone_api_Cluster  (N : Nat) (x : List ((List Int) × Int)) : Option (List ((List Int) × Int)) :=
  cnd (decide (List.length x * (32:Nat) ≤ (140737488355328:Nat))) (some x) none
theorem FV_slices_Clone_api_Cluster_eq  (N : Nat) (x : List ((List Int) × Int)) : F_slices_Clone_api_Cluster  N x = V_slices_Clone_api_Cluster  N x := by kernel_rfl
noncomputable def W_slices_Clone_api_Cluster (N : Nat) (x : List ((List Int) × Int)) : Option (List ((List Int) × Int)) := V_slices_Clone_api_Cluster  N x
theorem F_slices_Clone_api_Cluster_eq (N : Nat) (x : List ((List Int) × Int)) : F_slices_Clone_api_Cluster  N x = W_slices_Clone_api_Cluster N x := (FV_slices_Clone_api_Cluster_eq  N x).trans (by kernel_rfl)
noncomputable def conw_slices_Clone_api_Cluster (w : List ((List Int) × Int) → Option (List ((List Int) × Int))) : Con := ⟨59, as_slices_Clone_api_Cluster, bs_slices_Clone_api_Cluster, List ((List Int) × Int), w, out_slices_Clone_api_Cluster⟩
noncomputable def con_slices_Clone_api_Cluster (N : Nat) : Con := conw_slices_Clone_api_Cluster (W_slices_Clone_api_Cluster N)
theorem R_slices_Clone_api_Cluster_eq (x : List ((List Int) × Int)) (y : List ((List Int) × Int)) : retOf2 P0 Try.f59 (kpL []) (lbOf as_slices_Clone_api_Cluster bs_slices_Clone_api_Cluster x) (patS ⟨8, [], [], []⟩ pout_slices_Clone_api_Cluster y) = some (out_slices_Clone_api_Cluster y) := by kernel_rfl
noncomputable def FA_slices_Clone_api_Cluster : Option (List ((List Int) × Int)) := (evT (G_slices_Clone_api_Cluster 1) L0 P0 [] [] 1 400 (bodyOf Try.f59) ⟨8, slots 0 [.snil], tabU [] [], []⟩).elim (kRet 8 pout_slices_Clone_api_Cluster (kpL []) [])
theorem FA_slices_Clone_api_Cluster_eq : FA_slices_Clone_api_Cluster = some [] := by kernel_rfl
theorem WN_slices_Clone_api_Cluster (N : Nat) (r : List ((List Int) × Int)) (h : W_slices_Clone_api_Cluster N [] = some r) : r = [] := by
  have e : W_slices_Clone_api_Cluster N [] = some [] := by kernel_rfl
  rw [e] at h; injection h with h; exact h.symm
theorem con_slices_Clone_api_Cluster_ok (N : Nat) : Con.ok P0 (con_slices_Clone_api_Cluster N) := ⟨⟨Try.f59, Try.func59, by kernel_rfl, by kernel_rfl⟩, fun (x : List ((List Int) × Int)) (r : List ((List Int) × Int)) (hr : W_slices_Clone_api_Cluster N x = some r) =>
  clone_split (e := (.agg (.pair (.list (.int .i64)) (.int .i64)))) (ty := 36) (l := x) (r := r)
    (spec2_evT (Γ := G_slices_Clone_api_Cluster 1) (Λ := L0) (lb := []) (pout := pout_slices_Clone_api_Cluster) (kp := kpL []) mixed (orcOf_ok [] (by simp)) Try.func59 (c := bodyOf Try.f59) (by kernel_rfl) (by kernel_rfl) (of_decide_eq_true (by kernel_rfl)) FA_slices_Clone_api_Cluster_eq (R_slices_Clone_api_Cluster_eq x []))
    (spec2_evT (Γ := G_slices_Clone_api_Cluster N) (Λ := L0) (lb := []) (pout := pout_slices_Clone_api_Cluster) (kp := kpL []) mixed (orcOf_ok [] (by simp)) Try.func59 (c := bodyOf Try.f59) (by kernel_rfl) (by kernel_rfl) (of_decide_eq_true (by kernel_rfl)) ((F_slices_Clone_api_Cluster_eq N x).trans hr) (R_slices_Clone_api_Cluster_eq x r))
    (fun h => by subst h; exact WN_slices_Clone_api_Cluster N r hr)⟩
noncomputable def u_twin_Clusters : Uf := ⟨31, 24, Try.f31, [.val (.list (.agg (.pair (.list (.int .i64)) (.int .i64))))], [],
⟨[(2, .val (.list (.agg (.pair (.list (.int .i64)) (.int .i64)))))], []⟩, [],
[(3, .loop [] ⟨[(3, .acc 700006), (9, .val (.int .i64))], [(700006, .nrow 36 (.agg (.pair (.list (.int .i64)) (.int .i64))) false true)]⟩ [(.exit 0, ⟨[(3, .val (.list (.agg (.pair (.list (.int .i64)) (.int .i64)))))], []⟩)])],
[], fun y => (valW (.list (.agg (.pair (.list (.int .i64)) (.int .i64)))) y, [], [])⟩
noncomputable def V_twin_Clusters (w_slices_Clone_api_Cluster : List ((List Int) × Int) → Option (List ((List Int) × Int))) (w_slices_Clone_int : List Int → Option (List Int)) (N : Nat) (x : List ((List Int) × Int)) : Option (List ((List Int) × Int)) :=
  obind (w_slices_Clone_api_Cluster x) fun b => obind (loopN N (fun (v : Int × List (List Int × Int)) => cnd (decide (v.1 < (↑(List.length b) : Int)))
    (cnd (decide ((0:Int) ≤ v.1) && decide (v.1 < (↑(List.length v.2) : Int))) (obind (w_slices_Clone_int (Prod.fst (List.getD v.2 (Int.toNat v.1)
    ([], (0:Int))))) fun b => cnd (decide ((0:Int) ≤ v.1) && decide (v.1 < (↑(List.length v.2) : Int))) (some (Sum.inl (wr .i64 (v.1 + (1:Int)), putL
    v.2 [(b, Prod.snd (List.getD v.2 (Int.toNat v.1) ([], (0:Int))))] (Int.toNat v.1)))) none) none) (some (Sum.inr v.2))) ((0:Int), b)) fun (b : List
    (List Int × Int)) => some b
theorem q_twin_Clusters : ∀ w_slices_Clone_api_Cluster w_slices_Clone_int N x, u_twin_Clusters.F L0 P0 (orcOf [conw_slices_Clone_api_Cluster w_slices_Clone_api_Cluster, conw_slices_Clone_int w_slices_Clone_int]) N x = V_twin_Clusters w_slices_Clone_api_Cluster w_slices_Clone_int N x := by intros; kernel_rfl
noncomputable def W_twin_Clusters (N : Nat) := V_twin_Clusters (W_slices_Clone_api_Cluster N) (W_slices_Clone_int N) N
theorem con_twin_Clusters_ok (N : Nat) : (u_twin_Clusters.con (W_twin_Clusters N)).ok P0 := Uf.ok mixed (q_twin_Clusters (W_slices_Clone_api_Cluster N) (W_slices_Clone_int N) N) ⟨con_slices_Clone_api_Cluster_ok N, con_slices_Clone_int_ok N, trivial⟩ Try.func31 (by kernel_rfl) fun x y => by kernel_rfl
noncomputable def u_clus_replace : Uf := ⟨32, 40, Try.f32, [.val (.list (.list (.int .i64))), .val (.list (.agg (.pair (.list (.int .i64)) (.int .i64)))), .val (.int .i64), .val (.int .i64), .val (.list (.agg (.pair (.list (.int .i64)) (.int .i64))))], [],
⟨[(10, .val (.list (.agg (.pair (.list (.int .i64)) (.int .i64)))))], []⟩, [],
[(3, .loop [14] ⟨[(11, .acc 700011), (16, .val (.int .i64))], [(700011, .nrow 36 (.agg (.pair (.list (.int .i64)) (.int .i64))) true true)]⟩ [(.exit 0, ⟨[(11, .val (.list (.agg (.pair (.list (.int .i64)) (.int .i64)))))], []⟩)])],
[], fun y => (valW (.list (.agg (.pair (.list (.int .i64)) (.int .i64)))) y, [], [])⟩
noncomputable def V_clus_replace (w_clus_Of : (List (List Int)) × List Int → Option ((List Int) × Int)) (N : Nat) (x : (List (List Int)) × (List ((List Int) × Int)) × Int × Int × List ((List Int) × Int)) : Option (List ((List Int) × Int)) :=
  obind (loopN N (fun (v : Int × List (List Int × Int)) => cnd (decide (v.1 < (↑(List.length x.2.1) : Int))) (cnd (decide ((0:Int) ≤ v.1) && decide (v.1
    < (↑(List.length x.2.1) : Int))) (cnd (decide (v.1 = x.2.2.1)) (cnd (decide ((List.length v.2 + List.length x.2.2.2.2) * (32:Nat) ≤
    (140737488355328:Nat))) (some (Sum.inl (wr .i64 (v.1 + (1:Int)), v.2 ++ x.2.2.2.2))) none) (cnd (decide (v.1 = x.2.2.2.1)) (some (Sum.inl (wr .i64
    (v.1 + (1:Int)), v.2))) (obind (w_clus_Of (x.1, Prod.fst (List.getD x.2.1 (Int.toNat v.1) ([], (0:Int))))) fun b => cnd (decide ((List.length v.2
    + List.length [b]) * (32:Nat) ≤ (140737488355328:Nat))) (some (Sum.inl (wr .i64 (v.1 + (1:Int)), v.2 ++ [b]))) none))) none) (some (Sum.inr v.2)))
    ((0:Int), [])) fun (b : List (List Int × Int)) => some b
theorem q_clus_replace : ∀ w_clus_Of N x, u_clus_replace.F L0 P0 (orcOf [u_clus_Of.con w_clus_Of]) N x = V_clus_replace w_clus_Of N x := by intros; kernel_rfl
noncomputable def W_clus_replace (N : Nat) := V_clus_replace (W_clus_Of N) N
theorem con_clus_replace_ok (N : Nat) : (u_clus_replace.con (W_clus_replace N)).ok P0 := Uf.ok mixed (q_clus_replace (W_clus_Of N) N) ⟨con_clus_Of_ok N, trivial⟩ Try.func32 (by kernel_rfl) fun x y => by kernel_rfl
noncomputable def u_clus_Join : Uf := ⟨11, 57, Try.f11, [.val (.list (.list (.int .i64))), .val (.list (.agg (.pair (.list (.int .i64)) (.int .i64)))), .val (.int .i64), .val (.int .i64), .val (.int .i64)], [],
⟨[(10, .val (.list (.agg (.pair (.list (.int .i64)) (.int .i64)))))], []⟩, [],
[],
[(1000004, .reg [(5, [], ⟨[(32, .val .bool)], []⟩)])], fun y => (valW (.list (.agg (.pair (.list (.int .i64)) (.int .i64)))) y, [], [])⟩
noncomputable def V_clus_Join (w_clus_Of : (List (List Int)) × List Int → Option ((List Int) × Int)) (w_clus_find : (List ((List Int) × Int)) × Int → Option (Int ⊕ Unit)) (w_twin_Clusters : List ((List Int) × Int) → Option (List ((List Int) × Int))) (w_clus_with : (List Int) × List Int → Option (List Int)) (w_clus_fitted : (List (List Int)) × (List Int) × Int → Option (List ((List Int) × Int))) (w_clus_replace : (List (List Int)) × (List ((List Int) × Int)) × Int × Int × List ((List Int) × Int) → Option (List ((List Int) × Int))) (N : Nat) (x : (List (List Int)) × (List ((List Int) × Int)) × Int × Int × Int) : Option (List ((List Int) × Int)) :=
  cnd (decide ((↑(List.length x.2.1) : Int) = (0:Int))) (obind (w_clus_Of (x.1, [x.2.2.2.1])) fun b => some [b]) (obind (w_clus_find (x.2.1,
    x.2.2.2.1)) fun b => selim (fun (b : Int) => obind (w_twin_Clusters x.2.1) fun b => some b) (fun (c : PUnit) => cnd (decide (x.2.2.1 < (0:Int)))
    (obind (w_twin_Clusters x.2.1) fun b => some b) (cnd (decide ((↑(List.length x.2.1) : Int) ≤ x.2.2.1)) (obind (w_twin_Clusters x.2.1) fun b =>
    some b) (cnd (decide ((0:Int) ≤ x.2.2.1) && decide (x.2.2.1 < (↑(List.length x.2.1) : Int))) (obind (w_clus_with (Prod.fst (List.getD x.2.1
    (Int.toNat x.2.2.1) ([], (0:Int))), [x.2.2.2.1])) fun b => obind (w_clus_fitted (x.1, b, x.2.2.2.2)) fun b => obind (w_clus_replace (x.1, x.2.1,
    x.2.2.1, x.2.2.1, b)) fun b => some b) none))) b)
theorem q_clus_Join : ∀ w_clus_Of w_clus_find w_twin_Clusters w_clus_with w_clus_fitted w_clus_replace N x, u_clus_Join.F L0 P0 (orcOf [u_clus_Of.con w_clus_Of, u_clus_find.con w_clus_find, u_twin_Clusters.con w_twin_Clusters, u_clus_with.con w_clus_with, u_clus_fitted.con w_clus_fitted, u_clus_replace.con w_clus_replace]) N x = V_clus_Join w_clus_Of w_clus_find w_twin_Clusters w_clus_with w_clus_fitted w_clus_replace N x := by intros; kernel_rfl
noncomputable def W_clus_Join (N : Nat) := V_clus_Join (W_clus_Of N) (W_clus_find N) (W_twin_Clusters N) (W_clus_with N) (W_clus_fitted N) (W_clus_replace N) N
theorem con_clus_Join_ok (N : Nat) : (u_clus_Join.con (W_clus_Join N)).ok P0 := Uf.ok mixed (q_clus_Join (W_clus_Of N) (W_clus_find N) (W_twin_Clusters N) (W_clus_with N) (W_clus_fitted N) (W_clus_replace N) N) ⟨con_clus_Of_ok N, con_clus_find_ok N, con_twin_Clusters_ok N, con_clus_with_ok N, con_clus_fitted_ok N, con_clus_replace_ok N, trivial⟩ Try.func11 (by kernel_rfl) fun x y => by kernel_rfl
noncomputable def u_clus_nearest : Uf := ⟨36, 57, Try.f36, [.val (.list (.list (.int .i64))), .val (.list (.agg (.pair (.list (.int .i64)) (.int .i64)))), .val (.int .i64), .val (.int .i64)], [],
⟨[(8, .val (.alt 61 (.agg (.int .i64)) (.alt1 89 (.agg .unit))))], []⟩, [],
[(3, .loop [15] ⟨[(9, .acc 700009), (17, .val (.int .i64))], [(700009, .nrow 3 (.int .i64) true true)]⟩ [(.exit 0, ⟨[(9, .val (.list (.int .i64)))], []⟩)]),
(10, .loop [35] ⟨[(37, .val (.int .i64))], []⟩ [(.exit 2, ⟨[], []⟩), (.ret, ⟨[(8, .val (.alt 61 (.agg (.int .i64)) (.alt1 89 (.agg .unit))))], []⟩)])],
[], fun y => (valW (.alt 61 (.agg (.int .i64)) (.alt1 89 (.agg .unit))) y, [], [])⟩
noncomputable def V_clus_nearest (w_mid_Near : (List (List Int)) × Int × List Int → Option (Int)) (N : Nat) (x : (List (List Int)) × (List ((List Int) × Int)) × Int × Int) : Option (Int ⊕ Unit) :=
  obind (loopN N (fun (v : Int × List Int) => cnd (decide (v.1 < (↑(List.length x.2.1) : Int))) (cnd (decide ((0:Int) ≤ v.1) && decide (v.1 <
    (↑(List.length x.2.1) : Int))) (cnd (decide (v.1 ≠ x.2.2.1)) (cnd (decide ((List.length v.2 + (1:Nat)) * (8:Nat) ≤ (140737488355328:Nat))) (some
    (Sum.inl (wr .i64 (v.1 + (1:Int)), v.2 ++ [Prod.snd (List.getD x.2.1 (Int.toNat v.1) ([], (0:Int)))]))) none) (some (Sum.inl (wr .i64 (v.1 +
    (1:Int)), v.2)))) none) (some (Sum.inr v.2))) ((0:Int), [])) fun (b : List Int) => obind (w_mid_Near (x.1, x.2.2.2, b)) fun b => obind (loopN N
    (fun (v : Int) => cnd (decide (v < (↑(List.length x.2.1) : Int))) (cnd (decide ((0:Int) ≤ v) && decide (v < (↑(List.length x.2.1) : Int))) (cnd
    (decide (v ≠ x.2.2.1)) (cnd (decide (Prod.snd (List.getD x.2.1 (Int.toNat v) ([], (0:Int))) = b)) (some (Sum.inr (Sum.inr (Sum.inl v)))) (some
    (Sum.inl (wr .i64 (v + (1:Int)))))) (some (Sum.inl (wr .i64 (v + (1:Int)))))) none) (some (Sum.inr (Sum.inl ())))) (Int.ofNat (0:Nat))) fun (b :
    PUnit ⊕ Int ⊕ PUnit) => selim (fun (b : PUnit) => some (Sum.inr ())) (fun (c : Int ⊕ PUnit) => some c) b
theorem q_clus_nearest : ∀ w_mid_Near N x, u_clus_nearest.F L0 P0 (orcOf [u_mid_Near.con w_mid_Near]) N x = V_clus_nearest w_mid_Near N x := by intros; kernel_rfl
noncomputable def W_clus_nearest (N : Nat) := V_clus_nearest (W_mid_Near N) N
theorem con_clus_nearest_ok (N : Nat) : (u_clus_nearest.con (W_clus_nearest N)).ok P0 := Uf.ok mixed (q_clus_nearest (W_mid_Near N) N) ⟨con_mid_Near_ok N, trivial⟩ Try.func36 (by kernel_rfl) fun x y => by kernel_rfl
noncomputable def u_clus_Leave : Uf := ⟨12, 91, Try.f12, [.val (.list (.list (.int .i64))), .val (.list (.agg (.pair (.list (.int .i64)) (.int .i64)))), .val (.int .i64), .val (.int .i64)], [],
⟨[(8, .val (.list (.agg (.pair (.list (.int .i64)) (.int .i64)))))], []⟩, [],
[],
[], fun y => (valW (.list (.agg (.pair (.list (.int .i64)) (.int .i64)))) y, [], [])⟩
noncomputable def V_clus_Leave (w_clus_find : (List ((List Int) × Int)) × Int → Option (Int ⊕ Unit)) (w_twin_Clusters : List ((List Int) × Int) → Option (List ((List Int) × Int))) (w_clus_without : (List Int) × Int → Option (List Int)) (w_clus_replace : (List (List Int)) × (List ((List Int) × Int)) × Int × Int × List ((List Int) × Int) → Option (List ((List Int) × Int))) (w_mid_Mid : (List (List Int)) × List Int → Option (Int)) (w_clus_nearest : (List (List Int)) × (List ((List Int) × Int)) × Int × Int → Option (Int ⊕ Unit)) (w_clus_Of : (List (List Int)) × List Int → Option ((List Int) × Int)) (w_clus_with : (List Int) × List Int → Option (List Int)) (w_clus_fitted : (List (List Int)) × (List Int) × Int → Option (List ((List Int) × Int))) (N : Nat) (x : (List (List Int)) × (List ((List Int) × Int)) × Int × Int) : Option (List ((List Int) × Int)) :=
  obind (w_clus_find (x.2.1, x.2.2.1)) fun b => selim (fun (b : Int) => cnd (decide ((0:Int) ≤ b) && decide (b < (↑(List.length x.2.1) : Int))) (obind
    (w_clus_without (Prod.fst (List.getD x.2.1 (Int.toNat b) ([], (0:Int))), x.2.2.1)) fun b_1 => cnd (decide ((↑(List.length b_1) : Int) = (0:Int)))
    (obind (w_clus_replace (x.1, x.2.1, b, b, [])) fun b => some b) (obind (w_mid_Mid (x.1, b_1)) fun b_2 => obind (w_clus_nearest (x.1, x.2.1, b,
    b_2)) fun b_3 => selim (fun (b_4 : Int) => cnd (decide (x.2.2.2 ≤ (↑(List.length b_1) : Int))) (obind (w_clus_Of (x.1, b_1)) fun b_5 => obind
    (w_clus_replace (x.1, x.2.1, b, b, [b_5])) fun b => some b) (cnd (decide ((0:Int) ≤ b_4) && decide (b_4 < (↑(List.length x.2.1) : Int))) (obind
    (w_clus_with (b_1, Prod.fst (List.getD x.2.1 (Int.toNat b_4) ([], (0:Int))))) fun b_5 => obind (w_clus_fitted (x.1, b_5, x.2.2.2)) fun b_6 =>
    obind (w_clus_replace (x.1, x.2.1, b, b_4, b_6)) fun b => some b) none)) (fun (c : PUnit) => cnd (decide (x.2.2.2 ≤ (↑(List.length b_1) : Int)))
    (obind (w_clus_Of (x.1, b_1)) fun b_4 => obind (w_clus_replace (x.1, x.2.1, b, b, [b_4])) fun b => some b) (obind (w_clus_Of (x.1, b_1)) fun
    b_4 => obind (w_clus_replace (x.1, x.2.1, b, b, [b_4])) fun b => some b)) b_3)) none) (fun (c : PUnit) => obind (w_twin_Clusters x.2.1) fun b =>
    some b) b
theorem q_clus_Leave : ∀ w_clus_find w_twin_Clusters w_clus_without w_clus_replace w_mid_Mid w_clus_nearest w_clus_Of w_clus_with w_clus_fitted N x, u_clus_Leave.F L0 P0 (orcOf [u_clus_find.con w_clus_find, u_twin_Clusters.con w_twin_Clusters, u_clus_without.con w_clus_without, u_clus_replace.con w_clus_replace, u_mid_Mid.con w_mid_Mid, u_clus_nearest.con w_clus_nearest, u_clus_Of.con w_clus_Of, u_clus_with.con w_clus_with, u_clus_fitted.con w_clus_fitted]) N x = V_clus_Leave w_clus_find w_twin_Clusters w_clus_without w_clus_replace w_mid_Mid w_clus_nearest w_clus_Of w_clus_with w_clus_fitted N x := by intros; kernel_rfl
noncomputable def W_clus_Leave (N : Nat) := V_clus_Leave (W_clus_find N) (W_twin_Clusters N) (W_clus_without N) (W_clus_replace N) (W_mid_Mid N) (W_clus_nearest N) (W_clus_Of N) (W_clus_with N) (W_clus_fitted N) N
theorem con_clus_Leave_ok (N : Nat) : (u_clus_Leave.con (W_clus_Leave N)).ok P0 := Uf.ok mixed (q_clus_Leave (W_clus_find N) (W_twin_Clusters N) (W_clus_without N) (W_clus_replace N) (W_mid_Mid N) (W_clus_nearest N) (W_clus_Of N) (W_clus_with N) (W_clus_fitted N) N) ⟨con_clus_find_ok N, con_twin_Clusters_ok N, con_clus_without_ok N, con_clus_replace_ok N, con_mid_Mid_ok N, con_clus_nearest_ok N, con_clus_Of_ok N, con_clus_with_ok N, con_clus_fitted_ok N, trivial⟩ Try.func12 (by kernel_rfl) fun x y => by kernel_rfl
noncomputable def u_law8_begun : Uf := ⟨8, 60, Try.f8, [], [],
⟨[(0, .val .bool)], []⟩, [],
[],
[(1000006, .reg [(8, [1, 4, 5, 6], ⟨[(30, .val .bool)], []⟩), (5, [1, 5, 6], ⟨[(35, .val .bool)], []⟩), (5, [1, 5, 6], ⟨[(40, .val .bool)], []⟩), (7, [1, 6], ⟨[(47, .val .bool)], []⟩), (5, [1], ⟨[(52, .val .bool)], []⟩)])], fun y => (valW .bool y, [], [])⟩
noncomputable def V_law8_begun (w_Made : List Int → Option ((List Int) × Int)) (w_Picks_Dist : (List Int) × Int → Option ((List (List Int)) × (List Int) × Int)) (w_clus_Split : (List (List Int)) × (List Int) × Int → Option ((List Int) × List Int)) (w_clus_Group : (List (List Int)) × (List Int) × Int → Option (List ((List Int) × Int))) (w_clus_Join : (List (List Int)) × (List ((List Int) × Int)) × Int × Int × Int → Option (List ((List Int) × Int))) (w_clus_Leave : (List (List Int)) × (List ((List Int) × Int)) × Int × Int → Option (List ((List Int) × Int))) (w_clus_Of : (List (List Int)) × List Int → Option ((List Int) × Int)) (N : Nat) (x : Unit) : Option (Bool) :=
  obind (w_Made []) fun b => obind (w_Picks_Dist b) fun b => obind (w_clus_Split (b.1, [(1:Int), (2:Int), (3:Int)], (1:Int))) fun b_1 => obind
    (w_clus_Group (b.1, [(1:Int), (2:Int), (3:Int)], (1:Int))) fun b_2 => obind (w_clus_Join (b.1, [], (0:Int), (5:Int), (2:Int))) fun b_3 => obind
    (w_clus_Leave (b.1, b_3, (5:Int), (2:Int))) fun b_4 => obind (cnd (decide ((↑(List.length b_1.1) : Int) = (2:Int))) (some (decide ((↑(List.length
    b_1.2) : Int) = (1:Int)))) (some false)) fun (b_5 : Bool) => obind (cnd b_5 (some (decide ((↑(List.length b_2) : Int) = (2:Int)))) (some false)) fun
    (b_6 : Bool) => obind (cnd b_6 (some (decide ((↑(List.length b_3) : Int) = (1:Int)))) (some false)) fun (b_7 : Bool) => obind (cnd b_7 (cnd (decide
    ((0:Int) ≤ (0:Int)) && decide ((0:Int) < (↑(List.length b_3) : Int))) (some (decide (Prod.snd (List.getD b_3 (0:Nat) ([], (0:Int))) = (5:Int))))
    none) (some false)) fun (b_8 : Bool) => obind (cnd b_8 (some (decide ((↑(List.length b_4) : Int) = (0:Int)))) (some false)) fun (b_9 : Bool) => cnd
    b_9 (obind (w_clus_Of (b.1, [(4:Int)])) fun b => some (decide (b.2 = (4:Int)))) (some false)
theorem q_law8_begun : ∀ w_Made w_Picks_Dist w_clus_Split w_clus_Group w_clus_Join w_clus_Leave w_clus_Of N x, u_law8_begun.F L0 P0 (orcOf [u_Made.con w_Made, u_Picks_Dist.con w_Picks_Dist, u_clus_Split.con w_clus_Split, conw_clus_Group w_clus_Group, u_clus_Join.con w_clus_Join, u_clus_Leave.con w_clus_Leave, u_clus_Of.con w_clus_Of]) N x = V_law8_begun w_Made w_Picks_Dist w_clus_Split w_clus_Group w_clus_Join w_clus_Leave w_clus_Of N x := by intros; kernel_rfl
noncomputable def W_law8_begun (N : Nat) := V_law8_begun (W_Made N) (W_Picks_Dist N) (W_clus_Split N) (W_clus_Group N) (W_clus_Join N) (W_clus_Leave N) (W_clus_Of N) N
theorem con_law8_begun_ok (N : Nat) : (u_law8_begun.con (W_law8_begun N)).ok P0 := Uf.ok mixed (q_law8_begun (W_Made N) (W_Picks_Dist N) (W_clus_Split N) (W_clus_Group N) (W_clus_Join N) (W_clus_Leave N) (W_clus_Of N) N) ⟨con_Made_ok N, con_Picks_Dist_ok N, con_clus_Split_ok N, con_clus_Group_ok N, con_clus_Join_ok N, con_clus_Leave_ok N, con_clus_Of_ok N, trivial⟩ Try.func8 (by kernel_rfl) fun x y => by kernel_rfl
noncomputable def u_ref1_Has : Uf := ⟨25, 18, Try.f25, [.val (.list (.int .i64)), .val (.int .i64)], [],
⟨[(4, .val .bool)], []⟩, [],
[(2, .loop [] ⟨[(5, .val (.int .i64))], []⟩ [(.exit 0, ⟨[], []⟩), (.ret, ⟨[(4, .val .bool)], []⟩)])],
[], fun y => (valW .bool y, [], [])⟩
noncomputable def V_ref1_Has (N : Nat) (x : (List Int) × Int) : Option (Bool) :=
  obind (loopN N (fun (v : Int) => cnd (decide (v < (↑(List.length x.1) : Int))) (cnd (decide ((0:Int) ≤ v) && decide (v < (↑(List.length x.1) : Int)))
    (cnd (decide (List.getD x.1 (Int.toNat v) (0:Int) = x.2)) (some (Sum.inr (Sum.inr true))) (some (Sum.inl (wr .i64 (v + (1:Int)))))) none) (some
    (Sum.inr (Sum.inl ())))) (Int.ofNat (0:Nat))) fun (b : PUnit ⊕ Bool) => selim (fun (b : PUnit) => some false) (fun (c : Bool) => some c) b
theorem q_ref1_Has : ∀ N x, u_ref1_Has.F L0 P0 (orcOf []) N x = V_ref1_Has N x := by intros; kernel_rfl
noncomputable def W_ref1_Has (N : Nat) := V_ref1_Has N
theorem con_ref1_Has_ok (N : Nat) : (u_ref1_Has.con (W_ref1_Has N)).ok P0 := Uf.ok mixed (q_ref1_Has N) trivial Try.func25 (by kernel_rfl) fun x y => by kernel_rfl
noncomputable def u_ref7_Far : Uf := ⟨38, 30, Try.f38, [.val (.list (.list (.int .i64))), .val (.int .i64), .val (.list (.int .i64))], [],
⟨[(6, .val (.int .i64))], []⟩, [],
[(3, .loop [] ⟨[(7, .val (.int .i64)), (8, .val (.int .i64))], []⟩ [(.exit 0, ⟨[(7, .val (.int .i64))], []⟩)])],
[], fun y => (valW (.int .i64) y, [], [])⟩
noncomputable def V_ref7_Far (N : Nat) (x : (List (List Int)) × Int × List Int) : Option (Int) :=
  obind (loopN N (fun (v : Int × Int) => cnd (decide (v.2 < (↑(List.length x.2.2) : Int))) (cnd (decide ((0:Int) ≤ wr .i64 (x.2.1 - (1:Int))) && decide
    (wr .i64 (x.2.1 - (1:Int)) < (↑(List.length x.1) : Int))) (cnd (decide ((0:Int) ≤ v.2) && decide (v.2 < (↑(List.length x.2.2) : Int))) (cnd (decide
    ((0:Int) ≤ wr .i64 (List.getD x.2.2 (Int.toNat v.2) (0:Int) - (1:Int))) && decide (wr .i64 (List.getD x.2.2 (Int.toNat v.2) (0:Int) - (1:Int)) <
    (↑(List.length (List.getD x.1 (Int.toNat (wr .i64 (x.2.1 - (1:Int)))) [])) : Int))) (some (Sum.inl (max v.1 (List.getD (List.getD x.1 (Int.toNat (wr
    .i64 (x.2.1 - (1:Int)))) []) (Int.toNat (wr .i64 (List.getD x.2.2 (Int.toNat v.2) (0:Int) - (1:Int)))) (0:Int)), wr .i64 (v.2 + (1:Int))))) none)
    none) none) (some (Sum.inr v.1))) ((0:Int), (0:Int))) fun (b : Int) => some b
theorem q_ref7_Far : ∀ N x, u_ref7_Far.F L0 P0 (orcOf []) N x = V_ref7_Far N x := by intros; kernel_rfl
noncomputable def W_ref7_Far (N : Nat) := V_ref7_Far N
theorem con_ref7_Far_ok (N : Nat) : (u_ref7_Far.con (W_ref7_Far N)).ok P0 := Uf.ok mixed (q_ref7_Far N) trivial Try.func38 (by kernel_rfl) fun x y => by kernel_rfl
noncomputable def u_ref7_Mid : Uf := ⟨13, 31, Try.f13, [.val (.list (.list (.int .i64))), .val (.list (.int .i64))], [],
⟨[(4, .val (.int .i64))], []⟩, [],
[(3, .loop [] ⟨[(5, .val (.int .i64)), (6, .val (.int .i64))], []⟩ [(.exit 0, ⟨[(5, .val (.int .i64))], []⟩)])],
[], fun y => (valW (.int .i64) y, [], [])⟩
noncomputable def V_ref7_Mid (w_ref1_Has : (List Int) × Int → Option (Bool)) (w_ref7_Far : (List (List Int)) × Int × List Int → Option (Int)) (N : Nat) (x : (List (List Int)) × List Int) : Option (Int) :=
  obind (loopN N (fun (v : Int × Int) => cnd (decide (v.2 ≤ (8:Int))) (obind (w_ref1_Has (x.2, v.2)) fun b => cnd b (cnd (decide (v.1 = (0:Int)))
    (some (Sum.inl (v.2, wr .i64 (v.2 + (1:Int))))) (obind (w_ref7_Far (x.1, v.2, x.2)) fun b => obind (w_ref7_Far (x.1, v.1, x.2)) fun b_1 => cnd
    (decide (b < b_1)) (some (Sum.inl (v.2, wr .i64 (v.2 + (1:Int))))) (some (Sum.inl (v.1, wr .i64 (v.2 + (1:Int))))))) (some (Sum.inl (v.1, wr .i64
    (v.2 + (1:Int)))))) (some (Sum.inr v.1))) ((0:Int), (1:Int))) fun (b : Int) => some b
theorem q_ref7_Mid : ∀ w_ref1_Has w_ref7_Far N x, u_ref7_Mid.F L0 P0 (orcOf [u_ref1_Has.con w_ref1_Has, u_ref7_Far.con w_ref7_Far]) N x = V_ref7_Mid w_ref1_Has w_ref7_Far N x := by intros; kernel_rfl
noncomputable def W_ref7_Mid (N : Nat) := V_ref7_Mid (W_ref1_Has N) (W_ref7_Far N) N
theorem con_ref7_Mid_ok (N : Nat) : (u_ref7_Mid.con (W_ref7_Mid N)).ok P0 := Uf.ok mixed (q_ref7_Mid (W_ref1_Has N) (W_ref7_Far N) N) ⟨con_ref1_Has_ok N, con_ref7_Far_ok N, trivial⟩ Try.func13 (by kernel_rfl) fun x y => by kernel_rfl
noncomputable def u_law8_ClusSizes : Uf := ⟨3, 199, Try.f3, [.val (.list (.int .u8)), .val (.list (.agg (.pair (.int .u8) (.pair (.int .u8) (.int .u8))))), .val (.int .u8)], [],
⟨[(6, .val .bool)], []⟩, [],
[(33, .loop [7, 9, 18] ⟨[(10, .arr 600010 1), (15, .val (.int .i64)), (16, .arr 600016 1), (19, .val (.int .i64))], [(600010, .nrow 30 .bool false false), (600016, .nrow 30 .bool false false)]⟩ [(.exit 4, ⟨[(10, .arr 600010 1), (15, .val (.int .i64)), (16, .arr 600016 1)], [(600010, .nrow 30 .bool false false), (600016, .nrow 30 .bool false false)]⟩), (.ret, ⟨[(6, .val .bool)], []⟩)]),
(27, .loop [7, 9] ⟨[(10, .arr 600010 1), (15, .val (.int .i64)), (16, .arr 600016 1), (17, .val (.int .i64))], [(600010, .nrow 30 .bool false false), (600016, .nrow 30 .bool false false)]⟩ [(.exit 2, ⟨[(10, .arr 600010 1), (15, .val (.int .i64))], [(600010, .nrow 30 .bool false false)]⟩), (.ret, ⟨[(6, .val .bool)], []⟩)]),
(11, .loop [7] ⟨[(9, .val (.list (.agg (.pair (.list (.int .i64)) (.int .i64))))), (10, .arr 600010 1), (11, .val (.int .i64)), (12, .val (.int .i64))], [(600010, .nrow 30 .bool false false)]⟩ [(.exit 0, ⟨[], []⟩), (.ret, ⟨[(6, .val .bool)], []⟩)])],
[(24, .cut [7] [(.normal, ⟨[(9, .val (.list (.agg (.pair (.list (.int .i64)) (.int .i64))))), (10, .arr 600010 1), (11, .val (.int .i64))], [(600010, .nrow 30 .bool false false)]⟩)])], fun y => (valW .bool y, [], [])⟩
noncomputable def V_law8_ClusSizes (w_law8_begun : Unit → Option (Bool)) (w_Made : List Int → Option ((List Int) × Int)) (w_Picks_Dist : (List Int) × Int → Option ((List (List Int)) × (List Int) × Int)) (w_clus_Join : (List (List Int)) × (List ((List Int) × Int)) × Int × Int × Int → Option (List ((List Int) × Int))) (w_clus_Leave : (List (List Int)) × (List ((List Int) × Int)) × Int × Int → Option (List ((List Int) × Int))) (w_ref7_Mid : (List (List Int)) × List Int → Option (Int)) (N : Nat) (x : (List Int) × (List (Int × Int × Int)) × Int) : Option (Bool) :=
  obind (w_law8_begun ()) fun b => cnd (!b) (some false) (cnd (decide ((30:Int) < (↑(List.length x.1) : Int))) (some true) (cnd (decide ((25:Int) <
    (↑(List.length x.2.1) : Int))) (some true) (obind (w_Made x.1) fun b => obind (w_Picks_Dist b) fun b => obind (loopN N (fun (v : List (List Int
    × Int) × Int × Int × List Bool) => cnd (decide (v.2.2.1 < (↑(List.length x.2.1) : Int))) (cnd (decide ((0:Int) ≤ v.2.2.1) && decide (v.2.2.1 <
    (↑(List.length x.2.1) : Int))) (obind (cnd (decide ((0:Int) ≤ v.2.2.1) && decide (v.2.2.1 < (↑(List.length x.2.1) : Int))) (cnd (decide ((0:Int) <
    Int.tmod (Prod.snd (Prod.snd (List.getD x.2.1 (Int.toNat v.2.2.1) ((0:Int), (0:Int), (0:Int))))) (3:Int))) (cnd (decide ((0:Int) ≤ v.2.2.1) &&
    decide (v.2.2.1 < (↑(List.length x.2.1) : Int))) (cnd (!decide (max (↑(List.length v.1) : Int) (1:Int) = (0:Int))) (obind (w_clus_Join (b.1, v.1,
    Int.tmod (wr .i64 (Prod.fst (Prod.snd (List.getD x.2.1 (Int.toNat v.2.2.1) ((0:Int), (0:Int), (0:Int)))))) (max (↑(List.length v.1) : Int) (1:Int)),
    wr .i64 ((1:Int) + wr .i64 (Int.tmod (Prod.fst (List.getD x.2.1 (Int.toNat v.2.2.1) ((0:Int), (0:Int), (0:Int)))) (8:Int))), wr .i64 ((1:Int) + wr
    .i64 (Int.tmod x.2.2 (3:Int))))) fun b => cnd (decide ((0:Int) ≤ wr .i64 ((1:Int) + wr .i64 (Int.tmod (Prod.fst (List.getD x.2.1 (Int.toNat v.2.2.1)
    ((0:Int), (0:Int), (0:Int)))) (8:Int)))) && decide (wr .i64 ((1:Int) + wr .i64 (Int.tmod (Prod.fst (List.getD x.2.1 (Int.toNat v.2.2.1) ((0:Int),
    (0:Int), (0:Int)))) (8:Int))) < (↑(List.length v.2.2.2) : Int)) && decide (wr .i64 ((1:Int) + wr .i64 (Int.tmod (Prod.fst (List.getD x.2.1
    (Int.toNat v.2.2.1) ((0:Int), (0:Int), (0:Int)))) (8:Int))) < (↑(9:Nat) : Int))) (cnd (!List.getD v.2.2.2 (Int.toNat (wr .i64 ((1:Int) + wr .i64
    (Int.tmod (Prod.fst (List.getD x.2.1 (Int.toNat v.2.2.1) ((0:Int), (0:Int), (0:Int)))) (8:Int))))) false) (cnd (decide ((0:Int) ≤ wr .i64 ((1:Int) +
    wr .i64 (Int.tmod (Prod.fst (List.getD x.2.1 (Int.toNat v.2.2.1) ((0:Int), (0:Int), (0:Int)))) (8:Int)))) && decide (wr .i64 ((1:Int) + wr .i64
    (Int.tmod (Prod.fst (List.getD x.2.1 (Int.toNat v.2.2.1) ((0:Int), (0:Int), (0:Int)))) (8:Int))) < (↑(List.length v.2.2.2) : Int)) && decide (wr
    .i64 ((1:Int) + wr .i64 (Int.tmod (Prod.fst (List.getD x.2.1 (Int.toNat v.2.2.1) ((0:Int), (0:Int), (0:Int)))) (8:Int))) < (↑(9:Nat) : Int))) (some
    (b, wr .i64 (v.2.1 + (1:Int)), putL v.2.2.2 [true] (Int.toNat (wr .i64 ((1:Int) + wr .i64 (Int.tmod (Prod.fst (List.getD x.2.1 (Int.toNat v.2.2.1)
    ((0:Int), (0:Int), (0:Int)))) (8:Int))))))) none) (cnd (decide ((0:Int) ≤ wr .i64 ((1:Int) + wr .i64 (Int.tmod (Prod.fst (List.getD x.2.1 (Int.toNat
    v.2.2.1) ((0:Int), (0:Int), (0:Int)))) (8:Int)))) && decide (wr .i64 ((1:Int) + wr .i64 (Int.tmod (Prod.fst (List.getD x.2.1 (Int.toNat v.2.2.1)
    ((0:Int), (0:Int), (0:Int)))) (8:Int))) < (↑(List.length v.2.2.2) : Int)) && decide (wr .i64 ((1:Int) + wr .i64 (Int.tmod (Prod.fst (List.getD x.2.1
    (Int.toNat v.2.2.1) ((0:Int), (0:Int), (0:Int)))) (8:Int))) < (↑(9:Nat) : Int))) (some (b, v.2.1, putL v.2.2.2 [true] (Int.toNat (wr .i64 ((1:Int) +
    wr .i64 (Int.tmod (Prod.fst (List.getD x.2.1 (Int.toNat v.2.2.1) ((0:Int), (0:Int), (0:Int)))) (8:Int))))))) none)) none) none) none) (obind
    (w_clus_Leave (b.1, v.1, wr .i64 ((1:Int) + wr .i64 (Int.tmod (Prod.fst (List.getD x.2.1 (Int.toNat v.2.2.1) ((0:Int), (0:Int), (0:Int))))
    (8:Int))), wr .i64 ((1:Int) + wr .i64 (Int.tmod x.2.2 (3:Int))))) fun b => cnd (decide ((0:Int) ≤ wr .i64 ((1:Int) + wr .i64 (Int.tmod (Prod.fst
    (List.getD x.2.1 (Int.toNat v.2.2.1) ((0:Int), (0:Int), (0:Int)))) (8:Int)))) && decide (wr .i64 ((1:Int) + wr .i64 (Int.tmod (Prod.fst (List.getD
    x.2.1 (Int.toNat v.2.2.1) ((0:Int), (0:Int), (0:Int)))) (8:Int))) < (↑(List.length v.2.2.2) : Int)) && decide (wr .i64 ((1:Int) + wr .i64 (Int.tmod
    (Prod.fst (List.getD x.2.1 (Int.toNat v.2.2.1) ((0:Int), (0:Int), (0:Int)))) (8:Int))) < (↑(9:Nat) : Int))) (cnd (List.getD v.2.2.2 (Int.toNat (wr
    .i64 ((1:Int) + wr .i64 (Int.tmod (Prod.fst (List.getD x.2.1 (Int.toNat v.2.2.1) ((0:Int), (0:Int), (0:Int)))) (8:Int))))) false) (cnd (decide
    ((0:Int) ≤ wr .i64 ((1:Int) + wr .i64 (Int.tmod (Prod.fst (List.getD x.2.1 (Int.toNat v.2.2.1) ((0:Int), (0:Int), (0:Int)))) (8:Int)))) && decide
    (wr .i64 ((1:Int) + wr .i64 (Int.tmod (Prod.fst (List.getD x.2.1 (Int.toNat v.2.2.1) ((0:Int), (0:Int), (0:Int)))) (8:Int))) < (↑(List.length
    v.2.2.2) : Int)) && decide (wr .i64 ((1:Int) + wr .i64 (Int.tmod (Prod.fst (List.getD x.2.1 (Int.toNat v.2.2.1) ((0:Int), (0:Int), (0:Int))))
    (8:Int))) < (↑(9:Nat) : Int))) (some (b, wr .i64 (v.2.1 - (1:Int)), putL v.2.2.2 [false] (Int.toNat (wr .i64 ((1:Int) + wr .i64 (Int.tmod (Prod.fst
    (List.getD x.2.1 (Int.toNat v.2.2.1) ((0:Int), (0:Int), (0:Int)))) (8:Int))))))) none) (cnd (decide ((0:Int) ≤ wr .i64 ((1:Int) + wr .i64 (Int.tmod
    (Prod.fst (List.getD x.2.1 (Int.toNat v.2.2.1) ((0:Int), (0:Int), (0:Int)))) (8:Int)))) && decide (wr .i64 ((1:Int) + wr .i64 (Int.tmod (Prod.fst
    (List.getD x.2.1 (Int.toNat v.2.2.1) ((0:Int), (0:Int), (0:Int)))) (8:Int))) < (↑(List.length v.2.2.2) : Int)) && decide (wr .i64 ((1:Int) + wr .i64
    (Int.tmod (Prod.fst (List.getD x.2.1 (Int.toNat v.2.2.1) ((0:Int), (0:Int), (0:Int)))) (8:Int))) < (↑(9:Nat) : Int))) (some (b, v.2.1, putL v.2.2.2
    [false] (Int.toNat (wr .i64 ((1:Int) + wr .i64 (Int.tmod (Prod.fst (List.getD x.2.1 (Int.toNat v.2.2.1) ((0:Int), (0:Int), (0:Int)))) (8:Int)))))))
    none)) none)) none) fun (b_1 : List (List Int × Int) × Int × List Bool) => obind (loopN N (fun (v : Int × Int × List Bool × List Bool) => cnd
    (decide (v.2.1 < (↑(List.length b_1.1) : Int))) (cnd (decide ((0:Int) ≤ v.2.1) && decide (v.2.1 < (↑(List.length b_1.1) : Int))) (cnd (decide
    ((↑(List.length (Prod.fst (List.getD b_1.1 (Int.toNat v.2.1) ([], (0:Int))))) : Int) < (1:Int))) (some (Sum.inr (Sum.inr false))) (cnd (decide (wr
    .i64 (wr .i64 ((3:Int) * wr .i64 ((1:Int) + wr .i64 (Int.tmod x.2.2 (3:Int)))) - (1:Int)) < (↑(List.length (Prod.fst (List.getD b_1.1 (Int.toNat
    v.2.1) ([], (0:Int))))) : Int))) (some (Sum.inr (Sum.inr false))) (cnd (decide ((1:Int) < (↑(List.length b_1.1) : Int))) (cnd (decide
    ((↑(List.length (Prod.fst (List.getD b_1.1 (Int.toNat v.2.1) ([], (0:Int))))) : Int) < wr .i64 ((1:Int) + wr .i64 (Int.tmod x.2.2 (3:Int))))) (some
    (Sum.inr (Sum.inr false))) (cnd (decide ((0:Int) ≤ v.2.1) && decide (v.2.1 < (↑(List.length b_1.1) : Int))) (obind (w_ref7_Mid (b.1, Prod.fst
    (List.getD b_1.1 (Int.toNat v.2.1) ([], (0:Int))))) fun b => cnd (decide (Prod.snd (List.getD b_1.1 (Int.toNat v.2.1) ([], (0:Int))) ≠ b)) (some
    (Sum.inr (Sum.inr false))) (obind (loopN N (fun (v_1 : Int × Int × List Bool × List Bool) => cnd (decide (v_1.2.1 < (↑(List.length (Prod.fst
    (List.getD b_1.1 (Int.toNat v.2.1) ([], (0:Int))))) : Int))) (cnd (decide ((0:Int) ≤ v_1.2.1) && decide (v_1.2.1 < (↑(List.length (Prod.fst
    (List.getD b_1.1 (Int.toNat v.2.1) ([], (0:Int))))) : Int))) (cnd (decide (List.getD (Prod.fst (List.getD b_1.1 (Int.toNat v.2.1) ([], (0:Int))))
    (Int.toNat v_1.2.1) (0:Int) < (1:Int))) (some (Sum.inr (Sum.inr false))) (cnd (decide ((0:Int) ≤ v_1.2.1) && decide (v_1.2.1 < (↑(List.length
    (Prod.fst (List.getD b_1.1 (Int.toNat v.2.1) ([], (0:Int))))) : Int))) (cnd (decide ((8:Int) < List.getD (Prod.fst (List.getD b_1.1 (Int.toNat
    v.2.1) ([], (0:Int)))) (Int.toNat v_1.2.1) (0:Int))) (some (Sum.inr (Sum.inr false))) (cnd (decide ((0:Int) ≤ v_1.2.1) && decide (v_1.2.1 <
    (↑(List.length (Prod.fst (List.getD b_1.1 (Int.toNat v.2.1) ([], (0:Int))))) : Int))) (cnd (decide ((0:Int) ≤ List.getD (Prod.fst (List.getD b_1.1
    (Int.toNat v.2.1) ([], (0:Int)))) (Int.toNat v_1.2.1) (0:Int)) && decide (List.getD (Prod.fst (List.getD b_1.1 (Int.toNat v.2.1) ([], (0:Int))))
    (Int.toNat v_1.2.1) (0:Int) < (↑(List.length v_1.2.2.1) : Int)) && decide (List.getD (Prod.fst (List.getD b_1.1 (Int.toNat v.2.1) ([], (0:Int))))
    (Int.toNat v_1.2.1) (0:Int) < (↑(9:Nat) : Int))) (cnd (!List.getD v_1.2.2.1 (Int.toNat (List.getD (Prod.fst (List.getD b_1.1 (Int.toNat v.2.1) ([],
    (0:Int)))) (Int.toNat v_1.2.1) (0:Int))) false) (some (Sum.inr (Sum.inr false))) (cnd (decide ((0:Int) ≤ v_1.2.1) && decide (v_1.2.1 <
    (↑(List.length (Prod.fst (List.getD b_1.1 (Int.toNat v.2.1) ([], (0:Int))))) : Int))) (cnd (decide ((0:Int) ≤ List.getD (Prod.fst (List.getD b_1.1
    (Int.toNat v.2.1) ([], (0:Int)))) (Int.toNat v_1.2.1) (0:Int)) && decide (List.getD (Prod.fst (List.getD b_1.1 (Int.toNat v.2.1) ([], (0:Int))))
    (Int.toNat v_1.2.1) (0:Int) < (↑(List.length v_1.2.2.2) : Int)) && decide (List.getD (Prod.fst (List.getD b_1.1 (Int.toNat v.2.1) ([], (0:Int))))
    (Int.toNat v_1.2.1) (0:Int) < (↑(9:Nat) : Int))) (cnd (List.getD v_1.2.2.2 (Int.toNat (List.getD (Prod.fst (List.getD b_1.1 (Int.toNat v.2.1) ([],
    (0:Int)))) (Int.toNat v_1.2.1) (0:Int))) false) (some (Sum.inr (Sum.inr false))) (cnd (decide ((0:Int) < v_1.2.1)) (cnd (decide ((0:Int) ≤ v_1.2.1)
    && decide (v_1.2.1 < (↑(List.length (Prod.fst (List.getD b_1.1 (Int.toNat v.2.1) ([], (0:Int))))) : Int))) (cnd (decide ((0:Int) ≤ wr .i64 (v_1.2.1
    - (1:Int))) && decide (wr .i64 (v_1.2.1 - (1:Int)) < (↑(List.length (Prod.fst (List.getD b_1.1 (Int.toNat v.2.1) ([], (0:Int))))) : Int))) (cnd
    (decide (List.getD (Prod.fst (List.getD b_1.1 (Int.toNat v.2.1) ([], (0:Int)))) (Int.toNat v_1.2.1) (0:Int) ≤ List.getD (Prod.fst (List.getD b_1.1
    (Int.toNat v.2.1) ([], (0:Int)))) (Int.toNat (wr .i64 (v_1.2.1 - (1:Int)))) (0:Int))) (some (Sum.inr (Sum.inr false))) (cnd (decide ((0:Int) ≤
    v_1.2.1) && decide (v_1.2.1 < (↑(List.length (Prod.fst (List.getD b_1.1 (Int.toNat v.2.1) ([], (0:Int))))) : Int))) (cnd (decide ((0:Int) ≤
    List.getD (Prod.fst (List.getD b_1.1 (Int.toNat v.2.1) ([], (0:Int)))) (Int.toNat v_1.2.1) (0:Int)) && decide (List.getD (Prod.fst (List.getD b_1.1
    (Int.toNat v.2.1) ([], (0:Int)))) (Int.toNat v_1.2.1) (0:Int) < (↑(List.length v_1.2.2.2) : Int)) && decide (List.getD (Prod.fst (List.getD b_1.1
    (Int.toNat v.2.1) ([], (0:Int)))) (Int.toNat v_1.2.1) (0:Int) < (↑(9:Nat) : Int))) (some (Sum.inl (wr .i64 (v_1.1 + (1:Int)), wr .i64 (v_1.2.1 +
    (1:Int)), v_1.2.2.1, putL v_1.2.2.2 [true] (Int.toNat (List.getD (Prod.fst (List.getD b_1.1 (Int.toNat v.2.1) ([], (0:Int)))) (Int.toNat v_1.2.1)
    (0:Int)))))) none) none)) none) none) (cnd (decide ((0:Int) ≤ v_1.2.1) && decide (v_1.2.1 < (↑(List.length (Prod.fst (List.getD b_1.1 (Int.toNat
    v.2.1) ([], (0:Int))))) : Int))) (cnd (decide ((0:Int) ≤ List.getD (Prod.fst (List.getD b_1.1 (Int.toNat v.2.1) ([], (0:Int)))) (Int.toNat v_1.2.1)
    (0:Int)) && decide (List.getD (Prod.fst (List.getD b_1.1 (Int.toNat v.2.1) ([], (0:Int)))) (Int.toNat v_1.2.1) (0:Int) < (↑(List.length v_1.2.2.2) :
    Int)) && decide (List.getD (Prod.fst (List.getD b_1.1 (Int.toNat v.2.1) ([], (0:Int)))) (Int.toNat v_1.2.1) (0:Int) < (↑(9:Nat) : Int))) (some
    (Sum.inl (wr .i64 (v_1.1 + (1:Int)), wr .i64 (v_1.2.1 + (1:Int)), v_1.2.2.1, putL v_1.2.2.2 [true] (Int.toNat (List.getD (Prod.fst (List.getD b_1.1
    (Int.toNat v.2.1) ([], (0:Int)))) (Int.toNat v_1.2.1) (0:Int)))))) none) none))) none) none)) none) none)) none)) none) (some (Sum.inr (Sum.inl
    (v_1.1, v_1.2.2))))) (v.1, (0:Int), v.2.2)) fun (b : Int × List Bool × List Bool ⊕ Bool) => selim (fun (b : Int × List Bool × List Bool) => some
    (Sum.inl (b.1, wr .i64 (v.2.1 + (1:Int)), b.2))) (fun (c : Bool) => some (Sum.inr (Sum.inr c))) b)) none)) (cnd (decide ((0:Int) ≤ v.2.1) && decide
    (v.2.1 < (↑(List.length b_1.1) : Int))) (obind (w_ref7_Mid (b.1, Prod.fst (List.getD b_1.1 (Int.toNat v.2.1) ([], (0:Int))))) fun b => cnd (decide
    (Prod.snd (List.getD b_1.1 (Int.toNat v.2.1) ([], (0:Int))) ≠ b)) (some (Sum.inr (Sum.inr false))) (obind (loopN N (fun (v_1 : Int × Int × List Bool
    × List Bool) => cnd (decide (v_1.2.1 < (↑(List.length (Prod.fst (List.getD b_1.1 (Int.toNat v.2.1) ([], (0:Int))))) : Int))) (cnd (decide ((0:Int) ≤
    v_1.2.1) && decide (v_1.2.1 < (↑(List.length (Prod.fst (List.getD b_1.1 (Int.toNat v.2.1) ([], (0:Int))))) : Int))) (cnd (decide (List.getD
    (Prod.fst (List.getD b_1.1 (Int.toNat v.2.1) ([], (0:Int)))) (Int.toNat v_1.2.1) (0:Int) < (1:Int))) (some (Sum.inr (Sum.inr false))) (cnd (decide
    ((0:Int) ≤ v_1.2.1) && decide (v_1.2.1 < (↑(List.length (Prod.fst (List.getD b_1.1 (Int.toNat v.2.1) ([], (0:Int))))) : Int))) (cnd (decide ((8:Int)
    < List.getD (Prod.fst (List.getD b_1.1 (Int.toNat v.2.1) ([], (0:Int)))) (Int.toNat v_1.2.1) (0:Int))) (some (Sum.inr (Sum.inr false))) (cnd (decide
    ((0:Int) ≤ v_1.2.1) && decide (v_1.2.1 < (↑(List.length (Prod.fst (List.getD b_1.1 (Int.toNat v.2.1) ([], (0:Int))))) : Int))) (cnd (decide ((0:Int)
    ≤ List.getD (Prod.fst (List.getD b_1.1 (Int.toNat v.2.1) ([], (0:Int)))) (Int.toNat v_1.2.1) (0:Int)) && decide (List.getD (Prod.fst (List.getD
    b_1.1 (Int.toNat v.2.1) ([], (0:Int)))) (Int.toNat v_1.2.1) (0:Int) < (↑(List.length v_1.2.2.1) : Int)) && decide (List.getD (Prod.fst (List.getD
    b_1.1 (Int.toNat v.2.1) ([], (0:Int)))) (Int.toNat v_1.2.1) (0:Int) < (↑(9:Nat) : Int))) (cnd (!List.getD v_1.2.2.1 (Int.toNat (List.getD (Prod.fst
    (List.getD b_1.1 (Int.toNat v.2.1) ([], (0:Int)))) (Int.toNat v_1.2.1) (0:Int))) false) (some (Sum.inr (Sum.inr false))) (cnd (decide ((0:Int) ≤
    v_1.2.1) && decide (v_1.2.1 < (↑(List.length (Prod.fst (List.getD b_1.1 (Int.toNat v.2.1) ([], (0:Int))))) : Int))) (cnd (decide ((0:Int) ≤
    List.getD (Prod.fst (List.getD b_1.1 (Int.toNat v.2.1) ([], (0:Int)))) (Int.toNat v_1.2.1) (0:Int)) && decide (List.getD (Prod.fst (List.getD b_1.1
    (Int.toNat v.2.1) ([], (0:Int)))) (Int.toNat v_1.2.1) (0:Int) < (↑(List.length v_1.2.2.2) : Int)) && decide (List.getD (Prod.fst (List.getD b_1.1
    (Int.toNat v.2.1) ([], (0:Int)))) (Int.toNat v_1.2.1) (0:Int) < (↑(9:Nat) : Int))) (cnd (List.getD v_1.2.2.2 (Int.toNat (List.getD (Prod.fst
    (List.getD b_1.1 (Int.toNat v.2.1) ([], (0:Int)))) (Int.toNat v_1.2.1) (0:Int))) false) (some (Sum.inr (Sum.inr false))) (cnd (decide ((0:Int) <
    v_1.2.1)) (cnd (decide ((0:Int) ≤ v_1.2.1) && decide (v_1.2.1 < (↑(List.length (Prod.fst (List.getD b_1.1 (Int.toNat v.2.1) ([], (0:Int))))) :
    Int))) (cnd (decide ((0:Int) ≤ wr .i64 (v_1.2.1 - (1:Int))) && decide (wr .i64 (v_1.2.1 - (1:Int)) < (↑(List.length (Prod.fst (List.getD b_1.1
    (Int.toNat v.2.1) ([], (0:Int))))) : Int))) (cnd (decide (List.getD (Prod.fst (List.getD b_1.1 (Int.toNat v.2.1) ([], (0:Int)))) (Int.toNat v_1.2.1)
    (0:Int) ≤ List.getD (Prod.fst (List.getD b_1.1 (Int.toNat v.2.1) ([], (0:Int)))) (Int.toNat (wr .i64 (v_1.2.1 - (1:Int)))) (0:Int))) (some (Sum.inr
    (Sum.inr false))) (cnd (decide ((0:Int) ≤ v_1.2.1) && decide (v_1.2.1 < (↑(List.length (Prod.fst (List.getD b_1.1 (Int.toNat v.2.1) ([], (0:Int)))))
    : Int))) (cnd (decide ((0:Int) ≤ List.getD (Prod.fst (List.getD b_1.1 (Int.toNat v.2.1) ([], (0:Int)))) (Int.toNat v_1.2.1) (0:Int)) && decide
    (List.getD (Prod.fst (List.getD b_1.1 (Int.toNat v.2.1) ([], (0:Int)))) (Int.toNat v_1.2.1) (0:Int) < (↑(List.length v_1.2.2.2) : Int)) && decide
    (List.getD (Prod.fst (List.getD b_1.1 (Int.toNat v.2.1) ([], (0:Int)))) (Int.toNat v_1.2.1) (0:Int) < (↑(9:Nat) : Int))) (some (Sum.inl (wr .i64
    (v_1.1 + (1:Int)), wr .i64 (v_1.2.1 + (1:Int)), v_1.2.2.1, putL v_1.2.2.2 [true] (Int.toNat (List.getD (Prod.fst (List.getD b_1.1 (Int.toNat v.2.1)
    ([], (0:Int)))) (Int.toNat v_1.2.1) (0:Int)))))) none) none)) none) none) (cnd (decide ((0:Int) ≤ v_1.2.1) && decide (v_1.2.1 < (↑(List.length
    (Prod.fst (List.getD b_1.1 (Int.toNat v.2.1) ([], (0:Int))))) : Int))) (cnd (decide ((0:Int) ≤ List.getD (Prod.fst (List.getD b_1.1 (Int.toNat
    v.2.1) ([], (0:Int)))) (Int.toNat v_1.2.1) (0:Int)) && decide (List.getD (Prod.fst (List.getD b_1.1 (Int.toNat v.2.1) ([], (0:Int)))) (Int.toNat
    v_1.2.1) (0:Int) < (↑(List.length v_1.2.2.2) : Int)) && decide (List.getD (Prod.fst (List.getD b_1.1 (Int.toNat v.2.1) ([], (0:Int)))) (Int.toNat
    v_1.2.1) (0:Int) < (↑(9:Nat) : Int))) (some (Sum.inl (wr .i64 (v_1.1 + (1:Int)), wr .i64 (v_1.2.1 + (1:Int)), v_1.2.2.1, putL v_1.2.2.2 [true]
    (Int.toNat (List.getD (Prod.fst (List.getD b_1.1 (Int.toNat v.2.1) ([], (0:Int)))) (Int.toNat v_1.2.1) (0:Int)))))) none) none))) none) none)) none)
    none)) none)) none) (some (Sum.inr (Sum.inl (v_1.1, v_1.2.2))))) (v.1, (0:Int), v.2.2)) fun (b : Int × List Bool × List Bool ⊕ Bool) => selim (fun
    (b : Int × List Bool × List Bool) => some (Sum.inl (b.1, wr .i64 (v.2.1 + (1:Int)), b.2))) (fun (c : Bool) => some (Sum.inr (Sum.inr c))) b))
    none)))) none) (some (Sum.inr (Sum.inl (v.1, v.2.2.1))))) ((0:Int), (0:Int), b_1.2.2, [false, false, false, false, false, false, false, false,
    false])) fun (b : Int × List Bool ⊕ Bool) => selim (fun (b : Int × List Bool) => cnd (decide (b.1 ≠ b_1.2.1)) (some (Sum.inr (Sum.inr false))) (some
    (Sum.inl (b_1.1, b_1.2.1, wr .i64 (v.2.2.1 + (1:Int)), b.2)))) (fun (c : Bool) => some (Sum.inr (Sum.inr c))) b) none) (some (Sum.inr (Sum.inl
    ())))) ([], (0:Int), (0:Int), [false, false, false, false, false, false, false, false, false])) fun (b : PUnit ⊕ Bool) => selim (fun (b : PUnit) =>
    some true) (fun (c : Bool) => some c) b)))
theorem q_law8_ClusSizes : ∀ w_law8_begun w_Made w_Picks_Dist w_clus_Join w_clus_Leave w_ref7_Mid N x, u_law8_ClusSizes.F L0 P0 (orcOf [u_law8_begun.con w_law8_begun, u_Made.con w_Made, u_Picks_Dist.con w_Picks_Dist, u_clus_Join.con w_clus_Join, u_clus_Leave.con w_clus_Leave, u_ref7_Mid.con w_ref7_Mid]) N x = V_law8_ClusSizes w_law8_begun w_Made w_Picks_Dist w_clus_Join w_clus_Leave w_ref7_Mid N x := by intros; kernel_rfl
noncomputable def W_law8_ClusSizes (N : Nat) := V_law8_ClusSizes (W_law8_begun N) (W_Made N) (W_Picks_Dist N) (W_clus_Join N) (W_clus_Leave N) (W_ref7_Mid N) N
theorem con_law8_ClusSizes_ok (N : Nat) : (u_law8_ClusSizes.con (W_law8_ClusSizes N)).ok P0 := Uf.ok mixed (q_law8_ClusSizes (W_law8_begun N) (W_Made N) (W_Picks_Dist N) (W_clus_Join N) (W_clus_Leave N) (W_ref7_Mid N) N) ⟨con_law8_begun_ok N, con_Made_ok N, con_Picks_Dist_ok N, con_clus_Join_ok N, con_clus_Leave_ok N, con_ref7_Mid_ok N, trivial⟩ Try.func3 (by kernel_rfl) fun x y => by kernel_rfl
/-! What is reckoned. -/
-- PURE
theorem wr_m {z : Int} (h : -140737488355328 ≤ z) (h2 : z ≤ 140737488355328) : wr .i64 z = z := wr_i64 (by omega) (by omega)
theorem cnd_T {α : Type} {p : Prop} {i : Decidable p} {x y : α} (h : p) : cnd (@decide p i) x y = x := by rw [decide_eq_true h]; rfl
theorem cnd_F {α : Type} {p : Prop} {i : Decidable p} {x y : α} (h : ¬ p) : cnd (@decide p i) x y = y := by rw [decide_eq_false h]; rfl
def U8 (l : List Int) : Prop := ∀ n ∈ l, 0 ≤ n ∧ n ≤ 255
theorem U8_get {a : List Int} (ha : U8 a) (j : Nat) (hj : j < a.length) : 0 ≤ a.getD j 0 ∧ a.getD j 0 ≤ 255 := by
  rw [List.getD_eq_getElem?_getD, List.getElem?_eq_getElem hj]
  exact ha _ (List.getElem_mem hj)
def dv (k : Int) : Int := List.getD [(1 : Int), (2 : Int), (3 : Int), (5 : Int), (9 : Int), (9 : Int), (20 : Int), (1000 : Int), (0 : Int)] (Int.toNat k) (0 : Int)
theorem dv_rng (k : Int) : 0 ≤ dv k ∧ dv k ≤ 1000 := by
  unfold dv
  generalize k.toNat = j
  match j with
  | 0 | 1 | 2 | 3 | 4 | 5 | 6 | 7 | 8 => decide
  | j + 9 => simp [List.getD_eq_getElem?_getD]
/-- A square of distances. -/
def gd (D : List (List Int)) (i j : Nat) : Int := (D.getD i []).getD j 0
structure GD (D : List (List Int)) : Prop where
  len : D.length = 8
  row : ∀ i, i < 8 → (D.getD i []).length = 8
  rng : ∀ i j, i < 8 → j < 8 → 0 ≤ gd D i j ∧ gd D i j ≤ 1000
  sym : ∀ i j, i < 8 → j < 8 → gd D i j = gd D j i
theorem lt8 {P : Nat → Prop} (h0 : P 0) (h1 : P 1) (h2 : P 2) (h3 : P 3) (h4 : P 4) (h5 : P 5) (h6 : P 6) (h7 : P 7) : ∀ i, i < 8 → P i
  | 0, _ => h0 | 1, _ => h1 | 2, _ => h2 | 3, _ => h3 | 4, _ => h4 | 5, _ => h5 | 6, _ => h6 | 7, _ => h7
  | n + 8, h => by omega
theorem Num_spec (N : Nat) (m : Int) (l : List Int) (n : Int) (hU : U8 l) (hl : l.length ≤ 1000) (h0 : 0 ≤ n) (h1 : n ≤ l.length) (hm : 1 ≤ m) (hm2 : m ≤ 255) : ∃ v n', W_Picks_Num N (m, l, n) = some (v, l, n') ∧ 0 ≤ v ∧ v < m ∧ 0 ≤ n' ∧ n' ≤ l.length := by
  unfold W_Picks_Num V_Picks_Num
  try simp only
  by_cases hn : (l.length : Int) ≤ n
  · rw [dT hn, cnd_t]; exact ⟨_, _, rfl, by omega, by omega, h0, h1⟩
  have w : wr .i64 (wr .i64 (n + 1) - 1) = n := by rw [wr_m (z := n + 1) (by omega) (by omega), wr_m (z := n + 1 - 1) (by omega) (by omega)]; omega
  have g := U8_get hU n.toNat (by omega)
  rw [w, wr_m (z := n + 1) (by omega) (by omega)]
  clear w
  rw [dF hn, cnd_f, dF (show ¬ m < 1 by omega), cnd_f, dT h0, dT (show n < l.length by omega), Bool.and_self, cnd_t, dF (show ¬ m = 0 by omega), Bool.not_false, cnd_t, wr_m (by omega) (by omega)]
  exact ⟨_, _, rfl, Int.tmod_nonneg _ g.1, Int.tmod_lt_of_pos _ (by omega), by omega, by omega⟩
theorem Dist_spec (N : Nat) (l : List Int) (n : Int) (hU : U8 l) (hl : l.length ≤ 1000) (h0 : 0 ≤ n) (h1 : n ≤ l.length) : ∃ D n', W_Picks_Dist N (l, n) = some (D, l, n') ∧ GD D := by
  unfold W_Picks_Dist V_Picks_Dist
  try simp only
  obtain ⟨v0, n0, e0, p0, q0, r0, s0⟩ := Num_spec N 9 l n hU hl h0 h1 (by omega) (by omega)
  rw [e0, obind_s, dT p0, cnd_t, dT (show v0 < ((9 : Nat) : Int) from q0), cnd_t]
  obtain ⟨v1, n1, e1, p1, q1, r1, s1⟩ := Num_spec N 9 l n0 hU hl r0 s0 (by omega) (by omega)
  rw [e1, obind_s, dT p1, cnd_t, dT (show v1 < ((9 : Nat) : Int) from q1), cnd_t]
  obtain ⟨v2, n2, e2, p2, q2, r2, s2⟩ := Num_spec N 9 l n1 hU hl r1 s1 (by omega) (by omega)
  rw [e2, obind_s, dT p2, cnd_t, dT (show v2 < ((9 : Nat) : Int) from q2), cnd_t]
  obtain ⟨v3, n3, e3, p3, q3, r3, s3⟩ := Num_spec N 9 l n2 hU hl r2 s2 (by omega) (by omega)
  rw [e3, obind_s, dT p3, cnd_t, dT (show v3 < ((9 : Nat) : Int) from q3), cnd_t]
  obtain ⟨v4, n4, e4, p4, q4, r4, s4⟩ := Num_spec N 9 l n3 hU hl r3 s3 (by omega) (by omega)
  rw [e4, obind_s, dT p4, cnd_t, dT (show v4 < ((9 : Nat) : Int) from q4), cnd_t]
  obtain ⟨v5, n5, e5, p5, q5, r5, s5⟩ := Num_spec N 9 l n4 hU hl r4 s4 (by omega) (by omega)
  rw [e5, obind_s, dT p5, cnd_t, dT (show v5 < ((9 : Nat) : Int) from q5), cnd_t]
  obtain ⟨v6, n6, e6, p6, q6, r6, s6⟩ := Num_spec N 9 l n5 hU hl r5 s5 (by omega) (by omega)
  rw [e6, obind_s, dT p6, cnd_t, dT (show v6 < ((9 : Nat) : Int) from q6), cnd_t]
  obtain ⟨v7, n7, e7, p7, q7, r7, s7⟩ := Num_spec N 9 l n6 hU hl r6 s6 (by omega) (by omega)
  rw [e7, obind_s, dT p7, cnd_t, dT (show v7 < ((9 : Nat) : Int) from q7), cnd_t]
  obtain ⟨v8, n8, e8, p8, q8, r8, s8⟩ := Num_spec N 9 l n7 hU hl r7 s7 (by omega) (by omega)
  rw [e8, obind_s, dT p8, cnd_t, dT (show v8 < ((9 : Nat) : Int) from q8), cnd_t]
  obtain ⟨v9, n9, e9, p9, q9, r9, s9⟩ := Num_spec N 9 l n8 hU hl r8 s8 (by omega) (by omega)
  rw [e9, obind_s, dT p9, cnd_t, dT (show v9 < ((9 : Nat) : Int) from q9), cnd_t]
  obtain ⟨v10, n10, e10, p10, q10, r10, s10⟩ := Num_spec N 9 l n9 hU hl r9 s9 (by omega) (by omega)
  rw [e10, obind_s, dT p10, cnd_t, dT (show v10 < ((9 : Nat) : Int) from q10), cnd_t]
  obtain ⟨v11, n11, e11, p11, q11, r11, s11⟩ := Num_spec N 9 l n10 hU hl r10 s10 (by omega) (by omega)
  rw [e11, obind_s, dT p11, cnd_t, dT (show v11 < ((9 : Nat) : Int) from q11), cnd_t]
  obtain ⟨v12, n12, e12, p12, q12, r12, s12⟩ := Num_spec N 9 l n11 hU hl r11 s11 (by omega) (by omega)
  rw [e12, obind_s, dT p12, cnd_t, dT (show v12 < ((9 : Nat) : Int) from q12), cnd_t]
  obtain ⟨v13, n13, e13, p13, q13, r13, s13⟩ := Num_spec N 9 l n12 hU hl r12 s12 (by omega) (by omega)
  rw [e13, obind_s, dT p13, cnd_t, dT (show v13 < ((9 : Nat) : Int) from q13), cnd_t]
  obtain ⟨v14, n14, e14, p14, q14, r14, s14⟩ := Num_spec N 9 l n13 hU hl r13 s13 (by omega) (by omega)
  rw [e14, obind_s, dT p14, cnd_t, dT (show v14 < ((9 : Nat) : Int) from q14), cnd_t]
  obtain ⟨v15, n15, e15, p15, q15, r15, s15⟩ := Num_spec N 9 l n14 hU hl r14 s14 (by omega) (by omega)
  rw [e15, obind_s, dT p15, cnd_t, dT (show v15 < ((9 : Nat) : Int) from q15), cnd_t]
  obtain ⟨v16, n16, e16, p16, q16, r16, s16⟩ := Num_spec N 9 l n15 hU hl r15 s15 (by omega) (by omega)
  rw [e16, obind_s, dT p16, cnd_t, dT (show v16 < ((9 : Nat) : Int) from q16), cnd_t]
  obtain ⟨v17, n17, e17, p17, q17, r17, s17⟩ := Num_spec N 9 l n16 hU hl r16 s16 (by omega) (by omega)
  rw [e17, obind_s, dT p17, cnd_t, dT (show v17 < ((9 : Nat) : Int) from q17), cnd_t]
  obtain ⟨v18, n18, e18, p18, q18, r18, s18⟩ := Num_spec N 9 l n17 hU hl r17 s17 (by omega) (by omega)
  rw [e18, obind_s, dT p18, cnd_t, dT (show v18 < ((9 : Nat) : Int) from q18), cnd_t]
  obtain ⟨v19, n19, e19, p19, q19, r19, s19⟩ := Num_spec N 9 l n18 hU hl r18 s18 (by omega) (by omega)
  rw [e19, obind_s, dT p19, cnd_t, dT (show v19 < ((9 : Nat) : Int) from q19), cnd_t]
  obtain ⟨v20, n20, e20, p20, q20, r20, s20⟩ := Num_spec N 9 l n19 hU hl r19 s19 (by omega) (by omega)
  rw [e20, obind_s, dT p20, cnd_t, dT (show v20 < ((9 : Nat) : Int) from q20), cnd_t]
  obtain ⟨v21, n21, e21, p21, q21, r21, s21⟩ := Num_spec N 9 l n20 hU hl r20 s20 (by omega) (by omega)
  rw [e21, obind_s, dT p21, cnd_t, dT (show v21 < ((9 : Nat) : Int) from q21), cnd_t]
  obtain ⟨v22, n22, e22, p22, q22, r22, s22⟩ := Num_spec N 9 l n21 hU hl r21 s21 (by omega) (by omega)
  rw [e22, obind_s, dT p22, cnd_t, dT (show v22 < ((9 : Nat) : Int) from q22), cnd_t]
  obtain ⟨v23, n23, e23, p23, q23, r23, s23⟩ := Num_spec N 9 l n22 hU hl r22 s22 (by omega) (by omega)
  rw [e23, obind_s, dT p23, cnd_t, dT (show v23 < ((9 : Nat) : Int) from q23), cnd_t]
  obtain ⟨v24, n24, e24, p24, q24, r24, s24⟩ := Num_spec N 9 l n23 hU hl r23 s23 (by omega) (by omega)
  rw [e24, obind_s, dT p24, cnd_t, dT (show v24 < ((9 : Nat) : Int) from q24), cnd_t]
  obtain ⟨v25, n25, e25, p25, q25, r25, s25⟩ := Num_spec N 9 l n24 hU hl r24 s24 (by omega) (by omega)
  rw [e25, obind_s, dT p25, cnd_t, dT (show v25 < ((9 : Nat) : Int) from q25), cnd_t]
  obtain ⟨v26, n26, e26, p26, q26, r26, s26⟩ := Num_spec N 9 l n25 hU hl r25 s25 (by omega) (by omega)
  rw [e26, obind_s, dT p26, cnd_t, dT (show v26 < ((9 : Nat) : Int) from q26), cnd_t]
  obtain ⟨v27, n27, e27, p27, q27, r27, s27⟩ := Num_spec N 9 l n26 hU hl r26 s26 (by omega) (by omega)
  rw [e27, obind_s, dT p27, cnd_t, dT (show v27 < ((9 : Nat) : Int) from q27), cnd_t]
  refine ⟨[[(0 : Int), dv v0, dv v1, dv v3, dv v6, dv v10, dv v15, dv v21], [dv v0, (0 : Int), dv v2, dv v4, dv v7, dv v11, dv v16, dv v22], [dv v1, dv v2, (0 : Int), dv v5, dv v8, dv v12, dv v17, dv v23], [dv v3, dv v4, dv v5, (0 : Int), dv v9, dv v13, dv v18, dv v24], [dv v6, dv v7, dv v8, dv v9, (0 : Int), dv v14, dv v19, dv v25], [dv v10, dv v11, dv v12, dv v13, dv v14, (0 : Int), dv v20, dv v26], [dv v15, dv v16, dv v17, dv v18, dv v19, dv v20, (0 : Int), dv v27], [dv v21, dv v22, dv v23, dv v24, dv v25, dv v26, dv v27, (0 : Int)]], n27, rfl, ?_⟩
  have d0 := dv_rng v0
  have d1 := dv_rng v1
  have d2 := dv_rng v2
  have d3 := dv_rng v3
  have d4 := dv_rng v4
  have d5 := dv_rng v5
  have d6 := dv_rng v6
  have d7 := dv_rng v7
  have d8 := dv_rng v8
  have d9 := dv_rng v9
  have d10 := dv_rng v10
  have d11 := dv_rng v11
  have d12 := dv_rng v12
  have d13 := dv_rng v13
  have d14 := dv_rng v14
  have d15 := dv_rng v15
  have d16 := dv_rng v16
  have d17 := dv_rng v17
  have d18 := dv_rng v18
  have d19 := dv_rng v19
  have d20 := dv_rng v20
  have d21 := dv_rng v21
  have d22 := dv_rng v22
  have d23 := dv_rng v23
  have d24 := dv_rng v24
  have d25 := dv_rng v25
  have d26 := dv_rng v26
  have d27 := dv_rng v27
  generalize dv v0 = w0 at *
  generalize dv v1 = w1 at *
  generalize dv v2 = w2 at *
  generalize dv v3 = w3 at *
  generalize dv v4 = w4 at *
  generalize dv v5 = w5 at *
  generalize dv v6 = w6 at *
  generalize dv v7 = w7 at *
  generalize dv v8 = w8 at *
  generalize dv v9 = w9 at *
  generalize dv v10 = w10 at *
  generalize dv v11 = w11 at *
  generalize dv v12 = w12 at *
  generalize dv v13 = w13 at *
  generalize dv v14 = w14 at *
  generalize dv v15 = w15 at *
  generalize dv v16 = w16 at *
  generalize dv v17 = w17 at *
  generalize dv v18 = w18 at *
  generalize dv v19 = w19 at *
  generalize dv v20 = w20 at *
  generalize dv v21 = w21 at *
  generalize dv v22 = w22 at *
  generalize dv v23 = w23 at *
  generalize dv v24 = w24 at *
  generalize dv v25 = w25 at *
  generalize dv v26 = w26 at *
  generalize dv v27 = w27 at *
  refine ⟨rfl, lt8 rfl rfl rfl rfl rfl rfl rfl rfl, ?_, fun i j hi hj => lt8 (P := fun i => ∀ j, j < 8 → gd [[(0 : Int), w0, w1, w3, w6, w10, w15, w21], [w0, (0 : Int), w2, w4, w7, w11, w16, w22], [w1, w2, (0 : Int), w5, w8, w12, w17, w23], [w3, w4, w5, (0 : Int), w9, w13, w18, w24], [w6, w7, w8, w9, (0 : Int), w14, w19, w25], [w10, w11, w12, w13, w14, (0 : Int), w20, w26], [w15, w16, w17, w18, w19, w20, (0 : Int), w27], [w21, w22, w23, w24, w25, w26, w27, (0 : Int)]] i j = gd [[(0 : Int), w0, w1, w3, w6, w10, w15, w21], [w0, (0 : Int), w2, w4, w7, w11, w16, w22], [w1, w2, (0 : Int), w5, w8, w12, w17, w23], [w3, w4, w5, (0 : Int), w9, w13, w18, w24], [w6, w7, w8, w9, (0 : Int), w14, w19, w25], [w10, w11, w12, w13, w14, (0 : Int), w20, w26], [w15, w16, w17, w18, w19, w20, (0 : Int), w27], [w21, w22, w23, w24, w25, w26, w27, (0 : Int)]] j i) (lt8 rfl rfl rfl rfl rfl rfl rfl rfl) (lt8 rfl rfl rfl rfl rfl rfl rfl rfl) (lt8 rfl rfl rfl rfl rfl rfl rfl rfl) (lt8 rfl rfl rfl rfl rfl rfl rfl rfl) (lt8 rfl rfl rfl rfl rfl rfl rfl rfl) (lt8 rfl rfl rfl rfl rfl rfl rfl rfl) (lt8 rfl rfl rfl rfl rfl rfl rfl rfl) (lt8 rfl rfl rfl rfl rfl rfl rfl rfl) i hi j hj⟩
  have z : (0 : Int) ≤ 0 ∧ (0 : Int) ≤ 1000 := ⟨by omega, by omega⟩
  refine fun i j hi hj => lt8 (P := fun i => ∀ j, j < 8 → 0 ≤ gd [[(0 : Int), w0, w1, w3, w6, w10, w15, w21], [w0, (0 : Int), w2, w4, w7, w11, w16, w22], [w1, w2, (0 : Int), w5, w8, w12, w17, w23], [w3, w4, w5, (0 : Int), w9, w13, w18, w24], [w6, w7, w8, w9, (0 : Int), w14, w19, w25], [w10, w11, w12, w13, w14, (0 : Int), w20, w26], [w15, w16, w17, w18, w19, w20, (0 : Int), w27], [w21, w22, w23, w24, w25, w26, w27, (0 : Int)]] i j ∧ gd [[(0 : Int), w0, w1, w3, w6, w10, w15, w21], [w0, (0 : Int), w2, w4, w7, w11, w16, w22], [w1, w2, (0 : Int), w5, w8, w12, w17, w23], [w3, w4, w5, (0 : Int), w9, w13, w18, w24], [w6, w7, w8, w9, (0 : Int), w14, w19, w25], [w10, w11, w12, w13, w14, (0 : Int), w20, w26], [w15, w16, w17, w18, w19, w20, (0 : Int), w27], [w21, w22, w23, w24, w25, w26, w27, (0 : Int)]] i j ≤ 1000) ?_ ?_ ?_ ?_ ?_ ?_ ?_ ?_ i hi j hj
  · exact lt8 z d0 d1 d3 d6 d10 d15 d21
  · exact lt8 d0 z d2 d4 d7 d11 d16 d22
  · exact lt8 d1 d2 z d5 d8 d12 d17 d23
  · exact lt8 d3 d4 d5 z d9 d13 d18 d24
  · exact lt8 d6 d7 d8 d9 z d14 d19 d25
  · exact lt8 d10 d11 d12 d13 d14 z d20 d26
  · exact lt8 d15 d16 d17 d18 d19 d20 z d27
  · exact lt8 d21 d22 d23 d24 d25 d26 d27 z
theorem loop_post {σ ρ β : Type} {f : σ → Option (σ ⊕ ρ)} {k : ρ → Option β} {x : σ} {N : Nat} (Q : Option β → Prop) (I : σ → Prop) (m : σ → Nat) (J : ρ → Prop) (hx : I x) (hm : m x < N) (hk : ∀ r, J r → Q (k r))
    (hs : ∀ x, I x → (∃ y, f x = some (.inl y) ∧ I y ∧ m y < m x) ∨ ∃ r, f x = some (.inr r) ∧ J r) : Q (obind (loopN N f x) k) := by
  obtain ⟨r, h1, h2⟩ := loopN_run I m J hs N x hx hm
  rw [h1]; exact hk r h2
def S8 (l : List Int) : Prop := ∀ b ∈ l, 1 ≤ b ∧ b ≤ 8
def G (D : List (List Int)) (a b : Int) : Int := gd D (a - 1).toNat (b - 1).toNat
def far (D : List (List Int)) (a : Int) (l : List Int) : Int := l.foldl (fun m b => max m (G D a b)) 0
theorem take_snoc (l : List Int) (j : Nat) (h : j < l.length) : l.take (j + 1) = l.take j ++ [l.getD j 0] := by
  rw [List.take_add_one, List.getD_eq_getElem?_getD, List.getElem?_eq_getElem h]; rfl
theorem getD_mem (l : List Int) (j : Nat) (h : j < l.length) : l.getD j 0 ∈ l := by
  rw [List.getD_eq_getElem?_getD, List.getElem?_eq_getElem h]
  exact List.getElem_mem h
theorem far_snoc (D : List (List Int)) (a : Int) (l : List Int) (b : Int) : far D a (l ++ [b]) = max (far D a l) (G D a b) := by
  unfold far; rw [List.foldl_append]; rfl
theorem row_eq {D : List (List Int)} (hD : GD D) {a : Int} (ha : 1 ≤ a ∧ a ≤ 8) : ((D.getD (a - 1).toNat []).length : Int) = 8 := by
  have := hD.row (a - 1).toNat (by omega); omega
theorem len_eq {D : List (List Int)} (hD : GD D) : (D.length : Int) = 8 := by
  have := hD.len; omega
theorem between_eq (N : Nat) {D : List (List Int)} (hD : GD D) {a b : Int} (ha : 1 ≤ a ∧ a ≤ 8) (hb : 1 ≤ b ∧ b ≤ 8) : W_mid_between N (D, a, b) = some (G D a b) := by
  unfold W_mid_between V_mid_between
  try simp only
  rw [wr_m (z := a - 1) (by omega) (by omega), wr_m (z := b - 1) (by omega) (by omega), row_eq hD ha, len_eq hD]
  rw [dF (show ¬ a < 1 by omega), cnd_f, dF (show ¬ 8 < a by omega), obind_s, cnd_f, dF (show ¬ b < 1 by omega), obind_s, cnd_f, dT (show 0 ≤ a - 1 by omega), dT (show a - 1 < 8 by omega), Bool.and_self, cnd_t, dF (show ¬ 8 < b by omega), cnd_f, cnd_t, dT (show 0 ≤ b - 1 by omega), dT (show b - 1 < 8 by omega), Bool.and_self, cnd_t]
  rfl
theorem Far_eq (N : Nat) {D : List (List Int)} (hD : GD D) {a : Int} (ha : 1 ≤ a ∧ a ≤ 8) {l : List Int} (hl : S8 l) (hlen : l.length ≤ 900) (hN : 1000 ≤ N) : W_mid_Far N (D, a, l) = some (far D a l) := by
  unfold W_mid_Far V_mid_Far
  try simp only
  refine loop_post (fun o => o = some (far D a l)) (fun v => 0 ≤ v.2 ∧ v.2 ≤ l.length ∧ v.1 = far D a (l.take v.2.toNat)) (fun v => l.length - v.2.toNat) (fun r => r = far D a l) ⟨by simp, by simp, rfl⟩ (by simp; omega) (fun r h => by rw [h]) ?_
  rintro ⟨m, i⟩ ⟨g1, g2, g3⟩
  simp only at g1 g2 g3 ⊢
  by_cases h : i < l.length
  · left
    have hb := hl _ (getD_mem l i.toNat (by omega))
    rw [dT h, cnd_t, dT g1, Bool.and_self, cnd_t, between_eq N hD ha hb, obind_s, wr_m (by omega) (by omega)]
    refine ⟨_, rfl, ⟨by omega, by omega, ?_⟩, by omega⟩
    try simp only
    rw [show (i + 1).toNat = i.toNat + 1 by omega, take_snoc l _ (by omega), far_snoc, g3]
  · right
    rw [dF h, cnd_f]
    refine ⟨_, rfl, ?_⟩
    rw [g3, List.take_of_length_le (by omega)]
/-- The least of a list by a measure, then by itself. -/
def Least (F : Int → Int) (l : List Int) (w : Int) : Prop := w ∈ l ∧ ∀ x ∈ l, F w < F x ∨ (F w = F x ∧ w ≤ x)
theorem Least_one {F : Int → Int} {l : List Int} {v w : Int} (hv : Least F l v) (hw : Least F l w) : v = w := by
  have h1 := hv.2 w hw.1
  have h2 := hw.2 v hv.1
  omega
theorem Least_snoc {F : Int → Int} {l : List Int} {w b : Int} (h : Least F l w) : Least F (l ++ [b]) (if F b < F w ∨ F w = F b ∧ b < w then b else w) := by
  by_cases c : F b < F w ∨ F w = F b ∧ b < w
  · rw [if_pos c]
    refine ⟨by simp, fun x hx => ?_⟩
    rcases List.mem_append.1 hx with hx | hx
    · have := h.2 x hx; omega
    · rw [List.mem_singleton.1 hx]; omega
  · rw [if_neg c]
    refine ⟨List.mem_append.2 (.inl h.1), fun x hx => ?_⟩
    rcases List.mem_append.1 hx with hx | hx
    · exact h.2 x hx
    · rw [List.mem_singleton.1 hx]; omega
theorem Least_first {F : Int → Int} {b : Int} : Least F [b] b := ⟨by simp, fun x hx => by rw [List.mem_singleton.1 hx]; omega⟩
theorem better_l (N : Nat) (u : Unit) (a f : Int) : W_mid_better N (.inl u, a, f) = some (a, f) := rfl
theorem better_r (N : Nat) (w g a f : Int) : W_mid_better N (.inr (w, g), a, f) = some (if f < g ∨ g = f ∧ a < w then (a, f) else (w, g)) := by
  unfold W_mid_better V_mid_better
  try simp only
  rw [selim_r]
  by_cases h : g < f
  · rw [dT h, cnd_t, if_neg (by omega)]
  rw [dF h, cnd_f]
  by_cases h2 : g = f
  · rw [dT h2, cnd_t]
    by_cases h3 : w < a
    · rw [dT h3, cnd_t, if_neg (by omega)]
    · rw [dF h3, cnd_f]
      by_cases h4 : a < w
      · rw [if_pos (.inr ⟨h2, h4⟩)]
      · rw [if_neg (by omega), show a = w by omega, h2]
  · rw [dF h2, cnd_f, if_pos (by omega)]
/-- What the search for the least has: nothing from an empty list, the least from another. -/
def Sofar (F : Int → Int) (l : List Int) (c : Unit ⊕ (Int × Int)) : Prop := (l = [] ∧ c = .inl ()) ∨ ∃ w, c = .inr (w, F w) ∧ Least F l w
theorem Sofar_snoc (N : Nat) {F : Int → Int} {l : List Int} {c : Unit ⊕ (Int × Int)} (h : Sofar F l c) (b : Int) : ∃ p : Int × Int, W_mid_better N (c, b, F b) = some p ∧ Sofar F (l ++ [b]) (.inr p) := by
  rcases h with ⟨rfl, rfl⟩ | ⟨w, rfl, hw⟩
  · exact ⟨_, better_l N () b (F b), .inr ⟨b, rfl, Least_first⟩⟩
  · rw [better_r]
    refine ⟨_, rfl, .inr ⟨_, ?_, Least_snoc (b := b) hw⟩⟩
    by_cases c : F b < F w ∨ F w = F b ∧ b < w
    · rw [if_pos c, if_pos c]
    · rw [if_neg c, if_neg c]
def Who (F : Int → Int) (l : List Int) (v : Int) : Prop := (l = [] ∧ v = 0) ∨ Least F l v
theorem Sofar_who (N : Nat) {F : Int → Int} {l : List Int} {c : Unit ⊕ (Int × Int)} (h : Sofar F l c) : ∃ v, W_mid_who N c = some v ∧ Who F l v := by
  rcases h with ⟨rfl, rfl⟩ | ⟨w, rfl, hw⟩
  · exact ⟨0, rfl, .inl ⟨rfl, rfl⟩⟩
  · exact ⟨w, rfl, .inr hw⟩
theorem Near_spec (N : Nat) {D : List (List Int)} (hD : GD D) {a : Int} (ha : 1 ≤ a ∧ a ≤ 8) {l : List Int} (hl : S8 l) (hlen : l.length ≤ 900) (hN : 1000 ≤ N) : ∃ v, W_mid_Near N (D, a, l) = some v ∧ Who (fun x => G D a x) (l.filter fun x => decide (x ≠ a)) v := by
  unfold W_mid_Near V_mid_Near
  try simp only
  refine loop_post (fun o => ∃ v, o = some v ∧ Who (fun x => G D a x) (l.filter fun x => decide (x ≠ a)) v) (fun v => 0 ≤ v.2 ∧ v.2 ≤ l.length ∧ Sofar (fun x => G D a x) ((l.take v.2.toNat).filter fun x => decide (x ≠ a)) v.1) (fun v => l.length - v.2.toNat) (fun r => Sofar (fun x => G D a x) (l.filter fun x => decide (x ≠ a)) r) ⟨by simp, by simp, .inl ⟨rfl, rfl⟩⟩ (by simp; omega) (fun r h => ?_) ?_
  · obtain ⟨v, e, h⟩ := Sofar_who N h
    rw [e]; exact ⟨v, rfl, h⟩
  rintro ⟨m, i⟩ ⟨g1, g2, g3⟩
  simp only at g1 g2 g3 ⊢
  by_cases h : i < l.length
  · left
    have hb := hl _ (getD_mem l i.toNat (by omega))
    have ht : l.take (i + 1).toNat = l.take i.toNat ++ [l.getD i.toNat 0] := by rw [show (i + 1).toNat = i.toNat + 1 by omega, take_snoc l _ (by omega)]
    rw [dT h, cnd_t, dT g1, Bool.and_self, cnd_t, wr_m (z := i + 1) (by omega) (by omega)]
    generalize l.getD i.toNat 0 = b at *
    by_cases hba : b = a
    · refine ⟨(m, i + 1), cnd_F (fun c => c hba), ⟨by omega, by omega, ?_⟩, by simp only; omega⟩
      try simp only
      rw [ht, List.filter_append, show List.filter (fun x => decide (x ≠ a)) [b] = [] by simp [hba], List.append_nil]
      exact g3
    · obtain ⟨p, e, hp⟩ := Sofar_snoc N g3 b
      refine ⟨(.inr p, i + 1), (cnd_T hba).trans ?_, ⟨by omega, by omega, ?_⟩, by simp only; omega⟩
      · rw [between_eq N hD ha hb, obind_s, e, obind_s]
      · simp only
        rw [ht, List.filter_append, show List.filter (fun x => decide (x ≠ a)) [b] = [b] by simp [hba]]
        exact hp
  · right
    rw [dF h, cnd_f]
    refine ⟨_, rfl, ?_⟩
    rw [List.take_of_length_le (by omega)] at g3
    exact g3
theorem Has_eq (N : Nat) (l : List Int) (a : Int) (hlen : l.length ≤ 900) (hN : 1000 ≤ N) : W_ref1_Has N (l, a) = some (decide (a ∈ l)) := by
  unfold W_ref1_Has V_ref1_Has
  try simp only
  refine loop_post (fun o => o = some (decide (a ∈ l))) (fun v => 0 ≤ v ∧ v ≤ l.length ∧ a ∉ l.take v.toNat) (fun v => l.length - v.toNat) (fun r => (r = .inl () ∧ a ∉ l) ∨ (r = .inr true ∧ a ∈ l)) ⟨by simp, by simp, by simp⟩ (by simp; omega) (fun r h => ?_) ?_
  · rcases h with ⟨rfl, h⟩ | ⟨rfl, h⟩
    · rw [selim_l, dF h]
    · rw [selim_r, dT h]
  rintro i ⟨g1, g2, g3⟩
  by_cases h : i < l.length
  · rw [dT h, cnd_t, dT g1, Bool.and_self, cnd_t]
    by_cases e : l.getD i.toNat 0 = a
    · right
      rw [dT e, cnd_t]
      exact ⟨_, rfl, .inr ⟨rfl, e ▸ getD_mem l i.toNat (by omega)⟩⟩
    · left
      rw [dF e, cnd_f, wr_m (by omega) (by omega)]
      refine ⟨_, rfl, ⟨by omega, by omega, ?_⟩, by omega⟩
      rw [show (i + 1).toNat = i.toNat + 1 by omega, take_snoc l _ (by omega)]
      intro hm
      rcases List.mem_append.1 hm with hm | hm
      · exact g3 hm
      · exact e (List.mem_singleton.1 hm).symm
  · right
    rw [dF h, cnd_f]
    rw [List.take_of_length_le (by omega)] at g3
    exact ⟨_, rfl, .inl ⟨rfl, g3⟩⟩
abbrev Up (l : List Int) : Prop := l.Pairwise (· < ·)
theorem Up_nodup {l : List Int} (h : Up l) : l.Nodup := h.imp fun h => by omega
theorem Up_eq : ∀ {l m : List Int}, Up l → Up m → (∀ x, x ∈ l ↔ x ∈ m) → l = m
  | [], [], _, _, _ => rfl
  | [], b :: m, _, _, h => by have := (h b).2 (List.mem_cons_self ..); cases this
  | a :: l, [], _, _, h => by have := (h a).1 (List.mem_cons_self ..); cases this
  | a :: l, b :: m, hl, hm, h => by
    have hl' := List.pairwise_cons.1 hl
    have hm' := List.pairwise_cons.1 hm
    have hab : a = b := by
      rcases List.mem_cons.1 ((h a).1 (List.mem_cons_self ..)) with e | e
      · exact e
      rcases List.mem_cons.1 ((h b).2 (List.mem_cons_self ..)) with e2 | e2
      · exact e2.symm
      · have h1 := hm'.1 a e; have h2 := hl'.1 b e2; omega
    subst hab
    rw [Up_eq hl'.2 hm'.2 fun x => ?_]
    constructor
    · intro hx
      rcases List.mem_cons.1 ((h x).1 (List.mem_cons_of_mem _ hx)) with e | e
      · have := hl'.1 x hx; omega
      · exact e
    · intro hx
      rcases List.mem_cons.1 ((h x).2 (List.mem_cons_of_mem _ hx)) with e | e
      · have := hm'.1 x hx; omega
      · exact e
theorem Up_snoc {l : List Int} {b : Int} (h : Up l) (hb : ∀ x ∈ l, x < b) : Up (l ++ [b]) := by
  rw [Up, List.pairwise_append]
  exact ⟨h, by simp, fun x hx y hy => by rw [List.mem_singleton.1 hy]; exact hb x hx⟩
/-- What is laid in, in its order. -/
def ins (l m : List Int) : List Int := (l ++ m).mergeSort fun a b => decide (a ≤ b)
theorem ins_mem {l m : List Int} {x : Int} : x ∈ ins l m ↔ x ∈ l ∨ x ∈ m := by
  unfold ins
  rw [List.mem_mergeSort, List.mem_append]
theorem ins_len {l m : List Int} : (ins l m).length = l.length + m.length := by
  unfold ins
  rw [List.length_mergeSort, List.length_append]
theorem ins_up {l m : List Int} (h : (l ++ m).Nodup) : Up (ins l m) := by
  have h1 : (ins l m).Nodup := (List.mergeSort_perm _ _).nodup_iff.2 h
  have h2 : (ins l m).Pairwise (fun a b => decide (a ≤ b) = true) := List.pairwise_mergeSort (fun a b c h1 h2 => by simp only [decide_eq_true_eq] at h1 h2 ⊢; omega) (fun a b => by simp only [Bool.or_eq_true, decide_eq_true_eq]; omega) _
  exact (h2.and h1).imp fun ⟨p, q⟩ => by simp only [decide_eq_true_eq] at p; omega
/-- What is left without one. -/
def les (l : List Int) (k : Int) : List Int := l.filter fun x => decide (x ≠ k)
theorem les_mem {l : List Int} {k x : Int} : x ∈ les l k ↔ x ∈ l ∧ x ≠ k := by
  unfold les
  rw [List.mem_filter, decide_eq_true_eq]
theorem les_up {l : List Int} {k : Int} (h : Up l) : Up (les l k) := h.filter _
theorem les_len : ∀ {l : List Int} {k : Int}, l.Nodup → k ∈ l → (les l k).length + 1 = l.length
  | [], k, _, h => nomatch h
  | a :: l, k, hn, h => by
    have hn' := List.nodup_cons.1 hn
    unfold les
    by_cases e : a = k
    · subst e
      rw [List.filter_cons_of_neg (by simp)]
      rw [List.filter_eq_self.2 fun x hx => by simp only [decide_eq_true_eq]; intro q; exact hn'.1 (q ▸ hx)]
      rfl
    · rw [List.filter_cons_of_pos (by simpa using e)]
      rcases List.mem_cons.1 h with h | h
      · exact absurd h.symm e
      · have := les_len hn'.2 h
        unfold les at this
        simp only [List.length_cons]; omega
theorem les_le {l : List Int} {k : Int} : (les l k).length ≤ l.length := List.length_filter_le _ _
theorem Clone_i (N : Nat) (l : List Int) (hl : l.length ≤ 1000) : W_slices_Clone_int N l = some l := by
  unfold W_slices_Clone_int V_slices_Clone_int
  rw [dT (show l.length * 8 ≤ 140737488355328 by omega), cnd_t]
theorem with_eq (N : Nat) (l m : List Int) (hl : l.length ≤ 900) (hm : m.length ≤ 900) (h0 : 0 < m.length) : W_clus_with N (l, m) = some (ins l m) := by
  have hs : W_slices_Sort_int N (l ++ m) = some (ins l m) := by
    unfold W_slices_Sort_int ins
    first
      | rw [dT (show 0 < (l ++ m).length by rw [List.length_append]; omega), dT (show (l ++ m).length ≤ 140737488355328 by rw [List.length_append]; omega), Bool.and_self, cnd_t]
      | rw [dT (show (l ++ m).length ≤ 140737488355328 by rw [List.length_append]; omega), cnd_t, srt_eq]
  unfold W_clus_with V_clus_with
  try simp only
  rw [Clone_i N l (by omega), obind_s, dT (show (l.length + m.length) * 8 ≤ 140737488355328 by omega), cnd_t, hs, obind_s]
  exact cnd_T (by rw [ins_len, List.length_append])
theorem apart_eq (N : Nat) {D : List (List Int)} (hD : GD D) {a b : Int} (ha : 1 ≤ a ∧ a ≤ 8) (hb : 1 ≤ b ∧ b ≤ 8) (hN : 1000 ≤ N) : W_clus_apart N (D, a, b) = some (far D a [b]) := by
  unfold W_clus_apart V_clus_apart
  try simp only
  rw [Far_eq N hD ha (fun x hx => by rw [List.mem_singleton.1 hx]; exact hb) (by simp) hN, obind_s]
theorem rises_eq (N : Nat) {l : List Int} (hl : S8 l) (hu : Up l) (hlen : l.length ≤ 900) (hN : 1000 ≤ N) : W_clus_rises N l = some true := by
  unfold W_clus_rises V_clus_rises
  refine loop_post (σ := Int × Int) (ρ := Unit ⊕ Bool) (β := Bool) (fun o => o = some true) (fun v => (0 ≤ v.2 ∧ v.2 ≤ l.length) ∧ ∀ x ∈ l.drop v.2.toNat, v.1 < x) (fun v => l.length - v.2.toNat) (fun r => r = .inl ()) ⟨⟨by simp, by simp⟩, fun x hx => by have := hl x (List.mem_of_mem_drop hx); simp only; omega⟩ (by simp; omega) (fun r h => by rw [h, selim_l]) ?_
  rintro ⟨m, i⟩ ⟨⟨g1, g2⟩, g3⟩
  simp only at g1 g2 g3 ⊢
  by_cases h : i < l.length
  · left
    have hj : i.toNat < l.length := by omega
    have hd : l.drop i.toNat = l[i.toNat] :: l.drop (i.toNat + 1) := List.drop_eq_getElem_cons hj
    have hg : l.getD i.toNat 0 = l[i.toNat] := by rw [List.getD_eq_getElem?_getD, List.getElem?_eq_getElem hj]; rfl
    have hb := hl _ (getD_mem l i.toNat hj)
    rw [hd] at g3
    have h1 := g3 _ (List.mem_cons_self ..)
    have hud : Up (l.drop i.toNat) := List.Pairwise.drop hu
    rw [hd] at hud
    rw [dT h, cnd_t, dT g1, Bool.and_self, cnd_t, dF (show ¬ l.getD i.toNat 0 ≤ m by rw [hg]; omega), cnd_f, dF (show ¬ 8 < l.getD i.toNat 0 by omega), cnd_f, wr_m (by omega) (by omega)]
    refine ⟨_, rfl, ⟨⟨by simp only; omega, by simp only; omega⟩, ?_⟩, by simp only; omega⟩
    try simp only
    rw [hg, show (i + 1).toNat = i.toNat + 1 by omega]
    exact (List.pairwise_cons.1 hud).1
  · right
    rw [dF h, cnd_f]
    exact ⟨_, rfl, rfl⟩
theorem without_eq (N : Nat) (l : List Int) (k : Int) (h0 : 0 < l.length) (hl : l.length ≤ 900) : W_clus_without N (l, k) = some (les l k) := by
  unfold W_clus_without V_clus_without
  try simp only
  rw [Clone_i N l (by omega), obind_s]
  have e : W_slices_DeleteFunc_int__clus_without_1 N (l, k) = some (k, les l k) := by
    unfold W_slices_DeleteFunc_int__clus_without_1 les
    try simp only
    rw [dT h0, dT (show l.length ≤ 140737488355328 by omega), Bool.and_self, cnd_t]
    have : (fun (a : Int) => !decide (a = k)) = fun a => decide (a ≠ k) := by
      funext a
      by_cases h : a = k <;> simp [h]
    rw [this]
  rw [e, obind_s]
theorem farthest_spec (N : Nat) {D : List (List Int)} (hD : GD D) {l : List Int} (hl : S8 l) (hu : Up l) (h2 : 2 ≤ l.length) (hlen : l.length ≤ 900) (hN : 1000 ≤ N) : ∃ lo hi, W_clus_farthest N (D, l) = some (.inl (lo, hi)) ∧ lo ∈ l ∧ hi ∈ l ∧ lo < hi := by
  unfold W_clus_farthest V_clus_farthest
  try simp only
  rw [dF (show ¬ (l.length : Int) < 2 by omega), cnd_f, rises_eq N hl hu hlen hN, obind_s, Bool.not_true, cnd_f, dT (Int.le_refl 0), dT (show (0 : Int) < l.length by omega), Bool.and_self, cnd_t, dT (show (0 : Int) ≤ 1 by omega), dT (show (1 : Int) < l.length by omega), Bool.and_self, cnd_t, List.take_length]
  have hlow : ∀ j : Nat, j < l.length → ∀ x ∈ l.drop (j + 1), l.getD j 0 < x := fun j hj => by
    have hd : l.drop j = l[j] :: l.drop (j + 1) := List.drop_eq_getElem_cons hj
    have hud : Up (l.drop j) := List.Pairwise.drop hu
    rw [hd] at hud
    have hg : l.getD j 0 = l[j] := by rw [List.getD_eq_getElem?_getD, List.getElem?_eq_getElem hj]; rfl
    rw [hg]
    exact (List.pairwise_cons.1 hud).1
  have h01 : l.getD 0 0 < l.getD 1 0 := hlow 0 (by omega) _ (by
    have e : (l.drop (0 + 1)).getD 0 0 = l.getD 1 0 := by simp [List.getD_eq_getElem?_getD]
    rw [← e]
    exact getD_mem _ _ (by rw [List.length_drop]; omega))
  refine loop_post (σ := Int × Int × Int) (ρ := Int × Int) (β := (Int × Int) ⊕ Unit) (fun o => ∃ lo hi, o = some (.inl (lo, hi)) ∧ lo ∈ l ∧ hi ∈ l ∧ lo < hi) (fun v => (0 ≤ v.1 ∧ v.1 ≤ l.length) ∧ v.2.1 ∈ l ∧ v.2.2 ∈ l ∧ v.2.1 < v.2.2) (fun v => l.length - v.1.toNat) (fun r => r.1 ∈ l ∧ r.2 ∈ l ∧ r.1 < r.2) ⟨⟨by simp, by simp⟩, getD_mem _ _ (by omega), getD_mem _ _ (by omega), h01⟩ (by simp; omega) (fun r h => ⟨_, _, rfl, h⟩) ?_
  rintro ⟨i, lo, hi⟩ ⟨⟨g1, g2⟩, g3, g4, g5⟩
  simp only at g1 g2 g3 g4 g5 ⊢
  by_cases h : i < l.length
  · left
    rw [dT h, cnd_t, dT g1, Bool.and_self, cnd_t, wr_m (z := i + 1) (by omega) (by omega), dT (show 0 ≤ i + 1 by omega), dT (show i + 1 ≤ l.length by omega), Bool.and_self, cnd_t, show (i + 1).toNat = i.toNat + 1 by omega]
    have hlo := hlow i.toNat (by omega)
    have him := getD_mem l i.toNat (by omega)
    have hrm : ∀ x ∈ l.drop (i.toNat + 1), x ∈ l := fun x hx => List.mem_of_mem_drop hx
    have hrl : (l.drop (i.toNat + 1)).length ≤ 900 := by rw [List.length_drop]; omega
    generalize l.drop (i.toNat + 1) = r at *
    generalize l.getD i.toNat 0 = a at *
    refine loop_post (σ := Int × Int × Int) (ρ := Int × Int) (β := (Int × Int × Int) ⊕ (Int × Int)) (fun o => ∃ y : Int × Int × Int, o = some (.inl y) ∧ ((0 ≤ y.1 ∧ y.1 ≤ l.length) ∧ y.2.1 ∈ l ∧ y.2.2 ∈ l ∧ y.2.1 < y.2.2) ∧ l.length - y.1.toNat < l.length - i.toNat) (fun v => (0 ≤ v.1 ∧ v.1 ≤ r.length) ∧ v.2.1 ∈ l ∧ v.2.2 ∈ l ∧ v.2.1 < v.2.2) (fun v => r.length - v.1.toNat) (fun q => q.1 ∈ l ∧ q.2 ∈ l ∧ q.1 < q.2) ⟨⟨by simp, by simp⟩, g3, g4, g5⟩ (by simp; omega) (fun q h => ⟨_, rfl, ⟨⟨by simp only; omega, by simp only; omega⟩, h⟩, by simp only; omega⟩) ?_
    rintro ⟨j, p, q⟩ ⟨⟨k1, k2⟩, k3, k4, k5⟩
    simp only at k1 k2 k3 k4 k5 ⊢
    by_cases hj : j < r.length
    · left
      have hb := getD_mem r j.toNat (by omega)
      rw [dT hj, cnd_t, dT k1, Bool.and_self, cnd_t]
      generalize r.getD j.toNat 0 = b at *
      have hbl := hrm b hb
      have hab := hlo b hb
      rw [apart_eq N hD (hl a him) (hl b hbl) hN, obind_s, apart_eq N hD (hl p k3) (hl q k4) hN, obind_s, wr_m (by omega) (by omega)]
      by_cases hc : far D p [q] < far D a [b]
      · rw [dT hc, cnd_t]
        exact ⟨_, rfl, ⟨⟨by simp only; omega, by simp only; omega⟩, him, hbl, hab⟩, by simp only; omega⟩
      · rw [dF hc, cnd_f]
        exact ⟨_, rfl, ⟨⟨by simp only; omega, by simp only; omega⟩, k3, k4, k5⟩, by simp only; omega⟩
    · right
      rw [dF hj, cnd_f]
      exact ⟨_, rfl, k3, k4, k5⟩
  · right
    rw [dF h, cnd_f]
    exact ⟨_, rfl, g3, g4, g5⟩
/-- s parted into a and b. -/
structure Pt (s a b : List Int) (lo hi : Int) : Prop where
  ua : Up a
  ub : Up b
  ma : ∀ x ∈ a, x ∈ s
  mb : ∀ x ∈ b, x ∈ s
  cov : ∀ x ∈ s, x ∈ a ∨ x ∈ b
  dis : ∀ x ∈ a, x ∉ b
  len : a.length + b.length = s.length
  la : hi ∉ a
  lb : lo ∉ b
theorem Pt.swap {s a b : List Int} {lo hi : Int} (h : Pt s a b lo hi) : Pt s b a hi lo :=
  ⟨h.ub, h.ua, h.mb, h.ma, fun x hx => (h.cov x hx).symm, fun x hx hy => h.dis x hy hx, by have := h.len; omega, h.lb, h.la⟩
theorem Pt.toA {s a b : List Int} {lo hi x : Int} (h : Pt s a b lo hi) (hs : ∀ y ∈ s, y < x) (hx : x ≠ hi) : Pt (s ++ [x]) (a ++ [x]) b lo hi where
  ua := Up_snoc h.ua fun y hy => hs y (h.ma y hy)
  ub := h.ub
  ma := fun y hy => by
    rcases List.mem_append.1 hy with hy | hy
    · exact List.mem_append.2 (.inl (h.ma y hy))
    · exact List.mem_append.2 (.inr hy)
  mb := fun y hy => List.mem_append.2 (.inl (h.mb y hy))
  cov := fun y hy => by
    rcases List.mem_append.1 hy with hy | hy
    · rcases h.cov y hy with q | q
      · exact .inl (List.mem_append.2 (.inl q))
      · exact .inr q
    · exact .inl (List.mem_append.2 (.inr hy))
  dis := fun y hy hb => by
    rcases List.mem_append.1 hy with hy | hy
    · exact h.dis y hy hb
    · have := hs y (h.mb y hb); rw [List.mem_singleton.1 hy] at this; omega
  len := by have := h.len; simp only [List.length_append, List.length_singleton]; omega
  la := fun hy => by
    rcases List.mem_append.1 hy with hy | hy
    · exact h.la hy
    · exact hx (List.mem_singleton.1 hy).symm
  lb := h.lb
theorem Pt.toB {s a b : List Int} {lo hi x : Int} (h : Pt s a b lo hi) (hs : ∀ y ∈ s, y < x) (hx : x ≠ lo) : Pt (s ++ [x]) a (b ++ [x]) lo hi := (h.swap.toA hs hx).swap
theorem Pt.give {s a b : List Int} {lo hi id : Int} (h : Pt s a b lo hi) (hid : id ∈ b) (hh : id ≠ hi) : Pt s (ins a [id]) (les b id) lo hi where
  ua := ins_up (by
    rw [List.nodup_append]
    refine ⟨Up_nodup h.ua, by simp, fun x hx y hy => ?_⟩
    rw [List.mem_singleton.1 hy]
    exact fun q => h.dis x hx (q ▸ hid))
  ub := les_up h.ub
  ma := fun x hx => by
    rcases ins_mem.1 hx with q | q
    · exact h.ma x q
    · rw [List.mem_singleton.1 q]; exact h.mb id hid
  mb := fun x hx => h.mb x (les_mem.1 hx).1
  cov := fun x hx => by
    rcases h.cov x hx with q | q
    · exact .inl (ins_mem.2 (.inl q))
    · by_cases e : x = id
      · exact .inl (ins_mem.2 (.inr (by simp [e])))
      · exact .inr (les_mem.2 ⟨q, e⟩)
  dis := fun x hx hb => by
    have hb := les_mem.1 hb
    rcases ins_mem.1 hx with q | q
    · exact h.dis x q hb.1
    · exact hb.2 (List.mem_singleton.1 q)
  len := by
    have := h.len
    have := les_len (Up_nodup h.ub) hid
    rw [ins_len, List.length_singleton]; omega
  la := fun q => by
    rcases ins_mem.1 q with q | q
    · exact h.la q
    · exact hh (List.mem_singleton.1 q).symm
  lb := fun q => h.lb (les_mem.1 q).1
theorem fill_spec (N : Nat) {D : List (List Int)} (hD : GD D) {s a b : List Int} {lo hi k : Int} (hs : S8 s) (hsl : s.length ≤ 8) (hlo : lo ∈ s) (hk : 1 ≤ k) (hP : Pt s a b lo hi) (hN : 1000 ≤ N) :
    ∃ a' b', W_clus_fill N (D, (lo, hi), a, b, k) = some (a', b') ∧ Pt s a' b' lo hi ∧ (k ≤ a'.length ∨ (b'.length : Int) ≤ k) ∧ (k ≤ b.length → k ≤ b'.length) := by
  unfold W_clus_fill V_clus_fill
  try simp only
  refine loop_post (σ := List Int × List Int × Int × Int) (ρ := List Int × List Int) (β := List Int × List Int) (fun o => ∃ a' b', o = some (a', b') ∧ Pt s a' b' lo hi ∧ (k ≤ a'.length ∨ (b'.length : Int) ≤ k) ∧ (k ≤ b.length → k ≤ b'.length)) (fun v => (v.2.2.1 = lo ∧ v.2.2.2 = hi) ∧ Pt s v.1 v.2.1 lo hi ∧ (k ≤ b.length → k ≤ v.2.1.length)) (fun v => v.2.1.length) (fun r => Pt s r.1 r.2 lo hi ∧ (k ≤ r.1.length ∨ (r.2.length : Int) ≤ k) ∧ (k ≤ b.length → k ≤ r.2.length)) ⟨⟨rfl, rfl⟩, hP, fun h => h⟩ (by have := hP.len; simp only; omega) (fun r h => ⟨_, _, rfl, h⟩) ?_
  rintro ⟨p, q, u, v⟩ ⟨⟨g1, g2⟩, g3, g4⟩
  simp only at g1 g2 g3 g4 ⊢
  subst g1 g2
  have hlen := g3.len
  by_cases h1 : (p.length : Int) < k
  · rw [dT h1, cnd_t]
    by_cases h2 : k < q.length
    · left
      rw [dT h2, cnd_t, without_eq N q v (by omega) (by omega), obind_s]
      obtain ⟨id, e, hw⟩ := Near_spec N hD (hs u hlo) (l := les q v) (fun x hx => hs x (g3.mb x (les_mem.1 hx).1)) (by have := les_le (l := q) (k := v); omega) hN
      have hid : id ∈ les q v := by
        rcases hw with ⟨h, _⟩ | h
        · exfalso
          have hq : 2 ≤ q.length := by omega
          have : ∃ y, y ∈ les q v := by
            by_cases hv : v ∈ q
            · have := les_len (Up_nodup g3.ub) hv
              obtain ⟨y, hy⟩ := List.exists_mem_of_length_pos (show 0 < (les q v).length by omega)
              exact ⟨y, hy⟩
            · obtain ⟨y, hy⟩ := List.exists_mem_of_length_pos (show 0 < q.length by omega)
              exact ⟨y, les_mem.2 ⟨hy, fun c => hv (c ▸ hy)⟩⟩
          obtain ⟨y, hy⟩ := this
          have : y ∈ (les q v).filter fun x => decide (x ≠ u) := by
            rw [List.mem_filter, decide_eq_true_eq]
            exact ⟨hy, fun c => g3.lb (c ▸ (les_mem.1 hy).1)⟩
          rw [h] at this
          cases this
        · exact (List.mem_filter.1 h.1).1
      have hid2 := les_mem.1 hid
      rw [e, obind_s, with_eq N p [id] (by omega) (by simp) (by simp), obind_s, without_eq N q id (by omega) (by omega), obind_s]
      have hl2 := les_len (Up_nodup g3.ub) hid2.1
      exact ⟨_, rfl, ⟨⟨rfl, rfl⟩, g3.give hid2.1 hid2.2, fun h => by have := g4 h; simp only; omega⟩, by simp only; omega⟩
    · right
      rw [dF h2, cnd_f]
      exact ⟨_, rfl, g3, .inr (by simp only; omega), g4⟩
  · right
    rw [dF h1, cnd_f]
    exact ⟨_, rfl, g3, .inl (by simp only; omega), g4⟩
theorem Split_spec (N : Nat) {D : List (List Int)} (hD : GD D) {l : List Int} {k : Int} (hl : S8 l) (hu : Up l) (h2 : 2 ≤ l.length) (h8 : l.length ≤ 8) (hk : 1 ≤ k) (hN : 1000 ≤ N) :
    ∃ a b lo hi, W_clus_Split N (D, l, k) = some (a, b) ∧ Pt l a b lo hi ∧ lo ∈ l ∧ hi ∈ l ∧ (2 * k ≤ l.length → k ≤ a.length ∧ k ≤ b.length) := by
  obtain ⟨lo, hi, e0, hlo, hhi, hlh⟩ := farthest_spec N hD hl hu h2 (by omega) hN
  unfold W_clus_Split V_clus_Split
  try simp only
  rw [e0, obind_s, selim_l]
  refine loop_post (σ := Int × List Int × List Int × Int × Int) (ρ := List Int × List Int × Int × Int) (β := List Int × List Int) (fun o => ∃ a b lo hi, o = some (a, b) ∧ Pt l a b lo hi ∧ lo ∈ l ∧ hi ∈ l ∧ (2 * k ≤ l.length → k ≤ a.length ∧ k ≤ b.length)) (fun v => (0 ≤ v.1 ∧ v.1 ≤ l.length) ∧ (v.2.2.2.1 = lo ∧ v.2.2.2.2 = hi) ∧ Pt (l.take v.1.toNat) v.2.1 v.2.2.1 lo hi) (fun v => l.length - v.1.toNat) (fun r => (r.2.2.1 = lo ∧ r.2.2.2 = hi) ∧ Pt l r.1 r.2.1 lo hi) ⟨⟨by simp, by simp⟩, ⟨rfl, rfl⟩, ⟨by simp, by simp, by simp, by simp, by simp, by simp, by simp, by simp, by simp⟩⟩ (by simp; omega) (fun r h => ?_) ?_
  · obtain ⟨a, b, u, v⟩ := r
    obtain ⟨⟨q1, q2⟩, hP⟩ := h
    simp only at q1 q2 hP ⊢
    subst q1 q2
    obtain ⟨a1, b1, e1, hP1, h3, h4⟩ := fill_spec N hD hl h8 hlo hk hP hN
    rw [e1, obind_s]
    try simp only
    obtain ⟨b2, a2, e2, hP2, h5, h6⟩ := fill_spec N hD hl h8 hhi hk hP1.swap hN
    rw [e2, obind_s]
    have l1 := hP1.len
    have l2 := hP2.len
    refine ⟨_, _, u, v, rfl, hP2.swap, hlo, hhi, fun hk2 => ?_⟩
    have h7 : k ≤ a2.length := h6 (by omega)
    show k ≤ (a2.length : Int) ∧ k ≤ (b2.length : Int)
    exact ⟨h7, by omega⟩
  rintro ⟨i, a, b, u, v⟩ ⟨⟨g1, g2⟩, ⟨g3, g4⟩, hP⟩
  simp only at g1 g2 g3 g4 hP ⊢
  subst g3 g4
  by_cases h : i < l.length
  · left
    have hst : ∀ y ∈ l.take i.toNat, y < l.getD i.toNat 0 := fun y hy => by
      have hx : l.getD i.toNat 0 ∈ l.drop i.toNat := by
        have e : (l.drop i.toNat).getD 0 0 = l.getD i.toNat 0 := by simp [List.getD_eq_getElem?_getD]
        rw [← e]; exact getD_mem _ _ (by rw [List.length_drop]; omega)
      have hu2 : Up (l.take i.toNat ++ l.drop i.toNat) := by rw [List.take_append_drop]; exact hu
      exact (List.pairwise_append.1 hu2).2.2 y hy _ hx
    have htk : l.take (i + 1).toNat = l.take i.toNat ++ [l.getD i.toNat 0] := by rw [show (i + 1).toNat = i.toNat + 1 by omega, take_snoc l _ (by omega)]
    have hx8 := hl _ (getD_mem l i.toNat (by omega))
    have hPl := hP.len
    rw [List.length_take] at hPl
    rw [dT h, cnd_t, dT g1, Bool.and_self, cnd_t, wr_m (z := i + 1) (by omega) (by omega)]
    generalize l.getD i.toNat 0 = x at *
    have ca : (a.length + [x].length) * 8 ≤ 140737488355328 := by rw [List.length_singleton]; omega
    have cb : (b.length + [x].length) * 8 ≤ 140737488355328 := by rw [List.length_singleton]; omega
    rw [dT ca, dT cb]
    have mk : ∀ a' b', Pt (l.take i.toNat ++ [x]) a' b' u v → ((0 ≤ i + 1 ∧ i + 1 ≤ (l.length : Int)) ∧ (u = u ∧ v = v) ∧ Pt (l.take (i + 1).toNat) a' b' u v) ∧ l.length - (i + 1).toNat < l.length - i.toNat := fun a' b' hp => ⟨⟨⟨by omega, by omega⟩, ⟨rfl, rfl⟩, by rw [htk]; exact hp⟩, by omega⟩
    by_cases c1 : x = u
    · rw [dT c1, cnd_t, cnd_t]
      exact ⟨_, rfl, mk _ _ (hP.toA hst (by omega))⟩
    rw [dF c1, cnd_f]
    by_cases c2 : x = v
    · exact ⟨_, (cnd_F (fun q => q c2)).trans cnd_t, mk _ _ (hP.toB hst c1)⟩
    · rw [apart_eq N hD hx8 (hl u hlo) hN, obind_s, apart_eq N hD hx8 (hl v hhi) hN, obind_s]
      by_cases c3 : far D x [u] ≤ far D x [v]
      · refine ⟨_, (cnd_T c2).trans ((cnd_T c3).trans cnd_t), mk _ _ (hP.toA hst c2)⟩
      · refine ⟨_, (cnd_T c2).trans ((cnd_F c3).trans cnd_t), mk _ _ (hP.toB hst c1)⟩
  · right
    rw [dF h, cnd_f]
    refine ⟨_, rfl, ⟨rfl, rfl⟩, ?_⟩
    rw [List.take_of_length_le (by omega)] at hP
    exact hP
theorem Mid_spec (N : Nat) {D : List (List Int)} (hD : GD D) {l : List Int} (hl : S8 l) (hlen : l.length ≤ 900) (hN : 1000 ≤ N) : ∃ v, W_mid_Mid N (D, l) = some v ∧ Who (fun x => far D x l) l v := by
  unfold W_mid_Mid V_mid_Mid
  try simp only
  refine loop_post (fun o => ∃ v, o = some v ∧ Who (fun x => far D x l) l v) (fun v => 0 ≤ v.2 ∧ v.2 ≤ l.length ∧ Sofar (fun x => far D x l) (l.take v.2.toNat) v.1) (fun v => l.length - v.2.toNat) (fun r => Sofar (fun x => far D x l) l r) ⟨by simp, by simp, .inl ⟨rfl, rfl⟩⟩ (by simp; omega) (fun r h => ?_) ?_
  · obtain ⟨v, e, h⟩ := Sofar_who N h
    rw [e]; exact ⟨v, rfl, h⟩
  rintro ⟨m, i⟩ ⟨g1, g2, g3⟩
  simp only at g1 g2 g3 ⊢
  by_cases h : i < l.length
  · left
    have hb := hl _ (getD_mem l i.toNat (by omega))
    obtain ⟨p, e, hp⟩ := Sofar_snoc N g3 (l.getD i.toNat 0)
    try simp only at e
    rw [dT h, cnd_t, dT g1, Bool.and_self, cnd_t, Far_eq N hD hb hl hlen hN, obind_s, e, obind_s, wr_m (by omega) (by omega)]
    refine ⟨_, rfl, ⟨by omega, by omega, ?_⟩, by omega⟩
    try simp only
    rw [show (i + 1).toNat = i.toNat + 1 by omega, take_snoc l _ (by omega)]
    exact hp
  · right
    rw [dF h, cnd_f]
    refine ⟨_, rfl, ?_⟩
    rw [List.take_of_length_le (by omega)] at g3
    exact g3
theorem Who_one {F : Int → Int} {l : List Int} {v w : Int} (hv : Who F l v) (hw : Who F l w) : v = w := by
  rcases hv with ⟨rfl, rfl⟩ | hv
  · rcases hw with ⟨_, rfl⟩ | hw
    · rfl
    · exact nomatch hw.1
  · rcases hw with ⟨rfl, rfl⟩ | hw
    · exact nomatch hv.1
    · exact Least_one hv hw
/-- Least among the numbers below i that P takes, 0 if there is none. -/
def Below (F : Int → Int) (P : Int → Prop) (i w : Int) : Prop := (w = 0 ∧ ∀ x, 1 ≤ x → x < i → ¬ P x) ∨ ((1 ≤ w ∧ w < i) ∧ P w ∧ ∀ x, 1 ≤ x → x < i → P x → F w < F x ∨ (F w = F x ∧ w ≤ x))
theorem Below_no {F : Int → Int} {P : Int → Prop} {i w : Int} (h : Below F P i w) (hi : ¬ P i) : Below F P (i + 1) w := by
  have e : ∀ x, x < i + 1 → P x → x < i := fun x hx hp => by
    by_cases c : x = i
    · exact absurd (c ▸ hp) hi
    · omega
  rcases h with ⟨rfl, h⟩ | ⟨h1, h2, h3⟩
  · exact .inl ⟨rfl, fun x h1 h2 hp => h x h1 (e x h2 hp) hp⟩
  · exact .inr ⟨by omega, h2, fun x k1 k2 hp => h3 x k1 (e x k2 hp) hp⟩
theorem Below_new {F : Int → Int} {P : Int → Prop} {i w : Int} (h1 : 1 ≤ i) (h : Below F P i w) (hi : P i) (hw : w = 0 ∨ F i < F w) : Below F P (i + 1) i := by
  refine .inr ⟨by omega, hi, fun x k1 k2 hp => ?_⟩
  by_cases c : x = i
  · subst c; omega
  · rcases h with ⟨rfl, h⟩ | ⟨h1, h2, h3⟩
    · exact absurd hp (h x k1 (by omega))
    · have := h3 x k1 (by omega) hp; omega
theorem Below_old {F : Int → Int} {P : Int → Prop} {i w : Int} (h : Below F P i w) (hw : ¬ w = 0) (hw2 : ¬ F i < F w) : Below F P (i + 1) w := by
  rcases h with ⟨rfl, h⟩ | ⟨h1, h2, h3⟩
  · exact absurd rfl hw
  · refine .inr ⟨by omega, h2, fun x k1 k2 hp => ?_⟩
    by_cases c : x = i
    · subst c; omega
    · exact h3 x k1 (by omega) hp
theorem Below_who {F : Int → Int} {P : Int → Prop} {l : List Int} {w : Int} (hl : S8 l) (hP : ∀ x, P x ↔ x ∈ l) (h : Below F P 9 w) : Who F l w := by
  rcases h with ⟨rfl, h⟩ | ⟨h1, h2, h3⟩
  · refine .inl ⟨?_, rfl⟩
    cases l with
    | nil => rfl
    | cons a t =>
      have := hl a (List.mem_cons_self ..)
      exact absurd ((hP a).2 (List.mem_cons_self ..)) (h a (by omega) (by omega))
  · exact .inr ⟨(hP w).1 h2, fun x hx => h3 x (hl x hx).1 (by have := hl x hx; omega) ((hP x).2 hx)⟩
theorem Far7_eq (N : Nat) {D : List (List Int)} (hD : GD D) {a : Int} (ha : 1 ≤ a ∧ a ≤ 8) {l : List Int} (hl : S8 l) (hlen : l.length ≤ 900) (hN : 1000 ≤ N) : W_ref7_Far N (D, a, l) = some (far D a l) := by
  unfold W_ref7_Far V_ref7_Far
  try simp only
  refine loop_post (fun o => o = some (far D a l)) (fun v => 0 ≤ v.2 ∧ v.2 ≤ l.length ∧ v.1 = far D a (l.take v.2.toNat)) (fun v => l.length - v.2.toNat) (fun r => r = far D a l) ⟨by simp, by simp, rfl⟩ (by simp; omega) (fun r h => by rw [h]) ?_
  rintro ⟨m, i⟩ ⟨g1, g2, g3⟩
  simp only at g1 g2 g3 ⊢
  by_cases h : i < l.length
  · left
    have hb := hl _ (getD_mem l i.toNat (by omega))
    rw [wr_m (z := a - 1) (by omega) (by omega), wr_m (z := l.getD i.toNat 0 - 1) (by omega) (by omega), row_eq hD ha, len_eq hD]
    rw [dT h, cnd_t, dT (show 0 ≤ a - 1 by omega), dT (show a - 1 < 8 by omega), Bool.and_self, cnd_t, dT g1, Bool.and_self, cnd_t, dT (show 0 ≤ l.getD i.toNat 0 - 1 by omega), dT (show l.getD i.toNat 0 - 1 < 8 by omega), Bool.and_self, cnd_t, wr_m (by omega) (by omega)]
    refine ⟨_, rfl, ⟨by omega, by omega, ?_⟩, by omega⟩
    try simp only
    rw [show (i + 1).toNat = i.toNat + 1 by omega, take_snoc l _ (by omega), far_snoc, g3]
    rfl
  · right
    rw [dF h, cnd_f]
    refine ⟨_, rfl, ?_⟩
    rw [g3, List.take_of_length_le (by omega)]
theorem Mid7_spec (N : Nat) {D : List (List Int)} (hD : GD D) {l : List Int} (hl : S8 l) (hlen : l.length ≤ 900) (hN : 1000 ≤ N) : ∃ v, W_ref7_Mid N (D, l) = some v ∧ Who (fun x => far D x l) l v := by
  unfold W_ref7_Mid V_ref7_Mid
  try simp only
  refine loop_post (σ := Int × Int) (ρ := Int) (β := Int) (fun o => ∃ v, o = some v ∧ Who (fun x => far D x l) l v) (fun v => (1 ≤ v.2 ∧ v.2 ≤ 9) ∧ Below (fun x => far D x l) (fun x => x ∈ l) v.2 v.1) (fun v => 9 - v.2.toNat) (fun r => Who (fun x => far D x l) l r) ⟨⟨by simp, by simp⟩, .inl ⟨rfl, fun x h1 h2 => by simp only at h2; omega⟩⟩ (by simp; omega) (fun r h => ⟨r, rfl, h⟩) ?_
  rintro ⟨w, i⟩ ⟨⟨g1, g2⟩, g3⟩
  simp only at g1 g2 g3 ⊢
  by_cases h : i ≤ 8
  · left
    rw [dT h, cnd_t, Has_eq N l i hlen hN, obind_s, wr_m (by omega) (by omega)]
    by_cases hm : i ∈ l
    · rw [dT hm, cnd_t]
      by_cases hw : w = 0
      · rw [dT hw, cnd_t]
        exact ⟨_, rfl, ⟨⟨by omega, by omega⟩, Below_new g1 g3 hm (.inl hw)⟩, by simp only; omega⟩
      rw [dF hw, cnd_f]
      have hw8 : 1 ≤ w ∧ w ≤ 8 := by
        rcases g3 with ⟨h, _⟩ | ⟨h, _⟩ <;> omega
      rw [Far7_eq N hD ⟨g1, h⟩ hl hlen hN, obind_s, Far7_eq N hD hw8 hl hlen hN, obind_s]
      by_cases hf : far D i l < far D w l
      · rw [dT hf, cnd_t]
        exact ⟨_, rfl, ⟨⟨by omega, by omega⟩, Below_new g1 g3 hm (.inr hf)⟩, by simp only; omega⟩
      · rw [dF hf, cnd_f]
        exact ⟨_, rfl, ⟨⟨by omega, by omega⟩, Below_old g3 hw hf⟩, by simp only; omega⟩
    · rw [dF hm, cnd_f]
      exact ⟨_, rfl, ⟨⟨by omega, by omega⟩, Below_no g3 hm⟩, by simp only; omega⟩
  · right
    rw [dF h, cnd_f]
    have : i = 9 := by omega
    subst this
    exact ⟨_, rfl, Below_who hl (fun x => Iff.rfl) g3⟩
abbrev Cl := List Int × Int
abbrev cD : Cl := (([] : List Int), (0 : Int))
theorem Of_spec (N : Nat) {D : List (List Int)} (hD : GD D) {l : List Int} (hl : S8 l) (hlen : l.length ≤ 900) (hN : 1000 ≤ N) : ∃ v, W_clus_Of N (D, l) = some (l, v) ∧ Who (fun x => far D x l) l v := by
  obtain ⟨v, e, h⟩ := Mid_spec N hD hl hlen hN
  refine ⟨v, ?_, h⟩
  unfold W_clus_Of V_clus_Of
  try simp only
  rw [Clone_i N l (by omega), obind_s, e, obind_s]
theorem fitted_one (N : Nat) {D : List (List Int)} (hD : GD D) {l : List Int} {k : Int} (hl : S8 l) (hlen : l.length ≤ 8) (hk : 1 ≤ k ∧ k ≤ 3) (h : (l.length : Int) ≤ 3 * k - 1) (hN : 1000 ≤ N) : ∃ v, W_clus_fitted N (D, l, k) = some [(l, v)] ∧ Who (fun x => far D x l) l v := by
  obtain ⟨v, e, hw⟩ := Of_spec N hD hl (by omega) hN
  refine ⟨v, ?_, hw⟩
  unfold W_clus_fitted V_clus_fitted
  try simp only
  rw [wr_m (z := 3 * k) (by omega) (by omega), wr_m (z := 3 * k - 1) (by omega) (by omega), dT h, cnd_t, e, obind_s]
theorem fitted_two (N : Nat) {D : List (List Int)} (hD : GD D) {l : List Int} {k : Int} (hl : S8 l) (hu : Up l) (hlen : l.length ≤ 8) (hk : 1 ≤ k ∧ k ≤ 3) (h : ¬ (l.length : Int) ≤ 3 * k - 1) (hN : 1000 ≤ N) :
    ∃ a b lo hi v w, W_clus_Split N (D, l, k) = some (a, b) ∧ W_clus_fitted N (D, l, k) = some [(a, v), (b, w)] ∧ Pt l a b lo hi ∧ (k ≤ a.length ∧ k ≤ b.length) ∧ Who (fun x => far D x a) a v ∧ Who (fun x => far D x b) b w := by
  obtain ⟨a, b, lo, hi, e, hP, h1, h2, h3⟩ := Split_spec N hD hl hu (by omega) hlen hk.1 hN
  obtain ⟨k1, k2⟩ := h3 (by omega)
  have hpl := hP.len
  obtain ⟨v, e1, w1⟩ := Of_spec N hD (l := a) (fun x hx => hl x (hP.ma x hx)) (by omega) hN
  obtain ⟨w, e2, w2⟩ := Of_spec N hD (l := b) (fun x hx => hl x (hP.mb x hx)) (by omega) hN
  refine ⟨a, b, lo, hi, v, w, e, ?_, hP, ⟨k1, k2⟩, w1, w2⟩
  unfold W_clus_fitted V_clus_fitted
  try simp only
  rw [wr_m (z := 3 * k) (by omega) (by omega), wr_m (z := 3 * k - 1) (by omega) (by omega), dF h, cnd_f, e, obind_s]
  try simp only
  rw [dF (show ¬ (b.length : Int) = 0 by omega), cnd_f, e1, obind_s, e2, obind_s]
theorem Group_step (N m : Nat) (D : List (List Int)) (l : List Int) (k : Int) : WR_clus_Group N (m + 1) (D, l, k) = cnd (decide ((↑(List.length l) : Int) = (0 : Int))) (some []) (obind (W_clus_fitted N (D, l, k)) fun (b : List (List Int × Int)) => cnd (decide ((↑(List.length b) : Int) = (1 : Int))) (some b) (cnd (decide ((0 : Int) ≤ (0 : Int)) && decide ((0 : Int) < (↑(List.length b) : Int))) (obind (WR_clus_Group N m (D, (List.getD b (0 : Nat) cD).1, k)) fun (b_1 : List (List Int × Int)) => cnd (decide ((0 : Int) ≤ (1 : Int)) && decide ((1 : Int) < (↑(List.length b) : Int))) (obind (WR_clus_Group N m (D, (List.getD b (1 : Nat) cD).1, k)) fun (b : List (List Int × Int)) => cnd (decide ((List.length b_1 + List.length b) * (32 : Nat) ≤ (140737488355328 : Nat))) (some (b_1 ++ b)) none) none) none)) := rfl
/-- l, as clusters. -/
structure Gp (D : List (List Int)) (k : Int) (l : List Int) (cs : List Cl) : Prop where
  ne : cs ≠ []
  m : ∀ c ∈ cs, (1 ≤ c.1.length ∧ (c.1.length : Int) ≤ 3 * k - 1) ∧ (S8 c.1 ∧ Up c.1) ∧ Who (fun x => far D x c.1) c.1 c.2
  kk : 1 < cs.length → ∀ c ∈ cs, k ≤ c.1.length
  mem : ∀ x, x ∈ cs.flatMap (fun c => c.1) ↔ x ∈ l
  len : (cs.flatMap (fun c => c.1)).length = l.length
  o : cs.length = 1 ↔ (l.length : Int) ≤ 3 * k - 1
theorem Gp.cl {D : List (List Int)} {k : Int} {l : List Int} {cs : List Cl} (h : Gp D k l cs) : cs.length ≤ l.length := by
  have hm := h.m
  have hl := h.len
  have : ∀ cs : List Cl, (∀ c ∈ cs, 1 ≤ c.1.length) → cs.length ≤ (cs.flatMap (fun c => c.1)).length := by
    intro cs
    induction cs with
    | nil => intro _; simp
    | cons c r ih =>
      intro hc
      have h1 := hc c (by simp)
      have h2 := ih (fun x hx => hc x (by simp [hx]))
      simp only [List.length_cons, List.flatMap_cons, List.length_append]
      omega
  have := this cs (fun c hc => (hm c hc).1.1)
  omega
theorem Gp.each {D : List (List Int)} {k : Int} {l : List Int} {cs : List Cl} (h : Gp D k l cs) (hk : k ≤ l.length) : ∀ c ∈ cs, k ≤ c.1.length := by
  intro c hc
  by_cases c1 : 1 < cs.length
  · exact h.kk c1 c hc
  · cases cs with
    | nil => simp at hc
    | cons c' r =>
      have : r = [] := List.eq_nil_of_length_eq_zero (by simp only [List.length_cons] at c1; omega)
      subst this
      rw [List.mem_singleton.1 hc]
      have := h.len
      simp at this
      omega
theorem Group_spec (N : Nat) {D : List (List Int)} (hD : GD D) {k : Int} (hk : 1 ≤ k ∧ k ≤ 3) (hN : 1000 ≤ N) : ∀ (m : Nat) (l : List Int), S8 l → Up l → l.length ≤ 8 → 1 ≤ l.length → l.length < m → ∃ cs, WR_clus_Group N m (D, l, k) = some cs ∧ Gp D k l cs
  | 0, l, _, _, _, _, h => by omega
  | m + 1, l, hl, hu, h8, h1, hm => by
    rw [Group_step, dF (show ¬ (l.length : Int) = 0 by omega), cnd_f]
    by_cases c : (l.length : Int) ≤ 3 * k - 1
    · obtain ⟨v, e, hw⟩ := fitted_one N hD hl h8 hk c hN
      rw [e, obind_s, dT (show ((List.length [(l, v)] : Nat) : Int) = 1 from rfl), cnd_t]
      refine ⟨_, rfl, by simp, fun q hq => ?_, fun q => by simp at q, fun x => by simp, by simp, by simp [c]⟩
      rw [List.mem_singleton.1 hq]
      exact ⟨⟨h1, c⟩, ⟨hl, hu⟩, hw⟩
    · obtain ⟨a, b, lo, hi, v, w, _, e, hP, ⟨k1, k2⟩, w1, w2⟩ := fitted_two N hD hl hu h8 hk c hN
      have hpl := hP.len
      obtain ⟨g1, e1, G1⟩ := Group_spec N hD hk hN m a (fun x hx => hl x (hP.ma x hx)) hP.ua (by omega) (by omega) (by omega)
      obtain ⟨g2, e2, G2⟩ := Group_spec N hD hk hN m b (fun x hx => hl x (hP.mb x hx)) hP.ub (by omega) (by omega) (by omega)
      have hc1 := G1.cl
      have hc2 := G2.cl
      have hn1 : 1 ≤ g1.length := List.length_pos_iff.2 G1.ne
      have hn2 : 1 ≤ g2.length := List.length_pos_iff.2 G2.ne
      rw [e, obind_s, dF (show ¬ ((List.length [(a, v), (b, w)] : Nat) : Int) = 1 by simp), cnd_f, dT (show (0 : Int) ≤ 0 by omega), dT (show (0 : Int) < ((List.length [(a, v), (b, w)] : Nat) : Int) by simp), Bool.and_self, cnd_t]
      show ∃ cs, obind (WR_clus_Group N m (D, a, k)) _ = some cs ∧ _
      rw [e1, obind_s, dT (show (0 : Int) ≤ 1 by omega), dT (show (1 : Int) < ((List.length [(a, v), (b, w)] : Nat) : Int) by simp), Bool.and_self, cnd_t]
      show ∃ cs, obind (WR_clus_Group N m (D, b, k)) _ = some cs ∧ _
      rw [e2, obind_s, cnd_T (by omega)]
      refine ⟨_, rfl, by simp [G1.ne], fun q hq => (List.mem_append.1 hq).elim (G1.m q) (G2.m q), fun _ q hq => (List.mem_append.1 hq).elim (G1.each k1 q) (G2.each k2 q), fun x => ?_, ?_, ?_⟩
      · rw [List.flatMap_append, List.mem_append, G1.mem, G2.mem]
        exact ⟨fun q => q.elim (hP.ma x) (hP.mb x), hP.cov x⟩
      · rw [List.flatMap_append, List.length_append, G1.len, G2.len]; exact hpl
      · rw [List.length_append]
        exact ⟨fun q => by omega, fun q => absurd q c⟩
theorem take_snocC {l : List Cl} {k : Nat} (h : k < l.length) : l.take (k + 1) = l.take k ++ [l.getD k cD] := by
  rw [List.take_succ_eq_append_getElem h, List.getD_eq_getElem?_getD, List.getElem?_eq_getElem h]; rfl
theorem getD_memC {l : List Cl} {i : Nat} (h : i < l.length) : l.getD i cD ∈ l := by
  rw [List.getD_eq_getElem?_getD, List.getElem?_eq_getElem h]; exact List.getElem_mem h
theorem flat_le (cs : List Cl) (j : Nat) : ((cs.take j).flatMap (fun c => c.1)).length ≤ (cs.flatMap (fun c => c.1)).length := by
  have : cs.flatMap (fun c => c.1) = (cs.take j).flatMap (fun c => c.1) ++ (cs.drop j).flatMap (fun c => c.1) := by rw [← List.flatMap_append, List.take_append_drop]
  rw [this, List.length_append]; omega
/-- One is handed over. -/
def GR (N : Nat) (D : List (List Int)) (k : Int) (l : List Int) (g : List Cl) : Prop := ∀ m, l.length < m → WR_clus_Group N m (D, l, k) = some g
structure Vd (l : List Int) : Prop where
  s : S8 l
  u : Up l
  p : 1 ≤ l.length
  e : l.length ≤ 8
theorem GR_unique {N : Nat} {D : List (List Int)} {k : Int} {l : List Int} {g g' : List Cl} (h : GR N D k l g) (h' : GR N D k l g') : g = g' := by
  have e := h (l.length + 1) (by omega)
  rw [h' (l.length + 1) (by omega)] at e
  injection e with e; exact e.symm
theorem GR_one (N : Nat) {D : List (List Int)} (hD : GD D) {k : Int} (hk : 1 ≤ k ∧ k ≤ 3) (hN : 1000 ≤ N) {l : List Int} (h : Vd l) (c : (l.length : Int) ≤ 3 * k - 1) : ∃ v, GR N D k l [(l, v)] ∧ Who (fun x => far D x l) l v := by
  obtain ⟨v, e, hw⟩ := fitted_one N hD h.s h.e hk c hN
  refine ⟨v, fun m hm => ?_, hw⟩
  have hp := h.p
  cases m with
  | zero => omega
  | succ m =>
    rw [Group_step, dF (show ¬ (l.length : Int) = 0 by omega), cnd_f, e, obind_s, dT (show ((List.length [(l, v)] : Nat) : Int) = 1 from rfl), cnd_t]
theorem GR_two (N : Nat) {D : List (List Int)} (hD : GD D) {k : Int} (hk : 1 ≤ k ∧ k ≤ 3) (hN : 1000 ≤ N) {l a b : List Int} {v w : Int} {g1 g2 : List Cl} (h : Vd l) (e : W_clus_fitted N (D, l, k) = some [(a, v), (b, w)]) (ha : a.length < l.length) (hb : b.length < l.length) (h1 : GR N D k a g1) (h2 : GR N D k b g2) (hg : g1.length + g2.length ≤ 100) : GR N D k l (g1 ++ g2) := by
  intro m hm
  have hp := h.p
  cases m with
  | zero => omega
  | succ m =>
    rw [Group_step, dF (show ¬ (l.length : Int) = 0 by omega), cnd_f, e, obind_s, dF (show ¬ ((List.length [(a, v), (b, w)] : Nat) : Int) = 1 by simp), cnd_f, dT (show (0 : Int) ≤ 0 by omega), dT (show (0 : Int) < ((List.length [(a, v), (b, w)] : Nat) : Int) by simp), Bool.and_self, cnd_t]
    show obind (WR_clus_Group N m (D, a, k)) _ = _
    rw [h1 m (by omega), obind_s, dT (show (0 : Int) ≤ 1 by omega), dT (show (1 : Int) < ((List.length [(a, v), (b, w)] : Nat) : Int) by simp), Bool.and_self, cnd_t]
    show obind (WR_clus_Group N m (D, b, k)) _ = _
    rw [h2 m (by omega), obind_s, cnd_T (by omega)]
/-- Of what is too great: its two. -/
theorem Vd.two {l : List Int} (h : Vd l) (N : Nat) {D : List (List Int)} (hD : GD D) {k : Int} (hk : 1 ≤ k ∧ k ≤ 3) (hN : 1000 ≤ N) (c : ¬ (l.length : Int) ≤ 3 * k - 1) :
    ∃ a b v w, W_clus_Split N (D, l, k) = some (a, b) ∧ W_clus_fitted N (D, l, k) = some [(a, v), (b, w)] ∧ Vd a ∧ Vd b ∧ a.length < l.length ∧ b.length < l.length ∧ (k ≤ a.length ∧ k ≤ b.length) := by
  obtain ⟨a, b, lo, hi, v, w, e1, e2, hP, ⟨k1, k2⟩, _, _⟩ := fitted_two N hD h.s h.u h.e hk c hN
  have hl := hP.len
  have he := h.e
  exact ⟨a, b, v, w, e1, e2, ⟨fun x hx => h.s x (hP.ma x hx), hP.ua, by omega, by omega⟩, ⟨fun x hx => h.s x (hP.mb x hx), hP.ub, by omega, by omega⟩, by omega, by omega, k1, k2⟩
theorem GR_all (N : Nat) {D : List (List Int)} (hD : GD D) {k : Int} (hk : 1 ≤ k ∧ k ≤ 3) (hN : 1000 ≤ N) : ∀ (n : Nat) (l : List Int), l.length ≤ n → Vd l → ∃ g, GR N D k l g ∧ Gp D k l g := by
  intro n
  induction n with
  | zero => intro l hl h; have := h.p; omega
  | succ n ih =>
    intro l hl h
    obtain ⟨g0, e0, G0⟩ := Group_spec N hD hk hN (l.length + 1) l h.s h.u h.e h.p (by omega)
    by_cases c : (l.length : Int) ≤ 3 * k - 1
    · obtain ⟨v, hg, _⟩ := GR_one N hD hk hN h c
      have := hg (l.length + 1) (by omega)
      rw [e0] at this; injection this with this
      subst this
      exact ⟨_, hg, G0⟩
    · obtain ⟨a, b, v, w, _, e2, va, vb, la, lb, _⟩ := h.two N hD hk hN c
      obtain ⟨g1, r1, G1⟩ := ih a (by omega) va
      obtain ⟨g2, r2, G2⟩ := ih b (by omega) vb
      have h1 := G1.cl; have h2 := G2.cl
      have := h.e
      have hg := GR_two N hD hk hN h e2 la lb r1 r2 (by omega)
      have := hg (l.length + 1) (by omega)
      rw [e0] at this; injection this with this
      subst this
      exact ⟨_, hg, G0⟩
theorem drop_getC {l : List Cl} {i : Nat} (h : i < l.length) : l.drop i = l.getD i cD :: l.drop (i + 1) := by
  rw [List.drop_eq_getElem_cons h, List.getD_eq_getElem?_getD, List.getElem?_eq_getElem h]; rfl
theorem Who_in {F : Int → Int} {l : List Int} {v : Int} (h : Who F l v) (hl : 1 ≤ l.length) : v ∈ l := by
  rcases h with ⟨h, _⟩ | h
  · rw [h] at hl; simp at hl
  · exact h.1
/-- Clusters that are apart. -/
structure Cs (D : List (List Int)) (cs : List Cl) : Prop where
  v : ∀ c ∈ cs, Vd c.1 ∧ Who (fun x => far D x c.1) c.1 c.2
  d : cs.Pairwise (fun a b => ∀ x ∈ a.1, x ∉ b.1)
theorem getD_eqC {cs : List Cl} {i : Nat} (h : i < cs.length) : cs.getD i cD = cs[i] := by
  rw [List.getD_eq_getElem?_getD, List.getElem?_eq_getElem h]; rfl
theorem Cs.one {D : List (List Int)} {cs : List Cl} (h : Cs D cs) {i j : Nat} (hi : i < cs.length) (hj : j < cs.length) {x : Int} (h1 : x ∈ (cs.getD i cD).1) (h2 : x ∈ (cs.getD j cD).1) : i = j := by
  rw [getD_eqC hi] at h1
  rw [getD_eqC hj] at h2
  rcases Nat.lt_trichotomy i j with q | q | q
  · exact absurd h2 (List.pairwise_iff_getElem.1 h.d i j hi hj q x h1)
  · exact q
  · exact absurd h1 (List.pairwise_iff_getElem.1 h.d j i hj hi q x h2)
theorem mem_getDC {cs : List Cl} {c : Cl} (h : c ∈ cs) : ∃ i, i < cs.length ∧ cs.getD i cD = c := by
  obtain ⟨i, hi, e⟩ := List.mem_iff_getElem.1 h
  exact ⟨i, hi, by rw [getD_eqC hi]; exact e⟩
theorem Contains_eq (N : Nat) (l : List Int) (x : Int) (hl : l.length ≤ 900) (hN : 1000 ≤ N) : W_slices_Contains_int N (l, x) = some (decide (x ∈ l)) := by
  unfold W_slices_Contains_int V_slices_Contains_int W_slices_Index_int V_slices_Index_int
  try simp only
  have e : ∃ r, obind (loopN N (fun (v : Int) => cnd (decide (v < (↑(List.length l) : Int))) (cnd (decide ((0 : Int) ≤ v) && decide (v < (↑(List.length l) : Int))) (cnd (decide (x = List.getD l (Int.toNat v) (0 : Int))) (some (Sum.inr (Sum.inr v))) (some (Sum.inl (wr .i64 (v + (1 : Int)))))) none) (some (Sum.inr (Sum.inl ())))) (Int.ofNat (0 : Nat))) (fun (b : PUnit ⊕ Int) => selim (fun (b : PUnit) => some (-1 : Int)) (fun (c : Int) => some c) b) = some r ∧ (0 ≤ r ↔ x ∈ l) := by
    refine loop_post (σ := Int) (ρ := Unit ⊕ Int) (β := Int) (fun o => ∃ r, o = some r ∧ (0 ≤ r ↔ x ∈ l)) (fun v => ∃ i : Nat, v = i ∧ i ≤ l.length ∧ ∀ j, j < i → x ≠ l.getD j 0) (fun v => l.length - v.toNat) (fun r => (r = .inl () ∧ x ∉ l) ∨ ∃ i : Nat, r = .inr (i : Int) ∧ x ∈ l) ⟨0, rfl, by omega, fun j hj => by omega⟩ (by simp; omega) ?_ ?_
    · rintro r (⟨rfl, h⟩ | ⟨i, rfl, h⟩)
      · exact ⟨-1, by rw [selim_l], ⟨fun q => by omega, fun q => absurd q h⟩⟩
      · exact ⟨i, by rw [selim_r], ⟨fun _ => h, fun _ => by omega⟩⟩
    · rintro v ⟨i, rfl, hi, hq⟩
      by_cases c : (i : Int) < l.length
      case neg =>
        right
        rw [dF c, cnd_f]
        refine ⟨_, rfl, .inl ⟨rfl, fun hx => ?_⟩⟩
        obtain ⟨j, hj, e⟩ := List.mem_iff_getElem.1 hx
        refine hq j (by omega) ?_
        rw [List.getD_eq_getElem?_getD, List.getElem?_eq_getElem hj, ← e]; rfl
      rw [dT c, cnd_t, dT (show (0 : Int) ≤ (i : Int) by omega), Bool.and_self, cnd_t, Int.toNat_natCast, wr_m (z := (i : Int) + 1) (by omega) (by omega)]
      by_cases c2 : x = l.getD i 0
      · right
        rw [dT c2, cnd_t]
        exact ⟨_, rfl, .inr ⟨i, rfl, by rw [c2]; exact getD_mem _ _ (by omega)⟩⟩
      · left
        rw [dF c2, cnd_f]
        refine ⟨_, rfl, ⟨i + 1, by simp, by omega, fun j hj => ?_⟩, by omega⟩
        by_cases hji : j = i
        · rw [hji]; exact c2
        · exact hq j (by omega)
  obtain ⟨r, e, hr⟩ := e
  refine (congrArg (fun o => obind o _) e).trans ?_
  rw [obind_s]
  exact congrArg some (decide_eq_decide.2 hr)
theorem find_at (N : Nat) {D : List (List Int)} {cs : List Cl} (h : Cs D cs) (hl : cs.length ≤ 100) {i : Nat} (hi : i < cs.length) {x : Int} (hx : x ∈ (cs.getD i cD).1) (hN : 1000 ≤ N) : W_clus_find N (cs, x) = some (.inl (i : Int)) := by
  unfold W_clus_find V_clus_find
  try simp only
  refine loop_post (σ := Int) (ρ := Unit ⊕ (Int ⊕ Unit)) (β := Int ⊕ Unit) (fun o => o = some (.inl (i : Int))) (fun v => ∃ j : Nat, v = j ∧ j ≤ i) (fun v => i + 1 - v.toNat) (fun r => r = .inr (.inl (i : Int))) ⟨0, rfl, by omega⟩ (by simp; omega) (fun r hr => by rw [hr, selim_r]) ?_
  rintro v ⟨j, rfl, hj⟩
  have hc := (h.v _ (getD_memC (l := cs) (i := j) (by omega))).1.e
  rw [dT (show (j : Int) < cs.length by omega), cnd_t, dT (show (0 : Int) ≤ (j : Int) by omega), Bool.and_self, cnd_t, Int.toNat_natCast]
  have he := Contains_eq N (cs.getD j cD).1 x (by omega) hN
  by_cases c : x ∈ (cs.getD j cD).1
  · right
    have := h.one (by omega) hi c hx
    subst this
    refine ⟨_, (congrArg (fun o => obind o _) he).trans ?_, rfl⟩
    rw [obind_s, dT c, cnd_t]
  · left
    have hji : j ≠ i := fun q => c (q ▸ hx)
    refine ⟨((j + 1 : Nat) : Int), (congrArg (fun o => obind o _) he).trans ?_, ⟨j + 1, rfl, by omega⟩, by omega⟩
    rw [obind_s, dF c, cnd_f, wr_m (by omega) (by omega)]; rfl
theorem find_no (N : Nat) {D : List (List Int)} {cs : List Cl} (h : Cs D cs) (hl : cs.length ≤ 100) {x : Int} (hx : ∀ j, j < cs.length → x ∉ (cs.getD j cD).1) (hN : 1000 ≤ N) : W_clus_find N (cs, x) = some (.inr ()) := by
  unfold W_clus_find V_clus_find
  try simp only
  refine loop_post (σ := Int) (ρ := Unit ⊕ (Int ⊕ Unit)) (β := Int ⊕ Unit) (fun o => o = some (.inr ())) (fun v => ∃ j : Nat, v = j ∧ j ≤ cs.length) (fun v => cs.length - v.toNat) (fun r => r = .inl ()) ⟨0, rfl, by omega⟩ (by simp; omega) (fun r hr => by rw [hr, selim_l]) ?_
  rintro v ⟨j, rfl, hj⟩
  by_cases c : (j : Int) < cs.length
  case neg => right; rw [dF c, cnd_f]; exact ⟨_, rfl, rfl⟩
  left
  have hc := (h.v _ (getD_memC (l := cs) (i := j) (by omega))).1.e
  rw [dT c, cnd_t, dT (show (0 : Int) ≤ (j : Int) by omega), Bool.and_self, cnd_t, Int.toNat_natCast]
  have he := Contains_eq N (cs.getD j cD).1 x (by omega) hN
  refine ⟨((j + 1 : Nat) : Int), (congrArg (fun o => obind o _) he).trans ?_, ⟨j + 1, rfl, by omega⟩, by omega⟩
  rw [obind_s, dF (hx j (by omega)), cnd_f, wr_m (by omega) (by omega)]; rfl
/-! Others in the place of one. -/
def repl (o : List Cl) (p q : Nat) : Nat → List Cl → List Cl
  | _, [] => []
  | i, c :: r => (if i = p then o else if i = q then [] else [c]) ++ repl o p q (i + 1) r
theorem repl_snoc (o : List Cl) (p q : Nat) : ∀ (l : List Cl) (i : Nat) (c : Cl), repl o p q i (l ++ [c]) = repl o p q i l ++ (if i + l.length = p then o else if i + l.length = q then [] else [c])
  | [], i, c => by simp [repl]
  | x :: r, i, c => by
    simp only [List.cons_append, repl, repl_snoc o p q r (i + 1) c, List.length_cons, List.append_assoc]
    rw [show i + 1 + r.length = i + (r.length + 1) by omega]
theorem repl_len (o : List Cl) (p q : Nat) : ∀ (l : List Cl) (i : Nat), (repl o p q i l).length + (if i ≤ p ∧ p < i + l.length then 1 else 0) + (if q ≠ p ∧ i ≤ q ∧ q < i + l.length then 1 else 0) = l.length + (if i ≤ p ∧ p < i + l.length then o.length else 0)
  | [], i => by
    rw [if_neg (by simp only [List.length_nil]; omega), if_neg (by simp only [List.length_nil]; omega), if_neg (by simp only [List.length_nil]; omega)]; rfl
  | x :: r, i => by
    have ih := repl_len o p q r (i + 1)
    simp only [repl, List.length_append, List.length_cons] at ih ⊢
    by_cases c1 : i = p
    · rw [if_pos c1]
      rw [if_neg (show ¬ (i + 1 ≤ p ∧ p < i + 1 + r.length) by omega), if_neg (show ¬ (i + 1 ≤ p ∧ p < i + 1 + r.length) by omega)] at ih
      rw [if_pos (show i ≤ p ∧ p < i + (r.length + 1) by omega), if_pos (show i ≤ p ∧ p < i + (r.length + 1) by omega)]
      by_cases c2 : q ≠ p ∧ i + 1 ≤ q ∧ q < i + 1 + r.length
      · rw [if_pos c2] at ih; rw [if_pos (by omega)]; omega
      · rw [if_neg c2] at ih; rw [if_neg (by omega)]; omega
    · rw [if_neg c1]
      have e : (i ≤ p ∧ p < i + (r.length + 1)) ↔ (i + 1 ≤ p ∧ p < i + 1 + r.length) := by omega
      by_cases c3 : i + 1 ≤ p ∧ p < i + 1 + r.length
      all_goals
        first | rw [if_pos c3, if_pos c3] at ih | rw [if_neg c3, if_neg c3] at ih
        first | rw [if_pos (e.2 c3), if_pos (e.2 c3)] | rw [if_neg (fun h => c3 (e.1 h)), if_neg (fun h => c3 (e.1 h))]
        by_cases c2 : i = q
        · rw [if_pos c2]
          rw [if_neg (show ¬ (q ≠ p ∧ i + 1 ≤ q ∧ q < i + 1 + r.length) by omega)] at ih
          rw [if_pos (by omega)]
          simp only [List.length_nil]; omega
        · rw [if_neg c2]
          by_cases c4 : q ≠ p ∧ i + 1 ≤ q ∧ q < i + 1 + r.length
          · rw [if_pos c4] at ih; rw [if_pos (by omega)]; simp only [List.length_singleton]; omega
          · rw [if_neg c4] at ih; rw [if_neg (by omega)]; simp only [List.length_singleton]; omega
theorem repl_mem (o : List Cl) (p q : Nat) (c : Cl) : ∀ (l : List Cl) (i : Nat), c ∈ repl o p q i l ↔ ((i ≤ p ∧ p < i + l.length) ∧ c ∈ o) ∨ ∃ j, j < l.length ∧ i + j ≠ p ∧ i + j ≠ q ∧ l.getD j cD = c
  | [], i => by
    simp only [repl, List.not_mem_nil, List.length_nil, false_iff]
    rintro (⟨h, _⟩ | ⟨j, h, _⟩) <;> omega
  | x :: r, i => by
    have ih := repl_mem o p q c r (i + 1)
    simp only [repl, List.mem_append, ih, List.length_cons]
    constructor
    · rintro (h | ⟨h1, h2⟩ | ⟨j, h1, h2, h3, h4⟩)
      · split at h
        · exact .inl ⟨by omega, h⟩
        · split at h
          · simp at h
          · exact .inr ⟨0, by omega, by omega, by omega, (List.mem_singleton.1 h).symm⟩
      · exact .inl ⟨by omega, h2⟩
      · exact .inr ⟨j + 1, by omega, by omega, by omega, h4⟩
    · rintro (⟨h1, h2⟩ | ⟨j, h1, h2, h3, h4⟩)
      · by_cases c1 : i = p
        · left; rw [if_pos c1]; exact h2
        · exact .inr (.inl ⟨by omega, h2⟩)
      · cases j with
        | zero =>
          left
          rw [if_neg (by omega), if_neg (by omega)]
          have : x = c := h4
          rw [this]; simp
        | succ j => exact .inr (.inr ⟨j, by omega, by omega, by omega, h4⟩)
theorem Of_same (N : Nat) {D : List (List Int)} (hD : GD D) {c : Cl} (h : Vd c.1 ∧ Who (fun x => far D x c.1) c.1 c.2) (hN : 1000 ≤ N) : W_clus_Of N (D, c.1) = some c := by
  have he := h.1.e
  obtain ⟨v, e, hw⟩ := Of_spec N hD h.1.s (by omega) hN
  rw [e, ← Who_one h.2 hw]
theorem replace_eq (N : Nat) {D : List (List Int)} (hD : GD D) {cs : List Cl} (h : Cs D cs) (hl : cs.length ≤ 8) (p q : Nat) (o : List Cl) (ho : o.length ≤ 8) (hN : 1000 ≤ N) : W_clus_replace N (D, cs, (p : Int), (q : Int), o) = some (repl o p q 0 cs) := by
  unfold W_clus_replace V_clus_replace
  try simp only
  refine loop_post (σ := Int × List Cl) (ρ := List Cl) (β := List Cl) (fun r => r = some (repl o p q 0 cs)) (fun v => ∃ i : Nat, v = ((i : Int), repl o p q 0 (cs.take i)) ∧ i ≤ cs.length) (fun v => cs.length - v.1.toNat) (fun r => r = repl o p q 0 cs) ⟨0, by simp [repl], by omega⟩ (by simp; omega) (fun r hr => by rw [hr]) ?_
  rintro v ⟨i, rfl, hi⟩
  try simp only
  by_cases c : (i : Int) < cs.length
  case neg =>
    right
    rw [dF c, cnd_f, List.take_of_length_le (by omega)]
    exact ⟨_, rfl, rfl⟩
  left
  have hrl := repl_len o p q (cs.take i) 0
  have hrl2 : (repl o p q 0 (cs.take i)).length ≤ 16 := by
    rw [List.length_take] at hrl
    split at hrl <;> split at hrl <;> omega
  have hts := take_snocC (l := cs) (k := i) (by omega)
  have hsn := repl_snoc o p q (cs.take i) 0 (cs.getD i cD)
  rw [← hts, List.length_take, show 0 + min i cs.length = i by omega] at hsn
  have hof := Of_same N hD (h.v _ (getD_memC (l := cs) (i := i) (by omega))) hN
  refine ⟨(((i + 1 : Nat) : Int), repl o p q 0 (cs.take (i + 1))), ?_, ⟨i + 1, rfl, by omega⟩, by simp only; omega⟩
  rw [dT c, cnd_t, dT (show (0 : Int) ≤ (i : Int) by omega), Bool.and_self, cnd_t, wr_m (z := (i : Int) + 1) (by omega) (by omega), hsn, show ((i + 1 : Nat) : Int) = i + 1 by omega]
  by_cases c1 : i = p
  · rw [if_pos c1, dT (show (i : Int) = p by omega), cnd_t, cnd_T (by omega)]
  rw [if_neg c1, dF (show ¬ (i : Int) = p by omega), cnd_f]
  by_cases c2 : i = q
  · rw [if_pos c2, dT (show (i : Int) = q by omega), cnd_t, List.append_nil]
  rw [if_neg c2, dF (show ¬ (i : Int) = q by omega), cnd_f, Int.toNat_natCast]
  refine (congrArg (fun o => obind o _) hof).trans ?_
  rw [obind_s, cnd_T (by simp only [List.length_singleton]; omega)]
theorem twin_eq (N : Nat) {D : List (List Int)} {cs : List Cl} (h : Cs D cs) (hl : cs.length ≤ 100) (hN : 1000 ≤ N) : W_twin_Clusters N cs = some cs := by
  unfold W_twin_Clusters V_twin_Clusters W_slices_Clone_api_Cluster V_slices_Clone_api_Cluster
  rw [cnd_T (by omega), obind_s]
  refine loop_post (σ := Int × List Cl) (ρ := List Cl) (β := List Cl) (fun r => r = some cs) (fun v => ∃ i : Nat, v = ((i : Int), cs) ∧ i ≤ cs.length) (fun v => cs.length - v.1.toNat) (fun r => r = cs) ⟨0, rfl, by omega⟩ (by simp; omega) (fun r hr => by rw [hr]) ?_
  rintro v ⟨i, rfl, hi⟩
  try simp only
  by_cases c : (i : Int) < cs.length
  case neg => right; rw [dF c, cnd_f]; exact ⟨_, rfl, rfl⟩
  left
  have hc := (h.v _ (getD_memC (l := cs) (i := i) (by omega))).1.e
  have hcl := Clone_i N (cs.getD i cD).1 (by omega)
  refine ⟨(((i + 1 : Nat) : Int), cs), ?_, ⟨i + 1, rfl, by omega⟩, by simp only; omega⟩
  rw [dT c, cnd_t, dT (show (0 : Int) ≤ (i : Int) by omega), Bool.and_self, cnd_t, Int.toNat_natCast]
  refine (congrArg (fun o => obind o _) hcl).trans ?_
  rw [obind_s, cnd_t, wr_m (z := (i : Int) + 1) (by omega) (by omega), show ((i + 1 : Nat) : Int) = i + 1 by omega]
  have : putL cs [((cs.getD i cD).1, (cs.getD i cD).2)] i = cs := by
    show putL cs [cs.getD i cD] i = cs
    have e := drop_getC (l := cs) (i := i) (by omega)
    unfold putL
    conv => rhs; rw [← List.take_append_drop i cs, e]
    simp
  exact congrArg (fun q => some (Sum.inl ((i : Int) + 1, q))) this
/-- The leaders of the others, and whom one of them is nearest to. -/
theorem leaders_S8 {D : List (List Int)} {cs : List Cl} (h : Cs D cs) (p : Nat) : S8 ((repl [] p p 0 cs).map (fun c => c.2)) := by
  intro x hx
  obtain ⟨c, hc, rfl⟩ := List.mem_map.1 hx
  rcases (repl_mem [] p p c cs 0).1 hc with ⟨_, q⟩ | ⟨j, h1, _, _, h4⟩
  · simp at q
  · have hm := h.v c (h4 ▸ getD_memC h1)
    exact hm.1.s _ (Who_in hm.2 hm.1.p)
theorem leaders_len (p : Nat) {cs : List Cl} (hl : cs.length ≤ 8) : ((repl [] p p 0 cs).map (fun c => c.2)).length ≤ 8 := by
  have := repl_len [] p p cs 0
  rw [List.length_map]
  split at this <;> split at this <;> (try simp only [List.length_nil] at this) <;> omega
theorem nearest_spec (N : Nat) {D : List (List Int)} (hD : GD D) {cs : List Cl} (h : Cs D cs) (hl : cs.length ≤ 8) (p : Nat) {m : Int} (hm : 1 ≤ m ∧ m ≤ 8) (hN : 1000 ≤ N) :
    ∃ near, Who (fun x => G D m x) (((repl [] p p 0 cs).map (fun c => c.2)).filter fun x => decide (x ≠ m)) near ∧ ((∃ o, o < cs.length ∧ o ≠ p ∧ (cs.getD o cD).2 = near ∧ W_clus_nearest N (D, cs, (p : Int), m) = some (.inl (o : Int))) ∨ ((∀ o, o < cs.length → o ≠ p → (cs.getD o cD).2 ≠ near) ∧ W_clus_nearest N (D, cs, (p : Int), m) = some (.inr ()))) := by
  obtain ⟨near, en, hw⟩ := Near_spec N hD hm (leaders_S8 h p) (by have := leaders_len p hl; omega) hN
  refine ⟨near, hw, ?_⟩
  unfold W_clus_nearest V_clus_nearest
  try simp only
  refine loop_post (σ := Int × List Int) (ρ := List Int) (β := Int ⊕ Unit) (fun r => (∃ o, o < cs.length ∧ o ≠ p ∧ (cs.getD o cD).2 = near ∧ r = some (.inl (o : Int))) ∨ ((∀ o, o < cs.length → o ≠ p → (cs.getD o cD).2 ≠ near) ∧ r = some (.inr ()))) (fun v => ∃ i : Nat, v = ((i : Int), (repl [] p p 0 (cs.take i)).map (fun c => c.2)) ∧ i ≤ cs.length) (fun v => cs.length - v.1.toNat) (fun r => r = (repl [] p p 0 cs).map (fun c => c.2)) ⟨0, by simp [repl], by omega⟩ (by simp; omega) ?_ ?_
  · rintro r rfl
    rw [en, obind_s]
    refine loop_post (σ := Int) (ρ := Unit ⊕ (Int ⊕ Unit)) (β := Int ⊕ Unit) (fun r => (∃ o, o < cs.length ∧ o ≠ p ∧ (cs.getD o cD).2 = near ∧ r = some (.inl (o : Int))) ∨ ((∀ o, o < cs.length → o ≠ p → (cs.getD o cD).2 ≠ near) ∧ r = some (.inr ()))) (fun v => ∃ i : Nat, v = i ∧ i ≤ cs.length ∧ ∀ j, j < i → j ≠ p → (cs.getD j cD).2 ≠ near) (fun v => cs.length - v.toNat) (fun r => (∃ o : Nat, r = .inr (.inl (o : Int)) ∧ o < cs.length ∧ o ≠ p ∧ (cs.getD o cD).2 = near) ∨ (r = .inl () ∧ ∀ o, o < cs.length → o ≠ p → (cs.getD o cD).2 ≠ near)) ⟨0, rfl, by omega, fun j hj => by omega⟩ (by simp; omega) ?_ ?_
    · rintro r (⟨o, rfl, h1, h2, h3⟩ | ⟨rfl, h1⟩)
      · left; exact ⟨o, h1, h2, h3, by rw [selim_r]⟩
      · right; exact ⟨h1, by rw [selim_l]⟩
    · rintro v ⟨i, rfl, hi, hq⟩
      by_cases c : (i : Int) < cs.length
      case neg =>
        right
        rw [dF c, cnd_f]
        exact ⟨_, rfl, .inr ⟨rfl, fun o ho => hq o (by omega)⟩⟩
      have hnx : ∀ (hne : i ≠ p → (cs.getD i cD).2 ≠ near), ∃ i' : Nat, ((i : Int) + 1) = i' ∧ i' ≤ cs.length ∧ ∀ j, j < i' → j ≠ p → (cs.getD j cD).2 ≠ near := fun hne => ⟨i + 1, by simp, by omega, fun j hj hjp => by
        by_cases hji : j = i
        · rw [hji] at hjp ⊢; exact hne hjp
        · exact hq j (by omega) hjp⟩
      rw [dT c, cnd_t, dT (show (0 : Int) ≤ (i : Int) by omega), Bool.and_self, cnd_t, Int.toNat_natCast, wr_m (z := (i : Int) + 1) (by omega) (by omega)]
      by_cases c1 : i = p
      · left
        rw [dF (show ¬ (i : Int) ≠ p by omega), cnd_f]
        exact ⟨_, rfl, hnx (fun q => absurd c1 q), by omega⟩
      rw [dT (show (i : Int) ≠ p by omega), cnd_t]
      by_cases c2 : (cs.getD i cD).2 = near
      · right
        exact ⟨_, (congrArg (fun q => cnd q _ _) (dT c2)).trans cnd_t, .inl ⟨i, rfl, by omega, c1, c2⟩⟩
      · left
        exact ⟨_, (congrArg (fun q => cnd q _ _) (dF c2)).trans cnd_f, hnx (fun _ => c2), by omega⟩
  · rintro v ⟨i, rfl, hi⟩
    try simp only
    by_cases c : (i : Int) < cs.length
    case neg =>
      right
      rw [dF c, cnd_f, List.take_of_length_le (by omega)]
      exact ⟨_, rfl, rfl⟩
    left
    have hrl := leaders_len p (cs := cs.take i) (by rw [List.length_take]; omega)
    have hts := take_snocC (l := cs) (k := i) (by omega)
    have hsn := repl_snoc [] p p (cs.take i) 0 (cs.getD i cD)
    rw [← hts, List.length_take, show 0 + min i cs.length = i by omega] at hsn
    refine ⟨(((i + 1 : Nat) : Int), (repl [] p p 0 (cs.take (i + 1))).map (fun c => c.2)), ?_, ⟨i + 1, rfl, by omega⟩, by simp only; omega⟩
    rw [dT c, cnd_t, dT (show (0 : Int) ≤ (i : Int) by omega), Bool.and_self, cnd_t, wr_m (z := (i : Int) + 1) (by omega) (by omega), hsn, show ((i + 1 : Nat) : Int) = i + 1 by omega, List.map_append]
    by_cases c1 : i = p
    · rw [dF (show ¬ (i : Int) ≠ p by omega), cnd_f, if_pos c1, List.map_nil, List.append_nil]
    · rw [dT (show (i : Int) ≠ p by omega), cnd_t, if_neg c1, if_neg c1, cnd_T (by omega), Int.toNat_natCast]
      rfl
theorem Up_len8 : ∀ (l : List Int) (n : Int), n ≤ 9 → Up l → (∀ x ∈ l, n ≤ x ∧ x ≤ 8) → (l.length : Int) ≤ 9 - n
  | [], n, hn, _, _ => by simp; omega
  | x :: r, n, hn, hu, h => by
    have hx := h x (by simp)
    have hp := List.pairwise_cons.1 hu
    have := Up_len8 r (x + 1) (by omega) hp.2 (fun y hy => ⟨by have := hp.1 y hy; omega, (h y (by simp [hy])).2⟩)
    simp only [List.length_cons]; omega
theorem fitted_any (N : Nat) {D : List (List Int)} (hD : GD D) {l : List Int} {k : Int} (h : Vd l) (hk : 1 ≤ k ∧ k ≤ 3) (hN : 1000 ≤ N) : ∃ fit : List Cl, W_clus_fitted N (D, l, k) = some fit ∧ Cs D fit ∧ (∀ c ∈ fit, ∀ x ∈ c.1, x ∈ l) ∧ ((l.length : Int) ≤ 3 * k - 1 → ∃ v, fit = [(l, v)]) ∧ (¬ (l.length : Int) ≤ 3 * k - 1 → fit.length = 2) ∧ fit.length ≤ 2 := by
  have he := h.e
  by_cases c : (l.length : Int) ≤ 3 * k - 1
  · obtain ⟨v, e, hw⟩ := fitted_one N hD h.s h.e hk c hN
    refine ⟨_, e, ⟨fun q hq => ?_, List.pairwise_singleton _ _⟩, fun q hq x hx => ?_, fun _ => ⟨v, rfl⟩, fun q => absurd c q, by simp⟩
    · rw [List.mem_singleton.1 hq]; exact ⟨h, hw⟩
    · rw [List.mem_singleton.1 hq] at hx; exact hx
  · obtain ⟨a, b, lo, hi, v, w, _, e2, hP, ⟨k1, k2⟩, w1, w2⟩ := fitted_two N hD h.s h.u h.e hk c hN
    have hpl := hP.len
    have va : Vd a := ⟨fun x hx => h.s x (hP.ma x hx), hP.ua, by omega, by omega⟩
    have vb : Vd b := ⟨fun x hx => h.s x (hP.mb x hx), hP.ub, by omega, by omega⟩
    refine ⟨_, e2, ⟨fun q hq => ?_, ?_⟩, fun q hq x hx => ?_, fun q => absurd q c, fun _ => rfl, by simp⟩
    · simp only [List.mem_cons, List.not_mem_nil, or_false] at hq
      rcases hq with rfl | rfl
      · exact ⟨va, w1⟩
      · exact ⟨vb, w2⟩
    · refine List.pairwise_cons.2 ⟨fun q hq x hx => ?_, List.pairwise_singleton _ _⟩
      rw [List.mem_singleton.1 hq]; exact hP.dis x hx
    · simp only [List.mem_cons, List.not_mem_nil, or_false] at hq
      rcases hq with rfl | rfl
      · exact hP.ma x hx
      · exact hP.mb x hx
theorem repl_pair {R : Cl → Cl → Prop} (o : List Cl) (p q : Nat) (ho : o.Pairwise R) : ∀ (l : List Cl) (i : Nat), l.Pairwise R → (∀ j, j < l.length → i + j ≠ p → i + j ≠ q → ∀ d ∈ o, R (l.getD j cD) d ∧ R d (l.getD j cD)) → (repl o p q i l).Pairwise R
  | [], i, _, _ => List.Pairwise.nil
  | x :: r, i, hl, h => by
    have hp := List.pairwise_cons.1 hl
    have ih := repl_pair o p q ho r (i + 1) hp.2 (fun j hj h1 h2 d hd => h (j + 1) (by simp only [List.length_cons]; omega) (by omega) (by omega) d hd)
    simp only [repl]
    refine List.pairwise_append.2 ⟨?_, ih, fun a ha b hb => ?_⟩
    · split
      · exact ho
      · split
        · exact List.Pairwise.nil
        · exact List.pairwise_singleton _ _
    · rcases (repl_mem o p q b r (i + 1)).1 hb with ⟨h1, h2⟩ | ⟨j, h1, h2, h3, h4⟩
      · split at ha
        · omega
        · split at ha
          · simp at ha
          · rw [List.mem_singleton.1 ha]
            exact (h 0 (by simp) (by omega) (by omega) b h2).1
      · split at ha
        · have := (h (j + 1) (by simp only [List.length_cons]; omega) (by omega) (by omega) a ha).2
          rw [show (x :: r).getD (j + 1) cD = b from h4] at this
          exact this
        · split at ha
          · simp at ha
          · rw [List.mem_singleton.1 ha]
            exact hp.1 b (h4 ▸ getD_memC h1)
/-- What becomes of clusters when one leaves. -/
theorem Leave_no (N : Nat) {D : List (List Int)} {cs : List Cl} (h : Cs D cs) (hl : cs.length ≤ 8) {id k : Int} (hid : ∀ j, j < cs.length → id ∉ (cs.getD j cD).1) (hN : 1000 ≤ N) : W_clus_Leave N (D, cs, id, k) = some cs := by
  unfold W_clus_Leave V_clus_Leave
  try simp only
  rw [find_no N h (by omega) hid hN, obind_s, selim_r, twin_eq N h (by omega) hN, obind_s]
/-- In whose place it stands when number q is gone. -/
theorem Cs_len {D : List (List Int)} {cs : List Cl} (h : Cs D cs) : cs.length ≤ 8 := by
  have hm : ∀ c ∈ cs, c.2 ∈ c.1 := fun c hc => Who_in (h.v c hc).2 (h.v c hc).1.p
  have hn : (cs.map fun c => c.2).Nodup := by
    refine List.pairwise_map.2 (h.d.imp_of_mem fun {a b} ha hb hd e => hd _ (hm a ha) ?_)
    rw [e]; exact hm b hb
  have hu : Up (ins (cs.map fun c => c.2) []) := ins_up (by rw [List.append_nil]; exact hn)
  have := Up_len8 _ 1 (by omega) hu (fun x hx => by
    rcases ins_mem.1 hx with q | q
    · obtain ⟨c, hc, rfl⟩ := List.mem_map.1 q
      exact (h.v c hc).1.s _ (hm c hc)
    · cases q)
  rw [ins_len, List.length_map, List.length_nil] at this
  omega
theorem Cs_repl {D : List (List Int)} {cs fit : List Cl} (h : Cs D cs) (hf : Cs D fit) (p q : Nat) (hd : ∀ j, j < cs.length → j ≠ p → j ≠ q → ∀ c ∈ fit, ∀ x ∈ c.1, x ∉ (cs.getD j cD).1) : Cs D (repl fit p q 0 cs) := by
  refine ⟨fun c hc => ?_, repl_pair fit p q hf.d cs 0 h.d fun j hj h1 h2 d hdm => ?_⟩
  · rcases (repl_mem fit p q c cs 0).1 hc with ⟨_, q⟩ | ⟨j, h1, _, _, h4⟩
    · exact hf.v c q
    · exact h.v c (h4 ▸ getD_memC h1)
  · have := hd j hj (by omega) (by omega) d hdm
    exact ⟨fun x hx hx2 => this x hx2 hx, this⟩
theorem Leave_spec2 (N : Nat) {D : List (List Int)} (hD : GD D) {cs : List Cl} (h : Cs D cs) (hl : cs.length ≤ 8) {p : Nat} (hp : p < cs.length) {id k : Int} (hk : 1 ≤ k ∧ k ≤ 3) (hid : id ∈ (cs.getD p cD).1) (hN : 1000 ≤ N) :
    ∃ x, W_clus_Leave N (D, cs, id, k) = some x ∧
      ((les (cs.getD p cD).1 id).length = 0 → x = repl [] p p 0 cs) ∧
      (1 ≤ (les (cs.getD p cD).1 id).length → (k ≤ (les (cs.getD p cD).1 id).length ∨ cs.length = 1) → ∃ v, x = repl [(les (cs.getD p cD).1 id, v)] p p 0 cs ∧ Who (fun x => far D x (les (cs.getD p cD).1 id)) (les (cs.getD p cD).1 id) v) ∧
      (1 ≤ (les (cs.getD p cD).1 id).length → ¬ k ≤ (les (cs.getD p cD).1 id).length → 2 ≤ cs.length → ∃ m near o fit, Who (fun x => far D x (les (cs.getD p cD).1 id)) (les (cs.getD p cD).1 id) m ∧ Who (fun x => G D m x) (((repl [] p p 0 cs).map (fun c => c.2)).filter fun x => decide (x ≠ m)) near ∧ o < cs.length ∧ o ≠ p ∧ (cs.getD o cD).2 = near ∧ Vd (ins (les (cs.getD p cD).1 id) (cs.getD o cD).1) ∧ W_clus_fitted N (D, ins (les (cs.getD p cD).1 id) (cs.getD o cD).1, k) = some fit ∧ x = repl fit p o 0 cs) := by
  obtain ⟨hv, hw⟩ := h.v _ (getD_memC hp)
  obtain ⟨c, hc⟩ : ∃ c, cs.getD p cD = c := ⟨_, rfl⟩
  have hfa := find_at N h (by omega) hp hid hN
  have hone := fun j hj x h1 => h.one (i := p) (j := j) hp hj (x := x) h1
  rw [hc] at hv hw hid hone ⊢
  have hve := hv.e
  obtain ⟨r, hr⟩ : ∃ r, les c.1 id = r := ⟨_, rfl⟩
  have hrl := les_len (Up_nodup hv.u) hid
  have hrm : ∀ x ∈ r, x ∈ c.1 := fun x hx => (les_mem.1 (hr ▸ hx)).1
  have hru : Up r := hr ▸ les_up hv.u
  rw [hr] at hrl ⊢
  unfold W_clus_Leave V_clus_Leave
  try simp only
  rw [hfa, obind_s, selim_l, dT (show (0 : Int) ≤ (p : Int) by omega), dT (show (p : Int) < cs.length by omega), Bool.and_self, cnd_t, Int.toNat_natCast]
  have hwo := without_eq N c.1 id (by omega) (by omega)
  rw [hr] at hwo
  have hc' : cs.getD p (([] : List Int), (0 : Int)) = c := hc
  rw [hc', hwo, obind_s]
  by_cases c0 : r.length = 0
  · rw [dT (show (r.length : Int) = 0 by omega), cnd_t, replace_eq N hD h hl p p [] (by simp) hN, obind_s]
    exact ⟨_, rfl, fun _ => rfl, fun q => by omega, fun q => by omega⟩
  rw [dF (show ¬ (r.length : Int) = 0 by omega), cnd_f]
  have hrS : S8 r := fun x hx => hv.s x (hrm x hx)
  obtain ⟨m, em, hwm⟩ := Mid_spec N hD hrS (by omega) hN
  have hmr := Who_in hwm (by omega)
  obtain ⟨v, eo, hwo2⟩ := Of_spec N hD hrS (by omega) hN
  obtain ⟨near, hnear, hcase⟩ := nearest_spec N hD h hl p (hrS m hmr) hN
  rw [em, obind_s]
  have plain : ∃ x, (some (repl [(r, v)] p p 0 cs) : Option (List Cl)) = some x ∧ x = repl [(r, v)] p p 0 cs := ⟨_, rfl, rfl⟩
  have hre := replace_eq N hD h hl p p [(r, v)] (by simp) hN
  rcases hcase with ⟨o, ho, hop, hon, e⟩ | ⟨hno, e⟩
  · rw [e, obind_s, selim_l]
    by_cases ck : k ≤ (r.length : Int)
    · rw [dT ck, cnd_t, eo, obind_s, hre, obind_s]
      exact ⟨_, rfl, fun q => absurd q c0, fun _ _ => ⟨v, rfl, hwo2⟩, fun _ q => absurd ck q⟩
    · obtain ⟨hov, how⟩ := h.v _ (getD_memC ho)
      have hoone := fun x (h1 : x ∈ (cs.getD o cD).1) (h2 : x ∈ c.1) => hop ((hone o ho x h2 h1).symm)
      obtain ⟨co, hco⟩ : ∃ co, cs.getD o cD = co := ⟨_, rfl⟩
      have hco' : cs.getD o (([] : List Int), (0 : Int)) = co := hco
      rw [hco] at hov how hoone
      have hoe := hov.e
      have hM : Vd (ins r co.1) := by
        have hn : (r ++ co.1).Nodup := by
          rw [List.nodup_append]
          exact ⟨Up_nodup hru, Up_nodup hov.u, fun x hx y hy e => hoone y hy (e ▸ hrm x hx)⟩
        have hu := ins_up hn
        have hs : S8 (ins r co.1) := fun x hx => (ins_mem.1 hx).elim (hrS x) (hov.s x)
        have h8 := Up_len8 _ 1 (by omega) hu hs
        exact ⟨hs, hu, by rw [ins_len]; omega, by omega⟩
      obtain ⟨fit, ef, _, _, _, _, hfl⟩ := fitted_any N hD hM hk hN
      rw [dF ck, cnd_f, dT (show (0 : Int) ≤ (o : Int) by omega), dT (show (o : Int) < cs.length by omega), Bool.and_self, cnd_t, Int.toNat_natCast, hco', with_eq N r co.1 (by omega) (by omega) (by have := hov.p; omega), obind_s, ef, obind_s, replace_eq N hD h hl p o fit (by omega) hN, obind_s]
      refine ⟨_, rfl, fun q => absurd q c0, fun _ q => q.elim (fun q => absurd q ck) (fun q => by omega), fun _ _ _ => ⟨m, near, o, fit, hwm, hnear, ho, hop, hon, ?_, ?_, rfl⟩⟩
      · rw [hco]; exact hM
      · rw [hco]; exact ef
  · rw [e, obind_s, selim_r]
    have same : cnd (decide (k ≤ (↑(List.length r) : Int))) (obind (W_clus_Of N (D, r)) fun (b_4 : List Int × Int) => obind (W_clus_replace N (D, cs, (p : Int), (p : Int), [b_4])) fun (b : List (List Int × Int)) => some b) (obind (W_clus_Of N (D, r)) fun (b_4 : List Int × Int) => obind (W_clus_replace N (D, cs, (p : Int), (p : Int), [b_4])) fun (b : List (List Int × Int)) => some b) = some (repl [(r, v)] p p 0 cs) := by
      cases decide (k ≤ (↑(List.length r) : Int)) with
      | true => rw [cnd_t, eo, obind_s, hre, obind_s]
      | false => rw [cnd_f, eo, obind_s, hre, obind_s]
    refine ⟨_, same, fun q => absurd q c0, fun _ _ => ⟨v, rfl, hwo2⟩, fun _ _ h2 => ?_⟩
    exfalso
    -- another one's leader is among those it may be near to
    obtain ⟨j, hj, hjp⟩ : ∃ j, j < cs.length ∧ j ≠ p := by
      by_cases q : p = 0
      · exact ⟨1, by omega, by omega⟩
      · exact ⟨0, by omega, by omega⟩
    have hlead : ∀ j, j < cs.length → j ≠ p → (cs.getD j cD).2 ∈ (((repl [] p p 0 cs).map (fun c => c.2)).filter fun x => decide (x ≠ m)) := by
      intro j hj hjp
      obtain ⟨hjv, hjw⟩ := h.v _ (getD_memC hj)
      rw [List.mem_filter, decide_eq_true_eq]
      refine ⟨List.mem_map.2 ⟨_, (repl_mem [] p p _ cs 0).2 (.inr ⟨j, hj, by omega, by omega, rfl⟩), rfl⟩, fun q => ?_⟩
      have := Who_in hjw hjv.p
      rw [q] at this
      exact hjp (hone j hj m (hrm m hmr) this).symm
    have hnn := Who_in hnear (List.length_pos_of_mem (hlead j hj hjp))
    obtain ⟨hn1, _⟩ := List.mem_filter.1 hnn
    obtain ⟨cc, hcc, hce⟩ := List.mem_map.1 hn1
    rcases (repl_mem [] p p cc cs 0).1 hcc with ⟨_, q⟩ | ⟨i, h1, h2', _, h4⟩
    · simp at q
    · exact hno i h1 (by omega) (by rw [h4]; exact hce)
/-- Who is in some cluster. -/
def In (cs : List Cl) (x : Int) : Prop := ∃ c ∈ cs, x ∈ c.1
theorem In_at {cs : List Cl} {x : Int} (h : In cs x) : ∃ p, p < cs.length ∧ x ∈ (cs.getD p cD).1 := by
  obtain ⟨c, hc, hx⟩ := h
  obtain ⟨i, hi, e⟩ := mem_getDC hc
  exact ⟨i, hi, by rw [e]; exact hx⟩
theorem In_of {cs : List Cl} {x : Int} {p : Nat} (hp : p < cs.length) (h : x ∈ (cs.getD p cD).1) : In cs x := ⟨_, getD_memC hp, h⟩
theorem In_repl (o cs : List Cl) (p q : Nat) (x : Int) : In (repl o p q 0 cs) x ↔ (p < cs.length ∧ In o x) ∨ ∃ j, j < cs.length ∧ j ≠ p ∧ j ≠ q ∧ x ∈ (cs.getD j cD).1 := by
  constructor
  · rintro ⟨c, hc, hx⟩
    rcases (repl_mem o p q c cs 0).1 hc with ⟨h1, h2⟩ | ⟨j, h1, h2, h3, h4⟩
    · exact .inl ⟨by omega, c, h2, hx⟩
    · exact .inr ⟨j, h1, by omega, by omega, by rw [h4]; exact hx⟩
  · rintro (⟨h1, c, hc, hx⟩ | ⟨j, h1, h2, h3, h4⟩)
    · exact ⟨c, (repl_mem o p q c cs 0).2 (.inl ⟨by omega, hc⟩), hx⟩
    · exact ⟨_, (repl_mem o p q _ cs 0).2 (.inr ⟨j, h1, by omega, by omega, rfl⟩), h4⟩
theorem fitted_all (N : Nat) {D : List (List Int)} (hD : GD D) {l : List Int} {k : Int} (h : Vd l) (hk : 1 ≤ k ∧ k ≤ 3) (hN : 1000 ≤ N) : ∃ fit : List Cl, W_clus_fitted N (D, l, k) = some fit ∧ Cs D fit ∧ (∀ x, In fit x ↔ x ∈ l) ∧ (fit.length = 1 ∨ fit.length = 2 ∧ ∀ c ∈ fit, k ≤ c.1.length) ∧ ((l.length : Int) ≤ 4 * k - 1 → ∀ c ∈ fit, (c.1.length : Int) ≤ 3 * k - 1) ∧ (k ≤ l.length → ∀ c ∈ fit, k ≤ c.1.length) := by
  have he := h.e
  by_cases c : (l.length : Int) ≤ 3 * k - 1
  · obtain ⟨v, e, hw⟩ := fitted_one N hD h.s h.e hk c hN
    refine ⟨_, e, ⟨fun q hq => ?_, List.pairwise_singleton _ _⟩, fun x => ?_, .inl rfl, fun _ q hq => ?_, fun hkl q hq => ?_⟩
    · rw [List.mem_singleton.1 hq]; exact ⟨h, hw⟩
    · exact ⟨fun ⟨q, hq, hx⟩ => by rw [List.mem_singleton.1 hq] at hx; exact hx, fun hx => ⟨_, List.mem_singleton.2 rfl, hx⟩⟩
    · rw [List.mem_singleton.1 hq]; exact c
    · rw [List.mem_singleton.1 hq]; exact hkl
  · obtain ⟨a, b, lo, hi, v, w, _, e2, hP, ⟨k1, k2⟩, w1, w2⟩ := fitted_two N hD h.s h.u h.e hk c hN
    have hpl := hP.len
    have va : Vd a := ⟨fun x hx => h.s x (hP.ma x hx), hP.ua, by omega, by omega⟩
    have vb : Vd b := ⟨fun x hx => h.s x (hP.mb x hx), hP.ub, by omega, by omega⟩
    have two : ∀ {P : Cl → Prop}, P (a, v) → P (b, w) → ∀ q ∈ [(a, v), (b, w)], P q := fun h1 h2 q hq => by
      simp only [List.mem_cons, List.not_mem_nil, or_false] at hq
      rcases hq with rfl | rfl
      · exact h1
      · exact h2
    refine ⟨_, e2, ⟨two ⟨va, w1⟩ ⟨vb, w2⟩, ?_⟩, fun x => ⟨fun ⟨q, hq, hx⟩ => ?_, fun hx => ?_⟩, .inr ⟨rfl, two k1 k2⟩, fun h4 => two (show (a.length : Int) ≤ 3 * k - 1 by omega) (show (b.length : Int) ≤ 3 * k - 1 by omega), fun _ => two k1 k2⟩
    · refine List.pairwise_cons.2 ⟨fun q hq x hx => ?_, List.pairwise_singleton _ _⟩
      rw [List.mem_singleton.1 hq]; exact hP.dis x hx
    · simp only [List.mem_cons, List.not_mem_nil, or_false] at hq
      rcases hq with rfl | rfl
      · exact hP.ma x hx
      · exact hP.mb x hx
    · rcases hP.cov x hx with q | q
      · exact ⟨_, List.mem_cons_self .., q⟩
      · exact ⟨_, List.mem_cons_of_mem _ (List.mem_singleton.2 rfl), q⟩
/-- Clusters as they may be at the ground. -/
structure Cz (D : List (List Int)) (k : Int) (cs : List Cl) : Prop where
  c : Cs D cs
  z : ∀ c ∈ cs, (c.1.length : Int) ≤ 3 * k - 1
  n : 1 < cs.length → ∀ c ∈ cs, k ≤ c.1.length
theorem Cz_nil (D : List (List Int)) (k : Int) : Cz D k [] := ⟨⟨(fun c hc => by cases hc), List.Pairwise.nil⟩, (fun c hc => by cases hc), fun h => by simp at h⟩
theorem Join_z (N : Nat) {D : List (List Int)} (hD : GD D) {cs : List Cl} {a id k : Int} (hz : Cz D k cs) (ha : -1 ≤ a ∧ a ≤ 100) (hid : 1 ≤ id ∧ id ≤ 8) (hk : 1 ≤ k ∧ k ≤ 3) (hN : 1000 ≤ N) : ∃ x, W_clus_Join N (D, cs, a, id, k) = some x ∧ Cz D k x ∧ (∀ y, In x y ↔ In cs y ∨ y = id ∧ (cs.length = 0 ∨ 0 ≤ a ∧ a < cs.length)) ∧ (In cs id → x = cs) := by
  have h := hz.c
  have hl := Cs_len h
  unfold W_clus_Join V_clus_Join
  try simp only
  by_cases c0 : cs.length = 0
  · have hV : Vd [id] := ⟨fun x hx => by rw [List.mem_singleton.1 hx]; exact hid, List.pairwise_singleton _ _, by simp, by simp⟩
    obtain ⟨v, e1, w1⟩ := Of_spec N hD hV.s (by simp) hN
    rw [dT (show (cs.length : Int) = 0 by omega), cnd_t, e1, obind_s]
    refine ⟨_, rfl, ⟨⟨fun c hc => by rw [List.mem_singleton.1 hc]; exact ⟨hV, w1⟩, List.pairwise_singleton _ _⟩, fun c hc => by rw [List.mem_singleton.1 hc]; show (1 : Int) ≤ _; omega, fun q => by simp at q⟩, fun y => ?_, fun ⟨c, hc, _⟩ => ?_⟩
    · have : cs = [] := List.eq_nil_of_length_eq_zero c0
      subst this
      constructor
      · rintro ⟨c, hc, hy⟩
        rw [List.mem_singleton.1 hc] at hy
        exact .inr ⟨List.mem_singleton.1 hy, .inl rfl⟩
      · rintro (⟨c, hc, _⟩ | ⟨rfl, _⟩)
        · cases hc
        · exact ⟨_, List.mem_singleton.2 rfl, List.mem_singleton.2 rfl⟩
    · rw [List.eq_nil_of_length_eq_zero c0] at hc; cases hc
  rw [dF (show ¬ (cs.length : Int) = 0 by omega), cnd_f]
  have htw := twin_eq N h (by omega) hN
  by_cases hh : ∃ j, j < cs.length ∧ id ∈ (cs.getD j cD).1
  · obtain ⟨j, hj, hidj⟩ := hh
    refine ⟨cs, ?_, hz, fun y => ⟨.inl, fun q => q.elim (fun q => q) (fun ⟨e, _⟩ => e ▸ In_of hj hidj)⟩, fun _ => rfl⟩
    rw [find_at N h (by omega) hj hidj hN, obind_s, selim_l, htw, obind_s]
  have hno : ∀ j, j < cs.length → id ∉ (cs.getD j cD).1 := fun j hj q => hh ⟨j, hj, q⟩
  have hin : ¬ In cs id := fun q => by obtain ⟨p, hp, hx⟩ := In_at q; exact hno p hp hx
  rw [find_no N h (by omega) hno hN, obind_s, selim_r]
  by_cases c1 : a < 0
  · refine ⟨cs, ?_, hz, fun y => ⟨.inl, fun q => q.elim (fun q => q) (fun ⟨e, q⟩ => by omega)⟩, fun _ => rfl⟩
    rw [dT c1, cnd_t, htw, obind_s]
  rw [dF c1, cnd_f]
  by_cases c2 : (cs.length : Int) ≤ a
  · refine ⟨cs, ?_, hz, fun y => ⟨.inl, fun q => q.elim (fun q => q) (fun ⟨e, q⟩ => by omega)⟩, fun _ => rfl⟩
    rw [dT c2, cnd_t, htw, obind_s]
  obtain ⟨p, hp⟩ : ∃ p : Nat, a = p := ⟨a.toNat, by omega⟩
  subst hp
  have hpl : p < cs.length := by omega
  obtain ⟨hpv, hpw⟩ := h.v _ (getD_memC hpl)
  have hpz := hz.z _ (getD_memC hpl)
  have hpn := fun q => hz.n q _ (getD_memC hpl)
  have hpe := hpv.e
  have hpp := hpv.p
  have hV : Vd (ins (cs.getD p cD).1 [id]) := by
    have hn : ((cs.getD p cD).1 ++ [id]).Nodup := by
      rw [List.nodup_append]
      exact ⟨Up_nodup hpv.u, by simp, fun x hx y hy e => hno p hpl (by rw [← List.mem_singleton.1 hy, ← e]; exact hx)⟩
    have hu := ins_up hn
    have hs : S8 (ins (cs.getD p cD).1 [id]) := fun x hx => (ins_mem.1 hx).elim (hpv.s x) (fun q => by rw [List.mem_singleton.1 q]; exact hid)
    have h8 := Up_len8 _ 1 (by omega) hu hs
    exact ⟨hs, hu, by rw [ins_len]; omega, by omega⟩
  obtain ⟨fit, ef, hfC, hfm, hf1, hf2, hf3⟩ := fitted_all N hD hV hk hN
  have hil : (ins (cs.getD p cD).1 [id]).length = (cs.getD p cD).1.length + 1 := by rw [ins_len, List.length_singleton]
  have hap : ∀ j, j < cs.length → j ≠ p → j ≠ p → ∀ c ∈ fit, ∀ x ∈ c.1, x ∉ (cs.getD j cD).1 := fun j hj h1 _ d hd x hx hx2 => by
    rcases ins_mem.1 ((hfm x).1 ⟨d, hd, hx⟩) with q | q
    · exact h1 (h.one hj hpl hx2 q)
    · rw [List.mem_singleton.1 q] at hx2; exact hno j hj hx2
  have hfl : fit.length ≤ 2 := by rcases hf1 with q | ⟨q, _⟩ <;> omega
  refine ⟨repl fit p p 0 cs, ?_, ⟨Cs_repl h hfC p p hap, fun c hc => ?_, fun q c hc => ?_⟩, fun y => ?_, fun q => absurd q hin⟩
  · rw [dF c2, cnd_f, dT (show (0 : Int) ≤ (p : Int) by omega), dT (show (p : Int) < cs.length by omega), Bool.and_self, cnd_t, Int.toNat_natCast]
    refine (congrArg (fun o => obind o _) (with_eq N (cs.getD p cD).1 [id] (by omega) (by simp) (by simp))).trans ?_
    rw [obind_s, ef, obind_s, replace_eq N hD h hl p p fit (by omega) hN, obind_s]
  · rcases (repl_mem fit p p c cs 0).1 hc with ⟨_, q⟩ | ⟨j, h1, _, _, h4⟩
    · exact hf2 (by omega) c q
    · exact hz.z c (h4 ▸ getD_memC h1)
  · have hrl := repl_len fit p p cs 0
    rw [if_pos (by omega), if_neg (by omega), if_pos (by omega)] at hrl
    rcases (repl_mem fit p p c cs 0).1 hc with ⟨_, q2⟩ | ⟨j, h1, _, _, h4⟩
    · rcases hf1 with q3 | ⟨q3, q4⟩
      · have := hpn (by omega)
        exact hf3 (by omega) c q2
      · exact q4 c q2
    · by_cases c3 : 1 < cs.length
      · exact hz.n c3 c (h4 ▸ getD_memC h1)
      · omega
  · rw [In_repl, hfm, ins_mem, List.mem_singleton]
    constructor
    · rintro (⟨_, q | q⟩ | ⟨j, h1, _, _, h4⟩)
      · exact .inl (In_of hpl q)
      · exact .inr ⟨q, .inr ⟨by omega, by omega⟩⟩
      · exact .inl (In_of h1 h4)
    · rintro (q | ⟨q, _⟩)
      · obtain ⟨j, hj, hx⟩ := In_at q
        by_cases e : j = p
        · subst e; exact .inl ⟨hpl, .inl hx⟩
        · exact .inr ⟨j, hj, e, e, hx⟩
      · exact .inl ⟨hpl, .inr q⟩
theorem Leave_z (N : Nat) {D : List (List Int)} (hD : GD D) {cs : List Cl} {id k : Int} (hz : Cz D k cs) (hk : 1 ≤ k ∧ k ≤ 3) (hN : 1000 ≤ N) : ∃ x, W_clus_Leave N (D, cs, id, k) = some x ∧ Cz D k x ∧ (∀ y, In x y ↔ In cs y ∧ y ≠ id) ∧ (¬ In cs id → x = cs) := by
  have h := hz.c
  have hl := Cs_len h
  by_cases hh : In cs id
  case neg =>
    have hno : ∀ j, j < cs.length → id ∉ (cs.getD j cD).1 := fun j hj q => hh (In_of hj q)
    exact ⟨cs, Leave_no N h hl hno hN, hz, fun y => ⟨fun q => ⟨q, fun e => hh (e ▸ q)⟩, fun q => q.1⟩, fun _ => rfl⟩
  obtain ⟨p, hp, hidp⟩ := In_at hh
  obtain ⟨hpv, hpw⟩ := h.v _ (getD_memC hp)
  have hpz := hz.z _ (getD_memC hp)
  obtain ⟨x, ex, L1, L2, L3⟩ := Leave_spec2 N hD h hl hp hk hidp hN
  refine ⟨x, ex, ?_⟩
  have hpe := hpv.e
  obtain ⟨r, hr⟩ : ∃ r, les (cs.getD p cD).1 id = r := ⟨_, rfl⟩
  have hrm : ∀ x, x ∈ r ↔ x ∈ (cs.getD p cD).1 ∧ x ≠ id := fun x => by rw [← hr]; exact les_mem
  have hru : Up r := hr ▸ les_up hpv.u
  have hrl : r.length ≤ (cs.getD p cD).1.length := hr ▸ les_le
  rw [hr] at L1 L2 L3
  have hrS : S8 r := fun x hx => hpv.s x ((hrm x).1 hx).1
  -- who is in the other ones isn't id
  have hoth : ∀ j y, j < cs.length → j ≠ p → y ∈ (cs.getD j cD).1 → y ≠ id := fun j y hj hjp hy e => hjp (h.one hj hp (e ▸ hy) hidp)
  have hin : ∀ (fit : List Cl) (q : Nat), q < cs.length → (∀ y, In fit y ↔ y ∈ r ∨ q ≠ p ∧ y ∈ (cs.getD q cD).1) → ∀ y, In (repl fit p q 0 cs) y ↔ In cs y ∧ y ≠ id := fun fit q hq hf y => by
    rw [In_repl, hf, hrm]
    constructor
    · rintro (⟨_, ⟨q1, q2⟩ | ⟨q1, q2⟩⟩ | ⟨j, h1, h2, _, h4⟩)
      · exact ⟨In_of hp q1, q2⟩
      · exact ⟨In_of hq q2, hoth q y hq q1 q2⟩
      · exact ⟨In_of h1 h4, hoth j y h1 h2 h4⟩
    · rintro ⟨q1, q2⟩
      obtain ⟨j, hj, hx⟩ := In_at q1
      by_cases e : j = p
      · subst e; exact .inl ⟨hp, .inl ⟨hx, q2⟩⟩
      · by_cases e2 : j = q
        · subst e2; exact .inl ⟨hp, .inr ⟨e, hx⟩⟩
        · exact .inr ⟨j, hj, e, e2, hx⟩
  by_cases c0 : r.length = 0
  · have hx := L1 c0
    subst hx
    have hr0 : r = [] := List.eq_nil_of_length_eq_zero c0
    have hrl := repl_len [] p p cs 0
    rw [if_pos (by omega), if_neg (by omega), if_pos (by omega)] at hrl
    simp only [List.length_nil] at hrl
    refine ⟨⟨Cs_repl h ⟨(fun c hc => by cases hc), List.Pairwise.nil⟩ p p (fun _ _ _ _ c hc => by cases hc), fun c hc => ?_, fun q c hc => ?_⟩, hin [] p hp (fun y => ?_), fun q => absurd hh q⟩
    · rcases (repl_mem [] p p c cs 0).1 hc with ⟨_, q⟩ | ⟨j, h1, _, _, h4⟩
      · cases q
      · exact hz.z c (h4 ▸ getD_memC h1)
    · rcases (repl_mem [] p p c cs 0).1 hc with ⟨_, q⟩ | ⟨j, h1, _, _, h4⟩
      · cases q
      · exact hz.n (by omega) c (h4 ▸ getD_memC h1)
    · rw [hr0]
      exact ⟨fun ⟨c, hc, _⟩ => (by cases hc), fun q => Or.elim q (fun q => (by cases q)) (fun q => absurd rfl q.1)⟩
  have hr1 : 1 ≤ r.length := by omega
  have hVr : Vd r := ⟨hrS, hru, by omega, by omega⟩
  by_cases c1 : k ≤ r.length ∨ cs.length = 1
  · obtain ⟨v, hx, hw⟩ := L2 hr1 c1
    subst hx
    have hrl' := repl_len [(r, v)] p p cs 0
    rw [if_pos (by omega), if_neg (by omega), if_pos (by omega)] at hrl'
    simp only [List.length_singleton] at hrl'
    refine ⟨⟨Cs_repl h ⟨fun c hc => by rw [List.mem_singleton.1 hc]; exact ⟨hVr, hw⟩, List.pairwise_singleton _ _⟩ p p fun j hj h1 _ c hc y hy hy2 => ?_, fun c hc => ?_, fun q c hc => ?_⟩, hin [(r, v)] p hp (fun y => ?_), fun q => absurd hh q⟩
    · rw [List.mem_singleton.1 hc] at hy
      exact h1 (h.one hj hp hy2 ((hrm y).1 hy).1)
    · rcases (repl_mem [(r, v)] p p c cs 0).1 hc with ⟨_, q⟩ | ⟨j, h1, _, _, h4⟩
      · rw [List.mem_singleton.1 q]; show (r.length : Int) ≤ _; omega
      · exact hz.z c (h4 ▸ getD_memC h1)
    · rcases (repl_mem [(r, v)] p p c cs 0).1 hc with ⟨_, q2⟩ | ⟨j, h1, _, _, h4⟩
      · rw [List.mem_singleton.1 q2]; show k ≤ (r.length : Int); rcases c1 with c1 | c1 <;> omega
      · exact hz.n (by omega) c (h4 ▸ getD_memC h1)
    · constructor
      · rintro ⟨c, hc, hy⟩
        rw [List.mem_singleton.1 hc] at hy; exact .inl hy
      · rintro (q | ⟨q, _⟩)
        · exact ⟨_, List.mem_singleton.2 rfl, q⟩
        · exact absurd rfl q
  have hc3 : 1 < cs.length := Nat.lt_of_le_of_ne (Nat.lt_of_le_of_lt (Nat.zero_le _) hp) (fun q => c1 (.inr q.symm))
  obtain ⟨m, near, o, fit, _, _, hol, hop, _, hM, ef, hx⟩ := L3 hr1 (fun q => c1 (.inl q)) hc3
  subst hx
  obtain ⟨hov, _⟩ := h.v _ (getD_memC hol)
  have hoz := hz.z _ (getD_memC hol)
  have hon := hz.n hc3 _ (getD_memC hol)
  obtain ⟨fit', ef', hfC, hfm, hf1, hf2, hf3⟩ := fitted_all N hD hM hk hN
  rw [ef] at ef'
  injection ef' with ef'
  subst ef'
  have hil : (ins r (cs.getD o cD).1).length = r.length + (cs.getD o cD).1.length := ins_len
  have hck : ¬ k ≤ (r.length : Int) := fun q => c1 (.inl q)
  refine ⟨⟨Cs_repl h hfC p o fun j hj h1 h2 d hd y hy hy2 => ?_, fun c hc => ?_, fun q c hc => ?_⟩, hin fit o hol (fun y => ?_), fun q => absurd hh q⟩
  · rcases ins_mem.1 ((hfm y).1 ⟨d, hd, hy⟩) with q | q
    · exact h1 (h.one hj hp hy2 ((hrm y).1 q).1)
    · exact h2 (h.one hj hol hy2 q)
  · rcases (repl_mem fit p o c cs 0).1 hc with ⟨_, q⟩ | ⟨j, h1, _, _, h4⟩
    · exact hf2 (by omega) c q
    · exact hz.z c (h4 ▸ getD_memC h1)
  · rcases (repl_mem fit p o c cs 0).1 hc with ⟨_, q2⟩ | ⟨j, h1, _, _, h4⟩
    · exact hf3 (by omega) c q2
    · exact hz.n hc3 c (h4 ▸ getD_memC h1)
  · rw [hfm, ins_mem]
    exact ⟨fun q => Or.elim q .inl (fun q => .inr ⟨hop, q⟩), fun q => Or.elim q .inl (fun q => .inr q.2)⟩
abbrev Lv := List (List Cl)
/-- Who leads, rising. -/
def lead (cs : List Cl) : List Int := ins [] (cs.map fun c => c.2)
theorem lead_mem {cs : List Cl} {x : Int} : x ∈ lead cs ↔ ∃ c ∈ cs, c.2 = x := by
  unfold lead
  rw [ins_mem, List.mem_map]
  exact ⟨fun q => Or.elim q (fun q => by cases q) (fun q => q), .inr⟩
theorem lead_len {cs : List Cl} : (lead cs).length = cs.length := by
  unfold lead
  rw [ins_len, List.length_map, List.length_nil]; omega
theorem lead_in {D : List (List Int)} {cs : List Cl} (h : Cs D cs) {c : Cl} (hc : c ∈ cs) : c.2 ∈ c.1 := Who_in (h.v c hc).2 (h.v c hc).1.p
theorem lead_Vd {D : List (List Int)} {cs : List Cl} (h : Cs D cs) (h1 : 1 ≤ cs.length) : Vd (lead cs) := by
  have hn : (cs.map fun c => c.2).Nodup := by
    refine List.pairwise_map.2 (h.d.imp_of_mem fun {a b} ha hb hd e => hd _ (lead_in h ha) ?_)
    rw [e]; exact lead_in h hb
  have hs : S8 (lead cs) := fun x hx => by
    obtain ⟨c, hc, rfl⟩ := lead_mem.1 hx
    exact (h.v c hc).1.s _ (lead_in h hc)
  have hl := Cs_len h
  exact ⟨hs, ins_up (by simpa using hn), by rw [lead_len]; exact h1, by rw [lead_len]; exact hl⟩
/-- Of two or more there are fewer clusters than they. -/
theorem GR_less (N : Nat) {D : List (List Int)} (hD : GD D) {k : Int} (hk : 1 ≤ k ∧ k ≤ 3) (hN : 1000 ≤ N) : ∀ (n : Nat) (l : List Int), l.length ≤ n → Vd l → 2 ≤ l.length → ∀ g, GR N D k l g → g.length < l.length := by
  intro n
  induction n with
  | zero => intro l hl h; have := h.p; omega
  | succ n ih =>
    intro l hl h h2 g hg
    by_cases c : (l.length : Int) ≤ 3 * k - 1
    · obtain ⟨v, hg1, _⟩ := GR_one N hD hk hN h c
      rw [GR_unique hg hg1, List.length_singleton]; omega
    · obtain ⟨a, b, lo, hi, v, w, _, e2, hP, ⟨k1, k2⟩, _, _⟩ := fitted_two N hD h.s h.u h.e hk c hN
      have hpl := hP.len
      have he := h.e
      have va : Vd a := ⟨fun x hx => h.s x (hP.ma x hx), hP.ua, by omega, by omega⟩
      have vb : Vd b := ⟨fun x hx => h.s x (hP.mb x hx), hP.ub, by omega, by omega⟩
      obtain ⟨g1, r1, G1⟩ := GR_all N hD hk hN _ a (Nat.le_refl _) va
      obtain ⟨g2, r2, G2⟩ := GR_all N hD hk hN _ b (Nat.le_refl _) vb
      have h1 := G1.cl; have h3 := G2.cl
      rw [GR_unique hg (GR_two N hD hk hN h e2 (by omega) (by omega) r1 r2 (by omega)), List.length_append]
      by_cases ca : 2 ≤ a.length
      · have := ih a (by omega) va ca g1 r1; omega
      · have := ih b (by omega) vb (by omega) g2 r2; omega
/-- The levels over a ground. -/
inductive Rise (N : Nat) (D : List (List Int)) (k : Int) : List Cl → Lv → Prop
  | one {cs : List Cl} : Cs D cs → cs.length = 1 → Rise N D k cs [cs]
  | more {cs g : List Cl} {L : Lv} : Cs D cs → 2 ≤ cs.length → GR N D k (lead cs) g → Gp D k (lead cs) g → Rise N D k g L → Rise N D k cs (cs :: L)
theorem Rise.c {N : Nat} {D : List (List Int)} {k : Int} {cs : List Cl} {L : Lv} (h : Rise N D k cs L) : Cs D cs := by cases h <;> assumption
theorem Rise.p {N : Nat} {D : List (List Int)} {k : Int} {cs : List Cl} {L : Lv} (h : Rise N D k cs L) : 1 ≤ cs.length := by cases h <;> omega
theorem Rise.hd {N : Nat} {D : List (List Int)} {k : Int} {cs : List Cl} {L : Lv} (h : Rise N D k cs L) : ∃ R, L = cs :: R := by cases h <;> exact ⟨_, rfl⟩
theorem Rise.lv {N : Nat} {D : List (List Int)} {k : Int} {cs : List Cl} {L : Lv} (h : Rise N D k cs L) : ∀ x ∈ L, Cs D x ∧ 1 ≤ x.length := by
  induction h with
  | one hC h1 => intro x hx; rw [List.mem_singleton.1 hx]; exact ⟨hC, by omega⟩
  | more hC h2 _ _ _ ih =>
    intro x hx
    rcases List.mem_cons.1 hx with e | e
    · rw [e]; exact ⟨hC, by omega⟩
    · exact ih x e
theorem Rise.le (N : Nat) {D : List (List Int)} (hD : GD D) {k : Int} (hk : 1 ≤ k ∧ k ≤ 3) (hN : 1000 ≤ N) {cs : List Cl} {L : Lv} (h : Rise N D k cs L) : L.length ≤ cs.length := by
  induction h with
  | one hC h1 => simp [h1]
  | more hC h2 hg hG _ ih =>
    have hV := lead_Vd hC (by omega)
    have := GR_less N hD hk hN _ _ (Nat.le_refl _) hV (by rw [lead_len]; omega) _ hg
    rw [lead_len] at this
    simp only [List.length_cons]; omega
theorem flat_nodup {D : List (List Int)} : ∀ {cs : List Cl}, Cs D cs → (cs.flatMap fun c => c.1).Nodup
  | [], _ => by simp
  | c :: r, h => by
    have hp := List.pairwise_cons.1 h.d
    rw [List.flatMap_cons, List.nodup_append]
    refine ⟨Up_nodup (h.v c (by simp)).1.u, flat_nodup (cs := r) ⟨fun x hx => h.v x (by simp [hx]), hp.2⟩, fun x hx y hy e => ?_⟩
    obtain ⟨d, hd, hyd⟩ := List.mem_flatMap.1 hy
    exact hp.1 d hd x hx (e ▸ hyd)
theorem flat_Up {D : List (List Int)} {cs : List Cl} (h : Cs D cs) : Up (ins [] (cs.flatMap fun c => c.1)) ∧ S8 (ins [] (cs.flatMap fun c => c.1)) ∧ ∀ x, x ∈ ins [] (cs.flatMap fun c => c.1) ↔ In cs x := by
  have hm : ∀ x, x ∈ ins [] (cs.flatMap fun c => c.1) ↔ In cs x := fun x => by
    rw [ins_mem, List.mem_flatMap]
    exact ⟨fun q => Or.elim q (fun q => by cases q) (fun q => q), .inr⟩
  exact ⟨ins_up (by simpa using flat_nodup h), fun x hx => by obtain ⟨c, hc, hx⟩ := (hm x).1 hx; exact (h.v c hc).1.s x hx, hm⟩
theorem flat_len8 {D : List (List Int)} {cs : List Cl} (h : Cs D cs) : (cs.flatMap fun c => c.1).length ≤ 8 := by
  obtain ⟨h1, h2, _⟩ := flat_Up h
  have := Up_len8 _ 1 (by omega) h1 h2
  rw [ins_len, List.length_nil] at this
  omega
/-- A hierarchy as it may be. -/
structure Hv (N : Nat) (D : List (List Int)) (k : Int) (L : Lv) : Prop where
  o : L = [] ∨ ∃ cs, Cz D k cs ∧ Rise N D k cs L
theorem Hv.b (N : Nat) {D : List (List Int)} (hD : GD D) {k : Int} (hk : 1 ≤ k ∧ k ≤ 3) (hN : 1000 ≤ N) {L : Lv} (h : Hv N D k L) : L.length ≤ 8 ∧ ∀ l ∈ L, l.length ≤ 8 ∧ (Cs D l ∧ 1 ≤ l.length) ∧ ∀ c ∈ l, c.1.length ≤ 8 := by
  rcases h.o with rfl | ⟨cs, hz, hR⟩
  · exact ⟨by simp, fun l hl => by cases hl⟩
  · have h1 := hR.le N hD hk hN
    have h2 := Cs_len hR.c
    refine ⟨by omega, fun l hl => ?_⟩
    obtain ⟨h3, h4⟩ := hR.lv l hl
    exact ⟨Cs_len h3, ⟨h3, h4⟩, fun c hc => (h3.v c hc).1.e⟩
/-- Who is there at all. -/
def Gin (L : Lv) (x : Int) : Prop := In (L.getD 0 []) x
theorem Hv.g {N : Nat} {D : List (List Int)} {k : Int} {L : Lv} (h : Hv N D k L) : Cz D k (L.getD 0 []) ∧ ((L.getD 0 []).length = 0 ↔ L.length = 0) := by
  rcases h.o with rfl | ⟨cs, hz, hR⟩
  · exact ⟨Cz_nil D k, by simp⟩
  · obtain ⟨R, e⟩ := hR.hd
    have hp := hR.p
    subst e
    exact ⟨hz, fun q => by have : cs.length = 0 := q; omega, fun q => by simp at q⟩
open Classical in
/-- On how many levels one leads. -/
theorem Hv.rng {N : Nat} {D : List (List Int)} {k : Int} {L : Lv} (h : Hv N D k L) {x : Int} (hx : Gin L x) : 1 ≤ x ∧ x ≤ 8 := by
  obtain ⟨c, hc, hxc⟩ := hx
  exact (h.g.1.c.v c hc).1.s x hxc
/-- One alone. -/
theorem alone_cs {D : List (List Int)} {cs : List Cl} (h : Cs D cs) {u : Int} (hu : ∀ y, In cs y ↔ y = u) : cs = [([u], u)] := by
  obtain ⟨c, hc, hx⟩ := (hu u).2 rfl
  have hall : ∀ c' ∈ cs, c' = ([u], u) := fun c' hc' => by
    obtain ⟨hv, hw⟩ := h.v c' hc'
    have hm : ∀ y ∈ c'.1, y = u := fun y hy => (hu y).1 ⟨c', hc', hy⟩
    have hl : c'.1.length = 1 := by
      have hp := hv.p
      match hc1 : c'.1, hp with
      | [a], _ => rfl
      | a :: b :: r, _ =>
        have hup := hv.u
        rw [hc1] at hup
        have h1 := (List.pairwise_cons.1 hup).1 b (by simp)
        have h2 := hm a (by rw [hc1]; simp)
        have h3 := hm b (by rw [hc1]; simp)
        omega
    have h1 : c'.1 = [u] := by
      match hc1 : c'.1, hl with
      | [a], _ => rw [hm a (by rw [hc1]; simp)]
    have h2 : c'.2 = u := hm _ (lead_in h hc')
    exact Prod.ext h1 h2
  match hcs : cs, hc with
  | [a], _ => rw [hall a (by simp)]
  | a :: b :: r, _ =>
    exfalso
    have hd := (List.pairwise_cons.1 h.d).1 b (by simp)
    have h1 := hall a (by simp)
    have h2 := hall b (by simp)
    rw [h1, h2] at hd
    exact hd u (by simp) (by simp)
theorem Hv.alone {N : Nat} {D : List (List Int)} {k : Int} {L : Lv} (h : Hv N D k L) {u : Int} (hu : ∀ y, Gin L y ↔ y = u) : L = [[([u], u)]] := by
  rcases h.o with e | ⟨cs, hz, hR⟩
  · rw [e] at hu; obtain ⟨c, hc, _⟩ := (hu u).2 rfl; cases hc
  · obtain ⟨R, e⟩ := hR.hd
    have hg : L.getD 0 [] = cs := by rw [e]; rfl
    have hc := alone_cs hz.c (u := u) (fun y => by have := hu y; unfold Gin at this; rw [hg] at this; exact this)
    subst hc
    cases hR with
    | one _ _ => rfl
    | more _ h2 _ _ _ => simp at h2
def fl (cs : List Cl) : List Int := cs.flatMap fun c => c.1
theorem tot_of {D : List (List Int)} {cs : List Cl} (h : Cs D cs) {M : List Int} (hn : M.Nodup) (hm : ∀ y, In cs y ↔ y ∈ M) : (fl cs).length = M.length := by
  obtain ⟨u1, u2, u3⟩ := flat_Up h
  have u4 : Up (ins [] M) := ins_up (by simpa using hn)
  have e := Up_eq u1 u4 fun x => by
    rw [u3, ins_mem]
    exact (hm x).trans ⟨.inr, fun q => Or.elim q (fun q => (by cases q)) (fun q => q)⟩
  have := congrArg List.length e
  rw [ins_len, ins_len, List.length_nil] at this
  show (List.flatMap _ _).length = _
  omega
theorem In_fl {cs : List Cl} {y : Int} : In cs y ↔ y ∈ fl cs := by
  unfold fl; rw [List.mem_flatMap]; rfl
/-- A row of answers. -/
def bset (l : List Bool) (P : Int → Prop) : Prop := l.length = 9 ∧ ∀ y, 1 ≤ y → y ≤ 8 → (l.getD y.toNat false = true ↔ P y)
theorem putL_set {α : Type} : ∀ (l : List α) (i : Nat) (x : α), i < l.length → putL l [x] i = l.set i x
  | [], _, _, h => by simp at h
  | a :: l, 0, x, _ => by simp [putL]
  | a :: l, i + 1, x, h => by
    have := putL_set l i x (by simp only [List.length_cons] at h; omega)
    unfold putL at this ⊢
    simp only [List.take_succ_cons, List.length_singleton, List.set_cons_succ, List.cons_append] at this ⊢
    rw [← this]; rfl
theorem bset_put {l : List Bool} {P Q : Int → Prop} (h : bset l P) {id : Int} (hid : 1 ≤ id ∧ id ≤ 8) {b : Bool} (hb : b = true ↔ Q id) (hq : ∀ y, y ≠ id → (Q y ↔ P y)) : bset (putL l [b] id.toNat) Q := by
  obtain ⟨h1, h2⟩ := h
  rw [putL_set l _ _ (by omega)]
  refine ⟨by rw [List.length_set]; exact h1, fun y y1 y8 => ?_⟩
  rw [List.getD_eq_getElem?_getD, List.getElem?_set]
  by_cases e : id = y
  · subst e
    rw [if_pos rfl, if_pos (by omega)]; exact hb
  · rw [if_neg (by omega), ← List.getD_eq_getElem?_getD, h2 y y1 y8]
    exact (hq y (fun q => e q.symm)).symm
theorem law_aux (N : Nat) (hN : 1000 ≤ N) (hbeg : W_law8_begun N () = some true) (x : List Int) (y : List (Int × Int × Int)) (z : Int) (hx : U8 x) (hy : ∀ i, 0 ≤ (y.getD i (0, 0, 0)).1 ∧ 0 ≤ (y.getD i (0, 0, 0)).2.1 ∧ (y.getD i (0, 0, 0)).2.1 ≤ 255) (hz : 0 ≤ z ∧ z ≤ 255) : W_law8_ClusSizes N (x, y, z) = some true := by
  unfold W_law8_ClusSizes V_law8_ClusSizes
  try simp only
  rw [hbeg, obind_s, Bool.not_true, cnd_f]
  by_cases c1 : (30 : Int) < x.length
  · rw [dT c1, cnd_t]
  rw [dF c1, cnd_f]
  by_cases c2 : (25 : Int) < y.length
  · rw [dT c2, cnd_t]
  rw [dF c2, cnd_f]
  have hM : ∀ l, W_Made N l = some (l, 0) := fun l => rfl
  obtain ⟨D, n', e1, hD⟩ := Dist_spec N x 0 hx (by omega) (by omega) (by omega)
  have hk1 : 0 ≤ Int.tmod z 3 := Int.tmod_nonneg _ hz.1
  have hk2 : Int.tmod z 3 < 3 := Int.tmod_lt_of_pos _ (by omega)
  rw [hM, obind_s, e1, obind_s]
  try simp only
  rw [wr_m (z := Int.tmod z 3) (by omega) (by omega), wr_m (z := 1 + Int.tmod z 3) (by omega) (by omega)]
  generalize hk : 1 + Int.tmod z 3 = k
  have hk : 1 ≤ k ∧ k ≤ 3 := by omega
  rw [wr_m (z := 3 * k) (by omega) (by omega), wr_m (z := 3 * k - 1) (by omega) (by omega)]
  refine loop_post (σ := List Cl × Int × Int × List Bool) (ρ := Unit ⊕ Bool) (β := Bool) (fun o => o = some true) (fun v => ∃ (i : Nat) (cs : List Cl) (is : List Bool), v = (cs, ((fl cs).length : Int), (i : Int), is) ∧ i ≤ y.length ∧ Cz D k cs ∧ bset is (In cs)) (fun v => y.length - v.2.2.1.toNat) (fun r => r = .inl ()) ⟨0, [], _, rfl, by omega, Cz_nil D k, rfl, fun q q1 q8 => ?_⟩ (by simp; omega) (fun r h => by rw [h, selim_l]) ?_
  · have : ∀ j : Nat, j < 9 → List.getD [false, false, false, false, false, false, false, false, false] j false = false := by decide
    rw [this q.toNat (by omega)]
    exact ⟨fun w => (by cases w), fun ⟨c, hc, _⟩ => (by cases hc)⟩
  rintro v ⟨i, cs, is, rfl, hi, hz0, hb0⟩
  try simp only
  by_cases c : (i : Int) < y.length
  case neg => right; rw [dF c, cnd_f]; exact ⟨_, rfl, rfl⟩
  left
  rw [dT c, dT (show (0 : Int) ≤ (i : Int) by omega), Bool.and_self, cnd_t, Int.toNat_natCast]
  obtain ⟨hy1, hy2, hy3⟩ := hy i
  generalize y.getD i ((0 : Int), (0 : Int), (0 : Int)) = e at hy1 hy2 hy3 ⊢
  have a1 : 0 ≤ Int.tmod e.1 8 := Int.tmod_nonneg _ hy1
  have a2 : Int.tmod e.1 8 < 8 := Int.tmod_lt_of_pos _ (by omega)
  rw [wr_m (z := Int.tmod e.1 8) (by omega) (by omega), wr_m (z := 1 + Int.tmod e.1 8) (by omega) (by omega), wr_m (z := (i : Int) + 1) (by omega) (by omega), wr_m (z := e.2.1) (by omega) (by omega)]
  generalize hid : 1 + Int.tmod e.1 8 = id
  have hid : 1 ≤ id ∧ id ≤ 8 := by omega
  have hcl := Cs_len hz0.c
  have hf8 : (fl cs).length ≤ 8 := flat_len8 hz0.c
  have hnd : (fl cs).Nodup := flat_nodup hz0.c
  have hil := hb0.1
  have hbi := hb0.2 id hid.1 hid.2
  have h3 : (decide (0 ≤ id) && decide (id < (is.length : Int)) && decide (id < ((9 : Nat) : Int))) = true := by
    rw [dT (show 0 ≤ id by omega), dT (show id < (is.length : Int) by omega), dT (show id < ((9 : Nat) : Int) by omega)]; rfl
  simp only [h3, cnd_t]
  rw [wr_m (z := ((fl cs).length : Int) + 1) (by omega) (by omega), wr_m (z := ((fl cs).length : Int) - 1) (by omega) (by omega)]
  -- what a deed comes to
  have step : ∃ cs' is', cnd (decide (0 < Int.tmod e.2.2 3)) (cnd (!decide (max (cs.length : Int) 1 = 0)) (obind (W_clus_Join N (D, cs, Int.tmod e.2.1 (max (cs.length : Int) 1), id, k)) fun (b : List Cl) => cnd (!is.getD id.toNat false) (some (b, ((fl cs).length : Int) + 1, putL is [true] id.toNat)) (some (b, ((fl cs).length : Int), putL is [true] id.toNat))) none) (obind (W_clus_Leave N (D, cs, id, k)) fun (b : List Cl) => cnd (is.getD id.toNat false) (some (b, ((fl cs).length : Int) - 1, putL is [false] id.toNat)) (some (b, ((fl cs).length : Int), putL is [false] id.toNat))) = some (cs', ((fl cs').length : Int), is') ∧ Cz D k cs' ∧ bset is' (In cs') := by
    cases decide (0 < Int.tmod e.2.2 3) with
    | true =>
      have m1 : 0 ≤ Int.tmod e.2.1 (max (cs.length : Int) 1) := Int.tmod_nonneg _ hy2
      have m2 : Int.tmod e.2.1 (max (cs.length : Int) 1) < max (cs.length : Int) 1 := Int.tmod_lt_of_pos _ (by omega)
      obtain ⟨x', ex, hz', hi', hsame⟩ := Join_z N hD hz0 (a := Int.tmod e.2.1 (max (cs.length : Int) 1)) (id := id) (by omega) hid hk hN
      have hin : ∀ q, In x' q ↔ In cs q ∨ q = id := fun q => by
        rw [hi']
        exact ⟨fun w => Or.elim w .inl (fun w => .inr w.1), fun w => Or.elim w .inl (fun w => .inr ⟨w, by omega⟩)⟩
      refine ⟨x', putL is [true] id.toNat, ?_, hz', bset_put hb0 hid ⟨fun _ => (hin id).2 (.inr rfl), fun _ => rfl⟩ (fun q hq => by rw [hin]; exact ⟨fun w => w.resolve_right hq, .inl⟩)⟩
      rw [cnd_t, dF (show ¬ max (cs.length : Int) 1 = 0 by omega), Bool.not_false, cnd_t, ex, obind_s]
      by_cases q : In cs id
      · rw [hbi.2 q, Bool.not_true, cnd_f, hsame q]
      · have hbf : is.getD id.toNat false = false := by
          cases hh : is.getD id.toNat false with
          | false => rfl
          | true => exact absurd (hbi.1 hh) q
        have ht := tot_of hz'.c (M := id :: fl cs) (List.nodup_cons.2 ⟨fun w => q (In_fl.2 w), hnd⟩) (fun p => by rw [hin, List.mem_cons, In_fl]; exact or_comm)
        rw [hbf, Bool.not_false, cnd_t, ht, List.length_cons]; rfl
    | false =>
      obtain ⟨x', ex, hz', hi', hsame⟩ := Leave_z N hD hz0 (id := id) hk hN
      refine ⟨x', putL is [false] id.toNat, ?_, hz', bset_put hb0 hid ⟨fun w => (by cases w), fun w => absurd rfl ((hi' id).1 w).2⟩ (fun q hq => by rw [hi']; exact ⟨fun w => w.1, fun w => ⟨w, hq⟩⟩)⟩
      rw [cnd_f, ex, obind_s]
      by_cases q : In cs id
      · have hl := les_len hnd (In_fl.1 q)
        have ht := tot_of hz'.c (M := les (fl cs) id) (hnd.filter _) (fun p => by rw [hi', les_mem, In_fl])
        rw [hbi.2 q, cnd_t, ht, show ((les (fl cs) id).length : Int) = (fl cs).length - 1 by omega]
      · have hbf : is.getD id.toNat false = false := by
          cases hh : is.getD id.toNat false with
          | false => rfl
          | true => exact absurd (hbi.1 hh) q
        rw [hbf, cnd_f, hsame q]
  obtain ⟨cs', is', es, hzn, hbn⟩ := step
  rw [es, obind_s]
  try simp only
  have hcl' := Cs_len hzn.c
  have hf8' : (fl cs').length ≤ 8 := flat_len8 hzn.c
  have hnd' : (fl cs').Nodup := flat_nodup hzn.c
  refine loop_post (σ := Int × Int × List Bool × List Bool) (ρ := (Int × List Bool) ⊕ Bool) (β := (List Cl × Int × Int × List Bool) ⊕ (Unit ⊕ Bool)) (fun o => ∃ y' : List Cl × Int × Int × List Bool, o = some (.inl y') ∧ (∃ (i' : Nat) (cs : List Cl) (is : List Bool), y' = (cs, ((fl cs).length : Int), (i' : Int), is) ∧ i' ≤ y.length ∧ Cz D k cs ∧ bset is (In cs)) ∧ y.length - y'.2.2.1.toNat < y.length - i) (fun v => ∃ (j : Nat) (seen : List Bool), v = (((fl (cs'.take j)).length : Int), (j : Int), is', seen) ∧ j ≤ cs'.length ∧ bset seen (fun q => q ∈ fl (cs'.take j))) (fun v => cs'.length - v.2.1.toNat) (fun r => r = .inl (((fl cs').length : Int), is')) ⟨0, _, rfl, by omega, rfl, fun q q1 q8 => ?_⟩ (by simp; omega) (fun r h => ?_) ?_
  · have : ∀ j : Nat, j < 9 → List.getD [false, false, false, false, false, false, false, false, false] j false = false := by decide
    rw [this q.toNat (by omega)]
    exact ⟨fun w => (by cases w), fun w => (by cases w)⟩
  · rw [h, selim_l]
    try simp only
    rw [dF (fun q : ((fl cs').length : Int) ≠ (fl cs').length => q rfl), cnd_f]
    exact ⟨_, rfl, ⟨i + 1, cs', is', rfl, by omega, hzn, hbn⟩, by simp only; omega⟩
  rintro v ⟨j, seen, rfl, hj, hsb⟩
  try simp only
  by_cases c4 : (j : Int) < cs'.length
  case neg => right; rw [dF c4, cnd_f, List.take_of_length_le (by omega)]; exact ⟨_, rfl, rfl⟩
  left
  have hm := getD_memC (l := cs') (i := j) (by omega)
  obtain ⟨hv, hw⟩ := hzn.c.v _ hm
  have hzz := hzn.z _ hm
  have hkk := fun q => hzn.n q _ hm
  have hfs : fl (cs'.take (j + 1)) = fl (cs'.take j) ++ (cs'.getD j cD).1 := by
    unfold fl; rw [take_snocC (l := cs') (k := j) (by omega), List.flatMap_append]; simp
  have hsub : (fl (cs'.take (j + 1))).length ≤ (fl cs').length := flat_le cs' (j + 1)
  have hnds : (fl (cs'.take (j + 1))).Nodup := by
    have e : fl cs' = fl (cs'.take (j + 1)) ++ fl (cs'.drop (j + 1)) := by unfold fl; rw [← List.flatMap_append, List.take_append_drop]
    rw [e] at hnd'
    exact (List.nodup_append.1 hnd').1
  rw [hfs] at hsub hnds
  rw [List.length_append] at hsub
  obtain ⟨v7, e7, w7⟩ := Mid7_spec N hD hv.s (by have := hv.e; omega) hN
  have hv7 := Who_one hw w7
  have hcD : cs'.getD j (([] : List Int), (0 : Int)) = cs'.getD j cD := rfl
  rw [dT c4, cnd_t, dT (show (0 : Int) ≤ (j : Int) by omega), Bool.and_self, Int.toNat_natCast, hcD]
  obtain ⟨cc, hcc⟩ : ∃ cc, cs'.getD j cD = cc := ⟨_, rfl⟩
  have hinm : ∀ q ∈ cc.1, In cs' q := fun q hq => ⟨_, hm, by rw [hcc]; exact hq⟩
  rw [hcc] at hv hzz hkk hfs hsub hnds e7 hv7 ⊢
  have hvp := hv.p
  have hve := hv.e
  obtain ⟨nd1, nd2, nd3⟩ := List.nodup_append.1 hnds
  rw [cnd_t, dF (show ¬ (cc.1.length : Int) < 1 by omega), cnd_f, dF (show ¬ 3 * k - 1 < (cc.1.length : Int) by omega), cnd_f, wr_m (z := (j : Int) + 1) (by omega) (by omega)]
  by_cases c3 : (1 : Int) < cs'.length
  all_goals (first | rw [dT c3, cnd_t, dF (show ¬ (cc.1.length : Int) < k by have := hkk (by omega); omega), cnd_f] | rw [dF c3, cnd_f])
  all_goals
    rw [cnd_t, e7, obind_s, dF (fun q : cc.2 ≠ v7 => q hv7), cnd_f]
    refine loop_post (σ := Int × Int × List Bool × List Bool) (ρ := (Int × List Bool × List Bool) ⊕ Bool) (β := (Int × Int × List Bool × List Bool) ⊕ ((Int × List Bool) ⊕ Bool)) (fun o => ∃ y' : Int × Int × List Bool × List Bool, o = some (.inl y') ∧ (∃ (j : Nat) (seen : List Bool), y' = (((fl (cs'.take j)).length : Int), (j : Int), is', seen) ∧ j ≤ cs'.length ∧ bset seen (fun q => q ∈ fl (cs'.take j))) ∧ cs'.length - y'.2.1.toNat < cs'.length - j) (fun v => ∃ (p : Nat) (seen : List Bool), v = (((fl (cs'.take j)).length : Int) + p, (p : Int), is', seen) ∧ p ≤ cc.1.length ∧ bset seen (fun q => q ∈ fl (cs'.take j) ∨ q ∈ cc.1.take p)) (fun v => cc.1.length - v.2.1.toNat) (fun r => ∃ seen, r = .inl (((fl (cs'.take j)).length : Int) + cc.1.length, is', seen) ∧ bset seen (fun q => q ∈ fl (cs'.take j) ∨ q ∈ cc.1)) ⟨0, seen, by simp, by omega, hsb.1, fun q q1 q8 => by rw [hsb.2 q q1 q8]; simp⟩ (by simp; omega) ?_ ?_
    · rintro r ⟨seen', rfl, hs'⟩
      rw [selim_l]
      refine ⟨_, rfl, ⟨j + 1, seen', ?_, by omega, hs'.1, fun q q1 q8 => by rw [hs'.2 q q1 q8]; show (q ∈ _ ∨ q ∈ _) ↔ q ∈ fl _; rw [hfs, List.mem_append]⟩, by simp only; omega⟩
      rw [hfs, List.length_append]
      simp only [Int.natCast_add, Prod.mk.injEq, and_true]
      exact ⟨trivial, rfl⟩
    · rintro v ⟨p, seen', rfl, hp, hs'⟩
      try simp only
      by_cases c5 : (p : Int) < cc.1.length
      case neg =>
        right
        rw [dF c5, cnd_f]
        have : p = cc.1.length := by omega
        subst this
        rw [List.take_length] at hs'
        exact ⟨_, rfl, seen', rfl, hs'⟩
      left
      have hpm := getD_mem cc.1 p (by omega)
      have hb := hv.s _ hpm
      have ht : cc.1.take (p + 1) = cc.1.take p ++ [cc.1.getD p 0] := take_snoc cc.1 p (by omega)
      have hnew : ¬ (cc.1.getD p 0 ∈ fl (cs'.take j) ∨ cc.1.getD p 0 ∈ cc.1.take p) := by
        rintro (q | q)
        · exact nd3 _ q _ hpm rfl
        · have hn2 : (cc.1.take (p + 1)).Nodup := List.Nodup.sublist (List.take_sublist _ _) nd2
          rw [ht] at hn2
          exact (List.nodup_append.1 hn2).2.2 _ q _ (List.mem_singleton.2 rfl) rfl
      have hup : 0 < p → cc.1.getD (p - 1) 0 < cc.1.getD p 0 := fun h0 => by
        have hu2 := List.pairwise_iff_getElem.1 hv.u (p - 1) p (by omega) (by omega) (by omega)
        rw [List.getD_eq_getElem?_getD, List.getD_eq_getElem?_getD, List.getElem?_eq_getElem (show p - 1 < cc.1.length by omega), List.getElem?_eq_getElem (show p < cc.1.length by omega)]
        exact hu2
      have i1 := (hbn.2 _ hb.1 hb.2).2 (hinm _ hpm)
      have s1 : seen'.getD (cc.1.getD p 0).toNat false = false := by
        cases hh : seen'.getD (cc.1.getD p 0).toNat false with
        | false => rfl
        | true => exact absurd ((hs'.2 _ hb.1 hb.2).1 hh) hnew
      have l1 := hbn.1
      have l2 := hs'.1
      have hput := bset_put (Q := fun q => q ∈ fl (cs'.take j) ∨ q ∈ cc.1.take (p + 1)) hs' hb (b := true) ⟨fun _ => .inr (by rw [ht]; simp), fun _ => rfl⟩ (fun q hq => by rw [ht, List.mem_append, List.mem_singleton]; exact ⟨fun w => w.elim .inl (fun w => w.elim .inr (fun w => absurd w hq)), fun w => w.elim .inl (fun w => .inr (.inl w))⟩)
      rw [dT c5, cnd_t, dT (show (0 : Int) ≤ (p : Int) by omega), Bool.and_self, cnd_t, Int.toNat_natCast]
      have up' : (p : Int) > 0 → ((p : Int) - 1).toNat = p - 1 := fun h => by omega
      have wsub : wr .i64 ((p : Int) - 1) = (p : Int) - 1 := wr_m (by omega) (by omega)
      generalize cc.1.getD p 0 = a at *
      rw [dF (show ¬ a < 1 by omega), cnd_f, cnd_t, dF (show ¬ 8 < a by omega), cnd_f, cnd_t, dT (show 0 ≤ a by omega), dT (show a < (is'.length : Int) by omega), dT (show a < ((9 : Nat) : Int) by omega), dT (show a < (seen'.length : Int) by omega)]
      simp only [Bool.and_self, cnd_t, i1, s1, Bool.not_true, cnd_f]
      have fin : ∃ y' : Int × Int × List Bool × List Bool, (some (Sum.inl (wr .i64 (((fl (cs'.take j)).length : Int) + p + 1), wr .i64 ((p : Int) + 1), is', putL seen' [true] a.toNat)) : Option ((Int × Int × List Bool × List Bool) ⊕ ((Int × List Bool × List Bool) ⊕ Bool))) = some (.inl y') ∧ (∃ (p : Nat) (seen : List Bool), y' = (((fl (cs'.take j)).length : Int) + p, (p : Int), is', seen) ∧ p ≤ cc.1.length ∧ bset seen (fun q => q ∈ fl (cs'.take j) ∨ q ∈ cc.1.take p)) ∧ cc.1.length - y'.2.1.toNat < cc.1.length - p := by
        rw [wr_m (by omega) (by omega), wr_m (by omega) (by omega)]
        exact ⟨_, rfl, ⟨p + 1, _, by rw [show ((p + 1 : Nat) : Int) = p + 1 by omega, Int.add_assoc], by omega, hput⟩, by simp only; omega⟩
      by_cases p0 : (0 : Int) < p
      · rw [dT p0, cnd_t, wsub, dT (show (0 : Int) ≤ (p : Int) - 1 by omega), dT (show (p : Int) - 1 < cc.1.length by omega), Bool.and_self, cnd_t, up' p0, dF (show ¬ a ≤ cc.1.getD (p - 1) 0 by have := hup (by omega); omega), cnd_f]
        exact fin
      · rw [dF p0, cnd_f]
        exact fin
def NN : Nat := 1000
theorem begun_sizes : W_law8_begun NN () = some true := by decide +kernel
theorem law_true (y0 : List Int) (y1 : List (Int × Int × Int)) (y2 : Int) (h0 : Twf (.list (.int .u8)) y0) (h1 : Twf (.list (.agg (.pair (.int .u8) (.pair (.int .u8) (.int .u8))))) y1) (h2 : Twf (.int .u8) y2) : W_law8_ClusSizes NN (y0, y1, y2) = some true := by
  refine law_aux NN (Nat.le_refl _) begun_sizes y0 y1 y2 h0.2 (fun i => ?_) h2
  by_cases hi : i < y1.length
  · have h := h1.2 (y1.getD i (0, 0, 0)) (by simp [List.getD, hi])
    exact ⟨h.1.1, h.2.1.1, h.2.1.2⟩
  · have e : y1.getD i (0, 0, 0) = (0, 0, 0) := by simp [List.getD, List.getElem?_eq_none (Nat.le_of_not_lt hi)]
    rw [e]
    exact ⟨by simp, by simp, by simp⟩

theorem spec (y0 : List Int) (y1 : List (Int × Int × Int)) (y2 : Int) (h0 : Twf (.list (.int .u8)) y0) (h1 : Twf (.list (.agg (.pair (.int .u8) (.pair (.int .u8) (.int .u8))))) y1) (h2 : Twf (.int .u8) y2) : Spec2 P0 3 [valW (.list (.int .u8)) y0, valW (.list (.agg (.pair (.int .u8) (.pair (.int .u8) (.int .u8))))) y1, valW (.int .u8) y2] [] (.bs true) [] [] := (con_law8_ClusSizes_ok NN).2 (y0, y1, y2) true (law_true y0 y1 y2 h0 h1 h2)
theorem lifted (os : Os) (started : os.Started) (H : Type) (enc : TypeId × Value → H) :
    ReturnsInHanded {} Try.checked os 3 .any (Rows.clusSizesSpec.pre6 enc Try.prog Try.f3 Rows.clusSizesRow.domain false) (Rows.clusSizesSpec.post enc Try.prog Try.f3 false true false false) := by
  refine returnsInHanded_of_change (C := Try.checked) own started (by kernel_rfl) Try.func3
    (ChangeSpec.witness6 (enc := enc) (C := Try.checked) false ⟨#[], #[.slice none 0 0, .slice none 0 0, .int .u8 0], []⟩ 8 (by kernel_rfl) (by kernel_rfl) (by kernel_rfl) (by kernel_rfl)) ?_
  intro W base args ds gs before hval0 hW hcnd _
  have hval : ∀ (j : Nat) t v, Try.f3.params[j]? = some t → args[j]? = some v → Value.okWide Try.prog W .any base t v := hval0
  have hW' := hW
  obtain ⟨p, q, hA0, hV, rfl, hfz, hnd⟩ := hW
  have hA : DataW.TrodAll enc Try.prog W 0 (fun _ => true) true Try.f3.params.toList args.toList ds p := hA0
  rw [Try.params3] at hA hval
  obtain ⟨v0, vs0, d0, ds0, p0, q0, hargs, rfl, rfl, h0, r0⟩ := trodAll_cons hA
  obtain ⟨v1, vs1, d1, ds1, p1, q1, rfl, rfl, rfl, h1, r1⟩ := trodAll_cons r0
  obtain ⟨v2, vs2, d2, ds2, p2, q2, rfl, rfl, rfl, h2, r2⟩ := trodAll_cons r1
  obtain ⟨rfl, rfl, rfl⟩ := trodAll_nil r2
  obtain rfl : args = #[v0, v1, v2] := by cases args; simp_all
  obtain ⟨rfl, rfl⟩ := trodVars_none hV
  have k0 := h0
  have lt0 : ∀ x ∈ p0, x.block < W.heap.size := by obtain ⟨m, hm⟩ := k0; exact DataW.trod_lt m _ _ _ hm
  obtain ⟨y0, rp0, wf0⟩ := arg_ok (n := 12) (ty := (.list (.int .u8))) (by kernel_rfl) (hval 0 _ v0 rfl rfl) h0
  have k1 := h1
  have lt1 : ∀ x ∈ p1, x.block < W.heap.size := by obtain ⟨m, hm⟩ := k1; exact DataW.trod_lt m _ _ _ hm
  obtain ⟨y1, rp1, wf1⟩ := arg_ok (n := 12) (ty := (.list (.agg (.pair (.int .u8) (.pair (.int .u8) (.int .u8)))))) (by kernel_rfl) (hval 1 _ v1 rfl rfl) h1
  have k2 := h2
  have lt2 : ∀ x ∈ p2, x.block < W.heap.size := by obtain ⟨m, hm⟩ := k2; exact DataW.trod_lt m _ _ _ hm
  obtain ⟨y2, rp2, wf2⟩ := arg_ok (n := 12) (ty := (.int .u8)) (by kernel_rfl) (hval 2 _ v2 rfl rfl) h2
  clear hA0 hval0
  refine (law_of2 (spec y0 y1 y2 wf0 wf1 wf2) W #[v0, v1, v2] (.cons rp0 (.cons rp1 (.cons rp2 .nil)))).mono fun e W' ⟨he, bel⟩ => ?_
  subst he
  exact ⟨_, rfl, _, _, _, [], _, [], hW', trodAll_mk1 (shut_bool Try.underlying4 _), (trodAll_cons_mk (Below.trod laidOut (by kernel_rfl) (of_decide_eq_true (by kernel_rfl)) k0 bel lt0) (trodAll_cons_mk (Below.trod laidOut (by kernel_rfl) (of_decide_eq_true (by kernel_rfl)) k1 bel lt1) (trodAll_cons_mk (Below.trod laidOut (by kernel_rfl) (of_decide_eq_true (by kernel_rfl)) k2 bel lt2) trodAll_mk0))), rfl, bel.frame _, fun h => by cases h⟩

theorem over : Rows.clusSizesRow.holds Try.pinned (OpenSpec.ofChange Rows.clusSizesSpec) :=
  OpenClaim.holds_of_wide 3 Try.f3 rfl rfl rfl rfl rfl rfl rfl ⟨rfl, rfl, rfl, rfl, rfl⟩ rfl rfl rfl rfl rfl (by kernel_rfl) Try.func3 (by kernel_rfl)
    (of_decide_eq_true (by kernel_rfl)) (by unfold Func.isWrapper; first | (rw [if_pos (by decide +kernel)]; kernel_rfl) | (rw [if_neg (by decide +kernel)]; exact ⟨rfl, rfl⟩))
    (fun os started H enc _ => lifted os started H enc)

theorem holds : Rows.ClusSizesSaid := over
end Go.Proofs.Ytjbgbmldfdeokaa.clusSizesX
