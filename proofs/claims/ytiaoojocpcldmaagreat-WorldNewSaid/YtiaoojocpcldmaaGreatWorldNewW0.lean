/- WorldNew: for all arguments the call returns true. The law is brought to a function of Lean's own (W_..) by the machine of the texts beside it, and that is reckoned; no condition. -/
import Derived.Test.YtiaoojocpcldmaaGreatExtYM
import Derived.Test.YtiaoojocpcldmaaGreatExtSo
import Derived.Test.YtiaoojocpcldmaaGreatExtCm
import Derived.Test.YtiaoojocpcldmaaGreatRows
import Derived.WalkKit
import Derived.ProofKit
import Derived.OpenShut
import Derived.ShutString
import Derived.ChangeOld
import Derived.Below
import Derived.Shelf.Sort.Plain
import Derived.Shelf.Slices.In.SortNone
import Derived.Shelf.SlicesE.DeleteFunc
import Derived.Shelf.RegionOpenPlain
import Derived.Deep.RegionLaw
import Derived.Lib.Walk
namespace Go.Proofs.YtiaoojocpcldmaaGreat.worldNewX
open Go.Abs Go.RowKit Go.ChangeShapes Go.WideShapes Go.ChangeAt
set_option maxRecDepth 100000
set_option linter.unusedVariables false
set_option linter.unusedSimpArgs false
abbrev A0_ : Type := Bool × Int × List UInt8 × (Int × Int × Int × Int × Int × Int × List Int × Int × Int × Int × Int × Int × List (Int × Int × Int)) × (Int × Int × List (Int × List UInt8) × List (Int × List UInt8) × List (Int × Int × Int × List UInt8 × Int) × Int × Int) × Int
abbrev A1_ : Type := Int × List (List Int) × List (List (List Int × Int))
abbrev A2_ : Type := Int × Int × Int × Int × Int × Int × List Int × Int × Int × Int × Int × Int × List (Int × Int × Int)
abbrev A3_ : Type := Int × List (Int × List UInt8) × List (Int × List UInt8) × List (Int × Int × Int × List UInt8 × Int) × Int × Int
abbrev A4_ : Type := List A0_ × List (Int × List UInt8 × Bool) × List (List UInt8) × A1_
abbrev A5_ : Type := Int × Int × Int × List UInt8 × Int
abbrev A6_ : Type := List (List (List Int × Int))
abbrev T0_ : Ty := .pair .bool (.pair (.int .i64) (.pair .str (.pair (.agg (.pair (.int .i64) (.pair (.int .i64) (.pair (.int .i64) (.pair (.int .i64) (.pair (.int .i64) (.pair (.int .i64) (.pair (.list (.int .i64)) (.pair (.int .i64) (.pair (.int .i64) (.pair (.int .i64) (.pair (.int .i64) (.pair (.int .i64) (.list (.agg (.pair (.int .i64) (.pair (.int .i64) (.int .i64)))))))))))))))))) (.pair (.agg (.pair (.int .i64) (.pair (.int .i64) (.pair (.list (.agg (.pair (.int .i64) .str))) (.pair (.list (.agg (.pair (.int .i64) .str))) (.pair (.list (.agg (.pair (.int .i64) (.pair (.int .i64) (.pair (.int .i64) (.pair .str (.int .i64))))))) (.agg (.pair (.int .i64) (.int .i64))))))))) (.int .i64)))))
abbrev T1_ : Ty := .pair (.int .i64) (.pair (.int .i64) (.pair (.int .i64) (.pair (.int .i64) (.pair (.int .i64) (.pair (.int .i64) (.pair (.list (.int .i64)) (.pair (.int .i64) (.pair (.int .i64) (.pair (.int .i64) (.pair (.int .i64) (.pair (.int .i64) (.list (.agg (.pair (.int .i64) (.pair (.int .i64) (.int .i64))))))))))))))))
abbrev T2_ : Ty := .pair (.int .i64) (.pair (.list (.list (.int .i64))) (.list (.list (.agg (.pair (.list (.int .i64)) (.int .i64))))))
abbrev T3_ : Ty := .pair (.int .i64) (.pair (.int .i64) (.pair (.list (.agg (.pair (.int .i64) .str))) (.pair (.list (.agg (.pair (.int .i64) .str))) (.pair (.list (.agg (.pair (.int .i64) (.pair (.int .i64) (.pair (.int .i64) (.pair .str (.int .i64))))))) (.agg (.pair (.int .i64) (.int .i64)))))))
abbrev T4_ : Ty := .agg (.pair (.list (.int .i64)) (.int .i64))
abbrev T5_ : Ty := .pair (.list (.agg T0_)) (.pair (.list (.agg (.pair (.int .i64) (.pair .str .bool)))) (.pair (.list .str) (.agg T2_)))
abbrev T6_ : Ty := .pair (.int .i64) (.int .i64)
abbrev T7_ : Ty := .agg (.pair (.int .i64) (.pair (.int .i64) (.pair (.int .i64) (.pair .str (.int .i64)))))
abbrev T8_ : Ty := .pair (.list (.int .u8)) (.int .i64)
noncomputable abbrev P0 : Program := Tryz.prog
noncomputable def bodyOf (fn : Func) : Code := fn.body.getD .skip
def L0 : Lend := fun f => aget [] [(122, [2]), (147, [0]), (179, [0]), (218, [0]), (274, [0]), (275, [0]), (276, [0]), (278, [0]), (279, [0]), (281, [0]), (282, [0]), (330, [0]), (336, [0]), (338, [0]), (348, [0]), (361, [0]), (365, [0])] f
def kpL (l : List Bool) : Nat → Bool := fun j => l.getD j true
theorem own : ownKnob Tryz.prog.godebug = none := by kernel_rfl
theorem laidOut : laidOutB Tryz.prog = true := by kernel_rfl
theorem mixed : P0.follows .mixedOrders = true := by decide +kernel
theorem progOk_ : progOk P0 = true := by decide +kernel
def soRen : Go.Shelf.Ren := ⟨fun | 189 => 147 | 125 => 219 | 257 => 218 | 128 => 283 | 129 => 284 | 294 => 274 | 295 => 275 | 296 => 276 | 297 => 277 | 298 => 278 | 299 => 279 | 216 => 280 | 300 => 281 | 301 => 282 | 328 => 330 | 329 => 331 | 330 => 332 | 331 => 333 | 332 => 334 | 215 => 335 | 343 => 357 | n => n, fun | 28 => 25 | 3 => 3 | 46 => 241 | 0 => 0 | 51 => 239 | 53 => 345 | 4 => 4 | 183 => 336 | 182 => 335 | 131 => 341 | 5 => 5 | 9 => 9 | 218 => 375 | 222 => 379 | 228 => 400 | 229 => 287 | n => n, fun | n => n⟩
theorem soLays : Go.Proofs.Lays.n189 Tryz.prog soRen := {
  mixed := by kernel_rfl
  f125 := Tryz.func219.trans (congrArg some (by kernel_rfl))
  f128 := Tryz.func283.trans (congrArg some (by kernel_rfl))
  f129 := Tryz.func284.trans (congrArg some (by kernel_rfl))
  f189 := Tryz.func147.trans (congrArg some (by kernel_rfl))
  f215 := Tryz.func335.trans (congrArg some (by kernel_rfl))
  f216 := Tryz.func280.trans (congrArg some (by kernel_rfl))
  f257 := Tryz.func218.trans (congrArg some (by kernel_rfl))
  f294 := Tryz.func274.trans (congrArg some (by kernel_rfl))
  f295 := Tryz.func275.trans (congrArg some (by kernel_rfl))
  f296 := Tryz.func276.trans (congrArg some (by kernel_rfl))
  f297 := Tryz.func277.trans (congrArg some (by kernel_rfl))
  f298 := Tryz.func278.trans (congrArg some (by kernel_rfl))
  f299 := Tryz.func279.trans (congrArg some (by kernel_rfl))
  f300 := Tryz.func281.trans (congrArg some (by kernel_rfl))
  f301 := Tryz.func282.trans (congrArg some (by kernel_rfl))
  f328 := Tryz.func330.trans (congrArg some (by kernel_rfl))
  f329 := Tryz.func331.trans (congrArg some (by kernel_rfl))
  f330 := Tryz.func332.trans (congrArg some (by kernel_rfl))
  f331 := Tryz.func333.trans (congrArg some (by kernel_rfl))
  f332 := Tryz.func334.trans (congrArg some (by kernel_rfl))
  f343 := Tryz.func357.trans (congrArg some (by kernel_rfl))
  t0 := Tryz.underlying0
  a0 := Tryz.isAgg0
  z0 := Tryz.sizeOf0
  v0 := Tryz.zeroValue0
  t3 := Tryz.underlying3
  a3 := Tryz.isAgg3
  z3 := Tryz.sizeOf3
  v3 := Tryz.zeroValue3
  t4 := Tryz.underlying4
  a4 := Tryz.isAgg4
  z4 := Tryz.sizeOf4
  v4 := Tryz.zeroValue4
  t5 := Tryz.underlying5
  a5 := Tryz.isAgg5
  z5 := Tryz.sizeOf5
  v5 := Tryz.zeroValue5
  t9 := Tryz.underlying9
  a9 := Tryz.isAgg9
  z9 := Tryz.sizeOf9
  v9 := Tryz.zeroValue9
  t28 := Tryz.underlying25
  a28 := Tryz.isAgg25
  z28 := Tryz.sizeOf25
  v28 := Tryz.zeroValue25
  t46 := Tryz.underlying241
  a46 := Tryz.isAgg241
  z46 := Tryz.sizeOf241
  v46 := Tryz.zeroValue241
  t51 := Tryz.underlying239
  a51 := Tryz.isAgg239
  z51 := Tryz.sizeOf239
  v51 := Tryz.zeroValue239
  t53 := Tryz.underlying345
  a53 := Tryz.isAgg345
  z53 := Tryz.sizeOf345
  v53 := Tryz.zeroValue345
  t131 := Tryz.underlying341
  a131 := Tryz.isAgg341
  z131 := Tryz.sizeOf341
  v131 := Tryz.zeroValue341
  t182 := Tryz.underlying335
  a182 := Tryz.isAgg335
  z182 := Tryz.sizeOf335
  v182 := Tryz.zeroValue335
  t183 := Tryz.underlying336
  a183 := Tryz.isAgg336
  z183 := Tryz.sizeOf336
  v183 := Tryz.zeroValue336
  t218 := Tryz.underlying375
  a218 := Tryz.isAgg375
  z218 := Tryz.sizeOf375
  v218 := Tryz.zeroValue375
  t222 := Tryz.underlying379
  a222 := Tryz.isAgg379
  z222 := Tryz.sizeOf379
  v222 := Tryz.zeroValue379
  t228 := Tryz.underlying400
  a228 := Tryz.isAgg400
  z228 := Tryz.sizeOf400
  v228 := Tryz.zeroValue400
  t229 := Tryz.underlying287
  a229 := Tryz.isAgg287
  z229 := Tryz.sizeOf287
  v229 := Tryz.zeroValue287 }
open Go.Sort Go.RowKit in
theorem soSort (blk off cap : Nat) (zs : List Int) (w : World) (hH : Holds (Value.int .i64) w blk off zs.toArray) (hblk : blk < w.heap.size) (hsz : zs.length < 4611686018427387904) :
    Calls Tryz.prog 147 #[.slice (some ⟨blk, off, none⟩) zs.length cap] w fun e w' =>
      e = .returned (.tuple #[]) ∧ ∃ n os, w' = grow (putRow (Value.int .i64) (Sort.ahead w n) blk off (zs.mergeSort fun x y => decide (x ≤ y)).toArray) os := Any.slices_Sort_int soLays blk off cap zs w hH hblk hsz
def dfRen : Go.Shelf.Ren := ⟨fun | 10 => 336 | 6 => 358 | n => n, fun | 22 => 25 | 23 => 3 | 25 => 307 | 3 => 3 | 4 => 4 | 0 => 0 | n => n, fun | n => n⟩
theorem dfLays : Go.Proofs.SlLaysH.n10 Tryz.prog dfRen := {
  mixed := by kernel_rfl
  f6 := ⟨Tryz.f358.name, by decide, Tryz.func358.trans (congrArg some (by kernel_rfl))⟩
  f10 := ⟨Tryz.f336.name, by decide, Tryz.func336.trans (congrArg some (by kernel_rfl))⟩
  t0 := Tryz.underlying0
  a0 := Tryz.isAgg0
  z0 := Tryz.sizeOf0
  v0 := Tryz.zeroValue0
  t3 := Tryz.underlying3
  a3 := Tryz.isAgg3
  z3 := Tryz.sizeOf3
  v3 := Tryz.zeroValue3
  t4 := Tryz.underlying4
  a4 := Tryz.isAgg4
  z4 := Tryz.sizeOf4
  v4 := Tryz.zeroValue4
  t22 := Tryz.underlying25
  a22 := Tryz.isAgg25
  z22 := Tryz.sizeOf25
  v22 := Tryz.zeroValue25
  a23 := Tryz.isAgg3
  z23 := Tryz.sizeOf3
  t25 := Tryz.underlying307
  a25 := Tryz.isAgg307
  z25 := Tryz.sizeOf307
  v25 := Tryz.zeroValue307 }
open Go.RowKit Go.Lib Go.Sort in
theorem dfDel {α : Type} [Inhabited α] (enc : α → Value) (hO : OneCell enc) (p : α → Bool) (g : Nat) (lb : Array Value) (eg : ∀ args w, (callFunc g args).run Tryz.prog w = .ok (.enter g args) w) (zr : α) (v23 : ∀ w, (zeroValue 3).run Tryz.prog w = .ok (enc zr) w) (blk off cap : Nat) (d : Array α) (w : World) (hp : PredAt Tryz.prog g lb enc p w) (hpo : PredOver Tryz.prog g lb enc p blk off d.size w) (hH : Holds enc w blk off d) (hsz : d.size ≤ 9223372036854775807) (hcap : d.size ≤ cap) :
    Calls Tryz.prog 336 #[.slice (some ⟨blk, off, none⟩) d.size cap, .func (.func g) #[] lb] w fun e w' => e = .returned (.slice (some ⟨blk, off, none⟩) (d.toList.filter fun x => !p x).length cap) ∧ ∃ q, w' = putRow enc (Sort.ahead w q) blk off ((d.toList.filter fun x => !p x) ++ List.replicate (d.size - (d.toList.filter fun x => !p x).length) zr).toArray := AnyE.slices_DeleteFunc dfLays enc hO p g lb eg zr v23 blk off cap d w hp hpo hH hsz hcap

theorem soN147 : SoN Tryz.prog 147 := fun p cap w => Any.slices_Sort_int_none soLays p cap w
theorem soF147 : SoF Tryz.prog 147 := fun blk off cap zs w hH hblk hsz => soSort blk off cap zs w hH hblk hsz
open Go.Lib Go.Sort in
theorem dfP {k : Int} {B : Nat} {W : World} (x : Int) (hc : W.cell? ⟨B, 0, none⟩ = some (.int .i64 k)) : FnGives Tryz.prog 337 #[.pointer (some ⟨B, 0, none⟩)] #[Value.int .i64 x] (.bool (decide (x = k))) W := by
  have e : (x == k) = decide (x = k) := Bool.eq_iff_iff.2 (by simp)
  unfold FnGives
  go_enter Tryz.func337, Tryz.ntmps337
  go_wp2
  go_ret
  exact ⟨by first | (simp; done) | (simp; exact e), 0, rfl⟩
open Go.Lib Go.Sort in
theorem dfF336 : DfF Tryz.prog 336 337 := fun blk off cap B zs k w hH hblk hB hne hc hcap hsz => by
  have hz : zs.toArray.size = zs.length := by simp
  have h := dfDel (Value.int .i64) (fun _ => rfl) (fun x => decide (x = k)) 337 #[.pointer (some ⟨B, 0, none⟩)] (enters_of Tryz.func337 (by kernel_rfl) rfl) 0 Tryz.zeroValue3 blk off cap zs.toArray w
    (fun W x hb => dfP x ((hb.cell (p := ⟨B, 0, none⟩) hB).trans hc))
    (fun n os dk x hs => dfP x (by
      have e : (Go.Sort.grow (Go.Sort.putRow (Value.int .i64) (Go.Sort.ahead w n) blk off dk) os).heap[B]? = w.heap[B]? := by
        unfold Go.Sort.grow
        rw [Array.getElem?_append_left (by rw [Go.Sort.size_putRow]; exact hB)]
        unfold Go.Sort.putRow Go.Sort.mapBlock Go.Sort.ahead
        simp only [Array.getElem?_modify, if_neg (fun q : blk = B => hne q.symm)]
      unfold sortWorld
      rw [← hc]
      unfold World.cell?
      rw [e]))
    hH (by omega) (by omega)
  rw [hz] at h
  exact h
noncomputable def X0 : Orc := noneΞ
theorem ok0 : GammaOk2 P0 X0 := (noneΞ_ok2 _)
def ys1 : List V := [(.agg [(.sl 8 [(.bool true), (.int .i64 1), (.str [114, 111, 111, 116]), (.int .i64 1), (.int .i64 1), (.int .i64 0), (.int .i64 0), (.int .i64 0), (.int .i64 0), (.sl 1 [(.int .i64 1)]), (.int .i64 0), (.int .i64 0), (.int .i64 0), (.int .i64 0), (.int .i64 0), .snil, (.int .i64 0), (.int .i64 0), .snil, .snil, .snil, (.int .i64 0), (.int .i64 0), (.int .i64 0), (.bool false), (.int .i64 0), (.str []), (.int .i64 0), (.int .i64 0), (.int .i64 0), (.int .i64 0), (.int .i64 0), (.int .i64 0), .snil, (.int .i64 0), (.int .i64 0), (.int .i64 0), (.int .i64 0), (.int .i64 0), .snil, (.int .i64 0), (.int .i64 0), .snil, .snil, .snil, (.int .i64 0), (.int .i64 0), (.int .i64 0), (.bool false), (.int .i64 0), (.str []), (.int .i64 0), (.int .i64 0), (.int .i64 0), (.int .i64 0), (.int .i64 0), (.int .i64 0), .snil, (.int .i64 0), (.int .i64 0), (.int .i64 0), (.int .i64 0), (.int .i64 0), .snil, (.int .i64 0), (.int .i64 0), .snil, .snil, .snil, (.int .i64 0), (.int .i64 0), (.int .i64 0), (.bool false), (.int .i64 0), (.str []), (.int .i64 0), (.int .i64 0), (.int .i64 0), (.int .i64 0), (.int .i64 0), (.int .i64 0), .snil, (.int .i64 0), (.int .i64 0), (.int .i64 0), (.int .i64 0), (.int .i64 0), .snil, (.int .i64 0), (.int .i64 0), .snil, .snil, .snil, (.int .i64 0), (.int .i64 0), (.int .i64 0), (.bool false), (.int .i64 0), (.str []), (.int .i64 0), (.int .i64 0), (.int .i64 0), (.int .i64 0), (.int .i64 0), (.int .i64 0), .snil, (.int .i64 0), (.int .i64 0), (.int .i64 0), (.int .i64 0), (.int .i64 0), .snil, (.int .i64 0), (.int .i64 0), .snil, .snil, .snil, (.int .i64 0), (.int .i64 0), (.int .i64 0), (.bool false), (.int .i64 0), (.str []), (.int .i64 0), (.int .i64 0), (.int .i64 0), (.int .i64 0), (.int .i64 0), (.int .i64 0), .snil, (.int .i64 0), (.int .i64 0), (.int .i64 0), (.int .i64 0), (.int .i64 0), .snil, (.int .i64 0), (.int .i64 0), .snil, .snil, .snil, (.int .i64 0), (.int .i64 0), (.int .i64 0), (.bool false), (.int .i64 0), (.str []), (.int .i64 0), (.int .i64 0), (.int .i64 0), (.int .i64 0), (.int .i64 0), (.int .i64 0), .snil, (.int .i64 0), (.int .i64 0), (.int .i64 0), (.int .i64 0), (.int .i64 0), .snil, (.int .i64 0), (.int .i64 0), .snil, .snil, .snil, (.int .i64 0), (.int .i64 0), (.int .i64 0), (.bool false), (.int .i64 0), (.str []), (.int .i64 0), (.int .i64 0), (.int .i64 0), (.int .i64 0), (.int .i64 0), (.int .i64 0), .snil, (.int .i64 0), (.int .i64 0), (.int .i64 0), (.int .i64 0), (.int .i64 0), .snil, (.int .i64 0), (.int .i64 0), .snil, .snil, .snil, (.int .i64 0), (.int .i64 0), (.int .i64 0)]), .snil, .snil, (.int .i64 2), (.sl 8 [(.sl 8 [(.int .i64 0), (.int .i64 1), (.int .i64 1), (.int .i64 1), (.int .i64 1), (.int .i64 1), (.int .i64 1), (.int .i64 1)]), (.sl 8 [(.int .i64 1), (.int .i64 0), (.int .i64 1), (.int .i64 1), (.int .i64 1), (.int .i64 1), (.int .i64 1), (.int .i64 1)]), (.sl 8 [(.int .i64 1), (.int .i64 1), (.int .i64 0), (.int .i64 1), (.int .i64 1), (.int .i64 1), (.int .i64 1), (.int .i64 1)]), (.sl 8 [(.int .i64 1), (.int .i64 1), (.int .i64 1), (.int .i64 0), (.int .i64 1), (.int .i64 1), (.int .i64 1), (.int .i64 1)]), (.sl 8 [(.int .i64 1), (.int .i64 1), (.int .i64 1), (.int .i64 1), (.int .i64 0), (.int .i64 1), (.int .i64 1), (.int .i64 1)]), (.sl 8 [(.int .i64 1), (.int .i64 1), (.int .i64 1), (.int .i64 1), (.int .i64 1), (.int .i64 0), (.int .i64 1), (.int .i64 1)]), (.sl 8 [(.int .i64 1), (.int .i64 1), (.int .i64 1), (.int .i64 1), (.int .i64 1), (.int .i64 1), (.int .i64 0), (.int .i64 1)]), (.sl 8 [(.int .i64 1), (.int .i64 1), (.int .i64 1), (.int .i64 1), (.int .i64 1), (.int .i64 1), (.int .i64 1), (.int .i64 0)])]), (.sl 1 [(.sl 1 [(.sl 1 [(.int .i64 1)]), (.int .i64 1)])])]), (.agg [(.int .i64 1), (.int .i64 2), (.int .i64 0), (.int .i64 0), (.str [98])])]
def rs1 : V × List OK × List OK := ((.tup [(.agg [(.sl 8 [(.bool true), (.int .i64 1), (.str [114, 111, 111, 116]), (.int .i64 1), (.int .i64 1), (.int .i64 0), (.int .i64 0), (.int .i64 0), (.int .i64 0), (.sl 1 [(.int .i64 1)]), (.int .i64 0), (.int .i64 0), (.int .i64 0), (.int .i64 0), (.int .i64 0), .snil, (.int .i64 0), (.int .i64 0), .snil, .snil, .snil, (.int .i64 0), (.int .i64 0), (.int .i64 0), (.bool true), (.int .i64 1), (.str [98]), (.int .i64 2), (.int .i64 1), (.int .i64 0), (.int .i64 0), (.int .i64 0), (.int .i64 1), .snil, (.int .i64 0), (.int .i64 0), (.int .i64 0), (.int .i64 0), (.int .i64 0), .snil, (.int .i64 0), (.int .i64 0), .snil, .snil, .snil, (.int .i64 0), (.int .i64 0), (.int .i64 0), (.bool false), (.int .i64 0), (.str []), (.int .i64 0), (.int .i64 0), (.int .i64 0), (.int .i64 0), (.int .i64 0), (.int .i64 0), .snil, (.int .i64 0), (.int .i64 0), (.int .i64 0), (.int .i64 0), (.int .i64 0), .snil, (.int .i64 0), (.int .i64 0), .snil, .snil, .snil, (.int .i64 0), (.int .i64 0), (.int .i64 0), (.bool false), (.int .i64 0), (.str []), (.int .i64 0), (.int .i64 0), (.int .i64 0), (.int .i64 0), (.int .i64 0), (.int .i64 0), .snil, (.int .i64 0), (.int .i64 0), (.int .i64 0), (.int .i64 0), (.int .i64 0), .snil, (.int .i64 0), (.int .i64 0), .snil, .snil, .snil, (.int .i64 0), (.int .i64 0), (.int .i64 0), (.bool false), (.int .i64 0), (.str []), (.int .i64 0), (.int .i64 0), (.int .i64 0), (.int .i64 0), (.int .i64 0), (.int .i64 0), .snil, (.int .i64 0), (.int .i64 0), (.int .i64 0), (.int .i64 0), (.int .i64 0), .snil, (.int .i64 0), (.int .i64 0), .snil, .snil, .snil, (.int .i64 0), (.int .i64 0), (.int .i64 0), (.bool false), (.int .i64 0), (.str []), (.int .i64 0), (.int .i64 0), (.int .i64 0), (.int .i64 0), (.int .i64 0), (.int .i64 0), .snil, (.int .i64 0), (.int .i64 0), (.int .i64 0), (.int .i64 0), (.int .i64 0), .snil, (.int .i64 0), (.int .i64 0), .snil, .snil, .snil, (.int .i64 0), (.int .i64 0), (.int .i64 0), (.bool false), (.int .i64 0), (.str []), (.int .i64 0), (.int .i64 0), (.int .i64 0), (.int .i64 0), (.int .i64 0), (.int .i64 0), .snil, (.int .i64 0), (.int .i64 0), (.int .i64 0), (.int .i64 0), (.int .i64 0), .snil, (.int .i64 0), (.int .i64 0), .snil, .snil, .snil, (.int .i64 0), (.int .i64 0), (.int .i64 0), (.bool false), (.int .i64 0), (.str []), (.int .i64 0), (.int .i64 0), (.int .i64 0), (.int .i64 0), (.int .i64 0), (.int .i64 0), .snil, (.int .i64 0), (.int .i64 0), (.int .i64 0), (.int .i64 0), (.int .i64 0), .snil, (.int .i64 0), (.int .i64 0), .snil, .snil, .snil, (.int .i64 0), (.int .i64 0), (.int .i64 0)]), .snil, .snil, (.int .i64 2), (.sl 8 [(.sl 8 [(.int .i64 0), (.int .i64 1), (.int .i64 1), (.int .i64 1), (.int .i64 1), (.int .i64 1), (.int .i64 1), (.int .i64 1)]), (.sl 8 [(.int .i64 1), (.int .i64 0), (.int .i64 1), (.int .i64 1), (.int .i64 1), (.int .i64 1), (.int .i64 1), (.int .i64 1)]), (.sl 8 [(.int .i64 1), (.int .i64 1), (.int .i64 0), (.int .i64 1), (.int .i64 1), (.int .i64 1), (.int .i64 1), (.int .i64 1)]), (.sl 8 [(.int .i64 1), (.int .i64 1), (.int .i64 1), (.int .i64 0), (.int .i64 1), (.int .i64 1), (.int .i64 1), (.int .i64 1)]), (.sl 8 [(.int .i64 1), (.int .i64 1), (.int .i64 1), (.int .i64 1), (.int .i64 0), (.int .i64 1), (.int .i64 1), (.int .i64 1)]), (.sl 8 [(.int .i64 1), (.int .i64 1), (.int .i64 1), (.int .i64 1), (.int .i64 1), (.int .i64 0), (.int .i64 1), (.int .i64 1)]), (.sl 8 [(.int .i64 1), (.int .i64 1), (.int .i64 1), (.int .i64 1), (.int .i64 1), (.int .i64 1), (.int .i64 0), (.int .i64 1)]), (.sl 8 [(.int .i64 1), (.int .i64 1), (.int .i64 1), (.int .i64 1), (.int .i64 1), (.int .i64 1), (.int .i64 1), (.int .i64 0)])]), (.sl 1 [(.sl 1 [(.sl 2 [(.int .i64 1), (.int .i64 2)]), (.int .i64 1)])])]), (.int .i64 0)]), ([], []))
noncomputable def X1 : Orc := addM 15 ys1 rs1 X0
theorem e1 : (evOY nonJ X0 [44,45,100,101,102,103,179] P0 100000 60).1 15 ys1 [] = some rs1 := by kernel_rfl
theorem ok1 : GammaOk2 P0 X1 := addM_ok (nonJ_ok _) ok0 mixed progOk_ e1
def ys2 : List V := [(.agg [(.sl 8 [(.bool true), (.int .i64 1), (.str [114, 111, 111, 116]), (.int .i64 1), (.int .i64 1), (.int .i64 0), (.int .i64 0), (.int .i64 0), (.int .i64 0), (.sl 1 [(.int .i64 1)]), (.int .i64 0), (.int .i64 0), (.int .i64 0), (.int .i64 0), (.int .i64 0), .snil, (.int .i64 0), (.int .i64 0), .snil, .snil, .snil, (.int .i64 0), (.int .i64 0), (.int .i64 0), (.bool true), (.int .i64 1), (.str [98]), (.int .i64 2), (.int .i64 1), (.int .i64 0), (.int .i64 0), (.int .i64 0), (.int .i64 1), .snil, (.int .i64 0), (.int .i64 0), (.int .i64 0), (.int .i64 0), (.int .i64 0), .snil, (.int .i64 0), (.int .i64 0), .snil, .snil, .snil, (.int .i64 0), (.int .i64 0), (.int .i64 0), (.bool false), (.int .i64 0), (.str []), (.int .i64 0), (.int .i64 0), (.int .i64 0), (.int .i64 0), (.int .i64 0), (.int .i64 0), .snil, (.int .i64 0), (.int .i64 0), (.int .i64 0), (.int .i64 0), (.int .i64 0), .snil, (.int .i64 0), (.int .i64 0), .snil, .snil, .snil, (.int .i64 0), (.int .i64 0), (.int .i64 0), (.bool false), (.int .i64 0), (.str []), (.int .i64 0), (.int .i64 0), (.int .i64 0), (.int .i64 0), (.int .i64 0), (.int .i64 0), .snil, (.int .i64 0), (.int .i64 0), (.int .i64 0), (.int .i64 0), (.int .i64 0), .snil, (.int .i64 0), (.int .i64 0), .snil, .snil, .snil, (.int .i64 0), (.int .i64 0), (.int .i64 0), (.bool false), (.int .i64 0), (.str []), (.int .i64 0), (.int .i64 0), (.int .i64 0), (.int .i64 0), (.int .i64 0), (.int .i64 0), .snil, (.int .i64 0), (.int .i64 0), (.int .i64 0), (.int .i64 0), (.int .i64 0), .snil, (.int .i64 0), (.int .i64 0), .snil, .snil, .snil, (.int .i64 0), (.int .i64 0), (.int .i64 0), (.bool false), (.int .i64 0), (.str []), (.int .i64 0), (.int .i64 0), (.int .i64 0), (.int .i64 0), (.int .i64 0), (.int .i64 0), .snil, (.int .i64 0), (.int .i64 0), (.int .i64 0), (.int .i64 0), (.int .i64 0), .snil, (.int .i64 0), (.int .i64 0), .snil, .snil, .snil, (.int .i64 0), (.int .i64 0), (.int .i64 0), (.bool false), (.int .i64 0), (.str []), (.int .i64 0), (.int .i64 0), (.int .i64 0), (.int .i64 0), (.int .i64 0), (.int .i64 0), .snil, (.int .i64 0), (.int .i64 0), (.int .i64 0), (.int .i64 0), (.int .i64 0), .snil, (.int .i64 0), (.int .i64 0), .snil, .snil, .snil, (.int .i64 0), (.int .i64 0), (.int .i64 0), (.bool false), (.int .i64 0), (.str []), (.int .i64 0), (.int .i64 0), (.int .i64 0), (.int .i64 0), (.int .i64 0), (.int .i64 0), .snil, (.int .i64 0), (.int .i64 0), (.int .i64 0), (.int .i64 0), (.int .i64 0), .snil, (.int .i64 0), (.int .i64 0), .snil, .snil, .snil, (.int .i64 0), (.int .i64 0), (.int .i64 0)]), .snil, .snil, (.int .i64 2), (.sl 8 [(.sl 8 [(.int .i64 0), (.int .i64 1), (.int .i64 1), (.int .i64 1), (.int .i64 1), (.int .i64 1), (.int .i64 1), (.int .i64 1)]), (.sl 8 [(.int .i64 1), (.int .i64 0), (.int .i64 1), (.int .i64 1), (.int .i64 1), (.int .i64 1), (.int .i64 1), (.int .i64 1)]), (.sl 8 [(.int .i64 1), (.int .i64 1), (.int .i64 0), (.int .i64 1), (.int .i64 1), (.int .i64 1), (.int .i64 1), (.int .i64 1)]), (.sl 8 [(.int .i64 1), (.int .i64 1), (.int .i64 1), (.int .i64 0), (.int .i64 1), (.int .i64 1), (.int .i64 1), (.int .i64 1)]), (.sl 8 [(.int .i64 1), (.int .i64 1), (.int .i64 1), (.int .i64 1), (.int .i64 0), (.int .i64 1), (.int .i64 1), (.int .i64 1)]), (.sl 8 [(.int .i64 1), (.int .i64 1), (.int .i64 1), (.int .i64 1), (.int .i64 1), (.int .i64 0), (.int .i64 1), (.int .i64 1)]), (.sl 8 [(.int .i64 1), (.int .i64 1), (.int .i64 1), (.int .i64 1), (.int .i64 1), (.int .i64 1), (.int .i64 0), (.int .i64 1)]), (.sl 8 [(.int .i64 1), (.int .i64 1), (.int .i64 1), (.int .i64 1), (.int .i64 1), (.int .i64 1), (.int .i64 1), (.int .i64 0)])]), (.sl 1 [(.sl 1 [(.sl 2 [(.int .i64 1), (.int .i64 2)]), (.int .i64 1)])])]), (.agg [(.int .i64 5), (.int .i64 2), (.int .i64 0), (.int .i64 0), (.str [])])]
def rs2 : V × List OK × List OK := ((.tup [(.agg [(.sl 8 [(.bool true), (.int .i64 1), (.str [114, 111, 111, 116]), (.int .i64 1), (.int .i64 1), (.int .i64 0), (.int .i64 0), (.int .i64 0), (.int .i64 0), (.sl 1 [(.int .i64 1)]), (.int .i64 0), (.int .i64 0), (.int .i64 0), (.int .i64 0), (.int .i64 0), .snil, (.int .i64 0), (.int .i64 0), .snil, .snil, .snil, (.int .i64 0), (.int .i64 0), (.int .i64 0), (.bool true), (.int .i64 1), (.str [98]), (.int .i64 2), (.int .i64 1), (.int .i64 1), (.int .i64 0), (.int .i64 0), (.int .i64 1), .snil, (.int .i64 0), (.int .i64 0), (.int .i64 1), (.int .i64 4), (.int .i64 0), .snil, (.int .i64 0), (.int .i64 0), .snil, .snil, .snil, (.int .i64 0), (.int .i64 0), (.int .i64 0), (.bool false), (.int .i64 0), (.str []), (.int .i64 0), (.int .i64 0), (.int .i64 0), (.int .i64 0), (.int .i64 0), (.int .i64 0), .snil, (.int .i64 0), (.int .i64 0), (.int .i64 0), (.int .i64 0), (.int .i64 0), .snil, (.int .i64 0), (.int .i64 0), .snil, .snil, .snil, (.int .i64 0), (.int .i64 0), (.int .i64 0), (.bool false), (.int .i64 0), (.str []), (.int .i64 0), (.int .i64 0), (.int .i64 0), (.int .i64 0), (.int .i64 0), (.int .i64 0), .snil, (.int .i64 0), (.int .i64 0), (.int .i64 0), (.int .i64 0), (.int .i64 0), .snil, (.int .i64 0), (.int .i64 0), .snil, .snil, .snil, (.int .i64 0), (.int .i64 0), (.int .i64 0), (.bool false), (.int .i64 0), (.str []), (.int .i64 0), (.int .i64 0), (.int .i64 0), (.int .i64 0), (.int .i64 0), (.int .i64 0), .snil, (.int .i64 0), (.int .i64 0), (.int .i64 0), (.int .i64 0), (.int .i64 0), .snil, (.int .i64 0), (.int .i64 0), .snil, .snil, .snil, (.int .i64 0), (.int .i64 0), (.int .i64 0), (.bool false), (.int .i64 0), (.str []), (.int .i64 0), (.int .i64 0), (.int .i64 0), (.int .i64 0), (.int .i64 0), (.int .i64 0), .snil, (.int .i64 0), (.int .i64 0), (.int .i64 0), (.int .i64 0), (.int .i64 0), .snil, (.int .i64 0), (.int .i64 0), .snil, .snil, .snil, (.int .i64 0), (.int .i64 0), (.int .i64 0), (.bool false), (.int .i64 0), (.str []), (.int .i64 0), (.int .i64 0), (.int .i64 0), (.int .i64 0), (.int .i64 0), (.int .i64 0), .snil, (.int .i64 0), (.int .i64 0), (.int .i64 0), (.int .i64 0), (.int .i64 0), .snil, (.int .i64 0), (.int .i64 0), .snil, .snil, .snil, (.int .i64 0), (.int .i64 0), (.int .i64 0), (.bool false), (.int .i64 0), (.str []), (.int .i64 0), (.int .i64 0), (.int .i64 0), (.int .i64 0), (.int .i64 0), (.int .i64 0), .snil, (.int .i64 0), (.int .i64 0), (.int .i64 0), (.int .i64 0), (.int .i64 0), .snil, (.int .i64 0), (.int .i64 0), .snil, .snil, .snil, (.int .i64 0), (.int .i64 0), (.int .i64 0)]), (.sl 1 [(.int .i64 1), (.str [1, 2, 1, 1, 0, 0, 0, 0, 0, 0, 72, 99, 32, 228]), (.bool false)]), .snil, (.int .i64 2), (.sl 8 [(.sl 8 [(.int .i64 0), (.int .i64 1), (.int .i64 1), (.int .i64 1), (.int .i64 1), (.int .i64 1), (.int .i64 1), (.int .i64 1)]), (.sl 8 [(.int .i64 1), (.int .i64 0), (.int .i64 1), (.int .i64 1), (.int .i64 1), (.int .i64 1), (.int .i64 1), (.int .i64 1)]), (.sl 8 [(.int .i64 1), (.int .i64 1), (.int .i64 0), (.int .i64 1), (.int .i64 1), (.int .i64 1), (.int .i64 1), (.int .i64 1)]), (.sl 8 [(.int .i64 1), (.int .i64 1), (.int .i64 1), (.int .i64 0), (.int .i64 1), (.int .i64 1), (.int .i64 1), (.int .i64 1)]), (.sl 8 [(.int .i64 1), (.int .i64 1), (.int .i64 1), (.int .i64 1), (.int .i64 0), (.int .i64 1), (.int .i64 1), (.int .i64 1)]), (.sl 8 [(.int .i64 1), (.int .i64 1), (.int .i64 1), (.int .i64 1), (.int .i64 1), (.int .i64 0), (.int .i64 1), (.int .i64 1)]), (.sl 8 [(.int .i64 1), (.int .i64 1), (.int .i64 1), (.int .i64 1), (.int .i64 1), (.int .i64 1), (.int .i64 0), (.int .i64 1)]), (.sl 8 [(.int .i64 1), (.int .i64 1), (.int .i64 1), (.int .i64 1), (.int .i64 1), (.int .i64 1), (.int .i64 1), (.int .i64 0)])]), (.sl 1 [(.sl 1 [(.sl 2 [(.int .i64 1), (.int .i64 2)]), (.int .i64 1)])])]), (.int .i64 0)]), ([], []))
noncomputable def X2 : Orc := addM 15 ys2 rs2 X1
theorem e2 : (evOY nonJ X1 [44,45,100,101,102,103,179] P0 100000 60).1 15 ys2 [] = some rs2 := by kernel_rfl
theorem ok2 : GammaOk2 P0 X2 := addM_ok (nonJ_ok _) ok1 mixed progOk_ e2
def ys3 : List V := [(.agg [(.sl 8 [(.bool true), (.int .i64 1), (.str [114, 111, 111, 116]), (.int .i64 1), (.int .i64 1), (.int .i64 0), (.int .i64 0), (.int .i64 0), (.int .i64 0), (.sl 1 [(.int .i64 1)]), (.int .i64 0), (.int .i64 0), (.int .i64 0), (.int .i64 0), (.int .i64 0), .snil, (.int .i64 0), (.int .i64 0), .snil, .snil, .snil, (.int .i64 0), (.int .i64 0), (.int .i64 0), (.bool false), (.int .i64 0), (.str []), (.int .i64 0), (.int .i64 0), (.int .i64 0), (.int .i64 0), (.int .i64 0), (.int .i64 0), .snil, (.int .i64 0), (.int .i64 0), (.int .i64 0), (.int .i64 0), (.int .i64 0), .snil, (.int .i64 0), (.int .i64 0), .snil, .snil, .snil, (.int .i64 0), (.int .i64 0), (.int .i64 0), (.bool false), (.int .i64 0), (.str []), (.int .i64 0), (.int .i64 0), (.int .i64 0), (.int .i64 0), (.int .i64 0), (.int .i64 0), .snil, (.int .i64 0), (.int .i64 0), (.int .i64 0), (.int .i64 0), (.int .i64 0), .snil, (.int .i64 0), (.int .i64 0), .snil, .snil, .snil, (.int .i64 0), (.int .i64 0), (.int .i64 0), (.bool false), (.int .i64 0), (.str []), (.int .i64 0), (.int .i64 0), (.int .i64 0), (.int .i64 0), (.int .i64 0), (.int .i64 0), .snil, (.int .i64 0), (.int .i64 0), (.int .i64 0), (.int .i64 0), (.int .i64 0), .snil, (.int .i64 0), (.int .i64 0), .snil, .snil, .snil, (.int .i64 0), (.int .i64 0), (.int .i64 0), (.bool false), (.int .i64 0), (.str []), (.int .i64 0), (.int .i64 0), (.int .i64 0), (.int .i64 0), (.int .i64 0), (.int .i64 0), .snil, (.int .i64 0), (.int .i64 0), (.int .i64 0), (.int .i64 0), (.int .i64 0), .snil, (.int .i64 0), (.int .i64 0), .snil, .snil, .snil, (.int .i64 0), (.int .i64 0), (.int .i64 0), (.bool false), (.int .i64 0), (.str []), (.int .i64 0), (.int .i64 0), (.int .i64 0), (.int .i64 0), (.int .i64 0), (.int .i64 0), .snil, (.int .i64 0), (.int .i64 0), (.int .i64 0), (.int .i64 0), (.int .i64 0), .snil, (.int .i64 0), (.int .i64 0), .snil, .snil, .snil, (.int .i64 0), (.int .i64 0), (.int .i64 0), (.bool false), (.int .i64 0), (.str []), (.int .i64 0), (.int .i64 0), (.int .i64 0), (.int .i64 0), (.int .i64 0), (.int .i64 0), .snil, (.int .i64 0), (.int .i64 0), (.int .i64 0), (.int .i64 0), (.int .i64 0), .snil, (.int .i64 0), (.int .i64 0), .snil, .snil, .snil, (.int .i64 0), (.int .i64 0), (.int .i64 0), (.bool false), (.int .i64 0), (.str []), (.int .i64 0), (.int .i64 0), (.int .i64 0), (.int .i64 0), (.int .i64 0), (.int .i64 0), .snil, (.int .i64 0), (.int .i64 0), (.int .i64 0), (.int .i64 0), (.int .i64 0), .snil, (.int .i64 0), (.int .i64 0), .snil, .snil, .snil, (.int .i64 0), (.int .i64 0), (.int .i64 0)]), .snil, .snil, (.int .i64 2), (.sl 8 [(.sl 8 [(.int .i64 0), (.int .i64 1), (.int .i64 1), (.int .i64 1), (.int .i64 1), (.int .i64 1), (.int .i64 1), (.int .i64 1)]), (.sl 8 [(.int .i64 1), (.int .i64 0), (.int .i64 1), (.int .i64 1), (.int .i64 1), (.int .i64 1), (.int .i64 1), (.int .i64 1)]), (.sl 8 [(.int .i64 1), (.int .i64 1), (.int .i64 0), (.int .i64 1), (.int .i64 1), (.int .i64 1), (.int .i64 1), (.int .i64 1)]), (.sl 8 [(.int .i64 1), (.int .i64 1), (.int .i64 1), (.int .i64 0), (.int .i64 1), (.int .i64 1), (.int .i64 1), (.int .i64 1)]), (.sl 8 [(.int .i64 1), (.int .i64 1), (.int .i64 1), (.int .i64 1), (.int .i64 0), (.int .i64 1), (.int .i64 1), (.int .i64 1)]), (.sl 8 [(.int .i64 1), (.int .i64 1), (.int .i64 1), (.int .i64 1), (.int .i64 1), (.int .i64 0), (.int .i64 1), (.int .i64 1)]), (.sl 8 [(.int .i64 1), (.int .i64 1), (.int .i64 1), (.int .i64 1), (.int .i64 1), (.int .i64 1), (.int .i64 0), (.int .i64 1)]), (.sl 8 [(.int .i64 1), (.int .i64 1), (.int .i64 1), (.int .i64 1), (.int .i64 1), (.int .i64 1), (.int .i64 1), (.int .i64 0)])]), (.sl 1 [(.sl 1 [(.sl 1 [(.int .i64 1)]), (.int .i64 1)])])]), (.agg [(.int .i64 0), (.int .i64 0), (.int .i64 0), (.int .i64 0), (.str [])])]
def rs3 : V × List OK × List OK := ((.tup [(.agg [(.sl 8 [(.bool true), (.int .i64 1), (.str [114, 111, 111, 116]), (.int .i64 1), (.int .i64 1), (.int .i64 0), (.int .i64 0), (.int .i64 0), (.int .i64 0), (.sl 1 [(.int .i64 1)]), (.int .i64 0), (.int .i64 0), (.int .i64 0), (.int .i64 0), (.int .i64 0), .snil, (.int .i64 0), (.int .i64 0), .snil, .snil, .snil, (.int .i64 0), (.int .i64 0), (.int .i64 0), (.bool false), (.int .i64 0), (.str []), (.int .i64 0), (.int .i64 0), (.int .i64 0), (.int .i64 0), (.int .i64 0), (.int .i64 0), .snil, (.int .i64 0), (.int .i64 0), (.int .i64 0), (.int .i64 0), (.int .i64 0), .snil, (.int .i64 0), (.int .i64 0), .snil, .snil, .snil, (.int .i64 0), (.int .i64 0), (.int .i64 0), (.bool false), (.int .i64 0), (.str []), (.int .i64 0), (.int .i64 0), (.int .i64 0), (.int .i64 0), (.int .i64 0), (.int .i64 0), .snil, (.int .i64 0), (.int .i64 0), (.int .i64 0), (.int .i64 0), (.int .i64 0), .snil, (.int .i64 0), (.int .i64 0), .snil, .snil, .snil, (.int .i64 0), (.int .i64 0), (.int .i64 0), (.bool false), (.int .i64 0), (.str []), (.int .i64 0), (.int .i64 0), (.int .i64 0), (.int .i64 0), (.int .i64 0), (.int .i64 0), .snil, (.int .i64 0), (.int .i64 0), (.int .i64 0), (.int .i64 0), (.int .i64 0), .snil, (.int .i64 0), (.int .i64 0), .snil, .snil, .snil, (.int .i64 0), (.int .i64 0), (.int .i64 0), (.bool false), (.int .i64 0), (.str []), (.int .i64 0), (.int .i64 0), (.int .i64 0), (.int .i64 0), (.int .i64 0), (.int .i64 0), .snil, (.int .i64 0), (.int .i64 0), (.int .i64 0), (.int .i64 0), (.int .i64 0), .snil, (.int .i64 0), (.int .i64 0), .snil, .snil, .snil, (.int .i64 0), (.int .i64 0), (.int .i64 0), (.bool false), (.int .i64 0), (.str []), (.int .i64 0), (.int .i64 0), (.int .i64 0), (.int .i64 0), (.int .i64 0), (.int .i64 0), .snil, (.int .i64 0), (.int .i64 0), (.int .i64 0), (.int .i64 0), (.int .i64 0), .snil, (.int .i64 0), (.int .i64 0), .snil, .snil, .snil, (.int .i64 0), (.int .i64 0), (.int .i64 0), (.bool false), (.int .i64 0), (.str []), (.int .i64 0), (.int .i64 0), (.int .i64 0), (.int .i64 0), (.int .i64 0), (.int .i64 0), .snil, (.int .i64 0), (.int .i64 0), (.int .i64 0), (.int .i64 0), (.int .i64 0), .snil, (.int .i64 0), (.int .i64 0), .snil, .snil, .snil, (.int .i64 0), (.int .i64 0), (.int .i64 0), (.bool false), (.int .i64 0), (.str []), (.int .i64 0), (.int .i64 0), (.int .i64 0), (.int .i64 0), (.int .i64 0), (.int .i64 0), .snil, (.int .i64 0), (.int .i64 0), (.int .i64 0), (.int .i64 0), (.int .i64 0), .snil, (.int .i64 0), (.int .i64 0), .snil, .snil, .snil, (.int .i64 0), (.int .i64 0), (.int .i64 0)]), .snil, .snil, (.int .i64 2), (.sl 8 [(.sl 8 [(.int .i64 0), (.int .i64 1), (.int .i64 1), (.int .i64 1), (.int .i64 1), (.int .i64 1), (.int .i64 1), (.int .i64 1)]), (.sl 8 [(.int .i64 1), (.int .i64 0), (.int .i64 1), (.int .i64 1), (.int .i64 1), (.int .i64 1), (.int .i64 1), (.int .i64 1)]), (.sl 8 [(.int .i64 1), (.int .i64 1), (.int .i64 0), (.int .i64 1), (.int .i64 1), (.int .i64 1), (.int .i64 1), (.int .i64 1)]), (.sl 8 [(.int .i64 1), (.int .i64 1), (.int .i64 1), (.int .i64 0), (.int .i64 1), (.int .i64 1), (.int .i64 1), (.int .i64 1)]), (.sl 8 [(.int .i64 1), (.int .i64 1), (.int .i64 1), (.int .i64 1), (.int .i64 0), (.int .i64 1), (.int .i64 1), (.int .i64 1)]), (.sl 8 [(.int .i64 1), (.int .i64 1), (.int .i64 1), (.int .i64 1), (.int .i64 1), (.int .i64 0), (.int .i64 1), (.int .i64 1)]), (.sl 8 [(.int .i64 1), (.int .i64 1), (.int .i64 1), (.int .i64 1), (.int .i64 1), (.int .i64 1), (.int .i64 0), (.int .i64 1)]), (.sl 8 [(.int .i64 1), (.int .i64 1), (.int .i64 1), (.int .i64 1), (.int .i64 1), (.int .i64 1), (.int .i64 1), (.int .i64 0)])]), (.sl 1 [(.sl 1 [(.sl 1 [(.int .i64 1)]), (.int .i64 1)])])]), (.int .i64 1)]), ([], []))
noncomputable def X3 : Orc := addM 15 ys3 rs3 X2
theorem e3 : (evOY nonJ X2 [44,45,100,101,102,103,179] P0 100000 60).1 15 ys3 [] = some rs3 := by kernel_rfl
theorem ok3 : GammaOk2 P0 X3 := addM_ok (nonJ_ok _) ok2 mixed progOk_ e3
noncomputable def con_law22_begun (N : Nat) : Con := ⟨9, [], [], Unit, fun _ => some (), fun _ => (.bs true, [], [])⟩
theorem con_law22_begun_ok (N : Nat) : Con.ok P0 (con_law22_begun N) := closed_con2 (nonJ_ok _) mixed progOk_ ok3 (inl := [44,45,100,101,102,103,179]) (breath := 100000) (n := 60) (by kernel_rfl)
noncomputable def u_Made : Uf := ⟨10, 6, Tryz.f10, [.val (.list (.int .u8))], [],
⟨[(2, .ptr 600005 0)], [(600005, .box 89 (.val T8_))]⟩, [],
[],
[], fun y => (.ptr 2000000 0 0, [], [.box 89 (cellsW T8_ y)])⟩
noncomputable def V_Made (N : Nat) (x : List Int) : Option (List Int × Int) :=
  some (x, (0:Int))
theorem q_Made : ∀ N x, u_Made.F L0 P0 (orcOf []) N x = V_Made N x := by intros; kernel_rfl
noncomputable def W_Made (N : Nat) := V_Made N
theorem con_Made_ok (N : Nat) : (u_Made.con (W_Made N)).ok P0 := Uf.ok mixed (q_Made N) trivial Tryz.func10 (by kernel_rfl) fun x y => by kernel_rfl
noncomputable def u_Picks_Num : Uf := ⟨35, 40, Tryz.f35, [.ptr 0 0, .val (.int .i64)], [.box 89 T8_],
⟨[(0, .ptr 1000000 0), (4, .val (.int .i64))], [(1000000, .box 89 (.val T8_))]⟩, [true],
[],
[], fun y => (valW (.int .i64) y.1, [.box 89 (cellsW T8_ y.2)], [])⟩
noncomputable def V_Picks_Num (N : Nat) (x : Int × List Int × Int) : Option (Int × List Int × Int) :=
  cnd (decide ((↑(List.length x.2.1) : Int) ≤ x.2.2)) (some ((0:Int), x.2)) (cnd (decide (x.1 < (1:Int))) (some ((0:Int), x.2)) (cnd (decide ((0:Int) ≤
    wr .i64 (wr .i64 (x.2.2 + (1:Int)) - (1:Int))) && decide (wr .i64 (wr .i64 (x.2.2 + (1:Int)) - (1:Int)) < (↑(List.length x.2.1) : Int))) (cnd
    (!decide (x.1 = (0:Int))) (some (Int.tmod (wr .i64 (List.getD x.2.1 (Int.toNat (wr .i64 (wr .i64 (x.2.2 + (1:Int)) - (1:Int)))) (0:Int))) x.1,
    x.2.1, wr .i64 (x.2.2 + (1:Int)))) none) none))
theorem q_Picks_Num : ∀ N x, u_Picks_Num.F L0 P0 (orcOf []) N x = V_Picks_Num N x := by intros; kernel_rfl
noncomputable def W_Picks_Num (N : Nat) := V_Picks_Num N
theorem con_Picks_Num_ok (N : Nat) : (u_Picks_Num.con (W_Picks_Num N)).ok P0 := Uf.ok mixed (q_Picks_Num N) trivial Tryz.func35 (by kernel_rfl) fun x y => by kernel_rfl
noncomputable def u_Picks_Dist : Uf := ⟨11, 45, Tryz.f11, [.ptr 0 0], [.box 89 T8_],
⟨[(0, .ptr 1000000 0), (2, .val (.list (.list (.int .i64))))], [(1000000, .box 89 (.val T8_))]⟩, [true],
[(3, .unroll 9),
(10, .unroll 9),
(7, .unroll 9)],
[], fun y => (valW (.list (.list (.int .i64))) y.1, [.box 89 (cellsW T8_ y.2)], [])⟩
noncomputable def V_Picks_Dist (w_Picks_Num : Int × List Int × Int → Option (Int × List Int × Int)) (N : Nat) (x : List Int × Int) : Option (List (List Int) × List Int × Int) :=
  obind (w_Picks_Num ((9:Int), x)) fun b0 => cnd (decide ((0:Int) ≤ b0.1)) (cnd (decide (b0.1 < ((↑(9:Nat) : Int) : Int))) (obind (w_Picks_Num
    ((9:Int), b0.2)) fun b1 => cnd (decide ((0:Int) ≤ b1.1)) (cnd (decide (b1.1 < ((↑(9:Nat) : Int) : Int))) (obind (w_Picks_Num ((9:Int), b1.2)) fun
    b2 => cnd (decide ((0:Int) ≤ b2.1)) (cnd (decide (b2.1 < ((↑(9:Nat) : Int) : Int))) (obind (w_Picks_Num ((9:Int), b2.2)) fun b3 => cnd (decide
    ((0:Int) ≤ b3.1)) (cnd (decide (b3.1 < ((↑(9:Nat) : Int) : Int))) (obind (w_Picks_Num ((9:Int), b3.2)) fun b4 => cnd (decide ((0:Int) ≤ b4.1))
    (cnd (decide (b4.1 < ((↑(9:Nat) : Int) : Int))) (obind (w_Picks_Num ((9:Int), b4.2)) fun b5 => cnd (decide ((0:Int) ≤ b5.1)) (cnd (decide (b5.1 <
    ((↑(9:Nat) : Int) : Int))) (obind (w_Picks_Num ((9:Int), b5.2)) fun b6 => cnd (decide ((0:Int) ≤ b6.1)) (cnd (decide (b6.1 < ((↑(9:Nat) : Int) :
    Int))) (obind (w_Picks_Num ((9:Int), b6.2)) fun b7 => cnd (decide ((0:Int) ≤ b7.1)) (cnd (decide (b7.1 < ((↑(9:Nat) : Int) : Int))) (obind
    (w_Picks_Num ((9:Int), b7.2)) fun b8 => cnd (decide ((0:Int) ≤ b8.1)) (cnd (decide (b8.1 < ((↑(9:Nat) : Int) : Int))) (obind (w_Picks_Num
    ((9:Int), b8.2)) fun b9 => cnd (decide ((0:Int) ≤ b9.1)) (cnd (decide (b9.1 < ((↑(9:Nat) : Int) : Int))) (obind (w_Picks_Num ((9:Int), b9.2)) fun
    b10 => cnd (decide ((0:Int) ≤ b10.1)) (cnd (decide (b10.1 < ((↑(9:Nat) : Int) : Int))) (obind (w_Picks_Num ((9:Int), b10.2)) fun b11 => cnd
    (decide ((0:Int) ≤ b11.1)) (cnd (decide (b11.1 < ((↑(9:Nat) : Int) : Int))) (obind (w_Picks_Num ((9:Int), b11.2)) fun b12 => cnd (decide ((0:Int)
    ≤ b12.1)) (cnd (decide (b12.1 < ((↑(9:Nat) : Int) : Int))) (obind (w_Picks_Num ((9:Int), b12.2)) fun b13 => cnd (decide ((0:Int) ≤ b13.1)) (cnd
    (decide (b13.1 < ((↑(9:Nat) : Int) : Int))) (obind (w_Picks_Num ((9:Int), b13.2)) fun b14 => cnd (decide ((0:Int) ≤ b14.1)) (cnd (decide (b14.1 <
    ((↑(9:Nat) : Int) : Int))) (obind (w_Picks_Num ((9:Int), b14.2)) fun b15 => cnd (decide ((0:Int) ≤ b15.1)) (cnd (decide (b15.1 < ((↑(9:Nat) : Int)
    : Int))) (obind (w_Picks_Num ((9:Int), b15.2)) fun b16 => cnd (decide ((0:Int) ≤ b16.1)) (cnd (decide (b16.1 < ((↑(9:Nat) : Int) : Int))) (obind
    (w_Picks_Num ((9:Int), b16.2)) fun b17 => cnd (decide ((0:Int) ≤ b17.1)) (cnd (decide (b17.1 < ((↑(9:Nat) : Int) : Int))) (obind (w_Picks_Num
    ((9:Int), b17.2)) fun b18 => cnd (decide ((0:Int) ≤ b18.1)) (cnd (decide (b18.1 < ((↑(9:Nat) : Int) : Int))) (obind (w_Picks_Num ((9:Int), b18.2))
    fun b19 => cnd (decide ((0:Int) ≤ b19.1)) (cnd (decide (b19.1 < ((↑(9:Nat) : Int) : Int))) (obind (w_Picks_Num ((9:Int), b19.2)) fun b20 => cnd
    (decide ((0:Int) ≤ b20.1)) (cnd (decide (b20.1 < ((↑(9:Nat) : Int) : Int))) (obind (w_Picks_Num ((9:Int), b20.2)) fun b21 => cnd (decide ((0:Int)
    ≤ b21.1)) (cnd (decide (b21.1 < ((↑(9:Nat) : Int) : Int))) (obind (w_Picks_Num ((9:Int), b21.2)) fun b22 => cnd (decide ((0:Int) ≤ b22.1)) (cnd
    (decide (b22.1 < ((↑(9:Nat) : Int) : Int))) (obind (w_Picks_Num ((9:Int), b22.2)) fun b23 => cnd (decide ((0:Int) ≤ b23.1)) (cnd (decide (b23.1 <
    ((↑(9:Nat) : Int) : Int))) (obind (w_Picks_Num ((9:Int), b23.2)) fun b24 => cnd (decide ((0:Int) ≤ b24.1)) (cnd (decide (b24.1 < ((↑(9:Nat) : Int)
    : Int))) (obind (w_Picks_Num ((9:Int), b24.2)) fun b25 => cnd (decide ((0:Int) ≤ b25.1)) (cnd (decide (b25.1 < ((↑(9:Nat) : Int) : Int))) (obind
    (w_Picks_Num ((9:Int), b25.2)) fun b26 => cnd (decide ((0:Int) ≤ b26.1)) (cnd (decide (b26.1 < ((↑(9:Nat) : Int) : Int))) (obind (w_Picks_Num
    ((9:Int), b26.2)) fun b27 => cnd (decide ((0:Int) ≤ b27.1)) (cnd (decide (b27.1 < ((↑(9:Nat) : Int) : Int))) (some ([[(0:Int), List.getD [(1:Int),
    (2:Int), (3:Int), (5:Int), (9:Int), (9:Int), (20:Int), (1000:Int), (0:Int)] (Int.toNat b0.1) (0:Int), List.getD [(1:Int), (2:Int), (3:Int), (5:Int),
    (9:Int), (9:Int), (20:Int), (1000:Int), (0:Int)] (Int.toNat b1.1) (0:Int), List.getD [(1:Int), (2:Int), (3:Int), (5:Int), (9:Int), (9:Int),
    (20:Int), (1000:Int), (0:Int)] (Int.toNat b3.1) (0:Int), List.getD [(1:Int), (2:Int), (3:Int), (5:Int), (9:Int), (9:Int), (20:Int), (1000:Int),
    (0:Int)] (Int.toNat b6.1) (0:Int), List.getD [(1:Int), (2:Int), (3:Int), (5:Int), (9:Int), (9:Int), (20:Int), (1000:Int), (0:Int)] (Int.toNat b10.1)
    (0:Int), List.getD [(1:Int), (2:Int), (3:Int), (5:Int), (9:Int), (9:Int), (20:Int), (1000:Int), (0:Int)] (Int.toNat b15.1) (0:Int), List.getD
    [(1:Int), (2:Int), (3:Int), (5:Int), (9:Int), (9:Int), (20:Int), (1000:Int), (0:Int)] (Int.toNat b21.1) (0:Int)], [List.getD [(1:Int), (2:Int),
    (3:Int), (5:Int), (9:Int), (9:Int), (20:Int), (1000:Int), (0:Int)] (Int.toNat b0.1) (0:Int), (0:Int), List.getD [(1:Int), (2:Int), (3:Int), (5:Int),
    (9:Int), (9:Int), (20:Int), (1000:Int), (0:Int)] (Int.toNat b2.1) (0:Int), List.getD [(1:Int), (2:Int), (3:Int), (5:Int), (9:Int), (9:Int),
    (20:Int), (1000:Int), (0:Int)] (Int.toNat b4.1) (0:Int), List.getD [(1:Int), (2:Int), (3:Int), (5:Int), (9:Int), (9:Int), (20:Int), (1000:Int),
    (0:Int)] (Int.toNat b7.1) (0:Int), List.getD [(1:Int), (2:Int), (3:Int), (5:Int), (9:Int), (9:Int), (20:Int), (1000:Int), (0:Int)] (Int.toNat b11.1)
    (0:Int), List.getD [(1:Int), (2:Int), (3:Int), (5:Int), (9:Int), (9:Int), (20:Int), (1000:Int), (0:Int)] (Int.toNat b16.1) (0:Int), List.getD
    [(1:Int), (2:Int), (3:Int), (5:Int), (9:Int), (9:Int), (20:Int), (1000:Int), (0:Int)] (Int.toNat b22.1) (0:Int)], [List.getD [(1:Int), (2:Int),
    (3:Int), (5:Int), (9:Int), (9:Int), (20:Int), (1000:Int), (0:Int)] (Int.toNat b1.1) (0:Int), List.getD [(1:Int), (2:Int), (3:Int), (5:Int), (9:Int),
    (9:Int), (20:Int), (1000:Int), (0:Int)] (Int.toNat b2.1) (0:Int), (0:Int), List.getD [(1:Int), (2:Int), (3:Int), (5:Int), (9:Int), (9:Int),
    (20:Int), (1000:Int), (0:Int)] (Int.toNat b5.1) (0:Int), List.getD [(1:Int), (2:Int), (3:Int), (5:Int), (9:Int), (9:Int), (20:Int), (1000:Int),
    (0:Int)] (Int.toNat b8.1) (0:Int), List.getD [(1:Int), (2:Int), (3:Int), (5:Int), (9:Int), (9:Int), (20:Int), (1000:Int), (0:Int)] (Int.toNat b12.1)
    (0:Int), List.getD [(1:Int), (2:Int), (3:Int), (5:Int), (9:Int), (9:Int), (20:Int), (1000:Int), (0:Int)] (Int.toNat b17.1) (0:Int), List.getD
    [(1:Int), (2:Int), (3:Int), (5:Int), (9:Int), (9:Int), (20:Int), (1000:Int), (0:Int)] (Int.toNat b23.1) (0:Int)], [List.getD [(1:Int), (2:Int),
    (3:Int), (5:Int), (9:Int), (9:Int), (20:Int), (1000:Int), (0:Int)] (Int.toNat b3.1) (0:Int), List.getD [(1:Int), (2:Int), (3:Int), (5:Int), (9:Int),
    (9:Int), (20:Int), (1000:Int), (0:Int)] (Int.toNat b4.1) (0:Int), List.getD [(1:Int), (2:Int), (3:Int), (5:Int), (9:Int), (9:Int), (20:Int),
    (1000:Int), (0:Int)] (Int.toNat b5.1) (0:Int), (0:Int), List.getD [(1:Int), (2:Int), (3:Int), (5:Int), (9:Int), (9:Int), (20:Int), (1000:Int),
    (0:Int)] (Int.toNat b9.1) (0:Int), List.getD [(1:Int), (2:Int), (3:Int), (5:Int), (9:Int), (9:Int), (20:Int), (1000:Int), (0:Int)] (Int.toNat b13.1)
    (0:Int), List.getD [(1:Int), (2:Int), (3:Int), (5:Int), (9:Int), (9:Int), (20:Int), (1000:Int), (0:Int)] (Int.toNat b18.1) (0:Int), List.getD
    [(1:Int), (2:Int), (3:Int), (5:Int), (9:Int), (9:Int), (20:Int), (1000:Int), (0:Int)] (Int.toNat b24.1) (0:Int)], [List.getD [(1:Int), (2:Int),
    (3:Int), (5:Int), (9:Int), (9:Int), (20:Int), (1000:Int), (0:Int)] (Int.toNat b6.1) (0:Int), List.getD [(1:Int), (2:Int), (3:Int), (5:Int), (9:Int),
    (9:Int), (20:Int), (1000:Int), (0:Int)] (Int.toNat b7.1) (0:Int), List.getD [(1:Int), (2:Int), (3:Int), (5:Int), (9:Int), (9:Int), (20:Int),
    (1000:Int), (0:Int)] (Int.toNat b8.1) (0:Int), List.getD [(1:Int), (2:Int), (3:Int), (5:Int), (9:Int), (9:Int), (20:Int), (1000:Int), (0:Int)]
    (Int.toNat b9.1) (0:Int), (0:Int), List.getD [(1:Int), (2:Int), (3:Int), (5:Int), (9:Int), (9:Int), (20:Int), (1000:Int), (0:Int)] (Int.toNat b14.1)
    (0:Int), List.getD [(1:Int), (2:Int), (3:Int), (5:Int), (9:Int), (9:Int), (20:Int), (1000:Int), (0:Int)] (Int.toNat b19.1) (0:Int), List.getD
    [(1:Int), (2:Int), (3:Int), (5:Int), (9:Int), (9:Int), (20:Int), (1000:Int), (0:Int)] (Int.toNat b25.1) (0:Int)], [List.getD [(1:Int), (2:Int),
    (3:Int), (5:Int), (9:Int), (9:Int), (20:Int), (1000:Int), (0:Int)] (Int.toNat b10.1) (0:Int), List.getD [(1:Int), (2:Int), (3:Int), (5:Int),
    (9:Int), (9:Int), (20:Int), (1000:Int), (0:Int)] (Int.toNat b11.1) (0:Int), List.getD [(1:Int), (2:Int), (3:Int), (5:Int), (9:Int), (9:Int),
    (20:Int), (1000:Int), (0:Int)] (Int.toNat b12.1) (0:Int), List.getD [(1:Int), (2:Int), (3:Int), (5:Int), (9:Int), (9:Int), (20:Int), (1000:Int),
    (0:Int)] (Int.toNat b13.1) (0:Int), List.getD [(1:Int), (2:Int), (3:Int), (5:Int), (9:Int), (9:Int), (20:Int), (1000:Int), (0:Int)] (Int.toNat
    b14.1) (0:Int), (0:Int), List.getD [(1:Int), (2:Int), (3:Int), (5:Int), (9:Int), (9:Int), (20:Int), (1000:Int), (0:Int)] (Int.toNat b20.1) (0:Int),
    List.getD [(1:Int), (2:Int), (3:Int), (5:Int), (9:Int), (9:Int), (20:Int), (1000:Int), (0:Int)] (Int.toNat b26.1) (0:Int)], [List.getD [(1:Int),
    (2:Int), (3:Int), (5:Int), (9:Int), (9:Int), (20:Int), (1000:Int), (0:Int)] (Int.toNat b15.1) (0:Int), List.getD [(1:Int), (2:Int), (3:Int),
    (5:Int), (9:Int), (9:Int), (20:Int), (1000:Int), (0:Int)] (Int.toNat b16.1) (0:Int), List.getD [(1:Int), (2:Int), (3:Int), (5:Int), (9:Int),
    (9:Int), (20:Int), (1000:Int), (0:Int)] (Int.toNat b17.1) (0:Int), List.getD [(1:Int), (2:Int), (3:Int), (5:Int), (9:Int), (9:Int), (20:Int),
    (1000:Int), (0:Int)] (Int.toNat b18.1) (0:Int), List.getD [(1:Int), (2:Int), (3:Int), (5:Int), (9:Int), (9:Int), (20:Int), (1000:Int), (0:Int)]
    (Int.toNat b19.1) (0:Int), List.getD [(1:Int), (2:Int), (3:Int), (5:Int), (9:Int), (9:Int), (20:Int), (1000:Int), (0:Int)] (Int.toNat b20.1)
    (0:Int), (0:Int), List.getD [(1:Int), (2:Int), (3:Int), (5:Int), (9:Int), (9:Int), (20:Int), (1000:Int), (0:Int)] (Int.toNat b27.1) (0:Int)],
    [List.getD [(1:Int), (2:Int), (3:Int), (5:Int), (9:Int), (9:Int), (20:Int), (1000:Int), (0:Int)] (Int.toNat b21.1) (0:Int), List.getD [(1:Int),
    (2:Int), (3:Int), (5:Int), (9:Int), (9:Int), (20:Int), (1000:Int), (0:Int)] (Int.toNat b22.1) (0:Int), List.getD [(1:Int), (2:Int), (3:Int),
    (5:Int), (9:Int), (9:Int), (20:Int), (1000:Int), (0:Int)] (Int.toNat b23.1) (0:Int), List.getD [(1:Int), (2:Int), (3:Int), (5:Int), (9:Int),
    (9:Int), (20:Int), (1000:Int), (0:Int)] (Int.toNat b24.1) (0:Int), List.getD [(1:Int), (2:Int), (3:Int), (5:Int), (9:Int), (9:Int), (20:Int),
    (1000:Int), (0:Int)] (Int.toNat b25.1) (0:Int), List.getD [(1:Int), (2:Int), (3:Int), (5:Int), (9:Int), (9:Int), (20:Int), (1000:Int), (0:Int)]
    (Int.toNat b26.1) (0:Int), List.getD [(1:Int), (2:Int), (3:Int), (5:Int), (9:Int), (9:Int), (20:Int), (1000:Int), (0:Int)] (Int.toNat b27.1)
    (0:Int), (0:Int)]], b27.2)) none) none) none) none) none) none) none) none) none) none) none) none) none) none) none) none) none) none) none) none)
    none) none) none) none) none) none) none) none) none) none) none) none) none) none) none) none) none) none) none) none) none) none) none) none)
    none) none) none) none) none) none) none) none) none) none) none) none
theorem q_Picks_Dist : ∀ w_Picks_Num N x, u_Picks_Dist.F L0 P0 (orcOf [u_Picks_Num.con w_Picks_Num]) N x = V_Picks_Dist w_Picks_Num N x := by intros; kernel_rfl
noncomputable def W_Picks_Dist (N : Nat) := V_Picks_Dist (W_Picks_Num N) N
theorem con_Picks_Dist_ok (N : Nat) : (u_Picks_Dist.con (W_Picks_Dist N)).ok P0 := Uf.ok mixed (q_Picks_Dist (W_Picks_Num N) N) ⟨con_Picks_Num_ok N, trivial⟩ Tryz.func11 (by kernel_rfl) fun x y => by kernel_rfl
noncomputable def u_rtt_within : Uf := ⟨216, 6, Tryz.f216, [.val (.int .i64)], [],
⟨[(2, .val (.int .i64))], []⟩, [],
[],
[], fun y => (valW (.int .i64) y, [], [])⟩
noncomputable def V_rtt_within (N : Nat) (x : Int) : Option (Int) :=
  some (min (max x (0:Int)) (1000:Int))
theorem q_rtt_within : ∀ N x, u_rtt_within.F L0 P0 (orcOf []) N x = V_rtt_within N x := by intros; kernel_rfl
noncomputable def W_rtt_within (N : Nat) := V_rtt_within N
theorem con_rtt_within_ok (N : Nat) : (u_rtt_within.con (W_rtt_within N)).ok P0 := Uf.ok mixed (q_rtt_within N) trivial Tryz.func216 (by kernel_rfl) fun x y => by kernel_rfl
noncomputable def u_rtt_May : Uf := ⟨144, 62, Tryz.f144, [.val (.list (.list (.int .i64)))], [],
⟨[(2, .val .bool)], []⟩, [],
[(4, .loop [12] ⟨[(14, .val (.int .i64))], []⟩ [(.exit 0, ⟨[], []⟩), (.ret, ⟨[(2, .val .bool)], []⟩)]),
(13, .loop [22, 29] ⟨[(31, .val (.int .i64))], []⟩ [(.exit 4, ⟨[], []⟩), (.ret, ⟨[(2, .val .bool)], []⟩)]),
(10, .loop [22] ⟨[(24, .val (.int .i64))], []⟩ [(.exit 2, ⟨[], []⟩), (.ret, ⟨[(2, .val .bool)], []⟩)])],
[(1000015, .reg [(15, [22, 29], ⟨[(50, .val .bool)], []⟩)])], fun y => (valW .bool y, [], [])⟩
noncomputable def V_rtt_May (w_rtt_within : Int → Option (Int)) (N : Nat) (x : List (List Int)) : Option (Bool) :=
  cnd (decide ((↑(List.length x) : Int) ≠ (8:Int))) (some false) (obind (loopN N (fun (v : Int) => cnd (decide (v < (↑(List.length x) : Int))) (cnd
    (decide ((0:Int) ≤ v) && decide (v < (↑(List.length x) : Int))) (cnd (decide ((↑(List.length (List.getD x (Int.toNat v) [])) : Int) ≠ (8:Int)))
    (some (Sum.inr (Sum.inr false))) (some (Sum.inl (wr .i64 (v + (1:Int)))))) none) (some (Sum.inr (Sum.inl ())))) (Int.ofNat (0:Nat))) fun (b : PUnit
    ⊕ Bool) => selim (fun (b : PUnit) => obind (loopN N (fun (v : Int) => cnd (decide (v < (↑(List.length x) : Int))) (cnd (decide ((0:Int) ≤ v) &&
    decide (v < (↑(List.length x) : Int))) (obind (loopN N (fun (v_1 : Int) => cnd (decide (v_1 < (↑(List.length (List.getD x (Int.toNat v) [])) :
    Int))) (cnd (decide ((0:Int) ≤ v_1) && decide (v_1 < (↑(List.length (List.getD x (Int.toNat v) [])) : Int))) (obind (obind (w_rtt_within
    (List.getD (List.getD x (Int.toNat v) []) (Int.toNat v_1) (0:Int))) fun b => cnd (decide (List.getD (List.getD x (Int.toNat v) []) (Int.toNat v_1)
    (0:Int) ≠ b)) (some true) (cnd (decide ((0:Int) ≤ v_1) && decide (v_1 < (↑(List.length x) : Int))) (cnd (decide ((0:Int) ≤ v) && decide (v <
    (↑(List.length (List.getD x (Int.toNat v_1) [])) : Int))) (some (decide (List.getD (List.getD x (Int.toNat v) []) (Int.toNat v_1) (0:Int) ≠
    List.getD (List.getD x (Int.toNat v_1) []) (Int.toNat v) (0:Int)))) none) none)) fun (b : Bool) => cnd b (some (Sum.inr (Sum.inr false))) (cnd
    (decide (v = v_1)) (cnd (decide (List.getD (List.getD x (Int.toNat v) []) (Int.toNat v_1) (0:Int) ≠ (0:Int))) (some (Sum.inr (Sum.inr false))) (some
    (Sum.inl (wr .i64 (v_1 + (1:Int)))))) (some (Sum.inl (wr .i64 (v_1 + (1:Int))))))) none) (some (Sum.inr (Sum.inl ())))) (Int.ofNat (0:Nat))) fun (b
    : PUnit ⊕ Bool) => selim (fun (b : PUnit) => some (Sum.inl (wr .i64 (v + (1:Int))))) (fun (c : Bool) => some (Sum.inr (Sum.inr c))) b) none) (some
    (Sum.inr (Sum.inl ())))) (Int.ofNat (0:Nat))) fun (b : PUnit ⊕ Bool) => selim (fun (b : PUnit) => some true) (fun (c : Bool) => some c) b) (fun (c :
    Bool) => some c) b)
theorem q_rtt_May : ∀ w_rtt_within N x, u_rtt_May.F L0 P0 (orcOf [u_rtt_within.con w_rtt_within]) N x = V_rtt_May w_rtt_within N x := by intros; kernel_rfl
noncomputable def W_rtt_May (N : Nat) := V_rtt_May (W_rtt_within N) N
theorem con_rtt_May_ok (N : Nat) : (u_rtt_May.con (W_rtt_May N)).ok P0 := Uf.ok mixed (q_rtt_May (W_rtt_within N) N) ⟨con_rtt_within_ok N, trivial⟩ Tryz.func144 (by kernel_rfl) fun x y => by kernel_rfl
noncomputable def u_hier_begins : Uf := ⟨72, 16, Tryz.f72, [.val (.agg T2_)], [],
⟨[(2, .val .bool)], []⟩, [],
[],
[(1000001, .reg [(8, [], ⟨[(1, .ptr 600001 0), (10, .val .bool)], [(600001, .box 35 (.val T2_))]⟩)])], fun y => (valW .bool y, [], [])⟩
noncomputable def V_hier_begins (w_rtt_May : List (List Int) → Option (Bool)) (N : Nat) (x : A1_) : Option (Bool) :=
  obind (obind (w_rtt_May x.2.1) fun b => cnd b (some (decide ((1:Int) ≤ x.1), x)) (some (false, x))) fun (b : Bool × A1_) => cnd b.1 (some (decide (b.2.1 ≤ (3:Int)))) (some false)
theorem q_hier_begins : ∀ w_rtt_May N x, u_hier_begins.F L0 P0 (orcOf [u_rtt_May.con w_rtt_May]) N x = V_hier_begins w_rtt_May N x := by intros; kernel_rfl
noncomputable def W_hier_begins (N : Nat) := V_hier_begins (W_rtt_May N) N
theorem con_hier_begins_ok (N : Nat) : (u_hier_begins.con (W_hier_begins N)).ok P0 := Uf.ok mixed (q_hier_begins (W_rtt_May N) N) ⟨con_rtt_May_ok N, trivial⟩ Tryz.func72 (by kernel_rfl) fun x y => by kernel_rfl
def as_slices_Clone_Lint : List AS := [.val (.list (.list (.int .i64)))]
def bs_slices_Clone_Lint : List BS := []
def pout_slices_Clone_Lint : Pat := ⟨[(2, .acc 700005)], [(700005, .nrow 25 (.list (.int .i64)) false true)]⟩
noncomputable def G_slices_Clone_Lint  (N : Nat) : OrcT := orcOf []
noncomputable def F_slices_Clone_Lint  (N : Nat) (x : List (List Int)) : Option (List (List Int)) :=
  (evT (G_slices_Clone_Lint  N) L0 P0 []
    [] N 400 (bodyOf Tryz.f132) ⟨8, slots 0 [.nl ⟨(.list (.int .i64)), x⟩], tabU (lbOf as_slices_Clone_Lint bs_slices_Clone_Lint x) [], []⟩).elim (kRet 8 pout_slices_Clone_Lint (kpL []) (lbOf as_slices_Clone_Lint bs_slices_Clone_Lint x))
def out_slices_Clone_Lint (y : List (List Int)) : V × List OK × List OK := (.acc 2000000 0, [], [.nrow 25 false true ⟨(.list (.int .i64)), y⟩])
noncomputable def V_slices_Clone_Lint  (N : Nat) (x : List (List Int)) : Option (List (List Int)) :=
  cnd (decide (List.length x * (24:Nat) ≤ (140737488355328:Nat))) (some x) none
theorem FV_slices_Clone_Lint_eq  (N : Nat) (x : List (List Int)) : F_slices_Clone_Lint  N x = V_slices_Clone_Lint  N x := by kernel_rfl
noncomputable def W_slices_Clone_Lint (N : Nat) (x : List (List Int)) : Option (List (List Int)) := V_slices_Clone_Lint  N x
theorem F_slices_Clone_Lint_eq (N : Nat) (x : List (List Int)) : F_slices_Clone_Lint  N x = W_slices_Clone_Lint N x := (FV_slices_Clone_Lint_eq  N x).trans (by kernel_rfl)
noncomputable def conw_slices_Clone_Lint (w : List (List Int) → Option (List (List Int))) : Con := ⟨132, as_slices_Clone_Lint, bs_slices_Clone_Lint, List (List Int), w, out_slices_Clone_Lint⟩
noncomputable def con_slices_Clone_Lint (N : Nat) : Con := conw_slices_Clone_Lint (W_slices_Clone_Lint N)
theorem R_slices_Clone_Lint_eq (x : List (List Int)) (y : List (List Int)) : retOf2 P0 Tryz.f132 (kpL []) (lbOf as_slices_Clone_Lint bs_slices_Clone_Lint x) (patS ⟨8, [], [], []⟩ pout_slices_Clone_Lint y) = some (out_slices_Clone_Lint y) := by kernel_rfl
noncomputable def FA_slices_Clone_Lint : Option (List (List Int)) := (evT (G_slices_Clone_Lint 1) L0 P0 [] [] 1 400 (bodyOf Tryz.f132) ⟨8, slots 0 [.snil], tabU [] [], []⟩).elim (kRet 8 pout_slices_Clone_Lint (kpL []) [])
theorem FA_slices_Clone_Lint_eq : FA_slices_Clone_Lint = some [] := by kernel_rfl
theorem WN_slices_Clone_Lint (N : Nat) (r : List (List Int)) (h : W_slices_Clone_Lint N [] = some r) : r = [] := by
  have e : W_slices_Clone_Lint N [] = some [] := by kernel_rfl
  rw [e] at h; injection h with h; exact h.symm
theorem con_slices_Clone_Lint_ok (N : Nat) : Con.ok P0 (con_slices_Clone_Lint N) := ⟨⟨Tryz.f132, Tryz.func132, by kernel_rfl, by kernel_rfl⟩, fun (x : List (List Int)) (r : List (List Int)) (hr : W_slices_Clone_Lint N x = some r) =>
  clone_split (e := (.list (.int .i64))) (ty := 25) (l := x) (r := r)
    (spec2_evT (Γ := G_slices_Clone_Lint 1) (Λ := L0) (lb := []) (pout := pout_slices_Clone_Lint) (kp := kpL []) mixed (orcOf_ok [] (by simp)) Tryz.func132 (c := bodyOf Tryz.f132) (by kernel_rfl) (by kernel_rfl) (of_decide_eq_true (by kernel_rfl)) FA_slices_Clone_Lint_eq (R_slices_Clone_Lint_eq x []))
    (spec2_evT (Γ := G_slices_Clone_Lint N) (Λ := L0) (lb := []) (pout := pout_slices_Clone_Lint) (kp := kpL []) mixed (orcOf_ok [] (by simp)) Tryz.func132 (c := bodyOf Tryz.f132) (by kernel_rfl) (by kernel_rfl) (of_decide_eq_true (by kernel_rfl)) ((F_slices_Clone_Lint_eq N x).trans hr) (R_slices_Clone_Lint_eq x r))
    (fun h => by subst h; exact WN_slices_Clone_Lint N r hr)⟩
def as_slices_Clone_int : List AS := [.val (.list (.int .i64))]
def bs_slices_Clone_int : List BS := []
def pout_slices_Clone_int : Pat := ⟨[(2, .acc 700005)], [(700005, .nrow 3 (.int .i64) false true)]⟩
noncomputable def G_slices_Clone_int  (N : Nat) : OrcT := orcOf []
noncomputable def F_slices_Clone_int  (N : Nat) (x : List Int) : Option (List Int) :=
  (evT (G_slices_Clone_int  N) L0 P0 []
    [] N 400 (bodyOf Tryz.f124) ⟨8, slots 0 [.nl ⟨(.int .i64), x⟩], tabU (lbOf as_slices_Clone_int bs_slices_Clone_int x) [], []⟩).elim (kRet 8 pout_slices_Clone_int (kpL []) (lbOf as_slices_Clone_int bs_slices_Clone_int x))
def out_slices_Clone_int (y : List Int) : V × List OK × List OK := (.acc 2000000 0, [], [.nrow 3 false true ⟨(.int .i64), y⟩])
noncomputable def V_slices_Clone_int  (N : Nat) (x : List Int) : Option (List Int) :=
  cnd (decide (List.length x * (8:Nat) ≤ (140737488355328:Nat))) (some x) none
theorem FV_slices_Clone_int_eq  (N : Nat) (x : List Int) : F_slices_Clone_int  N x = V_slices_Clone_int  N x := by kernel_rfl
noncomputable def W_slices_Clone_int (N : Nat) (x : List Int) : Option (List Int) := V_slices_Clone_int  N x
theorem F_slices_Clone_int_eq (N : Nat) (x : List Int) : F_slices_Clone_int  N x = W_slices_Clone_int N x := (FV_slices_Clone_int_eq  N x).trans (by kernel_rfl)
noncomputable def conw_slices_Clone_int (w : List Int → Option (List Int)) : Con := ⟨124, as_slices_Clone_int, bs_slices_Clone_int, List Int, w, out_slices_Clone_int⟩
noncomputable def con_slices_Clone_int (N : Nat) : Con := conw_slices_Clone_int (W_slices_Clone_int N)
theorem R_slices_Clone_int_eq (x : List Int) (y : List Int) : retOf2 P0 Tryz.f124 (kpL []) (lbOf as_slices_Clone_int bs_slices_Clone_int x) (patS ⟨8, [], [], []⟩ pout_slices_Clone_int y) = some (out_slices_Clone_int y) := by kernel_rfl
noncomputable def FA_slices_Clone_int : Option (List Int) := (evT (G_slices_Clone_int 1) L0 P0 [] [] 1 400 (bodyOf Tryz.f124) ⟨8, slots 0 [.snil], tabU [] [], []⟩).elim (kRet 8 pout_slices_Clone_int (kpL []) [])
theorem FA_slices_Clone_int_eq : FA_slices_Clone_int = some [] := by kernel_rfl
theorem WN_slices_Clone_int (N : Nat) (r : List Int) (h : W_slices_Clone_int N [] = some r) : r = [] := by
  have e : W_slices_Clone_int N [] = some [] := by kernel_rfl
  rw [e] at h; injection h with h; exact h.symm
theorem con_slices_Clone_int_ok (N : Nat) : Con.ok P0 (con_slices_Clone_int N) := ⟨⟨Tryz.f124, Tryz.func124, by kernel_rfl, by kernel_rfl⟩, fun (x : List Int) (r : List Int) (hr : W_slices_Clone_int N x = some r) =>
  clone_split (e := (.int .i64)) (ty := 3) (l := x) (r := r)
    (spec2_evT (Γ := G_slices_Clone_int 1) (Λ := L0) (lb := []) (pout := pout_slices_Clone_int) (kp := kpL []) mixed (orcOf_ok [] (by simp)) Tryz.func124 (c := bodyOf Tryz.f124) (by kernel_rfl) (by kernel_rfl) (of_decide_eq_true (by kernel_rfl)) FA_slices_Clone_int_eq (R_slices_Clone_int_eq x []))
    (spec2_evT (Γ := G_slices_Clone_int N) (Λ := L0) (lb := []) (pout := pout_slices_Clone_int) (kp := kpL []) mixed (orcOf_ok [] (by simp)) Tryz.func124 (c := bodyOf Tryz.f124) (by kernel_rfl) (by kernel_rfl) (of_decide_eq_true (by kernel_rfl)) ((F_slices_Clone_int_eq N x).trans hr) (R_slices_Clone_int_eq x r))
    (fun h => by subst h; exact WN_slices_Clone_int N r hr)⟩
def as_slices_Clone_Lapi_Cluster : List AS := [.val (.list (.list T4_))]
def bs_slices_Clone_Lapi_Cluster : List BS := []
def pout_slices_Clone_Lapi_Cluster : Pat := ⟨[(2, .acc 700005)], [(700005, .nrow 133 (.list T4_) false true)]⟩
noncomputable def G_slices_Clone_Lapi_Cluster  (N : Nat) : OrcT := orcOf []
noncomputable def F_slices_Clone_Lapi_Cluster  (N : Nat) (x : A6_) : Option A6_ :=
  (evT (G_slices_Clone_Lapi_Cluster  N) L0 P0 []
    [] N 400 (bodyOf Tryz.f133) ⟨8, slots 0 [.nl ⟨(.list T4_), x⟩], tabU (lbOf as_slices_Clone_Lapi_Cluster bs_slices_Clone_Lapi_Cluster x) [], []⟩).elim (kRet 8 pout_slices_Clone_Lapi_Cluster (kpL []) (lbOf as_slices_Clone_Lapi_Cluster bs_slices_Clone_Lapi_Cluster x))
def out_slices_Clone_Lapi_Cluster (y : A6_) : V × List OK × List OK := (.acc 2000000 0, [], [.nrow 133 false true ⟨(.list T4_), y⟩])
noncomputable def V_slices_Clone_Lapi_Cluster  (N : Nat) (x : A6_) : Option A6_ :=
  cnd (decide (List.length x * (24:Nat) ≤ (140737488355328:Nat))) (some x) none
theorem FV_slices_Clone_Lapi_Cluster_eq  (N : Nat) (x : A6_) : F_slices_Clone_Lapi_Cluster  N x = V_slices_Clone_Lapi_Cluster  N x := by kernel_rfl
noncomputable def W_slices_Clone_Lapi_Cluster (N : Nat) (x : A6_) : Option A6_ := V_slices_Clone_Lapi_Cluster  N x
theorem F_slices_Clone_Lapi_Cluster_eq (N : Nat) (x : A6_) : F_slices_Clone_Lapi_Cluster  N x = W_slices_Clone_Lapi_Cluster N x := (FV_slices_Clone_Lapi_Cluster_eq  N x).trans (by kernel_rfl)
noncomputable def conw_slices_Clone_Lapi_Cluster (w : A6_ → Option A6_) : Con := ⟨133, as_slices_Clone_Lapi_Cluster, bs_slices_Clone_Lapi_Cluster, List (List (List Int × Int)), w, out_slices_Clone_Lapi_Cluster⟩
noncomputable def con_slices_Clone_Lapi_Cluster (N : Nat) : Con := conw_slices_Clone_Lapi_Cluster (W_slices_Clone_Lapi_Cluster N)
theorem R_slices_Clone_Lapi_Cluster_eq (x : A6_) (y : A6_) : retOf2 P0 Tryz.f133 (kpL []) (lbOf as_slices_Clone_Lapi_Cluster bs_slices_Clone_Lapi_Cluster x) (patS ⟨8, [], [], []⟩ pout_slices_Clone_Lapi_Cluster y) = some (out_slices_Clone_Lapi_Cluster y) := by kernel_rfl
noncomputable def FA_slices_Clone_Lapi_Cluster : Option A6_ := (evT (G_slices_Clone_Lapi_Cluster 1) L0 P0 [] [] 1 400 (bodyOf Tryz.f133) ⟨8, slots 0 [.snil], tabU [] [], []⟩).elim (kRet 8 pout_slices_Clone_Lapi_Cluster (kpL []) [])
theorem FA_slices_Clone_Lapi_Cluster_eq : FA_slices_Clone_Lapi_Cluster = some [] := by kernel_rfl
theorem WN_slices_Clone_Lapi_Cluster (N : Nat) (r : A6_) (h : W_slices_Clone_Lapi_Cluster N [] = some r) : r = [] := by
  have e : W_slices_Clone_Lapi_Cluster N [] = some [] := by kernel_rfl
  rw [e] at h; injection h with h; exact h.symm
theorem con_slices_Clone_Lapi_Cluster_ok (N : Nat) : Con.ok P0 (con_slices_Clone_Lapi_Cluster N) := ⟨⟨Tryz.f133, Tryz.func133, by kernel_rfl, by kernel_rfl⟩, fun (x : A6_) (r : A6_) (hr : W_slices_Clone_Lapi_Cluster N x = some r) =>
  clone_split (e := (.list T4_)) (ty := 133) (l := x) (r := r)
    (spec2_evT (Γ := G_slices_Clone_Lapi_Cluster 1) (Λ := L0) (lb := []) (pout := pout_slices_Clone_Lapi_Cluster) (kp := kpL []) mixed (orcOf_ok [] (by simp)) Tryz.func133 (c := bodyOf Tryz.f133) (by kernel_rfl) (by kernel_rfl) (of_decide_eq_true (by kernel_rfl)) FA_slices_Clone_Lapi_Cluster_eq (R_slices_Clone_Lapi_Cluster_eq x []))
    (spec2_evT (Γ := G_slices_Clone_Lapi_Cluster N) (Λ := L0) (lb := []) (pout := pout_slices_Clone_Lapi_Cluster) (kp := kpL []) mixed (orcOf_ok [] (by simp)) Tryz.func133 (c := bodyOf Tryz.f133) (by kernel_rfl) (by kernel_rfl) (of_decide_eq_true (by kernel_rfl)) ((F_slices_Clone_Lapi_Cluster_eq N x).trans hr) (R_slices_Clone_Lapi_Cluster_eq x r))
    (fun h => by subst h; exact WN_slices_Clone_Lapi_Cluster N r hr)⟩
def as_slices_Clone_api_Cluster : List AS := [.val (.list T4_)]
def bs_slices_Clone_api_Cluster : List BS := []
def pout_slices_Clone_api_Cluster : Pat := ⟨[(2, .acc 700005)], [(700005, .nrow 137 T4_ false true)]⟩
noncomputable def G_slices_Clone_api_Cluster  (N : Nat) : OrcT := orcOf []
noncomputable def F_slices_Clone_api_Cluster  (N : Nat) (x : List (List Int × Int)) : Option (List (List Int × Int)) :=
  (evT (G_slices_Clone_api_Cluster  N) L0 P0 []
    [] N 400 (bodyOf Tryz.f210) ⟨8, slots 0 [.nl ⟨T4_, x⟩], tabU (lbOf as_slices_Clone_api_Cluster bs_slices_Clone_api_Cluster x) [], []⟩).elim (kRet 8 pout_slices_Clone_api_Cluster (kpL []) (lbOf as_slices_Clone_api_Cluster bs_slices_Clone_api_Cluster x))
def out_slices_Clone_api_Cluster (y : List (List Int × Int)) : V × List OK × List OK := (.acc 2000000 0, [], [.nrow 137 false true ⟨T4_, y⟩])
noncomputable def V_slices_Clone_api_Cluster  (N : Nat) (x : List (List Int × Int)) : Option (List (List Int × Int)) :=
  cnd (decide (List.length x * (32:Nat) ≤ (140737488355328:Nat))) (some x) none
theorem FV_slices_Clone_api_Cluster_eq  (N : Nat) (x : List (List Int × Int)) : F_slices_Clone_api_Cluster  N x = V_slices_Clone_api_Cluster  N x := by kernel_rfl
noncomputable def W_slices_Clone_api_Cluster (N : Nat) (x : List (List Int × Int)) : Option (List (List Int × Int)) := V_slices_Clone_api_Cluster  N x
theorem F_slices_Clone_api_Cluster_eq (N : Nat) (x : List (List Int × Int)) : F_slices_Clone_api_Cluster  N x = W_slices_Clone_api_Cluster N x := (FV_slices_Clone_api_Cluster_eq  N x).trans (by kernel_rfl)
noncomputable def conw_slices_Clone_api_Cluster (w : List (List Int × Int) → Option (List (List Int × Int))) : Con := ⟨210, as_slices_Clone_api_Cluster, bs_slices_Clone_api_Cluster, List (List Int × Int), w, out_slices_Clone_api_Cluster⟩
noncomputable def con_slices_Clone_api_Cluster (N : Nat) : Con := conw_slices_Clone_api_Cluster (W_slices_Clone_api_Cluster N)
theorem R_slices_Clone_api_Cluster_eq (x : List (List Int × Int)) (y : List (List Int × Int)) : retOf2 P0 Tryz.f210 (kpL []) (lbOf as_slices_Clone_api_Cluster bs_slices_Clone_api_Cluster x) (patS ⟨8, [], [], []⟩ pout_slices_Clone_api_Cluster y) = some (out_slices_Clone_api_Cluster y) := by kernel_rfl
noncomputable def FA_slices_Clone_api_Cluster : Option (List (List Int × Int)) := (evT (G_slices_Clone_api_Cluster 1) L0 P0 [] [] 1 400 (bodyOf Tryz.f210) ⟨8, slots 0 [.snil], tabU [] [], []⟩).elim (kRet 8 pout_slices_Clone_api_Cluster (kpL []) [])
theorem FA_slices_Clone_api_Cluster_eq : FA_slices_Clone_api_Cluster = some [] := by kernel_rfl
theorem WN_slices_Clone_api_Cluster (N : Nat) (r : List (List Int × Int)) (h : W_slices_Clone_api_Cluster N [] = some r) : r = [] := by
  have e : W_slices_Clone_api_Cluster N [] = some [] := by kernel_rfl
  rw [e] at h; injection h with h; exact h.symm
theorem con_slices_Clone_api_Cluster_ok (N : Nat) : Con.ok P0 (con_slices_Clone_api_Cluster N) := ⟨⟨Tryz.f210, Tryz.func210, by kernel_rfl, by kernel_rfl⟩, fun (x : List (List Int × Int)) (r : List (List Int × Int)) (hr : W_slices_Clone_api_Cluster N x = some r) =>
  clone_split (e := T4_) (ty := 137) (l := x) (r := r)
    (spec2_evT (Γ := G_slices_Clone_api_Cluster 1) (Λ := L0) (lb := []) (pout := pout_slices_Clone_api_Cluster) (kp := kpL []) mixed (orcOf_ok [] (by simp)) Tryz.func210 (c := bodyOf Tryz.f210) (by kernel_rfl) (by kernel_rfl) (of_decide_eq_true (by kernel_rfl)) FA_slices_Clone_api_Cluster_eq (R_slices_Clone_api_Cluster_eq x []))
    (spec2_evT (Γ := G_slices_Clone_api_Cluster N) (Λ := L0) (lb := []) (pout := pout_slices_Clone_api_Cluster) (kp := kpL []) mixed (orcOf_ok [] (by simp)) Tryz.func210 (c := bodyOf Tryz.f210) (by kernel_rfl) (by kernel_rfl) (of_decide_eq_true (by kernel_rfl)) ((F_slices_Clone_api_Cluster_eq N x).trans hr) (R_slices_Clone_api_Cluster_eq x r))
    (fun h => by subst h; exact WN_slices_Clone_api_Cluster N r hr)⟩
noncomputable def u_twin_Clusters : Uf := ⟨134, 24, Tryz.f134, [.val (.list T4_)], [],
⟨[(2, .val (.list T4_))], []⟩, [],
[(3, .loop [] ⟨[(3, .acc 700006), (9, .val (.int .i64))], [(700006, .nrow 137 T4_ false true)]⟩ [(.exit 0, ⟨[(3, .val (.list T4_))], []⟩)])],
[], fun y => (valW (.list T4_) y, [], [])⟩
noncomputable def V_twin_Clusters (w_slices_Clone_api_Cluster : List (List Int × Int) → Option (List (List Int × Int))) (w_slices_Clone_int : List Int → Option (List Int)) (N : Nat) (x : List (List Int × Int)) : Option (List (List Int × Int)) :=
  obind (w_slices_Clone_api_Cluster x) fun b => obind (loopN N (fun (v : Int × List (List Int × Int)) => cnd (decide (v.1 < (↑(List.length b) : Int)))
    (cnd (decide ((0:Int) ≤ v.1) && decide (v.1 < (↑(List.length v.2) : Int))) (obind (w_slices_Clone_int (Prod.fst (List.getD v.2 (Int.toNat v.1)
    ([], (0:Int))))) fun b => cnd (decide ((0:Int) ≤ v.1) && decide (v.1 < (↑(List.length v.2) : Int))) (some (Sum.inl (wr .i64 (v.1 + (1:Int)), putL
    v.2 [(b, Prod.snd (List.getD v.2 (Int.toNat v.1) ([], (0:Int))))] (Int.toNat v.1)))) none) none) (some (Sum.inr v.2))) ((0:Int), b)) fun (b : List (List Int × Int)) => some b
theorem q_twin_Clusters : ∀ w_slices_Clone_api_Cluster w_slices_Clone_int N x, u_twin_Clusters.F L0 P0 (orcOf [conw_slices_Clone_api_Cluster w_slices_Clone_api_Cluster, conw_slices_Clone_int w_slices_Clone_int]) N x = V_twin_Clusters w_slices_Clone_api_Cluster w_slices_Clone_int N x := by intros; kernel_rfl
noncomputable def W_twin_Clusters (N : Nat) := V_twin_Clusters (W_slices_Clone_api_Cluster N) (W_slices_Clone_int N) N
theorem con_twin_Clusters_ok (N : Nat) : (u_twin_Clusters.con (W_twin_Clusters N)).ok P0 := Uf.ok mixed (q_twin_Clusters (W_slices_Clone_api_Cluster N) (W_slices_Clone_int N) N) ⟨con_slices_Clone_api_Cluster_ok N, con_slices_Clone_int_ok N, trivial⟩ Tryz.func134 (by kernel_rfl) fun x y => by kernel_rfl
noncomputable def u_twin_Hier : Uf := ⟨66, 48, Tryz.f66, [.val (.agg T2_)], [],
⟨[(2, .ptr 600002 0)], [(600002, .box 35 (.val T2_))]⟩, [],
[(3, .loop [] ⟨[(1, .ptr 600001 0), (2, .ptr 600002 0), (12, .val (.int .i64))], [(600001, .box 35 (.pair (.val (.int .i64)) (.pair (.acc 602001) (.val (.list (.list T4_)))))), (602001, .nrow 25 (.list (.int .i64)) false true), (600002, .box 35 (.val T2_))]⟩ [(.exit 0, ⟨[(1, .ptr 600001 0), (2, .ptr 600002 0)], [(600001, .box 35 (.pair (.val (.int .i64)) (.pair (.acc 602001) (.val (.list (.list T4_)))))), (602001, .nrow 25 (.list (.int .i64)) false true), (600002, .box 35 (.val T2_))]⟩)]),
(9, .loop [] ⟨[(1, .ptr 600001 0), (2, .ptr 600002 0), (33, .val (.int .i64))], [(600001, .box 35 (.pair (.val (.int .i64)) (.pair (.acc 602001) (.acc 603001)))), (602001, .nrow 25 (.list (.int .i64)) false true), (603001, .nrow 133 (.list T4_) false true), (600002, .box 35 (.val T2_))]⟩ [(.exit 2, ⟨[(1, .ptr 600001 0), (2, .ptr 600002 0)], [(600001, .box 35 (.pair (.val (.int .i64)) (.pair (.acc 602001) (.acc 603001)))), (602001, .nrow 25 (.list (.int .i64)) false true), (603001, .nrow 133 (.list T4_) false true), (600002, .box 35 (.val T2_))]⟩)])],
[], fun y => (valW (.agg T2_) y, [], [])⟩
noncomputable def V_twin_Hier (w_slices_Clone_Lint : List (List Int) → Option (List (List Int))) (w_slices_Clone_int : List Int → Option (List Int)) (w_slices_Clone_Lapi_Cluster : A6_ → Option A6_) (w_twin_Clusters : List (List Int × Int) → Option (List (List Int × Int))) (N : Nat) (x : A1_) : Option A1_ :=
  obind (w_slices_Clone_Lint x.2.1) fun b => obind (loopN N (fun (v : Int × Int × List (List (List Int × Int)) × List (List Int) × A1_) => cnd (decide (v.1 < (↑(List.length b) : Int))) (cnd (decide ((0:Int) ≤ v.1) && decide (v.1 < (↑(List.length
    v.2.2.2.1) : Int))) (obind (w_slices_Clone_int (List.getD v.2.2.2.1 (Int.toNat v.1) [])) fun b => cnd (decide ((0:Int) ≤ v.1) && decide (v.1 <
    (↑(List.length v.2.2.2.1) : Int))) (some (Sum.inl (wr .i64 (v.1 + (1:Int)), v.2.1, v.2.2.1, putL v.2.2.2.1 [b] (Int.toNat v.1), v.2.2.2.2))) none)
    none) (some (Sum.inr v.2))) ((0:Int), x.1, x.2.2, b, (0:Int), [], [])) fun (b : Int × List (List (List Int × Int)) × List (List Int) × A1_) => obind (w_slices_Clone_Lapi_Cluster b.2.1) fun b_1 => obind (loopN N (fun (v : Int × Int × List (List Int) × List (List (List Int × Int)) × A1_) => cnd (decide (v.1 < (↑(List.length b_1) : Int))) (cnd
    (decide ((0:Int) ≤ v.1) && decide (v.1 < (↑(List.length v.2.2.2.1) : Int))) (obind (w_twin_Clusters (List.getD v.2.2.2.1 (Int.toNat v.1) [])) fun
    b => cnd (decide ((0:Int) ≤ v.1) && decide (v.1 < (↑(List.length v.2.2.2.1) : Int))) (some (Sum.inl (wr .i64 (v.1 + (1:Int)), v.2.1, v.2.2.1, putL
    v.2.2.2.1 [b] (Int.toNat v.1), v.2.2.2.2))) none) none) (some (Sum.inr v.2))) ((0:Int), b.1, b.2.2.1, b_1, b.2.2.2)) fun (b : Int × List (List Int) × List (List (List Int × Int)) × A1_) => some (b.1, b.2.1, b.2.2.1)
theorem q_twin_Hier : ∀ w_slices_Clone_Lint w_slices_Clone_int w_slices_Clone_Lapi_Cluster w_twin_Clusters N x, u_twin_Hier.F L0 P0 (orcOf [conw_slices_Clone_Lint w_slices_Clone_Lint, conw_slices_Clone_int w_slices_Clone_int, conw_slices_Clone_Lapi_Cluster w_slices_Clone_Lapi_Cluster, u_twin_Clusters.con w_twin_Clusters]) N x = V_twin_Hier w_slices_Clone_Lint w_slices_Clone_int w_slices_Clone_Lapi_Cluster w_twin_Clusters N x := by intros; kernel_rfl
noncomputable def W_twin_Hier (N : Nat) := V_twin_Hier (W_slices_Clone_Lint N) (W_slices_Clone_int N) (W_slices_Clone_Lapi_Cluster N) (W_twin_Clusters N) N
theorem con_twin_Hier_ok (N : Nat) : (u_twin_Hier.con (W_twin_Hier N)).ok P0 := Uf.ok mixed (q_twin_Hier (W_slices_Clone_Lint N) (W_slices_Clone_int N) (W_slices_Clone_Lapi_Cluster N) (W_twin_Clusters N) N) ⟨con_slices_Clone_Lint_ok N, con_slices_Clone_int_ok N, con_slices_Clone_Lapi_Cluster_ok N, con_twin_Clusters_ok N, trivial⟩ Tryz.func66 (by kernel_rfl) fun x y => by kernel_rfl
noncomputable def u_hier_New : Uf := ⟨36, 16, Tryz.f36, [.val (.list (.list (.int .i64))), .val (.int .i64)], [],
⟨[(4, .ptr 600004 0), (5, .val .bool)], [(600004, .box 35 (.val T2_))]⟩, [],
[],
[], fun y => (.tup [valW (.agg T2_) y.2, valW .bool y.1], [], [])⟩
noncomputable def V_hier_New (w_hier_begins : A1_ → Option (Bool)) (w_twin_Hier : A1_ → Option A1_) (N : Nat) (x : List (List Int) × Int) : Option (Bool × A1_) :=
  obind (w_hier_begins (x.2, x.1, [])) fun b => cnd (!b) (some (false, (0:Int), [], [])) (obind (w_twin_Hier (x.2, x.1, [])) fun b => some (true, b))
theorem q_hier_New : ∀ w_hier_begins w_twin_Hier N x, u_hier_New.F L0 P0 (orcOf [u_hier_begins.con w_hier_begins, u_twin_Hier.con w_twin_Hier]) N x = V_hier_New w_hier_begins w_twin_Hier N x := by intros; kernel_rfl
noncomputable def W_hier_New (N : Nat) := V_hier_New (W_hier_begins N) (W_twin_Hier N) N
theorem con_hier_New_ok (N : Nat) : (u_hier_New.con (W_hier_New N)).ok P0 := Uf.ok mixed (q_hier_New (W_hier_begins N) (W_twin_Hier N) N) ⟨con_hier_begins_ok N, con_twin_Hier_ok N, trivial⟩ Tryz.func36 (by kernel_rfl) fun x y => by kernel_rfl
noncomputable def u_hier_ground : Uf := ⟨69, 11, Tryz.f69, [.val (.agg T2_)], [],
⟨[(2, .val (.list T4_))], []⟩, [],
[],
[], fun y => (valW (.list T4_) y, [], [])⟩
noncomputable def V_hier_ground (N : Nat) (x : A1_) : Option (List (List Int × Int)) :=
  cnd (decide ((↑(List.length x.2.2) : Int) = (0:Int))) (some []) (cnd (decide ((0:Int) ≤ (0:Int)) && decide ((0:Int) < (↑(List.length x.2.2) : Int))) (some (List.getD x.2.2 (0:Nat) [])) none)
theorem q_hier_ground : ∀ N x, u_hier_ground.F L0 P0 (orcOf []) N x = V_hier_ground N x := by intros; kernel_rfl
noncomputable def W_hier_ground (N : Nat) := V_hier_ground N
theorem con_hier_ground_ok (N : Nat) : (u_hier_ground.con (W_hier_ground N)).ok P0 := Uf.ok mixed (q_hier_ground N) trivial Tryz.func69 (by kernel_rfl) fun x y => by kernel_rfl
noncomputable def u_hier_rises : Uf := ⟨145, 21, Tryz.f145, [.val (.list (.int .i64))], [],
⟨[(2, .val .bool)], []⟩, [],
[(3, .loop [6] ⟨[(3, .val (.int .i64)), (8, .val (.int .i64))], []⟩ [(.exit 0, ⟨[], []⟩), (.ret, ⟨[(2, .val .bool)], []⟩)])],
[], fun y => (valW .bool y, [], [])⟩
noncomputable def V_hier_rises (N : Nat) (x : List Int) : Option (Bool) :=
  obind (loopN N (fun (v : Int × Int) => cnd (decide (v.2 < (↑(List.length x) : Int))) (cnd (decide ((0:Int) ≤ v.2) && decide (v.2 < (↑(List.length x) :
    Int))) (cnd (decide (List.getD x (Int.toNat v.2) (0:Int) ≤ v.1)) (some (Sum.inr (Sum.inr false))) (cnd (decide ((8:Int) < List.getD x (Int.toNat
    v.2) (0:Int))) (some (Sum.inr (Sum.inr false))) (some (Sum.inl (List.getD x (Int.toNat v.2) (0:Int), wr .i64 (v.2 + (1:Int))))))) none) (some
    (Sum.inr (Sum.inl ())))) ((0:Int), (0:Int))) fun (b : PUnit ⊕ Bool) => selim (fun (b : PUnit) => some true) (fun (c : Bool) => some c) b
theorem q_hier_rises : ∀ N x, u_hier_rises.F L0 P0 (orcOf []) N x = V_hier_rises N x := by intros; kernel_rfl
noncomputable def W_hier_rises (N : Nat) := V_hier_rises N
theorem con_hier_rises_ok (N : Nat) : (u_hier_rises.con (W_hier_rises N)).ok P0 := Uf.ok mixed (q_hier_rises N) trivial Tryz.func145 (by kernel_rfl) fun x y => by kernel_rfl
noncomputable def u_mid_between : Uf := ⟨213, 38, Tryz.f213, [.val (.list (.list (.int .i64))), .val (.int .i64), .val (.int .i64)], [],
⟨[(6, .val (.int .i64))], []⟩, [],
[],
[(1000001, .reg [(8, [], ⟨[(14, .val .bool)], []⟩), (4, [], ⟨[(18, .val .bool)], []⟩)])], fun y => (valW (.int .i64) y, [], [])⟩
noncomputable def V_mid_between (N : Nat) (x : List (List Int) × Int × Int) : Option (Int) :=
  obind (cnd (decide (x.2.1 < (1:Int))) (some true) (some (decide ((↑(List.length x.1) : Int) < x.2.1)))) fun (b : Bool) => obind (cnd b (some true)
    (some (decide (x.2.2 < (1:Int))))) fun (b : Bool) => cnd b (some (0:Int)) (cnd (decide ((0:Int) ≤ wr .i64 (x.2.1 - (1:Int))) && decide (wr .i64
    (x.2.1 - (1:Int)) < (↑(List.length x.1) : Int))) (cnd (decide ((↑(List.length (List.getD x.1 (Int.toNat (wr .i64 (x.2.1 - (1:Int)))) [])) : Int) <
    x.2.2)) (some (0:Int)) (cnd (decide ((0:Int) ≤ wr .i64 (x.2.1 - (1:Int))) && decide (wr .i64 (x.2.1 - (1:Int)) < (↑(List.length x.1) : Int))) (cnd
    (decide ((0:Int) ≤ wr .i64 (x.2.2 - (1:Int))) && decide (wr .i64 (x.2.2 - (1:Int)) < (↑(List.length (List.getD x.1 (Int.toNat (wr .i64 (x.2.1 -
    (1:Int)))) [])) : Int))) (some (List.getD (List.getD x.1 (Int.toNat (wr .i64 (x.2.1 - (1:Int)))) []) (Int.toNat (wr .i64 (x.2.2 - (1:Int))))
    (0:Int))) none) none)) none)
theorem q_mid_between : ∀ N x, u_mid_between.F L0 P0 (orcOf []) N x = V_mid_between N x := by intros; kernel_rfl
noncomputable def W_mid_between (N : Nat) := V_mid_between N
theorem con_mid_between_ok (N : Nat) : (u_mid_between.con (W_mid_between N)).ok P0 := Uf.ok mixed (q_mid_between N) trivial Tryz.func213 (by kernel_rfl) fun x y => by kernel_rfl
noncomputable def u_mid_Far : Uf := ⟨217, 24, Tryz.f217, [.val (.list (.list (.int .i64))), .val (.int .i64), .val (.list (.int .i64))], [],
⟨[(6, .val (.int .i64))], []⟩, [],
[(3, .loop [10] ⟨[(7, .val (.int .i64)), (12, .val (.int .i64))], []⟩ [(.exit 0, ⟨[(7, .val (.int .i64))], []⟩)])],
[], fun y => (valW (.int .i64) y, [], [])⟩
noncomputable def V_mid_Far (w_mid_between : List (List Int) × Int × Int → Option (Int)) (N : Nat) (x : List (List Int) × Int × List Int) : Option (Int) :=
  obind (loopN N (fun (v : Int × Int) => cnd (decide (v.2 < (↑(List.length x.2.2) : Int))) (cnd (decide ((0:Int) ≤ v.2) && decide (v.2 < (↑(List.length
    x.2.2) : Int))) (obind (w_mid_between (x.1, x.2.1, List.getD x.2.2 (Int.toNat v.2) (0:Int))) fun b => some (Sum.inl (max v.1 b, wr .i64 (v.2 +
    (1:Int))))) none) (some (Sum.inr v.1))) ((0:Int), (0:Int))) fun (b : Int) => some b
theorem q_mid_Far : ∀ w_mid_between N x, u_mid_Far.F L0 P0 (orcOf [u_mid_between.con w_mid_between]) N x = V_mid_Far w_mid_between N x := by intros; kernel_rfl
noncomputable def W_mid_Far (N : Nat) := V_mid_Far (W_mid_between N) N
theorem con_mid_Far_ok (N : Nat) : (u_mid_Far.con (W_mid_Far N)).ok P0 := Uf.ok mixed (q_mid_Far (W_mid_between N) N) ⟨con_mid_between_ok N, trivial⟩ Tryz.func217 (by kernel_rfl) fun x y => by kernel_rfl
noncomputable def u_mid_better : Uf := ⟨212, 39, Tryz.f212, [.val (.alt 270 (.agg .unit) (.alt1 332 (.agg T6_))), .val (.int .i64), .val (.int .i64)], [],
⟨[(6, .val (.alt1 332 (.agg T6_)))], []⟩, [],
[],
[], fun y => (valW (.alt1 332 (.agg T6_)) y, [], [])⟩
noncomputable def V_mid_better (N : Nat) (x : (Unit ⊕ (Int × Int)) × Int × Int) : Option (Int × Int) :=
  selim (fun (b : PUnit) => some x.2) (fun (c : Int × Int) => cnd (decide (c.2 < x.2.2)) (some c) (cnd (decide (c.2 = x.2.2)) (cnd (decide (c.1 < x.2.1)) (some c) (some x.2)) (some x.2))) x.1
theorem q_mid_better : ∀ N x, u_mid_better.F L0 P0 (orcOf []) N x = V_mid_better N x := by intros; kernel_rfl
noncomputable def W_mid_better (N : Nat) := V_mid_better N
theorem con_mid_better_ok (N : Nat) : (u_mid_better.con (W_mid_better N)).ok P0 := Uf.ok mixed (q_mid_better N) trivial Tryz.func212 (by kernel_rfl) fun x y => by kernel_rfl
noncomputable def u_mid_who : Uf := ⟨214, 14, Tryz.f214, [.val (.alt 270 (.agg .unit) (.alt1 332 (.agg T6_)))], [],
⟨[(2, .val (.int .i64))], []⟩, [],
[],
[], fun y => (valW (.int .i64) y, [], [])⟩
noncomputable def V_mid_who (N : Nat) (x : Unit ⊕ (Int × Int)) : Option (Int) :=
  selim (fun (b : PUnit) => some (0:Int)) (fun (c : Int × Int) => some c.1) x
theorem q_mid_who : ∀ N x, u_mid_who.F L0 P0 (orcOf []) N x = V_mid_who N x := by intros; kernel_rfl
noncomputable def W_mid_who (N : Nat) := V_mid_who N
theorem con_mid_who_ok (N : Nat) : (u_mid_who.con (W_mid_who N)).ok P0 := Uf.ok mixed (q_mid_who N) trivial Tryz.func214 (by kernel_rfl) fun x y => by kernel_rfl
noncomputable def u_mid_Mid : Uf := ⟨146, 26, Tryz.f146, [.val (.list (.list (.int .i64))), .val (.list (.int .i64))], [],
⟨[(4, .val (.int .i64))], []⟩, [],
[(3, .loop [10] ⟨[(5, .val (.alt 270 (.agg .unit) (.alt1 332 (.agg T6_)))), (12, .val (.int .i64))], []⟩ [(.exit 0, ⟨[(5, .val (.alt 270 (.agg .unit) (.alt1 332 (.agg T6_))))], []⟩)])],
[], fun y => (valW (.int .i64) y, [], [])⟩
noncomputable def V_mid_Mid (w_mid_Far : List (List Int) × Int × List Int → Option (Int)) (w_mid_better : (Unit ⊕ (Int × Int)) × Int × Int → Option (Int × Int)) (w_mid_who : Unit ⊕ (Int × Int) → Option (Int)) (N : Nat) (x : List (List Int) × List Int) : Option (Int) :=
  obind (loopN N (fun (v : (PUnit ⊕ Int × Int) × Int) => cnd (decide (v.2 < (↑(List.length x.2) : Int))) (cnd (decide ((0:Int) ≤ v.2) && decide (v.2 <
    (↑(List.length x.2) : Int))) (obind (w_mid_Far (x.1, List.getD x.2 (Int.toNat v.2) (0:Int), x.2)) fun b => obind (w_mid_better (v.1, List.getD
    x.2 (Int.toNat v.2) (0:Int), b)) fun b => some (Sum.inl (Sum.inr b, wr .i64 (v.2 + (1:Int))))) none) (some (Sum.inr v.1))) (Sum.inl (), (0:Int)))
    fun (b : PUnit ⊕ Int × Int) => obind (w_mid_who b) fun b => some b
theorem q_mid_Mid : ∀ w_mid_Far w_mid_better w_mid_who N x, u_mid_Mid.F L0 P0 (orcOf [u_mid_Far.con w_mid_Far, u_mid_better.con w_mid_better, u_mid_who.con w_mid_who]) N x = V_mid_Mid w_mid_Far w_mid_better w_mid_who N x := by intros; kernel_rfl
noncomputable def W_mid_Mid (N : Nat) := V_mid_Mid (W_mid_Far N) (W_mid_better N) (W_mid_who N) N
theorem con_mid_Mid_ok (N : Nat) : (u_mid_Mid.con (W_mid_Mid N)).ok P0 := Uf.ok mixed (q_mid_Mid (W_mid_Far N) (W_mid_better N) (W_mid_who N) N) ⟨con_mid_Far_ok N, con_mid_better_ok N, con_mid_who_ok N, trivial⟩ Tryz.func146 (by kernel_rfl) fun x y => by kernel_rfl
def as_slices_Sort_int : List AS := [.acc 0]
def bs_slices_Sort_int : List BS := [.nrow 3 (.int .i64) true]
def out_slices_Sort_int (y : List Int) : V × List OK × List OK := (.tup [], [.nrow 3 false true ⟨(.int .i64), y⟩], [])
noncomputable def W_slices_Sort_int (N : Nat) (x : List Int) : Option (List Int) :=
  cnd (decide (List.length x ≤ (140737488355328:Nat))) (some (srt x)) none
noncomputable def conw_slices_Sort_int (w : List Int → Option (List Int)) : Con := ⟨147, as_slices_Sort_int, bs_slices_Sort_int, List Int, w, out_slices_Sort_int⟩
noncomputable def con_slices_Sort_int (N : Nat) : Con := conw_slices_Sort_int (W_slices_Sort_int N)
theorem con_slices_Sort_int_ok (N : Nat) : Con.ok P0 (con_slices_Sort_int N) := ⟨⟨Tryz.f147, Tryz.func147, by kernel_rfl, by kernel_rfl⟩, fun (x : List Int) (r : List Int) (hr : W_slices_Sort_int N x = some r) => so_con0 (ty := 3) (l := x) (r := r) soF147 soN147 hr⟩
noncomputable def u_hier_grounded : Uf := ⟨73, 64, Tryz.f73, [.val (.agg T2_)], [],
⟨[(2, .val .bool)], []⟩, [],
[(3, .loop [8] ⟨[(1, .ptr 600001 0), (3, .acc 700003), (10, .val (.int .i64))], [(600001, .box 35 (.val T2_)), (700003, .nrow 3 (.int .i64) false true)]⟩ [(.exit 0, ⟨[(3, .acc 700003)], [(700003, .nrow 3 (.int .i64) false true)]⟩), (.ret, ⟨[(2, .val .bool)], []⟩)])],
[], fun y => (valW .bool y, [], [])⟩
noncomputable def V_hier_grounded (w_hier_ground : A1_ → Option (List (List Int × Int))) (w_hier_rises : List Int → Option (Bool)) (w_mid_Mid : List (List Int) × List Int → Option (Int)) (w_slices_Sort_int : List Int → Option (List Int)) (N : Nat) (x : A1_) : Option (Bool) :=
  obind (w_hier_ground x) fun b => obind (loopN N (fun (v : Int × A1_ × List Int) => cnd (decide
    (v.1 < (↑(List.length b) : Int))) (cnd (decide ((0:Int) ≤ v.1) && decide (v.1 < (↑(List.length b) : Int))) (cnd (decide ((↑(List.length (Prod.fst
    (List.getD b (Int.toNat v.1) ([], (0:Int))))) : Int) < (1:Int))) (some (Sum.inr (Sum.inr false))) (cnd (decide (wr .i64 (wr .i64 ((3:Int) * v.2.1.1)
    - (1:Int)) < (↑(List.length (Prod.fst (List.getD b (Int.toNat v.1) ([], (0:Int))))) : Int))) (some (Sum.inr (Sum.inr false))) (cnd (decide
    ((↑(List.length (Prod.fst (List.getD b (Int.toNat v.1) ([], (0:Int))))) : Int) < v.2.1.1)) (obind (w_hier_ground v.2.1) fun b_1 => cnd (decide
    ((1:Int) < (↑(List.length b_1) : Int))) (some (Sum.inr (Sum.inr false))) (obind (w_hier_rises (Prod.fst (List.getD b (Int.toNat v.1) ([],
    (0:Int))))) fun b_2 => cnd (!b_2) (some (Sum.inr (Sum.inr false))) (obind (w_mid_Mid (v.2.1.2.1, Prod.fst (List.getD b (Int.toNat v.1) ([],
    (0:Int))))) fun b_3 => cnd (decide (Prod.snd (List.getD b (Int.toNat v.1) ([], (0:Int))) ≠ b_3)) (some (Sum.inr (Sum.inr false))) (cnd (decide
    ((List.length v.2.2 + List.length (Prod.fst (List.getD b (Int.toNat v.1) ([], (0:Int))))) * (8:Nat) ≤ (140737488355328:Nat))) (some (Sum.inl (wr
    .i64 (v.1 + (1:Int)), v.2.1, v.2.2 ++ Prod.fst (List.getD b (Int.toNat v.1) ([], (0:Int)))))) none)))) (obind (w_hier_rises (Prod.fst (List.getD b
    (Int.toNat v.1) ([], (0:Int))))) fun b_1 => cnd (!b_1) (some (Sum.inr (Sum.inr false))) (obind (w_mid_Mid (v.2.1.2.1, Prod.fst (List.getD b
    (Int.toNat v.1) ([], (0:Int))))) fun b_2 => cnd (decide (Prod.snd (List.getD b (Int.toNat v.1) ([], (0:Int))) ≠ b_2)) (some (Sum.inr (Sum.inr
    false))) (cnd (decide ((List.length v.2.2 + List.length (Prod.fst (List.getD b (Int.toNat v.1) ([], (0:Int))))) * (8:Nat) ≤ (140737488355328:Nat)))
    (some (Sum.inl (wr .i64 (v.1 + (1:Int)), v.2.1, v.2.2 ++ Prod.fst (List.getD b (Int.toNat v.1) ([], (0:Int)))))) none)))))) none) (some (Sum.inr
    (Sum.inl v.2.2)))) ((0:Int), x, [])) fun (b : List Int ⊕ Bool) => selim (fun (b : List Int) => obind (w_slices_Sort_int b) fun b_1 => cnd (decide
    (List.length b_1 = List.length b)) (obind (w_hier_rises b_1) fun b => some b) none) (fun (c : Bool) => some c) b
theorem q_hier_grounded : ∀ w_hier_ground w_hier_rises w_mid_Mid w_slices_Sort_int N x, u_hier_grounded.F L0 P0 (orcOf [u_hier_ground.con w_hier_ground, u_hier_rises.con w_hier_rises, u_mid_Mid.con w_mid_Mid, conw_slices_Sort_int w_slices_Sort_int]) N x = V_hier_grounded w_hier_ground w_hier_rises w_mid_Mid w_slices_Sort_int N x := by intros; kernel_rfl
noncomputable def W_hier_grounded (N : Nat) := V_hier_grounded (W_hier_ground N) (W_hier_rises N) (W_mid_Mid N) (W_slices_Sort_int N) N
theorem con_hier_grounded_ok (N : Nat) : (u_hier_grounded.con (W_hier_grounded N)).ok P0 := Uf.ok mixed (q_hier_grounded (W_hier_ground N) (W_hier_rises N) (W_mid_Mid N) (W_slices_Sort_int N) N) ⟨con_hier_ground_ok N, con_hier_rises_ok N, con_mid_Mid_ok N, con_slices_Sort_int_ok N, trivial⟩ Tryz.func73 (by kernel_rfl) fun x y => by kernel_rfl
noncomputable def u_hier_leaders : Uf := ⟨136, 21, Tryz.f136, [.val (.list T4_)], [],
⟨[(2, .val (.list (.int .i64)))], []⟩, [],
[(3, .loop [6] ⟨[(3, .acc 700003), (8, .val (.int .i64))], [(700003, .nrow 3 (.int .i64) false true)]⟩ [(.exit 0, ⟨[(3, .acc 700003)], [(700003, .nrow 3 (.int .i64) false true)]⟩)])],
[], fun y => (valW (.list (.int .i64)) y, [], [])⟩
noncomputable def V_hier_leaders (w_slices_Sort_int : List Int → Option (List Int)) (N : Nat) (x : List (List Int × Int)) : Option (List Int) :=
  obind (loopN N (fun (v : Int × List Int) => cnd (decide (v.1 < (↑(List.length x) : Int))) (cnd (decide ((0:Int) ≤ v.1) && decide (v.1 < (↑(List.length
    x) : Int))) (cnd (decide ((List.length v.2 + (1:Nat)) * (8:Nat) ≤ (140737488355328:Nat))) (some (Sum.inl (wr .i64 (v.1 + (1:Int)), v.2 ++ [Prod.snd
    (List.getD x (Int.toNat v.1) ([], (0:Int)))]))) none) none) (some (Sum.inr v.2))) ((0:Int), [])) fun (b : List Int) => obind (w_slices_Sort_int b)
    fun b_1 => cnd (decide (List.length b_1 = List.length b)) (some b_1) none
theorem q_hier_leaders : ∀ w_slices_Sort_int N x, u_hier_leaders.F L0 P0 (orcOf [conw_slices_Sort_int w_slices_Sort_int]) N x = V_hier_leaders w_slices_Sort_int N x := by intros; kernel_rfl
noncomputable def W_hier_leaders (N : Nat) := V_hier_leaders (W_slices_Sort_int N) N
theorem con_hier_leaders_ok (N : Nat) : (u_hier_leaders.con (W_hier_leaders N)).ok P0 := Uf.ok mixed (q_hier_leaders (W_slices_Sort_int N) N) ⟨con_slices_Sort_int_ok N, trivial⟩ Tryz.func136 (by kernel_rfl) fun x y => by kernel_rfl
noncomputable def u_clus_Of : Uf := ⟨137, 11, Tryz.f137, [.val (.list (.list (.int .i64))), .val (.list (.int .i64))], [],
⟨[(4, .ptr 600004 0)], [(600004, .box 137 (.val (.pair (.list (.int .i64)) (.int .i64))))]⟩, [],
[],
[], fun y => (valW T4_ y, [], [])⟩
noncomputable def V_clus_Of (w_slices_Clone_int : List Int → Option (List Int)) (w_mid_Mid : List (List Int) × List Int → Option (Int)) (N : Nat) (x : List (List Int) × List Int) : Option (List Int × Int) :=
  obind (w_slices_Clone_int x.2) fun b => obind (w_mid_Mid x) fun b_1 => some (b, b_1)
theorem q_clus_Of : ∀ w_slices_Clone_int w_mid_Mid N x, u_clus_Of.F L0 P0 (orcOf [conw_slices_Clone_int w_slices_Clone_int, u_mid_Mid.con w_mid_Mid]) N x = V_clus_Of w_slices_Clone_int w_mid_Mid N x := by intros; kernel_rfl
noncomputable def W_clus_Of (N : Nat) := V_clus_Of (W_slices_Clone_int N) (W_mid_Mid N) N
theorem con_clus_Of_ok (N : Nat) : (u_clus_Of.con (W_clus_Of N)).ok P0 := Uf.ok mixed (q_clus_Of (W_slices_Clone_int N) (W_mid_Mid N) N) ⟨con_slices_Clone_int_ok N, con_mid_Mid_ok N, trivial⟩ Tryz.func137 (by kernel_rfl) fun x y => by kernel_rfl
noncomputable def u_clus_rises : Uf := ⟨329, 21, Tryz.f329, [.val (.list (.int .i64))], [],
⟨[(2, .val .bool)], []⟩, [],
[(3, .loop [6] ⟨[(3, .val (.int .i64)), (8, .val (.int .i64))], []⟩ [(.exit 0, ⟨[], []⟩), (.ret, ⟨[(2, .val .bool)], []⟩)])],
[], fun y => (valW .bool y, [], [])⟩
noncomputable def V_clus_rises (N : Nat) (x : List Int) : Option (Bool) :=
  obind (loopN N (fun (v : Int × Int) => cnd (decide (v.2 < (↑(List.length x) : Int))) (cnd (decide ((0:Int) ≤ v.2) && decide (v.2 < (↑(List.length x) :
    Int))) (cnd (decide (List.getD x (Int.toNat v.2) (0:Int) ≤ v.1)) (some (Sum.inr (Sum.inr false))) (cnd (decide ((8:Int) < List.getD x (Int.toNat
    v.2) (0:Int))) (some (Sum.inr (Sum.inr false))) (some (Sum.inl (List.getD x (Int.toNat v.2) (0:Int), wr .i64 (v.2 + (1:Int))))))) none) (some
    (Sum.inr (Sum.inl ())))) ((0:Int), (0:Int))) fun (b : PUnit ⊕ Bool) => selim (fun (b : PUnit) => some true) (fun (c : Bool) => some c) b
theorem q_clus_rises : ∀ N x, u_clus_rises.F L0 P0 (orcOf []) N x = V_clus_rises N x := by intros; kernel_rfl
noncomputable def W_clus_rises (N : Nat) := V_clus_rises N
theorem con_clus_rises_ok (N : Nat) : (u_clus_rises.con (W_clus_rises N)).ok P0 := Uf.ok mixed (q_clus_rises N) trivial Tryz.func329 (by kernel_rfl) fun x y => by kernel_rfl
noncomputable def u_clus_apart : Uf := ⟨272, 12, Tryz.f272, [.val (.list (.list (.int .i64))), .val (.int .i64), .val (.int .i64)], [],
⟨[(6, .val (.int .i64))], []⟩, [],
[],
[], fun y => (valW (.int .i64) y, [], [])⟩
noncomputable def V_clus_apart (w_mid_Far : List (List Int) × Int × List Int → Option (Int)) (N : Nat) (x : List (List Int) × Int × Int) : Option (Int) :=
  obind (w_mid_Far (x.1, x.2.1, [x.2.2])) fun b => some b
theorem q_clus_apart : ∀ w_mid_Far N x, u_clus_apart.F L0 P0 (orcOf [u_mid_Far.con w_mid_Far]) N x = V_clus_apart w_mid_Far N x := by intros; kernel_rfl
noncomputable def W_clus_apart (N : Nat) := V_clus_apart (W_mid_Far N) N
theorem con_clus_apart_ok (N : Nat) : (u_clus_apart.con (W_clus_apart N)).ok P0 := Uf.ok mixed (q_clus_apart (W_mid_Far N) N) ⟨con_mid_Far_ok N, trivial⟩ Tryz.func272 (by kernel_rfl) fun x y => by kernel_rfl
noncomputable def u_clus_farthest : Uf := ⟨271, 61, Tryz.f271, [.val (.list (.list (.int .i64))), .val (.list (.int .i64))], [],
⟨[(4, .val (.alt 327 (.agg T6_) (.alt1 374 (.agg .unit))))], []⟩, [],
[(8, .loop [27, 37] ⟨[(5, .ptr 600005 0), (39, .val (.int .i64))], [(600005, .box 327 (.val T6_))]⟩ [(.exit 2, ⟨[(5, .ptr 600005 0)], [(600005, .box 327 (.val T6_))]⟩)]),
(5, .loop [27] ⟨[(5, .ptr 600005 0), (29, .val (.int .i64))], [(600005, .box 327 (.val T6_))]⟩ [(.exit 0, ⟨[(5, .ptr 600005 0)], [(600005, .box 327 (.val T6_))]⟩)])],
[], fun y => (valW (.alt 327 (.agg T6_) (.alt1 374 (.agg .unit))) y, [], [])⟩
noncomputable def V_clus_farthest (w_clus_rises : List Int → Option (Bool)) (w_clus_apart : List (List Int) × Int × Int → Option (Int)) (N : Nat) (x : List (List Int) × List Int) : Option ((Int × Int) ⊕ Unit) :=
  cnd (decide ((↑(List.length x.2) : Int) < (2:Int))) (some (Sum.inr ())) (obind (w_clus_rises x.2) fun b => cnd (!b) (some (Sum.inr ())) (cnd (decide
    ((0:Int) ≤ (0:Int)) && decide ((0:Int) < (↑(List.length x.2) : Int))) (cnd (decide ((0:Int) ≤ (1:Int)) && decide ((1:Int) < (↑(List.length x.2) :
    Int))) (obind (loopN N (fun (v : Int × Int × Int) => cnd (decide (v.1 < (↑(List.length x.2) : Int))) (cnd (decide ((0:Int) ≤ v.1) && decide (v.1 <
    (↑(List.length x.2) : Int))) (cnd (decide ((0:Int) ≤ wr .i64 (v.1 + (1:Int))) && decide (wr .i64 (v.1 + (1:Int)) ≤ (↑(List.length x.2) : Int)))
    (obind (loopN N (fun (v_1 : Int × Int × Int) => cnd (decide (v_1.1 < (↑(List.length (List.drop (Int.toNat (wr .i64 (v.1 + (1:Int)))) (List.take
    (List.length x.2) x.2))) : Int))) (cnd (decide ((0:Int) ≤ v_1.1) && decide (v_1.1 < (↑(List.length (List.drop (Int.toNat (wr .i64 (v.1 + (1:Int))))
    (List.take (List.length x.2) x.2))) : Int))) (obind (w_clus_apart (x.1, List.getD x.2 (Int.toNat v.1) (0:Int), List.getD (List.drop (Int.toNat (wr
    .i64 (v.1 + (1:Int)))) (List.take (List.length x.2) x.2)) (Int.toNat v_1.1) (0:Int))) fun b => obind (w_clus_apart (x.1, v_1.2)) fun b_1 => cnd
    (decide (b_1 < b)) (some (Sum.inl (wr .i64 (v_1.1 + (1:Int)), List.getD x.2 (Int.toNat v.1) (0:Int), List.getD (List.drop (Int.toNat (wr .i64 (v.1 +
    (1:Int)))) (List.take (List.length x.2) x.2)) (Int.toNat v_1.1) (0:Int)))) (some (Sum.inl (wr .i64 (v_1.1 + (1:Int)), v_1.2)))) none) (some (Sum.inr
    v_1.2))) ((0:Int), v.2)) fun (b : Int × Int) => some (Sum.inl (wr .i64 (v.1 + (1:Int)), b))) none) none) (some (Sum.inr v.2))) ((0:Int), List.getD
    x.2 (0:Nat) (0:Int), List.getD x.2 (1:Nat) (0:Int))) fun (b : Int × Int) => some (Sum.inl b)) none) none))
theorem q_clus_farthest : ∀ w_clus_rises w_clus_apart N x, u_clus_farthest.F L0 P0 (orcOf [u_clus_rises.con w_clus_rises, u_clus_apart.con w_clus_apart]) N x = V_clus_farthest w_clus_rises w_clus_apart N x := by intros; kernel_rfl
noncomputable def W_clus_farthest (N : Nat) := V_clus_farthest (W_clus_rises N) (W_clus_apart N) N
theorem con_clus_farthest_ok (N : Nat) : (u_clus_farthest.con (W_clus_farthest N)).ok P0 := Uf.ok mixed (q_clus_farthest (W_clus_rises N) (W_clus_apart N) N) ⟨con_clus_rises_ok N, con_clus_apart_ok N, trivial⟩ Tryz.func271 (by kernel_rfl) fun x y => by kernel_rfl
def as_slices_DeleteFunc_int__clus_without_1 : List AS := [.acc 0, .fn 337 [1]]
def bs_slices_DeleteFunc_int__clus_without_1 : List BS := [.nrow 3 (.int .i64) true, .box 3 (.int .i64)]
def out_slices_DeleteFunc_int__clus_without_1 (y : Int × List Int) : V × List OK × List OK := (.acc 2000000 0, [.dead, .box 3 (cellsW (.int .i64) y.1)], [.nrow 3 false false ⟨(.int .i64), y.2⟩])
noncomputable def W_slices_DeleteFunc_int__clus_without_1 (N : Nat) (x : List Int × Int) : Option (Int × List Int) :=
  cnd (decide ((0:Nat) < List.length x.1) && decide (List.length x.1 ≤ (140737488355328:Nat))) (some (x.2, List.filter (fun (a : Int) => !decide (a = x.2)) x.1)) none
noncomputable def conw_slices_DeleteFunc_int__clus_without_1 (w : List Int × Int → Option (Int × List Int)) : Con := ⟨336, as_slices_DeleteFunc_int__clus_without_1, bs_slices_DeleteFunc_int__clus_without_1, Int × List Int, w, out_slices_DeleteFunc_int__clus_without_1⟩
noncomputable def con_slices_DeleteFunc_int__clus_without_1 (N : Nat) : Con := conw_slices_DeleteFunc_int__clus_without_1 (W_slices_DeleteFunc_int__clus_without_1 N)
theorem con_slices_DeleteFunc_int__clus_without_1_ok (N : Nat) : Con.ok P0 (con_slices_DeleteFunc_int__clus_without_1 N) := ⟨⟨Tryz.f336, Tryz.func336, by kernel_rfl, by kernel_rfl⟩, fun (x : List Int × Int) (r : Int × List Int) (hr : W_slices_DeleteFunc_int__clus_without_1 N x = some r) => by
  obtain ⟨l, k⟩ := x
  exact df_con (ty := 3) (bt := 3) (nl := true) (l := l) (k := k) (r := r) dfF336 hr⟩
noncomputable def u_clus_without : Uf := ⟨289, 9, Tryz.f289, [.val (.list (.int .i64)), .val (.int .i64)], [],
⟨[(4, .val (.list (.int .i64)))], []⟩, [],
[],
[], fun y => (valW (.list (.int .i64)) y, [], [])⟩
noncomputable def V_clus_without (w_slices_Clone_int : List Int → Option (List Int)) (w_slices_DeleteFunc_int__clus_without_1 : List Int × Int → Option (Int × List Int)) (N : Nat) (x : List Int × Int) : Option (List Int) :=
  obind (w_slices_Clone_int x.1) fun b => obind (w_slices_DeleteFunc_int__clus_without_1 (b, x.2)) fun b => some b.2
theorem q_clus_without : ∀ w_slices_Clone_int w_slices_DeleteFunc_int__clus_without_1 N x, u_clus_without.F L0 P0 (orcOf [conw_slices_Clone_int w_slices_Clone_int, conw_slices_DeleteFunc_int__clus_without_1 w_slices_DeleteFunc_int__clus_without_1]) N x = V_clus_without w_slices_Clone_int w_slices_DeleteFunc_int__clus_without_1 N x := by intros; kernel_rfl
noncomputable def W_clus_without (N : Nat) := V_clus_without (W_slices_Clone_int N) (W_slices_DeleteFunc_int__clus_without_1 N) N
theorem con_clus_without_ok (N : Nat) : (u_clus_without.con (W_clus_without N)).ok P0 := Uf.ok mixed (q_clus_without (W_slices_Clone_int N) (W_slices_DeleteFunc_int__clus_without_1 N) N) ⟨con_slices_Clone_int_ok N, con_slices_DeleteFunc_int__clus_without_1_ok N, trivial⟩ Tryz.func289 (by kernel_rfl) fun x y => by kernel_rfl
noncomputable def u_mid_Near : Uf := ⟨142, 31, Tryz.f142, [.val (.list (.list (.int .i64))), .val (.int .i64), .val (.list (.int .i64))], [],
⟨[(6, .val (.int .i64))], []⟩, [],
[(3, .loop [12] ⟨[(7, .val (.alt 270 (.agg .unit) (.alt1 332 (.agg T6_)))), (14, .val (.int .i64))], []⟩ [(.exit 0, ⟨[(7, .val (.alt 270 (.agg .unit) (.alt1 332 (.agg T6_))))], []⟩)])],
[], fun y => (valW (.int .i64) y, [], [])⟩
noncomputable def V_mid_Near (w_mid_between : List (List Int) × Int × Int → Option (Int)) (w_mid_better : (Unit ⊕ (Int × Int)) × Int × Int → Option (Int × Int)) (w_mid_who : Unit ⊕ (Int × Int) → Option (Int)) (N : Nat) (x : List (List Int) × Int × List Int) : Option (Int) :=
  obind (loopN N (fun (v : (PUnit ⊕ Int × Int) × Int) => cnd (decide (v.2 < (↑(List.length x.2.2) : Int))) (cnd (decide ((0:Int) ≤ v.2) && decide (v.2 <
    (↑(List.length x.2.2) : Int))) (cnd (decide (List.getD x.2.2 (Int.toNat v.2) (0:Int) ≠ x.2.1)) (obind (w_mid_between (x.1, x.2.1, List.getD x.2.2
    (Int.toNat v.2) (0:Int))) fun b => obind (w_mid_better (v.1, List.getD x.2.2 (Int.toNat v.2) (0:Int), b)) fun b => some (Sum.inl (Sum.inr b, wr
    .i64 (v.2 + (1:Int))))) (some (Sum.inl (v.1, wr .i64 (v.2 + (1:Int)))))) none) (some (Sum.inr v.1))) (Sum.inl (), (0:Int))) fun (b : PUnit ⊕ Int × Int) => obind (w_mid_who b) fun b => some b
theorem q_mid_Near : ∀ w_mid_between w_mid_better w_mid_who N x, u_mid_Near.F L0 P0 (orcOf [u_mid_between.con w_mid_between, u_mid_better.con w_mid_better, u_mid_who.con w_mid_who]) N x = V_mid_Near w_mid_between w_mid_better w_mid_who N x := by intros; kernel_rfl
noncomputable def W_mid_Near (N : Nat) := V_mid_Near (W_mid_between N) (W_mid_better N) (W_mid_who N) N
theorem con_mid_Near_ok (N : Nat) : (u_mid_Near.con (W_mid_Near N)).ok P0 := Uf.ok mixed (q_mid_Near (W_mid_between N) (W_mid_better N) (W_mid_who N) N) ⟨con_mid_between_ok N, con_mid_better_ok N, con_mid_who_ok N, trivial⟩ Tryz.func142 (by kernel_rfl) fun x y => by kernel_rfl
noncomputable def u_clus_with : Uf := ⟨141, 13, Tryz.f141, [.val (.list (.int .i64)), .val (.list (.int .i64))], [],
⟨[(4, .val (.list (.int .i64)))], []⟩, [],
[],
[], fun y => (valW (.list (.int .i64)) y, [], [])⟩
noncomputable def V_clus_with (w_slices_Clone_int : List Int → Option (List Int)) (w_slices_Sort_int : List Int → Option (List Int)) (N : Nat) (x : List Int × List Int) : Option (List Int) :=
  obind (w_slices_Clone_int x.1) fun b => cnd (decide ((List.length b + List.length x.2) * (8:Nat) ≤ (140737488355328:Nat))) (obind (w_slices_Sort_int (b ++ x.2)) fun b_1 => cnd (decide (List.length b_1 = List.length (b ++ x.2))) (some b_1) none) none
theorem q_clus_with : ∀ w_slices_Clone_int w_slices_Sort_int N x, u_clus_with.F L0 P0 (orcOf [conw_slices_Clone_int w_slices_Clone_int, conw_slices_Sort_int w_slices_Sort_int]) N x = V_clus_with w_slices_Clone_int w_slices_Sort_int N x := by intros; kernel_rfl
noncomputable def W_clus_with (N : Nat) := V_clus_with (W_slices_Clone_int N) (W_slices_Sort_int N) N
theorem con_clus_with_ok (N : Nat) : (u_clus_with.con (W_clus_with N)).ok P0 := Uf.ok mixed (q_clus_with (W_slices_Clone_int N) (W_slices_Sort_int N) N) ⟨con_slices_Clone_int_ok N, con_slices_Sort_int_ok N, trivial⟩ Tryz.func141 (by kernel_rfl) fun x y => by kernel_rfl
noncomputable def u_clus_fill : Uf := ⟨273, 40, Tryz.f273, [.val (.list (.list (.int .i64))), .val (.agg T6_), .val (.list (.int .i64)), .val (.list (.int .i64)), .val (.int .i64)], [],
⟨[(10, .val (.list (.int .i64))), (11, .val (.list (.int .i64)))], []⟩, [],
[(1, .loop [] ⟨[(2, .val (.list (.int .i64))), (3, .val (.list (.int .i64))), (6, .ptr 600006 0)], [(600006, .box 327 (.val T6_))]⟩ [(.exit 0, ⟨[(2, .val (.list (.int .i64))), (3, .val (.list (.int .i64)))], []⟩)])],
[], fun y => (.tup [valW (.list (.int .i64)) y.1, valW (.list (.int .i64)) y.2], [], [])⟩
noncomputable def V_clus_fill (w_clus_without : List Int × Int → Option (List Int)) (w_mid_Near : List (List Int) × Int × List Int → Option (Int)) (w_clus_with : List Int × List Int → Option (List Int)) (N : Nat) (x : List (List Int) × (Int × Int) × List Int × List Int × Int) : Option (List Int × List Int) :=
  obind (loopN N (fun (v : List Int × List Int × Int × Int) => cnd (decide ((↑(List.length v.1) : Int) < x.2.2.2.2)) (cnd (decide (x.2.2.2.2 <
    (↑(List.length v.2.1) : Int))) (obind (w_clus_without (v.2.1, v.2.2.2)) fun b => obind (w_mid_Near (x.1, v.2.2.1, b)) fun b => obind
    (w_clus_with (v.1, [b])) fun b_1 => obind (w_clus_without (v.2.1, b)) fun b => some (Sum.inl (b_1, b, v.2.2))) (some (Sum.inr (v.1, v.2.1))))
    (some (Sum.inr (v.1, v.2.1)))) (x.2.2.1, x.2.2.2.1, x.2.1)) fun (b : List Int × List Int) => some b
theorem q_clus_fill : ∀ w_clus_without w_mid_Near w_clus_with N x, u_clus_fill.F L0 P0 (orcOf [u_clus_without.con w_clus_without, u_mid_Near.con w_mid_Near, u_clus_with.con w_clus_with]) N x = V_clus_fill w_clus_without w_mid_Near w_clus_with N x := by intros; kernel_rfl
noncomputable def W_clus_fill (N : Nat) := V_clus_fill (W_clus_without N) (W_mid_Near N) (W_clus_with N) N
theorem con_clus_fill_ok (N : Nat) : (u_clus_fill.con (W_clus_fill N)).ok P0 := Uf.ok mixed (q_clus_fill (W_clus_without N) (W_mid_Near N) (W_clus_with N) N) ⟨con_clus_without_ok N, con_mid_Near_ok N, con_clus_with_ok N, trivial⟩ Tryz.func273 (by kernel_rfl) fun x y => by kernel_rfl
noncomputable def u_clus_Split : Uf := ⟨211, 85, Tryz.f211, [.val (.list (.list (.int .i64))), .val (.list (.int .i64)), .val (.int .i64)], [],
⟨[(6, .val (.list (.int .i64))), (7, .val (.list (.int .i64)))], []⟩, [],
[(5, .loop [23] ⟨[(6, .acc 700082), (7, .acc 700081), (8, .ptr 600008 0), (25, .val (.int .i64))], [(700082, .nrow 3 (.int .i64) true true), (700081, .nrow 3 (.int .i64) true true), (600008, .box 327 (.val T6_))]⟩ [(.exit 0, ⟨[(6, .val (.list (.int .i64))), (7, .val (.list (.int .i64))), (8, .ptr 600008 0)], [(600008, .box 327 (.val T6_))]⟩)])],
[], fun y => (.tup [valW (.list (.int .i64)) y.1, valW (.list (.int .i64)) y.2], [], [])⟩
noncomputable def V_clus_Split (w_clus_farthest : List (List Int) × List Int → Option ((Int × Int) ⊕ Unit)) (w_slices_Clone_int : List Int → Option (List Int)) (w_clus_apart : List (List Int) × Int × Int → Option (Int)) (w_clus_fill : List (List Int) × (Int × Int) × List Int × List Int × Int → Option (List Int × List Int)) (N : Nat) (x : List (List Int) × List Int × Int) : Option (List Int × List Int) :=
  obind (w_clus_farthest (x.1, x.2.1)) fun b => selim (fun (b : Int × Int) => obind (loopN N (fun (v : Int × List Int × List Int × Int × Int) => cnd
    (decide (v.1 < (↑(List.length x.2.1) : Int))) (cnd (decide ((0:Int) ≤ v.1) && decide (v.1 < (↑(List.length x.2.1) : Int))) (cnd (decide (List.getD
    x.2.1 (Int.toNat v.1) (0:Int) = v.2.2.2.1)) (cnd (decide ((List.length v.2.1 + List.length [List.getD x.2.1 (Int.toNat v.1) (0:Int)]) * (8:Nat) ≤
    (140737488355328:Nat))) (some (Sum.inl (wr .i64 (v.1 + (1:Int)), v.2.1 ++ [List.getD x.2.1 (Int.toNat v.1) (0:Int)], v.2.2))) none) (cnd (decide
    (List.getD x.2.1 (Int.toNat v.1) (0:Int) ≠ v.2.2.2.2)) (obind (w_clus_apart (x.1, List.getD x.2.1 (Int.toNat v.1) (0:Int), v.2.2.2.1)) fun b =>
    obind (w_clus_apart (x.1, List.getD x.2.1 (Int.toNat v.1) (0:Int), v.2.2.2.2)) fun b_1 => cnd (decide (b ≤ b_1)) (cnd (decide ((List.length v.2.1
    + List.length [List.getD x.2.1 (Int.toNat v.1) (0:Int)]) * (8:Nat) ≤ (140737488355328:Nat))) (some (Sum.inl (wr .i64 (v.1 + (1:Int)), v.2.1 ++
    [List.getD x.2.1 (Int.toNat v.1) (0:Int)], v.2.2))) none) (cnd (decide ((List.length v.2.2.1 + List.length [List.getD x.2.1 (Int.toNat v.1)
    (0:Int)]) * (8:Nat) ≤ (140737488355328:Nat))) (some (Sum.inl (wr .i64 (v.1 + (1:Int)), v.2.1, v.2.2.1 ++ [List.getD x.2.1 (Int.toNat v.1) (0:Int)],
    v.2.2.2))) none)) (cnd (decide ((List.length v.2.2.1 + List.length [List.getD x.2.1 (Int.toNat v.1) (0:Int)]) * (8:Nat) ≤ (140737488355328:Nat)))
    (some (Sum.inl (wr .i64 (v.1 + (1:Int)), v.2.1, v.2.2.1 ++ [List.getD x.2.1 (Int.toNat v.1) (0:Int)], v.2.2.2))) none))) none) (some (Sum.inr v.2)))
    ((0:Int), [], [], b)) fun (b : List Int × List Int × Int × Int) => obind (w_clus_fill (x.1, b.2.2, b.1, b.2.1, x.2.2)) fun b_1 => obind
    (w_clus_fill (x.1, (b.2.2.2, b.2.2.1), b_1.2, b_1.1, x.2.2)) fun b => some (b.2, b.1)) (fun (c : PUnit) => obind (w_slices_Clone_int x.2.1) fun
    b => some (b, [])) b
theorem q_clus_Split : ∀ w_clus_farthest w_slices_Clone_int w_clus_apart w_clus_fill N x, u_clus_Split.F L0 P0 (orcOf [u_clus_farthest.con w_clus_farthest, conw_slices_Clone_int w_slices_Clone_int, u_clus_apart.con w_clus_apart, u_clus_fill.con w_clus_fill]) N x = V_clus_Split w_clus_farthest w_slices_Clone_int w_clus_apart w_clus_fill N x := by intros; kernel_rfl
noncomputable def W_clus_Split (N : Nat) := V_clus_Split (W_clus_farthest N) (W_slices_Clone_int N) (W_clus_apart N) (W_clus_fill N) N
theorem con_clus_Split_ok (N : Nat) : (u_clus_Split.con (W_clus_Split N)).ok P0 := Uf.ok mixed (q_clus_Split (W_clus_farthest N) (W_slices_Clone_int N) (W_clus_apart N) (W_clus_fill N) N) ⟨con_clus_farthest_ok N, con_slices_Clone_int_ok N, con_clus_apart_ok N, con_clus_fill_ok N, trivial⟩ Tryz.func211 (by kernel_rfl) fun x y => by kernel_rfl
noncomputable def u_clus_fitted : Uf := ⟨140, 40, Tryz.f140, [.val (.list (.list (.int .i64))), .val (.list (.int .i64)), .val (.int .i64)], [],
⟨[(6, .acc 700039)], [(700039, .nrow 137 T4_ false true)]⟩, [],
[],
[], fun y => (.acc 2000000 0, [], [.nrow 137 false true ⟨T4_, y⟩])⟩
noncomputable def V_clus_fitted (w_clus_Of : List (List Int) × List Int → Option (List Int × Int)) (w_clus_Split : List (List Int) × List Int × Int → Option (List Int × List Int)) (N : Nat) (x : List (List Int) × List Int × Int) : Option (List (List Int × Int)) :=
  cnd (decide ((↑(List.length x.2.1) : Int) ≤ wr .i64 (wr .i64 ((3:Int) * x.2.2) - (1:Int)))) (obind (w_clus_Of (x.1, x.2.1)) fun b => some [b])
    (obind (w_clus_Split x) fun b => cnd (decide ((↑(List.length b.2) : Int) = (0:Int))) (obind (w_clus_Of (x.1, b.1)) fun b => some [b]) (obind
    (w_clus_Of (x.1, b.1)) fun b_1 => obind (w_clus_Of (x.1, b.2)) fun b => some [b_1, b]))
theorem q_clus_fitted : ∀ w_clus_Of w_clus_Split N x, u_clus_fitted.F L0 P0 (orcOf [u_clus_Of.con w_clus_Of, u_clus_Split.con w_clus_Split]) N x = V_clus_fitted w_clus_Of w_clus_Split N x := by intros; kernel_rfl
noncomputable def W_clus_fitted (N : Nat) := V_clus_fitted (W_clus_Of N) (W_clus_Split N) N
theorem con_clus_fitted_ok (N : Nat) : (u_clus_fitted.con (W_clus_fitted N)).ok P0 := Uf.ok mixed (q_clus_fitted (W_clus_Of N) (W_clus_Split N) N) ⟨con_clus_Of_ok N, con_clus_Split_ok N, trivial⟩ Tryz.func140 (by kernel_rfl) fun x y => by kernel_rfl
def as_clus_Group : List AS := [.val (.list (.list (.int .i64))), .val (.list (.int .i64)), .val (.int .i64)]
def bs_clus_Group : List BS := []
def out_clus_Group (y : List (List Int × Int)) : V × List OK × List OK := (.acc 2000000 0, [], [.nrow 137 true true ⟨T4_, y⟩])
noncomputable def conw_clus_Group (w : List (List Int) × List Int × Int → Option (List (List Int × Int))) : Con := ⟨135, as_clus_Group, bs_clus_Group, List (List Int × Int), w, out_clus_Group⟩
def pout_clus_Group : Pat := ⟨[(6, .acc 700025)], [(700025, .nrow 137 T4_ true true)]⟩
noncomputable def G_clus_Group (w_clus_fitted : List (List Int) × List Int × Int → Option (List (List Int × Int))) (w_clus_Group : List (List Int) × List Int × Int → Option (List (List Int × Int))) (N : Nat) : OrcT := orcOf [u_clus_fitted.con w_clus_fitted, conw_clus_Group w_clus_Group]
noncomputable def F_clus_Group (w_clus_fitted : List (List Int) × List Int × Int → Option (List (List Int × Int))) (w_clus_Group : List (List Int) × List Int × Int → Option (List (List Int × Int))) (N : Nat) (x : List (List Int) × List Int × Int) : Option (List (List Int × Int)) :=
  (evT (G_clus_Group w_clus_fitted w_clus_Group N) L0 P0 []
    [] N 400 (bodyOf Tryz.f135) ⟨34, slots 0 (argsOf as_clus_Group bs_clus_Group x), tabU (lbOf as_clus_Group bs_clus_Group x) [], []⟩).elim (kRet 34 pout_clus_Group (kpL []) (lbOf as_clus_Group bs_clus_Group x))
noncomputable def V_clus_Group (w_clus_fitted : List (List Int) × List Int × Int → Option (List (List Int × Int))) (w_clus_Group : List (List Int) × List Int × Int → Option (List (List Int × Int))) (N : Nat) (x : List (List Int) × List Int × Int) : Option (List (List Int × Int)) :=
  cnd (decide ((↑(List.length x.2.1) : Int) = (0:Int))) (some []) (obind (w_clus_fitted x) fun b => cnd (decide ((↑(List.length b) : Int) = (1:Int)))
    (some b) (cnd (decide ((0:Int) ≤ (0:Int)) && decide ((0:Int) < (↑(List.length b) : Int))) (obind (w_clus_Group (x.1, Prod.fst (List.getD b (0:Nat)
    ([], (0:Int))), x.2.2)) fun b_1 => cnd (decide ((0:Int) ≤ (1:Int)) && decide ((1:Int) < (↑(List.length b) : Int))) (obind (w_clus_Group (x.1,
    Prod.fst (List.getD b (1:Nat) ([], (0:Int))), x.2.2)) fun b => cnd (decide ((List.length b_1 + List.length b) * (32:Nat) ≤ (140737488355328:Nat)))
    (some (b_1 ++ b)) none) none) none))
theorem FV_clus_Group_eq (w_clus_fitted : List (List Int) × List Int × Int → Option (List (List Int × Int))) (w_clus_Group : List (List Int) × List Int × Int → Option (List (List Int × Int))) (N : Nat) (x : List (List Int) × List Int × Int) : F_clus_Group w_clus_fitted w_clus_Group N x = V_clus_Group w_clus_fitted w_clus_Group N x := by kernel_rfl
noncomputable def WR_clus_Group (N : Nat) : Nat → (List (List Int) × List Int × Int) → Option (List (List Int × Int)) := fun m => Nat.rec (motive := fun _ => (List (List Int) × List Int × Int) → Option (List (List Int × Int))) (fun _ => none) (fun _ w_clus_Group x =>
  cnd (decide ((↑(List.length x.2.1) : Int) = (0:Int))) (some []) (obind (W_clus_fitted N x) fun b => cnd (decide ((↑(List.length b) : Int) = (1:Int)))
    (some b) (cnd (decide ((0:Int) ≤ (0:Int)) && decide ((0:Int) < (↑(List.length b) : Int))) (obind (w_clus_Group (x.1, Prod.fst (List.getD b (0:Nat)
    ([], (0:Int))), x.2.2)) fun b_1 => cnd (decide ((0:Int) ≤ (1:Int)) && decide ((1:Int) < (↑(List.length b) : Int))) (obind (w_clus_Group (x.1,
    Prod.fst (List.getD b (1:Nat) ([], (0:Int))), x.2.2)) fun b => cnd (decide ((List.length b_1 + List.length b) * (32:Nat) ≤ (140737488355328:Nat)))
    (some (b_1 ++ b)) none) none) none))) m
noncomputable def W_clus_Group (N : Nat) (x : List (List Int) × List Int × Int) : Option (List (List Int × Int)) := WR_clus_Group N N x
theorem F_clus_Group_eq (N m : Nat) (x : List (List Int) × List Int × Int) : F_clus_Group (W_clus_fitted N) (WR_clus_Group N m) N x = WR_clus_Group N (m + 1) x := (FV_clus_Group_eq (W_clus_fitted N) (WR_clus_Group N m) N x).trans (by kernel_rfl)
noncomputable def con_clus_Group (N : Nat) : Con := conw_clus_Group (W_clus_Group N)
theorem R_clus_Group_eq (x : List (List Int) × List Int × Int) (y : List (List Int × Int)) : retOf2 P0 Tryz.f135 (kpL []) (lbOf as_clus_Group bs_clus_Group x) (patS ⟨34, [], [], []⟩ pout_clus_Group y) = some (out_clus_Group y) := by kernel_rfl
theorem con_clus_Group_okR (N : Nat) : ∀ m, Con.ok P0 (conw_clus_Group (WR_clus_Group N m))
  | 0 => ⟨⟨Tryz.f135, Tryz.func135, by kernel_rfl, by kernel_rfl⟩, fun (x : List (List Int) × List Int × Int) (r : List (List Int × Int)) (hr : (none : Option (List (List Int × Int))) = some r) => by cases hr⟩
  | m + 1 => ⟨⟨Tryz.f135, Tryz.func135, by kernel_rfl, by kernel_rfl⟩, fun (x : List (List Int) × List Int × Int) (r : List (List Int × Int)) (hr : WR_clus_Group N (m + 1) x = some r) =>
    spec2_evT (Γ := G_clus_Group (W_clus_fitted N) (WR_clus_Group N m) N) (Λ := L0) (pout := pout_clus_Group) (kp := kpL []) mixed (orcOf_ok _ (by simp only [List.mem_cons, List.not_mem_nil, or_false, forall_eq_or_imp, forall_eq]; exact ⟨con_clus_fitted_ok N, con_clus_Group_okR N m⟩)) Tryz.func135 (c := bodyOf Tryz.f135) (by kernel_rfl) (by kernel_rfl) (of_decide_eq_true (by kernel_rfl)) ((F_clus_Group_eq N m x).trans hr) (R_clus_Group_eq x r)⟩
theorem con_clus_Group_ok (N : Nat) : Con.ok P0 (con_clus_Group N) := con_clus_Group_okR N N
noncomputable def u_hier_rise : Uf := ⟨67, 28, Tryz.f67, [.val (.agg T2_), .val (.list T4_)], [],
⟨[(4, .val (.list (.list T4_)))], []⟩, [],
[(5, .loop [] ⟨[(2, .ptr 600002 0), (5, .acc 700011), (6, .val (.list T4_))], [(600002, .box 35 (.val T2_)), (700011, .nrow 133 (.list T4_) true true)]⟩ [(.exit 0, ⟨[(5, .val (.list (.list T4_)))], []⟩)])],
[(6, .cut [] [(.normal, ⟨[(2, .ptr 600002 0), (5, .acc 700011), (6, .val (.list T4_))], [(600002, .box 35 (.val T2_)), (700011, .nrow 133 (.list T4_) true true)]⟩)])], fun y => (valW (.list (.list T4_)) y, [], [])⟩
noncomputable def V_hier_rise (w_hier_leaders : List (List Int × Int) → Option (List Int)) (w_clus_Group : List (List Int) × List Int × Int → Option (List (List Int × Int))) (N : Nat) (x : A1_ × List (List Int × Int)) : Option A6_ :=
  cnd (decide ((↑(List.length x.2) : Int) = (0:Int))) (some []) (obind (loopN N (fun (v : List (List Int × Int) × A1_ × A6_) => cnd (decide ((1:Int) < (↑(List.length v.1) : Int))) (obind (obind (w_hier_leaders v.1) fun b
    => obind (w_clus_Group (v.2.1.2.1, b, v.2.1.1)) fun b => some (b, v.2)) fun (b : List (List Int × Int) × A1_ × A6_) => cnd (decide ((List.length b.2.2 + List.length [b.1]) * (24:Nat) ≤ (140737488355328:Nat))) (some
    (Sum.inl (b.1, b.2.1, b.2.2 ++ [b.1]))) none) (some (Sum.inr v.2.2))) (x.2, x.1, [x.2])) fun (b : A6_) => some b)
theorem q_hier_rise : ∀ w_hier_leaders w_clus_Group N x, u_hier_rise.F L0 P0 (orcOf [u_hier_leaders.con w_hier_leaders, conw_clus_Group w_clus_Group]) N x = V_hier_rise w_hier_leaders w_clus_Group N x := by intros; kernel_rfl
noncomputable def W_hier_rise (N : Nat) := V_hier_rise (W_hier_leaders N) (W_clus_Group N) N
theorem con_hier_rise_ok (N : Nat) : (u_hier_rise.con (W_hier_rise N)).ok P0 := Uf.ok mixed (q_hier_rise (W_hier_leaders N) (W_clus_Group N) N) ⟨con_hier_leaders_ok N, con_clus_Group_ok N, trivial⟩ Tryz.func67 (by kernel_rfl) fun x y => by kernel_rfl
noncomputable def u_slices_Equal_int : Uf := ⟨125, 26, Tryz.f125, [.val (.list (.int .i64)), .val (.list (.int .i64))], [],
⟨[(4, .val .bool)], []⟩, [],
[(4, .loop [] ⟨[(13, .val (.int .i64))], []⟩ [(.exit 0, ⟨[], []⟩), (.ret, ⟨[(4, .val .bool)], []⟩)])],
[], fun y => (valW .bool y, [], [])⟩
noncomputable def V_slices_Equal_int (N : Nat) (x : List Int × List Int) : Option (Bool) :=
  cnd (decide ((↑(List.length x.1) : Int) ≠ (↑(List.length x.2) : Int))) (some false) (obind (loopN N (fun (v : Int) => cnd (decide (v < (↑(List.length
    x.1) : Int))) (cnd (decide ((0:Int) ≤ v) && decide (v < (↑(List.length x.1) : Int))) (cnd (decide ((0:Int) ≤ v) && decide (v < (↑(List.length x.2) :
    Int))) (cnd (decide (List.getD x.1 (Int.toNat v) (0:Int) ≠ List.getD x.2 (Int.toNat v) (0:Int))) (some (Sum.inr (Sum.inr false))) (some (Sum.inl (wr
    .i64 (v + (1:Int)))))) none) none) (some (Sum.inr (Sum.inl ())))) (Int.ofNat (0:Nat))) fun (b : PUnit ⊕ Bool) => selim (fun (b : PUnit) => some
    true) (fun (c : Bool) => some c) b)
theorem q_slices_Equal_int : ∀ N x, u_slices_Equal_int.F L0 P0 (orcOf []) N x = V_slices_Equal_int N x := by intros; kernel_rfl
noncomputable def W_slices_Equal_int (N : Nat) := V_slices_Equal_int N
theorem con_slices_Equal_int_ok (N : Nat) : (u_slices_Equal_int.con (W_slices_Equal_int N)).ok P0 := Uf.ok mixed (q_slices_Equal_int N) trivial Tryz.func125 (by kernel_rfl) fun x y => by kernel_rfl
noncomputable def u_hier_likeLevel_1 : Uf := ⟨149, 17, Tryz.f149, [.val T4_, .val T4_], [],
⟨[(4, .val .bool)], []⟩, [],
[],
[], fun y => (valW .bool y, [], [])⟩
noncomputable def V_hier_likeLevel_1 (w_slices_Equal_int : List Int × List Int → Option (Bool)) (N : Nat) (x : (List Int × Int) × List Int × Int) : Option (Bool) :=
  cnd (decide (x.1.2 = x.2.2)) (obind (w_slices_Equal_int (x.1.1, x.2.1)) fun b => some b) (some false)
theorem q_hier_likeLevel_1 : ∀ w_slices_Equal_int N x, u_hier_likeLevel_1.F L0 P0 (orcOf [u_slices_Equal_int.con w_slices_Equal_int]) N x = V_hier_likeLevel_1 w_slices_Equal_int N x := by intros; kernel_rfl
noncomputable def W_hier_likeLevel_1 (N : Nat) := V_hier_likeLevel_1 (W_slices_Equal_int N) N
theorem con_hier_likeLevel_1_ok (N : Nat) : (u_hier_likeLevel_1.con (W_hier_likeLevel_1 N)).ok P0 := Uf.ok mixed (q_hier_likeLevel_1 (W_slices_Equal_int N) N) ⟨con_slices_Equal_int_ok N, trivial⟩ Tryz.func149 (by kernel_rfl) fun x y => by kernel_rfl
noncomputable def u_slices_EqualFunc_api_Cluster__hier_likeLevel_1 : Uf := ⟨148, 32, Tryz.f148, [.val (.list T4_), .val (.list T4_), .fn 149 []], [],
⟨[(2, .fn 149 []), (6, .val .bool)], []⟩, [],
[(4, .loop [15] ⟨[(17, .val (.int .i64))], []⟩ [(.exit 0, ⟨[], []⟩), (.ret, ⟨[(6, .val .bool)], []⟩)])],
[], fun y => (valW .bool y, [], [])⟩
noncomputable def V_slices_EqualFunc_api_Cluster__hier_likeLevel_1 (w_hier_likeLevel_1 : (List Int × Int) × List Int × Int → Option (Bool)) (N : Nat) (x : List (List Int × Int) × List (List Int × Int)) : Option (Bool) :=
  cnd (decide ((↑(List.length x.1) : Int) ≠ (↑(List.length x.2) : Int))) (some false) (obind (loopN N (fun (v : Int) => cnd (decide (v < (↑(List.length
    x.1) : Int))) (cnd (decide ((0:Int) ≤ v) && decide (v < (↑(List.length x.1) : Int))) (cnd (decide ((0:Int) ≤ v) && decide (v < (↑(List.length x.2) :
    Int))) (obind (w_hier_likeLevel_1 (List.getD x.1 (Int.toNat v) ([], (0:Int)), List.getD x.2 (Int.toNat v) ([], (0:Int)))) fun b => cnd (!b) (some
    (Sum.inr (Sum.inr false))) (some (Sum.inl (wr .i64 (v + (1:Int)))))) none) none) (some (Sum.inr (Sum.inl ())))) (Int.ofNat (0:Nat))) fun (b : PUnit
    ⊕ Bool) => selim (fun (b : PUnit) => some true) (fun (c : Bool) => some c) b)
theorem q_slices_EqualFunc_api_Cluster__hier_likeLevel_1 : ∀ w_hier_likeLevel_1 N x, u_slices_EqualFunc_api_Cluster__hier_likeLevel_1.F L0 P0 (orcOf [u_hier_likeLevel_1.con w_hier_likeLevel_1]) N x = V_slices_EqualFunc_api_Cluster__hier_likeLevel_1 w_hier_likeLevel_1 N x := by intros; kernel_rfl
noncomputable def W_slices_EqualFunc_api_Cluster__hier_likeLevel_1 (N : Nat) := V_slices_EqualFunc_api_Cluster__hier_likeLevel_1 (W_hier_likeLevel_1 N) N
theorem con_slices_EqualFunc_api_Cluster__hier_likeLevel_1_ok (N : Nat) : (u_slices_EqualFunc_api_Cluster__hier_likeLevel_1.con (W_slices_EqualFunc_api_Cluster__hier_likeLevel_1 N)).ok P0 := Uf.ok mixed (q_slices_EqualFunc_api_Cluster__hier_likeLevel_1 (W_hier_likeLevel_1 N) N) ⟨con_hier_likeLevel_1_ok N, trivial⟩ Tryz.func148 (by kernel_rfl) fun x y => by kernel_rfl
noncomputable def u_hier_likeLevel : Uf := ⟨75, 8, Tryz.f75, [.val (.list T4_), .val (.list T4_)], [],
⟨[(4, .val .bool)], []⟩, [],
[],
[], fun y => (valW .bool y, [], [])⟩
noncomputable def V_hier_likeLevel (w_slices_EqualFunc_api_Cluster__hier_likeLevel_1 : List (List Int × Int) × List (List Int × Int) → Option (Bool)) (N : Nat) (x : List (List Int × Int) × List (List Int × Int)) : Option (Bool) :=
  obind (w_slices_EqualFunc_api_Cluster__hier_likeLevel_1 x) fun b => some b
theorem q_hier_likeLevel : ∀ w_slices_EqualFunc_api_Cluster__hier_likeLevel_1 N x, u_hier_likeLevel.F L0 P0 (orcOf [u_slices_EqualFunc_api_Cluster__hier_likeLevel_1.con w_slices_EqualFunc_api_Cluster__hier_likeLevel_1]) N x = V_hier_likeLevel w_slices_EqualFunc_api_Cluster__hier_likeLevel_1 N x := by intros; kernel_rfl
noncomputable def W_hier_likeLevel (N : Nat) := V_hier_likeLevel (W_slices_EqualFunc_api_Cluster__hier_likeLevel_1 N) N
theorem con_hier_likeLevel_ok (N : Nat) : (u_hier_likeLevel.con (W_hier_likeLevel N)).ok P0 := Uf.ok mixed (q_hier_likeLevel (W_slices_EqualFunc_api_Cluster__hier_likeLevel_1 N) N) ⟨con_slices_EqualFunc_api_Cluster__hier_likeLevel_1_ok N, trivial⟩ Tryz.func75 (by kernel_rfl) fun x y => by kernel_rfl
noncomputable def u_slices_EqualFunc_Lapi_Cluster__hier_likeLevel : Uf := ⟨74, 32, Tryz.f74, [.val (.list (.list T4_)), .val (.list (.list T4_)), .fn 75 []], [],
⟨[(2, .fn 75 []), (6, .val .bool)], []⟩, [],
[(4, .loop [15] ⟨[(17, .val (.int .i64))], []⟩ [(.exit 0, ⟨[], []⟩), (.ret, ⟨[(6, .val .bool)], []⟩)])],
[], fun y => (valW .bool y, [], [])⟩
noncomputable def V_slices_EqualFunc_Lapi_Cluster__hier_likeLevel (w_hier_likeLevel : List (List Int × Int) × List (List Int × Int) → Option (Bool)) (N : Nat) (x : List (List (List Int × Int)) × A6_) : Option (Bool) :=
  cnd (decide ((↑(List.length x.1) : Int) ≠ (↑(List.length x.2) : Int))) (some false) (obind (loopN N (fun (v : Int) => cnd (decide (v < (↑(List.length
    x.1) : Int))) (cnd (decide ((0:Int) ≤ v) && decide (v < (↑(List.length x.1) : Int))) (cnd (decide ((0:Int) ≤ v) && decide (v < (↑(List.length x.2) :
    Int))) (obind (w_hier_likeLevel (List.getD x.1 (Int.toNat v) [], List.getD x.2 (Int.toNat v) [])) fun b => cnd (!b) (some (Sum.inr (Sum.inr
    false))) (some (Sum.inl (wr .i64 (v + (1:Int)))))) none) none) (some (Sum.inr (Sum.inl ())))) (Int.ofNat (0:Nat))) fun (b : PUnit ⊕ Bool) => selim
    (fun (b : PUnit) => some true) (fun (c : Bool) => some c) b)
theorem q_slices_EqualFunc_Lapi_Cluster__hier_likeLevel : ∀ w_hier_likeLevel N x, u_slices_EqualFunc_Lapi_Cluster__hier_likeLevel.F L0 P0 (orcOf [u_hier_likeLevel.con w_hier_likeLevel]) N x = V_slices_EqualFunc_Lapi_Cluster__hier_likeLevel w_hier_likeLevel N x := by intros; kernel_rfl
noncomputable def W_slices_EqualFunc_Lapi_Cluster__hier_likeLevel (N : Nat) := V_slices_EqualFunc_Lapi_Cluster__hier_likeLevel (W_hier_likeLevel N) N
theorem con_slices_EqualFunc_Lapi_Cluster__hier_likeLevel_ok (N : Nat) : (u_slices_EqualFunc_Lapi_Cluster__hier_likeLevel.con (W_slices_EqualFunc_Lapi_Cluster__hier_likeLevel N)).ok P0 := Uf.ok mixed (q_slices_EqualFunc_Lapi_Cluster__hier_likeLevel (W_hier_likeLevel N) N) ⟨con_hier_likeLevel_ok N, trivial⟩ Tryz.func74 (by kernel_rfl) fun x y => by kernel_rfl
noncomputable def u_hier_May : Uf := ⟨32, 18, Tryz.f32, [.val (.agg T2_)], [],
⟨[(2, .val .bool)], []⟩, [],
[],
[], fun y => (valW .bool y, [], [])⟩
noncomputable def V_hier_May (w_hier_begins : A1_ → Option (Bool)) (w_hier_grounded : A1_ → Option (Bool)) (w_hier_ground : A1_ → Option (List (List Int × Int))) (w_hier_rise : A1_ × List (List Int × Int) → Option A6_) (w_slices_EqualFunc_Lapi_Cluster__hier_likeLevel : List (List (List Int × Int)) × A6_ → Option (Bool)) (N : Nat) (x : A1_) : Option (Bool) :=
  obind (w_hier_begins x) fun b => cnd b (obind (w_hier_grounded x) fun b => cnd b (obind (w_hier_ground x) fun b => obind (w_hier_rise (x, b)) fun b => obind (w_slices_EqualFunc_Lapi_Cluster__hier_likeLevel (x.2.2, b)) fun b => some b) (some false)) (some false)
theorem q_hier_May : ∀ w_hier_begins w_hier_grounded w_hier_ground w_hier_rise w_slices_EqualFunc_Lapi_Cluster__hier_likeLevel N x, u_hier_May.F L0 P0 (orcOf [u_hier_begins.con w_hier_begins, u_hier_grounded.con w_hier_grounded, u_hier_ground.con w_hier_ground, u_hier_rise.con w_hier_rise, u_slices_EqualFunc_Lapi_Cluster__hier_likeLevel.con w_slices_EqualFunc_Lapi_Cluster__hier_likeLevel]) N x = V_hier_May w_hier_begins w_hier_grounded w_hier_ground w_hier_rise w_slices_EqualFunc_Lapi_Cluster__hier_likeLevel N x := by intros; kernel_rfl
noncomputable def W_hier_May (N : Nat) := V_hier_May (W_hier_begins N) (W_hier_grounded N) (W_hier_ground N) (W_hier_rise N) (W_slices_EqualFunc_Lapi_Cluster__hier_likeLevel N) N
theorem con_hier_May_ok (N : Nat) : (u_hier_May.con (W_hier_May N)).ok P0 := Uf.ok mixed (q_hier_May (W_hier_begins N) (W_hier_grounded N) (W_hier_ground N) (W_hier_rise N) (W_slices_EqualFunc_Lapi_Cluster__hier_likeLevel N) N) ⟨con_hier_begins_ok N, con_hier_grounded_ok N, con_hier_ground_ok N, con_hier_rise_ok N, con_slices_EqualFunc_Lapi_Cluster__hier_likeLevel_ok N, trivial⟩ Tryz.func32 (by kernel_rfl) fun x y => by kernel_rfl
noncomputable def u_slices_Index_int : Uf := ⟨215, 19, Tryz.f215, [.val (.list (.int .i64)), .val (.int .i64)], [],
⟨[(4, .val (.int .i64))], []⟩, [],
[(2, .loop [] ⟨[(8, .val (.int .i64))], []⟩ [(.exit 0, ⟨[], []⟩), (.ret, ⟨[(4, .val (.int .i64))], []⟩)])],
[], fun y => (valW (.int .i64) y, [], [])⟩
noncomputable def V_slices_Index_int (N : Nat) (x : List Int × Int) : Option (Int) :=
  obind (loopN N (fun (v : Int) => cnd (decide (v < (↑(List.length x.1) : Int))) (cnd (decide ((0:Int) ≤ v) && decide (v < (↑(List.length x.1) : Int)))
    (cnd (decide (x.2 = List.getD x.1 (Int.toNat v) (0:Int))) (some (Sum.inr (Sum.inr v))) (some (Sum.inl (wr .i64 (v + (1:Int)))))) none) (some
    (Sum.inr (Sum.inl ())))) (Int.ofNat (0:Nat))) fun (b : PUnit ⊕ Int) => selim (fun (b : PUnit) => some (-1 : Int)) (fun (c : Int) => some c) b
theorem q_slices_Index_int : ∀ N x, u_slices_Index_int.F L0 P0 (orcOf []) N x = V_slices_Index_int N x := by intros; kernel_rfl
noncomputable def W_slices_Index_int (N : Nat) := V_slices_Index_int N
theorem con_slices_Index_int_ok (N : Nat) : (u_slices_Index_int.con (W_slices_Index_int N)).ok P0 := Uf.ok mixed (q_slices_Index_int N) trivial Tryz.func215 (by kernel_rfl) fun x y => by kernel_rfl
noncomputable def u_slices_Contains_int : Uf := ⟨143, 9, Tryz.f143, [.val (.list (.int .i64)), .val (.int .i64)], [],
⟨[(4, .val .bool)], []⟩, [],
[],
[], fun y => (valW .bool y, [], [])⟩
noncomputable def V_slices_Contains_int (w_slices_Index_int : List Int × Int → Option (Int)) (N : Nat) (x : List Int × Int) : Option (Bool) :=
  obind (w_slices_Index_int x) fun b => some (decide ((0:Int) ≤ b))
theorem q_slices_Contains_int : ∀ w_slices_Index_int N x, u_slices_Contains_int.F L0 P0 (orcOf [u_slices_Index_int.con w_slices_Index_int]) N x = V_slices_Contains_int w_slices_Index_int N x := by intros; kernel_rfl
noncomputable def W_slices_Contains_int (N : Nat) := V_slices_Contains_int (W_slices_Index_int N) N
theorem con_slices_Contains_int_ok (N : Nat) : (u_slices_Contains_int.con (W_slices_Contains_int N)).ok P0 := Uf.ok mixed (q_slices_Contains_int (W_slices_Index_int N) N) ⟨con_slices_Index_int_ok N, trivial⟩ Tryz.func143 (by kernel_rfl) fun x y => by kernel_rfl
noncomputable def u_hier_find : Uf := ⟨71, 25, Tryz.f71, [.val (.list T4_), .val (.int .i64)], [],
⟨[(4, .val (.alt 139 (.agg (.pair (.int .i64) T4_)) (.alt1 214 (.agg .unit))))], []⟩, [],
[(2, .loop [7] ⟨[(9, .val (.int .i64))], []⟩ [(.exit 0, ⟨[], []⟩), (.ret, ⟨[(4, .val (.alt 139 (.agg (.pair (.int .i64) T4_)) (.alt1 214 (.agg .unit))))], []⟩)])],
[], fun y => (valW (.alt 139 (.agg (.pair (.int .i64) T4_)) (.alt1 214 (.agg .unit))) y, [], [])⟩
noncomputable def V_hier_find (w_slices_Contains_int : List Int × Int → Option (Bool)) (N : Nat) (x : List (List Int × Int) × Int) : Option ((Int × List Int × Int) ⊕ Unit) :=
  obind (loopN N (fun (v : Int) => cnd (decide (v < (↑(List.length x.1) : Int))) (cnd (decide ((0:Int) ≤ v) && decide (v < (↑(List.length x.1) : Int)))
    (obind (w_slices_Contains_int (Prod.fst (List.getD x.1 (Int.toNat v) ([], (0:Int))), x.2)) fun b => cnd b (some (Sum.inr (Sum.inr (Sum.inl (v,
    List.getD x.1 (Int.toNat v) ([], (0:Int))))))) (some (Sum.inl (wr .i64 (v + (1:Int)))))) none) (some (Sum.inr (Sum.inl ())))) (Int.ofNat (0:Nat)))
    fun (b : PUnit ⊕ Int × List Int × Int ⊕ PUnit) => selim (fun (b : PUnit) => some (Sum.inr ())) (fun (c : Int × List Int × Int ⊕ PUnit) => some c) b
theorem q_hier_find : ∀ w_slices_Contains_int N x, u_hier_find.F L0 P0 (orcOf [u_slices_Contains_int.con w_slices_Contains_int]) N x = V_hier_find w_slices_Contains_int N x := by intros; kernel_rfl
noncomputable def W_hier_find (N : Nat) := V_hier_find (W_slices_Contains_int N) N
theorem con_hier_find_ok (N : Nat) : (u_hier_find.con (W_hier_find N)).ok P0 := Uf.ok mixed (q_hier_find (W_slices_Contains_int N) N) ⟨con_slices_Contains_int_ok N, trivial⟩ Tryz.func71 (by kernel_rfl) fun x y => by kernel_rfl
noncomputable def u_hier_down : Uf := ⟨70, 46, Tryz.f70, [.val (.agg T2_), .val (.int .i64)], [],
⟨[(4, .val (.int .i64))], []⟩, [],
[(3, .loop [] ⟨[(2, .ptr 600002 0), (5, .val (.int .i64)), (6, .val (.int .i64))], [(600002, .box 35 (.val T2_))]⟩ [(.exit 0, ⟨[(5, .val (.int .i64))], []⟩)])],
[], fun y => (valW (.int .i64) y, [], [])⟩
noncomputable def V_hier_down (w_mid_Near : List (List Int) × Int × List Int → Option (Int)) (w_hier_find : List (List Int × Int) × Int → Option ((Int × List Int × Int) ⊕ Unit)) (N : Nat) (x : A1_ × Int) : Option (Int) :=
  obind (loopN N (fun (v : Int × Int × A1_) => cnd (decide ((0:Int) < v.2.1)) (cnd (decide ((0:Int) ≤
    v.2.1) && decide (v.2.1 < (↑(List.length v.2.2.2.2) : Int))) (cnd (decide ((0:Int) ≤ v.1) && decide (v.1 < (↑(List.length (List.getD v.2.2.2.2
    (Int.toNat v.2.1) [])) : Int))) (obind (w_mid_Near (v.2.2.2.1, x.2, Prod.fst (List.getD (List.getD v.2.2.2.2 (Int.toNat v.2.1) []) (Int.toNat v.1)
    ([], (0:Int))))) fun b => cnd (decide ((0:Int) ≤ wr .i64 (v.2.1 - (1:Int))) && decide (wr .i64 (v.2.1 - (1:Int)) < (↑(List.length v.2.2.2.2) :
    Int))) (obind (w_hier_find (List.getD v.2.2.2.2 (Int.toNat (wr .i64 (v.2.1 - (1:Int)))) [], b)) fun b => selim (fun (b : Int × List Int × Int) =>
    some (Sum.inl (b.1, wr .i64 (v.2.1 - (1:Int)), v.2.2))) (fun (c : PUnit) => some (Sum.inl ((0:Int), wr .i64 (v.2.1 - (1:Int)), v.2.2))) b) none)
    none) none) (some (Sum.inr v.1))) ((0:Int), wr .i64 ((↑(List.length x.1.2.2) : Int) - (1:Int)), x.1)) fun (b : Int) => some b
theorem q_hier_down : ∀ w_mid_Near w_hier_find N x, u_hier_down.F L0 P0 (orcOf [u_mid_Near.con w_mid_Near, u_hier_find.con w_hier_find]) N x = V_hier_down w_mid_Near w_hier_find N x := by intros; kernel_rfl
noncomputable def W_hier_down (N : Nat) := V_hier_down (W_mid_Near N) (W_hier_find N) N
theorem con_hier_down_ok (N : Nat) : (u_hier_down.con (W_hier_down N)).ok P0 := Uf.ok mixed (q_hier_down (W_mid_Near N) (W_hier_find N) N) ⟨con_mid_Near_ok N, con_hier_find_ok N, trivial⟩ Tryz.func70 (by kernel_rfl) fun x y => by kernel_rfl
noncomputable def u_clus_find : Uf := ⟨138, 24, Tryz.f138, [.val (.list T4_), .val (.int .i64)], [],
⟨[(4, .val (.alt 209 (.agg (.int .i64)) (.alt1 267 (.agg .unit))))], []⟩, [],
[(2, .loop [7] ⟨[(9, .val (.int .i64))], []⟩ [(.exit 0, ⟨[], []⟩), (.ret, ⟨[(4, .val (.alt 209 (.agg (.int .i64)) (.alt1 267 (.agg .unit))))], []⟩)])],
[], fun y => (valW (.alt 209 (.agg (.int .i64)) (.alt1 267 (.agg .unit))) y, [], [])⟩
noncomputable def V_clus_find (w_slices_Contains_int : List Int × Int → Option (Bool)) (N : Nat) (x : List (List Int × Int) × Int) : Option (Int ⊕ Unit) :=
  obind (loopN N (fun (v : Int) => cnd (decide (v < (↑(List.length x.1) : Int))) (cnd (decide ((0:Int) ≤ v) && decide (v < (↑(List.length x.1) : Int)))
    (obind (w_slices_Contains_int (Prod.fst (List.getD x.1 (Int.toNat v) ([], (0:Int))), x.2)) fun b => cnd b (some (Sum.inr (Sum.inr (Sum.inl v))))
    (some (Sum.inl (wr .i64 (v + (1:Int)))))) none) (some (Sum.inr (Sum.inl ())))) (Int.ofNat (0:Nat))) fun (b : PUnit ⊕ Int ⊕ PUnit) => selim (fun (b :
    PUnit) => some (Sum.inr ())) (fun (c : Int ⊕ PUnit) => some c) b
theorem q_clus_find : ∀ w_slices_Contains_int N x, u_clus_find.F L0 P0 (orcOf [u_slices_Contains_int.con w_slices_Contains_int]) N x = V_clus_find w_slices_Contains_int N x := by intros; kernel_rfl
noncomputable def W_clus_find (N : Nat) := V_clus_find (W_slices_Contains_int N) N
theorem con_clus_find_ok (N : Nat) : (u_clus_find.con (W_clus_find N)).ok P0 := Uf.ok mixed (q_clus_find (W_slices_Contains_int N) N) ⟨con_slices_Contains_int_ok N, trivial⟩ Tryz.func138 (by kernel_rfl) fun x y => by kernel_rfl
noncomputable def u_clus_replace : Uf := ⟨139, 40, Tryz.f139, [.val (.list (.list (.int .i64))), .val (.list T4_), .val (.int .i64), .val (.int .i64), .val (.list T4_)], [],
⟨[(10, .val (.list T4_))], []⟩, [],
[(3, .loop [14] ⟨[(11, .acc 700011), (16, .val (.int .i64))], [(700011, .nrow 137 T4_ true true)]⟩ [(.exit 0, ⟨[(11, .val (.list T4_))], []⟩)])],
[], fun y => (valW (.list T4_) y, [], [])⟩
noncomputable def V_clus_replace (w_clus_Of : List (List Int) × List Int → Option (List Int × Int)) (N : Nat) (x : List (List Int) × List (List Int × Int) × Int × Int × List (List Int × Int)) : Option (List (List Int × Int)) :=
  obind (loopN N (fun (v : Int × List (List Int × Int)) => cnd (decide (v.1 < (↑(List.length x.2.1) : Int))) (cnd (decide ((0:Int) ≤ v.1) && decide (v.1
    < (↑(List.length x.2.1) : Int))) (cnd (decide (v.1 = x.2.2.1)) (cnd (decide ((List.length v.2 + List.length x.2.2.2.2) * (32:Nat) ≤
    (140737488355328:Nat))) (some (Sum.inl (wr .i64 (v.1 + (1:Int)), v.2 ++ x.2.2.2.2))) none) (cnd (decide (v.1 = x.2.2.2.1)) (some (Sum.inl (wr .i64
    (v.1 + (1:Int)), v.2))) (obind (w_clus_Of (x.1, Prod.fst (List.getD x.2.1 (Int.toNat v.1) ([], (0:Int))))) fun b => cnd (decide ((List.length v.2
    + List.length [b]) * (32:Nat) ≤ (140737488355328:Nat))) (some (Sum.inl (wr .i64 (v.1 + (1:Int)), v.2 ++ [b]))) none))) none) (some (Sum.inr v.2)))
    ((0:Int), [])) fun (b : List (List Int × Int)) => some b
theorem q_clus_replace : ∀ w_clus_Of N x, u_clus_replace.F L0 P0 (orcOf [u_clus_Of.con w_clus_Of]) N x = V_clus_replace w_clus_Of N x := by intros; kernel_rfl
noncomputable def W_clus_replace (N : Nat) := V_clus_replace (W_clus_Of N) N
theorem con_clus_replace_ok (N : Nat) : (u_clus_replace.con (W_clus_replace N)).ok P0 := Uf.ok mixed (q_clus_replace (W_clus_Of N) N) ⟨con_clus_Of_ok N, trivial⟩ Tryz.func139 (by kernel_rfl) fun x y => by kernel_rfl
noncomputable def u_clus_Join : Uf := ⟨68, 57, Tryz.f68, [.val (.list (.list (.int .i64))), .val (.list T4_), .val (.int .i64), .val (.int .i64), .val (.int .i64)], [],
⟨[(10, .val (.list T4_))], []⟩, [],
[],
[(1000004, .reg [(5, [], ⟨[(32, .val .bool)], []⟩)])], fun y => (valW (.list T4_) y, [], [])⟩
noncomputable def V_clus_Join (w_clus_Of : List (List Int) × List Int → Option (List Int × Int)) (w_clus_find : List (List Int × Int) × Int → Option (Int ⊕ Unit)) (w_twin_Clusters : List (List Int × Int) → Option (List (List Int × Int))) (w_clus_with : List Int × List Int → Option (List Int)) (w_clus_fitted : List (List Int) × List Int × Int → Option (List (List Int × Int))) (w_clus_replace : List (List Int) × List (List Int × Int) × Int × Int × List (List Int × Int) → Option (List (List Int × Int))) (N : Nat) (x : List (List Int) × List (List Int × Int) × Int × Int × Int) : Option (List (List Int × Int)) :=
  cnd (decide ((↑(List.length x.2.1) : Int) = (0:Int))) (obind (w_clus_Of (x.1, [x.2.2.2.1])) fun b => some [b]) (obind (w_clus_find (x.2.1,
    x.2.2.2.1)) fun b => selim (fun (b : Int) => obind (w_twin_Clusters x.2.1) fun b => some b) (fun (c : PUnit) => cnd (decide (x.2.2.1 < (0:Int)))
    (obind (w_twin_Clusters x.2.1) fun b => some b) (cnd (decide ((↑(List.length x.2.1) : Int) ≤ x.2.2.1)) (obind (w_twin_Clusters x.2.1) fun b =>
    some b) (cnd (decide ((0:Int) ≤ x.2.2.1) && decide (x.2.2.1 < (↑(List.length x.2.1) : Int))) (obind (w_clus_with (Prod.fst (List.getD x.2.1
    (Int.toNat x.2.2.1) ([], (0:Int))), [x.2.2.2.1])) fun b => obind (w_clus_fitted (x.1, b, x.2.2.2.2)) fun b => obind (w_clus_replace (x.1, x.2.1,
    x.2.2.1, x.2.2.1, b)) fun b => some b) none))) b)
theorem q_clus_Join : ∀ w_clus_Of w_clus_find w_twin_Clusters w_clus_with w_clus_fitted w_clus_replace N x, u_clus_Join.F L0 P0 (orcOf [u_clus_Of.con w_clus_Of, u_clus_find.con w_clus_find, u_twin_Clusters.con w_twin_Clusters, u_clus_with.con w_clus_with, u_clus_fitted.con w_clus_fitted, u_clus_replace.con w_clus_replace]) N x = V_clus_Join w_clus_Of w_clus_find w_twin_Clusters w_clus_with w_clus_fitted w_clus_replace N x := by intros; kernel_rfl
noncomputable def W_clus_Join (N : Nat) := V_clus_Join (W_clus_Of N) (W_clus_find N) (W_twin_Clusters N) (W_clus_with N) (W_clus_fitted N) (W_clus_replace N) N
theorem con_clus_Join_ok (N : Nat) : (u_clus_Join.con (W_clus_Join N)).ok P0 := Uf.ok mixed (q_clus_Join (W_clus_Of N) (W_clus_find N) (W_twin_Clusters N) (W_clus_with N) (W_clus_fitted N) (W_clus_replace N) N) ⟨con_clus_Of_ok N, con_clus_find_ok N, con_twin_Clusters_ok N, con_clus_with_ok N, con_clus_fitted_ok N, con_clus_replace_ok N, trivial⟩ Tryz.func68 (by kernel_rfl) fun x y => by kernel_rfl
noncomputable def u_hier_Join : Uf := ⟨30, 33, Tryz.f30, [.val (.agg T2_), .val (.int .i64)], [],
⟨[(4, .ptr 600004 0)], [(600004, .box 35 (.val T2_))]⟩, [],
[],
[(1000002, .reg [(6, [], ⟨[(2, .ptr 600002 0), (4, .ptr 600004 0), (5, .ptr 600005 0), (13, .val .bool)], [(600002, .box 35 (.val T2_)), (600004, .box 35 (.val T2_)), (600005, .box 35 (.val T2_))]⟩)])], fun y => (valW (.agg T2_) y, [], [])⟩
noncomputable def V_hier_Join (w_twin_Hier : A1_ → Option A1_) (w_hier_May : A1_ → Option (Bool)) (w_hier_ground : A1_ → Option (List (List Int × Int))) (w_hier_down : A1_ × Int → Option (Int)) (w_clus_Join : List (List Int) × List (List Int × Int) × Int × Int × Int → Option (List (List Int × Int))) (w_hier_rise : A1_ × List (List Int × Int) → Option A6_) (N : Nat) (x : A1_ × Int) : Option A1_ :=
  obind (w_twin_Hier x.1) fun b => obind (obind (w_hier_May x.1) fun b_1 => cnd b_1 (some (decide ((1:Int) ≤ x.2), x.1, ((0:Int), [], []), b)) (some
    (false, x.1, ((0:Int), [], []), b))) fun (b : Bool × A1_ × A1_ × A1_) => cnd b.1 (cnd (decide (x.2 ≤ (8:Int))) (obind (w_hier_ground b.2.1)
    fun b_1 => obind (w_hier_down (b.2.1, x.2)) fun b_2 => obind (w_clus_Join (b.2.1.2.1, b_1, b_2, x.2, b.2.1.1)) fun b_3 => obind (w_hier_rise
    (b.2.1, b_3)) fun b_4 => some (b.2.2.2.1, b.2.2.2.2.1, b_4)) (some b.2.2.2)) (some b.2.2.2)
theorem q_hier_Join : ∀ w_twin_Hier w_hier_May w_hier_ground w_hier_down w_clus_Join w_hier_rise N x, u_hier_Join.F L0 P0 (orcOf [u_twin_Hier.con w_twin_Hier, u_hier_May.con w_hier_May, u_hier_ground.con w_hier_ground, u_hier_down.con w_hier_down, u_clus_Join.con w_clus_Join, u_hier_rise.con w_hier_rise]) N x = V_hier_Join w_twin_Hier w_hier_May w_hier_ground w_hier_down w_clus_Join w_hier_rise N x := by intros; kernel_rfl
noncomputable def W_hier_Join (N : Nat) := V_hier_Join (W_twin_Hier N) (W_hier_May N) (W_hier_ground N) (W_hier_down N) (W_clus_Join N) (W_hier_rise N) N
theorem con_hier_Join_ok (N : Nat) : (u_hier_Join.con (W_hier_Join N)).ok P0 := Uf.ok mixed (q_hier_Join (W_twin_Hier N) (W_hier_May N) (W_hier_ground N) (W_hier_down N) (W_clus_Join N) (W_hier_rise N) N) ⟨con_twin_Hier_ok N, con_hier_May_ok N, con_hier_ground_ok N, con_hier_down_ok N, con_clus_Join_ok N, con_hier_rise_ok N, trivial⟩ Tryz.func30 (by kernel_rfl) fun x y => by kernel_rfl
noncomputable def u_internal_stringslite_HasPrefix : Uf := ⟨286, 18, Tryz.f286, [.val .str, .val .str], [],
⟨[(4, .val .bool)], []⟩, [],
[],
[], fun y => (valW .bool y, [], [])⟩
noncomputable def V_internal_stringslite_HasPrefix (N : Nat) (x : List UInt8 × List UInt8) : Option (Bool) :=
  cnd (decide ((↑(List.length x.2) : Int) ≤ (↑(List.length x.1) : Int))) (cnd (decide ((0:Int) ≤ (↑(List.length x.2) : Int)) && decide ((↑(List.length x.2) : Int) ≤ (↑(List.length x.1) : Int))) (some (List.drop (0:Nat) (List.take (Int.toNat (↑(List.length x.2) : Int)) x.1) == x.2)) none) (some false)
theorem q_internal_stringslite_HasPrefix : ∀ N x, u_internal_stringslite_HasPrefix.F L0 P0 (orcOf []) N x = V_internal_stringslite_HasPrefix N x := by intros; kernel_rfl
noncomputable def W_internal_stringslite_HasPrefix (N : Nat) := V_internal_stringslite_HasPrefix N
theorem con_internal_stringslite_HasPrefix_ok (N : Nat) : (u_internal_stringslite_HasPrefix.con (W_internal_stringslite_HasPrefix N)).ok P0 := Uf.ok mixed (q_internal_stringslite_HasPrefix N) trivial Tryz.func286 (by kernel_rfl) fun x y => by kernel_rfl
noncomputable def u_strings_HasPrefix : Uf := ⟨227, 8, Tryz.f227, [.val .str, .val .str], [],
⟨[(4, .val .bool)], []⟩, [],
[],
[], fun y => (valW .bool y, [], [])⟩
noncomputable def V_strings_HasPrefix (w_internal_stringslite_HasPrefix : List UInt8 × List UInt8 → Option (Bool)) (N : Nat) (x : List UInt8 × List UInt8) : Option (Bool) :=
  obind (w_internal_stringslite_HasPrefix x) fun b => some b
theorem q_strings_HasPrefix : ∀ w_internal_stringslite_HasPrefix N x, u_strings_HasPrefix.F L0 P0 (orcOf [u_internal_stringslite_HasPrefix.con w_internal_stringslite_HasPrefix]) N x = V_strings_HasPrefix w_internal_stringslite_HasPrefix N x := by intros; kernel_rfl
noncomputable def W_strings_HasPrefix (N : Nat) := V_strings_HasPrefix (W_internal_stringslite_HasPrefix N) N
theorem con_strings_HasPrefix_ok (N : Nat) : (u_strings_HasPrefix.con (W_strings_HasPrefix N)).ok P0 := Uf.ok mixed (q_strings_HasPrefix (W_internal_stringslite_HasPrefix N) N) ⟨con_internal_stringslite_HasPrefix_ok N, trivial⟩ Tryz.func227 (by kernel_rfl) fun x y => by kernel_rfl
noncomputable def u_text_letter : Uf := ⟨157, 14, Tryz.f157, [.val .str, .val (.int .i32)], [],
⟨[(4, .val (.int .i64))], []⟩, [],
[],
[], fun y => (valW (.int .i64) y, [], [])⟩
noncomputable def V_text_letter (w_strings_HasPrefix : List UInt8 × List UInt8 → Option (Bool)) (N : Nat) (x : List UInt8 × Int) : Option (Int) :=
  cnd (decide (x.2 = (65533:Int))) (obind (w_strings_HasPrefix (x.1, [(239 : UInt8), (191 : UInt8), (189 : UInt8)])) fun b => cnd (!b) (some (-1 : Int)) (some (wr .i64 x.2))) (some (wr .i64 x.2))
theorem q_text_letter : ∀ w_strings_HasPrefix N x, u_text_letter.F L0 P0 (orcOf [u_strings_HasPrefix.con w_strings_HasPrefix]) N x = V_text_letter w_strings_HasPrefix N x := by intros; kernel_rfl
noncomputable def W_text_letter (N : Nat) := V_text_letter (W_strings_HasPrefix N) N
theorem con_text_letter_ok (N : Nat) : (u_text_letter.con (W_text_letter N)).ok P0 := Uf.ok mixed (q_text_letter (W_strings_HasPrefix N) N) ⟨con_strings_HasPrefix_ok N, trivial⟩ Tryz.func157 (by kernel_rfl) fun x y => by kernel_rfl
noncomputable def u_text_Name : Uf := ⟨83, 36, Tryz.f83, [.val .str], [],
⟨[(2, .val .bool)], []⟩, [],
[(3, .loop [] ⟨[(3, .val (.int .i64)), (8, .ptr 600008 0)], [(600008, .iter)]⟩ [(.exit 0, ⟨[(3, .val (.int .i64))], []⟩), (.ret, ⟨[(2, .val .bool)], []⟩)])],
[], fun y => (valW .bool y, [], [])⟩
noncomputable def V_text_Name (w_text_letter : List UInt8 × Int → Option (Int)) (N : Nat) (x : List UInt8) : Option (Bool) :=
  obind (loopN N (fun (v : Int × List UInt8 × Int) => cnd (decide (Int.toNat v.2.2 < List.length v.2.1)) (cnd (decide ((0:Int) ≤ (↑(Int.toNat v.2.2) :
    Int)) && decide ((↑(Int.toNat v.2.2) : Int) ≤ (↑(List.length x) : Int))) (obind (w_text_letter (List.drop (Int.toNat (↑(Int.toNat v.2.2) : Int))
    (List.take (List.length x) x), (↑(Prod.fst (Utf8.decode { data := { toList := v.2.1 } } (Int.toNat v.2.2))) : Int))) fun b => cnd (decide (b <
    (33:Int))) (some (Sum.inr (Sum.inr false))) (cnd (decide ((127:Int) ≤ b)) (cnd (decide (b ≤ (159:Int))) (some (Sum.inr (Sum.inr false))) (some
    (Sum.inl (wr .i64 (v.1 + (1:Int)), v.2.1, (↑(Int.toNat v.2.2 + Prod.snd (Utf8.decode { data := { toList := v.2.1 } } (Int.toNat v.2.2))) : Int)))))
    (some (Sum.inl (wr .i64 (v.1 + (1:Int)), v.2.1, (↑(Int.toNat v.2.2 + Prod.snd (Utf8.decode { data := { toList := v.2.1 } } (Int.toNat v.2.2))) :
    Int)))))) none) (some (Sum.inr (Sum.inl v.1)))) ((0:Int), x, (↑(0:Nat) : Int))) fun (b : Int ⊕ Bool) => selim (fun (b : Int) => cnd (decide ((1:Int)
    ≤ b)) (some (decide (b ≤ (8:Int)))) (some false)) (fun (c : Bool) => some c) b
theorem q_text_Name : ∀ w_text_letter N x, u_text_Name.F L0 P0 (orcOf [u_text_letter.con w_text_letter]) N x = V_text_Name w_text_letter N x := by intros; kernel_rfl
noncomputable def W_text_Name (N : Nat) := V_text_Name (W_text_letter N) N
theorem con_text_Name_ok (N : Nat) : (u_text_Name.con (W_text_Name N)).ok P0 := Uf.ok mixed (q_text_Name (W_text_letter N) N) ⟨con_text_letter_ok N, trivial⟩ Tryz.func83 (by kernel_rfl) fun x y => by kernel_rfl
def as_slices_Clone_api_Kid : List AS := [.val (.list (.agg (.pair (.int .i64) T6_)))]
def bs_slices_Clone_api_Kid : List BS := []
def pout_slices_Clone_api_Kid : Pat := ⟨[(2, .acc 700005)], [(700005, .nrow 185 (.agg (.pair (.int .i64) T6_)) false true)]⟩
noncomputable def G_slices_Clone_api_Kid  (N : Nat) : OrcT := orcOf []
noncomputable def F_slices_Clone_api_Kid  (N : Nat) (x : List (Int × Int × Int)) : Option (List (Int × Int × Int)) :=
  (evT (G_slices_Clone_api_Kid  N) L0 P0 []
    [] N 400 (bodyOf Tryz.f228) ⟨8, slots 0 [.nl ⟨(.agg (.pair (.int .i64) T6_)), x⟩], tabU (lbOf as_slices_Clone_api_Kid bs_slices_Clone_api_Kid x) [], []⟩).elim (kRet 8 pout_slices_Clone_api_Kid (kpL []) (lbOf as_slices_Clone_api_Kid bs_slices_Clone_api_Kid x))
def out_slices_Clone_api_Kid (y : List (Int × Int × Int)) : V × List OK × List OK := (.acc 2000000 0, [], [.nrow 185 false true ⟨(.agg (.pair (.int .i64) T6_)), y⟩])
noncomputable def V_slices_Clone_api_Kid  (N : Nat) (x : List (Int × Int × Int)) : Option (List (Int × Int × Int)) :=
  cnd (decide (List.length x * (24:Nat) ≤ (140737488355328:Nat))) (some x) none
theorem FV_slices_Clone_api_Kid_eq  (N : Nat) (x : List (Int × Int × Int)) : F_slices_Clone_api_Kid  N x = V_slices_Clone_api_Kid  N x := by kernel_rfl
noncomputable def W_slices_Clone_api_Kid (N : Nat) (x : List (Int × Int × Int)) : Option (List (Int × Int × Int)) := V_slices_Clone_api_Kid  N x
theorem F_slices_Clone_api_Kid_eq (N : Nat) (x : List (Int × Int × Int)) : F_slices_Clone_api_Kid  N x = W_slices_Clone_api_Kid N x := (FV_slices_Clone_api_Kid_eq  N x).trans (by kernel_rfl)
noncomputable def conw_slices_Clone_api_Kid (w : List (Int × Int × Int) → Option (List (Int × Int × Int))) : Con := ⟨228, as_slices_Clone_api_Kid, bs_slices_Clone_api_Kid, List (Int × Int × Int), w, out_slices_Clone_api_Kid⟩
noncomputable def con_slices_Clone_api_Kid (N : Nat) : Con := conw_slices_Clone_api_Kid (W_slices_Clone_api_Kid N)
theorem R_slices_Clone_api_Kid_eq (x : List (Int × Int × Int)) (y : List (Int × Int × Int)) : retOf2 P0 Tryz.f228 (kpL []) (lbOf as_slices_Clone_api_Kid bs_slices_Clone_api_Kid x) (patS ⟨8, [], [], []⟩ pout_slices_Clone_api_Kid y) = some (out_slices_Clone_api_Kid y) := by kernel_rfl
noncomputable def FA_slices_Clone_api_Kid : Option (List (Int × Int × Int)) := (evT (G_slices_Clone_api_Kid 1) L0 P0 [] [] 1 400 (bodyOf Tryz.f228) ⟨8, slots 0 [.snil], tabU [] [], []⟩).elim (kRet 8 pout_slices_Clone_api_Kid (kpL []) [])
theorem FA_slices_Clone_api_Kid_eq : FA_slices_Clone_api_Kid = some [] := by kernel_rfl
theorem WN_slices_Clone_api_Kid (N : Nat) (r : List (Int × Int × Int)) (h : W_slices_Clone_api_Kid N [] = some r) : r = [] := by
  have e : W_slices_Clone_api_Kid N [] = some [] := by kernel_rfl
  rw [e] at h; injection h with h; exact h.symm
theorem con_slices_Clone_api_Kid_ok (N : Nat) : Con.ok P0 (con_slices_Clone_api_Kid N) := ⟨⟨Tryz.f228, Tryz.func228, by kernel_rfl, by kernel_rfl⟩, fun (x : List (Int × Int × Int)) (r : List (Int × Int × Int)) (hr : W_slices_Clone_api_Kid N x = some r) =>
  clone_split (e := (.agg (.pair (.int .i64) T6_))) (ty := 185) (l := x) (r := r)
    (spec2_evT (Γ := G_slices_Clone_api_Kid 1) (Λ := L0) (lb := []) (pout := pout_slices_Clone_api_Kid) (kp := kpL []) mixed (orcOf_ok [] (by simp)) Tryz.func228 (c := bodyOf Tryz.f228) (by kernel_rfl) (by kernel_rfl) (of_decide_eq_true (by kernel_rfl)) FA_slices_Clone_api_Kid_eq (R_slices_Clone_api_Kid_eq x []))
    (spec2_evT (Γ := G_slices_Clone_api_Kid N) (Λ := L0) (lb := []) (pout := pout_slices_Clone_api_Kid) (kp := kpL []) mixed (orcOf_ok [] (by simp)) Tryz.func228 (c := bodyOf Tryz.f228) (by kernel_rfl) (by kernel_rfl) (of_decide_eq_true (by kernel_rfl)) ((F_slices_Clone_api_Kid_eq N x).trans hr) (R_slices_Clone_api_Kid_eq x r))
    (fun h => by subst h; exact WN_slices_Clone_api_Kid N r hr)⟩
noncomputable def u_twin_Tie : Uf := ⟨158, 12, Tryz.f158, [.val (.agg T1_)], [],
⟨[(2, .ptr 600002 0)], [(600002, .box 51 (.val T1_))]⟩, [],
[],
[], fun y => (valW (.agg T1_) y, [], [])⟩
noncomputable def V_twin_Tie (w_slices_Clone_int : List Int → Option (List Int)) (w_slices_Clone_api_Kid : List (Int × Int × Int) → Option (List (Int × Int × Int))) (N : Nat) (x : A2_) : Option A2_ :=
  obind (w_slices_Clone_int x.2.2.2.2.2.2.1) fun b => obind (w_slices_Clone_api_Kid x.2.2.2.2.2.2.2.2.2.2.2.2) fun b_1 => some (x.1, x.2.1, x.2.2.1,
    x.2.2.2.1, x.2.2.2.2.1, x.2.2.2.2.2.1, b, x.2.2.2.2.2.2.2.1, x.2.2.2.2.2.2.2.2.1, x.2.2.2.2.2.2.2.2.2.1, x.2.2.2.2.2.2.2.2.2.2.1,
    x.2.2.2.2.2.2.2.2.2.2.2.1, b_1)
theorem q_twin_Tie : ∀ w_slices_Clone_int w_slices_Clone_api_Kid N x, u_twin_Tie.F L0 P0 (orcOf [conw_slices_Clone_int w_slices_Clone_int, conw_slices_Clone_api_Kid w_slices_Clone_api_Kid]) N x = V_twin_Tie w_slices_Clone_int w_slices_Clone_api_Kid N x := by intros; kernel_rfl
noncomputable def W_twin_Tie (N : Nat) := V_twin_Tie (W_slices_Clone_int N) (W_slices_Clone_api_Kid N) N
theorem con_twin_Tie_ok (N : Nat) : (u_twin_Tie.con (W_twin_Tie N)).ok P0 := Uf.ok mixed (q_twin_Tie (W_slices_Clone_int N) (W_slices_Clone_api_Kid N) N) ⟨con_slices_Clone_int_ok N, con_slices_Clone_api_Kid_ok N, trivial⟩ Tryz.func158 (by kernel_rfl) fun x y => by kernel_rfl
def as_slices_Clone_api_Item : List AS := [.val (.list (.agg (.pair (.int .i64) .str)))]
def bs_slices_Clone_api_Item : List BS := []
def pout_slices_Clone_api_Item : Pat := ⟨[(2, .acc 700005)], [(700005, .nrow 251 (.agg (.pair (.int .i64) .str)) false true)]⟩
noncomputable def G_slices_Clone_api_Item  (N : Nat) : OrcT := orcOf []
noncomputable def F_slices_Clone_api_Item  (N : Nat) (x : List (Int × List UInt8)) : Option (List (Int × List UInt8)) :=
  (evT (G_slices_Clone_api_Item  N) L0 P0 []
    [] N 400 (bodyOf Tryz.f229) ⟨8, slots 0 [.nl ⟨(.agg (.pair (.int .i64) .str)), x⟩], tabU (lbOf as_slices_Clone_api_Item bs_slices_Clone_api_Item x) [], []⟩).elim (kRet 8 pout_slices_Clone_api_Item (kpL []) (lbOf as_slices_Clone_api_Item bs_slices_Clone_api_Item x))
def out_slices_Clone_api_Item (y : List (Int × List UInt8)) : V × List OK × List OK := (.acc 2000000 0, [], [.nrow 251 false true ⟨(.agg (.pair (.int .i64) .str)), y⟩])
noncomputable def V_slices_Clone_api_Item  (N : Nat) (x : List (Int × List UInt8)) : Option (List (Int × List UInt8)) :=
  cnd (decide (List.length x * (24:Nat) ≤ (140737488355328:Nat))) (some x) none
theorem FV_slices_Clone_api_Item_eq  (N : Nat) (x : List (Int × List UInt8)) : F_slices_Clone_api_Item  N x = V_slices_Clone_api_Item  N x := by kernel_rfl
noncomputable def W_slices_Clone_api_Item (N : Nat) (x : List (Int × List UInt8)) : Option (List (Int × List UInt8)) := V_slices_Clone_api_Item  N x
theorem F_slices_Clone_api_Item_eq (N : Nat) (x : List (Int × List UInt8)) : F_slices_Clone_api_Item  N x = W_slices_Clone_api_Item N x := (FV_slices_Clone_api_Item_eq  N x).trans (by kernel_rfl)
noncomputable def conw_slices_Clone_api_Item (w : List (Int × List UInt8) → Option (List (Int × List UInt8))) : Con := ⟨229, as_slices_Clone_api_Item, bs_slices_Clone_api_Item, List (Int × List UInt8), w, out_slices_Clone_api_Item⟩
noncomputable def con_slices_Clone_api_Item (N : Nat) : Con := conw_slices_Clone_api_Item (W_slices_Clone_api_Item N)
theorem R_slices_Clone_api_Item_eq (x : List (Int × List UInt8)) (y : List (Int × List UInt8)) : retOf2 P0 Tryz.f229 (kpL []) (lbOf as_slices_Clone_api_Item bs_slices_Clone_api_Item x) (patS ⟨8, [], [], []⟩ pout_slices_Clone_api_Item y) = some (out_slices_Clone_api_Item y) := by kernel_rfl
noncomputable def FA_slices_Clone_api_Item : Option (List (Int × List UInt8)) := (evT (G_slices_Clone_api_Item 1) L0 P0 [] [] 1 400 (bodyOf Tryz.f229) ⟨8, slots 0 [.snil], tabU [] [], []⟩).elim (kRet 8 pout_slices_Clone_api_Item (kpL []) [])
theorem FA_slices_Clone_api_Item_eq : FA_slices_Clone_api_Item = some [] := by kernel_rfl
theorem WN_slices_Clone_api_Item (N : Nat) (r : List (Int × List UInt8)) (h : W_slices_Clone_api_Item N [] = some r) : r = [] := by
  have e : W_slices_Clone_api_Item N [] = some [] := by kernel_rfl
  rw [e] at h; injection h with h; exact h.symm
theorem con_slices_Clone_api_Item_ok (N : Nat) : Con.ok P0 (con_slices_Clone_api_Item N) := ⟨⟨Tryz.f229, Tryz.func229, by kernel_rfl, by kernel_rfl⟩, fun (x : List (Int × List UInt8)) (r : List (Int × List UInt8)) (hr : W_slices_Clone_api_Item N x = some r) =>
  clone_split (e := (.agg (.pair (.int .i64) .str))) (ty := 251) (l := x) (r := r)
    (spec2_evT (Γ := G_slices_Clone_api_Item 1) (Λ := L0) (lb := []) (pout := pout_slices_Clone_api_Item) (kp := kpL []) mixed (orcOf_ok [] (by simp)) Tryz.func229 (c := bodyOf Tryz.f229) (by kernel_rfl) (by kernel_rfl) (of_decide_eq_true (by kernel_rfl)) FA_slices_Clone_api_Item_eq (R_slices_Clone_api_Item_eq x []))
    (spec2_evT (Γ := G_slices_Clone_api_Item N) (Λ := L0) (lb := []) (pout := pout_slices_Clone_api_Item) (kp := kpL []) mixed (orcOf_ok [] (by simp)) Tryz.func229 (c := bodyOf Tryz.f229) (by kernel_rfl) (by kernel_rfl) (of_decide_eq_true (by kernel_rfl)) ((F_slices_Clone_api_Item_eq N x).trans hr) (R_slices_Clone_api_Item_eq x r))
    (fun h => by subst h; exact WN_slices_Clone_api_Item N r hr)⟩
def as_slices_Clone_api_Event : List AS := [.val (.list T7_)]
def bs_slices_Clone_api_Event : List BS := []
def pout_slices_Clone_api_Event : Pat := ⟨[(2, .acc 700005)], [(700005, .nrow 72 T7_ false true)]⟩
noncomputable def G_slices_Clone_api_Event  (N : Nat) : OrcT := orcOf []
noncomputable def F_slices_Clone_api_Event  (N : Nat) (x : List A5_) : Option (List A5_) :=
  (evT (G_slices_Clone_api_Event  N) L0 P0 []
    [] N 400 (bodyOf Tryz.f230) ⟨8, slots 0 [.nl ⟨T7_, x⟩], tabU (lbOf as_slices_Clone_api_Event bs_slices_Clone_api_Event x) [], []⟩).elim (kRet 8 pout_slices_Clone_api_Event (kpL []) (lbOf as_slices_Clone_api_Event bs_slices_Clone_api_Event x))
def out_slices_Clone_api_Event (y : List A5_) : V × List OK × List OK := (.acc 2000000 0, [], [.nrow 72 false true ⟨T7_, y⟩])
noncomputable def V_slices_Clone_api_Event  (N : Nat) (x : List A5_) : Option (List A5_) :=
  cnd (decide (List.length x * (48:Nat) ≤ (140737488355328:Nat))) (some x) none
theorem FV_slices_Clone_api_Event_eq  (N : Nat) (x : List A5_) : F_slices_Clone_api_Event  N x = V_slices_Clone_api_Event  N x := by kernel_rfl
noncomputable def W_slices_Clone_api_Event (N : Nat) (x : List A5_) : Option (List A5_) := V_slices_Clone_api_Event  N x
theorem F_slices_Clone_api_Event_eq (N : Nat) (x : List A5_) : F_slices_Clone_api_Event  N x = W_slices_Clone_api_Event N x := (FV_slices_Clone_api_Event_eq  N x).trans (by kernel_rfl)
noncomputable def conw_slices_Clone_api_Event (w : List A5_ → Option (List A5_)) : Con := ⟨230, as_slices_Clone_api_Event, bs_slices_Clone_api_Event, List A5_, w, out_slices_Clone_api_Event⟩
noncomputable def con_slices_Clone_api_Event (N : Nat) : Con := conw_slices_Clone_api_Event (W_slices_Clone_api_Event N)
theorem R_slices_Clone_api_Event_eq (x : List A5_) (y : List A5_) : retOf2 P0 Tryz.f230 (kpL []) (lbOf as_slices_Clone_api_Event bs_slices_Clone_api_Event x) (patS ⟨8, [], [], []⟩ pout_slices_Clone_api_Event y) = some (out_slices_Clone_api_Event y) := by kernel_rfl
noncomputable def FA_slices_Clone_api_Event : Option (List A5_) := (evT (G_slices_Clone_api_Event 1) L0 P0 [] [] 1 400 (bodyOf Tryz.f230) ⟨8, slots 0 [.snil], tabU [] [], []⟩).elim (kRet 8 pout_slices_Clone_api_Event (kpL []) [])
theorem FA_slices_Clone_api_Event_eq : FA_slices_Clone_api_Event = some [] := by kernel_rfl
theorem WN_slices_Clone_api_Event (N : Nat) (r : List A5_) (h : W_slices_Clone_api_Event N [] = some r) : r = [] := by
  have e : W_slices_Clone_api_Event N [] = some [] := by kernel_rfl
  rw [e] at h; injection h with h; exact h.symm
theorem con_slices_Clone_api_Event_ok (N : Nat) : Con.ok P0 (con_slices_Clone_api_Event N) := ⟨⟨Tryz.f230, Tryz.func230, by kernel_rfl, by kernel_rfl⟩, fun (x : List A5_) (r : List A5_) (hr : W_slices_Clone_api_Event N x = some r) =>
  clone_split (e := T7_) (ty := 72) (l := x) (r := r)
    (spec2_evT (Γ := G_slices_Clone_api_Event 1) (Λ := L0) (lb := []) (pout := pout_slices_Clone_api_Event) (kp := kpL []) mixed (orcOf_ok [] (by simp)) Tryz.func230 (c := bodyOf Tryz.f230) (by kernel_rfl) (by kernel_rfl) (of_decide_eq_true (by kernel_rfl)) FA_slices_Clone_api_Event_eq (R_slices_Clone_api_Event_eq x []))
    (spec2_evT (Γ := G_slices_Clone_api_Event N) (Λ := L0) (lb := []) (pout := pout_slices_Clone_api_Event) (kp := kpL []) mixed (orcOf_ok [] (by simp)) Tryz.func230 (c := bodyOf Tryz.f230) (by kernel_rfl) (by kernel_rfl) (of_decide_eq_true (by kernel_rfl)) ((F_slices_Clone_api_Event_eq N x).trans hr) (R_slices_Clone_api_Event_eq x r))
    (fun h => by subst h; exact WN_slices_Clone_api_Event N r hr)⟩
noncomputable def u_twin_Feed : Uf := ⟨159, 16, Tryz.f159, [.val (.agg T3_)], [],
⟨[(2, .ptr 600002 0)], [(600002, .box 57 (.val T3_))]⟩, [],
[],
[], fun y => (valW (.agg T3_) y, [], [])⟩
noncomputable def V_twin_Feed (w_slices_Clone_api_Item : List (Int × List UInt8) → Option (List (Int × List UInt8))) (w_slices_Clone_api_Event : List A5_ → Option (List A5_)) (N : Nat) (x : Int × A3_) : Option (Int × A3_) :=
  obind (w_slices_Clone_api_Item x.2.2.1) fun b => obind (w_slices_Clone_api_Item x.2.2.2.1) fun b_1 => obind (w_slices_Clone_api_Event x.2.2.2.2.1) fun b_2 => some (x.1, x.2.1, b, b_1, b_2, x.2.2.2.2.2)
theorem q_twin_Feed : ∀ w_slices_Clone_api_Item w_slices_Clone_api_Event N x, u_twin_Feed.F L0 P0 (orcOf [conw_slices_Clone_api_Item w_slices_Clone_api_Item, conw_slices_Clone_api_Event w_slices_Clone_api_Event]) N x = V_twin_Feed w_slices_Clone_api_Item w_slices_Clone_api_Event N x := by intros; kernel_rfl
noncomputable def W_twin_Feed (N : Nat) := V_twin_Feed (W_slices_Clone_api_Item N) (W_slices_Clone_api_Event N) N
theorem con_twin_Feed_ok (N : Nat) : (u_twin_Feed.con (W_twin_Feed N)).ok P0 := Uf.ok mixed (q_twin_Feed (W_slices_Clone_api_Item N) (W_slices_Clone_api_Event N) N) ⟨con_slices_Clone_api_Item_ok N, con_slices_Clone_api_Event_ok N, trivial⟩ Tryz.func159 (by kernel_rfl) fun x y => by kernel_rfl
noncomputable def u_twin_Node : Uf := ⟨84, 12, Tryz.f84, [.val (.agg T0_)], [],
⟨[(2, .ptr 600002 0)], [(600002, .box 59 (.val T0_))]⟩, [],
[],
[], fun y => (valW (.agg T0_) y, [], [])⟩
noncomputable def V_twin_Node (w_twin_Tie : A2_ → Option A2_) (w_twin_Feed : Int × A3_ → Option (Int × A3_)) (N : Nat) (x : A0_) : Option A0_ :=
  obind (w_twin_Tie x.2.2.2.1) fun b => obind (w_twin_Feed x.2.2.2.2.1) fun b_1 => some (x.1, x.2.1, x.2.2.1, b, b_1, x.2.2.2.2.2)
theorem q_twin_Node : ∀ w_twin_Tie w_twin_Feed N x, u_twin_Node.F L0 P0 (orcOf [u_twin_Tie.con w_twin_Tie, u_twin_Feed.con w_twin_Feed]) N x = V_twin_Node w_twin_Tie w_twin_Feed N x := by intros; kernel_rfl
noncomputable def W_twin_Node (N : Nat) := V_twin_Node (W_twin_Tie N) (W_twin_Feed N) N
theorem con_twin_Node_ok (N : Nat) : (u_twin_Node.con (W_twin_Node N)).ok P0 := Uf.ok mixed (q_twin_Node (W_twin_Tie N) (W_twin_Feed N) N) ⟨con_twin_Tie_ok N, con_twin_Feed_ok N, trivial⟩ Tryz.func84 (by kernel_rfl) fun x y => by kernel_rfl
noncomputable def u_tie_New : Uf := ⟨85, 22, Tryz.f85, [.val (.int .i64), .val (.int .i64), .val (.int .i64), .val (.int .i64)], [],
⟨[(8, .ptr 600008 0)], [(600008, .box 51 (.val T1_))]⟩, [],
[],
[], fun y => (valW (.agg T1_) y, [], [])⟩
noncomputable def V_tie_New (N : Nat) (x : Int × Int × Int × Int) : Option A2_ :=
  cnd (decide (x.1 = (1:Int))) (some (x.1, x.2.1, x.2.2.1, (0:Int), (0:Int), x.2.2.2, [(1:Int)], (0:Int), x.2.2.1, (0:Int), (0:Int), (0:Int), [])) (some (x.1, x.2.1, x.2.2.1, (0:Int), (0:Int), x.2.2.2, [], (0:Int), (0:Int), (0:Int), (0:Int), (0:Int), []))
theorem q_tie_New : ∀ N x, u_tie_New.F L0 P0 (orcOf []) N x = V_tie_New N x := by intros; kernel_rfl
noncomputable def W_tie_New (N : Nat) := V_tie_New N
theorem con_tie_New_ok (N : Nat) : (u_tie_New.con (W_tie_New N)).ok P0 := Uf.ok mixed (q_tie_New N) trivial Tryz.func85 (by kernel_rfl) fun x y => by kernel_rfl
noncomputable def u_node_Join : Uf := ⟨37, 43, Tryz.f37, [.val (.agg T0_), .val (.int .i64), .val .str, .val (.int .i64)], [],
⟨[(8, .ptr 600008 0), (9, .val .bool)], [(600008, .box 59 (.val T0_))]⟩, [],
[],
[(1000001, .reg [(7, [], ⟨[(4, .ptr 600004 0), (8, .ptr 600008 0), (17, .val .bool)], [(600004, .box 59 (.val T0_)), (600008, .box 59 (.val T0_))]⟩), (4, [], ⟨[(4, .ptr 600004 0), (8, .ptr 600008 0), (21, .val .bool)], [(600004, .box 59 (.val T0_)), (600008, .box 59 (.val T0_))]⟩), (4, [], ⟨[(4, .ptr 600004 0), (8, .ptr 600008 0), (25, .val .bool)], [(600004, .box 59 (.val T0_)), (600008, .box 59 (.val T0_))]⟩)])], fun y => (.tup [valW (.agg T0_) y.2, valW .bool y.1], [], [])⟩
noncomputable def V_node_Join (w_text_Name : List UInt8 → Option (Bool)) (w_twin_Node : A0_ → Option A0_) (w_tie_New : Int × Int × Int × Int → Option A2_) (N : Nat) (x : A0_ × Int × List UInt8 × Int) : Option (Bool × A0_) :=
  obind (cnd x.1.1 (some (true, x.1, false, (0:Int), [], ((0:Int), (0:Int), (0:Int), (0:Int), (0:Int), (0:Int), [], (0:Int), (0:Int), (0:Int), (0:Int),
    (0:Int), []), ((0:Int), (0:Int), [], [], [], (0:Int), (0:Int)), (0:Int))) (obind (w_text_Name x.2.2.1) fun b => some (!b, x.1, false, (0:Int), [],
    ((0:Int), (0:Int), (0:Int), (0:Int), (0:Int), (0:Int), [], (0:Int), (0:Int), (0:Int), (0:Int), (0:Int), []), ((0:Int), (0:Int), [], [], [], (0:Int),
    (0:Int)), (0:Int)))) fun (b : Bool × A0_ × A0_) => obind (cnd b.1 (some (true,
    b.2)) (some (decide (x.2.1 < (1:Int)), b.2))) fun (b : Bool × A0_ × A0_) => obind (cnd
    b.1 (some (true, b.2)) (some (decide ((8:Int) < x.2.1), b.2))) fun (b : Bool × A0_ × A0_) => cnd b.1 (obind (w_twin_Node b.2.1) fun b => some (false, b)) (cnd (decide ((1073741824:Int) ≤ b.2.1.2.1)) (obind (w_twin_Node b.2.1) fun
    b => some (false, b)) (obind (w_tie_New (x.2.1, wr .i64 (b.2.1.2.1 + (1:Int)), (0:Int), x.2.2.2)) fun b_1 => some (true, true, wr .i64 (b.2.1.2.1
    + (1:Int)), x.2.2.1, b_1, ((0:Int), (0:Int), [], [], [], (0:Int), (0:Int)), (0:Int))))
theorem q_node_Join : ∀ w_text_Name w_twin_Node w_tie_New N x, u_node_Join.F L0 P0 (orcOf [u_text_Name.con w_text_Name, u_twin_Node.con w_twin_Node, u_tie_New.con w_tie_New]) N x = V_node_Join w_text_Name w_twin_Node w_tie_New N x := by intros; kernel_rfl
noncomputable def W_node_Join (N : Nat) := V_node_Join (W_text_Name N) (W_twin_Node N) (W_tie_New N) N
theorem con_node_Join_ok (N : Nat) : (u_node_Join.con (W_node_Join N)).ok P0 := Uf.ok mixed (q_node_Join (W_text_Name N) (W_twin_Node N) (W_tie_New N) N) ⟨con_text_Name_ok N, con_twin_Node_ok N, con_tie_New_ok N, trivial⟩ Tryz.func37 (by kernel_rfl) fun x y => by kernel_rfl
noncomputable def u_world_New : Uf := ⟨12, 31, Tryz.f12, [.val (.list (.list (.int .i64))), .val (.int .i64)], [],
⟨[(4, .ptr 600004 0), (5, .val .bool)], [(600004, .box 37 (.val T5_))]⟩, [],
[],
[], fun y => (.tup [valW (.agg T5_) y.2, valW .bool y.1], [], [])⟩
noncomputable def V_world_New (w_hier_New : List (List Int) × Int → Option (Bool × A1_)) (w_hier_Join : A1_ × Int → Option A1_) (w_node_Join : A0_ × Int × List UInt8 × Int → Option (Bool × A0_)) (N : Nat) (x : List (List Int) × Int) : Option (Bool × A4_) :=
  obind (w_hier_New x) fun b => cnd (!b.1) (some (false, [], [], [], (0:Int), [], [])) (obind (w_hier_Join (b.2, (1:Int))) fun b => obind
    (w_node_Join ((false, (0:Int), [], ((0:Int), (0:Int), (0:Int), (0:Int), (0:Int), (0:Int), [], (0:Int), (0:Int), (0:Int), (0:Int), (0:Int), []),
    ((0:Int), (0:Int), [], [], [], (0:Int), (0:Int)), (0:Int)), (1:Int), [(114 : UInt8), (111 : UInt8), (111 : UInt8), (116 : UInt8)], (0:Int))) fun b_1
    => some (true, [b_1.2, (false, (0:Int), [], ((0:Int), (0:Int), (0:Int), (0:Int), (0:Int), (0:Int), [], (0:Int), (0:Int), (0:Int), (0:Int), (0:Int),
    []), ((0:Int), (0:Int), [], [], [], (0:Int), (0:Int)), (0:Int)), (false, (0:Int), [], ((0:Int), (0:Int), (0:Int), (0:Int), (0:Int), (0:Int), [],
    (0:Int), (0:Int), (0:Int), (0:Int), (0:Int), []), ((0:Int), (0:Int), [], [], [], (0:Int), (0:Int)), (0:Int)), (false, (0:Int), [], ((0:Int),
    (0:Int), (0:Int), (0:Int), (0:Int), (0:Int), [], (0:Int), (0:Int), (0:Int), (0:Int), (0:Int), []), ((0:Int), (0:Int), [], [], [], (0:Int), (0:Int)),
    (0:Int)), (false, (0:Int), [], ((0:Int), (0:Int), (0:Int), (0:Int), (0:Int), (0:Int), [], (0:Int), (0:Int), (0:Int), (0:Int), (0:Int), []),
    ((0:Int), (0:Int), [], [], [], (0:Int), (0:Int)), (0:Int)), (false, (0:Int), [], ((0:Int), (0:Int), (0:Int), (0:Int), (0:Int), (0:Int), [], (0:Int),
    (0:Int), (0:Int), (0:Int), (0:Int), []), ((0:Int), (0:Int), [], [], [], (0:Int), (0:Int)), (0:Int)), (false, (0:Int), [], ((0:Int), (0:Int),
    (0:Int), (0:Int), (0:Int), (0:Int), [], (0:Int), (0:Int), (0:Int), (0:Int), (0:Int), []), ((0:Int), (0:Int), [], [], [], (0:Int), (0:Int)),
    (0:Int)), (false, (0:Int), [], ((0:Int), (0:Int), (0:Int), (0:Int), (0:Int), (0:Int), [], (0:Int), (0:Int), (0:Int), (0:Int), (0:Int), []),
    ((0:Int), (0:Int), [], [], [], (0:Int), (0:Int)), (0:Int))], [], [], b))
theorem q_world_New : ∀ w_hier_New w_hier_Join w_node_Join N x, u_world_New.F L0 P0 (orcOf [u_hier_New.con w_hier_New, u_hier_Join.con w_hier_Join, u_node_Join.con w_node_Join]) N x = V_world_New w_hier_New w_hier_Join w_node_Join N x := by intros; kernel_rfl
noncomputable def W_world_New (N : Nat) := V_world_New (W_hier_New N) (W_hier_Join N) (W_node_Join N) N
theorem con_world_New_ok (N : Nat) : (u_world_New.con (W_world_New N)).ok P0 := Uf.ok mixed (q_world_New (W_hier_New N) (W_hier_Join N) (W_node_Join N) N) ⟨con_hier_New_ok N, con_hier_Join_ok N, con_node_Join_ok N, trivial⟩ Tryz.func12 (by kernel_rfl) fun x y => by kernel_rfl
noncomputable def u_ref1_MayDist : Uf := ⟨86, 83, Tryz.f86, [.val (.list (.list (.int .i64)))], [],
⟨[(2, .val .bool)], []⟩, [],
[(4, .loop [] ⟨[(3, .val (.int .i64))], []⟩ [(.exit 0, ⟨[], []⟩), (.ret, ⟨[(2, .val .bool)], []⟩)]),
(12, .loop [] ⟨[(5, .val (.int .i64))], []⟩ [(.exit 4, ⟨[], []⟩), (.ret, ⟨[(2, .val .bool)], []⟩)]),
(9, .loop [] ⟨[(4, .val (.int .i64))], []⟩ [(.exit 2, ⟨[], []⟩), (.ret, ⟨[(2, .val .bool)], []⟩)])],
[], fun y => (valW .bool y, [], [])⟩
noncomputable def V_ref1_MayDist (N : Nat) (x : List (List Int)) : Option (Bool) :=
  cnd (decide ((↑(List.length x) : Int) ≠ (8:Int))) (some false) (obind (loopN N (fun (v : Int) => cnd (decide (v < (↑(List.length x) : Int))) (cnd
    (decide ((0:Int) ≤ v) && decide (v < (↑(List.length x) : Int))) (cnd (decide ((↑(List.length (List.getD x (Int.toNat v) [])) : Int) ≠ (8:Int)))
    (some (Sum.inr (Sum.inr false))) (some (Sum.inl (wr .i64 (v + (1:Int)))))) none) (some (Sum.inr (Sum.inl ())))) (Int.ofNat (0:Nat))) fun (b : PUnit
    ⊕ Bool) => selim (fun (b : PUnit) => obind (loopN N (fun (v : Int) => cnd (decide (v < (↑(List.length x) : Int))) (obind (loopN N (fun (v_1 : Int)
    => cnd (decide (v_1 < (↑(List.length x) : Int))) (cnd (decide ((0:Int) ≤ v) && decide (v < (↑(List.length x) : Int))) (cnd (decide ((0:Int) ≤ v_1)
    && decide (v_1 < (↑(List.length (List.getD x (Int.toNat v) [])) : Int))) (cnd (decide (List.getD (List.getD x (Int.toNat v) []) (Int.toNat v_1)
    (0:Int) < (0:Int))) (some (Sum.inr (Sum.inr false))) (cnd (decide ((0:Int) ≤ v) && decide (v < (↑(List.length x) : Int))) (cnd (decide ((0:Int) ≤
    v_1) && decide (v_1 < (↑(List.length (List.getD x (Int.toNat v) [])) : Int))) (cnd (decide ((1000:Int) < List.getD (List.getD x (Int.toNat v) [])
    (Int.toNat v_1) (0:Int))) (some (Sum.inr (Sum.inr false))) (cnd (decide ((0:Int) ≤ v) && decide (v < (↑(List.length x) : Int))) (cnd (decide
    ((0:Int) ≤ v_1) && decide (v_1 < (↑(List.length (List.getD x (Int.toNat v) [])) : Int))) (cnd (decide ((0:Int) ≤ v_1) && decide (v_1 <
    (↑(List.length x) : Int))) (cnd (decide ((0:Int) ≤ v) && decide (v < (↑(List.length (List.getD x (Int.toNat v_1) [])) : Int))) (cnd (decide
    (List.getD (List.getD x (Int.toNat v) []) (Int.toNat v_1) (0:Int) ≠ List.getD (List.getD x (Int.toNat v_1) []) (Int.toNat v) (0:Int))) (some
    (Sum.inr (Sum.inr false))) (cnd (decide (v = v_1)) (cnd (decide ((0:Int) ≤ v) && decide (v < (↑(List.length x) : Int))) (cnd (decide ((0:Int) ≤ v_1)
    && decide (v_1 < (↑(List.length (List.getD x (Int.toNat v) [])) : Int))) (cnd (decide (List.getD (List.getD x (Int.toNat v) []) (Int.toNat v_1)
    (0:Int) ≠ (0:Int))) (some (Sum.inr (Sum.inr false))) (some (Sum.inl (wr .i64 (v_1 + (1:Int)))))) none) none) (some (Sum.inl (wr .i64 (v_1 +
    (1:Int))))))) none) none) none) none)) none) none)) none) none) (some (Sum.inr (Sum.inl ())))) (Int.ofNat (0:Nat))) fun (b : PUnit ⊕ Bool) => selim
    (fun (b : PUnit) => some (Sum.inl (wr .i64 (v + (1:Int))))) (fun (c : Bool) => some (Sum.inr (Sum.inr c))) b) (some (Sum.inr (Sum.inl ()))))
    (Int.ofNat (0:Nat))) fun (b : PUnit ⊕ Bool) => selim (fun (b : PUnit) => some true) (fun (c : Bool) => some c) b) (fun (c : Bool) => some c) b)
theorem q_ref1_MayDist : ∀ N x, u_ref1_MayDist.F L0 P0 (orcOf []) N x = V_ref1_MayDist N x := by intros; kernel_rfl
noncomputable def W_ref1_MayDist (N : Nat) := V_ref1_MayDist N
theorem con_ref1_MayDist_ok (N : Nat) : (u_ref1_MayDist.con (W_ref1_MayDist N)).ok P0 := Uf.ok mixed (q_ref1_MayDist N) trivial Tryz.func86 (by kernel_rfl) fun x y => by kernel_rfl
noncomputable def u_ref7_New : Uf := ⟨38, 40, Tryz.f38, [.val (.list (.list (.int .i64))), .val (.int .i64)], [],
⟨[(4, .ptr 600004 0), (5, .val .bool)], [(600004, .box 35 (.val T2_))]⟩, [],
[(5, .loop [] ⟨[(4, .ptr 600004 0), (6, .ptr 600006 0), (7, .val (.int .i64))], [(600004, .box 35 (.val T2_)), (600006, .box 35 (.pair (.val (.int .i64)) (.pair (.acc 602006) (.val (.list (.list T4_)))))), (602006, .nrow 25 (.list (.int .i64)) false true)]⟩ [(.exit 0, ⟨[(4, .ptr 600004 0), (6, .ptr 600006 0)], [(600004, .box 35 (.val T2_)), (600006, .box 35 (.pair (.val (.int .i64)) (.pair (.acc 602006) (.val (.list (.list T4_)))))), (602006, .nrow 25 (.list (.int .i64)) false true)]⟩)])],
[(1000001, .reg [(7, [], ⟨[(4, .ptr 600004 0), (14, .val .bool)], [(600004, .box 35 (.val T2_))]⟩)])], fun y => (.tup [valW (.agg T2_) y.2, valW .bool y.1], [], [])⟩
noncomputable def V_ref7_New (w_ref1_MayDist : List (List Int) → Option (Bool)) (N : Nat) (x : List (List Int) × Int) : Option (Bool × A1_) :=
  obind (obind (w_ref1_MayDist x.1) fun b => cnd (!b) (some (true, (0:Int), [], [])) (some (decide (x.2 < (1:Int)), (0:Int), [], []))) fun (b : Bool × A1_) => cnd b.1 (some (false, (0:Int), [], [])) (cnd (decide ((3:Int) < x.2)) (some (false,
    (0:Int), [], [])) (obind (loopN N (fun (v : Int × A1_ × Int × List (List (List Int × Int)) × List (List Int)) => cnd (decide (v.1 < (↑(List.length x.1) : Int))) (cnd (decide ((0:Int) ≤ v.1) && decide (v.1 < (↑(List.length x.1) : Int))) (cnd
    (decide (List.length (List.getD x.1 (Int.toNat v.1) []) * (8:Nat) ≤ (140737488355328:Nat))) (cnd (decide ((List.length v.2.2.2.2 + (1:Nat)) *
    (24:Nat) ≤ (140737488355328:Nat))) (some (Sum.inl (wr .i64 (v.1 + (1:Int)), v.2.1, v.2.2.1, v.2.2.2.1, v.2.2.2.2 ++ [List.getD x.1 (Int.toNat v.1)
    []]))) none) none) none) (some (Sum.inr v.2))) ((0:Int), b.2, x.2, [], [])) fun (b : A1_ × Int × List (List (List Int × Int)) × List (List Int)) => some (true, b.2.1, b.2.2.2, b.2.2.1)))
theorem q_ref7_New : ∀ w_ref1_MayDist N x, u_ref7_New.F L0 P0 (orcOf [u_ref1_MayDist.con w_ref1_MayDist]) N x = V_ref7_New w_ref1_MayDist N x := by intros; kernel_rfl
noncomputable def W_ref7_New (N : Nat) := V_ref7_New (W_ref1_MayDist N) N
theorem con_ref7_New_ok (N : Nat) : (u_ref7_New.con (W_ref7_New N)).ok P0 := Uf.ok mixed (q_ref7_New (W_ref1_MayDist N) N) ⟨con_ref1_MayDist_ok N, trivial⟩ Tryz.func38 (by kernel_rfl) fun x y => by kernel_rfl
noncomputable def u_ref1_Has : Uf := ⟨160, 18, Tryz.f160, [.val (.list (.int .i64)), .val (.int .i64)], [],
⟨[(4, .val .bool)], []⟩, [],
[(2, .loop [] ⟨[(5, .val (.int .i64))], []⟩ [(.exit 0, ⟨[], []⟩), (.ret, ⟨[(4, .val .bool)], []⟩)])],
[], fun y => (valW .bool y, [], [])⟩
noncomputable def V_ref1_Has (N : Nat) (x : List Int × Int) : Option (Bool) :=
  obind (loopN N (fun (v : Int) => cnd (decide (v < (↑(List.length x.1) : Int))) (cnd (decide ((0:Int) ≤ v) && decide (v < (↑(List.length x.1) : Int)))
    (cnd (decide (List.getD x.1 (Int.toNat v) (0:Int) = x.2)) (some (Sum.inr (Sum.inr true))) (some (Sum.inl (wr .i64 (v + (1:Int)))))) none) (some
    (Sum.inr (Sum.inl ())))) (Int.ofNat (0:Nat))) fun (b : PUnit ⊕ Bool) => selim (fun (b : PUnit) => some false) (fun (c : Bool) => some c) b
theorem q_ref1_Has : ∀ N x, u_ref1_Has.F L0 P0 (orcOf []) N x = V_ref1_Has N x := by intros; kernel_rfl
noncomputable def W_ref1_Has (N : Nat) := V_ref1_Has N
theorem con_ref1_Has_ok (N : Nat) : (u_ref1_Has.con (W_ref1_Has N)).ok P0 := Uf.ok mixed (q_ref1_Has N) trivial Tryz.func160 (by kernel_rfl) fun x y => by kernel_rfl
noncomputable def u_ref7_Home : Uf := ⟨87, 20, Tryz.f87, [.val (.list T4_), .val (.int .i64)], [],
⟨[(4, .val (.int .i64))], []⟩, [],
[(2, .loop [] ⟨[(5, .val (.int .i64))], []⟩ [(.exit 0, ⟨[], []⟩), (.ret, ⟨[(4, .val (.int .i64))], []⟩)])],
[], fun y => (valW (.int .i64) y, [], [])⟩
noncomputable def V_ref7_Home (w_ref1_Has : List Int × Int → Option (Bool)) (N : Nat) (x : List (List Int × Int) × Int) : Option (Int) :=
  obind (loopN N (fun (v : Int) => cnd (decide (v < (↑(List.length x.1) : Int))) (cnd (decide ((0:Int) ≤ v) && decide (v < (↑(List.length x.1) : Int)))
    (obind (w_ref1_Has (Prod.fst (List.getD x.1 (Int.toNat v) ([], (0:Int))), x.2)) fun b => cnd b (some (Sum.inr (Sum.inr v))) (some (Sum.inl (wr
    .i64 (v + (1:Int)))))) none) (some (Sum.inr (Sum.inl ())))) (Int.ofNat (0:Nat))) fun (b : PUnit ⊕ Int) => selim (fun (b : PUnit) => some (-1 : Int))
    (fun (c : Int) => some c) b
theorem q_ref7_Home : ∀ w_ref1_Has N x, u_ref7_Home.F L0 P0 (orcOf [u_ref1_Has.con w_ref1_Has]) N x = V_ref7_Home w_ref1_Has N x := by intros; kernel_rfl
noncomputable def W_ref7_Home (N : Nat) := V_ref7_Home (W_ref1_Has N) N
theorem con_ref7_Home_ok (N : Nat) : (u_ref7_Home.con (W_ref7_Home N)).ok P0 := Uf.ok mixed (q_ref7_Home (W_ref1_Has N) N) ⟨con_ref1_Has_ok N, trivial⟩ Tryz.func87 (by kernel_rfl) fun x y => by kernel_rfl
noncomputable def u_ref7_Near : Uf := ⟨88, 48, Tryz.f88, [.val (.list (.list (.int .i64))), .val (.int .i64), .val (.list (.int .i64))], [],
⟨[(6, .val (.int .i64))], []⟩, [],
[(3, .loop [] ⟨[(7, .val (.int .i64)), (8, .val (.int .i64))], []⟩ [(.exit 0, ⟨[(7, .val (.int .i64))], []⟩)])],
[], fun y => (valW (.int .i64) y, [], [])⟩
noncomputable def V_ref7_Near (w_ref1_Has : List Int × Int → Option (Bool)) (N : Nat) (x : List (List Int) × Int × List Int) : Option (Int) :=
  obind (loopN N (fun (v : Int × Int) => cnd (decide (v.2 ≤ (8:Int))) (cnd (decide (v.2 ≠ x.2.1)) (obind (w_ref1_Has (x.2.2, v.2)) fun b => cnd b (cnd
    (decide (v.1 = (0:Int))) (some (Sum.inl (v.2, wr .i64 (v.2 + (1:Int))))) (cnd (decide ((0:Int) ≤ wr .i64 (x.2.1 - (1:Int))) && decide (wr .i64
    (x.2.1 - (1:Int)) < (↑(List.length x.1) : Int))) (cnd (decide ((0:Int) ≤ wr .i64 (v.2 - (1:Int))) && decide (wr .i64 (v.2 - (1:Int)) <
    (↑(List.length (List.getD x.1 (Int.toNat (wr .i64 (x.2.1 - (1:Int)))) [])) : Int))) (cnd (decide ((0:Int) ≤ wr .i64 (x.2.1 - (1:Int))) && decide (wr
    .i64 (x.2.1 - (1:Int)) < (↑(List.length x.1) : Int))) (cnd (decide ((0:Int) ≤ wr .i64 (v.1 - (1:Int))) && decide (wr .i64 (v.1 - (1:Int)) <
    (↑(List.length (List.getD x.1 (Int.toNat (wr .i64 (x.2.1 - (1:Int)))) [])) : Int))) (cnd (decide (List.getD (List.getD x.1 (Int.toNat (wr .i64
    (x.2.1 - (1:Int)))) []) (Int.toNat (wr .i64 (v.2 - (1:Int)))) (0:Int) < List.getD (List.getD x.1 (Int.toNat (wr .i64 (x.2.1 - (1:Int)))) [])
    (Int.toNat (wr .i64 (v.1 - (1:Int)))) (0:Int))) (some (Sum.inl (v.2, wr .i64 (v.2 + (1:Int))))) (some (Sum.inl (v.1, wr .i64 (v.2 + (1:Int))))))
    none) none) none) none)) (some (Sum.inl (v.1, wr .i64 (v.2 + (1:Int)))))) (some (Sum.inl (v.1, wr .i64 (v.2 + (1:Int)))))) (some (Sum.inr v.1)))
    ((0:Int), (1:Int))) fun (b : Int) => some b
theorem q_ref7_Near : ∀ w_ref1_Has N x, u_ref7_Near.F L0 P0 (orcOf [u_ref1_Has.con w_ref1_Has]) N x = V_ref7_Near w_ref1_Has N x := by intros; kernel_rfl
noncomputable def W_ref7_Near (N : Nat) := V_ref7_Near (W_ref1_Has N) N
theorem con_ref7_Near_ok (N : Nat) : (u_ref7_Near.con (W_ref7_Near N)).ok P0 := Uf.ok mixed (q_ref7_Near (W_ref1_Has N) N) ⟨con_ref1_Has_ok N, trivial⟩ Tryz.func88 (by kernel_rfl) fun x y => by kernel_rfl
noncomputable def u_ref7_Far : Uf := ⟨287, 30, Tryz.f287, [.val (.list (.list (.int .i64))), .val (.int .i64), .val (.list (.int .i64))], [],
⟨[(6, .val (.int .i64))], []⟩, [],
[(3, .loop [] ⟨[(7, .val (.int .i64)), (8, .val (.int .i64))], []⟩ [(.exit 0, ⟨[(7, .val (.int .i64))], []⟩)])],
[], fun y => (valW (.int .i64) y, [], [])⟩
noncomputable def V_ref7_Far (N : Nat) (x : List (List Int) × Int × List Int) : Option (Int) :=
  obind (loopN N (fun (v : Int × Int) => cnd (decide (v.2 < (↑(List.length x.2.2) : Int))) (cnd (decide ((0:Int) ≤ wr .i64 (x.2.1 - (1:Int))) && decide
    (wr .i64 (x.2.1 - (1:Int)) < (↑(List.length x.1) : Int))) (cnd (decide ((0:Int) ≤ v.2) && decide (v.2 < (↑(List.length x.2.2) : Int))) (cnd (decide
    ((0:Int) ≤ wr .i64 (List.getD x.2.2 (Int.toNat v.2) (0:Int) - (1:Int))) && decide (wr .i64 (List.getD x.2.2 (Int.toNat v.2) (0:Int) - (1:Int)) <
    (↑(List.length (List.getD x.1 (Int.toNat (wr .i64 (x.2.1 - (1:Int)))) [])) : Int))) (some (Sum.inl (max v.1 (List.getD (List.getD x.1 (Int.toNat (wr
    .i64 (x.2.1 - (1:Int)))) []) (Int.toNat (wr .i64 (List.getD x.2.2 (Int.toNat v.2) (0:Int) - (1:Int)))) (0:Int)), wr .i64 (v.2 + (1:Int))))) none)
    none) none) (some (Sum.inr v.1))) ((0:Int), (0:Int))) fun (b : Int) => some b
theorem q_ref7_Far : ∀ N x, u_ref7_Far.F L0 P0 (orcOf []) N x = V_ref7_Far N x := by intros; kernel_rfl
noncomputable def W_ref7_Far (N : Nat) := V_ref7_Far N
theorem con_ref7_Far_ok (N : Nat) : (u_ref7_Far.con (W_ref7_Far N)).ok P0 := Uf.ok mixed (q_ref7_Far N) trivial Tryz.func287 (by kernel_rfl) fun x y => by kernel_rfl
noncomputable def u_ref7_Mid : Uf := ⟨231, 31, Tryz.f231, [.val (.list (.list (.int .i64))), .val (.list (.int .i64))], [],
⟨[(4, .val (.int .i64))], []⟩, [],
[(3, .loop [] ⟨[(5, .val (.int .i64)), (6, .val (.int .i64))], []⟩ [(.exit 0, ⟨[(5, .val (.int .i64))], []⟩)])],
[], fun y => (valW (.int .i64) y, [], [])⟩
noncomputable def V_ref7_Mid (w_ref1_Has : List Int × Int → Option (Bool)) (w_ref7_Far : List (List Int) × Int × List Int → Option (Int)) (N : Nat) (x : List (List Int) × List Int) : Option (Int) :=
  obind (loopN N (fun (v : Int × Int) => cnd (decide (v.2 ≤ (8:Int))) (obind (w_ref1_Has (x.2, v.2)) fun b => cnd b (cnd (decide (v.1 = (0:Int)))
    (some (Sum.inl (v.2, wr .i64 (v.2 + (1:Int))))) (obind (w_ref7_Far (x.1, v.2, x.2)) fun b => obind (w_ref7_Far (x.1, v.1, x.2)) fun b_1 => cnd
    (decide (b < b_1)) (some (Sum.inl (v.2, wr .i64 (v.2 + (1:Int))))) (some (Sum.inl (v.1, wr .i64 (v.2 + (1:Int))))))) (some (Sum.inl (v.1, wr .i64
    (v.2 + (1:Int)))))) (some (Sum.inr v.1))) ((0:Int), (1:Int))) fun (b : Int) => some b
theorem q_ref7_Mid : ∀ w_ref1_Has w_ref7_Far N x, u_ref7_Mid.F L0 P0 (orcOf [u_ref1_Has.con w_ref1_Has, u_ref7_Far.con w_ref7_Far]) N x = V_ref7_Mid w_ref1_Has w_ref7_Far N x := by intros; kernel_rfl
noncomputable def W_ref7_Mid (N : Nat) := V_ref7_Mid (W_ref1_Has N) (W_ref7_Far N) N
theorem con_ref7_Mid_ok (N : Nat) : (u_ref7_Mid.con (W_ref7_Mid N)).ok P0 := Uf.ok mixed (q_ref7_Mid (W_ref1_Has N) (W_ref7_Far N) N) ⟨con_ref1_Has_ok N, con_ref7_Far_ok N, trivial⟩ Tryz.func231 (by kernel_rfl) fun x y => by kernel_rfl
noncomputable def u_ref7_Of : Uf := ⟨163, 12, Tryz.f163, [.val (.list (.list (.int .i64))), .val (.list (.int .i64))], [],
⟨[(4, .ptr 600004 0)], [(600004, .box 137 (.val (.pair (.list (.int .i64)) (.int .i64))))]⟩, [],
[],
[], fun y => (valW T4_ y, [], [])⟩
noncomputable def V_ref7_Of (w_ref7_Mid : List (List Int) × List Int → Option (Int)) (N : Nat) (x : List (List Int) × List Int) : Option (List Int × Int) :=
  cnd (decide (List.length x.2 * (8:Nat) ≤ (140737488355328:Nat))) (obind (w_ref7_Mid x) fun b => some (x.2, b)) none
theorem q_ref7_Of : ∀ w_ref7_Mid N x, u_ref7_Of.F L0 P0 (orcOf [u_ref7_Mid.con w_ref7_Mid]) N x = V_ref7_Of w_ref7_Mid N x := by intros; kernel_rfl
noncomputable def W_ref7_Of (N : Nat) := V_ref7_Of (W_ref7_Mid N) N
theorem con_ref7_Of_ok (N : Nat) : (u_ref7_Of.con (W_ref7_Of N)).ok P0 := Uf.ok mixed (q_ref7_Of (W_ref7_Mid N) N) ⟨con_ref7_Mid_ok N, trivial⟩ Tryz.func163 (by kernel_rfl) fun x y => by kernel_rfl
noncomputable def u_ref7_Rising : Uf := ⟨164, 17, Tryz.f164, [.val (.list (.int .i64))], [],
⟨[(2, .acc 700003)], [(700003, .nrow 3 (.int .i64) true true)]⟩, [],
[(3, .loop [] ⟨[(3, .acc 700003), (4, .val (.int .i64))], [(700003, .nrow 3 (.int .i64) true true)]⟩ [(.exit 0, ⟨[(3, .acc 700003)], [(700003, .nrow 3 (.int .i64) true true)]⟩)])],
[], fun y => (.acc 2000000 0, [], [.nrow 3 true true ⟨(.int .i64), y⟩])⟩
noncomputable def V_ref7_Rising (w_ref1_Has : List Int × Int → Option (Bool)) (N : Nat) (x : List Int) : Option (List Int) :=
  obind (loopN N (fun (v : Int × List Int) => cnd (decide (v.1 ≤ (8:Int))) (obind (w_ref1_Has (x, v.1)) fun b => cnd b (cnd (decide ((List.length v.2
    + List.length [v.1]) * (8:Nat) ≤ (140737488355328:Nat))) (some (Sum.inl (wr .i64 (v.1 + (1:Int)), v.2 ++ [v.1]))) none) (some (Sum.inl (wr .i64 (v.1
    + (1:Int)), v.2)))) (some (Sum.inr v.2))) ((1:Int), [])) fun (b : List Int) => some b
theorem q_ref7_Rising : ∀ w_ref1_Has N x, u_ref7_Rising.F L0 P0 (orcOf [u_ref1_Has.con w_ref1_Has]) N x = V_ref7_Rising w_ref1_Has N x := by intros; kernel_rfl
noncomputable def W_ref7_Rising (N : Nat) := V_ref7_Rising (W_ref1_Has N) N
theorem con_ref7_Rising_ok (N : Nat) : (u_ref7_Rising.con (W_ref7_Rising N)).ok P0 := Uf.ok mixed (q_ref7_Rising (W_ref1_Has N) N) ⟨con_ref1_Has_ok N, trivial⟩ Tryz.func164 (by kernel_rfl) fun x y => by kernel_rfl
noncomputable def u_ref7_without : Uf := ⟨256, 27, Tryz.f256, [.val (.list (.int .i64)), .val (.int .i64)], [],
⟨[(4, .acc 700005)], [(700005, .nrow 3 (.int .i64) true true)]⟩, [],
[(3, .loop [] ⟨[(5, .acc 700005), (6, .val (.int .i64))], [(700005, .nrow 3 (.int .i64) true true)]⟩ [(.exit 0, ⟨[(5, .acc 700005)], [(700005, .nrow 3 (.int .i64) true true)]⟩)])],
[], fun y => (.acc 2000000 0, [], [.nrow 3 true true ⟨(.int .i64), y⟩])⟩
noncomputable def V_ref7_without (N : Nat) (x : List Int × Int) : Option (List Int) :=
  obind (loopN N (fun (v : Int × List Int) => cnd (decide (v.1 < (↑(List.length x.1) : Int))) (cnd (decide ((0:Int) ≤ v.1) && decide (v.1 <
    (↑(List.length x.1) : Int))) (cnd (decide (List.getD x.1 (Int.toNat v.1) (0:Int) ≠ x.2)) (cnd (decide ((0:Int) ≤ v.1) && decide (v.1 <
    (↑(List.length x.1) : Int))) (cnd (decide ((List.length v.2 + List.length [List.getD x.1 (Int.toNat v.1) (0:Int)]) * (8:Nat) ≤
    (140737488355328:Nat))) (some (Sum.inl (wr .i64 (v.1 + (1:Int)), v.2 ++ [List.getD x.1 (Int.toNat v.1) (0:Int)]))) none) none) (some (Sum.inl (wr
    .i64 (v.1 + (1:Int)), v.2)))) none) (some (Sum.inr v.2))) ((0:Int), [])) fun (b : List Int) => some b
theorem q_ref7_without : ∀ N x, u_ref7_without.F L0 P0 (orcOf []) N x = V_ref7_without N x := by intros; kernel_rfl
noncomputable def W_ref7_without (N : Nat) := V_ref7_without N
theorem con_ref7_without_ok (N : Nat) : (u_ref7_without.con (W_ref7_without N)).ok P0 := Uf.ok mixed (q_ref7_without N) trivial Tryz.func256 (by kernel_rfl) fun x y => by kernel_rfl
noncomputable def u_ref7_Split : Uf := ⟨232, 172, Tryz.f232, [.val (.list (.list (.int .i64))), .val (.list (.int .i64)), .val (.int .i64)], [],
⟨[(6, .val (.list (.int .i64))), (7, .val (.list (.int .i64)))], []⟩, [],
[(8, .loop [] ⟨[(8, .val (.int .i64)), (9, .val (.int .i64)), (11, .val (.int .i64))], []⟩ [(.exit 2, ⟨[(8, .val (.int .i64)), (9, .val (.int .i64))], []⟩)]),
(5, .loop [] ⟨[(8, .val (.int .i64)), (9, .val (.int .i64)), (10, .val (.int .i64))], []⟩ [(.exit 0, ⟨[(8, .val (.int .i64)), (9, .val (.int .i64))], []⟩)]),
(14, .loop [] ⟨[(12, .acc 700169), (13, .acc 700166), (14, .val (.int .i64))], [(700169, .nrow 3 (.int .i64) true true), (700166, .nrow 3 (.int .i64) true true)]⟩ [(.exit 4, ⟨[(12, .acc 700169), (13, .acc 700166)], [(700169, .nrow 3 (.int .i64) true true), (700166, .nrow 3 (.int .i64) true true)]⟩)]),
(20, .loop [] ⟨[(12, .acc 700169), (13, .acc 700166)], [(700169, .nrow 3 (.int .i64) true true), (700166, .nrow 3 (.int .i64) true true)]⟩ [(.exit 6, ⟨[(12, .val (.list (.int .i64))), (13, .acc 700166)], [(700166, .nrow 3 (.int .i64) true true)]⟩)]),
(23, .loop [] ⟨[(12, .val (.list (.int .i64))), (13, .acc 700166)], [(700166, .nrow 3 (.int .i64) true true)]⟩ [(.exit 8, ⟨[(12, .val (.list (.int .i64))), (13, .val (.list (.int .i64)))], []⟩)])],
[], fun y => (.tup [valW (.list (.int .i64)) y.1, valW (.list (.int .i64)) y.2], [], [])⟩
noncomputable def V_ref7_Split (w_ref7_without : List Int × Int → Option (List Int)) (w_ref7_Near : List (List Int) × Int × List Int → Option (Int)) (w_ref7_Rising : List Int → Option (List Int)) (N : Nat) (x : List (List Int) × List Int × Int) : Option (List Int × List Int) :=
  cnd (decide ((↑(List.length x.2.1) : Int) < (2:Int))) (cnd (decide (List.length x.2.1 * (8:Nat) ≤ (140737488355328:Nat))) (some (x.2.1, [])) none)
    (obind (loopN N (fun (v : Int × Int × Int) => cnd (decide (v.2.2 < (↑(List.length x.2.1) : Int))) (obind (loopN N (fun (v_1 : Int × Int × Int) =>
    cnd (decide (v_1.2.2 < (↑(List.length x.2.1) : Int))) (cnd (decide (v_1.1 = (0:Int))) (cnd (decide ((0:Int) ≤ v.2.2) && decide (v.2.2 <
    (↑(List.length x.2.1) : Int))) (cnd (decide ((0:Int) ≤ v_1.2.2) && decide (v_1.2.2 < (↑(List.length x.2.1) : Int))) (some (Sum.inl (List.getD x.2.1
    (Int.toNat v.2.2) (0:Int), List.getD x.2.1 (Int.toNat v_1.2.2) (0:Int), wr .i64 (v_1.2.2 + (1:Int))))) none) none) (cnd (decide ((0:Int) ≤ v.2.2) &&
    decide (v.2.2 < (↑(List.length x.2.1) : Int))) (cnd (decide ((0:Int) ≤ wr .i64 (List.getD x.2.1 (Int.toNat v.2.2) (0:Int) - (1:Int))) && decide (wr
    .i64 (List.getD x.2.1 (Int.toNat v.2.2) (0:Int) - (1:Int)) < (↑(List.length x.1) : Int))) (cnd (decide ((0:Int) ≤ v_1.2.2) && decide (v_1.2.2 <
    (↑(List.length x.2.1) : Int))) (cnd (decide ((0:Int) ≤ wr .i64 (List.getD x.2.1 (Int.toNat v_1.2.2) (0:Int) - (1:Int))) && decide (wr .i64
    (List.getD x.2.1 (Int.toNat v_1.2.2) (0:Int) - (1:Int)) < (↑(List.length (List.getD x.1 (Int.toNat (wr .i64 (List.getD x.2.1 (Int.toNat v.2.2)
    (0:Int) - (1:Int)))) [])) : Int))) (cnd (decide ((0:Int) ≤ wr .i64 (v_1.1 - (1:Int))) && decide (wr .i64 (v_1.1 - (1:Int)) < (↑(List.length x.1) :
    Int))) (cnd (decide ((0:Int) ≤ wr .i64 (v_1.2.1 - (1:Int))) && decide (wr .i64 (v_1.2.1 - (1:Int)) < (↑(List.length (List.getD x.1 (Int.toNat (wr
    .i64 (v_1.1 - (1:Int)))) [])) : Int))) (cnd (decide (List.getD (List.getD x.1 (Int.toNat (wr .i64 (v_1.1 - (1:Int)))) []) (Int.toNat (wr .i64
    (v_1.2.1 - (1:Int)))) (0:Int) < List.getD (List.getD x.1 (Int.toNat (wr .i64 (List.getD x.2.1 (Int.toNat v.2.2) (0:Int) - (1:Int)))) []) (Int.toNat
    (wr .i64 (List.getD x.2.1 (Int.toNat v_1.2.2) (0:Int) - (1:Int)))) (0:Int))) (cnd (decide ((0:Int) ≤ v.2.2) && decide (v.2.2 < (↑(List.length x.2.1)
    : Int))) (cnd (decide ((0:Int) ≤ v_1.2.2) && decide (v_1.2.2 < (↑(List.length x.2.1) : Int))) (some (Sum.inl (List.getD x.2.1 (Int.toNat v.2.2)
    (0:Int), List.getD x.2.1 (Int.toNat v_1.2.2) (0:Int), wr .i64 (v_1.2.2 + (1:Int))))) none) none) (some (Sum.inl (v_1.1, v_1.2.1, wr .i64 (v_1.2.2 +
    (1:Int)))))) none) none) none) none) none) none)) (some (Sum.inr (v_1.1, v_1.2.1)))) (v.1, v.2.1, wr .i64 (v.2.2 + (1:Int)))) fun (b : Int × Int) =>
    some (Sum.inl (b.1, b.2, wr .i64 (v.2.2 + (1:Int))))) (some (Sum.inr (v.1, v.2.1)))) ((0:Int), (0:Int), (0:Int))) fun (b : Int × Int) => obind
    (loopN N (fun (v : Int × List Int × List Int) => cnd (decide (v.1 < (↑(List.length x.2.1) : Int))) (cnd (decide ((0:Int) ≤ v.1) && decide (v.1 <
    (↑(List.length x.2.1) : Int))) (cnd (decide (List.getD x.2.1 (Int.toNat v.1) (0:Int) ≠ b.2)) (cnd (decide (List.getD x.2.1 (Int.toNat v.1) (0:Int) =
    b.1)) (cnd (decide ((List.length v.2.1 + List.length [List.getD x.2.1 (Int.toNat v.1) (0:Int)]) * (8:Nat) ≤ (140737488355328:Nat))) (some (Sum.inl
    (wr .i64 (v.1 + (1:Int)), v.2.1 ++ [List.getD x.2.1 (Int.toNat v.1) (0:Int)], v.2.2))) none) (cnd (decide ((0:Int) ≤ wr .i64 (List.getD x.2.1
    (Int.toNat v.1) (0:Int) - (1:Int))) && decide (wr .i64 (List.getD x.2.1 (Int.toNat v.1) (0:Int) - (1:Int)) < (↑(List.length x.1) : Int))) (cnd
    (decide ((0:Int) ≤ wr .i64 (b.1 - (1:Int))) && decide (wr .i64 (b.1 - (1:Int)) < (↑(List.length (List.getD x.1 (Int.toNat (wr .i64 (List.getD x.2.1
    (Int.toNat v.1) (0:Int) - (1:Int)))) [])) : Int))) (cnd (decide ((0:Int) ≤ wr .i64 (List.getD x.2.1 (Int.toNat v.1) (0:Int) - (1:Int))) && decide
    (wr .i64 (List.getD x.2.1 (Int.toNat v.1) (0:Int) - (1:Int)) < (↑(List.length x.1) : Int))) (cnd (decide ((0:Int) ≤ wr .i64 (b.2 - (1:Int))) &&
    decide (wr .i64 (b.2 - (1:Int)) < (↑(List.length (List.getD x.1 (Int.toNat (wr .i64 (List.getD x.2.1 (Int.toNat v.1) (0:Int) - (1:Int)))) [])) :
    Int))) (cnd (decide (List.getD (List.getD x.1 (Int.toNat (wr .i64 (List.getD x.2.1 (Int.toNat v.1) (0:Int) - (1:Int)))) []) (Int.toNat (wr .i64 (b.1
    - (1:Int)))) (0:Int) ≤ List.getD (List.getD x.1 (Int.toNat (wr .i64 (List.getD x.2.1 (Int.toNat v.1) (0:Int) - (1:Int)))) []) (Int.toNat (wr .i64
    (b.2 - (1:Int)))) (0:Int))) (cnd (decide ((List.length v.2.1 + List.length [List.getD x.2.1 (Int.toNat v.1) (0:Int)]) * (8:Nat) ≤
    (140737488355328:Nat))) (some (Sum.inl (wr .i64 (v.1 + (1:Int)), v.2.1 ++ [List.getD x.2.1 (Int.toNat v.1) (0:Int)], v.2.2))) none) (cnd (decide
    ((List.length v.2.2 + List.length [List.getD x.2.1 (Int.toNat v.1) (0:Int)]) * (8:Nat) ≤ (140737488355328:Nat))) (some (Sum.inl (wr .i64 (v.1 +
    (1:Int)), v.2.1, v.2.2 ++ [List.getD x.2.1 (Int.toNat v.1) (0:Int)]))) none)) none) none) none) none)) (cnd (decide ((List.length v.2.2 +
    List.length [List.getD x.2.1 (Int.toNat v.1) (0:Int)]) * (8:Nat) ≤ (140737488355328:Nat))) (some (Sum.inl (wr .i64 (v.1 + (1:Int)), v.2.1, v.2.2 ++
    [List.getD x.2.1 (Int.toNat v.1) (0:Int)]))) none)) none) (some (Sum.inr v.2))) ((0:Int), [], [])) fun (b_1 : List Int × List Int) => obind (loopN N
    (fun (v : List Int × List Int) => cnd (decide ((↑(List.length v.1) : Int) < x.2.2)) (cnd (decide (x.2.2 < (↑(List.length v.2) : Int))) (obind
    (w_ref7_without (v.2, b.2)) fun b_2 => obind (w_ref7_Near (x.1, b.1, b_2)) fun b => cnd (decide ((List.length v.1 + List.length [b]) * (8:Nat) ≤
    (140737488355328:Nat))) (obind (w_ref7_Rising (v.1 ++ [b])) fun b_3 => obind (w_ref7_without (v.2, b)) fun b => some (Sum.inl (b_3, b))) none)
    (some (Sum.inr v))) (some (Sum.inr v))) b_1) fun (b_2 : List Int × List Int) => obind (loopN N (fun (v : List Int × List Int) => cnd (decide
    ((↑(List.length v.2) : Int) < x.2.2)) (cnd (decide (x.2.2 < (↑(List.length v.1) : Int))) (obind (w_ref7_without (v.1, b.1)) fun b_3 => obind
    (w_ref7_Near (x.1, b.2, b_3)) fun b => cnd (decide ((List.length v.2 + List.length [b]) * (8:Nat) ≤ (140737488355328:Nat))) (obind (w_ref7_Rising (v.2 ++ [b])) fun b_4 => obind (w_ref7_without (v.1, b)) fun b => some (Sum.inl (b, b_4))) none) (some (Sum.inr v))) (some (Sum.inr v))) b_2)
    fun (b : List Int × List Int) => some b)
theorem q_ref7_Split : ∀ w_ref7_without w_ref7_Near w_ref7_Rising N x, u_ref7_Split.F L0 P0 (orcOf [u_ref7_without.con w_ref7_without, u_ref7_Near.con w_ref7_Near, u_ref7_Rising.con w_ref7_Rising]) N x = V_ref7_Split w_ref7_without w_ref7_Near w_ref7_Rising N x := by intros; kernel_rfl
noncomputable def W_ref7_Split (N : Nat) := V_ref7_Split (W_ref7_without N) (W_ref7_Near N) (W_ref7_Rising N) N
theorem con_ref7_Split_ok (N : Nat) : (u_ref7_Split.con (W_ref7_Split N)).ok P0 := Uf.ok mixed (q_ref7_Split (W_ref7_without N) (W_ref7_Near N) (W_ref7_Rising N) N) ⟨con_ref7_without_ok N, con_ref7_Near_ok N, con_ref7_Rising_ok N, trivial⟩ Tryz.func232 (by kernel_rfl) fun x y => by kernel_rfl
noncomputable def u_ref7_parted : Uf := ⟨165, 42, Tryz.f165, [.val (.list (.list (.int .i64))), .val (.list T4_), .val (.int .i64), .val (.int .i64)], [],
⟨[(8, .val (.list T4_))], []⟩, [],
[],
[], fun y => (valW (.list T4_) y, [], [])⟩
noncomputable def V_ref7_parted (w_ref7_Split : List (List Int) × List Int × Int → Option (List Int × List Int)) (w_ref7_Of : List (List Int) × List Int → Option (List Int × Int)) (N : Nat) (x : List (List Int) × List (List Int × Int) × Int × Int) : Option (List (List Int × Int)) :=
  cnd (decide ((0:Int) ≤ x.2.2.1) && decide (x.2.2.1 < (↑(List.length x.2.1) : Int))) (obind (w_ref7_Split (x.1, Prod.fst (List.getD x.2.1 (Int.toNat
    x.2.2.1) ([], (0:Int))), x.2.2.2)) fun b => cnd (decide ((0:Int) ≤ x.2.2.1) && decide (x.2.2.1 ≤ (↑(List.length x.2.1) : Int))) (cnd (decide
    (List.length (List.drop (0:Nat) (List.take (Int.toNat x.2.2.1) x.2.1)) * (32:Nat) ≤ (140737488355328:Nat))) (obind (w_ref7_Of (x.1, b.1)) fun b_1
    => obind (w_ref7_Of (x.1, b.2)) fun b => cnd (decide ((List.length (List.drop (0:Nat) (List.take (Int.toNat x.2.2.1) x.2.1)) + List.length [b_1,
    b]) * (32:Nat) ≤ (140737488355328:Nat))) (cnd (decide ((0:Int) ≤ wr .i64 (x.2.2.1 + (1:Int))) && decide (wr .i64 (x.2.2.1 + (1:Int)) ≤
    (↑(List.length x.2.1) : Int))) (cnd (decide ((List.length (List.drop (0:Nat) (List.take (Int.toNat x.2.2.1) x.2.1) ++ [b_1, b]) + List.length
    (List.drop (Int.toNat (wr .i64 (x.2.2.1 + (1:Int)))) (List.take (List.length x.2.1) x.2.1))) * (32:Nat) ≤ (140737488355328:Nat))) (some (List.drop
    (0:Nat) (List.take (Int.toNat x.2.2.1) x.2.1) ++ [b_1, b] ++ List.drop (Int.toNat (wr .i64 (x.2.2.1 + (1:Int)))) (List.take (List.length x.2.1)
    x.2.1))) none) none) none) none) none) none
theorem q_ref7_parted : ∀ w_ref7_Split w_ref7_Of N x, u_ref7_parted.F L0 P0 (orcOf [u_ref7_Split.con w_ref7_Split, u_ref7_Of.con w_ref7_Of]) N x = V_ref7_parted w_ref7_Split w_ref7_Of N x := by intros; kernel_rfl
noncomputable def W_ref7_parted (N : Nat) := V_ref7_parted (W_ref7_Split N) (W_ref7_Of N) N
theorem con_ref7_parted_ok (N : Nat) : (u_ref7_parted.con (W_ref7_parted N)).ok P0 := Uf.ok mixed (q_ref7_parted (W_ref7_Split N) (W_ref7_Of N) N) ⟨con_ref7_Split_ok N, con_ref7_Of_ok N, trivial⟩ Tryz.func165 (by kernel_rfl) fun x y => by kernel_rfl
noncomputable def u_ref7_JoinClus : Uf := ⟨90, 70, Tryz.f90, [.val (.list (.list (.int .i64))), .val (.list T4_), .val (.int .i64), .val (.int .i64), .val (.int .i64)], [],
⟨[(10, .val (.list T4_))], []⟩, [],
[],
[(1000004, .reg [(8, [], ⟨[(11, .acc 700068), (30, .val .bool)], [(700068, .nrow 137 T4_ false true)]⟩)])], fun y => (valW (.list T4_) y, [], [])⟩
noncomputable def V_ref7_JoinClus (w_ref7_Of : List (List Int) × List Int → Option (List Int × Int)) (w_ref7_Home : List (List Int × Int) × Int → Option (Int)) (w_ref7_Rising : List Int → Option (List Int)) (w_ref7_parted : List (List Int) × List (List Int × Int) × Int × Int → Option (List (List Int × Int))) (N : Nat) (x : List (List Int) × List (List Int × Int) × Int × Int × Int) : Option (List (List Int × Int)) :=
  cnd (decide (List.length x.2.1 * (32:Nat) ≤ (140737488355328:Nat))) (cnd (decide ((↑(List.length x.2.1) : Int) = (0:Int))) (obind (w_ref7_Of (x.1,
    [x.2.2.2.1])) fun b => some [b]) (obind (cnd (decide (x.2.2.1 < (0:Int))) (some (true, x.2.1)) (some (decide ((↑(List.length x.2.1) : Int) ≤
    x.2.2.1), x.2.1))) fun (b : Bool × List (List Int × Int)) => cnd b.1 (some b.2) (obind (w_ref7_Home (x.2.1, x.2.2.2.1)) fun b_1 => cnd (decide
    ((0:Int) ≤ b_1)) (some b.2) (cnd (decide ((0:Int) ≤ x.2.2.1) && decide (x.2.2.1 < (↑(List.length x.2.1) : Int))) (cnd (decide (List.length (Prod.fst
    (List.getD x.2.1 (Int.toNat x.2.2.1) ([], (0:Int)))) * (8:Nat) ≤ (140737488355328:Nat))) (cnd (decide ((List.length (Prod.fst (List.getD x.2.1
    (Int.toNat x.2.2.1) ([], (0:Int)))) + List.length [x.2.2.2.1]) * (8:Nat) ≤ (140737488355328:Nat))) (obind (w_ref7_Rising (Prod.fst (List.getD
    x.2.1 (Int.toNat x.2.2.1) ([], (0:Int))) ++ [x.2.2.2.1])) fun b_2 => obind (w_ref7_Of (x.1, b_2)) fun b_3 => cnd (decide ((0:Int) ≤ x.2.2.1) &&
    decide (x.2.2.1 < (↑(List.length b.2) : Int))) (cnd (decide ((0:Int) ≤ x.2.2.1) && decide (x.2.2.1 < (↑(List.length (putL b.2 [b_3] (Int.toNat
    x.2.2.1))) : Int))) (cnd (decide (wr .i64 (wr .i64 ((3:Int) * x.2.2.2.2) - (1:Int)) < (↑(List.length (Prod.fst (List.getD (putL b.2 [b_3] (Int.toNat
    x.2.2.1)) (Int.toNat x.2.2.1) ([], (0:Int))))) : Int))) (obind (w_ref7_parted (x.1, putL b.2 [b_3] (Int.toNat x.2.2.1), x.2.2.1, x.2.2.2.2)) fun b
    => some b) (some (putL b.2 [b_3] (Int.toNat x.2.2.1)))) none) none) none) none) none)))) none
theorem q_ref7_JoinClus : ∀ w_ref7_Of w_ref7_Home w_ref7_Rising w_ref7_parted N x, u_ref7_JoinClus.F L0 P0 (orcOf [u_ref7_Of.con w_ref7_Of, u_ref7_Home.con w_ref7_Home, u_ref7_Rising.con w_ref7_Rising, u_ref7_parted.con w_ref7_parted]) N x = V_ref7_JoinClus w_ref7_Of w_ref7_Home w_ref7_Rising w_ref7_parted N x := by intros; kernel_rfl
noncomputable def W_ref7_JoinClus (N : Nat) := V_ref7_JoinClus (W_ref7_Of N) (W_ref7_Home N) (W_ref7_Rising N) (W_ref7_parted N) N
theorem con_ref7_JoinClus_ok (N : Nat) : (u_ref7_JoinClus.con (W_ref7_JoinClus N)).ok P0 := Uf.ok mixed (q_ref7_JoinClus (W_ref7_Of N) (W_ref7_Home N) (W_ref7_Rising N) (W_ref7_parted N) N) ⟨con_ref7_Of_ok N, con_ref7_Home_ok N, con_ref7_Rising_ok N, con_ref7_parted_ok N, trivial⟩ Tryz.func90 (by kernel_rfl) fun x y => by kernel_rfl
noncomputable def u_ref7_leaders : Uf := ⟨162, 21, Tryz.f162, [.val (.list T4_)], [],
⟨[(2, .val (.list (.int .i64)))], []⟩, [],
[(3, .loop [] ⟨[(3, .acc 700003), (4, .val (.int .i64))], [(700003, .nrow 3 (.int .i64) true true)]⟩ [(.exit 0, ⟨[(3, .val (.list (.int .i64)))], []⟩)])],
[], fun y => (valW (.list (.int .i64)) y, [], [])⟩
noncomputable def V_ref7_leaders (w_ref7_Rising : List Int → Option (List Int)) (N : Nat) (x : List (List Int × Int)) : Option (List Int) :=
  obind (loopN N (fun (v : Int × List Int) => cnd (decide (v.1 < (↑(List.length x) : Int))) (cnd (decide ((0:Int) ≤ v.1) && decide (v.1 < (↑(List.length
    x) : Int))) (cnd (decide ((List.length v.2 + (1:Nat)) * (8:Nat) ≤ (140737488355328:Nat))) (some (Sum.inl (wr .i64 (v.1 + (1:Int)), v.2 ++ [Prod.snd
    (List.getD x (Int.toNat v.1) ([], (0:Int)))]))) none) none) (some (Sum.inr v.2))) ((0:Int), [])) fun (b : List Int) => obind (w_ref7_Rising b) fun
    b => some b
theorem q_ref7_leaders : ∀ w_ref7_Rising N x, u_ref7_leaders.F L0 P0 (orcOf [u_ref7_Rising.con w_ref7_Rising]) N x = V_ref7_leaders w_ref7_Rising N x := by intros; kernel_rfl
noncomputable def W_ref7_leaders (N : Nat) := V_ref7_leaders (W_ref7_Rising N) N
theorem con_ref7_leaders_ok (N : Nat) : (u_ref7_leaders.con (W_ref7_leaders N)).ok P0 := Uf.ok mixed (q_ref7_leaders (W_ref7_Rising N) N) ⟨con_ref7_Rising_ok N, trivial⟩ Tryz.func162 (by kernel_rfl) fun x y => by kernel_rfl
noncomputable def u_ref7_Group : Uf := ⟨161, 38, Tryz.f161, [.val (.list (.list (.int .i64))), .val (.list (.int .i64)), .val (.int .i64)], [],
⟨[(6, .val (.list T4_))], []⟩, [],
[(7, .loop [] ⟨[(7, .val (.list T4_))], []⟩ [(.exit 2, ⟨[(7, .val (.list T4_))], []⟩)]),
(5, .loop [] ⟨[(7, .val (.list T4_)), (8, .val (.int .i64))], []⟩ [(.exit 0, ⟨[(7, .val (.list T4_))], []⟩)])],
[], fun y => (valW (.list T4_) y, [], [])⟩
noncomputable def V_ref7_Group (w_ref7_Of : List (List Int) × List Int → Option (List Int × Int)) (w_ref7_parted : List (List Int) × List (List Int × Int) × Int × Int → Option (List (List Int × Int))) (N : Nat) (x : List (List Int) × List Int × Int) : Option (List (List Int × Int)) :=
  cnd (decide ((↑(List.length x.2.1) : Int) = (0:Int))) (some []) (obind (w_ref7_Of (x.1, x.2.1)) fun b => obind (loopN N (fun (v : List (List Int × Int) × Int) => cnd (decide (v.2 < (↑(List.length v.1) : Int))) (obind (loopN N (fun (v_1 : List (List Int × Int)) => cnd (decide ((0:Int) ≤ v.2) &&
    decide (v.2 < (↑(List.length v_1) : Int))) (cnd (decide (wr .i64 (wr .i64 ((3:Int) * x.2.2) - (1:Int)) < (↑(List.length (Prod.fst (List.getD v_1
    (Int.toNat v.2) ([], (0:Int))))) : Int))) (obind (w_ref7_parted (x.1, v_1, v.2, x.2.2)) fun b => some (Sum.inl b)) (some (Sum.inr v_1))) none)
    v.1) fun (b : List (List Int × Int)) => some (Sum.inl (b, wr .i64 (v.2 + (1:Int))))) (some (Sum.inr v.1))) ([b], (0:Int))) fun (b : List (List Int × Int)) => some b)
theorem q_ref7_Group : ∀ w_ref7_Of w_ref7_parted N x, u_ref7_Group.F L0 P0 (orcOf [u_ref7_Of.con w_ref7_Of, u_ref7_parted.con w_ref7_parted]) N x = V_ref7_Group w_ref7_Of w_ref7_parted N x := by intros; kernel_rfl
noncomputable def W_ref7_Group (N : Nat) := V_ref7_Group (W_ref7_Of N) (W_ref7_parted N) N
theorem con_ref7_Group_ok (N : Nat) : (u_ref7_Group.con (W_ref7_Group N)).ok P0 := Uf.ok mixed (q_ref7_Group (W_ref7_Of N) (W_ref7_parted N) N) ⟨con_ref7_Of_ok N, con_ref7_parted_ok N, trivial⟩ Tryz.func161 (by kernel_rfl) fun x y => by kernel_rfl
noncomputable def u_ref7_above : Uf := ⟨89, 31, Tryz.f89, [.val (.agg T2_), .val (.list T4_)], [],
⟨[(4, .ptr 600004 0)], [(600004, .box 35 (.val T2_))]⟩, [],
[(2, .loop [] ⟨[(1, .val (.list T4_)), (2, .ptr 600002 0), (4, .ptr 600004 0), (5, .ptr 600005 0)], [(600002, .box 35 (.val T2_)), (600004, .box 35 (.val T2_)), (600005, .box 35 (.pair (.val (.int .i64)) (.pair (.val (.list (.list (.int .i64)))) (.acc 603005)))), (603005, .nrow 133 (.list T4_) false true)]⟩ [(.exit 0, ⟨[(4, .ptr 600004 0), (5, .ptr 600005 0)], [(600004, .box 35 (.val T2_)), (600005, .box 35 (.pair (.val (.int .i64)) (.pair (.val (.list (.list (.int .i64)))) (.acc 603005)))), (603005, .nrow 133 (.list T4_) false true)]⟩)])],
[], fun y => (valW (.agg T2_) y, [], [])⟩
noncomputable def V_ref7_above (w_ref7_leaders : List (List Int × Int) → Option (List Int)) (w_ref7_Group : List (List Int) × List Int × Int → Option (List (List Int × Int))) (N : Nat) (x : A1_ × List (List Int × Int)) : Option A1_ :=
  obind (loopN N (fun (v : List (List Int × Int) × A1_ × A1_ × A1_) => cnd (decide ((0:Int) < (↑(List.length v.1) : Int))) (cnd (decide
    ((List.length v.2.2.2.2.2 + List.length [v.1]) * (24:Nat) ≤ (140737488355328:Nat))) (cnd (decide ((↑(List.length v.1) : Int) = (1:Int))) (some
    (Sum.inr (v.2.2.1, v.2.2.2.1, v.2.2.2.2.1, v.2.2.2.2.2 ++ [v.1]))) (obind (w_ref7_leaders v.1) fun b => obind (w_ref7_Group (v.2.1.2.1, b,
    v.2.1.1)) fun b => some (Sum.inl (b, v.2.1, v.2.2.1, v.2.2.2.1, v.2.2.2.2.1, v.2.2.2.2.2 ++ [v.1])))) none) (some (Sum.inr v.2.2))) (x.2, x.1,
    ((0:Int), [], []), x.1.1, x.1.2.1, [])) fun (b : A1_ × A1_) => some b.2
theorem q_ref7_above : ∀ w_ref7_leaders w_ref7_Group N x, u_ref7_above.F L0 P0 (orcOf [u_ref7_leaders.con w_ref7_leaders, u_ref7_Group.con w_ref7_Group]) N x = V_ref7_above w_ref7_leaders w_ref7_Group N x := by intros; kernel_rfl
noncomputable def W_ref7_above (N : Nat) := V_ref7_above (W_ref7_leaders N) (W_ref7_Group N) N
theorem con_ref7_above_ok (N : Nat) : (u_ref7_above.con (W_ref7_above N)).ok P0 := Uf.ok mixed (q_ref7_above (W_ref7_leaders N) (W_ref7_Group N) N) ⟨con_ref7_leaders_ok N, con_ref7_Group_ok N, trivial⟩ Tryz.func89 (by kernel_rfl) fun x y => by kernel_rfl
noncomputable def u_ref7_Join : Uf := ⟨39, 84, Tryz.f39, [.val (.agg T2_), .val (.int .i64)], [],
⟨[(4, .ptr 600004 0)], [(600004, .box 35 (.val T2_))]⟩, [],
[(5, .loop [] ⟨[(2, .ptr 600002 0), (4, .ptr 600004 0), (5, .val (.int .i64)), (6, .val (.int .i64))], [(600002, .box 35 (.val T2_)), (600004, .box 35 (.val T2_))]⟩ [(.exit 0, ⟨[(2, .ptr 600002 0), (4, .ptr 600004 0), (5, .val (.int .i64))], [(600002, .box 35 (.val T2_)), (600004, .box 35 (.val T2_))]⟩)])],
[(1000001, .reg [(8, [], ⟨[(2, .ptr 600002 0), (4, .ptr 600004 0), (16, .val .bool)], [(600002, .box 35 (.val T2_)), (600004, .box 35 (.val T2_))]⟩), (4, [], ⟨[(2, .ptr 600002 0), (4, .ptr 600004 0), (20, .val .bool)], [(600002, .box 35 (.val T2_)), (600004, .box 35 (.val T2_))]⟩)]),
(12, .cut [] [(.normal, ⟨[(2, .ptr 600002 0), (4, .ptr 600004 0), (8, .val (.list T4_))], [(600002, .box 35 (.val T2_)), (600004, .box 35 (.val T2_))]⟩)])], fun y => (valW (.agg T2_) y, [], [])⟩
noncomputable def V_ref7_Join (w_ref1_MayDist : List (List Int) → Option (Bool)) (w_ref7_Home : List (List Int × Int) × Int → Option (Int)) (w_ref7_Near : List (List Int) × Int × List Int → Option (Int)) (w_ref7_JoinClus : List (List Int) × List (List Int × Int) × Int × Int × Int → Option (List (List Int × Int))) (w_ref7_above : A1_ × List (List Int × Int) → Option A1_) (N : Nat) (x : A1_ × Int) : Option A1_ :=
  obind (obind (w_ref1_MayDist x.1.2.1) fun b => cnd (!b) (some (true, x.1, (0:Int), [], [])) (some (decide (x.2 < (1:Int)), x.1, (0:Int), [], [])))
    fun (b : Bool × A1_ × A1_) => obind (cnd b.1
    (some (true, b.2)) (some (decide ((8:Int) < x.2), b.2))) fun (b : Bool × A1_ × A1_) => cnd b.1 (some b.2.1) (cnd (decide ((0:Int) < (↑(List.length b.2.1.2.2) : Int))) (cnd (decide ((0:Int) ≤
    (0:Int)) && decide ((0:Int) < (↑(List.length b.2.1.2.2) : Int))) (obind (w_ref7_Home (List.getD b.2.1.2.2 (0:Nat) [], x.2)) fun b_1 => cnd (decide
    ((0:Int) ≤ b_1)) (some b.2.1) (obind (loopN N (fun (v : Int × Int × A1_ × A1_) => cnd (decide ((0:Int) < v.2.1)) (cnd (decide ((0:Int) ≤ v.2.1) && decide (v.2.1 < (↑(List.length v.2.2.1.2.2) :
    Int))) (cnd (decide ((0:Int) ≤ v.1) && decide (v.1 < (↑(List.length (List.getD v.2.2.1.2.2 (Int.toNat v.2.1) [])) : Int))) (obind (w_ref7_Near
    (v.2.2.1.2.1, x.2, Prod.fst (List.getD (List.getD v.2.2.1.2.2 (Int.toNat v.2.1) []) (Int.toNat v.1) ([], (0:Int))))) fun b => cnd (decide ((0:Int) ≤
    wr .i64 (v.2.1 - (1:Int))) && decide (wr .i64 (v.2.1 - (1:Int)) < (↑(List.length v.2.2.1.2.2) : Int))) (obind (w_ref7_Home (List.getD v.2.2.1.2.2
    (Int.toNat (wr .i64 (v.2.1 - (1:Int)))) [], b)) fun b => some (Sum.inl (b, wr .i64 (v.2.1 - (1:Int)), v.2.2))) none) none) none) (some (Sum.inr
    (v.1, v.2.2)))) ((0:Int), wr .i64 ((↑(List.length b.2.1.2.2) : Int) - (1:Int)), b.2)) fun (b : Int × A1_ × A1_) => obind (cnd (decide ((0:Int) < (↑(List.length b.2.1.2.2) : Int))) (cnd (decide
    ((0:Int) ≤ (0:Int)) && decide ((0:Int) < (↑(List.length b.2.1.2.2) : Int))) (some (List.getD b.2.1.2.2 (0:Nat) [], b.2)) none) (some ([], b.2))) fun
    (b_2 : List (List Int × Int) × A1_ × A1_) =>
    obind (w_ref7_JoinClus (b_2.2.1.2.1, b_2.1, b.1, x.2, b_2.2.1.1)) fun b => obind (w_ref7_above (b_2.2.1, b)) fun b => some b)) none) (obind
    (loopN N (fun (v : Int × Int × A1_ × A1_) => cnd
    (decide ((0:Int) < v.2.1)) (cnd (decide ((0:Int) ≤ v.2.1) && decide (v.2.1 < (↑(List.length v.2.2.1.2.2) : Int))) (cnd (decide ((0:Int) ≤ v.1) &&
    decide (v.1 < (↑(List.length (List.getD v.2.2.1.2.2 (Int.toNat v.2.1) [])) : Int))) (obind (w_ref7_Near (v.2.2.1.2.1, x.2, Prod.fst (List.getD
    (List.getD v.2.2.1.2.2 (Int.toNat v.2.1) []) (Int.toNat v.1) ([], (0:Int))))) fun b => cnd (decide ((0:Int) ≤ wr .i64 (v.2.1 - (1:Int))) && decide
    (wr .i64 (v.2.1 - (1:Int)) < (↑(List.length v.2.2.1.2.2) : Int))) (obind (w_ref7_Home (List.getD v.2.2.1.2.2 (Int.toNat (wr .i64 (v.2.1 -
    (1:Int)))) [], b)) fun b => some (Sum.inl (b, wr .i64 (v.2.1 - (1:Int)), v.2.2))) none) none) none) (some (Sum.inr (v.1, v.2.2)))) ((0:Int), wr .i64
    ((↑(List.length b.2.1.2.2) : Int) - (1:Int)), b.2)) fun (b : Int × A1_ × A1_) => obind (cnd (decide ((0:Int) < (↑(List.length b.2.1.2.2) : Int))) (cnd (decide ((0:Int) ≤ (0:Int)) && decide
    ((0:Int) < (↑(List.length b.2.1.2.2) : Int))) (some (List.getD b.2.1.2.2 (0:Nat) [], b.2)) none) (some ([], b.2))) fun (b_1 : List (List Int × Int) × A1_ × A1_) => obind (w_ref7_JoinClus
    (b_1.2.1.2.1, b_1.1, b.1, x.2, b_1.2.1.1)) fun b => obind (w_ref7_above (b_1.2.1, b)) fun b => some b))
theorem q_ref7_Join : ∀ w_ref1_MayDist w_ref7_Home w_ref7_Near w_ref7_JoinClus w_ref7_above N x, u_ref7_Join.F L0 P0 (orcOf [u_ref1_MayDist.con w_ref1_MayDist, u_ref7_Home.con w_ref7_Home, u_ref7_Near.con w_ref7_Near, u_ref7_JoinClus.con w_ref7_JoinClus, u_ref7_above.con w_ref7_above]) N x = V_ref7_Join w_ref1_MayDist w_ref7_Home w_ref7_Near w_ref7_JoinClus w_ref7_above N x := by intros; kernel_rfl
noncomputable def W_ref7_Join (N : Nat) := V_ref7_Join (W_ref1_MayDist N) (W_ref7_Home N) (W_ref7_Near N) (W_ref7_JoinClus N) (W_ref7_above N) N
theorem con_ref7_Join_ok (N : Nat) : (u_ref7_Join.con (W_ref7_Join N)).ok P0 := Uf.ok mixed (q_ref7_Join (W_ref1_MayDist N) (W_ref7_Home N) (W_ref7_Near N) (W_ref7_JoinClus N) (W_ref7_above N) N) ⟨con_ref1_MayDist_ok N, con_ref7_Home_ok N, con_ref7_Near_ok N, con_ref7_JoinClus_ok N, con_ref7_above_ok N, trivial⟩ Tryz.func39 (by kernel_rfl) fun x y => by kernel_rfl
noncomputable def u_ref1_Letter : Uf := ⟨233, 86, Tryz.f233, [.val .str], [],
⟨[(2, .val (.int .i64)), (3, .val (.int .i64))], []⟩, [],
[(15, .loop [] ⟨[(4, .val (.int .i64)), (7, .val (.int .i64))], []⟩ [(.exit 1, ⟨[(4, .val (.int .i64))], []⟩), (.ret, ⟨[(2, .val (.int .i64)), (3, .val (.int .i64))], []⟩)])],
[(1000020, .reg [(7, [], ⟨[(75, .val .bool)], []⟩)]),
(12, .cut [] [(.normal, ⟨[(4, .val (.int .i64)), (5, .val (.int .i64)), (6, .val (.int .i64))], []⟩), (.ret, ⟨[(2, .val (.int .i64)), (3, .val (.int .i64))], []⟩)])], fun y => (.tup [valW (.int .i64) y.1, valW (.int .i64) y.2], [], [])⟩
noncomputable def V_ref1_Letter (N : Nat) (x : List UInt8) : Option (Int × Int) :=
  cnd (decide ((0:Int) ≤ (0:Int)) && decide ((0:Int) < (↑(List.length x) : Int))) (obind (cnd (decide (wr .i64 (↑(UInt8.toNat (List.getD x (0:Nat) (0 :
    UInt8))) : Int) < (128:Int))) (some (Sum.inr (wr .i64 (↑(UInt8.toNat (List.getD x (0:Nat) (0 : UInt8))) : Int), (1:Int)))) (cnd (decide ((194:Int) ≤
    wr .i64 (↑(UInt8.toNat (List.getD x (0:Nat) (0 : UInt8))) : Int))) (cnd (decide (wr .i64 (↑(UInt8.toNat (List.getD x (0:Nat) (0 : UInt8))) : Int) ≤
    (223:Int))) (some (Sum.inl (wr .i64 (wr .i64 (↑(UInt8.toNat (List.getD x (0:Nat) (0 : UInt8))) : Int) - (192:Int)), (2:Int), (128:Int)))) (cnd
    (decide ((224:Int) ≤ wr .i64 (↑(UInt8.toNat (List.getD x (0:Nat) (0 : UInt8))) : Int))) (cnd (decide (wr .i64 (↑(UInt8.toNat (List.getD x (0:Nat) (0
    : UInt8))) : Int) ≤ (239:Int))) (some (Sum.inl (wr .i64 (wr .i64 (↑(UInt8.toNat (List.getD x (0:Nat) (0 : UInt8))) : Int) - (224:Int)), (3:Int),
    (2048:Int)))) (cnd (decide ((240:Int) ≤ wr .i64 (↑(UInt8.toNat (List.getD x (0:Nat) (0 : UInt8))) : Int))) (cnd (decide (wr .i64 (↑(UInt8.toNat
    (List.getD x (0:Nat) (0 : UInt8))) : Int) ≤ (244:Int))) (some (Sum.inl (wr .i64 (wr .i64 (↑(UInt8.toNat (List.getD x (0:Nat) (0 : UInt8))) : Int) -
    (240:Int)), (4:Int), (65536:Int)))) (some (Sum.inr ((-1 : Int), (1:Int))))) (some (Sum.inr ((-1 : Int), (1:Int)))))) (cnd (decide ((240:Int) ≤ wr
    .i64 (↑(UInt8.toNat (List.getD x (0:Nat) (0 : UInt8))) : Int))) (cnd (decide (wr .i64 (↑(UInt8.toNat (List.getD x (0:Nat) (0 : UInt8))) : Int) ≤
    (244:Int))) (some (Sum.inl (wr .i64 (wr .i64 (↑(UInt8.toNat (List.getD x (0:Nat) (0 : UInt8))) : Int) - (240:Int)), (4:Int), (65536:Int)))) (some
    (Sum.inr ((-1 : Int), (1:Int))))) (some (Sum.inr ((-1 : Int), (1:Int))))))) (cnd (decide ((224:Int) ≤ wr .i64 (↑(UInt8.toNat (List.getD x (0:Nat) (0
    : UInt8))) : Int))) (cnd (decide (wr .i64 (↑(UInt8.toNat (List.getD x (0:Nat) (0 : UInt8))) : Int) ≤ (239:Int))) (some (Sum.inl (wr .i64 (wr .i64
    (↑(UInt8.toNat (List.getD x (0:Nat) (0 : UInt8))) : Int) - (224:Int)), (3:Int), (2048:Int)))) (cnd (decide ((240:Int) ≤ wr .i64 (↑(UInt8.toNat
    (List.getD x (0:Nat) (0 : UInt8))) : Int))) (cnd (decide (wr .i64 (↑(UInt8.toNat (List.getD x (0:Nat) (0 : UInt8))) : Int) ≤ (244:Int))) (some
    (Sum.inl (wr .i64 (wr .i64 (↑(UInt8.toNat (List.getD x (0:Nat) (0 : UInt8))) : Int) - (240:Int)), (4:Int), (65536:Int)))) (some (Sum.inr ((-1 :
    Int), (1:Int))))) (some (Sum.inr ((-1 : Int), (1:Int)))))) (cnd (decide ((240:Int) ≤ wr .i64 (↑(UInt8.toNat (List.getD x (0:Nat) (0 : UInt8))) :
    Int))) (cnd (decide (wr .i64 (↑(UInt8.toNat (List.getD x (0:Nat) (0 : UInt8))) : Int) ≤ (244:Int))) (some (Sum.inl (wr .i64 (wr .i64 (↑(UInt8.toNat
    (List.getD x (0:Nat) (0 : UInt8))) : Int) - (240:Int)), (4:Int), (65536:Int)))) (some (Sum.inr ((-1 : Int), (1:Int))))) (some (Sum.inr ((-1 : Int),
    (1:Int)))))))) fun (b : Int × Int × Int ⊕ Int × Int) => selim (fun (b : Int × Int × Int) => cnd (decide ((↑(List.length x) : Int) < b.2.1)) (some
    ((-1 : Int), (1:Int))) (obind (loopN N (fun (v : Int × Int) => cnd (decide (v.2 < b.2.1)) (cnd (decide ((0:Int) ≤ v.2) && decide (v.2 <
    (↑(List.length x) : Int))) (cnd (decide ((↑(UInt8.toNat (List.getD x (Int.toNat v.2) (0 : UInt8))) : Int) < (128:Int))) (some (Sum.inr (Sum.inr ((-1
    : Int), (1:Int))))) (cnd (decide ((0:Int) ≤ v.2) && decide (v.2 < (↑(List.length x) : Int))) (cnd (decide ((191:Int) < (↑(UInt8.toNat (List.getD x
    (Int.toNat v.2) (0 : UInt8))) : Int))) (some (Sum.inr (Sum.inr ((-1 : Int), (1:Int))))) (cnd (decide ((0:Int) ≤ v.2) && decide (v.2 < (↑(List.length
    x) : Int))) (some (Sum.inl (wr .i64 (wr .i64 (wr .i64 (v.1 * (64:Int)) + wr .i64 (↑(UInt8.toNat (List.getD x (Int.toNat v.2) (0 : UInt8))) : Int)) -
    (128:Int)), wr .i64 (v.2 + (1:Int))))) none)) none)) none) (some (Sum.inr (Sum.inl v.1)))) (b.1, (1:Int))) fun (b_1 : Int ⊕ Int × Int) => selim (fun
    (b_2 : Int) => obind (cnd (decide (b_2 < b.2.2)) (some true) (some (decide ((1114111:Int) < b_2)))) fun (b_3 : Bool) => cnd b_3 (some ((-1 : Int),
    (1:Int))) (cnd (decide ((55296:Int) ≤ b_2)) (cnd (decide (b_2 ≤ (57343:Int))) (some ((-1 : Int), (1:Int))) (some (b_2, b.2.1))) (some (b_2,
    b.2.1)))) (fun (c : Int × Int) => some c) b_1)) (fun (c : Int × Int) => some c) b) none
theorem q_ref1_Letter : ∀ N x, u_ref1_Letter.F L0 P0 (orcOf []) N x = V_ref1_Letter N x := by intros; kernel_rfl
noncomputable def W_ref1_Letter (N : Nat) := V_ref1_Letter N
theorem con_ref1_Letter_ok (N : Nat) : (u_ref1_Letter.con (W_ref1_Letter N)).ok P0 := Uf.ok mixed (q_ref1_Letter N) trivial Tryz.func233 (by kernel_rfl) fun x y => by kernel_rfl
noncomputable def u_ref1_Letters : Uf := ⟨166, 22, Tryz.f166, [.val .str], [],
⟨[(2, .val (.list (.int .i64)))], []⟩, [],
[(2, .loop [] ⟨[(0, .val .str), (3, .acc 700003)], [(700003, .nrow 3 (.int .i64) true true)]⟩ [(.exit 0, ⟨[(3, .val (.list (.int .i64)))], []⟩)])],
[], fun y => (valW (.list (.int .i64)) y, [], [])⟩
noncomputable def V_ref1_Letters (w_ref1_Letter : List UInt8 → Option (Int × Int)) (N : Nat) (x : List UInt8) : Option (List Int) :=
  obind (loopN N (fun (v : List UInt8 × List Int) => cnd (decide ((0:Int) < (↑(List.length v.1) : Int))) (obind (w_ref1_Letter v.1) fun b => cnd
    (decide ((List.length v.2 + List.length [b.1]) * (8:Nat) ≤ (140737488355328:Nat))) (cnd (decide ((0:Int) ≤ b.2) && decide (b.2 ≤ (↑(List.length v.1)
    : Int))) (some (Sum.inl (List.drop (Int.toNat b.2) (List.take (List.length v.1) v.1), v.2 ++ [b.1]))) none) none) (some (Sum.inr v.2))) (x, [])) fun
    (b : List Int) => some b
theorem q_ref1_Letters : ∀ w_ref1_Letter N x, u_ref1_Letters.F L0 P0 (orcOf [u_ref1_Letter.con w_ref1_Letter]) N x = V_ref1_Letters w_ref1_Letter N x := by intros; kernel_rfl
noncomputable def W_ref1_Letters (N : Nat) := V_ref1_Letters (W_ref1_Letter N) N
theorem con_ref1_Letters_ok (N : Nat) : (u_ref1_Letters.con (W_ref1_Letters N)).ok P0 := Uf.ok mixed (q_ref1_Letters (W_ref1_Letter N) N) ⟨con_ref1_Letter_ok N, trivial⟩ Tryz.func166 (by kernel_rfl) fun x y => by kernel_rfl
noncomputable def u_ref1_Name : Uf := ⟨91, 40, Tryz.f91, [.val .str], [],
⟨[(2, .val .bool)], []⟩, [],
[(3, .loop [3] ⟨[(4, .val (.int .i64))], []⟩ [(.exit 0, ⟨[], []⟩), (.ret, ⟨[(2, .val .bool)], []⟩)])],
[], fun y => (valW .bool y, [], [])⟩
noncomputable def V_ref1_Name (w_ref1_Letters : List UInt8 → Option (List Int)) (N : Nat) (x : List UInt8) : Option (Bool) :=
  obind (w_ref1_Letters x) fun b => obind (loopN N (fun (v : Int) => cnd (decide (v < (↑(List.length b) : Int))) (cnd (decide ((0:Int) ≤ v) && decide
    (v < (↑(List.length b) : Int))) (cnd (decide (List.getD b (Int.toNat v) (0:Int) < (33:Int))) (some (Sum.inr (Sum.inr false))) (cnd (decide ((0:Int)
    ≤ v) && decide (v < (↑(List.length b) : Int))) (cnd (decide ((127:Int) ≤ List.getD b (Int.toNat v) (0:Int))) (cnd (decide ((0:Int) ≤ v) && decide (v
    < (↑(List.length b) : Int))) (cnd (decide (List.getD b (Int.toNat v) (0:Int) ≤ (159:Int))) (some (Sum.inr (Sum.inr false))) (some (Sum.inl (wr .i64
    (v + (1:Int)))))) none) (some (Sum.inl (wr .i64 (v + (1:Int)))))) none)) none) (some (Sum.inr (Sum.inl ())))) (Int.ofNat (0:Nat))) fun (b_1 : PUnit
    ⊕ Bool) => selim (fun (b_2 : PUnit) => cnd (decide ((1:Int) ≤ (↑(List.length b) : Int))) (some (decide ((↑(List.length b) : Int) ≤ (8:Int)))) (some
    false)) (fun (c : Bool) => some c) b_1
theorem q_ref1_Name : ∀ w_ref1_Letters N x, u_ref1_Name.F L0 P0 (orcOf [u_ref1_Letters.con w_ref1_Letters]) N x = V_ref1_Name w_ref1_Letters N x := by intros; kernel_rfl
noncomputable def W_ref1_Name (N : Nat) := V_ref1_Name (W_ref1_Letters N) N
theorem con_ref1_Name_ok (N : Nat) : (u_ref1_Name.con (W_ref1_Name N)).ok P0 := Uf.ok mixed (q_ref1_Name (W_ref1_Letters N) N) ⟨con_ref1_Letters_ok N, trivial⟩ Tryz.func91 (by kernel_rfl) fun x y => by kernel_rfl
noncomputable def u_ref19_New : Uf := ⟨92, 22, Tryz.f92, [.val (.int .i64), .val (.int .i64), .val (.int .i64), .val (.int .i64)], [],
⟨[(8, .ptr 600008 0)], [(600008, .box 51 (.val T1_))]⟩, [],
[],
[], fun y => (valW (.agg T1_) y, [], [])⟩
noncomputable def V_ref19_New (N : Nat) (x : Int × Int × Int × Int) : Option A2_ :=
  cnd (decide (x.1 = (1:Int))) (some (x.1, x.2.1, x.2.2.1, (0:Int), (0:Int), x.2.2.2, [(1:Int)], (0:Int), x.2.2.1, (0:Int), (0:Int), (0:Int), [])) (some (x.1, x.2.1, x.2.2.1, (0:Int), (0:Int), x.2.2.2, [], (0:Int), (0:Int), (0:Int), (0:Int), (0:Int), []))
theorem q_ref19_New : ∀ N x, u_ref19_New.F L0 P0 (orcOf []) N x = V_ref19_New N x := by intros; kernel_rfl
noncomputable def W_ref19_New (N : Nat) := V_ref19_New N
theorem con_ref19_New_ok (N : Nat) : (u_ref19_New.con (W_ref19_New N)).ok P0 := Uf.ok mixed (q_ref19_New N) trivial Tryz.func92 (by kernel_rfl) fun x y => by kernel_rfl
noncomputable def u_ref19_Join : Uf := ⟨40, 42, Tryz.f40, [.val (.agg T0_), .val (.int .i64), .val .str, .val (.int .i64)], [],
⟨[(8, .ptr 600008 0), (9, .val .bool)], [(600008, .box 59 (.val T0_))]⟩, [],
[],
[(1000001, .reg [(7, [], ⟨[(4, .ptr 600004 0), (8, .ptr 600008 0), (16, .val .bool)], [(600004, .box 59 (.val T0_)), (600008, .box 59 (.val T0_))]⟩), (4, [], ⟨[(4, .ptr 600004 0), (8, .ptr 600008 0), (20, .val .bool)], [(600004, .box 59 (.val T0_)), (600008, .box 59 (.val T0_))]⟩), (4, [], ⟨[(4, .ptr 600004 0), (8, .ptr 600008 0), (24, .val .bool)], [(600004, .box 59 (.val T0_)), (600008, .box 59 (.val T0_))]⟩)])], fun y => (.tup [valW (.agg T0_) y.2, valW .bool y.1], [], [])⟩
noncomputable def V_ref19_Join (w_ref1_Name : List UInt8 → Option (Bool)) (w_ref19_New : Int × Int × Int × Int → Option A2_) (N : Nat) (x : A0_ × Int × List UInt8 × Int) : Option (Bool × A0_) :=
  obind (cnd x.1.1 (some (true, x.1, false, (0:Int), [], ((0:Int), (0:Int), (0:Int), (0:Int), (0:Int), (0:Int), [], (0:Int), (0:Int), (0:Int), (0:Int),
    (0:Int), []), ((0:Int), (0:Int), [], [], [], (0:Int), (0:Int)), (0:Int))) (obind (w_ref1_Name x.2.2.1) fun b => some (!b, x.1, false, (0:Int), [],
    ((0:Int), (0:Int), (0:Int), (0:Int), (0:Int), (0:Int), [], (0:Int), (0:Int), (0:Int), (0:Int), (0:Int), []), ((0:Int), (0:Int), [], [], [], (0:Int),
    (0:Int)), (0:Int)))) fun (b : Bool × A0_ × A0_) => obind (cnd b.1 (some (true,
    b.2)) (some (decide (x.2.1 < (1:Int)), b.2))) fun (b : Bool × A0_ × A0_) => obind (cnd
    b.1 (some (true, b.2)) (some (decide ((8:Int) < x.2.1), b.2))) fun (b : Bool × A0_ × A0_) => cnd b.1 (some (false, b.2.1)) (cnd (decide ((1073741824:Int) ≤ b.2.1.2.1)) (some (false, b.2.1)) (obind (w_ref19_New (x.2.1, wr .i64
    (b.2.1.2.1 + (1:Int)), (0:Int), x.2.2.2)) fun b_1 => some (true, true, wr .i64 (b.2.1.2.1 + (1:Int)), x.2.2.1, b_1, ((0:Int), (0:Int), [], [], [],
    (0:Int), (0:Int)), (0:Int))))
theorem q_ref19_Join : ∀ w_ref1_Name w_ref19_New N x, u_ref19_Join.F L0 P0 (orcOf [u_ref1_Name.con w_ref1_Name, u_ref19_New.con w_ref19_New]) N x = V_ref19_Join w_ref1_Name w_ref19_New N x := by intros; kernel_rfl
noncomputable def W_ref19_Join (N : Nat) := V_ref19_Join (W_ref1_Name N) (W_ref19_New N) N
theorem con_ref19_Join_ok (N : Nat) : (u_ref19_Join.con (W_ref19_Join N)).ok P0 := Uf.ok mixed (q_ref19_Join (W_ref1_Name N) (W_ref19_New N) N) ⟨con_ref1_Name_ok N, con_ref19_New_ok N, trivial⟩ Tryz.func40 (by kernel_rfl) fun x y => by kernel_rfl
noncomputable def u_ref21_New : Uf := ⟨13, 34, Tryz.f13, [.val (.list (.list (.int .i64))), .val (.int .i64)], [],
⟨[(4, .ptr 600004 0), (5, .val .bool)], [(600004, .box 37 (.val T5_))]⟩, [],
[],
[], fun y => (.tup [valW (.agg T5_) y.2, valW .bool y.1], [], [])⟩
noncomputable def V_ref21_New (w_ref7_New : List (List Int) × Int → Option (Bool × A1_)) (w_ref7_Join : A1_ × Int → Option A1_) (w_ref19_Join : A0_ × Int × List UInt8 × Int → Option (Bool × A0_)) (N : Nat) (x : List (List Int) × Int) : Option (Bool × A4_) :=
  obind (w_ref7_New x) fun b => cnd (!b.1) (some (false, [], [], [], (0:Int), [], [])) (obind (w_ref7_Join (b.2, (1:Int))) fun b => obind
    (w_ref19_Join ((false, (0:Int), [], ((0:Int), (0:Int), (0:Int), (0:Int), (0:Int), (0:Int), [], (0:Int), (0:Int), (0:Int), (0:Int), (0:Int), []),
    ((0:Int), (0:Int), [], [], [], (0:Int), (0:Int)), (0:Int)), (1:Int), [(114 : UInt8), (111 : UInt8), (111 : UInt8), (116 : UInt8)], (0:Int))) fun b_1
    => some (true, [b_1.2, (false, (0:Int), [], ((0:Int), (0:Int), (0:Int), (0:Int), (0:Int), (0:Int), [], (0:Int), (0:Int), (0:Int), (0:Int), (0:Int),
    []), ((0:Int), (0:Int), [], [], [], (0:Int), (0:Int)), (0:Int)), (false, (0:Int), [], ((0:Int), (0:Int), (0:Int), (0:Int), (0:Int), (0:Int), [],
    (0:Int), (0:Int), (0:Int), (0:Int), (0:Int), []), ((0:Int), (0:Int), [], [], [], (0:Int), (0:Int)), (0:Int)), (false, (0:Int), [], ((0:Int),
    (0:Int), (0:Int), (0:Int), (0:Int), (0:Int), [], (0:Int), (0:Int), (0:Int), (0:Int), (0:Int), []), ((0:Int), (0:Int), [], [], [], (0:Int), (0:Int)),
    (0:Int)), (false, (0:Int), [], ((0:Int), (0:Int), (0:Int), (0:Int), (0:Int), (0:Int), [], (0:Int), (0:Int), (0:Int), (0:Int), (0:Int), []),
    ((0:Int), (0:Int), [], [], [], (0:Int), (0:Int)), (0:Int)), (false, (0:Int), [], ((0:Int), (0:Int), (0:Int), (0:Int), (0:Int), (0:Int), [], (0:Int),
    (0:Int), (0:Int), (0:Int), (0:Int), []), ((0:Int), (0:Int), [], [], [], (0:Int), (0:Int)), (0:Int)), (false, (0:Int), [], ((0:Int), (0:Int),
    (0:Int), (0:Int), (0:Int), (0:Int), [], (0:Int), (0:Int), (0:Int), (0:Int), (0:Int), []), ((0:Int), (0:Int), [], [], [], (0:Int), (0:Int)),
    (0:Int)), (false, (0:Int), [], ((0:Int), (0:Int), (0:Int), (0:Int), (0:Int), (0:Int), [], (0:Int), (0:Int), (0:Int), (0:Int), (0:Int), []),
    ((0:Int), (0:Int), [], [], [], (0:Int), (0:Int)), (0:Int))], [], [], b))
theorem q_ref21_New : ∀ w_ref7_New w_ref7_Join w_ref19_Join N x, u_ref21_New.F L0 P0 (orcOf [u_ref7_New.con w_ref7_New, u_ref7_Join.con w_ref7_Join, u_ref19_Join.con w_ref19_Join]) N x = V_ref21_New w_ref7_New w_ref7_Join w_ref19_Join N x := by intros; kernel_rfl
noncomputable def W_ref21_New (N : Nat) := V_ref21_New (W_ref7_New N) (W_ref7_Join N) (W_ref19_Join N) N
theorem con_ref21_New_ok (N : Nat) : (u_ref21_New.con (W_ref21_New N)).ok P0 := Uf.ok mixed (q_ref21_New (W_ref7_New N) (W_ref7_Join N) (W_ref19_Join N) N) ⟨con_ref7_New_ok N, con_ref7_Join_ok N, con_ref19_Join_ok N, trivial⟩ Tryz.func13 (by kernel_rfl) fun x y => by kernel_rfl
noncomputable def u_ref13_SameGrams : Uf := ⟨41, 26, Tryz.f41, [.val (.list (.agg (.pair (.int .i64) (.pair .str .bool)))), .val (.list (.agg (.pair (.int .i64) (.pair .str .bool))))], [],
⟨[(4, .val .bool)], []⟩, [],
[(4, .loop [] ⟨[(5, .val (.int .i64))], []⟩ [(.exit 0, ⟨[], []⟩), (.ret, ⟨[(4, .val .bool)], []⟩)])],
[], fun y => (valW .bool y, [], [])⟩
noncomputable def V_ref13_SameGrams (N : Nat) (x : List (Int × List UInt8 × Bool) × List (Int × List UInt8 × Bool)) : Option (Bool) :=
  cnd (decide ((↑(List.length x.1) : Int) ≠ (↑(List.length x.2) : Int))) (some false) (obind (loopN N (fun (v : Int) => cnd (decide (v < (↑(List.length
    x.1) : Int))) (cnd (decide ((0:Int) ≤ v) && decide (v < (↑(List.length x.1) : Int))) (cnd (decide ((0:Int) ≤ v) && decide (v < (↑(List.length x.2) :
    Int))) (cnd (!(decide (Prod.fst (List.getD x.1 (Int.toNat v) ((0:Int), [], false)) = Prod.fst (List.getD x.2 (Int.toNat v) ((0:Int), [], false))) &&
    (Prod.fst (Prod.snd (List.getD x.1 (Int.toNat v) ((0:Int), [], false))) == Prod.fst (Prod.snd (List.getD x.2 (Int.toNat v) ((0:Int), [], false))) &&
    Prod.snd (Prod.snd (List.getD x.1 (Int.toNat v) ((0:Int), [], false))) == Prod.snd (Prod.snd (List.getD x.2 (Int.toNat v) ((0:Int), [], false))))))
    (some (Sum.inr (Sum.inr false))) (some (Sum.inl (wr .i64 (v + (1:Int)))))) none) none) (some (Sum.inr (Sum.inl ())))) (Int.ofNat (0:Nat))) fun (b :
    PUnit ⊕ Bool) => selim (fun (b : PUnit) => some true) (fun (c : Bool) => some c) b)
theorem q_ref13_SameGrams : ∀ N x, u_ref13_SameGrams.F L0 P0 (orcOf []) N x = V_ref13_SameGrams N x := by intros; kernel_rfl
noncomputable def W_ref13_SameGrams (N : Nat) := V_ref13_SameGrams N
theorem con_ref13_SameGrams_ok (N : Nat) : (u_ref13_SameGrams.con (W_ref13_SameGrams N)).ok P0 := Uf.ok mixed (q_ref13_SameGrams N) trivial Tryz.func41 (by kernel_rfl) fun x y => by kernel_rfl
noncomputable def u_ref1_SameInts : Uf := ⟨167, 26, Tryz.f167, [.val (.list (.int .i64)), .val (.list (.int .i64))], [],
⟨[(4, .val .bool)], []⟩, [],
[(4, .loop [] ⟨[(5, .val (.int .i64))], []⟩ [(.exit 0, ⟨[], []⟩), (.ret, ⟨[(4, .val .bool)], []⟩)])],
[], fun y => (valW .bool y, [], [])⟩
noncomputable def V_ref1_SameInts (N : Nat) (x : List Int × List Int) : Option (Bool) :=
  cnd (decide ((↑(List.length x.1) : Int) ≠ (↑(List.length x.2) : Int))) (some false) (obind (loopN N (fun (v : Int) => cnd (decide (v < (↑(List.length
    x.1) : Int))) (cnd (decide ((0:Int) ≤ v) && decide (v < (↑(List.length x.1) : Int))) (cnd (decide ((0:Int) ≤ v) && decide (v < (↑(List.length x.2) :
    Int))) (cnd (decide (List.getD x.1 (Int.toNat v) (0:Int) ≠ List.getD x.2 (Int.toNat v) (0:Int))) (some (Sum.inr (Sum.inr false))) (some (Sum.inl (wr
    .i64 (v + (1:Int)))))) none) none) (some (Sum.inr (Sum.inl ())))) (Int.ofNat (0:Nat))) fun (b : PUnit ⊕ Bool) => selim (fun (b : PUnit) => some
    true) (fun (c : Bool) => some c) b)
theorem q_ref1_SameInts : ∀ N x, u_ref1_SameInts.F L0 P0 (orcOf []) N x = V_ref1_SameInts N x := by intros; kernel_rfl
noncomputable def W_ref1_SameInts (N : Nat) := V_ref1_SameInts N
theorem con_ref1_SameInts_ok (N : Nat) : (u_ref1_SameInts.con (W_ref1_SameInts N)).ok P0 := Uf.ok mixed (q_ref1_SameInts N) trivial Tryz.func167 (by kernel_rfl) fun x y => by kernel_rfl
noncomputable def u_ref1_SameDist : Uf := ⟨93, 27, Tryz.f93, [.val (.list (.list (.int .i64))), .val (.list (.list (.int .i64)))], [],
⟨[(4, .val .bool)], []⟩, [],
[(4, .loop [] ⟨[(5, .val (.int .i64))], []⟩ [(.exit 0, ⟨[], []⟩), (.ret, ⟨[(4, .val .bool)], []⟩)])],
[], fun y => (valW .bool y, [], [])⟩
noncomputable def V_ref1_SameDist (w_ref1_SameInts : List Int × List Int → Option (Bool)) (N : Nat) (x : List (List Int) × List (List Int)) : Option (Bool) :=
  cnd (decide ((↑(List.length x.1) : Int) ≠ (↑(List.length x.2) : Int))) (some false) (obind (loopN N (fun (v : Int) => cnd (decide (v < (↑(List.length
    x.1) : Int))) (cnd (decide ((0:Int) ≤ v) && decide (v < (↑(List.length x.1) : Int))) (cnd (decide ((0:Int) ≤ v) && decide (v < (↑(List.length x.2) :
    Int))) (obind (w_ref1_SameInts (List.getD x.1 (Int.toNat v) [], List.getD x.2 (Int.toNat v) [])) fun b => cnd (!b) (some (Sum.inr (Sum.inr
    false))) (some (Sum.inl (wr .i64 (v + (1:Int)))))) none) none) (some (Sum.inr (Sum.inl ())))) (Int.ofNat (0:Nat))) fun (b : PUnit ⊕ Bool) => selim
    (fun (b : PUnit) => some true) (fun (c : Bool) => some c) b)
theorem q_ref1_SameDist : ∀ w_ref1_SameInts N x, u_ref1_SameDist.F L0 P0 (orcOf [u_ref1_SameInts.con w_ref1_SameInts]) N x = V_ref1_SameDist w_ref1_SameInts N x := by intros; kernel_rfl
noncomputable def W_ref1_SameDist (N : Nat) := V_ref1_SameDist (W_ref1_SameInts N) N
theorem con_ref1_SameDist_ok (N : Nat) : (u_ref1_SameDist.con (W_ref1_SameDist N)).ok P0 := Uf.ok mixed (q_ref1_SameDist (W_ref1_SameInts N) N) ⟨con_ref1_SameInts_ok N, trivial⟩ Tryz.func93 (by kernel_rfl) fun x y => by kernel_rfl
noncomputable def u_ref7_SameClusters : Uf := ⟨94, 42, Tryz.f94, [.val (.list T4_), .val (.list T4_)], [],
⟨[(4, .val .bool)], []⟩, [],
[(4, .loop [] ⟨[(5, .val (.int .i64))], []⟩ [(.exit 0, ⟨[], []⟩), (.ret, ⟨[(4, .val .bool)], []⟩)])],
[], fun y => (valW .bool y, [], [])⟩
noncomputable def V_ref7_SameClusters (w_ref1_SameInts : List Int × List Int → Option (Bool)) (N : Nat) (x : List (List Int × Int) × List (List Int × Int)) : Option (Bool) :=
  cnd (decide ((↑(List.length x.1) : Int) ≠ (↑(List.length x.2) : Int))) (some false) (obind (loopN N (fun (v : Int) => cnd (decide (v < (↑(List.length
    x.1) : Int))) (cnd (decide ((0:Int) ≤ v) && decide (v < (↑(List.length x.1) : Int))) (cnd (decide ((0:Int) ≤ v) && decide (v < (↑(List.length x.2) :
    Int))) (cnd (decide (Prod.snd (List.getD x.1 (Int.toNat v) ([], (0:Int))) ≠ Prod.snd (List.getD x.2 (Int.toNat v) ([], (0:Int))))) (some (Sum.inr
    (Sum.inr false))) (cnd (decide ((0:Int) ≤ v) && decide (v < (↑(List.length x.1) : Int))) (cnd (decide ((0:Int) ≤ v) && decide (v < (↑(List.length
    x.2) : Int))) (obind (w_ref1_SameInts (Prod.fst (List.getD x.1 (Int.toNat v) ([], (0:Int))), Prod.fst (List.getD x.2 (Int.toNat v) ([],
    (0:Int))))) fun b => cnd (!b) (some (Sum.inr (Sum.inr false))) (some (Sum.inl (wr .i64 (v + (1:Int)))))) none) none)) none) none) (some (Sum.inr
    (Sum.inl ())))) (Int.ofNat (0:Nat))) fun (b : PUnit ⊕ Bool) => selim (fun (b : PUnit) => some true) (fun (c : Bool) => some c) b)
theorem q_ref7_SameClusters : ∀ w_ref1_SameInts N x, u_ref7_SameClusters.F L0 P0 (orcOf [u_ref1_SameInts.con w_ref1_SameInts]) N x = V_ref7_SameClusters w_ref1_SameInts N x := by intros; kernel_rfl
noncomputable def W_ref7_SameClusters (N : Nat) := V_ref7_SameClusters (W_ref1_SameInts N) N
theorem con_ref7_SameClusters_ok (N : Nat) : (u_ref7_SameClusters.con (W_ref7_SameClusters N)).ok P0 := Uf.ok mixed (q_ref7_SameClusters (W_ref1_SameInts N) N) ⟨con_ref1_SameInts_ok N, trivial⟩ Tryz.func94 (by kernel_rfl) fun x y => by kernel_rfl
noncomputable def u_ref7_SameHier : Uf := ⟨42, 47, Tryz.f42, [.val (.agg T2_), .val (.agg T2_)], [],
⟨[(4, .val .bool)], []⟩, [],
[(4, .loop [] ⟨[(2, .ptr 600002 0), (3, .ptr 600003 0), (5, .val (.int .i64))], [(600002, .box 35 (.val T2_)), (600003, .box 35 (.val T2_))]⟩ [(.exit 0, ⟨[], []⟩), (.ret, ⟨[(4, .val .bool)], []⟩)])],
[(1000001, .reg [(13, [], ⟨[(2, .ptr 600002 0), (3, .ptr 600003 0), (18, .val .bool)], [(600002, .box 35 (.val T2_)), (600003, .box 35 (.val T2_))]⟩)])], fun y => (valW .bool y, [], [])⟩
noncomputable def V_ref7_SameHier (w_ref1_SameDist : List (List Int) × List (List Int) → Option (Bool)) (w_ref7_SameClusters : List (List Int × Int) × List (List Int × Int) → Option (Bool)) (N : Nat) (x : A1_ × A1_) : Option (Bool) :=
  obind (cnd (decide (x.1.1 ≠ x.2.1)) (some (true, x)) (obind (w_ref1_SameDist (x.1.2.1, x.2.2.1)) fun b => some (!b, x))) fun (b : Bool × A1_ × A1_) => cnd b.1 (some false) (cnd (decide
    ((↑(List.length b.2.1.2.2) : Int) ≠ (↑(List.length b.2.2.2.2) : Int))) (some false) (obind (loopN N (fun (v : Int × A1_ × A1_) => cnd (decide (v.1 < (↑(List.length v.2.1.2.2) : Int))) (cnd
    (decide ((0:Int) ≤ v.1) && decide (v.1 < (↑(List.length v.2.1.2.2) : Int))) (cnd (decide ((0:Int) ≤ v.1) && decide (v.1 < (↑(List.length v.2.2.2.2)
    : Int))) (obind (w_ref7_SameClusters (List.getD v.2.1.2.2 (Int.toNat v.1) [], List.getD v.2.2.2.2 (Int.toNat v.1) [])) fun b => cnd (!b) (some
    (Sum.inr (Sum.inr false))) (some (Sum.inl (wr .i64 (v.1 + (1:Int)), v.2)))) none) none) (some (Sum.inr (Sum.inl ())))) ((0:Int), b.2)) fun (b :
    PUnit ⊕ Bool) => selim (fun (b : PUnit) => some true) (fun (c : Bool) => some c) b))
theorem q_ref7_SameHier : ∀ w_ref1_SameDist w_ref7_SameClusters N x, u_ref7_SameHier.F L0 P0 (orcOf [u_ref1_SameDist.con w_ref1_SameDist, u_ref7_SameClusters.con w_ref7_SameClusters]) N x = V_ref7_SameHier w_ref1_SameDist w_ref7_SameClusters N x := by intros; kernel_rfl
noncomputable def W_ref7_SameHier (N : Nat) := V_ref7_SameHier (W_ref1_SameDist N) (W_ref7_SameClusters N) N
theorem con_ref7_SameHier_ok (N : Nat) : (u_ref7_SameHier.con (W_ref7_SameHier N)).ok P0 := Uf.ok mixed (q_ref7_SameHier (W_ref1_SameDist N) (W_ref7_SameClusters N) N) ⟨con_ref1_SameDist_ok N, con_ref7_SameClusters_ok N, trivial⟩ Tryz.func42 (by kernel_rfl) fun x y => by kernel_rfl
noncomputable def u_ref1_SameKids : Uf := ⟨168, 26, Tryz.f168, [.val (.list (.agg (.pair (.int .i64) T6_))), .val (.list (.agg (.pair (.int .i64) T6_)))], [],
⟨[(4, .val .bool)], []⟩, [],
[(4, .loop [] ⟨[(5, .val (.int .i64))], []⟩ [(.exit 0, ⟨[], []⟩), (.ret, ⟨[(4, .val .bool)], []⟩)])],
[], fun y => (valW .bool y, [], [])⟩
noncomputable def V_ref1_SameKids (N : Nat) (x : List (Int × Int × Int) × List (Int × Int × Int)) : Option (Bool) :=
  cnd (decide ((↑(List.length x.1) : Int) ≠ (↑(List.length x.2) : Int))) (some false) (obind (loopN N (fun (v : Int) => cnd (decide (v < (↑(List.length
    x.1) : Int))) (cnd (decide ((0:Int) ≤ v) && decide (v < (↑(List.length x.1) : Int))) (cnd (decide ((0:Int) ≤ v) && decide (v < (↑(List.length x.2) :
    Int))) (cnd (!(decide (Prod.fst (List.getD x.1 (Int.toNat v) ((0:Int), (0:Int), (0:Int))) = Prod.fst (List.getD x.2 (Int.toNat v) ((0:Int), (0:Int),
    (0:Int)))) && (decide (Prod.fst (Prod.snd (List.getD x.1 (Int.toNat v) ((0:Int), (0:Int), (0:Int)))) = Prod.fst (Prod.snd (List.getD x.2 (Int.toNat
    v) ((0:Int), (0:Int), (0:Int))))) && decide (Prod.snd (Prod.snd (List.getD x.1 (Int.toNat v) ((0:Int), (0:Int), (0:Int)))) = Prod.snd (Prod.snd
    (List.getD x.2 (Int.toNat v) ((0:Int), (0:Int), (0:Int)))))))) (some (Sum.inr (Sum.inr false))) (some (Sum.inl (wr .i64 (v + (1:Int)))))) none)
    none) (some (Sum.inr (Sum.inl ())))) (Int.ofNat (0:Nat))) fun (b : PUnit ⊕ Bool) => selim (fun (b : PUnit) => some true) (fun (c : Bool) => some c)
    b)
theorem q_ref1_SameKids : ∀ N x, u_ref1_SameKids.F L0 P0 (orcOf []) N x = V_ref1_SameKids N x := by intros; kernel_rfl
noncomputable def W_ref1_SameKids (N : Nat) := V_ref1_SameKids N
theorem con_ref1_SameKids_ok (N : Nat) : (u_ref1_SameKids.con (W_ref1_SameKids N)).ok P0 := Uf.ok mixed (q_ref1_SameKids N) trivial Tryz.func168 (by kernel_rfl) fun x y => by kernel_rfl
noncomputable def u_ref19_SameTie : Uf := ⟨95, 94, Tryz.f95, [.val (.agg T1_), .val (.agg T1_)], [],
⟨[(4, .val .bool)], []⟩, [],
[],
[(1000001, .reg [(12, [], ⟨[(2, .ptr 600002 0), (3, .ptr 600003 0), (16, .val .bool)], [(600002, .box 51 (.val T1_)), (600003, .box 51 (.val T1_))]⟩), (7, [], ⟨[(2, .ptr 600002 0), (3, .ptr 600003 0), (23, .val .bool)], [(600002, .box 51 (.val T1_)), (600003, .box 51 (.val T1_))]⟩), (7, [], ⟨[(2, .ptr 600002 0), (3, .ptr 600003 0), (30, .val .bool)], [(600002, .box 51 (.val T1_)), (600003, .box 51 (.val T1_))]⟩), (7, [], ⟨[(2, .ptr 600002 0), (3, .ptr 600003 0), (37, .val .bool)], [(600002, .box 51 (.val T1_)), (600003, .box 51 (.val T1_))]⟩), (7, [], ⟨[(2, .ptr 600002 0), (3, .ptr 600003 0), (44, .val .bool)], [(600002, .box 51 (.val T1_)), (600003, .box 51 (.val T1_))]⟩), (7, [], ⟨[(2, .ptr 600002 0), (3, .ptr 600003 0), (51, .val .bool)], [(600002, .box 51 (.val T1_)), (600003, .box 51 (.val T1_))]⟩), (7, [], ⟨[(2, .ptr 600002 0), (3, .ptr 600003 0), (58, .val .bool)], [(600002, .box 51 (.val T1_)), (600003, .box 51 (.val T1_))]⟩), (7, [], ⟨[(2, .ptr 600002 0), (3, .ptr 600003 0), (65, .val .bool)], [(600002, .box 51 (.val T1_)), (600003, .box 51 (.val T1_))]⟩), (7, [], ⟨[(2, .ptr 600002 0), (3, .ptr 600003 0), (72, .val .bool)], [(600002, .box 51 (.val T1_)), (600003, .box 51 (.val T1_))]⟩), (7, [], ⟨[(2, .ptr 600002 0), (3, .ptr 600003 0), (79, .val .bool)], [(600002, .box 51 (.val T1_)), (600003, .box 51 (.val T1_))]⟩), (7, [], ⟨[(2, .ptr 600002 0), (3, .ptr 600003 0), (86, .val .bool)], [(600002, .box 51 (.val T1_)), (600003, .box 51 (.val T1_))]⟩)])], fun y => (valW .bool y, [], [])⟩
noncomputable def V_ref19_SameTie (w_ref1_SameInts : List Int × List Int → Option (Bool)) (w_ref1_SameKids : List (Int × Int × Int) × List (Int × Int × Int) → Option (Bool)) (N : Nat) (x : A2_ × A2_) : Option (Bool) :=
  obind (cnd (decide (x.1.1 = x.2.1)) (some (decide (x.1.2.1 = x.2.2.1), x)) (some (false, x))) fun (b : Bool × A2_ × A2_) => obind (cnd b.1 (some (decide (b.2.1.2.2.1 = b.2.2.2.2.1), b.2)) (some (false, b.2))) fun (b : Bool × A2_ × A2_) => obind (cnd b.1 (some (decide (b.2.1.2.2.2.1 = b.2.2.2.2.2.1), b.2)) (some (false, b.2))) fun (b : Bool × A2_ × A2_) => obind (cnd b.1 (some (decide (b.2.1.2.2.2.2.1 = b.2.2.2.2.2.2.1), b.2)) (some (false, b.2)))
    fun (b : Bool × A2_ × A2_) => obind (cnd b.1 (some (decide (b.2.1.2.2.2.2.2.1 = b.2.2.2.2.2.2.2.1),
    b.2)) (some (false, b.2))) fun (b : Bool × A2_ × A2_) => obind (cnd b.1 (obind (w_ref1_SameInts
    (b.2.1.2.2.2.2.2.2.1, b.2.2.2.2.2.2.2.2.1)) fun b_1 => some (b_1, b.2)) (some (false, b.2))) fun (b : Bool × A2_ × A2_) => obind (cnd b.1 (some (decide (b.2.1.2.2.2.2.2.2.2.1 = b.2.2.2.2.2.2.2.2.2.1), b.2)) (some (false, b.2))) fun (b : Bool × A2_ × A2_) => obind (cnd b.1 (some (decide (b.2.1.2.2.2.2.2.2.2.2.1 = b.2.2.2.2.2.2.2.2.2.2.1), b.2))
    (some (false, b.2))) fun (b : Bool × A2_ × A2_) => obind (cnd b.1 (some (decide
    (b.2.1.2.2.2.2.2.2.2.2.2.1 = b.2.2.2.2.2.2.2.2.2.2.2.1), b.2)) (some (false, b.2))) fun (b : Bool × A2_ × A2_) => obind (cnd b.1 (some (decide (b.2.1.2.2.2.2.2.2.2.2.2.2.1 = b.2.2.2.2.2.2.2.2.2.2.2.2.1), b.2)) (some (false, b.2))) fun (b : Bool × A2_ × A2_) => obind (cnd b.1 (some (decide (b.2.1.2.2.2.2.2.2.2.2.2.2.2.1 =
    b.2.2.2.2.2.2.2.2.2.2.2.2.2.1), b.2)) (some (false, b.2))) fun (b : Bool × A2_ × A2_) => cnd b.1
    (obind (w_ref1_SameKids (b.2.1.2.2.2.2.2.2.2.2.2.2.2.2, b.2.2.2.2.2.2.2.2.2.2.2.2.2.2)) fun b => some b) (some false)
theorem q_ref19_SameTie : ∀ w_ref1_SameInts w_ref1_SameKids N x, u_ref19_SameTie.F L0 P0 (orcOf [u_ref1_SameInts.con w_ref1_SameInts, u_ref1_SameKids.con w_ref1_SameKids]) N x = V_ref19_SameTie w_ref1_SameInts w_ref1_SameKids N x := by intros; kernel_rfl
noncomputable def W_ref19_SameTie (N : Nat) := V_ref19_SameTie (W_ref1_SameInts N) (W_ref1_SameKids N) N
theorem con_ref19_SameTie_ok (N : Nat) : (u_ref19_SameTie.con (W_ref19_SameTie N)).ok P0 := Uf.ok mixed (q_ref19_SameTie (W_ref1_SameInts N) (W_ref1_SameKids N) N) ⟨con_ref1_SameInts_ok N, con_ref1_SameKids_ok N, trivial⟩ Tryz.func95 (by kernel_rfl) fun x y => by kernel_rfl
noncomputable def u_ref13_SameItems : Uf := ⟨169, 26, Tryz.f169, [.val (.list (.agg (.pair (.int .i64) .str))), .val (.list (.agg (.pair (.int .i64) .str)))], [],
⟨[(4, .val .bool)], []⟩, [],
[(4, .loop [] ⟨[(5, .val (.int .i64))], []⟩ [(.exit 0, ⟨[], []⟩), (.ret, ⟨[(4, .val .bool)], []⟩)])],
[], fun y => (valW .bool y, [], [])⟩
noncomputable def V_ref13_SameItems (N : Nat) (x : List (Int × List UInt8) × List (Int × List UInt8)) : Option (Bool) :=
  cnd (decide ((↑(List.length x.1) : Int) ≠ (↑(List.length x.2) : Int))) (some false) (obind (loopN N (fun (v : Int) => cnd (decide (v < (↑(List.length
    x.1) : Int))) (cnd (decide ((0:Int) ≤ v) && decide (v < (↑(List.length x.1) : Int))) (cnd (decide ((0:Int) ≤ v) && decide (v < (↑(List.length x.2) :
    Int))) (cnd (!(decide (Prod.fst (List.getD x.1 (Int.toNat v) ((0:Int), [])) = Prod.fst (List.getD x.2 (Int.toNat v) ((0:Int), []))) && Prod.snd
    (List.getD x.1 (Int.toNat v) ((0:Int), [])) == Prod.snd (List.getD x.2 (Int.toNat v) ((0:Int), [])))) (some (Sum.inr (Sum.inr false))) (some
    (Sum.inl (wr .i64 (v + (1:Int)))))) none) none) (some (Sum.inr (Sum.inl ())))) (Int.ofNat (0:Nat))) fun (b : PUnit ⊕ Bool) => selim (fun (b : PUnit)
    => some true) (fun (c : Bool) => some c) b)
theorem q_ref13_SameItems : ∀ N x, u_ref13_SameItems.F L0 P0 (orcOf []) N x = V_ref13_SameItems N x := by intros; kernel_rfl
noncomputable def W_ref13_SameItems (N : Nat) := V_ref13_SameItems N
theorem con_ref13_SameItems_ok (N : Nat) : (u_ref13_SameItems.con (W_ref13_SameItems N)).ok P0 := Uf.ok mixed (q_ref13_SameItems N) trivial Tryz.func169 (by kernel_rfl) fun x y => by kernel_rfl
noncomputable def u_ref13_SameEvents : Uf := ⟨170, 26, Tryz.f170, [.val (.list T7_), .val (.list T7_)], [],
⟨[(4, .val .bool)], []⟩, [],
[(4, .loop [] ⟨[(5, .val (.int .i64))], []⟩ [(.exit 0, ⟨[], []⟩), (.ret, ⟨[(4, .val .bool)], []⟩)])],
[], fun y => (valW .bool y, [], [])⟩
noncomputable def V_ref13_SameEvents (N : Nat) (x : List A5_ × List A5_) : Option (Bool) :=
  cnd (decide ((↑(List.length x.1) : Int) ≠ (↑(List.length x.2) : Int))) (some false) (obind (loopN N (fun (v : Int) => cnd (decide (v < (↑(List.length
    x.1) : Int))) (cnd (decide ((0:Int) ≤ v) && decide (v < (↑(List.length x.1) : Int))) (cnd (decide ((0:Int) ≤ v) && decide (v < (↑(List.length x.2) :
    Int))) (cnd (!(decide (Prod.fst (List.getD x.1 (Int.toNat v) ((0:Int), (0:Int), (0:Int), [], (0:Int))) = Prod.fst (List.getD x.2 (Int.toNat v)
    ((0:Int), (0:Int), (0:Int), [], (0:Int)))) && (decide (Prod.fst (Prod.snd (List.getD x.1 (Int.toNat v) ((0:Int), (0:Int), (0:Int), [], (0:Int)))) =
    Prod.fst (Prod.snd (List.getD x.2 (Int.toNat v) ((0:Int), (0:Int), (0:Int), [], (0:Int))))) && (decide (Prod.fst (Prod.snd (Prod.snd (List.getD x.1
    (Int.toNat v) ((0:Int), (0:Int), (0:Int), [], (0:Int))))) = Prod.fst (Prod.snd (Prod.snd (List.getD x.2 (Int.toNat v) ((0:Int), (0:Int), (0:Int),
    [], (0:Int)))))) && (Prod.fst (Prod.snd (Prod.snd (Prod.snd (List.getD x.1 (Int.toNat v) ((0:Int), (0:Int), (0:Int), [], (0:Int)))))) == Prod.fst
    (Prod.snd (Prod.snd (Prod.snd (List.getD x.2 (Int.toNat v) ((0:Int), (0:Int), (0:Int), [], (0:Int)))))) && decide (Prod.snd (Prod.snd (Prod.snd
    (Prod.snd (List.getD x.1 (Int.toNat v) ((0:Int), (0:Int), (0:Int), [], (0:Int)))))) = Prod.snd (Prod.snd (Prod.snd (Prod.snd (List.getD x.2
    (Int.toNat v) ((0:Int), (0:Int), (0:Int), [], (0:Int)))))))))))) (some (Sum.inr (Sum.inr false))) (some (Sum.inl (wr .i64 (v + (1:Int)))))) none)
    none) (some (Sum.inr (Sum.inl ())))) (Int.ofNat (0:Nat))) fun (b : PUnit ⊕ Bool) => selim (fun (b : PUnit) => some true) (fun (c : Bool) => some c)
    b)
theorem q_ref13_SameEvents : ∀ N x, u_ref13_SameEvents.F L0 P0 (orcOf []) N x = V_ref13_SameEvents N x := by intros; kernel_rfl
noncomputable def W_ref13_SameEvents (N : Nat) := V_ref13_SameEvents N
theorem con_ref13_SameEvents_ok (N : Nat) : (u_ref13_SameEvents.con (W_ref13_SameEvents N)).ok P0 := Uf.ok mixed (q_ref13_SameEvents N) trivial Tryz.func170 (by kernel_rfl) fun x y => by kernel_rfl
noncomputable def u_ref13_SameFeed : Uf := ⟨96, 45, Tryz.f96, [.val (.agg T3_), .val (.agg T3_)], [],
⟨[(4, .val .bool)], []⟩, [],
[],
[(1000001, .reg [(12, [], ⟨[(2, .ptr 600002 0), (3, .ptr 600003 0), (16, .val .bool)], [(600002, .box 57 (.val T3_)), (600003, .box 57 (.val T3_))]⟩), (7, [], ⟨[(2, .ptr 600002 0), (3, .ptr 600003 0), (23, .val .bool)], [(600002, .box 57 (.val T3_)), (600003, .box 57 (.val T3_))]⟩), (7, [], ⟨[(2, .ptr 600002 0), (3, .ptr 600003 0), (30, .val .bool)], [(600002, .box 57 (.val T3_)), (600003, .box 57 (.val T3_))]⟩), (7, [], ⟨[(2, .ptr 600002 0), (3, .ptr 600003 0), (37, .val .bool)], [(600002, .box 57 (.val T3_)), (600003, .box 57 (.val T3_))]⟩)])], fun y => (valW .bool y, [], [])⟩
noncomputable def V_ref13_SameFeed (w_ref13_SameItems : List (Int × List UInt8) × List (Int × List UInt8) → Option (Bool)) (w_ref13_SameEvents : List A5_ × List A5_ → Option (Bool)) (N : Nat) (x : (Int × A3_) × Int × A3_) : Option (Bool) :=
  obind (cnd (decide (x.1.1 = x.2.1)) (some (decide (x.1.2.1 = x.2.2.1), x)) (some (false, x))) fun (b : Bool × (Int × A3_) × Int × A3_) => obind (cnd b.1 (obind (w_ref13_SameItems (b.2.1.2.2.1, b.2.2.2.2.1)) fun b_1 => some
    (b_1, b.2)) (some (false, b.2))) fun (b : Bool × (Int × A3_) × Int × A3_) =>
    obind (cnd b.1 (obind (w_ref13_SameItems (b.2.1.2.2.2.1, b.2.2.2.2.2.1)) fun b_1 => some (b_1, b.2)) (some (false, b.2))) fun (b : Bool × (Int × A3_) × Int × A3_) => obind (cnd b.1 (obind (w_ref13_SameEvents
    (b.2.1.2.2.2.2.1, b.2.2.2.2.2.2.1)) fun b_1 => some (b_1, b.2)) (some (false, b.2))) fun (b : Bool × (Int × A3_) × Int × A3_) => cnd b.1 (some (decide (b.2.1.2.2.2.2.2.1 = b.2.2.2.2.2.2.2.1) && decide (b.2.1.2.2.2.2.2.2 =
    b.2.2.2.2.2.2.2.2))) (some false)
theorem q_ref13_SameFeed : ∀ w_ref13_SameItems w_ref13_SameEvents N x, u_ref13_SameFeed.F L0 P0 (orcOf [u_ref13_SameItems.con w_ref13_SameItems, u_ref13_SameEvents.con w_ref13_SameEvents]) N x = V_ref13_SameFeed w_ref13_SameItems w_ref13_SameEvents N x := by intros; kernel_rfl
noncomputable def W_ref13_SameFeed (N : Nat) := V_ref13_SameFeed (W_ref13_SameItems N) (W_ref13_SameEvents N) N
theorem con_ref13_SameFeed_ok (N : Nat) : (u_ref13_SameFeed.con (W_ref13_SameFeed N)).ok P0 := Uf.ok mixed (q_ref13_SameFeed (W_ref13_SameItems N) (W_ref13_SameEvents N) N) ⟨con_ref13_SameItems_ok N, con_ref13_SameEvents_ok N, trivial⟩ Tryz.func96 (by kernel_rfl) fun x y => by kernel_rfl
noncomputable def u_ref19_SameNode : Uf := ⟨43, 45, Tryz.f43, [.val (.agg T0_), .val (.agg T0_)], [],
⟨[(4, .val .bool)], []⟩, [],
[],
[(1000001, .reg [(12, [], ⟨[(2, .ptr 600002 0), (3, .ptr 600003 0), (16, .val .bool)], [(600002, .box 59 (.val T0_)), (600003, .box 59 (.val T0_))]⟩), (7, [], ⟨[(2, .ptr 600002 0), (3, .ptr 600003 0), (23, .val .bool)], [(600002, .box 59 (.val T0_)), (600003, .box 59 (.val T0_))]⟩), (7, [], ⟨[(2, .ptr 600002 0), (3, .ptr 600003 0), (30, .val .bool)], [(600002, .box 59 (.val T0_)), (600003, .box 59 (.val T0_))]⟩), (7, [], ⟨[(2, .ptr 600002 0), (3, .ptr 600003 0), (37, .val .bool)], [(600002, .box 59 (.val T0_)), (600003, .box 59 (.val T0_))]⟩)])], fun y => (valW .bool y, [], [])⟩
noncomputable def V_ref19_SameNode (w_ref19_SameTie : A2_ × A2_ → Option (Bool)) (w_ref13_SameFeed : (Int × A3_) × Int × A3_ → Option (Bool)) (N : Nat) (x : A0_ × A0_) : Option (Bool) :=
  obind (cnd (x.1.1 == x.2.1) (some (decide (x.1.2.1 = x.2.2.1), x)) (some (false, x))) fun (b : Bool × A0_ × A0_) => obind (cnd b.1 (some (b.2.1.2.2.1 == b.2.2.2.2.1, b.2)) (some (false, b.2))) fun (b : Bool × A0_ × A0_) => obind (cnd b.1 (obind (w_ref19_SameTie (b.2.1.2.2.2.1, b.2.2.2.2.2.1)) fun b_1 => some
    (b_1, b.2)) (some (false, b.2))) fun (b : Bool × A0_ × A0_) => obind (cnd b.1 (obind
    (w_ref13_SameFeed (b.2.1.2.2.2.2.1, b.2.2.2.2.2.2.1)) fun b_1 => some (b_1, b.2)) (some (false, b.2))) fun (b : Bool × A0_ × A0_) => cnd b.1 (some (decide (b.2.1.2.2.2.2.2 = b.2.2.2.2.2.2.2))) (some false)
theorem q_ref19_SameNode : ∀ w_ref19_SameTie w_ref13_SameFeed N x, u_ref19_SameNode.F L0 P0 (orcOf [u_ref19_SameTie.con w_ref19_SameTie, u_ref13_SameFeed.con w_ref13_SameFeed]) N x = V_ref19_SameNode w_ref19_SameTie w_ref13_SameFeed N x := by intros; kernel_rfl
noncomputable def W_ref19_SameNode (N : Nat) := V_ref19_SameNode (W_ref19_SameTie N) (W_ref13_SameFeed N) N
theorem con_ref19_SameNode_ok (N : Nat) : (u_ref19_SameNode.con (W_ref19_SameNode N)).ok P0 := Uf.ok mixed (q_ref19_SameNode (W_ref19_SameTie N) (W_ref13_SameFeed N) N) ⟨con_ref19_SameTie_ok N, con_ref13_SameFeed_ok N, trivial⟩ Tryz.func43 (by kernel_rfl) fun x y => by kernel_rfl
noncomputable def u_ref21_Same : Uf := ⟨14, 76, Tryz.f14, [.val (.agg T5_), .val (.agg T5_)], [],
⟨[(4, .val .bool)], []⟩, [],
[(4, .loop [] ⟨[(2, .ptr 600002 0), (3, .ptr 600003 0), (5, .val (.int .i64))], [(600002, .box 37 (.val T5_)), (600003, .box 37 (.val T5_))]⟩ [(.exit 0, ⟨[(2, .ptr 600002 0), (3, .ptr 600003 0)], [(600002, .box 37 (.val T5_)), (600003, .box 37 (.val T5_))]⟩), (.ret, ⟨[(4, .val .bool)], []⟩)]),
(9, .loop [] ⟨[(2, .ptr 600002 0), (3, .ptr 600003 0), (6, .val (.int .i64))], [(600002, .box 37 (.val T5_)), (600003, .box 37 (.val T5_))]⟩ [(.exit 2, ⟨[], []⟩), (.ret, ⟨[(4, .val .bool)], []⟩)])],
[(1000001, .reg [(15, [], ⟨[(2, .ptr 600002 0), (3, .ptr 600003 0), (21, .val .bool)], [(600002, .box 37 (.val T5_)), (600003, .box 37 (.val T5_))]⟩), (9, [], ⟨[(2, .ptr 600002 0), (3, .ptr 600003 0), (30, .val .bool)], [(600002, .box 37 (.val T5_)), (600003, .box 37 (.val T5_))]⟩)])], fun y => (valW .bool y, [], [])⟩
noncomputable def V_ref21_Same (w_ref13_SameGrams : List (Int × List UInt8 × Bool) × List (Int × List UInt8 × Bool) → Option (Bool)) (w_ref7_SameHier : A1_ × A1_ → Option (Bool)) (w_ref19_SameNode : A0_ × A0_ → Option (Bool)) (N : Nat) (x : A4_ × A4_) : Option (Bool) :=
  obind (cnd (decide ((↑(List.length x.1.1) : Int) ≠ (↑(List.length x.2.1) : Int))) (some (true, x)) (obind (w_ref13_SameGrams (x.1.2.1, x.2.2.1)) fun
    b => some (!b, x))) fun (b : Bool × A4_ × A4_) => obind (cnd b.1 (some (true, b.2)) (some (decide ((↑(List.length b.2.1.2.2.1) : Int) ≠ (↑(List.length
    b.2.2.2.2.1) : Int)), b.2))) fun (b : Bool × A4_ × A4_) => cnd b.1 (some false) (obind (w_ref7_SameHier (b.2.1.2.2.2, b.2.2.2.2.2)) fun b_1 => cnd
    (!b_1) (some false) (obind (loopN N (fun (v : Int × A4_ × A4_) => cnd (decide (v.1 < (↑(List.length v.2.1.1) : Int))) (cnd (decide ((0:Int) ≤ v.1)
    && decide (v.1 < (↑(List.length v.2.1.1) : Int))) (cnd (decide ((0:Int) ≤ v.1) && decide (v.1 < (↑(List.length v.2.2.1) : Int))) (obind
    (w_ref19_SameNode ((Prod.fst (List.getD v.2.1.1 (Int.toNat v.1) (false, (0:Int), [], ((0:Int), (0:Int), (0:Int), (0:Int), (0:Int), (0:Int), [],
    (0:Int), (0:Int), (0:Int), (0:Int), (0:Int), []), ((0:Int), (0:Int), [], [], [], (0:Int), (0:Int)), (0:Int))), Prod.fst (Prod.snd (List.getD v.2.1.1
    (Int.toNat v.1) (false, (0:Int), [], ((0:Int), (0:Int), (0:Int), (0:Int), (0:Int), (0:Int), [], (0:Int), (0:Int), (0:Int), (0:Int), (0:Int), []),
    ((0:Int), (0:Int), [], [], [], (0:Int), (0:Int)), (0:Int)))), Prod.fst (Prod.snd (Prod.snd (List.getD v.2.1.1 (Int.toNat v.1) (false, (0:Int), [],
    ((0:Int), (0:Int), (0:Int), (0:Int), (0:Int), (0:Int), [], (0:Int), (0:Int), (0:Int), (0:Int), (0:Int), []), ((0:Int), (0:Int), [], [], [], (0:Int),
    (0:Int)), (0:Int))))), Prod.fst (Prod.snd (Prod.snd (Prod.snd (List.getD v.2.1.1 (Int.toNat v.1) (false, (0:Int), [], ((0:Int), (0:Int), (0:Int),
    (0:Int), (0:Int), (0:Int), [], (0:Int), (0:Int), (0:Int), (0:Int), (0:Int), []), ((0:Int), (0:Int), [], [], [], (0:Int), (0:Int)), (0:Int)))))),
    Prod.fst (Prod.snd (Prod.snd (Prod.snd (Prod.snd (List.getD v.2.1.1 (Int.toNat v.1) (false, (0:Int), [], ((0:Int), (0:Int), (0:Int), (0:Int),
    (0:Int), (0:Int), [], (0:Int), (0:Int), (0:Int), (0:Int), (0:Int), []), ((0:Int), (0:Int), [], [], [], (0:Int), (0:Int)), (0:Int))))))), Prod.snd
    (Prod.snd (Prod.snd (Prod.snd (Prod.snd (List.getD v.2.1.1 (Int.toNat v.1) (false, (0:Int), [], ((0:Int), (0:Int), (0:Int), (0:Int), (0:Int),
    (0:Int), [], (0:Int), (0:Int), (0:Int), (0:Int), (0:Int), []), ((0:Int), (0:Int), [], [], [], (0:Int), (0:Int)), (0:Int)))))))), Prod.fst (List.getD
    v.2.2.1 (Int.toNat v.1) (false, (0:Int), [], ((0:Int), (0:Int), (0:Int), (0:Int), (0:Int), (0:Int), [], (0:Int), (0:Int), (0:Int), (0:Int), (0:Int),
    []), ((0:Int), (0:Int), [], [], [], (0:Int), (0:Int)), (0:Int))), Prod.fst (Prod.snd (List.getD v.2.2.1 (Int.toNat v.1) (false, (0:Int), [],
    ((0:Int), (0:Int), (0:Int), (0:Int), (0:Int), (0:Int), [], (0:Int), (0:Int), (0:Int), (0:Int), (0:Int), []), ((0:Int), (0:Int), [], [], [], (0:Int),
    (0:Int)), (0:Int)))), Prod.fst (Prod.snd (Prod.snd (List.getD v.2.2.1 (Int.toNat v.1) (false, (0:Int), [], ((0:Int), (0:Int), (0:Int), (0:Int),
    (0:Int), (0:Int), [], (0:Int), (0:Int), (0:Int), (0:Int), (0:Int), []), ((0:Int), (0:Int), [], [], [], (0:Int), (0:Int)), (0:Int))))), Prod.fst
    (Prod.snd (Prod.snd (Prod.snd (List.getD v.2.2.1 (Int.toNat v.1) (false, (0:Int), [], ((0:Int), (0:Int), (0:Int), (0:Int), (0:Int), (0:Int), [],
    (0:Int), (0:Int), (0:Int), (0:Int), (0:Int), []), ((0:Int), (0:Int), [], [], [], (0:Int), (0:Int)), (0:Int)))))), Prod.fst (Prod.snd (Prod.snd
    (Prod.snd (Prod.snd (List.getD v.2.2.1 (Int.toNat v.1) (false, (0:Int), [], ((0:Int), (0:Int), (0:Int), (0:Int), (0:Int), (0:Int), [], (0:Int),
    (0:Int), (0:Int), (0:Int), (0:Int), []), ((0:Int), (0:Int), [], [], [], (0:Int), (0:Int)), (0:Int))))))), Prod.snd (Prod.snd (Prod.snd (Prod.snd
    (Prod.snd (List.getD v.2.2.1 (Int.toNat v.1) (false, (0:Int), [], ((0:Int), (0:Int), (0:Int), (0:Int), (0:Int), (0:Int), [], (0:Int), (0:Int),
    (0:Int), (0:Int), (0:Int), []), ((0:Int), (0:Int), [], [], [], (0:Int), (0:Int)), (0:Int))))))))) fun b => cnd (!b) (some (Sum.inr (Sum.inr false)))
    (some (Sum.inl (wr .i64 (v.1 + (1:Int)), v.2)))) none) none) (some (Sum.inr (Sum.inl v.2)))) ((0:Int), b.2)) fun (b : A4_ × List A0_ × List (Int × List UInt8 × Bool) × List (List UInt8) × Int × List (List Int) × List (List (List Int × Int)) ⊕ Bool) => selim (fun
    (b : A4_ × A4_) => obind (loopN N (fun (v : Int × A4_ × A4_) => cnd (decide (v.1 < (↑(List.length v.2.1.2.2.1) : Int))) (cnd (decide ((0:Int) ≤
    v.1) && decide (v.1 < (↑(List.length v.2.1.2.2.1) : Int))) (cnd (decide ((0:Int) ≤ v.1) && decide (v.1 < (↑(List.length v.2.2.2.2.1) : Int))) (cnd
    (!List.getD v.2.1.2.2.1 (Int.toNat v.1) [] == List.getD v.2.2.2.2.1 (Int.toNat v.1) []) (some (Sum.inr (Sum.inr false))) (some (Sum.inl (wr .i64
    (v.1 + (1:Int)), v.2)))) none) none) (some (Sum.inr (Sum.inl ())))) ((0:Int), b)) fun (b : PUnit ⊕ Bool) => selim (fun (b : PUnit) => some true)
    (fun (c : Bool) => some c) b) (fun (c : Bool) => some c) b))
theorem q_ref21_Same : ∀ w_ref13_SameGrams w_ref7_SameHier w_ref19_SameNode N x, u_ref21_Same.F L0 P0 (orcOf [u_ref13_SameGrams.con w_ref13_SameGrams, u_ref7_SameHier.con w_ref7_SameHier, u_ref19_SameNode.con w_ref19_SameNode]) N x = V_ref21_Same w_ref13_SameGrams w_ref7_SameHier w_ref19_SameNode N x := by intros; kernel_rfl
noncomputable def W_ref21_Same (N : Nat) := V_ref21_Same (W_ref13_SameGrams N) (W_ref7_SameHier N) (W_ref19_SameNode N) N
theorem con_ref21_Same_ok (N : Nat) : (u_ref21_Same.con (W_ref21_Same N)).ok P0 := Uf.ok mixed (q_ref21_Same (W_ref13_SameGrams N) (W_ref7_SameHier N) (W_ref19_SameNode N) N) ⟨con_ref13_SameGrams_ok N, con_ref7_SameHier_ok N, con_ref19_SameNode_ok N, trivial⟩ Tryz.func14 (by kernel_rfl) fun x y => by kernel_rfl
noncomputable def u_law22_WorldNew : Uf := ⟨3, 88, Tryz.f3, [.val (.list (.int .u8)), .val (.list (.list (.int .i64))), .val (.int .i64)], [],
⟨[(6, .val .bool)], []⟩, [],
[(6, .loop [] ⟨[(7, .val (.int .i64))], []⟩ [(.exit 0, ⟨[], []⟩), (.ret, ⟨[(6, .val .bool)], []⟩)]),
(14, .unroll 4)],
[], fun y => (valW .bool y, [], [])⟩
noncomputable def V_law22_WorldNew (w_Made : List Int → Option (List Int × Int)) (w_Picks_Dist : List Int × Int → Option (List (List Int) × List Int × Int)) (w_world_New : List (List Int) × Int → Option (Bool × A4_)) (w_ref21_New : List (List Int) × Int → Option (Bool × A4_)) (w_ref21_Same : A4_ × A4_ → Option (Bool)) (N : Nat) (x : List Int × List (List Int) × Int) : Option (Bool) :=
  cnd (decide ((30:Int) < (↑(List.length x.1) : Int))) (some true) (cnd (decide ((10:Int) < (↑(List.length x.2.1) : Int))) (some true) (obind (loopN N
    (fun (v : Int) => cnd (decide (v < (↑(List.length x.2.1) : Int))) (cnd (decide ((0:Int) ≤ v) && decide (v < (↑(List.length x.2.1) : Int))) (cnd
    (decide ((10:Int) < (↑(List.length (List.getD x.2.1 (Int.toNat v) [])) : Int))) (some (Sum.inr (Sum.inr true))) (some (Sum.inl (wr .i64 (v +
    (1:Int)))))) none) (some (Sum.inr (Sum.inl ())))) (Int.ofNat (0:Nat))) fun (b : PUnit ⊕ Bool) => selim (fun (b : PUnit) => obind (w_Made x.1) fun
    b => obind (w_Picks_Dist b) fun b => obind (w_world_New (b.1, x.2.2)) fun b_1 => obind (w_ref21_New (b.1, x.2.2)) fun b_2 => cnd (!b_1.1 ==
    b_2.1) (some false) (obind (w_ref21_Same (b_1.2, b_2.2)) fun b_3 => cnd (!b_3) (some false) (obind (w_world_New (x.2.1, (2:Int))) fun b_4 =>
    obind (w_ref21_New (x.2.1, (2:Int))) fun b_5 => cnd (!b_4.1 == b_5.1) (some false) (obind (w_ref21_Same (b_4.2, b_5.2)) fun b_6 => cnd (!b_6)
    (some false) (obind (w_world_New (b.1, wr .i64 ((1:Int) + Int.tmod (↑(List.length x.1) : Int) (3:Int)))) fun b_7 => obind (w_ref21_New (b.1, wr
    .i64 ((1:Int) + Int.tmod (↑(List.length x.1) : Int) (3:Int)))) fun b => cnd (!b_7.1 == b.1) (some false) (obind (w_ref21_Same (b_7.2, b.2)) fun b
    => cnd (!b) (some false) (some true))))))) (fun (c : Bool) => some c) b))
theorem q_law22_WorldNew : ∀ w_Made w_Picks_Dist w_world_New w_ref21_New w_ref21_Same N x, u_law22_WorldNew.F L0 P0 (orcOf [con_law22_begun N, u_Made.con w_Made, u_Picks_Dist.con w_Picks_Dist, u_world_New.con w_world_New, u_ref21_New.con w_ref21_New, u_ref21_Same.con w_ref21_Same]) N x = V_law22_WorldNew w_Made w_Picks_Dist w_world_New w_ref21_New w_ref21_Same N x := by intros; kernel_rfl
noncomputable def W_law22_WorldNew (N : Nat) := V_law22_WorldNew (W_Made N) (W_Picks_Dist N) (W_world_New N) (W_ref21_New N) (W_ref21_Same N) N
theorem con_law22_WorldNew_ok (N : Nat) : (u_law22_WorldNew.con (W_law22_WorldNew N)).ok P0 := Uf.ok mixed (q_law22_WorldNew (W_Made N) (W_Picks_Dist N) (W_world_New N) (W_ref21_New N) (W_ref21_Same N) N) ⟨con_law22_begun_ok N, con_Made_ok N, con_Picks_Dist_ok N, con_world_New_ok N, con_ref21_New_ok N, con_ref21_Same_ok N, trivial⟩ Tryz.func3 (by kernel_rfl) fun x y => by kernel_rfl
end Go.Proofs.YtiaoojocpcldmaaGreat.worldNewX
