/- MidBest: for all arguments the call returns true. The law is brought to a function of Lean's own (W_..) by the machine of the texts beside it, and that is reckoned; no condition. -/
import Derived.Test.YtnajkooelhmmeaaExtL
import Derived.Test.YtnajkooelhmmeaaRows
import Derived.WalkKit
import Derived.ProofKit
import Derived.OpenShut
import Derived.ShutString
import Derived.ChangeOld
import Derived.Below
namespace Go.Proofs.Ytnajkooelhmmeaa.midBestX
open Go.Abs Go.RowKit Go.ChangeShapes Go.WideShapes Go.ChangeAt
set_option maxRecDepth 100000
set_option linter.unusedVariables false
set_option linter.unusedSimpArgs false
noncomputable abbrev P0 : Program := Try.prog
noncomputable def bodyOf (fn : Func) : Code := fn.body.getD .skip
def L0 : Lend := fun f => aget [] [(144, [0])] f
def kpL (l : List Bool) : Nat → Bool := fun j => l.getD j true
theorem own : ownKnob Try.prog.godebug = none := by kernel_rfl
theorem laidOut : laidOutB Try.prog = true := by kernel_rfl
theorem mixed : P0.follows .mixedOrders = true := by decide +kernel
theorem progOk_ : progOk P0 = true := by decide +kernel
noncomputable def con_law7_begun (N : Nat) : Con := ⟨20, [], [], Unit, fun _ => some (), fun _ => (.bs true, [], [])⟩
theorem con_law7_begun_ok (N : Nat) : Con.ok P0 (con_law7_begun N) := closed_con2 (nonJ_ok _) mixed progOk_ (noneΞ_ok2 _) (inl := [21,22,23,53,66,68,82,96,101,114,144,185]) (breath := 100000) (n := 60) (by kernel_rfl)
def as_Made : List AS := [.val (.list (.int .u8))]
def bs_Made : List BS := []
def pout_Made : Pat := ⟨[(2, .ptr 600005 0)], [(600005, .box 103 (.val (.pair (.list (.int .u8)) (.int .i64))))]⟩
noncomputable def G_Made  (N : Nat) : OrcT := orcOf []
noncomputable def F_Made  (N : Nat) (x : List Int) : Option ((List Int) × Int) :=
  (evT (G_Made  N) L0 P0 []
    [] N 400 (bodyOf Try.f21) ⟨6, slots 0 (argsOf as_Made bs_Made x), tabU (lbOf as_Made bs_Made x) [], []⟩).elim (kRet 6 pout_Made (kpL []) (lbOf as_Made bs_Made x))
def out_Made (y : (List Int) × Int) : V × List OK × List OK := (.ptr 2000000 0 0, [], [.box 103 (cellsW (.pair (.list (.int .u8)) (.int .i64)) y)])
noncomputable def V_Made  (N : Nat) (x : List Int) : Option ((List Int) × Int) :=
  some (x, (0 : Int))
theorem FV_Made_eq  (N : Nat) (x : List Int) : F_Made  N x = V_Made  N x := by kernel_rfl
noncomputable def W_Made (N : Nat) (x : List Int) : Option ((List Int) × Int) :=
  some (x, (0 : Int))
theorem F_Made_eq (N : Nat) (x : List Int) : F_Made  N x = W_Made N x := (FV_Made_eq  N x).trans (by kernel_rfl)
noncomputable def conw_Made (w : List Int → Option ((List Int) × Int)) : Con := ⟨21, as_Made, bs_Made, (List Int) × Int, w, out_Made⟩
noncomputable def con_Made (N : Nat) : Con := conw_Made (W_Made N)
theorem R_Made_eq (x : List Int) (y : (List Int) × Int) : retOf2 P0 Try.f21 (kpL []) (lbOf as_Made bs_Made x) (patS ⟨6, [], [], []⟩ pout_Made y) = some (out_Made y) := by kernel_rfl
theorem con_Made_ok (N : Nat) : Con.ok P0 (con_Made N) := ⟨⟨Try.f21, Try.func21, by kernel_rfl, by kernel_rfl⟩, fun (x : List Int) (r : (List Int) × Int) (hr : W_Made N x = some r) =>
  spec2_evT (Γ := G_Made N) (Λ := L0) (pout := pout_Made) (kp := kpL []) mixed (orcOf_ok [] (by simp)) Try.func21 (c := bodyOf Try.f21) (by kernel_rfl) (by kernel_rfl) (of_decide_eq_true (by kernel_rfl)) ((F_Made_eq N x).trans hr) (R_Made_eq x r)⟩
def as_Picks_Num : List AS := [.ptr 0 0, .val (.int .i64)]
def bs_Picks_Num : List BS := [.box 103 (.pair (.list (.int .u8)) (.int .i64))]
def pout_Picks_Num : Pat := ⟨[(0, .ptr 1000000 0), (4, .val (.int .i64))], [(1000000, .box 103 (.val (.pair (.list (.int .u8)) (.int .i64))))]⟩
noncomputable def G_Picks_Num  (N : Nat) : OrcT := orcOf []
noncomputable def F_Picks_Num  (N : Nat) (x : Int × (List Int) × Int) : Option (Int × (List Int) × Int) :=
  (evT (G_Picks_Num  N) L0 P0 []
    [] N 400 (bodyOf Try.f68) ⟨40, slots 0 (argsOf as_Picks_Num bs_Picks_Num x), tabU (lbOf as_Picks_Num bs_Picks_Num x) [], []⟩).elim (kRet 40 pout_Picks_Num (kpL [true]) (lbOf as_Picks_Num bs_Picks_Num x))
def out_Picks_Num (y : Int × (List Int) × Int) : V × List OK × List OK := (valW (.int .i64) y.1, [.box 103 (cellsW (.pair (.list (.int .u8)) (.int .i64)) y.2)], [])
noncomputable def V_Picks_Num  (N : Nat) (x : Int × (List Int) × Int) : Option (Int × (List Int) × Int) :=
  cnd (decide ((↑(List.length (Prod.fst (Prod.snd x))) : Int) ≤ Prod.snd (Prod.snd x)))
    (some ((0 : Int), Prod.fst (Prod.snd x), Prod.snd (Prod.snd x)))
    (cnd (decide (Prod.fst x < (1 : Int))) (some ((0 : Int), Prod.fst (Prod.snd x), Prod.snd (Prod.snd x)))
      (cnd
        (decide ((0 : Int) ≤ wr IntKind.i64 (wr IntKind.i64 (Prod.snd (Prod.snd x) + (1 : Int)) - (1 : Int))) &&
          decide
            (wr IntKind.i64 (wr IntKind.i64 (Prod.snd (Prod.snd x) + (1 : Int)) - (1 : Int)) <
              (↑(List.length (Prod.fst (Prod.snd x))) : Int)))
        (cnd (!decide (Prod.fst x = (0 : Int)))
          (some
            (Int.tmod
                (wr IntKind.i64
                  (List.getD (Prod.fst (Prod.snd x))
                    (Int.toNat (wr IntKind.i64 (wr IntKind.i64 (Prod.snd (Prod.snd x) + (1 : Int)) - (1 : Int))))
                    (0 : Int)))
                (Prod.fst x),
              Prod.fst (Prod.snd x), wr IntKind.i64 (Prod.snd (Prod.snd x) + (1 : Int))))
          none)
        none))
theorem FV_Picks_Num_eq  (N : Nat) (x : Int × (List Int) × Int) : F_Picks_Num  N x = V_Picks_Num  N x := by kernel_rfl
noncomputable def W_Picks_Num (N : Nat) (x : Int × (List Int) × Int) : Option (Int × (List Int) × Int) :=
  cnd (decide ((↑(List.length (Prod.fst (Prod.snd x))) : Int) ≤ Prod.snd (Prod.snd x)))
    (some ((0 : Int), Prod.fst (Prod.snd x), Prod.snd (Prod.snd x)))
    (cnd (decide (Prod.fst x < (1 : Int))) (some ((0 : Int), Prod.fst (Prod.snd x), Prod.snd (Prod.snd x)))
      (cnd
        (decide ((0 : Int) ≤ wr IntKind.i64 (wr IntKind.i64 (Prod.snd (Prod.snd x) + (1 : Int)) - (1 : Int))) &&
          decide
            (wr IntKind.i64 (wr IntKind.i64 (Prod.snd (Prod.snd x) + (1 : Int)) - (1 : Int)) <
              (↑(List.length (Prod.fst (Prod.snd x))) : Int)))
        (cnd (!decide (Prod.fst x = (0 : Int)))
          (some
            (Int.tmod
                (wr IntKind.i64
                  (List.getD (Prod.fst (Prod.snd x))
                    (Int.toNat (wr IntKind.i64 (wr IntKind.i64 (Prod.snd (Prod.snd x) + (1 : Int)) - (1 : Int))))
                    (0 : Int)))
                (Prod.fst x),
              Prod.fst (Prod.snd x), wr IntKind.i64 (Prod.snd (Prod.snd x) + (1 : Int))))
          none)
        none))
theorem F_Picks_Num_eq (N : Nat) (x : Int × (List Int) × Int) : F_Picks_Num  N x = W_Picks_Num N x := (FV_Picks_Num_eq  N x).trans (by kernel_rfl)
noncomputable def conw_Picks_Num (w : Int × (List Int) × Int → Option (Int × (List Int) × Int)) : Con := ⟨68, as_Picks_Num, bs_Picks_Num, Int × (List Int) × Int, w, out_Picks_Num⟩
noncomputable def con_Picks_Num (N : Nat) : Con := conw_Picks_Num (W_Picks_Num N)
theorem R_Picks_Num_eq (x : Int × (List Int) × Int) (y : Int × (List Int) × Int) : retOf2 P0 Try.f68 (kpL [true]) (lbOf as_Picks_Num bs_Picks_Num x) (patS ⟨40, [], [], []⟩ pout_Picks_Num y) = some (out_Picks_Num y) := by kernel_rfl
theorem con_Picks_Num_ok (N : Nat) : Con.ok P0 (con_Picks_Num N) := ⟨⟨Try.f68, Try.func68, by kernel_rfl, by kernel_rfl⟩, fun (x : Int × (List Int) × Int) (r : Int × (List Int) × Int) (hr : W_Picks_Num N x = some r) =>
  spec2_evT (Γ := G_Picks_Num N) (Λ := L0) (pout := pout_Picks_Num) (kp := kpL [true]) mixed (orcOf_ok [] (by simp)) Try.func68 (c := bodyOf Try.f68) (by kernel_rfl) (by kernel_rfl) (of_decide_eq_true (by kernel_rfl)) ((F_Picks_Num_eq N x).trans hr) (R_Picks_Num_eq x r)⟩
def as_Picks_Dist : List AS := [.ptr 0 0]
def bs_Picks_Dist : List BS := [.box 103 (.pair (.list (.int .u8)) (.int .i64))]
def pout_Picks_Dist : Pat := ⟨[(0, .ptr 1000000 0), (2, .val (.list (.list (.int .i64))))], [(1000000, .box 103 (.val (.pair (.list (.int .u8)) (.int .i64))))]⟩
noncomputable def G_Picks_Dist (w_Picks_Num : Int × (List Int) × Int → Option (Int × (List Int) × Int)) (N : Nat) : OrcT := orcOf [conw_Picks_Num w_Picks_Num]
noncomputable def F_Picks_Dist (w_Picks_Num : Int × (List Int) × Int → Option (Int × (List Int) × Int)) (N : Nat) (x : (List Int) × Int) : Option ((List (List Int)) × (List Int) × Int) :=
  (evT (G_Picks_Dist w_Picks_Num N) L0 P0 [(3, .unroll 9),
    (10, .unroll 9),
    (7, .unroll 9)]
    [] N 400 (bodyOf Try.f22) ⟨45, slots 0 (argsOf as_Picks_Dist bs_Picks_Dist x), tabU (lbOf as_Picks_Dist bs_Picks_Dist x) [], []⟩).elim (kRet 45 pout_Picks_Dist (kpL [true]) (lbOf as_Picks_Dist bs_Picks_Dist x))
def out_Picks_Dist (y : (List (List Int)) × (List Int) × Int) : V × List OK × List OK := (valW (.list (.list (.int .i64))) y.1, [.box 103 (cellsW (.pair (.list (.int .u8)) (.int .i64)) y.2)], [])
noncomputable def V_Picks_Dist (w_Picks_Num : Int × (List Int) × Int → Option (Int × (List Int) × Int)) (N : Nat) (x : (List Int) × Int) : Option ((List (List Int)) × (List Int) × Int) :=
  obind (w_Picks_Num ((9 : Int), Prod.fst x, Prod.snd x)) fun (b0 : Int × List Int × Int) =>
    cnd (decide ((0 : Int) ≤ Prod.fst b0)) (cnd (decide (Prod.fst b0 < ((↑(9 : Nat) : Int) : Int))) (obind (w_Picks_Num ((9 : Int), Prod.fst (Prod.snd b0), Prod.snd (Prod.snd b0))) fun (b1 : Int × List Int × Int) =>
    cnd (decide ((0 : Int) ≤ Prod.fst b1)) (cnd (decide (Prod.fst b1 < ((↑(9 : Nat) : Int) : Int))) (obind (w_Picks_Num ((9 : Int), Prod.fst (Prod.snd b1), Prod.snd (Prod.snd b1))) fun (b2 : Int × List Int × Int) =>
    cnd (decide ((0 : Int) ≤ Prod.fst b2)) (cnd (decide (Prod.fst b2 < ((↑(9 : Nat) : Int) : Int))) (obind (w_Picks_Num ((9 : Int), Prod.fst (Prod.snd b2), Prod.snd (Prod.snd b2))) fun (b3 : Int × List Int × Int) =>
    cnd (decide ((0 : Int) ≤ Prod.fst b3)) (cnd (decide (Prod.fst b3 < ((↑(9 : Nat) : Int) : Int))) (obind (w_Picks_Num ((9 : Int), Prod.fst (Prod.snd b3), Prod.snd (Prod.snd b3))) fun (b4 : Int × List Int × Int) =>
    cnd (decide ((0 : Int) ≤ Prod.fst b4)) (cnd (decide (Prod.fst b4 < ((↑(9 : Nat) : Int) : Int))) (obind (w_Picks_Num ((9 : Int), Prod.fst (Prod.snd b4), Prod.snd (Prod.snd b4))) fun (b5 : Int × List Int × Int) =>
    cnd (decide ((0 : Int) ≤ Prod.fst b5)) (cnd (decide (Prod.fst b5 < ((↑(9 : Nat) : Int) : Int))) (obind (w_Picks_Num ((9 : Int), Prod.fst (Prod.snd b5), Prod.snd (Prod.snd b5))) fun (b6 : Int × List Int × Int) =>
    cnd (decide ((0 : Int) ≤ Prod.fst b6)) (cnd (decide (Prod.fst b6 < ((↑(9 : Nat) : Int) : Int))) (obind (w_Picks_Num ((9 : Int), Prod.fst (Prod.snd b6), Prod.snd (Prod.snd b6))) fun (b7 : Int × List Int × Int) =>
    cnd (decide ((0 : Int) ≤ Prod.fst b7)) (cnd (decide (Prod.fst b7 < ((↑(9 : Nat) : Int) : Int))) (obind (w_Picks_Num ((9 : Int), Prod.fst (Prod.snd b7), Prod.snd (Prod.snd b7))) fun (b8 : Int × List Int × Int) =>
    cnd (decide ((0 : Int) ≤ Prod.fst b8)) (cnd (decide (Prod.fst b8 < ((↑(9 : Nat) : Int) : Int))) (obind (w_Picks_Num ((9 : Int), Prod.fst (Prod.snd b8), Prod.snd (Prod.snd b8))) fun (b9 : Int × List Int × Int) =>
    cnd (decide ((0 : Int) ≤ Prod.fst b9)) (cnd (decide (Prod.fst b9 < ((↑(9 : Nat) : Int) : Int))) (obind (w_Picks_Num ((9 : Int), Prod.fst (Prod.snd b9), Prod.snd (Prod.snd b9))) fun (b10 : Int × List Int × Int) =>
    cnd (decide ((0 : Int) ≤ Prod.fst b10)) (cnd (decide (Prod.fst b10 < ((↑(9 : Nat) : Int) : Int))) (obind (w_Picks_Num ((9 : Int), Prod.fst (Prod.snd b10), Prod.snd (Prod.snd b10))) fun (b11 : Int × List Int × Int) =>
    cnd (decide ((0 : Int) ≤ Prod.fst b11)) (cnd (decide (Prod.fst b11 < ((↑(9 : Nat) : Int) : Int))) (obind (w_Picks_Num ((9 : Int), Prod.fst (Prod.snd b11), Prod.snd (Prod.snd b11))) fun (b12 : Int × List Int × Int) =>
    cnd (decide ((0 : Int) ≤ Prod.fst b12)) (cnd (decide (Prod.fst b12 < ((↑(9 : Nat) : Int) : Int))) (obind (w_Picks_Num ((9 : Int), Prod.fst (Prod.snd b12), Prod.snd (Prod.snd b12))) fun (b13 : Int × List Int × Int) =>
    cnd (decide ((0 : Int) ≤ Prod.fst b13)) (cnd (decide (Prod.fst b13 < ((↑(9 : Nat) : Int) : Int))) (obind (w_Picks_Num ((9 : Int), Prod.fst (Prod.snd b13), Prod.snd (Prod.snd b13))) fun (b14 : Int × List Int × Int) =>
    cnd (decide ((0 : Int) ≤ Prod.fst b14)) (cnd (decide (Prod.fst b14 < ((↑(9 : Nat) : Int) : Int))) (obind (w_Picks_Num ((9 : Int), Prod.fst (Prod.snd b14), Prod.snd (Prod.snd b14))) fun (b15 : Int × List Int × Int) =>
    cnd (decide ((0 : Int) ≤ Prod.fst b15)) (cnd (decide (Prod.fst b15 < ((↑(9 : Nat) : Int) : Int))) (obind (w_Picks_Num ((9 : Int), Prod.fst (Prod.snd b15), Prod.snd (Prod.snd b15))) fun (b16 : Int × List Int × Int) =>
    cnd (decide ((0 : Int) ≤ Prod.fst b16)) (cnd (decide (Prod.fst b16 < ((↑(9 : Nat) : Int) : Int))) (obind (w_Picks_Num ((9 : Int), Prod.fst (Prod.snd b16), Prod.snd (Prod.snd b16))) fun (b17 : Int × List Int × Int) =>
    cnd (decide ((0 : Int) ≤ Prod.fst b17)) (cnd (decide (Prod.fst b17 < ((↑(9 : Nat) : Int) : Int))) (obind (w_Picks_Num ((9 : Int), Prod.fst (Prod.snd b17), Prod.snd (Prod.snd b17))) fun (b18 : Int × List Int × Int) =>
    cnd (decide ((0 : Int) ≤ Prod.fst b18)) (cnd (decide (Prod.fst b18 < ((↑(9 : Nat) : Int) : Int))) (obind (w_Picks_Num ((9 : Int), Prod.fst (Prod.snd b18), Prod.snd (Prod.snd b18))) fun (b19 : Int × List Int × Int) =>
    cnd (decide ((0 : Int) ≤ Prod.fst b19)) (cnd (decide (Prod.fst b19 < ((↑(9 : Nat) : Int) : Int))) (obind (w_Picks_Num ((9 : Int), Prod.fst (Prod.snd b19), Prod.snd (Prod.snd b19))) fun (b20 : Int × List Int × Int) =>
    cnd (decide ((0 : Int) ≤ Prod.fst b20)) (cnd (decide (Prod.fst b20 < ((↑(9 : Nat) : Int) : Int))) (obind (w_Picks_Num ((9 : Int), Prod.fst (Prod.snd b20), Prod.snd (Prod.snd b20))) fun (b21 : Int × List Int × Int) =>
    cnd (decide ((0 : Int) ≤ Prod.fst b21)) (cnd (decide (Prod.fst b21 < ((↑(9 : Nat) : Int) : Int))) (obind (w_Picks_Num ((9 : Int), Prod.fst (Prod.snd b21), Prod.snd (Prod.snd b21))) fun (b22 : Int × List Int × Int) =>
    cnd (decide ((0 : Int) ≤ Prod.fst b22)) (cnd (decide (Prod.fst b22 < ((↑(9 : Nat) : Int) : Int))) (obind (w_Picks_Num ((9 : Int), Prod.fst (Prod.snd b22), Prod.snd (Prod.snd b22))) fun (b23 : Int × List Int × Int) =>
    cnd (decide ((0 : Int) ≤ Prod.fst b23)) (cnd (decide (Prod.fst b23 < ((↑(9 : Nat) : Int) : Int))) (obind (w_Picks_Num ((9 : Int), Prod.fst (Prod.snd b23), Prod.snd (Prod.snd b23))) fun (b24 : Int × List Int × Int) =>
    cnd (decide ((0 : Int) ≤ Prod.fst b24)) (cnd (decide (Prod.fst b24 < ((↑(9 : Nat) : Int) : Int))) (obind (w_Picks_Num ((9 : Int), Prod.fst (Prod.snd b24), Prod.snd (Prod.snd b24))) fun (b25 : Int × List Int × Int) =>
    cnd (decide ((0 : Int) ≤ Prod.fst b25)) (cnd (decide (Prod.fst b25 < ((↑(9 : Nat) : Int) : Int))) (obind (w_Picks_Num ((9 : Int), Prod.fst (Prod.snd b25), Prod.snd (Prod.snd b25))) fun (b26 : Int × List Int × Int) =>
    cnd (decide ((0 : Int) ≤ Prod.fst b26)) (cnd (decide (Prod.fst b26 < ((↑(9 : Nat) : Int) : Int))) (obind (w_Picks_Num ((9 : Int), Prod.fst (Prod.snd b26), Prod.snd (Prod.snd b26))) fun (b27 : Int × List Int × Int) =>
    cnd (decide ((0 : Int) ≤ Prod.fst b27)) (cnd (decide (Prod.fst b27 < ((↑(9 : Nat) : Int) : Int))) (some ([[(0 : Int), List.getD [(1 : Int), (2 : Int), (3 : Int), (5 : Int), (9 : Int), (9 : Int), (20 : Int), (1000 : Int), (0 : Int)] (Int.toNat (Prod.fst b0)) (0 : Int), List.getD [(1 : Int), (2 : Int), (3 : Int), (5 : Int), (9 : Int), (9 : Int), (20 : Int), (1000 : Int), (0 : Int)] (Int.toNat (Prod.fst b1)) (0 : Int), List.getD [(1 : Int), (2 : Int), (3 : Int), (5 : Int), (9 : Int), (9 : Int), (20 : Int), (1000 : Int), (0 : Int)] (Int.toNat (Prod.fst b3)) (0 : Int), List.getD [(1 : Int), (2 : Int), (3 : Int), (5 : Int), (9 : Int), (9 : Int), (20 : Int), (1000 : Int), (0 : Int)] (Int.toNat (Prod.fst b6)) (0 : Int), List.getD [(1 : Int), (2 : Int), (3 : Int), (5 : Int), (9 : Int), (9 : Int), (20 : Int), (1000 : Int), (0 : Int)] (Int.toNat (Prod.fst b10)) (0 : Int), List.getD [(1 : Int), (2 : Int), (3 : Int), (5 : Int), (9 : Int), (9 : Int), (20 : Int), (1000 : Int), (0 : Int)] (Int.toNat (Prod.fst b15)) (0 : Int), List.getD [(1 : Int), (2 : Int), (3 : Int), (5 : Int), (9 : Int), (9 : Int), (20 : Int), (1000 : Int), (0 : Int)] (Int.toNat (Prod.fst b21)) (0 : Int)],
    [List.getD [(1 : Int), (2 : Int), (3 : Int), (5 : Int), (9 : Int), (9 : Int), (20 : Int), (1000 : Int), (0 : Int)] (Int.toNat (Prod.fst b0)) (0 : Int), (0 : Int), List.getD [(1 : Int), (2 : Int), (3 : Int), (5 : Int), (9 : Int), (9 : Int), (20 : Int), (1000 : Int), (0 : Int)] (Int.toNat (Prod.fst b2)) (0 : Int), List.getD [(1 : Int), (2 : Int), (3 : Int), (5 : Int), (9 : Int), (9 : Int), (20 : Int), (1000 : Int), (0 : Int)] (Int.toNat (Prod.fst b4)) (0 : Int), List.getD [(1 : Int), (2 : Int), (3 : Int), (5 : Int), (9 : Int), (9 : Int), (20 : Int), (1000 : Int), (0 : Int)] (Int.toNat (Prod.fst b7)) (0 : Int), List.getD [(1 : Int), (2 : Int), (3 : Int), (5 : Int), (9 : Int), (9 : Int), (20 : Int), (1000 : Int), (0 : Int)] (Int.toNat (Prod.fst b11)) (0 : Int), List.getD [(1 : Int), (2 : Int), (3 : Int), (5 : Int), (9 : Int), (9 : Int), (20 : Int), (1000 : Int), (0 : Int)] (Int.toNat (Prod.fst b16)) (0 : Int), List.getD [(1 : Int), (2 : Int), (3 : Int), (5 : Int), (9 : Int), (9 : Int), (20 : Int), (1000 : Int), (0 : Int)] (Int.toNat (Prod.fst b22)) (0 : Int)],
    [List.getD [(1 : Int), (2 : Int), (3 : Int), (5 : Int), (9 : Int), (9 : Int), (20 : Int), (1000 : Int), (0 : Int)] (Int.toNat (Prod.fst b1)) (0 : Int), List.getD [(1 : Int), (2 : Int), (3 : Int), (5 : Int), (9 : Int), (9 : Int), (20 : Int), (1000 : Int), (0 : Int)] (Int.toNat (Prod.fst b2)) (0 : Int), (0 : Int), List.getD [(1 : Int), (2 : Int), (3 : Int), (5 : Int), (9 : Int), (9 : Int), (20 : Int), (1000 : Int), (0 : Int)] (Int.toNat (Prod.fst b5)) (0 : Int), List.getD [(1 : Int), (2 : Int), (3 : Int), (5 : Int), (9 : Int), (9 : Int), (20 : Int), (1000 : Int), (0 : Int)] (Int.toNat (Prod.fst b8)) (0 : Int), List.getD [(1 : Int), (2 : Int), (3 : Int), (5 : Int), (9 : Int), (9 : Int), (20 : Int), (1000 : Int), (0 : Int)] (Int.toNat (Prod.fst b12)) (0 : Int), List.getD [(1 : Int), (2 : Int), (3 : Int), (5 : Int), (9 : Int), (9 : Int), (20 : Int), (1000 : Int), (0 : Int)] (Int.toNat (Prod.fst b17)) (0 : Int), List.getD [(1 : Int), (2 : Int), (3 : Int), (5 : Int), (9 : Int), (9 : Int), (20 : Int), (1000 : Int), (0 : Int)] (Int.toNat (Prod.fst b23)) (0 : Int)],
    [List.getD [(1 : Int), (2 : Int), (3 : Int), (5 : Int), (9 : Int), (9 : Int), (20 : Int), (1000 : Int), (0 : Int)] (Int.toNat (Prod.fst b3)) (0 : Int), List.getD [(1 : Int), (2 : Int), (3 : Int), (5 : Int), (9 : Int), (9 : Int), (20 : Int), (1000 : Int), (0 : Int)] (Int.toNat (Prod.fst b4)) (0 : Int), List.getD [(1 : Int), (2 : Int), (3 : Int), (5 : Int), (9 : Int), (9 : Int), (20 : Int), (1000 : Int), (0 : Int)] (Int.toNat (Prod.fst b5)) (0 : Int), (0 : Int), List.getD [(1 : Int), (2 : Int), (3 : Int), (5 : Int), (9 : Int), (9 : Int), (20 : Int), (1000 : Int), (0 : Int)] (Int.toNat (Prod.fst b9)) (0 : Int), List.getD [(1 : Int), (2 : Int), (3 : Int), (5 : Int), (9 : Int), (9 : Int), (20 : Int), (1000 : Int), (0 : Int)] (Int.toNat (Prod.fst b13)) (0 : Int), List.getD [(1 : Int), (2 : Int), (3 : Int), (5 : Int), (9 : Int), (9 : Int), (20 : Int), (1000 : Int), (0 : Int)] (Int.toNat (Prod.fst b18)) (0 : Int), List.getD [(1 : Int), (2 : Int), (3 : Int), (5 : Int), (9 : Int), (9 : Int), (20 : Int), (1000 : Int), (0 : Int)] (Int.toNat (Prod.fst b24)) (0 : Int)],
    [List.getD [(1 : Int), (2 : Int), (3 : Int), (5 : Int), (9 : Int), (9 : Int), (20 : Int), (1000 : Int), (0 : Int)] (Int.toNat (Prod.fst b6)) (0 : Int), List.getD [(1 : Int), (2 : Int), (3 : Int), (5 : Int), (9 : Int), (9 : Int), (20 : Int), (1000 : Int), (0 : Int)] (Int.toNat (Prod.fst b7)) (0 : Int), List.getD [(1 : Int), (2 : Int), (3 : Int), (5 : Int), (9 : Int), (9 : Int), (20 : Int), (1000 : Int), (0 : Int)] (Int.toNat (Prod.fst b8)) (0 : Int), List.getD [(1 : Int), (2 : Int), (3 : Int), (5 : Int), (9 : Int), (9 : Int), (20 : Int), (1000 : Int), (0 : Int)] (Int.toNat (Prod.fst b9)) (0 : Int), (0 : Int), List.getD [(1 : Int), (2 : Int), (3 : Int), (5 : Int), (9 : Int), (9 : Int), (20 : Int), (1000 : Int), (0 : Int)] (Int.toNat (Prod.fst b14)) (0 : Int), List.getD [(1 : Int), (2 : Int), (3 : Int), (5 : Int), (9 : Int), (9 : Int), (20 : Int), (1000 : Int), (0 : Int)] (Int.toNat (Prod.fst b19)) (0 : Int), List.getD [(1 : Int), (2 : Int), (3 : Int), (5 : Int), (9 : Int), (9 : Int), (20 : Int), (1000 : Int), (0 : Int)] (Int.toNat (Prod.fst b25)) (0 : Int)],
    [List.getD [(1 : Int), (2 : Int), (3 : Int), (5 : Int), (9 : Int), (9 : Int), (20 : Int), (1000 : Int), (0 : Int)] (Int.toNat (Prod.fst b10)) (0 : Int), List.getD [(1 : Int), (2 : Int), (3 : Int), (5 : Int), (9 : Int), (9 : Int), (20 : Int), (1000 : Int), (0 : Int)] (Int.toNat (Prod.fst b11)) (0 : Int), List.getD [(1 : Int), (2 : Int), (3 : Int), (5 : Int), (9 : Int), (9 : Int), (20 : Int), (1000 : Int), (0 : Int)] (Int.toNat (Prod.fst b12)) (0 : Int), List.getD [(1 : Int), (2 : Int), (3 : Int), (5 : Int), (9 : Int), (9 : Int), (20 : Int), (1000 : Int), (0 : Int)] (Int.toNat (Prod.fst b13)) (0 : Int), List.getD [(1 : Int), (2 : Int), (3 : Int), (5 : Int), (9 : Int), (9 : Int), (20 : Int), (1000 : Int), (0 : Int)] (Int.toNat (Prod.fst b14)) (0 : Int), (0 : Int), List.getD [(1 : Int), (2 : Int), (3 : Int), (5 : Int), (9 : Int), (9 : Int), (20 : Int), (1000 : Int), (0 : Int)] (Int.toNat (Prod.fst b20)) (0 : Int), List.getD [(1 : Int), (2 : Int), (3 : Int), (5 : Int), (9 : Int), (9 : Int), (20 : Int), (1000 : Int), (0 : Int)] (Int.toNat (Prod.fst b26)) (0 : Int)],
    [List.getD [(1 : Int), (2 : Int), (3 : Int), (5 : Int), (9 : Int), (9 : Int), (20 : Int), (1000 : Int), (0 : Int)] (Int.toNat (Prod.fst b15)) (0 : Int), List.getD [(1 : Int), (2 : Int), (3 : Int), (5 : Int), (9 : Int), (9 : Int), (20 : Int), (1000 : Int), (0 : Int)] (Int.toNat (Prod.fst b16)) (0 : Int), List.getD [(1 : Int), (2 : Int), (3 : Int), (5 : Int), (9 : Int), (9 : Int), (20 : Int), (1000 : Int), (0 : Int)] (Int.toNat (Prod.fst b17)) (0 : Int), List.getD [(1 : Int), (2 : Int), (3 : Int), (5 : Int), (9 : Int), (9 : Int), (20 : Int), (1000 : Int), (0 : Int)] (Int.toNat (Prod.fst b18)) (0 : Int), List.getD [(1 : Int), (2 : Int), (3 : Int), (5 : Int), (9 : Int), (9 : Int), (20 : Int), (1000 : Int), (0 : Int)] (Int.toNat (Prod.fst b19)) (0 : Int), List.getD [(1 : Int), (2 : Int), (3 : Int), (5 : Int), (9 : Int), (9 : Int), (20 : Int), (1000 : Int), (0 : Int)] (Int.toNat (Prod.fst b20)) (0 : Int), (0 : Int), List.getD [(1 : Int), (2 : Int), (3 : Int), (5 : Int), (9 : Int), (9 : Int), (20 : Int), (1000 : Int), (0 : Int)] (Int.toNat (Prod.fst b27)) (0 : Int)],
    [List.getD [(1 : Int), (2 : Int), (3 : Int), (5 : Int), (9 : Int), (9 : Int), (20 : Int), (1000 : Int), (0 : Int)] (Int.toNat (Prod.fst b21)) (0 : Int), List.getD [(1 : Int), (2 : Int), (3 : Int), (5 : Int), (9 : Int), (9 : Int), (20 : Int), (1000 : Int), (0 : Int)] (Int.toNat (Prod.fst b22)) (0 : Int), List.getD [(1 : Int), (2 : Int), (3 : Int), (5 : Int), (9 : Int), (9 : Int), (20 : Int), (1000 : Int), (0 : Int)] (Int.toNat (Prod.fst b23)) (0 : Int), List.getD [(1 : Int), (2 : Int), (3 : Int), (5 : Int), (9 : Int), (9 : Int), (20 : Int), (1000 : Int), (0 : Int)] (Int.toNat (Prod.fst b24)) (0 : Int), List.getD [(1 : Int), (2 : Int), (3 : Int), (5 : Int), (9 : Int), (9 : Int), (20 : Int), (1000 : Int), (0 : Int)] (Int.toNat (Prod.fst b25)) (0 : Int), List.getD [(1 : Int), (2 : Int), (3 : Int), (5 : Int), (9 : Int), (9 : Int), (20 : Int), (1000 : Int), (0 : Int)] (Int.toNat (Prod.fst b26)) (0 : Int), List.getD [(1 : Int), (2 : Int), (3 : Int), (5 : Int), (9 : Int), (9 : Int), (20 : Int), (1000 : Int), (0 : Int)] (Int.toNat (Prod.fst b27)) (0 : Int), (0 : Int)]], Prod.fst (Prod.snd b27), Prod.snd (Prod.snd b27))) none) none) none) none) none) none) none) none) none) none) none) none) none) none) none) none) none) none) none) none) none) none) none) none) none) none) none) none) none) none) none) none) none) none) none) none) none) none) none) none) none) none) none) none) none) none) none) none) none) none) none) none) none) none) none) none
theorem FV_Picks_Dist_eq (w_Picks_Num : Int × (List Int) × Int → Option (Int × (List Int) × Int)) (N : Nat) (x : (List Int) × Int) : F_Picks_Dist w_Picks_Num N x = V_Picks_Dist w_Picks_Num N x := by kernel_rfl
noncomputable def W_Picks_Dist (N : Nat) (x : (List Int) × Int) : Option ((List (List Int)) × (List Int) × Int) :=
  obind (W_Picks_Num N ((9 : Int), Prod.fst x, Prod.snd x)) fun (b0 : Int × List Int × Int) =>
    cnd (decide ((0 : Int) ≤ Prod.fst b0)) (cnd (decide (Prod.fst b0 < ((↑(9 : Nat) : Int) : Int))) (obind (W_Picks_Num N ((9 : Int), Prod.fst (Prod.snd b0), Prod.snd (Prod.snd b0))) fun (b1 : Int × List Int × Int) =>
    cnd (decide ((0 : Int) ≤ Prod.fst b1)) (cnd (decide (Prod.fst b1 < ((↑(9 : Nat) : Int) : Int))) (obind (W_Picks_Num N ((9 : Int), Prod.fst (Prod.snd b1), Prod.snd (Prod.snd b1))) fun (b2 : Int × List Int × Int) =>
    cnd (decide ((0 : Int) ≤ Prod.fst b2)) (cnd (decide (Prod.fst b2 < ((↑(9 : Nat) : Int) : Int))) (obind (W_Picks_Num N ((9 : Int), Prod.fst (Prod.snd b2), Prod.snd (Prod.snd b2))) fun (b3 : Int × List Int × Int) =>
    cnd (decide ((0 : Int) ≤ Prod.fst b3)) (cnd (decide (Prod.fst b3 < ((↑(9 : Nat) : Int) : Int))) (obind (W_Picks_Num N ((9 : Int), Prod.fst (Prod.snd b3), Prod.snd (Prod.snd b3))) fun (b4 : Int × List Int × Int) =>
    cnd (decide ((0 : Int) ≤ Prod.fst b4)) (cnd (decide (Prod.fst b4 < ((↑(9 : Nat) : Int) : Int))) (obind (W_Picks_Num N ((9 : Int), Prod.fst (Prod.snd b4), Prod.snd (Prod.snd b4))) fun (b5 : Int × List Int × Int) =>
    cnd (decide ((0 : Int) ≤ Prod.fst b5)) (cnd (decide (Prod.fst b5 < ((↑(9 : Nat) : Int) : Int))) (obind (W_Picks_Num N ((9 : Int), Prod.fst (Prod.snd b5), Prod.snd (Prod.snd b5))) fun (b6 : Int × List Int × Int) =>
    cnd (decide ((0 : Int) ≤ Prod.fst b6)) (cnd (decide (Prod.fst b6 < ((↑(9 : Nat) : Int) : Int))) (obind (W_Picks_Num N ((9 : Int), Prod.fst (Prod.snd b6), Prod.snd (Prod.snd b6))) fun (b7 : Int × List Int × Int) =>
    cnd (decide ((0 : Int) ≤ Prod.fst b7)) (cnd (decide (Prod.fst b7 < ((↑(9 : Nat) : Int) : Int))) (obind (W_Picks_Num N ((9 : Int), Prod.fst (Prod.snd b7), Prod.snd (Prod.snd b7))) fun (b8 : Int × List Int × Int) =>
    cnd (decide ((0 : Int) ≤ Prod.fst b8)) (cnd (decide (Prod.fst b8 < ((↑(9 : Nat) : Int) : Int))) (obind (W_Picks_Num N ((9 : Int), Prod.fst (Prod.snd b8), Prod.snd (Prod.snd b8))) fun (b9 : Int × List Int × Int) =>
    cnd (decide ((0 : Int) ≤ Prod.fst b9)) (cnd (decide (Prod.fst b9 < ((↑(9 : Nat) : Int) : Int))) (obind (W_Picks_Num N ((9 : Int), Prod.fst (Prod.snd b9), Prod.snd (Prod.snd b9))) fun (b10 : Int × List Int × Int) =>
    cnd (decide ((0 : Int) ≤ Prod.fst b10)) (cnd (decide (Prod.fst b10 < ((↑(9 : Nat) : Int) : Int))) (obind (W_Picks_Num N ((9 : Int), Prod.fst (Prod.snd b10), Prod.snd (Prod.snd b10))) fun (b11 : Int × List Int × Int) =>
    cnd (decide ((0 : Int) ≤ Prod.fst b11)) (cnd (decide (Prod.fst b11 < ((↑(9 : Nat) : Int) : Int))) (obind (W_Picks_Num N ((9 : Int), Prod.fst (Prod.snd b11), Prod.snd (Prod.snd b11))) fun (b12 : Int × List Int × Int) =>
    cnd (decide ((0 : Int) ≤ Prod.fst b12)) (cnd (decide (Prod.fst b12 < ((↑(9 : Nat) : Int) : Int))) (obind (W_Picks_Num N ((9 : Int), Prod.fst (Prod.snd b12), Prod.snd (Prod.snd b12))) fun (b13 : Int × List Int × Int) =>
    cnd (decide ((0 : Int) ≤ Prod.fst b13)) (cnd (decide (Prod.fst b13 < ((↑(9 : Nat) : Int) : Int))) (obind (W_Picks_Num N ((9 : Int), Prod.fst (Prod.snd b13), Prod.snd (Prod.snd b13))) fun (b14 : Int × List Int × Int) =>
    cnd (decide ((0 : Int) ≤ Prod.fst b14)) (cnd (decide (Prod.fst b14 < ((↑(9 : Nat) : Int) : Int))) (obind (W_Picks_Num N ((9 : Int), Prod.fst (Prod.snd b14), Prod.snd (Prod.snd b14))) fun (b15 : Int × List Int × Int) =>
    cnd (decide ((0 : Int) ≤ Prod.fst b15)) (cnd (decide (Prod.fst b15 < ((↑(9 : Nat) : Int) : Int))) (obind (W_Picks_Num N ((9 : Int), Prod.fst (Prod.snd b15), Prod.snd (Prod.snd b15))) fun (b16 : Int × List Int × Int) =>
    cnd (decide ((0 : Int) ≤ Prod.fst b16)) (cnd (decide (Prod.fst b16 < ((↑(9 : Nat) : Int) : Int))) (obind (W_Picks_Num N ((9 : Int), Prod.fst (Prod.snd b16), Prod.snd (Prod.snd b16))) fun (b17 : Int × List Int × Int) =>
    cnd (decide ((0 : Int) ≤ Prod.fst b17)) (cnd (decide (Prod.fst b17 < ((↑(9 : Nat) : Int) : Int))) (obind (W_Picks_Num N ((9 : Int), Prod.fst (Prod.snd b17), Prod.snd (Prod.snd b17))) fun (b18 : Int × List Int × Int) =>
    cnd (decide ((0 : Int) ≤ Prod.fst b18)) (cnd (decide (Prod.fst b18 < ((↑(9 : Nat) : Int) : Int))) (obind (W_Picks_Num N ((9 : Int), Prod.fst (Prod.snd b18), Prod.snd (Prod.snd b18))) fun (b19 : Int × List Int × Int) =>
    cnd (decide ((0 : Int) ≤ Prod.fst b19)) (cnd (decide (Prod.fst b19 < ((↑(9 : Nat) : Int) : Int))) (obind (W_Picks_Num N ((9 : Int), Prod.fst (Prod.snd b19), Prod.snd (Prod.snd b19))) fun (b20 : Int × List Int × Int) =>
    cnd (decide ((0 : Int) ≤ Prod.fst b20)) (cnd (decide (Prod.fst b20 < ((↑(9 : Nat) : Int) : Int))) (obind (W_Picks_Num N ((9 : Int), Prod.fst (Prod.snd b20), Prod.snd (Prod.snd b20))) fun (b21 : Int × List Int × Int) =>
    cnd (decide ((0 : Int) ≤ Prod.fst b21)) (cnd (decide (Prod.fst b21 < ((↑(9 : Nat) : Int) : Int))) (obind (W_Picks_Num N ((9 : Int), Prod.fst (Prod.snd b21), Prod.snd (Prod.snd b21))) fun (b22 : Int × List Int × Int) =>
    cnd (decide ((0 : Int) ≤ Prod.fst b22)) (cnd (decide (Prod.fst b22 < ((↑(9 : Nat) : Int) : Int))) (obind (W_Picks_Num N ((9 : Int), Prod.fst (Prod.snd b22), Prod.snd (Prod.snd b22))) fun (b23 : Int × List Int × Int) =>
    cnd (decide ((0 : Int) ≤ Prod.fst b23)) (cnd (decide (Prod.fst b23 < ((↑(9 : Nat) : Int) : Int))) (obind (W_Picks_Num N ((9 : Int), Prod.fst (Prod.snd b23), Prod.snd (Prod.snd b23))) fun (b24 : Int × List Int × Int) =>
    cnd (decide ((0 : Int) ≤ Prod.fst b24)) (cnd (decide (Prod.fst b24 < ((↑(9 : Nat) : Int) : Int))) (obind (W_Picks_Num N ((9 : Int), Prod.fst (Prod.snd b24), Prod.snd (Prod.snd b24))) fun (b25 : Int × List Int × Int) =>
    cnd (decide ((0 : Int) ≤ Prod.fst b25)) (cnd (decide (Prod.fst b25 < ((↑(9 : Nat) : Int) : Int))) (obind (W_Picks_Num N ((9 : Int), Prod.fst (Prod.snd b25), Prod.snd (Prod.snd b25))) fun (b26 : Int × List Int × Int) =>
    cnd (decide ((0 : Int) ≤ Prod.fst b26)) (cnd (decide (Prod.fst b26 < ((↑(9 : Nat) : Int) : Int))) (obind (W_Picks_Num N ((9 : Int), Prod.fst (Prod.snd b26), Prod.snd (Prod.snd b26))) fun (b27 : Int × List Int × Int) =>
    cnd (decide ((0 : Int) ≤ Prod.fst b27)) (cnd (decide (Prod.fst b27 < ((↑(9 : Nat) : Int) : Int))) (some ([[(0 : Int), List.getD [(1 : Int), (2 : Int), (3 : Int), (5 : Int), (9 : Int), (9 : Int), (20 : Int), (1000 : Int), (0 : Int)] (Int.toNat (Prod.fst b0)) (0 : Int), List.getD [(1 : Int), (2 : Int), (3 : Int), (5 : Int), (9 : Int), (9 : Int), (20 : Int), (1000 : Int), (0 : Int)] (Int.toNat (Prod.fst b1)) (0 : Int), List.getD [(1 : Int), (2 : Int), (3 : Int), (5 : Int), (9 : Int), (9 : Int), (20 : Int), (1000 : Int), (0 : Int)] (Int.toNat (Prod.fst b3)) (0 : Int), List.getD [(1 : Int), (2 : Int), (3 : Int), (5 : Int), (9 : Int), (9 : Int), (20 : Int), (1000 : Int), (0 : Int)] (Int.toNat (Prod.fst b6)) (0 : Int), List.getD [(1 : Int), (2 : Int), (3 : Int), (5 : Int), (9 : Int), (9 : Int), (20 : Int), (1000 : Int), (0 : Int)] (Int.toNat (Prod.fst b10)) (0 : Int), List.getD [(1 : Int), (2 : Int), (3 : Int), (5 : Int), (9 : Int), (9 : Int), (20 : Int), (1000 : Int), (0 : Int)] (Int.toNat (Prod.fst b15)) (0 : Int), List.getD [(1 : Int), (2 : Int), (3 : Int), (5 : Int), (9 : Int), (9 : Int), (20 : Int), (1000 : Int), (0 : Int)] (Int.toNat (Prod.fst b21)) (0 : Int)],
    [List.getD [(1 : Int), (2 : Int), (3 : Int), (5 : Int), (9 : Int), (9 : Int), (20 : Int), (1000 : Int), (0 : Int)] (Int.toNat (Prod.fst b0)) (0 : Int), (0 : Int), List.getD [(1 : Int), (2 : Int), (3 : Int), (5 : Int), (9 : Int), (9 : Int), (20 : Int), (1000 : Int), (0 : Int)] (Int.toNat (Prod.fst b2)) (0 : Int), List.getD [(1 : Int), (2 : Int), (3 : Int), (5 : Int), (9 : Int), (9 : Int), (20 : Int), (1000 : Int), (0 : Int)] (Int.toNat (Prod.fst b4)) (0 : Int), List.getD [(1 : Int), (2 : Int), (3 : Int), (5 : Int), (9 : Int), (9 : Int), (20 : Int), (1000 : Int), (0 : Int)] (Int.toNat (Prod.fst b7)) (0 : Int), List.getD [(1 : Int), (2 : Int), (3 : Int), (5 : Int), (9 : Int), (9 : Int), (20 : Int), (1000 : Int), (0 : Int)] (Int.toNat (Prod.fst b11)) (0 : Int), List.getD [(1 : Int), (2 : Int), (3 : Int), (5 : Int), (9 : Int), (9 : Int), (20 : Int), (1000 : Int), (0 : Int)] (Int.toNat (Prod.fst b16)) (0 : Int), List.getD [(1 : Int), (2 : Int), (3 : Int), (5 : Int), (9 : Int), (9 : Int), (20 : Int), (1000 : Int), (0 : Int)] (Int.toNat (Prod.fst b22)) (0 : Int)],
    [List.getD [(1 : Int), (2 : Int), (3 : Int), (5 : Int), (9 : Int), (9 : Int), (20 : Int), (1000 : Int), (0 : Int)] (Int.toNat (Prod.fst b1)) (0 : Int), List.getD [(1 : Int), (2 : Int), (3 : Int), (5 : Int), (9 : Int), (9 : Int), (20 : Int), (1000 : Int), (0 : Int)] (Int.toNat (Prod.fst b2)) (0 : Int), (0 : Int), List.getD [(1 : Int), (2 : Int), (3 : Int), (5 : Int), (9 : Int), (9 : Int), (20 : Int), (1000 : Int), (0 : Int)] (Int.toNat (Prod.fst b5)) (0 : Int), List.getD [(1 : Int), (2 : Int), (3 : Int), (5 : Int), (9 : Int), (9 : Int), (20 : Int), (1000 : Int), (0 : Int)] (Int.toNat (Prod.fst b8)) (0 : Int), List.getD [(1 : Int), (2 : Int), (3 : Int), (5 : Int), (9 : Int), (9 : Int), (20 : Int), (1000 : Int), (0 : Int)] (Int.toNat (Prod.fst b12)) (0 : Int), List.getD [(1 : Int), (2 : Int), (3 : Int), (5 : Int), (9 : Int), (9 : Int), (20 : Int), (1000 : Int), (0 : Int)] (Int.toNat (Prod.fst b17)) (0 : Int), List.getD [(1 : Int), (2 : Int), (3 : Int), (5 : Int), (9 : Int), (9 : Int), (20 : Int), (1000 : Int), (0 : Int)] (Int.toNat (Prod.fst b23)) (0 : Int)],
    [List.getD [(1 : Int), (2 : Int), (3 : Int), (5 : Int), (9 : Int), (9 : Int), (20 : Int), (1000 : Int), (0 : Int)] (Int.toNat (Prod.fst b3)) (0 : Int), List.getD [(1 : Int), (2 : Int), (3 : Int), (5 : Int), (9 : Int), (9 : Int), (20 : Int), (1000 : Int), (0 : Int)] (Int.toNat (Prod.fst b4)) (0 : Int), List.getD [(1 : Int), (2 : Int), (3 : Int), (5 : Int), (9 : Int), (9 : Int), (20 : Int), (1000 : Int), (0 : Int)] (Int.toNat (Prod.fst b5)) (0 : Int), (0 : Int), List.getD [(1 : Int), (2 : Int), (3 : Int), (5 : Int), (9 : Int), (9 : Int), (20 : Int), (1000 : Int), (0 : Int)] (Int.toNat (Prod.fst b9)) (0 : Int), List.getD [(1 : Int), (2 : Int), (3 : Int), (5 : Int), (9 : Int), (9 : Int), (20 : Int), (1000 : Int), (0 : Int)] (Int.toNat (Prod.fst b13)) (0 : Int), List.getD [(1 : Int), (2 : Int), (3 : Int), (5 : Int), (9 : Int), (9 : Int), (20 : Int), (1000 : Int), (0 : Int)] (Int.toNat (Prod.fst b18)) (0 : Int), List.getD [(1 : Int), (2 : Int), (3 : Int), (5 : Int), (9 : Int), (9 : Int), (20 : Int), (1000 : Int), (0 : Int)] (Int.toNat (Prod.fst b24)) (0 : Int)],
    [List.getD [(1 : Int), (2 : Int), (3 : Int), (5 : Int), (9 : Int), (9 : Int), (20 : Int), (1000 : Int), (0 : Int)] (Int.toNat (Prod.fst b6)) (0 : Int), List.getD [(1 : Int), (2 : Int), (3 : Int), (5 : Int), (9 : Int), (9 : Int), (20 : Int), (1000 : Int), (0 : Int)] (Int.toNat (Prod.fst b7)) (0 : Int), List.getD [(1 : Int), (2 : Int), (3 : Int), (5 : Int), (9 : Int), (9 : Int), (20 : Int), (1000 : Int), (0 : Int)] (Int.toNat (Prod.fst b8)) (0 : Int), List.getD [(1 : Int), (2 : Int), (3 : Int), (5 : Int), (9 : Int), (9 : Int), (20 : Int), (1000 : Int), (0 : Int)] (Int.toNat (Prod.fst b9)) (0 : Int), (0 : Int), List.getD [(1 : Int), (2 : Int), (3 : Int), (5 : Int), (9 : Int), (9 : Int), (20 : Int), (1000 : Int), (0 : Int)] (Int.toNat (Prod.fst b14)) (0 : Int), List.getD [(1 : Int), (2 : Int), (3 : Int), (5 : Int), (9 : Int), (9 : Int), (20 : Int), (1000 : Int), (0 : Int)] (Int.toNat (Prod.fst b19)) (0 : Int), List.getD [(1 : Int), (2 : Int), (3 : Int), (5 : Int), (9 : Int), (9 : Int), (20 : Int), (1000 : Int), (0 : Int)] (Int.toNat (Prod.fst b25)) (0 : Int)],
    [List.getD [(1 : Int), (2 : Int), (3 : Int), (5 : Int), (9 : Int), (9 : Int), (20 : Int), (1000 : Int), (0 : Int)] (Int.toNat (Prod.fst b10)) (0 : Int), List.getD [(1 : Int), (2 : Int), (3 : Int), (5 : Int), (9 : Int), (9 : Int), (20 : Int), (1000 : Int), (0 : Int)] (Int.toNat (Prod.fst b11)) (0 : Int), List.getD [(1 : Int), (2 : Int), (3 : Int), (5 : Int), (9 : Int), (9 : Int), (20 : Int), (1000 : Int), (0 : Int)] (Int.toNat (Prod.fst b12)) (0 : Int), List.getD [(1 : Int), (2 : Int), (3 : Int), (5 : Int), (9 : Int), (9 : Int), (20 : Int), (1000 : Int), (0 : Int)] (Int.toNat (Prod.fst b13)) (0 : Int), List.getD [(1 : Int), (2 : Int), (3 : Int), (5 : Int), (9 : Int), (9 : Int), (20 : Int), (1000 : Int), (0 : Int)] (Int.toNat (Prod.fst b14)) (0 : Int), (0 : Int), List.getD [(1 : Int), (2 : Int), (3 : Int), (5 : Int), (9 : Int), (9 : Int), (20 : Int), (1000 : Int), (0 : Int)] (Int.toNat (Prod.fst b20)) (0 : Int), List.getD [(1 : Int), (2 : Int), (3 : Int), (5 : Int), (9 : Int), (9 : Int), (20 : Int), (1000 : Int), (0 : Int)] (Int.toNat (Prod.fst b26)) (0 : Int)],
    [List.getD [(1 : Int), (2 : Int), (3 : Int), (5 : Int), (9 : Int), (9 : Int), (20 : Int), (1000 : Int), (0 : Int)] (Int.toNat (Prod.fst b15)) (0 : Int), List.getD [(1 : Int), (2 : Int), (3 : Int), (5 : Int), (9 : Int), (9 : Int), (20 : Int), (1000 : Int), (0 : Int)] (Int.toNat (Prod.fst b16)) (0 : Int), List.getD [(1 : Int), (2 : Int), (3 : Int), (5 : Int), (9 : Int), (9 : Int), (20 : Int), (1000 : Int), (0 : Int)] (Int.toNat (Prod.fst b17)) (0 : Int), List.getD [(1 : Int), (2 : Int), (3 : Int), (5 : Int), (9 : Int), (9 : Int), (20 : Int), (1000 : Int), (0 : Int)] (Int.toNat (Prod.fst b18)) (0 : Int), List.getD [(1 : Int), (2 : Int), (3 : Int), (5 : Int), (9 : Int), (9 : Int), (20 : Int), (1000 : Int), (0 : Int)] (Int.toNat (Prod.fst b19)) (0 : Int), List.getD [(1 : Int), (2 : Int), (3 : Int), (5 : Int), (9 : Int), (9 : Int), (20 : Int), (1000 : Int), (0 : Int)] (Int.toNat (Prod.fst b20)) (0 : Int), (0 : Int), List.getD [(1 : Int), (2 : Int), (3 : Int), (5 : Int), (9 : Int), (9 : Int), (20 : Int), (1000 : Int), (0 : Int)] (Int.toNat (Prod.fst b27)) (0 : Int)],
    [List.getD [(1 : Int), (2 : Int), (3 : Int), (5 : Int), (9 : Int), (9 : Int), (20 : Int), (1000 : Int), (0 : Int)] (Int.toNat (Prod.fst b21)) (0 : Int), List.getD [(1 : Int), (2 : Int), (3 : Int), (5 : Int), (9 : Int), (9 : Int), (20 : Int), (1000 : Int), (0 : Int)] (Int.toNat (Prod.fst b22)) (0 : Int), List.getD [(1 : Int), (2 : Int), (3 : Int), (5 : Int), (9 : Int), (9 : Int), (20 : Int), (1000 : Int), (0 : Int)] (Int.toNat (Prod.fst b23)) (0 : Int), List.getD [(1 : Int), (2 : Int), (3 : Int), (5 : Int), (9 : Int), (9 : Int), (20 : Int), (1000 : Int), (0 : Int)] (Int.toNat (Prod.fst b24)) (0 : Int), List.getD [(1 : Int), (2 : Int), (3 : Int), (5 : Int), (9 : Int), (9 : Int), (20 : Int), (1000 : Int), (0 : Int)] (Int.toNat (Prod.fst b25)) (0 : Int), List.getD [(1 : Int), (2 : Int), (3 : Int), (5 : Int), (9 : Int), (9 : Int), (20 : Int), (1000 : Int), (0 : Int)] (Int.toNat (Prod.fst b26)) (0 : Int), List.getD [(1 : Int), (2 : Int), (3 : Int), (5 : Int), (9 : Int), (9 : Int), (20 : Int), (1000 : Int), (0 : Int)] (Int.toNat (Prod.fst b27)) (0 : Int), (0 : Int)]], Prod.fst (Prod.snd b27), Prod.snd (Prod.snd b27))) none) none) none) none) none) none) none) none) none) none) none) none) none) none) none) none) none) none) none) none) none) none) none) none) none) none) none) none) none) none) none) none) none) none) none) none) none) none) none) none) none) none) none) none) none) none) none) none) none) none) none) none) none) none) none) none
theorem F_Picks_Dist_eq (N : Nat) (x : (List Int) × Int) : F_Picks_Dist (W_Picks_Num N) N x = W_Picks_Dist N x := (FV_Picks_Dist_eq (W_Picks_Num N) N x).trans (by kernel_rfl)
noncomputable def conw_Picks_Dist (w : (List Int) × Int → Option ((List (List Int)) × (List Int) × Int)) : Con := ⟨22, as_Picks_Dist, bs_Picks_Dist, (List (List Int)) × (List Int) × Int, w, out_Picks_Dist⟩
noncomputable def con_Picks_Dist (N : Nat) : Con := conw_Picks_Dist (W_Picks_Dist N)
theorem R_Picks_Dist_eq (x : (List Int) × Int) (y : (List (List Int)) × (List Int) × Int) : retOf2 P0 Try.f22 (kpL [true]) (lbOf as_Picks_Dist bs_Picks_Dist x) (patS ⟨45, [], [], []⟩ pout_Picks_Dist y) = some (out_Picks_Dist y) := by kernel_rfl
theorem con_Picks_Dist_ok (N : Nat) : Con.ok P0 (con_Picks_Dist N) := ⟨⟨Try.f22, Try.func22, by kernel_rfl, by kernel_rfl⟩, fun (x : (List Int) × Int) (r : (List (List Int)) × (List Int) × Int) (hr : W_Picks_Dist N x = some r) =>
  spec2_evT (Γ := G_Picks_Dist (W_Picks_Num N) N) (Λ := L0) (pout := pout_Picks_Dist) (kp := kpL [true]) mixed (orcOf_ok _ (by simp only [List.mem_cons, List.not_mem_nil, or_false, forall_eq_or_imp, forall_eq]; exact con_Picks_Num_ok N)) Try.func22 (c := bodyOf Try.f22) (by kernel_rfl) (by kernel_rfl) (of_decide_eq_true (by kernel_rfl)) ((F_Picks_Dist_eq N x).trans hr) (R_Picks_Dist_eq x r)⟩
def as_Picks_Some : List AS := [.ptr 0 0, .val (.int .i64)]
def bs_Picks_Some : List BS := [.box 103 (.pair (.list (.int .u8)) (.int .i64))]
def pout_Picks_Some : Pat := ⟨[(0, .ptr 1000000 0), (4, .val (.list (.int .i64)))], [(1000000, .box 103 (.val (.pair (.list (.int .u8)) (.int .i64))))]⟩
noncomputable def G_Picks_Some (w_Picks_Num : Int × (List Int) × Int → Option (Int × (List Int) × Int)) (N : Nat) : OrcT := orcOf [conw_Picks_Num w_Picks_Num]
noncomputable def F_Picks_Some (w_Picks_Num : Int × (List Int) × Int → Option (Int × (List Int) × Int)) (N : Nat) (x : Int × (List Int) × Int) : Option ((List Int) × (List Int) × Int) :=
  (evT (G_Picks_Some w_Picks_Num N) L0 P0 [(3, .loop [] ⟨[(0, .ptr 1000000 0), (5, .acc 700005), (6, .val (.int .i64))], [(1000000, .box 103 (.val (.pair (.list (.int .u8)) (.int .i64)))), (700005, .nrow 3 (.int .i64) true true)]⟩ [(.exit 0, ⟨[(0, .ptr 1000000 0), (5, .val (.list (.int .i64)))], [(1000000, .box 103 (.val (.pair (.list (.int .u8)) (.int .i64))))]⟩)])]
    [] N 400 (bodyOf Try.f23) ⟨28, slots 0 (argsOf as_Picks_Some bs_Picks_Some x), tabU (lbOf as_Picks_Some bs_Picks_Some x) [], []⟩).elim (kRet 28 pout_Picks_Some (kpL [true]) (lbOf as_Picks_Some bs_Picks_Some x))
def out_Picks_Some (y : (List Int) × (List Int) × Int) : V × List OK × List OK := (valW (.list (.int .i64)) y.1, [.box 103 (cellsW (.pair (.list (.int .u8)) (.int .i64)) y.2)], [])
noncomputable def V_Picks_Some (w_Picks_Num : Int × (List Int) × Int → Option (Int × (List Int) × Int)) (N : Nat) (x : Int × (List Int) × Int) : Option ((List Int) × (List Int) × Int) :=
  obind
    (loopN N
      (fun (v : Int × (List Int × Int) × List Int) =>
        cnd (decide (Prod.fst v ≤ (8 : Int)))
          (obind (w_Picks_Num ((2 : Int), Prod.fst (Prod.fst (Prod.snd v)), Prod.snd (Prod.fst (Prod.snd v))))
            fun (b : Int × List Int × Int) =>
            cnd (decide (Prod.fst b = (0 : Int)))
              (cnd
                (decide
                  ((List.length (Prod.snd (Prod.snd v)) + List.length [Prod.fst v]) * (8 : Nat) ≤
                    (140737488355328 : Nat)))
                (some
                  (Sum.inl
                    (wr IntKind.i64 (Prod.fst v + (1 : Int)), (Prod.fst (Prod.snd b), Prod.snd (Prod.snd b)),
                      Prod.snd (Prod.snd v) ++ [Prod.fst v])))
                none)
              (cnd
                (decide
                  (wr IntKind.i64 ((8 : Int) - Prod.fst v) <
                    wr IntKind.i64 (Prod.fst x - (↑(List.length (Prod.snd (Prod.snd v))) : Int))))
                (cnd
                  (decide
                    ((List.length (Prod.snd (Prod.snd v)) + List.length [Prod.fst v]) * (8 : Nat) ≤
                      (140737488355328 : Nat)))
                  (some
                    (Sum.inl
                      (wr IntKind.i64 (Prod.fst v + (1 : Int)), (Prod.fst (Prod.snd b), Prod.snd (Prod.snd b)),
                        Prod.snd (Prod.snd v) ++ [Prod.fst v])))
                  none)
                (some
                  (Sum.inl
                    (wr IntKind.i64 (Prod.fst v + (1 : Int)), (Prod.fst (Prod.snd b), Prod.snd (Prod.snd b)),
                      Prod.snd (Prod.snd v))))))
          (some (Sum.inr (Prod.snd (Prod.snd v), Prod.fst (Prod.fst (Prod.snd v)), Prod.snd (Prod.fst (Prod.snd v))))))
      ((1 : Int), (Prod.fst (Prod.snd x), Prod.snd (Prod.snd x)), []))
    fun (b : List Int × List Int × Int) => some (Prod.fst b, Prod.fst (Prod.snd b), Prod.snd (Prod.snd b))
theorem FV_Picks_Some_eq (w_Picks_Num : Int × (List Int) × Int → Option (Int × (List Int) × Int)) (N : Nat) (x : Int × (List Int) × Int) : F_Picks_Some w_Picks_Num N x = V_Picks_Some w_Picks_Num N x := by kernel_rfl
noncomputable def W_Picks_Some (N : Nat) (x : Int × (List Int) × Int) : Option ((List Int) × (List Int) × Int) :=
  obind
    (loopN N
      (fun (v : Int × (List Int × Int) × List Int) =>
        cnd (decide (Prod.fst v ≤ (8 : Int)))
          (obind (W_Picks_Num N ((2 : Int), Prod.fst (Prod.fst (Prod.snd v)), Prod.snd (Prod.fst (Prod.snd v))))
            fun (b : Int × List Int × Int) =>
            cnd (decide (Prod.fst b = (0 : Int)))
              (cnd
                (decide
                  ((List.length (Prod.snd (Prod.snd v)) + List.length [Prod.fst v]) * (8 : Nat) ≤
                    (140737488355328 : Nat)))
                (some
                  (Sum.inl
                    (wr IntKind.i64 (Prod.fst v + (1 : Int)), (Prod.fst (Prod.snd b), Prod.snd (Prod.snd b)),
                      Prod.snd (Prod.snd v) ++ [Prod.fst v])))
                none)
              (cnd
                (decide
                  (wr IntKind.i64 ((8 : Int) - Prod.fst v) <
                    wr IntKind.i64 (Prod.fst x - (↑(List.length (Prod.snd (Prod.snd v))) : Int))))
                (cnd
                  (decide
                    ((List.length (Prod.snd (Prod.snd v)) + List.length [Prod.fst v]) * (8 : Nat) ≤
                      (140737488355328 : Nat)))
                  (some
                    (Sum.inl
                      (wr IntKind.i64 (Prod.fst v + (1 : Int)), (Prod.fst (Prod.snd b), Prod.snd (Prod.snd b)),
                        Prod.snd (Prod.snd v) ++ [Prod.fst v])))
                  none)
                (some
                  (Sum.inl
                    (wr IntKind.i64 (Prod.fst v + (1 : Int)), (Prod.fst (Prod.snd b), Prod.snd (Prod.snd b)),
                      Prod.snd (Prod.snd v))))))
          (some (Sum.inr (Prod.snd (Prod.snd v), Prod.fst (Prod.fst (Prod.snd v)), Prod.snd (Prod.fst (Prod.snd v))))))
      ((1 : Int), (Prod.fst (Prod.snd x), Prod.snd (Prod.snd x)), []))
    fun (b : List Int × List Int × Int) => some (Prod.fst b, Prod.fst (Prod.snd b), Prod.snd (Prod.snd b))
theorem F_Picks_Some_eq (N : Nat) (x : Int × (List Int) × Int) : F_Picks_Some (W_Picks_Num N) N x = W_Picks_Some N x := (FV_Picks_Some_eq (W_Picks_Num N) N x).trans (by kernel_rfl)
noncomputable def conw_Picks_Some (w : Int × (List Int) × Int → Option ((List Int) × (List Int) × Int)) : Con := ⟨23, as_Picks_Some, bs_Picks_Some, (List Int) × (List Int) × Int, w, out_Picks_Some⟩
noncomputable def con_Picks_Some (N : Nat) : Con := conw_Picks_Some (W_Picks_Some N)
theorem R_Picks_Some_eq (x : Int × (List Int) × Int) (y : (List Int) × (List Int) × Int) : retOf2 P0 Try.f23 (kpL [true]) (lbOf as_Picks_Some bs_Picks_Some x) (patS ⟨28, [], [], []⟩ pout_Picks_Some y) = some (out_Picks_Some y) := by kernel_rfl
theorem con_Picks_Some_ok (N : Nat) : Con.ok P0 (con_Picks_Some N) := ⟨⟨Try.f23, Try.func23, by kernel_rfl, by kernel_rfl⟩, fun (x : Int × (List Int) × Int) (r : (List Int) × (List Int) × Int) (hr : W_Picks_Some N x = some r) =>
  spec2_evT (Γ := G_Picks_Some (W_Picks_Num N) N) (Λ := L0) (pout := pout_Picks_Some) (kp := kpL [true]) mixed (orcOf_ok _ (by simp only [List.mem_cons, List.not_mem_nil, or_false, forall_eq_or_imp, forall_eq]; exact con_Picks_Num_ok N)) Try.func23 (c := bodyOf Try.f23) (by kernel_rfl) (by kernel_rfl) (of_decide_eq_true (by kernel_rfl)) ((F_Picks_Some_eq N x).trans hr) (R_Picks_Some_eq x r)⟩
def as_mid_between : List AS := [.val (.list (.list (.int .i64))), .val (.int .i64), .val (.int .i64)]
def bs_mid_between : List BS := []
def pout_mid_between : Pat := ⟨[(6, .val (.int .i64))], []⟩
noncomputable def G_mid_between  (N : Nat) : OrcT := orcOf []
noncomputable def F_mid_between  (N : Nat) (x : (List (List Int)) × Int × Int) : Option (Int) :=
  (evT (G_mid_between  N) L0 P0 []
    [(1000001, .reg [(8, [], ⟨[(14, .val .bool)], []⟩), (4, [], ⟨[(18, .val .bool)], []⟩)])] N 400 (bodyOf Try.f71) ⟨38, slots 0 (argsOf as_mid_between bs_mid_between x), tabU (lbOf as_mid_between bs_mid_between x) [], []⟩).elim (kRet 38 pout_mid_between (kpL []) (lbOf as_mid_between bs_mid_between x))
def out_mid_between (y : Int) : V × List OK × List OK := (valW (.int .i64) y, [], [])
noncomputable def V_mid_between  (N : Nat) (x : (List (List Int)) × Int × Int) : Option (Int) :=
  obind
    (cnd (decide (Prod.fst (Prod.snd x) < (1 : Int))) (some true)
      (some (decide ((↑(List.length (Prod.fst x)) : Int) < Prod.fst (Prod.snd x)))))
    fun (b : Bool) =>
    obind (cnd b (some true) (some (decide (Prod.snd (Prod.snd x) < (1 : Int))))) fun (b : Bool) =>
      cnd b (some (0 : Int))
        (cnd
          (decide ((0 : Int) ≤ wr IntKind.i64 (Prod.fst (Prod.snd x) - (1 : Int))) &&
            decide (wr IntKind.i64 (Prod.fst (Prod.snd x) - (1 : Int)) < (↑(List.length (Prod.fst x)) : Int)))
          (cnd
            (decide
              ((↑(List.length
                    (List.getD (Prod.fst x) (Int.toNat (wr IntKind.i64 (Prod.fst (Prod.snd x) - (1 : Int)))) [])) : Int) <
                Prod.snd (Prod.snd x)))
            (some (0 : Int))
            (cnd
              (decide ((0 : Int) ≤ wr IntKind.i64 (Prod.fst (Prod.snd x) - (1 : Int))) &&
                decide (wr IntKind.i64 (Prod.fst (Prod.snd x) - (1 : Int)) < (↑(List.length (Prod.fst x)) : Int)))
              (cnd
                (decide ((0 : Int) ≤ wr IntKind.i64 (Prod.snd (Prod.snd x) - (1 : Int))) &&
                  decide
                    (wr IntKind.i64 (Prod.snd (Prod.snd x) - (1 : Int)) <
                      (↑(List.length
                          (List.getD (Prod.fst x) (Int.toNat (wr IntKind.i64 (Prod.fst (Prod.snd x) - (1 : Int)))) [])) : Int)))
                (some
                  (List.getD (List.getD (Prod.fst x) (Int.toNat (wr IntKind.i64 (Prod.fst (Prod.snd x) - (1 : Int)))) [])
                    (Int.toNat (wr IntKind.i64 (Prod.snd (Prod.snd x) - (1 : Int)))) (0 : Int)))
                none)
              none))
          none)
theorem FV_mid_between_eq  (N : Nat) (x : (List (List Int)) × Int × Int) : F_mid_between  N x = V_mid_between  N x := by kernel_rfl
noncomputable def W_mid_between (N : Nat) (x : (List (List Int)) × Int × Int) : Option (Int) :=
  obind
    (cnd (decide (Prod.fst (Prod.snd x) < (1 : Int))) (some true)
      (some (decide ((↑(List.length (Prod.fst x)) : Int) < Prod.fst (Prod.snd x)))))
    fun (b : Bool) =>
    obind (cnd b (some true) (some (decide (Prod.snd (Prod.snd x) < (1 : Int))))) fun (b : Bool) =>
      cnd b (some (0 : Int))
        (cnd
          (decide ((0 : Int) ≤ wr IntKind.i64 (Prod.fst (Prod.snd x) - (1 : Int))) &&
            decide (wr IntKind.i64 (Prod.fst (Prod.snd x) - (1 : Int)) < (↑(List.length (Prod.fst x)) : Int)))
          (cnd
            (decide
              ((↑(List.length
                    (List.getD (Prod.fst x) (Int.toNat (wr IntKind.i64 (Prod.fst (Prod.snd x) - (1 : Int)))) [])) : Int) <
                Prod.snd (Prod.snd x)))
            (some (0 : Int))
            (cnd
              (decide ((0 : Int) ≤ wr IntKind.i64 (Prod.fst (Prod.snd x) - (1 : Int))) &&
                decide (wr IntKind.i64 (Prod.fst (Prod.snd x) - (1 : Int)) < (↑(List.length (Prod.fst x)) : Int)))
              (cnd
                (decide ((0 : Int) ≤ wr IntKind.i64 (Prod.snd (Prod.snd x) - (1 : Int))) &&
                  decide
                    (wr IntKind.i64 (Prod.snd (Prod.snd x) - (1 : Int)) <
                      (↑(List.length
                          (List.getD (Prod.fst x) (Int.toNat (wr IntKind.i64 (Prod.fst (Prod.snd x) - (1 : Int)))) [])) : Int)))
                (some
                  (List.getD (List.getD (Prod.fst x) (Int.toNat (wr IntKind.i64 (Prod.fst (Prod.snd x) - (1 : Int)))) [])
                    (Int.toNat (wr IntKind.i64 (Prod.snd (Prod.snd x) - (1 : Int)))) (0 : Int)))
                none)
              none))
          none)
theorem F_mid_between_eq (N : Nat) (x : (List (List Int)) × Int × Int) : F_mid_between  N x = W_mid_between N x := (FV_mid_between_eq  N x).trans (by kernel_rfl)
noncomputable def conw_mid_between (w : (List (List Int)) × Int × Int → Option (Int)) : Con := ⟨71, as_mid_between, bs_mid_between, Int, w, out_mid_between⟩
noncomputable def con_mid_between (N : Nat) : Con := conw_mid_between (W_mid_between N)
theorem R_mid_between_eq (x : (List (List Int)) × Int × Int) (y : Int) : retOf2 P0 Try.f71 (kpL []) (lbOf as_mid_between bs_mid_between x) (patS ⟨38, [], [], []⟩ pout_mid_between y) = some (out_mid_between y) := by kernel_rfl
theorem con_mid_between_ok (N : Nat) : Con.ok P0 (con_mid_between N) := ⟨⟨Try.f71, Try.func71, by kernel_rfl, by kernel_rfl⟩, fun (x : (List (List Int)) × Int × Int) (r : Int) (hr : W_mid_between N x = some r) =>
  spec2_evT (Γ := G_mid_between N) (Λ := L0) (pout := pout_mid_between) (kp := kpL []) mixed (orcOf_ok [] (by simp)) Try.func71 (c := bodyOf Try.f71) (by kernel_rfl) (by kernel_rfl) (of_decide_eq_true (by kernel_rfl)) ((F_mid_between_eq N x).trans hr) (R_mid_between_eq x r)⟩
def as_mid_Far : List AS := [.val (.list (.list (.int .i64))), .val (.int .i64), .val (.list (.int .i64))]
def bs_mid_Far : List BS := []
def pout_mid_Far : Pat := ⟨[(6, .val (.int .i64))], []⟩
noncomputable def G_mid_Far (w_mid_between : (List (List Int)) × Int × Int → Option (Int)) (N : Nat) : OrcT := orcOf [conw_mid_between w_mid_between]
noncomputable def F_mid_Far (w_mid_between : (List (List Int)) × Int × Int → Option (Int)) (N : Nat) (x : (List (List Int)) × Int × List Int) : Option (Int) :=
  (evT (G_mid_Far w_mid_between N) L0 P0 [(3, .loop [10] ⟨[(7, .val (.int .i64)), (12, .val (.int .i64))], []⟩ [(.exit 0, ⟨[(7, .val (.int .i64))], []⟩)])]
    [] N 400 (bodyOf Try.f26) ⟨24, slots 0 (argsOf as_mid_Far bs_mid_Far x), tabU (lbOf as_mid_Far bs_mid_Far x) [], []⟩).elim (kRet 24 pout_mid_Far (kpL []) (lbOf as_mid_Far bs_mid_Far x))
def out_mid_Far (y : Int) : V × List OK × List OK := (valW (.int .i64) y, [], [])
noncomputable def V_mid_Far (w_mid_between : (List (List Int)) × Int × Int → Option (Int)) (N : Nat) (x : (List (List Int)) × Int × List Int) : Option (Int) :=
  obind
    (loopN N
      (fun (v : Int × Int) =>
        cnd (decide (Prod.snd v < (↑(List.length (Prod.snd (Prod.snd x))) : Int)))
          (cnd (decide ((0 : Int) ≤ Prod.snd v) && decide (Prod.snd v < (↑(List.length (Prod.snd (Prod.snd x))) : Int)))
            (obind
              (w_mid_between
                (Prod.fst x, Prod.fst (Prod.snd x), List.getD (Prod.snd (Prod.snd x)) (Int.toNat (Prod.snd v)) (0 : Int)))
              fun (b : Int) => some (Sum.inl (max (Prod.fst v) b, wr IntKind.i64 (Prod.snd v + (1 : Int)))))
            none)
          (some (Sum.inr (Prod.fst v))))
      ((0 : Int), (0 : Int)))
    fun (b : Int) => some b
theorem FV_mid_Far_eq (w_mid_between : (List (List Int)) × Int × Int → Option (Int)) (N : Nat) (x : (List (List Int)) × Int × List Int) : F_mid_Far w_mid_between N x = V_mid_Far w_mid_between N x := by kernel_rfl
noncomputable def W_mid_Far (N : Nat) (x : (List (List Int)) × Int × List Int) : Option (Int) :=
  obind
    (loopN N
      (fun (v : Int × Int) =>
        cnd (decide (Prod.snd v < (↑(List.length (Prod.snd (Prod.snd x))) : Int)))
          (cnd (decide ((0 : Int) ≤ Prod.snd v) && decide (Prod.snd v < (↑(List.length (Prod.snd (Prod.snd x))) : Int)))
            (obind
              (W_mid_between N
                (Prod.fst x, Prod.fst (Prod.snd x), List.getD (Prod.snd (Prod.snd x)) (Int.toNat (Prod.snd v)) (0 : Int)))
              fun (b : Int) => some (Sum.inl (max (Prod.fst v) b, wr IntKind.i64 (Prod.snd v + (1 : Int)))))
            none)
          (some (Sum.inr (Prod.fst v))))
      ((0 : Int), (0 : Int)))
    fun (b : Int) => some b
theorem F_mid_Far_eq (N : Nat) (x : (List (List Int)) × Int × List Int) : F_mid_Far (W_mid_between N) N x = W_mid_Far N x := (FV_mid_Far_eq (W_mid_between N) N x).trans (by kernel_rfl)
noncomputable def conw_mid_Far (w : (List (List Int)) × Int × List Int → Option (Int)) : Con := ⟨26, as_mid_Far, bs_mid_Far, Int, w, out_mid_Far⟩
noncomputable def con_mid_Far (N : Nat) : Con := conw_mid_Far (W_mid_Far N)
theorem R_mid_Far_eq (x : (List (List Int)) × Int × List Int) (y : Int) : retOf2 P0 Try.f26 (kpL []) (lbOf as_mid_Far bs_mid_Far x) (patS ⟨24, [], [], []⟩ pout_mid_Far y) = some (out_mid_Far y) := by kernel_rfl
theorem con_mid_Far_ok (N : Nat) : Con.ok P0 (con_mid_Far N) := ⟨⟨Try.f26, Try.func26, by kernel_rfl, by kernel_rfl⟩, fun (x : (List (List Int)) × Int × List Int) (r : Int) (hr : W_mid_Far N x = some r) =>
  spec2_evT (Γ := G_mid_Far (W_mid_between N) N) (Λ := L0) (pout := pout_mid_Far) (kp := kpL []) mixed (orcOf_ok _ (by simp only [List.mem_cons, List.not_mem_nil, or_false, forall_eq_or_imp, forall_eq]; exact con_mid_between_ok N)) Try.func26 (c := bodyOf Try.f26) (by kernel_rfl) (by kernel_rfl) (of_decide_eq_true (by kernel_rfl)) ((F_mid_Far_eq N x).trans hr) (R_mid_Far_eq x r)⟩
def as_mid_better : List AS := [.val (.alt 106 (.agg .unit) (.alt1 162 (.agg (.pair (.int .i64) (.int .i64))))), .val (.int .i64), .val (.int .i64)]
def bs_mid_better : List BS := []
def pout_mid_better : Pat := ⟨[(6, .val (.alt1 162 (.agg (.pair (.int .i64) (.int .i64)))))], []⟩
noncomputable def G_mid_better  (N : Nat) : OrcT := orcOf []
noncomputable def F_mid_better  (N : Nat) (x : (Unit ⊕ (Int × Int)) × Int × Int) : Option (Int × Int) :=
  (evT (G_mid_better  N) L0 P0 []
    [] N 400 (bodyOf Try.f69) ⟨39, slots 0 (argsOf as_mid_better bs_mid_better x), tabU (lbOf as_mid_better bs_mid_better x) [], []⟩).elim (kRet 39 pout_mid_better (kpL []) (lbOf as_mid_better bs_mid_better x))
def out_mid_better (y : Int × Int) : V × List OK × List OK := (valW (.alt1 162 (.agg (.pair (.int .i64) (.int .i64)))) y, [], [])
noncomputable def V_mid_better  (N : Nat) (x : (Unit ⊕ (Int × Int)) × Int × Int) : Option (Int × Int) :=
  selim (fun (b : PUnit) => some (Prod.fst (Prod.snd x), Prod.snd (Prod.snd x)))
    (fun (c : Int × Int) =>
      cnd (decide (Prod.snd c < Prod.snd (Prod.snd x))) (some (Prod.fst c, Prod.snd c))
        (cnd (decide (Prod.snd c = Prod.snd (Prod.snd x)))
          (cnd (decide (Prod.fst c < Prod.fst (Prod.snd x))) (some (Prod.fst c, Prod.snd c))
            (some (Prod.fst (Prod.snd x), Prod.snd (Prod.snd x))))
          (some (Prod.fst (Prod.snd x), Prod.snd (Prod.snd x)))))
    x.1
theorem FV_mid_better_eq  (N : Nat) (x : (Unit ⊕ (Int × Int)) × Int × Int) : F_mid_better  N x = V_mid_better  N x := by kernel_rfl
noncomputable def W_mid_better (N : Nat) (x : (Unit ⊕ (Int × Int)) × Int × Int) : Option (Int × Int) :=
  selim (fun (b : PUnit) => some (Prod.fst (Prod.snd x), Prod.snd (Prod.snd x)))
    (fun (c : Int × Int) =>
      cnd (decide (Prod.snd c < Prod.snd (Prod.snd x))) (some (Prod.fst c, Prod.snd c))
        (cnd (decide (Prod.snd c = Prod.snd (Prod.snd x)))
          (cnd (decide (Prod.fst c < Prod.fst (Prod.snd x))) (some (Prod.fst c, Prod.snd c))
            (some (Prod.fst (Prod.snd x), Prod.snd (Prod.snd x))))
          (some (Prod.fst (Prod.snd x), Prod.snd (Prod.snd x)))))
    x.1
theorem F_mid_better_eq (N : Nat) (x : (Unit ⊕ (Int × Int)) × Int × Int) : F_mid_better  N x = W_mid_better N x := (FV_mid_better_eq  N x).trans (by kernel_rfl)
noncomputable def conw_mid_better (w : (Unit ⊕ (Int × Int)) × Int × Int → Option (Int × Int)) : Con := ⟨69, as_mid_better, bs_mid_better, Int × Int, w, out_mid_better⟩
noncomputable def con_mid_better (N : Nat) : Con := conw_mid_better (W_mid_better N)
theorem R_mid_better_eq (x : (Unit ⊕ (Int × Int)) × Int × Int) (y : Int × Int) : retOf2 P0 Try.f69 (kpL []) (lbOf as_mid_better bs_mid_better x) (patS ⟨39, [], [], []⟩ pout_mid_better y) = some (out_mid_better y) := by kernel_rfl
theorem con_mid_better_ok (N : Nat) : Con.ok P0 (con_mid_better N) := ⟨⟨Try.f69, Try.func69, by kernel_rfl, by kernel_rfl⟩, fun (x : (Unit ⊕ (Int × Int)) × Int × Int) (r : Int × Int) (hr : W_mid_better N x = some r) =>
  spec2_evT (Γ := G_mid_better N) (Λ := L0) (pout := pout_mid_better) (kp := kpL []) mixed (orcOf_ok [] (by simp)) Try.func69 (c := bodyOf Try.f69) (by kernel_rfl) (by kernel_rfl) (of_decide_eq_true (by kernel_rfl)) ((F_mid_better_eq N x).trans hr) (R_mid_better_eq x r)⟩
def as_mid_who : List AS := [.val (.alt 106 (.agg .unit) (.alt1 162 (.agg (.pair (.int .i64) (.int .i64)))))]
def bs_mid_who : List BS := []
def pout_mid_who : Pat := ⟨[(2, .val (.int .i64))], []⟩
noncomputable def G_mid_who  (N : Nat) : OrcT := orcOf []
noncomputable def F_mid_who  (N : Nat) (x : Unit ⊕ (Int × Int)) : Option (Int) :=
  (evT (G_mid_who  N) L0 P0 []
    [] N 400 (bodyOf Try.f70) ⟨14, slots 0 (argsOf as_mid_who bs_mid_who x), tabU (lbOf as_mid_who bs_mid_who x) [], []⟩).elim (kRet 14 pout_mid_who (kpL []) (lbOf as_mid_who bs_mid_who x))
def out_mid_who (y : Int) : V × List OK × List OK := (valW (.int .i64) y, [], [])
noncomputable def V_mid_who  (N : Nat) (x : Unit ⊕ (Int × Int)) : Option (Int) :=
  selim (fun (b : PUnit) => some (0 : Int)) (fun (c : Int × Int) => some (Prod.fst c)) x
theorem FV_mid_who_eq  (N : Nat) (x : Unit ⊕ (Int × Int)) : F_mid_who  N x = V_mid_who  N x := by kernel_rfl
noncomputable def W_mid_who (N : Nat) (x : Unit ⊕ (Int × Int)) : Option (Int) :=
  selim (fun (b : PUnit) => some (0 : Int)) (fun (c : Int × Int) => some (Prod.fst c)) x
theorem F_mid_who_eq (N : Nat) (x : Unit ⊕ (Int × Int)) : F_mid_who  N x = W_mid_who N x := (FV_mid_who_eq  N x).trans (by kernel_rfl)
noncomputable def conw_mid_who (w : Unit ⊕ (Int × Int) → Option (Int)) : Con := ⟨70, as_mid_who, bs_mid_who, Int, w, out_mid_who⟩
noncomputable def con_mid_who (N : Nat) : Con := conw_mid_who (W_mid_who N)
theorem R_mid_who_eq (x : Unit ⊕ (Int × Int)) (y : Int) : retOf2 P0 Try.f70 (kpL []) (lbOf as_mid_who bs_mid_who x) (patS ⟨14, [], [], []⟩ pout_mid_who y) = some (out_mid_who y) := by kernel_rfl
theorem con_mid_who_ok (N : Nat) : Con.ok P0 (con_mid_who N) := ⟨⟨Try.f70, Try.func70, by kernel_rfl, by kernel_rfl⟩, fun (x : Unit ⊕ (Int × Int)) (r : Int) (hr : W_mid_who N x = some r) =>
  spec2_evT (Γ := G_mid_who N) (Λ := L0) (pout := pout_mid_who) (kp := kpL []) mixed (orcOf_ok [] (by simp)) Try.func70 (c := bodyOf Try.f70) (by kernel_rfl) (by kernel_rfl) (of_decide_eq_true (by kernel_rfl)) ((F_mid_who_eq N x).trans hr) (R_mid_who_eq x r)⟩
def as_mid_Mid : List AS := [.val (.list (.list (.int .i64))), .val (.list (.int .i64))]
def bs_mid_Mid : List BS := []
def pout_mid_Mid : Pat := ⟨[(4, .val (.int .i64))], []⟩
noncomputable def G_mid_Mid (w_mid_Far : (List (List Int)) × Int × List Int → Option (Int)) (w_mid_better : (Unit ⊕ (Int × Int)) × Int × Int → Option (Int × Int)) (w_mid_who : Unit ⊕ (Int × Int) → Option (Int)) (N : Nat) : OrcT := orcOf [conw_mid_Far w_mid_Far, conw_mid_better w_mid_better, conw_mid_who w_mid_who]
noncomputable def F_mid_Mid (w_mid_Far : (List (List Int)) × Int × List Int → Option (Int)) (w_mid_better : (Unit ⊕ (Int × Int)) × Int × Int → Option (Int × Int)) (w_mid_who : Unit ⊕ (Int × Int) → Option (Int)) (N : Nat) (x : (List (List Int)) × List Int) : Option (Int) :=
  (evT (G_mid_Mid w_mid_Far w_mid_better w_mid_who N) L0 P0 [(3, .loop [10] ⟨[(5, .val (.alt 106 (.agg .unit) (.alt1 162 (.agg (.pair (.int .i64) (.int .i64)))))), (12, .val (.int .i64))], []⟩ [(.exit 0, ⟨[(5, .val (.alt 106 (.agg .unit) (.alt1 162 (.agg (.pair (.int .i64) (.int .i64))))))], []⟩)])]
    [] N 400 (bodyOf Try.f24) ⟨26, slots 0 (argsOf as_mid_Mid bs_mid_Mid x), tabU (lbOf as_mid_Mid bs_mid_Mid x) [], []⟩).elim (kRet 26 pout_mid_Mid (kpL []) (lbOf as_mid_Mid bs_mid_Mid x))
def out_mid_Mid (y : Int) : V × List OK × List OK := (valW (.int .i64) y, [], [])
noncomputable def V_mid_Mid (w_mid_Far : (List (List Int)) × Int × List Int → Option (Int)) (w_mid_better : (Unit ⊕ (Int × Int)) × Int × Int → Option (Int × Int)) (w_mid_who : Unit ⊕ (Int × Int) → Option (Int)) (N : Nat) (x : (List (List Int)) × List Int) : Option (Int) :=
  obind
    (loopN N
      (fun (v : (PUnit ⊕ Int × Int) × Int) =>
        cnd (decide (Prod.snd v < (↑(List.length (Prod.snd x)) : Int)))
          (cnd (decide ((0 : Int) ≤ Prod.snd v) && decide (Prod.snd v < (↑(List.length (Prod.snd x)) : Int)))
            (obind (w_mid_Far (Prod.fst x, List.getD (Prod.snd x) (Int.toNat (Prod.snd v)) (0 : Int), Prod.snd x))
              fun (b : Int) =>
              obind (w_mid_better (Prod.fst v, List.getD (Prod.snd x) (Int.toNat (Prod.snd v)) (0 : Int), b))
                fun (b : Int × Int) =>
                some (Sum.inl (Sum.inr (Prod.fst b, Prod.snd b), wr IntKind.i64 (Prod.snd v + (1 : Int)))))
            none)
          (some (Sum.inr v.1)))
      (Sum.inl (), (0 : Int)))
    fun (b : PUnit ⊕ Int × Int) => obind (w_mid_who b) fun (b : Int) => some b
theorem FV_mid_Mid_eq (w_mid_Far : (List (List Int)) × Int × List Int → Option (Int)) (w_mid_better : (Unit ⊕ (Int × Int)) × Int × Int → Option (Int × Int)) (w_mid_who : Unit ⊕ (Int × Int) → Option (Int)) (N : Nat) (x : (List (List Int)) × List Int) : F_mid_Mid w_mid_Far w_mid_better w_mid_who N x = V_mid_Mid w_mid_Far w_mid_better w_mid_who N x := by kernel_rfl
noncomputable def W_mid_Mid (N : Nat) (x : (List (List Int)) × List Int) : Option (Int) :=
  obind
    (loopN N
      (fun (v : (PUnit ⊕ Int × Int) × Int) =>
        cnd (decide (Prod.snd v < (↑(List.length (Prod.snd x)) : Int)))
          (cnd (decide ((0 : Int) ≤ Prod.snd v) && decide (Prod.snd v < (↑(List.length (Prod.snd x)) : Int)))
            (obind (W_mid_Far N (Prod.fst x, List.getD (Prod.snd x) (Int.toNat (Prod.snd v)) (0 : Int), Prod.snd x))
              fun (b : Int) =>
              obind (W_mid_better N (Prod.fst v, List.getD (Prod.snd x) (Int.toNat (Prod.snd v)) (0 : Int), b))
                fun (b : Int × Int) =>
                some (Sum.inl (Sum.inr (Prod.fst b, Prod.snd b), wr IntKind.i64 (Prod.snd v + (1 : Int)))))
            none)
          (some (Sum.inr v.1)))
      (Sum.inl (), (0 : Int)))
    fun (b : PUnit ⊕ Int × Int) => obind (W_mid_who N b) fun (b : Int) => some b
theorem F_mid_Mid_eq (N : Nat) (x : (List (List Int)) × List Int) : F_mid_Mid (W_mid_Far N) (W_mid_better N) (W_mid_who N) N x = W_mid_Mid N x := (FV_mid_Mid_eq (W_mid_Far N) (W_mid_better N) (W_mid_who N) N x).trans (by kernel_rfl)
noncomputable def conw_mid_Mid (w : (List (List Int)) × List Int → Option (Int)) : Con := ⟨24, as_mid_Mid, bs_mid_Mid, Int, w, out_mid_Mid⟩
noncomputable def con_mid_Mid (N : Nat) : Con := conw_mid_Mid (W_mid_Mid N)
theorem R_mid_Mid_eq (x : (List (List Int)) × List Int) (y : Int) : retOf2 P0 Try.f24 (kpL []) (lbOf as_mid_Mid bs_mid_Mid x) (patS ⟨26, [], [], []⟩ pout_mid_Mid y) = some (out_mid_Mid y) := by kernel_rfl
theorem con_mid_Mid_ok (N : Nat) : Con.ok P0 (con_mid_Mid N) := ⟨⟨Try.f24, Try.func24, by kernel_rfl, by kernel_rfl⟩, fun (x : (List (List Int)) × List Int) (r : Int) (hr : W_mid_Mid N x = some r) =>
  spec2_evT (Γ := G_mid_Mid (W_mid_Far N) (W_mid_better N) (W_mid_who N) N) (Λ := L0) (pout := pout_mid_Mid) (kp := kpL []) mixed (orcOf_ok _ (by simp only [List.mem_cons, List.not_mem_nil, or_false, forall_eq_or_imp, forall_eq]; exact ⟨con_mid_Far_ok N, con_mid_better_ok N, con_mid_who_ok N⟩)) Try.func24 (c := bodyOf Try.f24) (by kernel_rfl) (by kernel_rfl) (of_decide_eq_true (by kernel_rfl)) ((F_mid_Mid_eq N x).trans hr) (R_mid_Mid_eq x r)⟩
def as_mid_Near : List AS := [.val (.list (.list (.int .i64))), .val (.int .i64), .val (.list (.int .i64))]
def bs_mid_Near : List BS := []
def pout_mid_Near : Pat := ⟨[(6, .val (.int .i64))], []⟩
noncomputable def G_mid_Near (w_mid_between : (List (List Int)) × Int × Int → Option (Int)) (w_mid_better : (Unit ⊕ (Int × Int)) × Int × Int → Option (Int × Int)) (w_mid_who : Unit ⊕ (Int × Int) → Option (Int)) (N : Nat) : OrcT := orcOf [conw_mid_between w_mid_between, conw_mid_better w_mid_better, conw_mid_who w_mid_who]
noncomputable def F_mid_Near (w_mid_between : (List (List Int)) × Int × Int → Option (Int)) (w_mid_better : (Unit ⊕ (Int × Int)) × Int × Int → Option (Int × Int)) (w_mid_who : Unit ⊕ (Int × Int) → Option (Int)) (N : Nat) (x : (List (List Int)) × Int × List Int) : Option (Int) :=
  (evT (G_mid_Near w_mid_between w_mid_better w_mid_who N) L0 P0 [(3, .loop [12] ⟨[(7, .val (.alt 106 (.agg .unit) (.alt1 162 (.agg (.pair (.int .i64) (.int .i64)))))), (14, .val (.int .i64))], []⟩ [(.exit 0, ⟨[(7, .val (.alt 106 (.agg .unit) (.alt1 162 (.agg (.pair (.int .i64) (.int .i64))))))], []⟩)])]
    [] N 400 (bodyOf Try.f28) ⟨31, slots 0 (argsOf as_mid_Near bs_mid_Near x), tabU (lbOf as_mid_Near bs_mid_Near x) [], []⟩).elim (kRet 31 pout_mid_Near (kpL []) (lbOf as_mid_Near bs_mid_Near x))
def out_mid_Near (y : Int) : V × List OK × List OK := (valW (.int .i64) y, [], [])
noncomputable def V_mid_Near (w_mid_between : (List (List Int)) × Int × Int → Option (Int)) (w_mid_better : (Unit ⊕ (Int × Int)) × Int × Int → Option (Int × Int)) (w_mid_who : Unit ⊕ (Int × Int) → Option (Int)) (N : Nat) (x : (List (List Int)) × Int × List Int) : Option (Int) :=
  obind
    (loopN N
      (fun (v : (PUnit ⊕ Int × Int) × Int) =>
        cnd (decide (Prod.snd v < (↑(List.length (Prod.snd (Prod.snd x))) : Int)))
          (cnd (decide ((0 : Int) ≤ Prod.snd v) && decide (Prod.snd v < (↑(List.length (Prod.snd (Prod.snd x))) : Int)))
            (cnd (decide (List.getD (Prod.snd (Prod.snd x)) (Int.toNat (Prod.snd v)) (0 : Int) ≠ Prod.fst (Prod.snd x)))
              (obind
                (w_mid_between
                  (Prod.fst x, Prod.fst (Prod.snd x),
                    List.getD (Prod.snd (Prod.snd x)) (Int.toNat (Prod.snd v)) (0 : Int)))
                fun (b : Int) =>
                obind
                  (w_mid_better (Prod.fst v, List.getD (Prod.snd (Prod.snd x)) (Int.toNat (Prod.snd v)) (0 : Int), b))
                  fun (b : Int × Int) =>
                  some (Sum.inl (Sum.inr (Prod.fst b, Prod.snd b), wr IntKind.i64 (Prod.snd v + (1 : Int)))))
              (some (Sum.inl (v.1, wr IntKind.i64 (Prod.snd v + (1 : Int))))))
            none)
          (some (Sum.inr v.1)))
      (Sum.inl (), (0 : Int)))
    fun (b : PUnit ⊕ Int × Int) => obind (w_mid_who b) fun (b : Int) => some b
theorem FV_mid_Near_eq (w_mid_between : (List (List Int)) × Int × Int → Option (Int)) (w_mid_better : (Unit ⊕ (Int × Int)) × Int × Int → Option (Int × Int)) (w_mid_who : Unit ⊕ (Int × Int) → Option (Int)) (N : Nat) (x : (List (List Int)) × Int × List Int) : F_mid_Near w_mid_between w_mid_better w_mid_who N x = V_mid_Near w_mid_between w_mid_better w_mid_who N x := by kernel_rfl
noncomputable def W_mid_Near (N : Nat) (x : (List (List Int)) × Int × List Int) : Option (Int) :=
  obind
    (loopN N
      (fun (v : (PUnit ⊕ Int × Int) × Int) =>
        cnd (decide (Prod.snd v < (↑(List.length (Prod.snd (Prod.snd x))) : Int)))
          (cnd (decide ((0 : Int) ≤ Prod.snd v) && decide (Prod.snd v < (↑(List.length (Prod.snd (Prod.snd x))) : Int)))
            (cnd (decide (List.getD (Prod.snd (Prod.snd x)) (Int.toNat (Prod.snd v)) (0 : Int) ≠ Prod.fst (Prod.snd x)))
              (obind
                (W_mid_between N
                  (Prod.fst x, Prod.fst (Prod.snd x),
                    List.getD (Prod.snd (Prod.snd x)) (Int.toNat (Prod.snd v)) (0 : Int)))
                fun (b : Int) =>
                obind
                  (W_mid_better N (Prod.fst v, List.getD (Prod.snd (Prod.snd x)) (Int.toNat (Prod.snd v)) (0 : Int), b))
                  fun (b : Int × Int) =>
                  some (Sum.inl (Sum.inr (Prod.fst b, Prod.snd b), wr IntKind.i64 (Prod.snd v + (1 : Int)))))
              (some (Sum.inl (v.1, wr IntKind.i64 (Prod.snd v + (1 : Int))))))
            none)
          (some (Sum.inr v.1)))
      (Sum.inl (), (0 : Int)))
    fun (b : PUnit ⊕ Int × Int) => obind (W_mid_who N b) fun (b : Int) => some b
theorem F_mid_Near_eq (N : Nat) (x : (List (List Int)) × Int × List Int) : F_mid_Near (W_mid_between N) (W_mid_better N) (W_mid_who N) N x = W_mid_Near N x := (FV_mid_Near_eq (W_mid_between N) (W_mid_better N) (W_mid_who N) N x).trans (by kernel_rfl)
noncomputable def conw_mid_Near (w : (List (List Int)) × Int × List Int → Option (Int)) : Con := ⟨28, as_mid_Near, bs_mid_Near, Int, w, out_mid_Near⟩
noncomputable def con_mid_Near (N : Nat) : Con := conw_mid_Near (W_mid_Near N)
theorem R_mid_Near_eq (x : (List (List Int)) × Int × List Int) (y : Int) : retOf2 P0 Try.f28 (kpL []) (lbOf as_mid_Near bs_mid_Near x) (patS ⟨31, [], [], []⟩ pout_mid_Near y) = some (out_mid_Near y) := by kernel_rfl
theorem con_mid_Near_ok (N : Nat) : Con.ok P0 (con_mid_Near N) := ⟨⟨Try.f28, Try.func28, by kernel_rfl, by kernel_rfl⟩, fun (x : (List (List Int)) × Int × List Int) (r : Int) (hr : W_mid_Near N x = some r) =>
  spec2_evT (Γ := G_mid_Near (W_mid_between N) (W_mid_better N) (W_mid_who N) N) (Λ := L0) (pout := pout_mid_Near) (kp := kpL []) mixed (orcOf_ok _ (by simp only [List.mem_cons, List.not_mem_nil, or_false, forall_eq_or_imp, forall_eq]; exact ⟨con_mid_between_ok N, con_mid_better_ok N, con_mid_who_ok N⟩)) Try.func28 (c := bodyOf Try.f28) (by kernel_rfl) (by kernel_rfl) (of_decide_eq_true (by kernel_rfl)) ((F_mid_Near_eq N x).trans hr) (R_mid_Near_eq x r)⟩
def as_law7_MidBest : List AS := [.val (.list (.int .u8)), .val (.list (.int .u8)), .val (.int .u8)]
def bs_law7_MidBest : List BS := []
def pout_law7_MidBest : Pat := ⟨[(6, .val .bool)], []⟩
noncomputable def G_law7_MidBest (w_Made : List Int → Option ((List Int) × Int)) (w_Picks_Dist : (List Int) × Int → Option ((List (List Int)) × (List Int) × Int)) (w_Picks_Some : Int × (List Int) × Int → Option ((List Int) × (List Int) × Int)) (w_mid_Mid : (List (List Int)) × List Int → Option (Int)) (w_mid_Near : (List (List Int)) × Int × List Int → Option (Int)) (w_mid_Far : (List (List Int)) × Int × List Int → Option (Int)) (N : Nat) : OrcT := orcOf [con_law7_begun N, conw_Made w_Made, conw_Picks_Dist w_Picks_Dist, conw_Picks_Some w_Picks_Some, conw_mid_Mid w_mid_Mid, conw_mid_Near w_mid_Near, conw_mid_Far w_mid_Far]
noncomputable def F_law7_MidBest (w_Made : List Int → Option ((List Int) × Int)) (w_Picks_Dist : (List Int) × Int → Option ((List (List Int)) × (List Int) × Int)) (w_Picks_Some : Int × (List Int) × Int → Option ((List Int) × (List Int) × Int)) (w_mid_Mid : (List (List Int)) × List Int → Option (Int)) (w_mid_Near : (List (List Int)) × Int × List Int → Option (Int)) (w_mid_Far : (List (List Int)) × Int × List Int → Option (Int)) (N : Nat) (x : (List Int) × (List Int) × Int) : Option (Bool) :=
  (evT (G_law7_MidBest w_Made w_Picks_Dist w_Picks_Some w_mid_Mid w_mid_Near w_mid_Far N) L0 P0 [(13, .loop [7, 8] ⟨[(12, .val .bool), (13, .val (.int .i64))], []⟩ [(.exit 0, ⟨[(12, .val .bool)], []⟩), (.ret, ⟨[(6, .val .bool)], []⟩)])]
    [(1000017, .reg [(16, [7, 8], ⟨[(90, .val .bool)], []⟩)]),
    (1000021, .reg [(6, [8], ⟨[(182, .val .bool)], []⟩)])] N 400 (bodyOf Try.f5) ⟨199, slots 0 (argsOf as_law7_MidBest bs_law7_MidBest x), tabU (lbOf as_law7_MidBest bs_law7_MidBest x) [], []⟩).elim (kRet 199 pout_law7_MidBest (kpL []) (lbOf as_law7_MidBest bs_law7_MidBest x))
def out_law7_MidBest (y : Bool) : V × List OK × List OK := (valW .bool y, [], [])
noncomputable def V_law7_MidBest (w_Made : List Int → Option ((List Int) × Int)) (w_Picks_Dist : (List Int) × Int → Option ((List (List Int)) × (List Int) × Int)) (w_Picks_Some : Int × (List Int) × Int → Option ((List Int) × (List Int) × Int)) (w_mid_Mid : (List (List Int)) × List Int → Option (Int)) (w_mid_Near : (List (List Int)) × Int × List Int → Option (Int)) (w_mid_Far : (List (List Int)) × Int × List Int → Option (Int)) (N : Nat) (x : (List Int) × (List Int) × Int) : Option (Bool) :=
  cnd (decide ((30 : Int) < (↑(List.length (Prod.fst x)) : Int))) (some true) (cnd (decide ((8 : Int) < (↑(List.length (Prod.fst (Prod.snd x))) : Int)))
    (some true) (obind (w_Made (Prod.fst x)) fun (b : List Int × Int) => obind (w_Picks_Dist (Prod.fst b, Prod.snd b)) fun (b : List (List Int) ×
    List Int × Int) => obind (w_Made (Prod.fst (Prod.snd x))) fun (b_1 : List Int × Int) => obind (w_Picks_Some ((1 : Int), Prod.fst b_1, Prod.snd
    b_1)) fun (b_2 : List Int × List Int × Int) => obind (w_mid_Mid (Prod.fst b, Prod.fst b_2)) fun (b_3 : Int) => obind (w_mid_Near (Prod.fst b, wr
    IntKind.i64 ((1 : Int) + wr IntKind.i64 (Int.tmod (Prod.snd (Prod.snd x)) (8 : Int))), Prod.fst b_2)) fun (b_4 : Int) => cnd (decide (b_3 < (1 :
    Int))) (some false) (cnd (decide ((8 : Int) < b_3)) (some false) (obind (loopN N (fun (v : Bool × Int) => cnd (decide (Prod.snd v < (↑(List.length
    (Prod.fst b_2)) : Int))) (cnd (Prod.fst v) (obind (w_mid_Far (Prod.fst b, b_3, Prod.fst b_2)) fun (b_5 : Int) => cnd (decide ((0 : Int) ≤ Prod.snd
    v) && decide (Prod.snd v < (↑(List.length (Prod.fst b_2)) : Int))) (obind (w_mid_Far (Prod.fst b, List.getD (Prod.fst b_2) (Int.toNat (Prod.snd
    v)) (0 : Int), Prod.fst b_2)) fun (b_6 : Int) => obind (cnd (decide (b_6 < b_5)) (some true) (cnd (decide (b_5 = b_6)) (cnd (decide ((0 : Int) ≤
    Prod.snd v) && decide (Prod.snd v < (↑(List.length (Prod.fst b_2)) : Int))) (some (decide (List.getD (Prod.fst b_2) (Int.toNat (Prod.snd v)) (0 :
    Int) < b_3))) none) (some false))) fun (b_7 : Bool) => cnd b_7 (some (Sum.inr (Sum.inr false))) (cnd (decide ((0 : Int) ≤ Prod.snd v) && decide
    (Prod.snd v < (↑(List.length (Prod.fst b_2)) : Int))) (cnd (decide ((0 : Int) ≤ wr IntKind.i64 (List.getD (Prod.fst b_2) (Int.toNat (Prod.snd v)) (0
    : Int) - (1 : Int))) && decide (wr IntKind.i64 (List.getD (Prod.fst b_2) (Int.toNat (Prod.snd v)) (0 : Int) - (1 : Int)) < (↑(List.length (Prod.fst
    b)) : Int))) (cnd (decide ((0 : Int) ≤ wr IntKind.i64 (b_3 - (1 : Int))) && decide (wr IntKind.i64 (b_3 - (1 : Int)) < (↑(List.length (List.getD
    (Prod.fst b) (Int.toNat (wr IntKind.i64 (List.getD (Prod.fst b_2) (Int.toNat (Prod.snd v)) (0 : Int) - (1 : Int)))) [])) : Int))) (cnd (decide (b_5
    < List.getD (List.getD (Prod.fst b) (Int.toNat (wr IntKind.i64 (List.getD (Prod.fst b_2) (Int.toNat (Prod.snd v)) (0 : Int) - (1 : Int)))) [])
    (Int.toNat (wr IntKind.i64 (b_3 - (1 : Int)))) (0 : Int))) (some (Sum.inr (Sum.inr false))) (cnd (decide ((0 : Int) ≤ Prod.snd v) && decide
    (Prod.snd v < (↑(List.length (Prod.fst b_2)) : Int))) (cnd (decide (List.getD (Prod.fst b_2) (Int.toNat (Prod.snd v)) (0 : Int) ≠ wr IntKind.i64 ((1
    : Int) + wr IntKind.i64 (Int.tmod (Prod.snd (Prod.snd x)) (8 : Int))))) (cnd (decide (b_4 < (1 : Int))) (some (Sum.inr (Sum.inr false))) (cnd
    (decide ((8 : Int) < b_4)) (some (Sum.inr (Sum.inr false))) (cnd (decide ((0 : Int) ≤ wr IntKind.i64 (wr IntKind.i64 ((1 : Int) + wr IntKind.i64
    (Int.tmod (Prod.snd (Prod.snd x)) (8 : Int))) - (1 : Int))) && decide (wr IntKind.i64 (wr IntKind.i64 ((1 : Int) + wr IntKind.i64 (Int.tmod
    (Prod.snd (Prod.snd x)) (8 : Int))) - (1 : Int)) < (↑(List.length (Prod.fst b)) : Int))) (cnd (decide ((0 : Int) ≤ wr IntKind.i64 (b_4 - (1 : Int)))
    && decide (wr IntKind.i64 (b_4 - (1 : Int)) < (↑(List.length (List.getD (Prod.fst b) (Int.toNat (wr IntKind.i64 (wr IntKind.i64 ((1 : Int) + wr
    IntKind.i64 (Int.tmod (Prod.snd (Prod.snd x)) (8 : Int))) - (1 : Int)))) [])) : Int))) (cnd (decide ((0 : Int) ≤ wr IntKind.i64 (wr IntKind.i64 ((1
    : Int) + wr IntKind.i64 (Int.tmod (Prod.snd (Prod.snd x)) (8 : Int))) - (1 : Int))) && decide (wr IntKind.i64 (wr IntKind.i64 ((1 : Int) + wr
    IntKind.i64 (Int.tmod (Prod.snd (Prod.snd x)) (8 : Int))) - (1 : Int)) < (↑(List.length (Prod.fst b)) : Int))) (cnd (decide ((0 : Int) ≤ Prod.snd v)
    && decide (Prod.snd v < (↑(List.length (Prod.fst b_2)) : Int))) (cnd (decide ((0 : Int) ≤ wr IntKind.i64 (List.getD (Prod.fst b_2) (Int.toNat
    (Prod.snd v)) (0 : Int) - (1 : Int))) && decide (wr IntKind.i64 (List.getD (Prod.fst b_2) (Int.toNat (Prod.snd v)) (0 : Int) - (1 : Int)) <
    (↑(List.length (List.getD (Prod.fst b) (Int.toNat (wr IntKind.i64 (wr IntKind.i64 ((1 : Int) + wr IntKind.i64 (Int.tmod (Prod.snd (Prod.snd x)) (8 :
    Int))) - (1 : Int)))) [])) : Int))) (cnd (decide (List.getD (List.getD (Prod.fst b) (Int.toNat (wr IntKind.i64 (wr IntKind.i64 ((1 : Int) + wr
    IntKind.i64 (Int.tmod (Prod.snd (Prod.snd x)) (8 : Int))) - (1 : Int)))) []) (Int.toNat (wr IntKind.i64 (List.getD (Prod.fst b_2) (Int.toNat
    (Prod.snd v)) (0 : Int) - (1 : Int)))) (0 : Int) < List.getD (List.getD (Prod.fst b) (Int.toNat (wr IntKind.i64 (wr IntKind.i64 ((1 : Int) + wr
    IntKind.i64 (Int.tmod (Prod.snd (Prod.snd x)) (8 : Int))) - (1 : Int)))) []) (Int.toNat (wr IntKind.i64 (b_4 - (1 : Int)))) (0 : Int))) (some
    (Sum.inr (Sum.inr false))) (cnd (decide ((0 : Int) ≤ wr IntKind.i64 (wr IntKind.i64 ((1 : Int) + wr IntKind.i64 (Int.tmod (Prod.snd (Prod.snd x)) (8
    : Int))) - (1 : Int))) && decide (wr IntKind.i64 (wr IntKind.i64 ((1 : Int) + wr IntKind.i64 (Int.tmod (Prod.snd (Prod.snd x)) (8 : Int))) - (1 :
    Int)) < (↑(List.length (Prod.fst b)) : Int))) (cnd (decide ((0 : Int) ≤ wr IntKind.i64 (b_4 - (1 : Int))) && decide (wr IntKind.i64 (b_4 - (1 :
    Int)) < (↑(List.length (List.getD (Prod.fst b) (Int.toNat (wr IntKind.i64 (wr IntKind.i64 ((1 : Int) + wr IntKind.i64 (Int.tmod (Prod.snd (Prod.snd
    x)) (8 : Int))) - (1 : Int)))) [])) : Int))) (cnd (decide ((0 : Int) ≤ wr IntKind.i64 (wr IntKind.i64 ((1 : Int) + wr IntKind.i64 (Int.tmod
    (Prod.snd (Prod.snd x)) (8 : Int))) - (1 : Int))) && decide (wr IntKind.i64 (wr IntKind.i64 ((1 : Int) + wr IntKind.i64 (Int.tmod (Prod.snd
    (Prod.snd x)) (8 : Int))) - (1 : Int)) < (↑(List.length (Prod.fst b)) : Int))) (cnd (decide ((0 : Int) ≤ Prod.snd v) && decide (Prod.snd v <
    (↑(List.length (Prod.fst b_2)) : Int))) (cnd (decide ((0 : Int) ≤ wr IntKind.i64 (List.getD (Prod.fst b_2) (Int.toNat (Prod.snd v)) (0 : Int) - (1 :
    Int))) && decide (wr IntKind.i64 (List.getD (Prod.fst b_2) (Int.toNat (Prod.snd v)) (0 : Int) - (1 : Int)) < (↑(List.length (List.getD (Prod.fst b)
    (Int.toNat (wr IntKind.i64 (wr IntKind.i64 ((1 : Int) + wr IntKind.i64 (Int.tmod (Prod.snd (Prod.snd x)) (8 : Int))) - (1 : Int)))) [])) : Int)))
    (cnd (decide (List.getD (List.getD (Prod.fst b) (Int.toNat (wr IntKind.i64 (wr IntKind.i64 ((1 : Int) + wr IntKind.i64 (Int.tmod (Prod.snd (Prod.snd
    x)) (8 : Int))) - (1 : Int)))) []) (Int.toNat (wr IntKind.i64 (b_4 - (1 : Int)))) (0 : Int) = List.getD (List.getD (Prod.fst b) (Int.toNat (wr
    IntKind.i64 (wr IntKind.i64 ((1 : Int) + wr IntKind.i64 (Int.tmod (Prod.snd (Prod.snd x)) (8 : Int))) - (1 : Int)))) []) (Int.toNat (wr IntKind.i64
    (List.getD (Prod.fst b_2) (Int.toNat (Prod.snd v)) (0 : Int) - (1 : Int)))) (0 : Int))) (cnd (decide ((0 : Int) ≤ Prod.snd v) && decide (Prod.snd v
    < (↑(List.length (Prod.fst b_2)) : Int))) (cnd (decide (List.getD (Prod.fst b_2) (Int.toNat (Prod.snd v)) (0 : Int) < b_4)) (some (Sum.inr (Sum.inr
    false))) (some (Sum.inl (true, wr IntKind.i64 (Prod.snd v + (1 : Int)))))) none) (some (Sum.inl (true, wr IntKind.i64 (Prod.snd v + (1 : Int))))))
    none) none) none) none) none)) none) none) none) none) none))) (some (Sum.inl (true, wr IntKind.i64 (Prod.snd v + (1 : Int)))))) none)) none) none)
    none)) none) (cnd (decide ((0 : Int) ≤ Prod.snd v) && decide (Prod.snd v < (↑(List.length (Prod.fst b_2)) : Int))) (obind (w_mid_Far (Prod.fst b,
    b_3, Prod.fst b_2)) fun (b_5 : Int) => cnd (decide ((0 : Int) ≤ Prod.snd v) && decide (Prod.snd v < (↑(List.length (Prod.fst b_2)) : Int))) (obind
    (w_mid_Far (Prod.fst b, List.getD (Prod.fst b_2) (Int.toNat (Prod.snd v)) (0 : Int), Prod.fst b_2)) fun (b_6 : Int) => obind (cnd (decide (b_6 <
    b_5)) (some true) (cnd (decide (b_5 = b_6)) (cnd (decide ((0 : Int) ≤ Prod.snd v) && decide (Prod.snd v < (↑(List.length (Prod.fst b_2)) : Int)))
    (some (decide (List.getD (Prod.fst b_2) (Int.toNat (Prod.snd v)) (0 : Int) < b_3))) none) (some false))) fun (b_7 : Bool) => cnd b_7 (some (Sum.inr
    (Sum.inr false))) (cnd (decide ((0 : Int) ≤ Prod.snd v) && decide (Prod.snd v < (↑(List.length (Prod.fst b_2)) : Int))) (cnd (decide ((0 : Int) ≤ wr
    IntKind.i64 (List.getD (Prod.fst b_2) (Int.toNat (Prod.snd v)) (0 : Int) - (1 : Int))) && decide (wr IntKind.i64 (List.getD (Prod.fst b_2)
    (Int.toNat (Prod.snd v)) (0 : Int) - (1 : Int)) < (↑(List.length (Prod.fst b)) : Int))) (cnd (decide ((0 : Int) ≤ wr IntKind.i64 (b_3 - (1 : Int)))
    && decide (wr IntKind.i64 (b_3 - (1 : Int)) < (↑(List.length (List.getD (Prod.fst b) (Int.toNat (wr IntKind.i64 (List.getD (Prod.fst b_2) (Int.toNat
    (Prod.snd v)) (0 : Int) - (1 : Int)))) [])) : Int))) (cnd (decide (b_5 < List.getD (List.getD (Prod.fst b) (Int.toNat (wr IntKind.i64 (List.getD
    (Prod.fst b_2) (Int.toNat (Prod.snd v)) (0 : Int) - (1 : Int)))) []) (Int.toNat (wr IntKind.i64 (b_3 - (1 : Int)))) (0 : Int))) (some (Sum.inr
    (Sum.inr false))) (cnd (decide ((0 : Int) ≤ Prod.snd v) && decide (Prod.snd v < (↑(List.length (Prod.fst b_2)) : Int))) (cnd (decide (List.getD
    (Prod.fst b_2) (Int.toNat (Prod.snd v)) (0 : Int) ≠ wr IntKind.i64 ((1 : Int) + wr IntKind.i64 (Int.tmod (Prod.snd (Prod.snd x)) (8 : Int))))) (cnd
    (decide (b_4 < (1 : Int))) (some (Sum.inr (Sum.inr false))) (cnd (decide ((8 : Int) < b_4)) (some (Sum.inr (Sum.inr false))) (cnd (decide ((0 : Int)
    ≤ wr IntKind.i64 (wr IntKind.i64 ((1 : Int) + wr IntKind.i64 (Int.tmod (Prod.snd (Prod.snd x)) (8 : Int))) - (1 : Int))) && decide (wr IntKind.i64
    (wr IntKind.i64 ((1 : Int) + wr IntKind.i64 (Int.tmod (Prod.snd (Prod.snd x)) (8 : Int))) - (1 : Int)) < (↑(List.length (Prod.fst b)) : Int))) (cnd
    (decide ((0 : Int) ≤ wr IntKind.i64 (b_4 - (1 : Int))) && decide (wr IntKind.i64 (b_4 - (1 : Int)) < (↑(List.length (List.getD (Prod.fst b)
    (Int.toNat (wr IntKind.i64 (wr IntKind.i64 ((1 : Int) + wr IntKind.i64 (Int.tmod (Prod.snd (Prod.snd x)) (8 : Int))) - (1 : Int)))) [])) : Int)))
    (cnd (decide ((0 : Int) ≤ wr IntKind.i64 (wr IntKind.i64 ((1 : Int) + wr IntKind.i64 (Int.tmod (Prod.snd (Prod.snd x)) (8 : Int))) - (1 : Int))) &&
    decide (wr IntKind.i64 (wr IntKind.i64 ((1 : Int) + wr IntKind.i64 (Int.tmod (Prod.snd (Prod.snd x)) (8 : Int))) - (1 : Int)) < (↑(List.length
    (Prod.fst b)) : Int))) (cnd (decide ((0 : Int) ≤ Prod.snd v) && decide (Prod.snd v < (↑(List.length (Prod.fst b_2)) : Int))) (cnd (decide ((0 : Int)
    ≤ wr IntKind.i64 (List.getD (Prod.fst b_2) (Int.toNat (Prod.snd v)) (0 : Int) - (1 : Int))) && decide (wr IntKind.i64 (List.getD (Prod.fst b_2)
    (Int.toNat (Prod.snd v)) (0 : Int) - (1 : Int)) < (↑(List.length (List.getD (Prod.fst b) (Int.toNat (wr IntKind.i64 (wr IntKind.i64 ((1 : Int) + wr
    IntKind.i64 (Int.tmod (Prod.snd (Prod.snd x)) (8 : Int))) - (1 : Int)))) [])) : Int))) (cnd (decide (List.getD (List.getD (Prod.fst b) (Int.toNat
    (wr IntKind.i64 (wr IntKind.i64 ((1 : Int) + wr IntKind.i64 (Int.tmod (Prod.snd (Prod.snd x)) (8 : Int))) - (1 : Int)))) []) (Int.toNat (wr
    IntKind.i64 (List.getD (Prod.fst b_2) (Int.toNat (Prod.snd v)) (0 : Int) - (1 : Int)))) (0 : Int) < List.getD (List.getD (Prod.fst b) (Int.toNat (wr
    IntKind.i64 (wr IntKind.i64 ((1 : Int) + wr IntKind.i64 (Int.tmod (Prod.snd (Prod.snd x)) (8 : Int))) - (1 : Int)))) []) (Int.toNat (wr IntKind.i64
    (b_4 - (1 : Int)))) (0 : Int))) (some (Sum.inr (Sum.inr false))) (cnd (decide ((0 : Int) ≤ wr IntKind.i64 (wr IntKind.i64 ((1 : Int) + wr
    IntKind.i64 (Int.tmod (Prod.snd (Prod.snd x)) (8 : Int))) - (1 : Int))) && decide (wr IntKind.i64 (wr IntKind.i64 ((1 : Int) + wr IntKind.i64
    (Int.tmod (Prod.snd (Prod.snd x)) (8 : Int))) - (1 : Int)) < (↑(List.length (Prod.fst b)) : Int))) (cnd (decide ((0 : Int) ≤ wr IntKind.i64 (b_4 -
    (1 : Int))) && decide (wr IntKind.i64 (b_4 - (1 : Int)) < (↑(List.length (List.getD (Prod.fst b) (Int.toNat (wr IntKind.i64 (wr IntKind.i64 ((1 :
    Int) + wr IntKind.i64 (Int.tmod (Prod.snd (Prod.snd x)) (8 : Int))) - (1 : Int)))) [])) : Int))) (cnd (decide ((0 : Int) ≤ wr IntKind.i64 (wr
    IntKind.i64 ((1 : Int) + wr IntKind.i64 (Int.tmod (Prod.snd (Prod.snd x)) (8 : Int))) - (1 : Int))) && decide (wr IntKind.i64 (wr IntKind.i64 ((1 :
    Int) + wr IntKind.i64 (Int.tmod (Prod.snd (Prod.snd x)) (8 : Int))) - (1 : Int)) < (↑(List.length (Prod.fst b)) : Int))) (cnd (decide ((0 : Int) ≤
    Prod.snd v) && decide (Prod.snd v < (↑(List.length (Prod.fst b_2)) : Int))) (cnd (decide ((0 : Int) ≤ wr IntKind.i64 (List.getD (Prod.fst b_2)
    (Int.toNat (Prod.snd v)) (0 : Int) - (1 : Int))) && decide (wr IntKind.i64 (List.getD (Prod.fst b_2) (Int.toNat (Prod.snd v)) (0 : Int) - (1 : Int))
    < (↑(List.length (List.getD (Prod.fst b) (Int.toNat (wr IntKind.i64 (wr IntKind.i64 ((1 : Int) + wr IntKind.i64 (Int.tmod (Prod.snd (Prod.snd x)) (8
    : Int))) - (1 : Int)))) [])) : Int))) (cnd (decide (List.getD (List.getD (Prod.fst b) (Int.toNat (wr IntKind.i64 (wr IntKind.i64 ((1 : Int) + wr
    IntKind.i64 (Int.tmod (Prod.snd (Prod.snd x)) (8 : Int))) - (1 : Int)))) []) (Int.toNat (wr IntKind.i64 (b_4 - (1 : Int)))) (0 : Int) = List.getD
    (List.getD (Prod.fst b) (Int.toNat (wr IntKind.i64 (wr IntKind.i64 ((1 : Int) + wr IntKind.i64 (Int.tmod (Prod.snd (Prod.snd x)) (8 : Int))) - (1 :
    Int)))) []) (Int.toNat (wr IntKind.i64 (List.getD (Prod.fst b_2) (Int.toNat (Prod.snd v)) (0 : Int) - (1 : Int)))) (0 : Int))) (cnd (decide ((0 :
    Int) ≤ Prod.snd v) && decide (Prod.snd v < (↑(List.length (Prod.fst b_2)) : Int))) (cnd (decide (List.getD (Prod.fst b_2) (Int.toNat (Prod.snd v))
    (0 : Int) < b_4)) (some (Sum.inr (Sum.inr false))) (some (Sum.inl (decide (List.getD (Prod.fst b_2) (Int.toNat (Prod.snd v)) (0 : Int) = b_3), wr
    IntKind.i64 (Prod.snd v + (1 : Int)))))) none) (some (Sum.inl (decide (List.getD (Prod.fst b_2) (Int.toNat (Prod.snd v)) (0 : Int) = b_3), wr
    IntKind.i64 (Prod.snd v + (1 : Int)))))) none) none) none) none) none)) none) none) none) none) none))) (some (Sum.inl (decide (List.getD (Prod.fst
    b_2) (Int.toNat (Prod.snd v)) (0 : Int) = b_3), wr IntKind.i64 (Prod.snd v + (1 : Int)))))) none)) none) none) none)) none) none)) (some (Sum.inr
    (Sum.inl (Prod.fst v))))) (false, (0 : Int))) fun (b : Bool ⊕ Bool) => selim (fun (b : Bool) => obind (cnd b (some (decide (b_4 ≠ wr IntKind.i64 ((1
    : Int) + wr IntKind.i64 (Int.tmod (Prod.snd (Prod.snd x)) (8 : Int)))))) (some false)) fun (b : Bool) => cnd b (cnd (decide (b_4 ≠ (0 : Int))) (some
    true) (cnd (decide ((↑(List.length (Prod.fst b_2)) : Int) = (1 : Int))) (cnd (decide ((0 : Int) ≤ (0 : Int)) && decide ((0 : Int) < (↑(List.length
    (Prod.fst b_2)) : Int))) (some (decide (List.getD (Prod.fst b_2) (0 : Nat) (0 : Int) = wr IntKind.i64 ((1 : Int) + wr IntKind.i64 (Int.tmod
    (Prod.snd (Prod.snd x)) (8 : Int)))))) none) (some false))) (some false)) (fun (c : Bool) => some c) b))))
theorem FV_law7_MidBest_eq (w_Made : List Int → Option ((List Int) × Int)) (w_Picks_Dist : (List Int) × Int → Option ((List (List Int)) × (List Int) × Int)) (w_Picks_Some : Int × (List Int) × Int → Option ((List Int) × (List Int) × Int)) (w_mid_Mid : (List (List Int)) × List Int → Option (Int)) (w_mid_Near : (List (List Int)) × Int × List Int → Option (Int)) (w_mid_Far : (List (List Int)) × Int × List Int → Option (Int)) (N : Nat) (x : (List Int) × (List Int) × Int) : F_law7_MidBest w_Made w_Picks_Dist w_Picks_Some w_mid_Mid w_mid_Near w_mid_Far N x = V_law7_MidBest w_Made w_Picks_Dist w_Picks_Some w_mid_Mid w_mid_Near w_mid_Far N x := by kernel_rfl
noncomputable def W_law7_MidBest (N : Nat) (x : (List Int) × (List Int) × Int) : Option (Bool) :=
  cnd (decide ((30 : Int) < (↑(List.length (Prod.fst x)) : Int))) (some true) (cnd (decide ((8 : Int) < (↑(List.length (Prod.fst (Prod.snd x))) : Int)))
    (some true) (obind (W_Made N (Prod.fst x)) fun (b : List Int × Int) => obind (W_Picks_Dist N (Prod.fst b, Prod.snd b)) fun (b : List (List Int) ×
    List Int × Int) => obind (W_Made N (Prod.fst (Prod.snd x))) fun (b_1 : List Int × Int) => obind (W_Picks_Some N ((1 : Int), Prod.fst b_1, Prod.snd
    b_1)) fun (b_2 : List Int × List Int × Int) => obind (W_mid_Mid N (Prod.fst b, Prod.fst b_2)) fun (b_3 : Int) => obind (W_mid_Near N (Prod.fst b, wr
    IntKind.i64 ((1 : Int) + wr IntKind.i64 (Int.tmod (Prod.snd (Prod.snd x)) (8 : Int))), Prod.fst b_2)) fun (b_4 : Int) => cnd (decide (b_3 < (1 :
    Int))) (some false) (cnd (decide ((8 : Int) < b_3)) (some false) (obind (loopN N (fun (v : Bool × Int) => cnd (decide (Prod.snd v < (↑(List.length
    (Prod.fst b_2)) : Int))) (cnd (Prod.fst v) (obind (W_mid_Far N (Prod.fst b, b_3, Prod.fst b_2)) fun (b_5 : Int) => cnd (decide ((0 : Int) ≤ Prod.snd
    v) && decide (Prod.snd v < (↑(List.length (Prod.fst b_2)) : Int))) (obind (W_mid_Far N (Prod.fst b, List.getD (Prod.fst b_2) (Int.toNat (Prod.snd
    v)) (0 : Int), Prod.fst b_2)) fun (b_6 : Int) => obind (cnd (decide (b_6 < b_5)) (some true) (cnd (decide (b_5 = b_6)) (cnd (decide ((0 : Int) ≤
    Prod.snd v) && decide (Prod.snd v < (↑(List.length (Prod.fst b_2)) : Int))) (some (decide (List.getD (Prod.fst b_2) (Int.toNat (Prod.snd v)) (0 :
    Int) < b_3))) none) (some false))) fun (b_7 : Bool) => cnd b_7 (some (Sum.inr (Sum.inr false))) (cnd (decide ((0 : Int) ≤ Prod.snd v) && decide
    (Prod.snd v < (↑(List.length (Prod.fst b_2)) : Int))) (cnd (decide ((0 : Int) ≤ wr IntKind.i64 (List.getD (Prod.fst b_2) (Int.toNat (Prod.snd v)) (0
    : Int) - (1 : Int))) && decide (wr IntKind.i64 (List.getD (Prod.fst b_2) (Int.toNat (Prod.snd v)) (0 : Int) - (1 : Int)) < (↑(List.length (Prod.fst
    b)) : Int))) (cnd (decide ((0 : Int) ≤ wr IntKind.i64 (b_3 - (1 : Int))) && decide (wr IntKind.i64 (b_3 - (1 : Int)) < (↑(List.length (List.getD
    (Prod.fst b) (Int.toNat (wr IntKind.i64 (List.getD (Prod.fst b_2) (Int.toNat (Prod.snd v)) (0 : Int) - (1 : Int)))) [])) : Int))) (cnd (decide (b_5
    < List.getD (List.getD (Prod.fst b) (Int.toNat (wr IntKind.i64 (List.getD (Prod.fst b_2) (Int.toNat (Prod.snd v)) (0 : Int) - (1 : Int)))) [])
    (Int.toNat (wr IntKind.i64 (b_3 - (1 : Int)))) (0 : Int))) (some (Sum.inr (Sum.inr false))) (cnd (decide ((0 : Int) ≤ Prod.snd v) && decide
    (Prod.snd v < (↑(List.length (Prod.fst b_2)) : Int))) (cnd (decide (List.getD (Prod.fst b_2) (Int.toNat (Prod.snd v)) (0 : Int) ≠ wr IntKind.i64 ((1
    : Int) + wr IntKind.i64 (Int.tmod (Prod.snd (Prod.snd x)) (8 : Int))))) (cnd (decide (b_4 < (1 : Int))) (some (Sum.inr (Sum.inr false))) (cnd
    (decide ((8 : Int) < b_4)) (some (Sum.inr (Sum.inr false))) (cnd (decide ((0 : Int) ≤ wr IntKind.i64 (wr IntKind.i64 ((1 : Int) + wr IntKind.i64
    (Int.tmod (Prod.snd (Prod.snd x)) (8 : Int))) - (1 : Int))) && decide (wr IntKind.i64 (wr IntKind.i64 ((1 : Int) + wr IntKind.i64 (Int.tmod
    (Prod.snd (Prod.snd x)) (8 : Int))) - (1 : Int)) < (↑(List.length (Prod.fst b)) : Int))) (cnd (decide ((0 : Int) ≤ wr IntKind.i64 (b_4 - (1 : Int)))
    && decide (wr IntKind.i64 (b_4 - (1 : Int)) < (↑(List.length (List.getD (Prod.fst b) (Int.toNat (wr IntKind.i64 (wr IntKind.i64 ((1 : Int) + wr
    IntKind.i64 (Int.tmod (Prod.snd (Prod.snd x)) (8 : Int))) - (1 : Int)))) [])) : Int))) (cnd (decide ((0 : Int) ≤ wr IntKind.i64 (wr IntKind.i64 ((1
    : Int) + wr IntKind.i64 (Int.tmod (Prod.snd (Prod.snd x)) (8 : Int))) - (1 : Int))) && decide (wr IntKind.i64 (wr IntKind.i64 ((1 : Int) + wr
    IntKind.i64 (Int.tmod (Prod.snd (Prod.snd x)) (8 : Int))) - (1 : Int)) < (↑(List.length (Prod.fst b)) : Int))) (cnd (decide ((0 : Int) ≤ Prod.snd v)
    && decide (Prod.snd v < (↑(List.length (Prod.fst b_2)) : Int))) (cnd (decide ((0 : Int) ≤ wr IntKind.i64 (List.getD (Prod.fst b_2) (Int.toNat
    (Prod.snd v)) (0 : Int) - (1 : Int))) && decide (wr IntKind.i64 (List.getD (Prod.fst b_2) (Int.toNat (Prod.snd v)) (0 : Int) - (1 : Int)) <
    (↑(List.length (List.getD (Prod.fst b) (Int.toNat (wr IntKind.i64 (wr IntKind.i64 ((1 : Int) + wr IntKind.i64 (Int.tmod (Prod.snd (Prod.snd x)) (8 :
    Int))) - (1 : Int)))) [])) : Int))) (cnd (decide (List.getD (List.getD (Prod.fst b) (Int.toNat (wr IntKind.i64 (wr IntKind.i64 ((1 : Int) + wr
    IntKind.i64 (Int.tmod (Prod.snd (Prod.snd x)) (8 : Int))) - (1 : Int)))) []) (Int.toNat (wr IntKind.i64 (List.getD (Prod.fst b_2) (Int.toNat
    (Prod.snd v)) (0 : Int) - (1 : Int)))) (0 : Int) < List.getD (List.getD (Prod.fst b) (Int.toNat (wr IntKind.i64 (wr IntKind.i64 ((1 : Int) + wr
    IntKind.i64 (Int.tmod (Prod.snd (Prod.snd x)) (8 : Int))) - (1 : Int)))) []) (Int.toNat (wr IntKind.i64 (b_4 - (1 : Int)))) (0 : Int))) (some
    (Sum.inr (Sum.inr false))) (cnd (decide ((0 : Int) ≤ wr IntKind.i64 (wr IntKind.i64 ((1 : Int) + wr IntKind.i64 (Int.tmod (Prod.snd (Prod.snd x)) (8
    : Int))) - (1 : Int))) && decide (wr IntKind.i64 (wr IntKind.i64 ((1 : Int) + wr IntKind.i64 (Int.tmod (Prod.snd (Prod.snd x)) (8 : Int))) - (1 :
    Int)) < (↑(List.length (Prod.fst b)) : Int))) (cnd (decide ((0 : Int) ≤ wr IntKind.i64 (b_4 - (1 : Int))) && decide (wr IntKind.i64 (b_4 - (1 :
    Int)) < (↑(List.length (List.getD (Prod.fst b) (Int.toNat (wr IntKind.i64 (wr IntKind.i64 ((1 : Int) + wr IntKind.i64 (Int.tmod (Prod.snd (Prod.snd
    x)) (8 : Int))) - (1 : Int)))) [])) : Int))) (cnd (decide ((0 : Int) ≤ wr IntKind.i64 (wr IntKind.i64 ((1 : Int) + wr IntKind.i64 (Int.tmod
    (Prod.snd (Prod.snd x)) (8 : Int))) - (1 : Int))) && decide (wr IntKind.i64 (wr IntKind.i64 ((1 : Int) + wr IntKind.i64 (Int.tmod (Prod.snd
    (Prod.snd x)) (8 : Int))) - (1 : Int)) < (↑(List.length (Prod.fst b)) : Int))) (cnd (decide ((0 : Int) ≤ Prod.snd v) && decide (Prod.snd v <
    (↑(List.length (Prod.fst b_2)) : Int))) (cnd (decide ((0 : Int) ≤ wr IntKind.i64 (List.getD (Prod.fst b_2) (Int.toNat (Prod.snd v)) (0 : Int) - (1 :
    Int))) && decide (wr IntKind.i64 (List.getD (Prod.fst b_2) (Int.toNat (Prod.snd v)) (0 : Int) - (1 : Int)) < (↑(List.length (List.getD (Prod.fst b)
    (Int.toNat (wr IntKind.i64 (wr IntKind.i64 ((1 : Int) + wr IntKind.i64 (Int.tmod (Prod.snd (Prod.snd x)) (8 : Int))) - (1 : Int)))) [])) : Int)))
    (cnd (decide (List.getD (List.getD (Prod.fst b) (Int.toNat (wr IntKind.i64 (wr IntKind.i64 ((1 : Int) + wr IntKind.i64 (Int.tmod (Prod.snd (Prod.snd
    x)) (8 : Int))) - (1 : Int)))) []) (Int.toNat (wr IntKind.i64 (b_4 - (1 : Int)))) (0 : Int) = List.getD (List.getD (Prod.fst b) (Int.toNat (wr
    IntKind.i64 (wr IntKind.i64 ((1 : Int) + wr IntKind.i64 (Int.tmod (Prod.snd (Prod.snd x)) (8 : Int))) - (1 : Int)))) []) (Int.toNat (wr IntKind.i64
    (List.getD (Prod.fst b_2) (Int.toNat (Prod.snd v)) (0 : Int) - (1 : Int)))) (0 : Int))) (cnd (decide ((0 : Int) ≤ Prod.snd v) && decide (Prod.snd v
    < (↑(List.length (Prod.fst b_2)) : Int))) (cnd (decide (List.getD (Prod.fst b_2) (Int.toNat (Prod.snd v)) (0 : Int) < b_4)) (some (Sum.inr (Sum.inr
    false))) (some (Sum.inl (true, wr IntKind.i64 (Prod.snd v + (1 : Int)))))) none) (some (Sum.inl (true, wr IntKind.i64 (Prod.snd v + (1 : Int))))))
    none) none) none) none) none)) none) none) none) none) none))) (some (Sum.inl (true, wr IntKind.i64 (Prod.snd v + (1 : Int)))))) none)) none) none)
    none)) none) (cnd (decide ((0 : Int) ≤ Prod.snd v) && decide (Prod.snd v < (↑(List.length (Prod.fst b_2)) : Int))) (obind (W_mid_Far N (Prod.fst b,
    b_3, Prod.fst b_2)) fun (b_5 : Int) => cnd (decide ((0 : Int) ≤ Prod.snd v) && decide (Prod.snd v < (↑(List.length (Prod.fst b_2)) : Int))) (obind
    (W_mid_Far N (Prod.fst b, List.getD (Prod.fst b_2) (Int.toNat (Prod.snd v)) (0 : Int), Prod.fst b_2)) fun (b_6 : Int) => obind (cnd (decide (b_6 <
    b_5)) (some true) (cnd (decide (b_5 = b_6)) (cnd (decide ((0 : Int) ≤ Prod.snd v) && decide (Prod.snd v < (↑(List.length (Prod.fst b_2)) : Int)))
    (some (decide (List.getD (Prod.fst b_2) (Int.toNat (Prod.snd v)) (0 : Int) < b_3))) none) (some false))) fun (b_7 : Bool) => cnd b_7 (some (Sum.inr
    (Sum.inr false))) (cnd (decide ((0 : Int) ≤ Prod.snd v) && decide (Prod.snd v < (↑(List.length (Prod.fst b_2)) : Int))) (cnd (decide ((0 : Int) ≤ wr
    IntKind.i64 (List.getD (Prod.fst b_2) (Int.toNat (Prod.snd v)) (0 : Int) - (1 : Int))) && decide (wr IntKind.i64 (List.getD (Prod.fst b_2)
    (Int.toNat (Prod.snd v)) (0 : Int) - (1 : Int)) < (↑(List.length (Prod.fst b)) : Int))) (cnd (decide ((0 : Int) ≤ wr IntKind.i64 (b_3 - (1 : Int)))
    && decide (wr IntKind.i64 (b_3 - (1 : Int)) < (↑(List.length (List.getD (Prod.fst b) (Int.toNat (wr IntKind.i64 (List.getD (Prod.fst b_2) (Int.toNat
    (Prod.snd v)) (0 : Int) - (1 : Int)))) [])) : Int))) (cnd (decide (b_5 < List.getD (List.getD (Prod.fst b) (Int.toNat (wr IntKind.i64 (List.getD
    (Prod.fst b_2) (Int.toNat (Prod.snd v)) (0 : Int) - (1 : Int)))) []) (Int.toNat (wr IntKind.i64 (b_3 - (1 : Int)))) (0 : Int))) (some (Sum.inr
    (Sum.inr false))) (cnd (decide ((0 : Int) ≤ Prod.snd v) && decide (Prod.snd v < (↑(List.length (Prod.fst b_2)) : Int))) (cnd (decide (List.getD
    (Prod.fst b_2) (Int.toNat (Prod.snd v)) (0 : Int) ≠ wr IntKind.i64 ((1 : Int) + wr IntKind.i64 (Int.tmod (Prod.snd (Prod.snd x)) (8 : Int))))) (cnd
    (decide (b_4 < (1 : Int))) (some (Sum.inr (Sum.inr false))) (cnd (decide ((8 : Int) < b_4)) (some (Sum.inr (Sum.inr false))) (cnd (decide ((0 : Int)
    ≤ wr IntKind.i64 (wr IntKind.i64 ((1 : Int) + wr IntKind.i64 (Int.tmod (Prod.snd (Prod.snd x)) (8 : Int))) - (1 : Int))) && decide (wr IntKind.i64
    (wr IntKind.i64 ((1 : Int) + wr IntKind.i64 (Int.tmod (Prod.snd (Prod.snd x)) (8 : Int))) - (1 : Int)) < (↑(List.length (Prod.fst b)) : Int))) (cnd
    (decide ((0 : Int) ≤ wr IntKind.i64 (b_4 - (1 : Int))) && decide (wr IntKind.i64 (b_4 - (1 : Int)) < (↑(List.length (List.getD (Prod.fst b)
    (Int.toNat (wr IntKind.i64 (wr IntKind.i64 ((1 : Int) + wr IntKind.i64 (Int.tmod (Prod.snd (Prod.snd x)) (8 : Int))) - (1 : Int)))) [])) : Int)))
    (cnd (decide ((0 : Int) ≤ wr IntKind.i64 (wr IntKind.i64 ((1 : Int) + wr IntKind.i64 (Int.tmod (Prod.snd (Prod.snd x)) (8 : Int))) - (1 : Int))) &&
    decide (wr IntKind.i64 (wr IntKind.i64 ((1 : Int) + wr IntKind.i64 (Int.tmod (Prod.snd (Prod.snd x)) (8 : Int))) - (1 : Int)) < (↑(List.length
    (Prod.fst b)) : Int))) (cnd (decide ((0 : Int) ≤ Prod.snd v) && decide (Prod.snd v < (↑(List.length (Prod.fst b_2)) : Int))) (cnd (decide ((0 : Int)
    ≤ wr IntKind.i64 (List.getD (Prod.fst b_2) (Int.toNat (Prod.snd v)) (0 : Int) - (1 : Int))) && decide (wr IntKind.i64 (List.getD (Prod.fst b_2)
    (Int.toNat (Prod.snd v)) (0 : Int) - (1 : Int)) < (↑(List.length (List.getD (Prod.fst b) (Int.toNat (wr IntKind.i64 (wr IntKind.i64 ((1 : Int) + wr
    IntKind.i64 (Int.tmod (Prod.snd (Prod.snd x)) (8 : Int))) - (1 : Int)))) [])) : Int))) (cnd (decide (List.getD (List.getD (Prod.fst b) (Int.toNat
    (wr IntKind.i64 (wr IntKind.i64 ((1 : Int) + wr IntKind.i64 (Int.tmod (Prod.snd (Prod.snd x)) (8 : Int))) - (1 : Int)))) []) (Int.toNat (wr
    IntKind.i64 (List.getD (Prod.fst b_2) (Int.toNat (Prod.snd v)) (0 : Int) - (1 : Int)))) (0 : Int) < List.getD (List.getD (Prod.fst b) (Int.toNat (wr
    IntKind.i64 (wr IntKind.i64 ((1 : Int) + wr IntKind.i64 (Int.tmod (Prod.snd (Prod.snd x)) (8 : Int))) - (1 : Int)))) []) (Int.toNat (wr IntKind.i64
    (b_4 - (1 : Int)))) (0 : Int))) (some (Sum.inr (Sum.inr false))) (cnd (decide ((0 : Int) ≤ wr IntKind.i64 (wr IntKind.i64 ((1 : Int) + wr
    IntKind.i64 (Int.tmod (Prod.snd (Prod.snd x)) (8 : Int))) - (1 : Int))) && decide (wr IntKind.i64 (wr IntKind.i64 ((1 : Int) + wr IntKind.i64
    (Int.tmod (Prod.snd (Prod.snd x)) (8 : Int))) - (1 : Int)) < (↑(List.length (Prod.fst b)) : Int))) (cnd (decide ((0 : Int) ≤ wr IntKind.i64 (b_4 -
    (1 : Int))) && decide (wr IntKind.i64 (b_4 - (1 : Int)) < (↑(List.length (List.getD (Prod.fst b) (Int.toNat (wr IntKind.i64 (wr IntKind.i64 ((1 :
    Int) + wr IntKind.i64 (Int.tmod (Prod.snd (Prod.snd x)) (8 : Int))) - (1 : Int)))) [])) : Int))) (cnd (decide ((0 : Int) ≤ wr IntKind.i64 (wr
    IntKind.i64 ((1 : Int) + wr IntKind.i64 (Int.tmod (Prod.snd (Prod.snd x)) (8 : Int))) - (1 : Int))) && decide (wr IntKind.i64 (wr IntKind.i64 ((1 :
    Int) + wr IntKind.i64 (Int.tmod (Prod.snd (Prod.snd x)) (8 : Int))) - (1 : Int)) < (↑(List.length (Prod.fst b)) : Int))) (cnd (decide ((0 : Int) ≤
    Prod.snd v) && decide (Prod.snd v < (↑(List.length (Prod.fst b_2)) : Int))) (cnd (decide ((0 : Int) ≤ wr IntKind.i64 (List.getD (Prod.fst b_2)
    (Int.toNat (Prod.snd v)) (0 : Int) - (1 : Int))) && decide (wr IntKind.i64 (List.getD (Prod.fst b_2) (Int.toNat (Prod.snd v)) (0 : Int) - (1 : Int))
    < (↑(List.length (List.getD (Prod.fst b) (Int.toNat (wr IntKind.i64 (wr IntKind.i64 ((1 : Int) + wr IntKind.i64 (Int.tmod (Prod.snd (Prod.snd x)) (8
    : Int))) - (1 : Int)))) [])) : Int))) (cnd (decide (List.getD (List.getD (Prod.fst b) (Int.toNat (wr IntKind.i64 (wr IntKind.i64 ((1 : Int) + wr
    IntKind.i64 (Int.tmod (Prod.snd (Prod.snd x)) (8 : Int))) - (1 : Int)))) []) (Int.toNat (wr IntKind.i64 (b_4 - (1 : Int)))) (0 : Int) = List.getD
    (List.getD (Prod.fst b) (Int.toNat (wr IntKind.i64 (wr IntKind.i64 ((1 : Int) + wr IntKind.i64 (Int.tmod (Prod.snd (Prod.snd x)) (8 : Int))) - (1 :
    Int)))) []) (Int.toNat (wr IntKind.i64 (List.getD (Prod.fst b_2) (Int.toNat (Prod.snd v)) (0 : Int) - (1 : Int)))) (0 : Int))) (cnd (decide ((0 :
    Int) ≤ Prod.snd v) && decide (Prod.snd v < (↑(List.length (Prod.fst b_2)) : Int))) (cnd (decide (List.getD (Prod.fst b_2) (Int.toNat (Prod.snd v))
    (0 : Int) < b_4)) (some (Sum.inr (Sum.inr false))) (some (Sum.inl (decide (List.getD (Prod.fst b_2) (Int.toNat (Prod.snd v)) (0 : Int) = b_3), wr
    IntKind.i64 (Prod.snd v + (1 : Int)))))) none) (some (Sum.inl (decide (List.getD (Prod.fst b_2) (Int.toNat (Prod.snd v)) (0 : Int) = b_3), wr
    IntKind.i64 (Prod.snd v + (1 : Int)))))) none) none) none) none) none)) none) none) none) none) none))) (some (Sum.inl (decide (List.getD (Prod.fst
    b_2) (Int.toNat (Prod.snd v)) (0 : Int) = b_3), wr IntKind.i64 (Prod.snd v + (1 : Int)))))) none)) none) none) none)) none) none)) (some (Sum.inr
    (Sum.inl (Prod.fst v))))) (false, (0 : Int))) fun (b : Bool ⊕ Bool) => selim (fun (b : Bool) => obind (cnd b (some (decide (b_4 ≠ wr IntKind.i64 ((1
    : Int) + wr IntKind.i64 (Int.tmod (Prod.snd (Prod.snd x)) (8 : Int)))))) (some false)) fun (b : Bool) => cnd b (cnd (decide (b_4 ≠ (0 : Int))) (some
    true) (cnd (decide ((↑(List.length (Prod.fst b_2)) : Int) = (1 : Int))) (cnd (decide ((0 : Int) ≤ (0 : Int)) && decide ((0 : Int) < (↑(List.length
    (Prod.fst b_2)) : Int))) (some (decide (List.getD (Prod.fst b_2) (0 : Nat) (0 : Int) = wr IntKind.i64 ((1 : Int) + wr IntKind.i64 (Int.tmod
    (Prod.snd (Prod.snd x)) (8 : Int)))))) none) (some false))) (some false)) (fun (c : Bool) => some c) b))))
theorem F_law7_MidBest_eq (N : Nat) (x : (List Int) × (List Int) × Int) : F_law7_MidBest (W_Made N) (W_Picks_Dist N) (W_Picks_Some N) (W_mid_Mid N) (W_mid_Near N) (W_mid_Far N) N x = W_law7_MidBest N x := (FV_law7_MidBest_eq (W_Made N) (W_Picks_Dist N) (W_Picks_Some N) (W_mid_Mid N) (W_mid_Near N) (W_mid_Far N) N x).trans (by kernel_rfl)
noncomputable def conw_law7_MidBest (w : (List Int) × (List Int) × Int → Option (Bool)) : Con := ⟨5, as_law7_MidBest, bs_law7_MidBest, Bool, w, out_law7_MidBest⟩
noncomputable def con_law7_MidBest (N : Nat) : Con := conw_law7_MidBest (W_law7_MidBest N)
theorem R_law7_MidBest_eq (x : (List Int) × (List Int) × Int) (y : Bool) : retOf2 P0 Try.f5 (kpL []) (lbOf as_law7_MidBest bs_law7_MidBest x) (patS ⟨199, [], [], []⟩ pout_law7_MidBest y) = some (out_law7_MidBest y) := by kernel_rfl
theorem con_law7_MidBest_ok (N : Nat) : Con.ok P0 (con_law7_MidBest N) := ⟨⟨Try.f5, Try.func5, by kernel_rfl, by kernel_rfl⟩, fun (x : (List Int) × (List Int) × Int) (r : Bool) (hr : W_law7_MidBest N x = some r) =>
  spec2_evT (Γ := G_law7_MidBest (W_Made N) (W_Picks_Dist N) (W_Picks_Some N) (W_mid_Mid N) (W_mid_Near N) (W_mid_Far N) N) (Λ := L0) (pout := pout_law7_MidBest) (kp := kpL []) mixed (orcOf_ok _ (by simp only [List.mem_cons, List.not_mem_nil, or_false, forall_eq_or_imp, forall_eq]; exact ⟨con_law7_begun_ok N, con_Made_ok N, con_Picks_Dist_ok N, con_Picks_Some_ok N, con_mid_Mid_ok N, con_mid_Near_ok N, con_mid_Far_ok N⟩)) Try.func5 (c := bodyOf Try.f5) (by kernel_rfl) (by kernel_rfl) (of_decide_eq_true (by kernel_rfl)) ((F_law7_MidBest_eq N x).trans hr) (R_law7_MidBest_eq x r)⟩
/-! What is reckoned. -/
-- PURE
theorem wr_m {z : Int} (h : -140737488355328 ≤ z) (h2 : z ≤ 140737488355328) : wr .i64 z = z := wr_i64 (by omega) (by omega)
theorem cnd_T {α : Type} {p : Prop} {i : Decidable p} {x y : α} (h : p) : cnd (@decide p i) x y = x := by rw [decide_eq_true h]; rfl
theorem cnd_F {α : Type} {p : Prop} {i : Decidable p} {x y : α} (h : ¬ p) : cnd (@decide p i) x y = y := by rw [decide_eq_false h]; rfl
def U8 (l : List Int) : Prop := ∀ n ∈ l, 0 ≤ n ∧ n ≤ 255
theorem U8_get {a : List Int} (ha : U8 a) (j : Nat) (hj : j < a.length) : 0 ≤ a.getD j 0 ∧ a.getD j 0 ≤ 255 := by
  rw [List.getD_eq_getElem?_getD, List.getElem?_eq_getElem hj]
  exact ha _ (List.getElem_mem hj)
def dv (k : Int) : Int := List.getD [(1 : Int), (2 : Int), (3 : Int), (5 : Int), (9 : Int), (9 : Int), (20 : Int), (1000 : Int), (0 : Int)] (Int.toNat k) (0 : Int)
theorem dv_rng (k : Int) : 0 ≤ dv k ∧ dv k ≤ 1000 := by
  unfold dv
  generalize k.toNat = j
  match j with
  | 0 | 1 | 2 | 3 | 4 | 5 | 6 | 7 | 8 => decide
  | j + 9 => simp [List.getD_eq_getElem?_getD]
/-- A square of distances. -/
def gd (D : List (List Int)) (i j : Nat) : Int := (D.getD i []).getD j 0
structure GD (D : List (List Int)) : Prop where
  len : D.length = 8
  row : ∀ i, i < 8 → (D.getD i []).length = 8
  rng : ∀ i j, i < 8 → j < 8 → 0 ≤ gd D i j ∧ gd D i j ≤ 1000
  sym : ∀ i j, i < 8 → j < 8 → gd D i j = gd D j i
theorem lt8 {P : Nat → Prop} (h0 : P 0) (h1 : P 1) (h2 : P 2) (h3 : P 3) (h4 : P 4) (h5 : P 5) (h6 : P 6) (h7 : P 7) : ∀ i, i < 8 → P i
  | 0, _ => h0 | 1, _ => h1 | 2, _ => h2 | 3, _ => h3 | 4, _ => h4 | 5, _ => h5 | 6, _ => h6 | 7, _ => h7
  | n + 8, h => by omega
theorem Num_spec (N : Nat) (m : Int) (l : List Int) (n : Int) (hU : U8 l) (hl : l.length ≤ 1000) (h0 : 0 ≤ n) (h1 : n ≤ l.length) (hm : 1 ≤ m) (hm2 : m ≤ 255) : ∃ v n', W_Picks_Num N (m, l, n) = some (v, l, n') ∧ 0 ≤ v ∧ v < m ∧ 0 ≤ n' ∧ n' ≤ l.length := by
  unfold W_Picks_Num
  simp only
  by_cases hn : (l.length : Int) ≤ n
  · rw [dT hn, cnd_t]; exact ⟨_, _, rfl, by omega, by omega, h0, h1⟩
  have w : wr .i64 (wr .i64 (n + 1) - 1) = n := by rw [wr_m (z := n + 1) (by omega) (by omega), wr_m (z := n + 1 - 1) (by omega) (by omega)]; omega
  have g := U8_get hU n.toNat (by omega)
  rw [w, wr_m (z := n + 1) (by omega) (by omega)]
  clear w
  rw [dF hn, cnd_f, dF (show ¬ m < 1 by omega), cnd_f, dT h0, dT (show n < l.length by omega), Bool.and_self, cnd_t, dF (show ¬ m = 0 by omega), Bool.not_false, cnd_t, wr_m (by omega) (by omega)]
  exact ⟨_, _, rfl, Int.tmod_nonneg _ g.1, Int.tmod_lt_of_pos _ (by omega), by omega, by omega⟩
theorem Dist_spec (N : Nat) (l : List Int) (n : Int) (hU : U8 l) (hl : l.length ≤ 1000) (h0 : 0 ≤ n) (h1 : n ≤ l.length) : ∃ D n', W_Picks_Dist N (l, n) = some (D, l, n') ∧ GD D := by
  unfold W_Picks_Dist
  simp only
  obtain ⟨v0, n0, e0, p0, q0, r0, s0⟩ := Num_spec N 9 l n hU hl h0 h1 (by omega) (by omega)
  rw [e0, obind_s, dT p0, cnd_t, dT (show v0 < ((9 : Nat) : Int) from q0), cnd_t]
  obtain ⟨v1, n1, e1, p1, q1, r1, s1⟩ := Num_spec N 9 l n0 hU hl r0 s0 (by omega) (by omega)
  rw [e1, obind_s, dT p1, cnd_t, dT (show v1 < ((9 : Nat) : Int) from q1), cnd_t]
  obtain ⟨v2, n2, e2, p2, q2, r2, s2⟩ := Num_spec N 9 l n1 hU hl r1 s1 (by omega) (by omega)
  rw [e2, obind_s, dT p2, cnd_t, dT (show v2 < ((9 : Nat) : Int) from q2), cnd_t]
  obtain ⟨v3, n3, e3, p3, q3, r3, s3⟩ := Num_spec N 9 l n2 hU hl r2 s2 (by omega) (by omega)
  rw [e3, obind_s, dT p3, cnd_t, dT (show v3 < ((9 : Nat) : Int) from q3), cnd_t]
  obtain ⟨v4, n4, e4, p4, q4, r4, s4⟩ := Num_spec N 9 l n3 hU hl r3 s3 (by omega) (by omega)
  rw [e4, obind_s, dT p4, cnd_t, dT (show v4 < ((9 : Nat) : Int) from q4), cnd_t]
  obtain ⟨v5, n5, e5, p5, q5, r5, s5⟩ := Num_spec N 9 l n4 hU hl r4 s4 (by omega) (by omega)
  rw [e5, obind_s, dT p5, cnd_t, dT (show v5 < ((9 : Nat) : Int) from q5), cnd_t]
  obtain ⟨v6, n6, e6, p6, q6, r6, s6⟩ := Num_spec N 9 l n5 hU hl r5 s5 (by omega) (by omega)
  rw [e6, obind_s, dT p6, cnd_t, dT (show v6 < ((9 : Nat) : Int) from q6), cnd_t]
  obtain ⟨v7, n7, e7, p7, q7, r7, s7⟩ := Num_spec N 9 l n6 hU hl r6 s6 (by omega) (by omega)
  rw [e7, obind_s, dT p7, cnd_t, dT (show v7 < ((9 : Nat) : Int) from q7), cnd_t]
  obtain ⟨v8, n8, e8, p8, q8, r8, s8⟩ := Num_spec N 9 l n7 hU hl r7 s7 (by omega) (by omega)
  rw [e8, obind_s, dT p8, cnd_t, dT (show v8 < ((9 : Nat) : Int) from q8), cnd_t]
  obtain ⟨v9, n9, e9, p9, q9, r9, s9⟩ := Num_spec N 9 l n8 hU hl r8 s8 (by omega) (by omega)
  rw [e9, obind_s, dT p9, cnd_t, dT (show v9 < ((9 : Nat) : Int) from q9), cnd_t]
  obtain ⟨v10, n10, e10, p10, q10, r10, s10⟩ := Num_spec N 9 l n9 hU hl r9 s9 (by omega) (by omega)
  rw [e10, obind_s, dT p10, cnd_t, dT (show v10 < ((9 : Nat) : Int) from q10), cnd_t]
  obtain ⟨v11, n11, e11, p11, q11, r11, s11⟩ := Num_spec N 9 l n10 hU hl r10 s10 (by omega) (by omega)
  rw [e11, obind_s, dT p11, cnd_t, dT (show v11 < ((9 : Nat) : Int) from q11), cnd_t]
  obtain ⟨v12, n12, e12, p12, q12, r12, s12⟩ := Num_spec N 9 l n11 hU hl r11 s11 (by omega) (by omega)
  rw [e12, obind_s, dT p12, cnd_t, dT (show v12 < ((9 : Nat) : Int) from q12), cnd_t]
  obtain ⟨v13, n13, e13, p13, q13, r13, s13⟩ := Num_spec N 9 l n12 hU hl r12 s12 (by omega) (by omega)
  rw [e13, obind_s, dT p13, cnd_t, dT (show v13 < ((9 : Nat) : Int) from q13), cnd_t]
  obtain ⟨v14, n14, e14, p14, q14, r14, s14⟩ := Num_spec N 9 l n13 hU hl r13 s13 (by omega) (by omega)
  rw [e14, obind_s, dT p14, cnd_t, dT (show v14 < ((9 : Nat) : Int) from q14), cnd_t]
  obtain ⟨v15, n15, e15, p15, q15, r15, s15⟩ := Num_spec N 9 l n14 hU hl r14 s14 (by omega) (by omega)
  rw [e15, obind_s, dT p15, cnd_t, dT (show v15 < ((9 : Nat) : Int) from q15), cnd_t]
  obtain ⟨v16, n16, e16, p16, q16, r16, s16⟩ := Num_spec N 9 l n15 hU hl r15 s15 (by omega) (by omega)
  rw [e16, obind_s, dT p16, cnd_t, dT (show v16 < ((9 : Nat) : Int) from q16), cnd_t]
  obtain ⟨v17, n17, e17, p17, q17, r17, s17⟩ := Num_spec N 9 l n16 hU hl r16 s16 (by omega) (by omega)
  rw [e17, obind_s, dT p17, cnd_t, dT (show v17 < ((9 : Nat) : Int) from q17), cnd_t]
  obtain ⟨v18, n18, e18, p18, q18, r18, s18⟩ := Num_spec N 9 l n17 hU hl r17 s17 (by omega) (by omega)
  rw [e18, obind_s, dT p18, cnd_t, dT (show v18 < ((9 : Nat) : Int) from q18), cnd_t]
  obtain ⟨v19, n19, e19, p19, q19, r19, s19⟩ := Num_spec N 9 l n18 hU hl r18 s18 (by omega) (by omega)
  rw [e19, obind_s, dT p19, cnd_t, dT (show v19 < ((9 : Nat) : Int) from q19), cnd_t]
  obtain ⟨v20, n20, e20, p20, q20, r20, s20⟩ := Num_spec N 9 l n19 hU hl r19 s19 (by omega) (by omega)
  rw [e20, obind_s, dT p20, cnd_t, dT (show v20 < ((9 : Nat) : Int) from q20), cnd_t]
  obtain ⟨v21, n21, e21, p21, q21, r21, s21⟩ := Num_spec N 9 l n20 hU hl r20 s20 (by omega) (by omega)
  rw [e21, obind_s, dT p21, cnd_t, dT (show v21 < ((9 : Nat) : Int) from q21), cnd_t]
  obtain ⟨v22, n22, e22, p22, q22, r22, s22⟩ := Num_spec N 9 l n21 hU hl r21 s21 (by omega) (by omega)
  rw [e22, obind_s, dT p22, cnd_t, dT (show v22 < ((9 : Nat) : Int) from q22), cnd_t]
  obtain ⟨v23, n23, e23, p23, q23, r23, s23⟩ := Num_spec N 9 l n22 hU hl r22 s22 (by omega) (by omega)
  rw [e23, obind_s, dT p23, cnd_t, dT (show v23 < ((9 : Nat) : Int) from q23), cnd_t]
  obtain ⟨v24, n24, e24, p24, q24, r24, s24⟩ := Num_spec N 9 l n23 hU hl r23 s23 (by omega) (by omega)
  rw [e24, obind_s, dT p24, cnd_t, dT (show v24 < ((9 : Nat) : Int) from q24), cnd_t]
  obtain ⟨v25, n25, e25, p25, q25, r25, s25⟩ := Num_spec N 9 l n24 hU hl r24 s24 (by omega) (by omega)
  rw [e25, obind_s, dT p25, cnd_t, dT (show v25 < ((9 : Nat) : Int) from q25), cnd_t]
  obtain ⟨v26, n26, e26, p26, q26, r26, s26⟩ := Num_spec N 9 l n25 hU hl r25 s25 (by omega) (by omega)
  rw [e26, obind_s, dT p26, cnd_t, dT (show v26 < ((9 : Nat) : Int) from q26), cnd_t]
  obtain ⟨v27, n27, e27, p27, q27, r27, s27⟩ := Num_spec N 9 l n26 hU hl r26 s26 (by omega) (by omega)
  rw [e27, obind_s, dT p27, cnd_t, dT (show v27 < ((9 : Nat) : Int) from q27), cnd_t]
  refine ⟨[[(0 : Int), dv v0, dv v1, dv v3, dv v6, dv v10, dv v15, dv v21], [dv v0, (0 : Int), dv v2, dv v4, dv v7, dv v11, dv v16, dv v22], [dv v1, dv v2, (0 : Int), dv v5, dv v8, dv v12, dv v17, dv v23], [dv v3, dv v4, dv v5, (0 : Int), dv v9, dv v13, dv v18, dv v24], [dv v6, dv v7, dv v8, dv v9, (0 : Int), dv v14, dv v19, dv v25], [dv v10, dv v11, dv v12, dv v13, dv v14, (0 : Int), dv v20, dv v26], [dv v15, dv v16, dv v17, dv v18, dv v19, dv v20, (0 : Int), dv v27], [dv v21, dv v22, dv v23, dv v24, dv v25, dv v26, dv v27, (0 : Int)]], n27, rfl, ?_⟩
  have d0 := dv_rng v0
  have d1 := dv_rng v1
  have d2 := dv_rng v2
  have d3 := dv_rng v3
  have d4 := dv_rng v4
  have d5 := dv_rng v5
  have d6 := dv_rng v6
  have d7 := dv_rng v7
  have d8 := dv_rng v8
  have d9 := dv_rng v9
  have d10 := dv_rng v10
  have d11 := dv_rng v11
  have d12 := dv_rng v12
  have d13 := dv_rng v13
  have d14 := dv_rng v14
  have d15 := dv_rng v15
  have d16 := dv_rng v16
  have d17 := dv_rng v17
  have d18 := dv_rng v18
  have d19 := dv_rng v19
  have d20 := dv_rng v20
  have d21 := dv_rng v21
  have d22 := dv_rng v22
  have d23 := dv_rng v23
  have d24 := dv_rng v24
  have d25 := dv_rng v25
  have d26 := dv_rng v26
  have d27 := dv_rng v27
  generalize dv v0 = w0 at *
  generalize dv v1 = w1 at *
  generalize dv v2 = w2 at *
  generalize dv v3 = w3 at *
  generalize dv v4 = w4 at *
  generalize dv v5 = w5 at *
  generalize dv v6 = w6 at *
  generalize dv v7 = w7 at *
  generalize dv v8 = w8 at *
  generalize dv v9 = w9 at *
  generalize dv v10 = w10 at *
  generalize dv v11 = w11 at *
  generalize dv v12 = w12 at *
  generalize dv v13 = w13 at *
  generalize dv v14 = w14 at *
  generalize dv v15 = w15 at *
  generalize dv v16 = w16 at *
  generalize dv v17 = w17 at *
  generalize dv v18 = w18 at *
  generalize dv v19 = w19 at *
  generalize dv v20 = w20 at *
  generalize dv v21 = w21 at *
  generalize dv v22 = w22 at *
  generalize dv v23 = w23 at *
  generalize dv v24 = w24 at *
  generalize dv v25 = w25 at *
  generalize dv v26 = w26 at *
  generalize dv v27 = w27 at *
  refine ⟨rfl, lt8 rfl rfl rfl rfl rfl rfl rfl rfl, ?_, fun i j hi hj => lt8 (P := fun i => ∀ j, j < 8 → gd [[(0 : Int), w0, w1, w3, w6, w10, w15, w21], [w0, (0 : Int), w2, w4, w7, w11, w16, w22], [w1, w2, (0 : Int), w5, w8, w12, w17, w23], [w3, w4, w5, (0 : Int), w9, w13, w18, w24], [w6, w7, w8, w9, (0 : Int), w14, w19, w25], [w10, w11, w12, w13, w14, (0 : Int), w20, w26], [w15, w16, w17, w18, w19, w20, (0 : Int), w27], [w21, w22, w23, w24, w25, w26, w27, (0 : Int)]] i j = gd [[(0 : Int), w0, w1, w3, w6, w10, w15, w21], [w0, (0 : Int), w2, w4, w7, w11, w16, w22], [w1, w2, (0 : Int), w5, w8, w12, w17, w23], [w3, w4, w5, (0 : Int), w9, w13, w18, w24], [w6, w7, w8, w9, (0 : Int), w14, w19, w25], [w10, w11, w12, w13, w14, (0 : Int), w20, w26], [w15, w16, w17, w18, w19, w20, (0 : Int), w27], [w21, w22, w23, w24, w25, w26, w27, (0 : Int)]] j i) (lt8 rfl rfl rfl rfl rfl rfl rfl rfl) (lt8 rfl rfl rfl rfl rfl rfl rfl rfl) (lt8 rfl rfl rfl rfl rfl rfl rfl rfl) (lt8 rfl rfl rfl rfl rfl rfl rfl rfl) (lt8 rfl rfl rfl rfl rfl rfl rfl rfl) (lt8 rfl rfl rfl rfl rfl rfl rfl rfl) (lt8 rfl rfl rfl rfl rfl rfl rfl rfl) (lt8 rfl rfl rfl rfl rfl rfl rfl rfl) i hi j hj⟩
  have z : (0 : Int) ≤ 0 ∧ (0 : Int) ≤ 1000 := ⟨by omega, by omega⟩
  refine fun i j hi hj => lt8 (P := fun i => ∀ j, j < 8 → 0 ≤ gd [[(0 : Int), w0, w1, w3, w6, w10, w15, w21], [w0, (0 : Int), w2, w4, w7, w11, w16, w22], [w1, w2, (0 : Int), w5, w8, w12, w17, w23], [w3, w4, w5, (0 : Int), w9, w13, w18, w24], [w6, w7, w8, w9, (0 : Int), w14, w19, w25], [w10, w11, w12, w13, w14, (0 : Int), w20, w26], [w15, w16, w17, w18, w19, w20, (0 : Int), w27], [w21, w22, w23, w24, w25, w26, w27, (0 : Int)]] i j ∧ gd [[(0 : Int), w0, w1, w3, w6, w10, w15, w21], [w0, (0 : Int), w2, w4, w7, w11, w16, w22], [w1, w2, (0 : Int), w5, w8, w12, w17, w23], [w3, w4, w5, (0 : Int), w9, w13, w18, w24], [w6, w7, w8, w9, (0 : Int), w14, w19, w25], [w10, w11, w12, w13, w14, (0 : Int), w20, w26], [w15, w16, w17, w18, w19, w20, (0 : Int), w27], [w21, w22, w23, w24, w25, w26, w27, (0 : Int)]] i j ≤ 1000) ?_ ?_ ?_ ?_ ?_ ?_ ?_ ?_ i hi j hj
  · exact lt8 z d0 d1 d3 d6 d10 d15 d21
  · exact lt8 d0 z d2 d4 d7 d11 d16 d22
  · exact lt8 d1 d2 z d5 d8 d12 d17 d23
  · exact lt8 d3 d4 d5 z d9 d13 d18 d24
  · exact lt8 d6 d7 d8 d9 z d14 d19 d25
  · exact lt8 d10 d11 d12 d13 d14 z d20 d26
  · exact lt8 d15 d16 d17 d18 d19 d20 z d27
  · exact lt8 d21 d22 d23 d24 d25 d26 d27 z
theorem loop_post {σ ρ β : Type} {f : σ → Option (σ ⊕ ρ)} {k : ρ → Option β} {x : σ} {N : Nat} (Q : Option β → Prop) (I : σ → Prop) (m : σ → Nat) (J : ρ → Prop) (hx : I x) (hm : m x < N) (hk : ∀ r, J r → Q (k r))
    (hs : ∀ x, I x → (∃ y, f x = some (.inl y) ∧ I y ∧ m y < m x) ∨ ∃ r, f x = some (.inr r) ∧ J r) : Q (obind (loopN N f x) k) := by
  obtain ⟨r, h1, h2⟩ := loopN_run I m J hs N x hx hm
  rw [h1]; exact hk r h2
def S8 (l : List Int) : Prop := ∀ b ∈ l, 1 ≤ b ∧ b ≤ 8
def G (D : List (List Int)) (a b : Int) : Int := gd D (a - 1).toNat (b - 1).toNat
def far (D : List (List Int)) (a : Int) (l : List Int) : Int := l.foldl (fun m b => max m (G D a b)) 0
theorem take_snoc (l : List Int) (j : Nat) (h : j < l.length) : l.take (j + 1) = l.take j ++ [l.getD j 0] := by
  rw [List.take_add_one, List.getD_eq_getElem?_getD, List.getElem?_eq_getElem h]; rfl
theorem getD_mem (l : List Int) (j : Nat) (h : j < l.length) : l.getD j 0 ∈ l := by
  rw [List.getD_eq_getElem?_getD, List.getElem?_eq_getElem h]
  exact List.getElem_mem h
theorem far_snoc (D : List (List Int)) (a : Int) (l : List Int) (b : Int) : far D a (l ++ [b]) = max (far D a l) (G D a b) := by
  unfold far; rw [List.foldl_append]; rfl
theorem far_all (D : List (List Int)) (a : Int) : ∀ (l : List Int) (z : Int), (z ≤ l.foldl (fun m b => max m (G D a b)) z ∧ ∀ b ∈ l, G D a b ≤ l.foldl (fun m b => max m (G D a b)) z) ∧ ∀ c, z ≤ c → (∀ b ∈ l, G D a b ≤ c) → l.foldl (fun m b => max m (G D a b)) z ≤ c
  | [], z => ⟨⟨Int.le_refl _, fun _ h => nomatch h⟩, fun _ h _ => h⟩
  | b :: l, z => by
    obtain ⟨⟨h1, h2⟩, h3⟩ := far_all D a l (max z (G D a b))
    rw [List.foldl_cons]
    refine ⟨⟨by omega, fun x hx => ?_⟩, fun c hz hc => h3 c ?_ fun x hx => hc x (List.mem_cons_of_mem _ hx)⟩
    · rcases List.mem_cons.1 hx with rfl | hx
      · omega
      · exact h2 x hx
    · have := hc b (List.mem_cons_self ..); omega
theorem far_nn (D : List (List Int)) (a : Int) (l : List Int) : 0 ≤ far D a l := (far_all D a l 0).1.1
theorem far_ge {D : List (List Int)} {a b : Int} {l : List Int} (h : b ∈ l) : G D a b ≤ far D a l := (far_all D a l 0).1.2 b h
theorem far_le {D : List (List Int)} {a c : Int} {l : List Int} (hc : 0 ≤ c) (h : ∀ b ∈ l, G D a b ≤ c) : far D a l ≤ c := (far_all D a l 0).2 c hc h
theorem row_eq {D : List (List Int)} (hD : GD D) {a : Int} (ha : 1 ≤ a ∧ a ≤ 8) : ((D.getD (a - 1).toNat []).length : Int) = 8 := by
  have := hD.row (a - 1).toNat (by omega); omega
theorem len_eq {D : List (List Int)} (hD : GD D) : (D.length : Int) = 8 := by
  have := hD.len; omega
theorem between_eq (N : Nat) {D : List (List Int)} (hD : GD D) {a b : Int} (ha : 1 ≤ a ∧ a ≤ 8) (hb : 1 ≤ b ∧ b ≤ 8) : W_mid_between N (D, a, b) = some (G D a b) := by
  unfold W_mid_between
  simp only
  rw [wr_m (z := a - 1) (by omega) (by omega), wr_m (z := b - 1) (by omega) (by omega), row_eq hD ha, len_eq hD]
  rw [dF (show ¬ a < 1 by omega), cnd_f, dF (show ¬ 8 < a by omega), obind_s, cnd_f, dF (show ¬ b < 1 by omega), obind_s, cnd_f, dT (show 0 ≤ a - 1 by omega), dT (show a - 1 < 8 by omega), Bool.and_self, cnd_t, dF (show ¬ 8 < b by omega), cnd_f, cnd_t, dT (show 0 ≤ b - 1 by omega), dT (show b - 1 < 8 by omega), Bool.and_self, cnd_t]
  rfl
theorem Far_eq (N : Nat) {D : List (List Int)} (hD : GD D) {a : Int} (ha : 1 ≤ a ∧ a ≤ 8) {l : List Int} (hl : S8 l) (hlen : l.length ≤ 900) (hN : 1000 ≤ N) : W_mid_Far N (D, a, l) = some (far D a l) := by
  unfold W_mid_Far
  simp only
  refine loop_post (fun o => o = some (far D a l)) (fun v => 0 ≤ v.2 ∧ v.2 ≤ l.length ∧ v.1 = far D a (l.take v.2.toNat)) (fun v => l.length - v.2.toNat) (fun r => r = far D a l) ⟨by simp, by simp, rfl⟩ (by simp; omega) (fun r h => by rw [h]) ?_
  rintro ⟨m, i⟩ ⟨g1, g2, g3⟩
  simp only at g1 g2 g3 ⊢
  by_cases h : i < l.length
  · left
    have hb := hl _ (getD_mem l i.toNat (by omega))
    rw [dT h, cnd_t, dT g1, Bool.and_self, cnd_t, between_eq N hD ha hb, obind_s, wr_m (by omega) (by omega)]
    refine ⟨_, rfl, ⟨by omega, by omega, ?_⟩, by omega⟩
    simp only
    rw [show (i + 1).toNat = i.toNat + 1 by omega, take_snoc l _ (by omega), far_snoc, g3]
  · right
    rw [dF h, cnd_f]
    refine ⟨_, rfl, ?_⟩
    rw [g3, List.take_of_length_le (by omega)]
/-- The least of a list by a measure, then by itself. -/
def Least (F : Int → Int) (l : List Int) (w : Int) : Prop := w ∈ l ∧ ∀ x ∈ l, F w < F x ∨ (F w = F x ∧ w ≤ x)
theorem Least_one {F : Int → Int} {l : List Int} {v w : Int} (hv : Least F l v) (hw : Least F l w) : v = w := by
  have h1 := hv.2 w hw.1
  have h2 := hw.2 v hv.1
  omega
theorem Least_snoc {F : Int → Int} {l : List Int} {w b : Int} (h : Least F l w) : Least F (l ++ [b]) (if F b < F w ∨ F w = F b ∧ b < w then b else w) := by
  by_cases c : F b < F w ∨ F w = F b ∧ b < w
  · rw [if_pos c]
    refine ⟨by simp, fun x hx => ?_⟩
    rcases List.mem_append.1 hx with hx | hx
    · have := h.2 x hx; omega
    · rw [List.mem_singleton.1 hx]; omega
  · rw [if_neg c]
    refine ⟨List.mem_append.2 (.inl h.1), fun x hx => ?_⟩
    rcases List.mem_append.1 hx with hx | hx
    · exact h.2 x hx
    · rw [List.mem_singleton.1 hx]; omega
theorem Least_first {F : Int → Int} {b : Int} : Least F [b] b := ⟨by simp, fun x hx => by rw [List.mem_singleton.1 hx]; omega⟩
theorem better_l (N : Nat) (u : Unit) (a f : Int) : W_mid_better N (.inl u, a, f) = some (a, f) := rfl
theorem better_r (N : Nat) (w g a f : Int) : W_mid_better N (.inr (w, g), a, f) = some (if f < g ∨ g = f ∧ a < w then (a, f) else (w, g)) := by
  unfold W_mid_better
  simp only
  rw [selim_r]
  by_cases h : g < f
  · rw [dT h, cnd_t, if_neg (by omega)]
  rw [dF h, cnd_f]
  by_cases h2 : g = f
  · rw [dT h2, cnd_t]
    by_cases h3 : w < a
    · rw [dT h3, cnd_t, if_neg (by omega)]
    · rw [dF h3, cnd_f]
      by_cases h4 : a < w
      · rw [if_pos (.inr ⟨h2, h4⟩)]
      · rw [if_neg (by omega), show a = w by omega, h2]
  · rw [dF h2, cnd_f, if_pos (by omega)]
/-- What the search for the least has: nothing from an empty list, the least from another. -/
def Sofar (F : Int → Int) (l : List Int) (c : Unit ⊕ (Int × Int)) : Prop := (l = [] ∧ c = .inl ()) ∨ ∃ w, c = .inr (w, F w) ∧ Least F l w
theorem Sofar_snoc (N : Nat) {F : Int → Int} {l : List Int} {c : Unit ⊕ (Int × Int)} (h : Sofar F l c) (b : Int) : ∃ p : Int × Int, W_mid_better N (c, b, F b) = some p ∧ Sofar F (l ++ [b]) (.inr p) := by
  rcases h with ⟨rfl, rfl⟩ | ⟨w, rfl, hw⟩
  · exact ⟨_, better_l N () b (F b), .inr ⟨b, rfl, Least_first⟩⟩
  · rw [better_r]
    refine ⟨_, rfl, .inr ⟨_, ?_, Least_snoc (b := b) hw⟩⟩
    by_cases c : F b < F w ∨ F w = F b ∧ b < w
    · rw [if_pos c, if_pos c]
    · rw [if_neg c, if_neg c]
def Who (F : Int → Int) (l : List Int) (v : Int) : Prop := (l = [] ∧ v = 0) ∨ Least F l v
theorem Sofar_who (N : Nat) {F : Int → Int} {l : List Int} {c : Unit ⊕ (Int × Int)} (h : Sofar F l c) : ∃ v, W_mid_who N c = some v ∧ Who F l v := by
  rcases h with ⟨rfl, rfl⟩ | ⟨w, rfl, hw⟩
  · exact ⟨0, rfl, .inl ⟨rfl, rfl⟩⟩
  · exact ⟨w, rfl, .inr hw⟩
theorem Mid_spec (N : Nat) {D : List (List Int)} (hD : GD D) {l : List Int} (hl : S8 l) (hlen : l.length ≤ 900) (hN : 1000 ≤ N) : ∃ v, W_mid_Mid N (D, l) = some v ∧ Who (fun x => far D x l) l v := by
  unfold W_mid_Mid
  simp only
  refine loop_post (fun o => ∃ v, o = some v ∧ Who (fun x => far D x l) l v) (fun v => 0 ≤ v.2 ∧ v.2 ≤ l.length ∧ Sofar (fun x => far D x l) (l.take v.2.toNat) v.1) (fun v => l.length - v.2.toNat) (fun r => Sofar (fun x => far D x l) l r) ⟨by simp, by simp, .inl ⟨rfl, rfl⟩⟩ (by simp; omega) (fun r h => ?_) ?_
  · obtain ⟨v, e, h⟩ := Sofar_who N h
    rw [e]; exact ⟨v, rfl, h⟩
  rintro ⟨m, i⟩ ⟨g1, g2, g3⟩
  simp only at g1 g2 g3 ⊢
  by_cases h : i < l.length
  · left
    have hb := hl _ (getD_mem l i.toNat (by omega))
    obtain ⟨p, e, hp⟩ := Sofar_snoc N g3 (l.getD i.toNat 0)
    try simp only at e
    rw [dT h, cnd_t, dT g1, Bool.and_self, cnd_t, Far_eq N hD hb hl hlen hN, obind_s, e, obind_s, wr_m (by omega) (by omega)]
    refine ⟨_, rfl, ⟨by omega, by omega, ?_⟩, by omega⟩
    simp only
    rw [show (i + 1).toNat = i.toNat + 1 by omega, take_snoc l _ (by omega)]
    exact hp
  · right
    rw [dF h, cnd_f]
    refine ⟨_, rfl, ?_⟩
    rw [List.take_of_length_le (by omega)] at g3
    exact g3
theorem Some_spec (N : Nat) (t : Int) (l : List Int) (n : Int) (hU : U8 l) (hl : l.length ≤ 900) (h0 : 0 ≤ n) (h1 : n ≤ l.length) (ht : 0 ≤ t ∧ t ≤ 1) (hN : 1000 ≤ N) : ∃ L l' n', W_Picks_Some N (t, l, n) = some (L, l', n') ∧ S8 L ∧ L.length ≤ 8 ∧ (t = 1 → L ≠ []) := by
  unfold W_Picks_Some
  simp only
  refine loop_post (fun o => ∃ L l' n', o = some (L, l', n') ∧ S8 L ∧ L.length ≤ 8 ∧ (t = 1 → L ≠ [])) (fun v => (1 ≤ v.1 ∧ v.1 ≤ 9) ∧ v.2.1.1 = l ∧ (0 ≤ v.2.1.2 ∧ v.2.1.2 ≤ l.length) ∧ S8 v.2.2 ∧ v.2.2.length ≤ v.1 - 1 ∧ (v.1 = 9 → t = 1 → v.2.2 ≠ [])) (fun v => 9 - v.1.toNat) (fun r => S8 r.1 ∧ r.1.length ≤ 8 ∧ (t = 1 → r.1 ≠ [])) ⟨⟨by simp, by simp⟩, rfl, ⟨h0, h1⟩, (fun b hb => nomatch hb), by simp, by simp⟩ (by simp; omega) (fun r h => ?_) ?_
  · obtain ⟨a, b, c⟩ := r
    exact ⟨_, _, _, rfl, h⟩
  rintro ⟨i, ⟨l2, k⟩, L⟩ ⟨⟨g1, g2⟩, g3, ⟨g4, g5⟩, g6, g7, g8⟩
  simp only at g1 g2 g3 g4 g5 g6 g7 g8 ⊢
  subst g3
  have hap : S8 (L ++ [i]) ∨ ¬ i ≤ 8 := by
    by_cases h : i ≤ 8
    · refine .inl fun b hb => ?_
      rcases List.mem_append.1 hb with hb | hb
      · exact g6 b hb
      · rw [List.mem_singleton.1 hb]; omega
    · exact .inr h
  by_cases h : i ≤ 8
  · left
    have hap : S8 (L ++ [i]) := hap.resolve_right (by omega)
    obtain ⟨v, k', e, p, q, r, s⟩ := Num_spec N 2 l2 k hU (by omega) g4 g5 (by omega) (by omega)
    rw [dT h, cnd_t, e, obind_s]
    simp only
    rw [wr_m (z := i + 1) (by omega) (by omega)]
    have hc : (List.length L + List.length [i]) * 8 ≤ 140737488355328 := by rw [List.length_singleton]; omega
    by_cases hv : v = 0
    · rw [dT hv, cnd_t, dT hc, cnd_t]
      exact ⟨_, rfl, ⟨⟨by omega, by omega⟩, rfl, ⟨r, s⟩, hap, by simp only [List.length_append, List.length_singleton]; omega, fun _ _ => by simp⟩, by simp only; omega⟩
    rw [dF hv, cnd_f]
    rw [wr_m (by omega) (by omega), wr_m (by omega) (by omega)]
    by_cases hd : 8 - i < t - L.length
    · rw [dT hd, cnd_t, dT hc, cnd_t]
      exact ⟨_, rfl, ⟨⟨by omega, by omega⟩, rfl, ⟨r, s⟩, hap, by simp only [List.length_append, List.length_singleton]; omega, fun _ _ => by simp⟩, by simp only; omega⟩
    · rw [dF hd, cnd_f]
      refine ⟨_, rfl, ⟨⟨by omega, by omega⟩, rfl, ⟨r, s⟩, g6, by simp only; omega, fun h9 ht hL => ?_⟩, by simp only; omega⟩
      simp only at h9 hL
      rw [hL, List.length_nil] at hd
      omega
  · right
    rw [dF h, cnd_f]
    exact ⟨_, rfl, g6, by simp only; omega, g8 (by omega)⟩
theorem Near_spec (N : Nat) {D : List (List Int)} (hD : GD D) {a : Int} (ha : 1 ≤ a ∧ a ≤ 8) {l : List Int} (hl : S8 l) (hlen : l.length ≤ 900) (hN : 1000 ≤ N) : ∃ v, W_mid_Near N (D, a, l) = some v ∧ Who (fun x => G D a x) (l.filter fun x => decide (x ≠ a)) v := by
  unfold W_mid_Near
  simp only
  refine loop_post (fun o => ∃ v, o = some v ∧ Who (fun x => G D a x) (l.filter fun x => decide (x ≠ a)) v) (fun v => 0 ≤ v.2 ∧ v.2 ≤ l.length ∧ Sofar (fun x => G D a x) ((l.take v.2.toNat).filter fun x => decide (x ≠ a)) v.1) (fun v => l.length - v.2.toNat) (fun r => Sofar (fun x => G D a x) (l.filter fun x => decide (x ≠ a)) r) ⟨by simp, by simp, .inl ⟨rfl, rfl⟩⟩ (by simp; omega) (fun r h => ?_) ?_
  · obtain ⟨v, e, h⟩ := Sofar_who N h
    rw [e]; exact ⟨v, rfl, h⟩
  rintro ⟨m, i⟩ ⟨g1, g2, g3⟩
  simp only at g1 g2 g3 ⊢
  by_cases h : i < l.length
  · left
    have hb := hl _ (getD_mem l i.toNat (by omega))
    have ht : l.take (i + 1).toNat = l.take i.toNat ++ [l.getD i.toNat 0] := by rw [show (i + 1).toNat = i.toNat + 1 by omega, take_snoc l _ (by omega)]
    rw [dT h, cnd_t, dT g1, Bool.and_self, cnd_t, wr_m (z := i + 1) (by omega) (by omega)]
    generalize l.getD i.toNat 0 = b at *
    by_cases hba : b = a
    · refine ⟨(m, i + 1), cnd_F (fun c => c hba), ⟨by omega, by omega, ?_⟩, by simp only; omega⟩
      simp only
      rw [ht, List.filter_append, show List.filter (fun x => decide (x ≠ a)) [b] = [] by simp [hba], List.append_nil]
      exact g3
    · obtain ⟨p, e, hp⟩ := Sofar_snoc N g3 b
      refine ⟨(.inr p, i + 1), (cnd_T hba).trans ?_, ⟨by omega, by omega, ?_⟩, by simp only; omega⟩
      · rw [between_eq N hD ha hb, obind_s, e, obind_s]
      · simp only
        rw [ht, List.filter_append, show List.filter (fun x => decide (x ≠ a)) [b] = [b] by simp [hba]]
        exact hp
  · right
    rw [dF h, cnd_f]
    refine ⟨_, rfl, ?_⟩
    rw [List.take_of_length_le (by omega)] at g3
    exact g3
theorem Some_nodup (N : Nat) (t : Int) (l : List Int) (n : Int) (hU : U8 l) (hl : l.length ≤ 900) (h0 : 0 ≤ n) (h1 : n ≤ l.length) (ht : 0 ≤ t ∧ t ≤ 1) (hN : 1000 ≤ N) {L l' : List Int} {n' : Int} (he : W_Picks_Some N (t, l, n) = some (L, l', n')) : L.Nodup := by
  revert he
  unfold W_Picks_Some
  simp only
  refine loop_post (σ := Int × (List Int × Int) × List Int) (ρ := List Int × List Int × Int) (β := List Int × List Int × Int) (fun o => o = some (L, l', n') → L.Nodup) (fun v => (1 ≤ v.1 ∧ v.1 ≤ 9) ∧ v.2.1.1 = l ∧ (0 ≤ v.2.1.2 ∧ v.2.1.2 ≤ l.length) ∧ (∀ b ∈ v.2.2, b < v.1) ∧ v.2.2.length ≤ v.1 - 1 ∧ v.2.2.Nodup) (fun v => 9 - v.1.toNat) (fun r => r.1.Nodup) ⟨⟨by simp, by simp⟩, rfl, ⟨h0, h1⟩, (fun b hb => by cases hb), by simp, by simp⟩ (by simp; omega) (fun r h => ?_) ?_
  · obtain ⟨a, b, c⟩ := r
    intro e
    cases e
    exact h
  rintro ⟨i, ⟨l2, k⟩, L⟩ ⟨⟨g1, g2⟩, g3, ⟨g4, g5⟩, g6, g7, g8⟩
  simp only at g1 g2 g3 g4 g5 g6 g7 g8 ⊢
  subst g3
  by_cases h : i ≤ 8
  · left
    have hlt : ∀ b ∈ L ++ [i], b < i + 1 := fun b hb => by
      rcases List.mem_append.1 hb with hb | hb
      · have := g6 b hb; omega
      · rw [List.mem_singleton.1 hb]; omega
    have hap : (L ++ [i]).Nodup := by
      rw [List.nodup_append]
      refine ⟨g8, by simp, fun a ha b hb => ?_⟩
      rw [List.mem_singleton.1 hb]
      have := g6 a ha; omega
    obtain ⟨v, k', e, p, q, r, s⟩ := Num_spec N 2 l2 k hU (by omega) g4 g5 (by omega) (by omega)
    rw [dT h, cnd_t, e, obind_s]
    simp only
    rw [wr_m (z := i + 1) (by omega) (by omega)]
    have hc : (List.length L + List.length [i]) * 8 ≤ 140737488355328 := by rw [List.length_singleton]; omega
    by_cases hv : v = 0
    · rw [dT hv, cnd_t, dT hc, cnd_t]
      exact ⟨_, rfl, ⟨⟨by omega, by omega⟩, rfl, ⟨r, s⟩, hlt, by simp only [List.length_append, List.length_singleton]; omega, hap⟩, by simp only; omega⟩
    rw [dF hv, cnd_f]
    rw [wr_m (by omega) (by omega), wr_m (by omega) (by omega)]
    by_cases hd : 8 - i < t - L.length
    · rw [dT hd, cnd_t, dT hc, cnd_t]
      exact ⟨_, rfl, ⟨⟨by omega, by omega⟩, rfl, ⟨r, s⟩, hlt, by simp only [List.length_append, List.length_singleton]; omega, hap⟩, by simp only; omega⟩
    · rw [dF hd, cnd_f]
      exact ⟨_, rfl, ⟨⟨by omega, by omega⟩, rfl, ⟨r, s⟩, fun b hb => by have := g6 b hb; simp only; omega, by simp only; omega, g8⟩, by simp only; omega⟩
  · right
    rw [dF h, cnd_f]
    exact ⟨_, rfl, g8⟩
theorem all_same {l : List Int} {k : Int} (h0 : l ≠ []) (hn : l.Nodup) (h : ∀ b ∈ l, b = k) : l = [k] := by
  match l, h0 with
  | [a], _ => rw [h a (by simp)]
  | a :: b :: t, _ =>
    have h1 := h a (by simp)
    have h2 := h b (by simp)
    simp only [List.nodup_cons, List.mem_cons] at hn
    exact absurd (h1.trans h2.symm) (fun e => hn.1 (.inl e))
theorem cmpF {x y b c : Int} (h : x < y ∨ (x = y ∧ c ≤ b)) : cnd (decide (y < x)) (some true) (cnd (decide (x = y)) (some (decide (b < c))) (some false)) = some false := by
  rw [dF (show ¬ y < x by omega), cnd_f]
  by_cases e : x = y
  · rw [dT e, cnd_t, dF (show ¬ b < c by omega)]
  · rw [dF e, cnd_f]
theorem G_sym {D : List (List Int)} (hD : GD D) {a b : Int} (ha : 1 ≤ a ∧ a ≤ 8) (hb : 1 ≤ b ∧ b ≤ 8) : G D a b = G D b a := hD.sym _ _ (by omega) (by omega)
theorem law_aux (N : Nat) (hN : 1000 ≤ N) (x y : List Int) (z : Int) (hx : U8 x) (hy : U8 y) (hz : 0 ≤ z ∧ z ≤ 255) : W_law7_MidBest N (x, y, z) = some true := by
  unfold W_law7_MidBest
  simp only
  by_cases c1 : (30 : Int) < x.length
  · rw [dT c1, cnd_t]
  by_cases c2 : (8 : Int) < y.length
  · rw [dF c1, cnd_f, dT c2, cnd_t]
  rw [dF c1, cnd_f, dF c2, cnd_f]
  have hM : ∀ l, W_Made N l = some (l, 0) := fun l => rfl
  obtain ⟨D, n', e1, hD⟩ := Dist_spec N x 0 hx (by omega) (by omega) (by omega)
  obtain ⟨L, l', k', e2, hL, hL8, hL0⟩ := Some_spec N 1 y 0 hy (by omega) (by omega) (by omega) (by omega) hN
  have hL0 := hL0 rfl
  have hLn := Some_nodup N 1 y 0 hy (by omega) (by omega) (by omega) (by omega) hN e2
  have hk1 : 0 ≤ Int.tmod z 8 := Int.tmod_nonneg _ hz.1
  have hk2 : Int.tmod z 8 < 8 := Int.tmod_lt_of_pos _ (by omega)
  rw [hM, obind_s, e1, obind_s, hM, obind_s, e2, obind_s]
  simp only
  rw [wr_m (z := Int.tmod z 8) (by omega) (by omega), wr_m (z := 1 + Int.tmod z 8) (by omega) (by omega)]
  generalize hk : 1 + Int.tmod z 8 = k
  have hk : 1 ≤ k ∧ k ≤ 8 := by omega
  obtain ⟨c, e3, hc⟩ := Mid_spec N hD hL (by omega) hN
  obtain ⟨n, e4, hn⟩ := Near_spec N hD hk hL (by omega) hN
  have hc : Least (fun x => far D x L) L c := by
    rcases hc with ⟨h, _⟩ | h
    · exact absurd h hL0
    · exact h
  have hc8 := hL c hc.1
  have hfm : ∀ x, (x ∈ L ∧ x ≠ k) ↔ x ∈ L.filter fun x => decide (x ≠ k) := fun x => by rw [List.mem_filter, decide_eq_true_eq]
  generalize (L.filter fun x => decide (x ≠ k)) = L' at *
  have hnk : n ≠ k := by
    rcases hn with ⟨_, h⟩ | h
    · omega
    · exact ((hfm n).2 h.1).2
  rw [e3, obind_s, e4, obind_s, dF (show ¬ c < 1 by omega), cnd_f, dF (show ¬ 8 < c by omega), cnd_f]
  clear e1 e2 e3 e4
  refine loop_post (σ := Bool × Int) (ρ := Bool ⊕ Bool) (β := Bool) (fun o => o = some true) (fun v => (0 ≤ v.2 ∧ v.2 ≤ L.length) ∧ v.1 = decide (c ∈ L.take v.2.toNat)) (fun v => L.length - v.2.toNat) (fun r => r = .inl true) ⟨⟨by simp, by simp⟩, by simp⟩ (by simp; omega) (fun r h => ?_) ?_
  · subst h
    rw [selim_l, cnd_t, obind_s]
    refine (cnd_T hnk).trans ?_
    by_cases h0 : n = 0
    · refine (cnd_F (fun q => q h0)).trans ?_
      have hl : L = [k] := all_same hL0 hLn fun b hb => by
        by_cases hbk : b = k
        · exact hbk
        rcases hn with ⟨h, _⟩ | h
        · have := (hfm b).1 ⟨hb, hbk⟩
          rw [h] at this
          cases this
        · have := hL n ((hfm n).2 h.1).1
          omega
      rw [hl]
      show cnd (decide ((1 : Int) = 1)) (cnd (decide ((0 : Int) ≤ 0) && decide ((0 : Int) < 1)) (some (decide (k = k))) none) (some false) = some true
      rw [dT rfl, dT (Int.le_refl 0), dT (show (0 : Int) < 1 by omega), Bool.and_self, cnd_t, cnd_t, dT rfl]
    · exact cnd_T h0
  · rintro ⟨q, i⟩ ⟨⟨g1, g2⟩, g3⟩
    simp only at g1 g2 g3 ⊢
    by_cases h : i < L.length
    · left
      have hbm := getD_mem L i.toNat (by omega)
      have ht : L.take (i + 1).toNat = L.take i.toNat ++ [L.getD i.toNat 0] := by rw [show (i + 1).toNat = i.toNat + 1 by omega, take_snoc L _ (by omega)]
      rw [dT h, cnd_t, dT g1, Bool.and_self, wr_m (z := i + 1) (by omega) (by omega)]
      generalize L.getD i.toNat 0 = b at *
      have hb := hL _ hbm
      have hcmp := hc.2 b hbm
      simp only at hcmp
      have h1 : ¬ far D c L < G D b c := by
        have := far_ge (D := D) (a := c) hbm
        rw [G_sym hD hb hc8]; omega
      have hl : b = k ∨ Least (fun x => G D k x) L' n := by
        by_cases hbk : b = k
        · exact .inl hbk
        rcases hn with ⟨h, _⟩ | h
        · have := (hfm b).1 ⟨hbm, hbk⟩
          rw [h] at this
          cases this
        · exact .inr h
      cases q
      case' false =>
        rw [cnd_f]
        refine ⟨(decide (b = c), i + 1), ?_, ⟨⟨by simp only; omega, by simp only; omega⟩, ?_⟩, by simp only; omega⟩
        rotate_left
        · simp only
          rw [ht]
          apply decide_eq_decide.2
          rw [List.mem_append, List.mem_singleton]
          exact ⟨fun e => .inr e.symm, fun e => e.elim (fun e => absurd e (of_decide_eq_false g3.symm)) fun e => e.symm⟩
      case' true =>
        rw [cnd_t]
        refine ⟨(true, i + 1), ?_, ⟨⟨by simp only; omega, by simp only; omega⟩, ?_⟩, by simp only; omega⟩
        rotate_left
        · simp only
          rw [ht, dT (List.mem_append.2 (.inl (of_decide_eq_true g3.symm)))]
      all_goals
        try simp only [cnd_t]
        rw [Far_eq N hD hc8 hL (by omega) hN, obind_s]
        try simp only [cnd_t]
        rw [Far_eq N hD hb hL (by omega) hN, obind_s]
        try simp only [cnd_t]
        rw [cmpF hcmp, obind_s, cnd_f]
        try simp only [cnd_t]
        rw [wr_m (z := b - 1) (by omega) (by omega), wr_m (z := c - 1) (by omega) (by omega), row_eq hD hb, len_eq hD, dT (show 0 ≤ b - 1 by omega), dT (show b - 1 < 8 by omega), Bool.and_self, cnd_t, dT (show 0 ≤ c - 1 by omega), dT (show c - 1 < 8 by omega), Bool.and_self, cnd_t]
        refine (cnd_F h1).trans ?_
        try simp only [cnd_t]
        by_cases hbk : b = k
        · exact cnd_F (fun c => c hbk)
        refine (cnd_T hbk).trans ?_
        have hl := hl.resolve_left hbk
        have hn8 := hL n ((hfm n).2 hl.1).1
        have hm := hl.2 b ((hfm b).1 ⟨hbm, hbk⟩)
        simp only at hm
        rw [dF (show ¬ n < 1 by omega), cnd_f, dF (show ¬ 8 < n by omega), cnd_f]
        rw [wr_m (z := k - 1) (by omega) (by omega), wr_m (z := n - 1) (by omega) (by omega), row_eq hD hk, dT (show 0 ≤ k - 1 by omega), dT (show k - 1 < 8 by omega), dT (show b - 1 < 8 by omega), dT (show 0 ≤ n - 1 by omega), dT (show n - 1 < 8 by omega), Bool.and_self]
        try simp only [cnd_t]
        refine (cnd_F (show ¬ G D k b < G D k n by omega)).trans ?_
        try simp only [cnd_t]
        by_cases he : G D k n = G D k b
        · refine (cnd_T he).trans ?_
          try simp only [cnd_t]
          rw [dF (show ¬ b < n by omega), cnd_f]
        · exact cnd_F he
    · right
      rw [dF h, cnd_f]
      refine ⟨_, rfl, ?_⟩
      rw [List.take_of_length_le (by omega)] at g3
      rw [g3, dT hc.1]
def NN : Nat := 1000
theorem law_true (y0 : List Int) (y1 : List Int) (y2 : Int) (h0 : Twf (.list (.int .u8)) y0) (h1 : Twf (.list (.int .u8)) y1) (h2 : Twf (.int .u8) y2) : W_law7_MidBest NN (y0, y1, y2) = some true :=
  law_aux NN (Nat.le_refl _) y0 y1 y2 h0.2 h1.2 h2

theorem spec (y0 : List Int) (y1 : List Int) (y2 : Int) (h0 : Twf (.list (.int .u8)) y0) (h1 : Twf (.list (.int .u8)) y1) (h2 : Twf (.int .u8) y2) : Spec2 P0 5 [valW (.list (.int .u8)) y0, valW (.list (.int .u8)) y1, valW (.int .u8) y2] [] (.bs true) [] [] := (con_law7_MidBest_ok NN).2 (y0, y1, y2) true (law_true y0 y1 y2 h0 h1 h2)
theorem lifted (os : Os) (started : os.Started) (H : Type) (enc : TypeId × Value → H) :
    ReturnsInHanded {} Try.checked os 5 .any (Rows.midBestSpec.pre6 enc Try.prog Try.f5 Rows.midBestRow.domain false) (Rows.midBestSpec.post enc Try.prog Try.f5 false true false false) := by
  refine returnsInHanded_of_change (C := Try.checked) own started (by kernel_rfl) Try.func5
    (ChangeSpec.witness6 (enc := enc) (C := Try.checked) false ⟨#[], #[.slice none 0 0, .slice none 0 0, .int .u8 0], []⟩ 8 (by kernel_rfl) (by kernel_rfl) (by kernel_rfl) (by kernel_rfl)) ?_
  intro W base args ds gs before hval0 hW hcnd _
  have hval : ∀ (j : Nat) t v, Try.f5.params[j]? = some t → args[j]? = some v → Value.okWide Try.prog W .any base t v := hval0
  have hW' := hW
  obtain ⟨p, q, hA0, hV, rfl, hfz, hnd⟩ := hW
  have hA : DataW.TrodAll enc Try.prog W 0 (fun _ => true) true Try.f5.params.toList args.toList ds p := hA0
  rw [Try.params5] at hA hval
  obtain ⟨v0, vs0, d0, ds0, p0, q0, hargs, rfl, rfl, h0, r0⟩ := trodAll_cons hA
  obtain ⟨v1, vs1, d1, ds1, p1, q1, rfl, rfl, rfl, h1, r1⟩ := trodAll_cons r0
  obtain ⟨v2, vs2, d2, ds2, p2, q2, rfl, rfl, rfl, h2, r2⟩ := trodAll_cons r1
  obtain ⟨rfl, rfl, rfl⟩ := trodAll_nil r2
  obtain rfl : args = #[v0, v1, v2] := by cases args; simp_all
  obtain ⟨rfl, rfl⟩ := trodVars_none hV
  have k0 := h0
  have lt0 : ∀ x ∈ p0, x.block < W.heap.size := by obtain ⟨m, hm⟩ := k0; exact DataW.trod_lt m _ _ _ hm
  obtain ⟨y0, rp0, wf0⟩ := arg_ok (n := 12) (ty := (.list (.int .u8))) (by kernel_rfl) (hval 0 _ v0 rfl rfl) h0
  have k1 := h1
  have lt1 : ∀ x ∈ p1, x.block < W.heap.size := by obtain ⟨m, hm⟩ := k1; exact DataW.trod_lt m _ _ _ hm
  obtain ⟨y1, rp1, wf1⟩ := arg_ok (n := 12) (ty := (.list (.int .u8))) (by kernel_rfl) (hval 1 _ v1 rfl rfl) h1
  have k2 := h2
  have lt2 : ∀ x ∈ p2, x.block < W.heap.size := by obtain ⟨m, hm⟩ := k2; exact DataW.trod_lt m _ _ _ hm
  obtain ⟨y2, rp2, wf2⟩ := arg_ok (n := 12) (ty := (.int .u8)) (by kernel_rfl) (hval 2 _ v2 rfl rfl) h2
  clear hA0 hval0
  refine (law_of2 (spec y0 y1 y2 wf0 wf1 wf2) W #[v0, v1, v2] (.cons rp0 (.cons rp1 (.cons rp2 .nil)))).mono fun e W' ⟨he, bel⟩ => ?_
  subst he
  exact ⟨_, rfl, _, _, _, [], _, [], hW', trodAll_mk1 (shut_bool Try.underlying4 _), (trodAll_cons_mk (Below.trod laidOut (by kernel_rfl) (of_decide_eq_true (by kernel_rfl)) k0 bel lt0) (trodAll_cons_mk (Below.trod laidOut (by kernel_rfl) (of_decide_eq_true (by kernel_rfl)) k1 bel lt1) (trodAll_cons_mk (Below.trod laidOut (by kernel_rfl) (of_decide_eq_true (by kernel_rfl)) k2 bel lt2) trodAll_mk0))), rfl, bel.frame _, fun h => by cases h⟩

theorem over : Rows.midBestRow.holds Try.pinned (OpenSpec.ofChange Rows.midBestSpec) :=
  OpenClaim.holds_of_wide 5 Try.f5 rfl rfl rfl rfl rfl rfl rfl ⟨rfl, rfl, rfl, rfl, rfl⟩ rfl rfl rfl rfl rfl (by kernel_rfl) Try.func5 (by kernel_rfl)
    (of_decide_eq_true (by kernel_rfl)) (by unfold Func.isWrapper; first | (rw [if_pos (by decide +kernel)]; kernel_rfl) | (rw [if_neg (by decide +kernel)]; exact ⟨rfl, rfl⟩))
    (fun os started H enc _ => lifted os started H enc)

theorem holds : Rows.MidBestSaid := over
end Go.Proofs.Ytnajkooelhmmeaa.midBestX
