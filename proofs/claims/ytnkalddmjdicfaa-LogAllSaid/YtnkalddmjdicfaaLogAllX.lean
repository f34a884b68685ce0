/- LogAll: for all arguments the call returns true. The law is brought to a function of Lean's own (W_..) by the machine of the texts beside it, and that is reckoned; no condition. -/
import Derived.Test.YtnkalddmjdicfaaExtL
import Derived.Test.YtnkalddmjdicfaaRows
import Derived.WalkKit
import Derived.ProofKit
import Derived.OpenShut
import Derived.ShutString
import Derived.ChangeOld
import Derived.Below
namespace Go.Proofs.Ytnkalddmjdicfaa.logAllX
open Go.Abs Go.RowKit Go.ChangeShapes Go.WideShapes Go.ChangeAt
set_option maxRecDepth 100000
set_option linter.unusedVariables false
set_option linter.unusedSimpArgs false
noncomputable abbrev P0 : Program := Try.prog
noncomputable def bodyOf (fn : Func) : Code := fn.body.getD .skip
def L0 : Lend := fun f => aget [] [] f
def kpL (l : List Bool) : Nat → Bool := fun j => l.getD j true
theorem own : ownKnob Try.prog.godebug = none := by kernel_rfl
theorem laidOut : laidOutB Try.prog = true := by kernel_rfl
theorem mixed : P0.follows .mixedOrders = true := by decide +kernel
theorem progOk_ : progOk P0 = true := by decide +kernel
noncomputable def con_law16_begun (N : Nat) : Con := ⟨48, [], [], Unit, fun _ => some (), fun _ => (.bs true, [], [])⟩
theorem con_law16_begun_ok (N : Nat) : Con.ok P0 (con_law16_begun N) := closed_con2 (nonJ_ok _) mixed progOk_ (noneΞ_ok2 _) (inl := [73]) (breath := 100000) (n := 60) (by kernel_rfl)
def as_ref13_Tell : List AS := [.val (.list (.agg (.pair (.int .i64) (.pair (.int .i64) (.pair (.int .i64) (.pair .str (.int .i64))))))), .val (.int .i64), .val .str]
def bs_ref13_Tell : List BS := []
def pout_ref13_Tell : Pat := ⟨[(6, .val (.list (.agg (.pair (.int .i64) (.pair (.int .i64) (.pair (.int .i64) (.pair .str (.int .i64))))))))], []⟩
noncomputable def G_ref13_Tell  (N : Nat) : OrcT := orcOf []
noncomputable def F_ref13_Tell  (N : Nat) (x : (List (Int × Int × Int × (List UInt8) × Int)) × Int × List UInt8) : Option (List (Int × Int × Int × (List UInt8) × Int)) :=
  (evT (G_ref13_Tell  N) L0 P0 []
    [] N 400 (bodyOf Try.f59) ⟨16, slots 0 (argsOf as_ref13_Tell bs_ref13_Tell x), tabU (lbOf as_ref13_Tell bs_ref13_Tell x) [], []⟩).elim (kRet 16 pout_ref13_Tell (kpL []) (lbOf as_ref13_Tell bs_ref13_Tell x))
def out_ref13_Tell (y : List (Int × Int × Int × (List UInt8) × Int)) : V × List OK × List OK := (valW (.list (.agg (.pair (.int .i64) (.pair (.int .i64) (.pair (.int .i64) (.pair .str (.int .i64))))))) y, [], [])
noncomputable def V_ref13_Tell  (N : Nat) (x : (List (Int × Int × Int × (List UInt8) × Int)) × Int × List UInt8) : Option (List (Int × Int × Int × (List UInt8) × Int)) :=
  cnd (decide (List.length (Prod.fst x) * (48 : Nat) ≤ (140737488355328 : Nat)))
    (cnd
      (decide
        ((List.length (Prod.fst x) +
              List.length [((1 : Int), Prod.fst (Prod.snd x), Prod.fst (Prod.snd x), Prod.snd (Prod.snd x), (0 : Int))]) *
            (48 : Nat) ≤
          (140737488355328 : Nat)))
      (some (Prod.fst x ++ [((1 : Int), Prod.fst (Prod.snd x), Prod.fst (Prod.snd x), Prod.snd (Prod.snd x), (0 : Int))]))
      none)
    none
theorem FV_ref13_Tell_eq  (N : Nat) (x : (List (Int × Int × Int × (List UInt8) × Int)) × Int × List UInt8) : F_ref13_Tell  N x = V_ref13_Tell  N x := by kernel_rfl
noncomputable def W_ref13_Tell (N : Nat) (x : (List (Int × Int × Int × (List UInt8) × Int)) × Int × List UInt8) : Option (List (Int × Int × Int × (List UInt8) × Int)) :=
  cnd (decide (List.length (Prod.fst x) * (48 : Nat) ≤ (140737488355328 : Nat)))
    (cnd
      (decide
        ((List.length (Prod.fst x) +
              List.length [((1 : Int), Prod.fst (Prod.snd x), Prod.fst (Prod.snd x), Prod.snd (Prod.snd x), (0 : Int))]) *
            (48 : Nat) ≤
          (140737488355328 : Nat)))
      (some (Prod.fst x ++ [((1 : Int), Prod.fst (Prod.snd x), Prod.fst (Prod.snd x), Prod.snd (Prod.snd x), (0 : Int))]))
      none)
    none
theorem F_ref13_Tell_eq (N : Nat) (x : (List (Int × Int × Int × (List UInt8) × Int)) × Int × List UInt8) : F_ref13_Tell  N x = W_ref13_Tell N x := (FV_ref13_Tell_eq  N x).trans (by kernel_rfl)
noncomputable def conw_ref13_Tell (w : (List (Int × Int × Int × (List UInt8) × Int)) × Int × List UInt8 → Option (List (Int × Int × Int × (List UInt8) × Int))) : Con := ⟨59, as_ref13_Tell, bs_ref13_Tell, List (Int × Int × Int × (List UInt8) × Int), w, out_ref13_Tell⟩
noncomputable def con_ref13_Tell (N : Nat) : Con := conw_ref13_Tell (W_ref13_Tell N)
theorem R_ref13_Tell_eq (x : (List (Int × Int × Int × (List UInt8) × Int)) × Int × List UInt8) (y : List (Int × Int × Int × (List UInt8) × Int)) : retOf2 P0 Try.f59 (kpL []) (lbOf as_ref13_Tell bs_ref13_Tell x) (patS ⟨16, [], [], []⟩ pout_ref13_Tell y) = some (out_ref13_Tell y) := by kernel_rfl
theorem con_ref13_Tell_ok (N : Nat) : Con.ok P0 (con_ref13_Tell N) := ⟨⟨Try.f59, Try.func59, by kernel_rfl, by kernel_rfl⟩, fun (x : (List (Int × Int × Int × (List UInt8) × Int)) × Int × List UInt8) (r : List (Int × Int × Int × (List UInt8) × Int)) (hr : W_ref13_Tell N x = some r) =>
  spec2_evT (Γ := G_ref13_Tell N) (Λ := L0) (pout := pout_ref13_Tell) (kp := kpL []) mixed (orcOf_ok [] (by simp)) Try.func59 (c := bodyOf Try.f59) (by kernel_rfl) (by kernel_rfl) (of_decide_eq_true (by kernel_rfl)) ((F_ref13_Tell_eq N x).trans hr) (R_ref13_Tell_eq x r)⟩
def as_ref13_Skip : List AS := [.val (.list (.agg (.pair (.int .i64) (.pair (.int .i64) (.pair (.int .i64) (.pair .str (.int .i64))))))), .val (.int .i64), .val (.int .i64), .val (.int .i64)]
def bs_ref13_Skip : List BS := []
def pout_ref13_Skip : Pat := ⟨[(8, .val (.list (.agg (.pair (.int .i64) (.pair (.int .i64) (.pair (.int .i64) (.pair .str (.int .i64))))))))], []⟩
noncomputable def G_ref13_Skip  (N : Nat) : OrcT := orcOf []
noncomputable def F_ref13_Skip  (N : Nat) (x : (List (Int × Int × Int × (List UInt8) × Int)) × Int × Int × Int) : Option (List (Int × Int × Int × (List UInt8) × Int)) :=
  (evT (G_ref13_Skip  N) L0 P0 []
    [] N 400 (bodyOf Try.f61) ⟨18, slots 0 (argsOf as_ref13_Skip bs_ref13_Skip x), tabU (lbOf as_ref13_Skip bs_ref13_Skip x) [], []⟩).elim (kRet 18 pout_ref13_Skip (kpL []) (lbOf as_ref13_Skip bs_ref13_Skip x))
def out_ref13_Skip (y : List (Int × Int × Int × (List UInt8) × Int)) : V × List OK × List OK := (valW (.list (.agg (.pair (.int .i64) (.pair (.int .i64) (.pair (.int .i64) (.pair .str (.int .i64))))))) y, [], [])
noncomputable def V_ref13_Skip  (N : Nat) (x : (List (Int × Int × Int × (List UInt8) × Int)) × Int × Int × Int) : Option (List (Int × Int × Int × (List UInt8) × Int)) :=
  cnd (decide (List.length (Prod.fst x) * (48 : Nat) ≤ (140737488355328 : Nat)))
    (cnd
      (decide
        ((List.length (Prod.fst x) +
              (1 : Nat)) *
            (48 : Nat) ≤
          (140737488355328 : Nat)))
      (some
        (Prod.fst x ++
          [((2 : Int), Prod.fst (Prod.snd x), Prod.fst (Prod.snd (Prod.snd x)), [], Prod.snd (Prod.snd (Prod.snd x)))]))
      none)
    none
theorem FV_ref13_Skip_eq  (N : Nat) (x : (List (Int × Int × Int × (List UInt8) × Int)) × Int × Int × Int) : F_ref13_Skip  N x = V_ref13_Skip  N x := by kernel_rfl
noncomputable def W_ref13_Skip (N : Nat) (x : (List (Int × Int × Int × (List UInt8) × Int)) × Int × Int × Int) : Option (List (Int × Int × Int × (List UInt8) × Int)) :=
  cnd (decide (List.length (Prod.fst x) * (48 : Nat) ≤ (140737488355328 : Nat)))
    (cnd
      (decide
        ((List.length (Prod.fst x) +
              (1 : Nat)) *
            (48 : Nat) ≤
          (140737488355328 : Nat)))
      (some
        (Prod.fst x ++
          [((2 : Int), Prod.fst (Prod.snd x), Prod.fst (Prod.snd (Prod.snd x)), [], Prod.snd (Prod.snd (Prod.snd x)))]))
      none)
    none
theorem F_ref13_Skip_eq (N : Nat) (x : (List (Int × Int × Int × (List UInt8) × Int)) × Int × Int × Int) : F_ref13_Skip  N x = W_ref13_Skip N x := (FV_ref13_Skip_eq  N x).trans (by kernel_rfl)
noncomputable def conw_ref13_Skip (w : (List (Int × Int × Int × (List UInt8) × Int)) × Int × Int × Int → Option (List (Int × Int × Int × (List UInt8) × Int))) : Con := ⟨61, as_ref13_Skip, bs_ref13_Skip, List (Int × Int × Int × (List UInt8) × Int), w, out_ref13_Skip⟩
noncomputable def con_ref13_Skip (N : Nat) : Con := conw_ref13_Skip (W_ref13_Skip N)
theorem R_ref13_Skip_eq (x : (List (Int × Int × Int × (List UInt8) × Int)) × Int × Int × Int) (y : List (Int × Int × Int × (List UInt8) × Int)) : retOf2 P0 Try.f61 (kpL []) (lbOf as_ref13_Skip bs_ref13_Skip x) (patS ⟨18, [], [], []⟩ pout_ref13_Skip y) = some (out_ref13_Skip y) := by kernel_rfl
theorem con_ref13_Skip_ok (N : Nat) : Con.ok P0 (con_ref13_Skip N) := ⟨⟨Try.f61, Try.func61, by kernel_rfl, by kernel_rfl⟩, fun (x : (List (Int × Int × Int × (List UInt8) × Int)) × Int × Int × Int) (r : List (Int × Int × Int × (List UInt8) × Int)) (hr : W_ref13_Skip N x = some r) =>
  spec2_evT (Γ := G_ref13_Skip N) (Λ := L0) (pout := pout_ref13_Skip) (kp := kpL []) mixed (orcOf_ok [] (by simp)) Try.func61 (c := bodyOf Try.f61) (by kernel_rfl) (by kernel_rfl) (of_decide_eq_true (by kernel_rfl)) ((F_ref13_Skip_eq N x).trans hr) (R_ref13_Skip_eq x r)⟩
def as_law16_Logs : List AS := [.val (.list (.agg (.pair (.int .u8) (.int .u8)))), .val (.int .i64)]
def bs_law16_Logs : List BS := []
def pout_law16_Logs : Pat := ⟨[(4, .val (.list (.agg (.pair (.int .i64) (.pair (.int .i64) (.pair (.int .i64) (.pair .str (.int .i64))))))))], []⟩
noncomputable def G_law16_Logs (w_ref13_Tell : (List (Int × Int × Int × (List UInt8) × Int)) × Int × List UInt8 → Option (List (Int × Int × Int × (List UInt8) × Int))) (w_ref13_Skip : (List (Int × Int × Int × (List UInt8) × Int)) × Int × Int × Int → Option (List (Int × Int × Int × (List UInt8) × Int))) (N : Nat) : OrcT := orcOf [conw_ref13_Tell w_ref13_Tell, conw_ref13_Skip w_ref13_Skip]
noncomputable def F_law16_Logs (w_ref13_Tell : (List (Int × Int × Int × (List UInt8) × Int)) × Int × List UInt8 → Option (List (Int × Int × Int × (List UInt8) × Int))) (w_ref13_Skip : (List (Int × Int × Int × (List UInt8) × Int)) × Int × Int × Int → Option (List (Int × Int × Int × (List UInt8) × Int))) (N : Nat) (x : (List (Int × Int)) × Int) : Option (List (Int × Int × Int × (List UInt8) × Int)) :=
  (evT (G_law16_Logs w_ref13_Tell w_ref13_Skip N) L0 P0 [(4, .loop [] ⟨[(5, .val (.list (.agg (.pair (.int .i64) (.pair (.int .i64) (.pair (.int .i64) (.pair .str (.int .i64)))))))), (6, .val (.int .i64)), (7, .val (.int .i64))], []⟩ [(.exit 0, ⟨[(5, .val (.list (.agg (.pair (.int .i64) (.pair (.int .i64) (.pair (.int .i64) (.pair .str (.int .i64))))))))], []⟩)])]
    [] N 400 (bodyOf Try.f49) ⟨62, slots 0 (argsOf as_law16_Logs bs_law16_Logs x), tabU (lbOf as_law16_Logs bs_law16_Logs x) [], []⟩).elim (kRet 62 pout_law16_Logs (kpL []) (lbOf as_law16_Logs bs_law16_Logs x))
def out_law16_Logs (y : List (Int × Int × Int × (List UInt8) × Int)) : V × List OK × List OK := (valW (.list (.agg (.pair (.int .i64) (.pair (.int .i64) (.pair (.int .i64) (.pair .str (.int .i64))))))) y, [], [])
noncomputable def V_law16_Logs (w_ref13_Tell : (List (Int × Int × Int × (List UInt8) × Int)) × Int × List UInt8 → Option (List (Int × Int × Int × (List UInt8) × Int))) (w_ref13_Skip : (List (Int × Int × Int × (List UInt8) × Int)) × Int × Int × Int → Option (List (Int × Int × Int × (List UInt8) × Int))) (N : Nat) (x : (List (Int × Int)) × Int) : Option (List (Int × Int × Int × (List UInt8) × Int)) :=
  obind
    (loopN N
      (fun (v : List (Int × Int × Int × List UInt8 × Int) × Int × Int) =>
        cnd (decide (Prod.snd (Prod.snd v) < (↑(List.length (Prod.fst x)) : Int)))
          (cnd
            (decide ((0 : Int) ≤ Prod.snd (Prod.snd v)) && decide (Prod.snd (Prod.snd v) < (↑(List.length (Prod.fst x)) : Int)))
            (cnd
              (decide
                ((0 : Int) <
                  Int.tmod (Prod.fst (List.getD (Prod.fst x) (Int.toNat (Prod.snd (Prod.snd v))) ((0 : Int), (0 : Int))))
                    (3 : Int)))
              (cnd
                (decide ((0 : Int) ≤ Prod.snd (Prod.snd v)) &&
                  decide (Prod.snd (Prod.snd v) < (↑(List.length (Prod.fst x)) : Int)))
                (cnd
                  (List.all
                    [wr IntKind.u8
                        ((97 : Int) +
                          Int.tmod
                            (Prod.snd (List.getD (Prod.fst x) (Int.toNat (Prod.snd (Prod.snd v))) ((0 : Int), (0 : Int))))
                            (26 : Int))]
                    fun (n : Int) => decide ((0 : Int) ≤ n) && decide (n < (256 : Int)))
                  (obind
                    (w_ref13_Tell
                      (Prod.fst v, Prod.fst (Prod.snd v),
                        bytesI
                          [wr IntKind.u8
                              ((97 : Int) +
                                Int.tmod
                                  (Prod.snd
                                    (List.getD (Prod.fst x) (Int.toNat (Prod.snd (Prod.snd v))) ((0 : Int), (0 : Int))))
                                  (26 : Int))]))
                    fun (b : List (Int × Int × Int × List UInt8 × Int)) =>
                    some
                      (Sum.inl
                        (b, wr IntKind.i64 (Prod.fst (Prod.snd v) + (1 : Int)),
                          wr IntKind.i64 (Prod.snd (Prod.snd v) + (1 : Int)))))
                  none)
                none)
              (cnd
                (decide ((0 : Int) ≤ Prod.snd (Prod.snd v)) &&
                  decide (Prod.snd (Prod.snd v) < (↑(List.length (Prod.fst x)) : Int)))
                (cnd
                  (decide ((0 : Int) ≤ Prod.snd (Prod.snd v)) &&
                    decide (Prod.snd (Prod.snd v) < (↑(List.length (Prod.fst x)) : Int)))
                  (obind
                    (w_ref13_Skip
                      (Prod.fst v, Prod.fst (Prod.snd v),
                        wr IntKind.i64
                          (Prod.fst (Prod.snd v) +
                            wr IntKind.i64
                              (Int.tmod
                                (Prod.snd
                                  (List.getD (Prod.fst x) (Int.toNat (Prod.snd (Prod.snd v))) ((0 : Int), (0 : Int))))
                                (4 : Int))),
                        wr IntKind.i64
                          ((1 : Int) +
                            wr IntKind.i64
                              (Int.tmod
                                (wr IntKind.u8
                                  (Int.tdiv
                                    (Prod.snd
                                      (List.getD (Prod.fst x) (Int.toNat (Prod.snd (Prod.snd v))) ((0 : Int), (0 : Int))))
                                    (4 : Int)))
                                (2 : Int)))))
                    fun (b : List (Int × Int × Int × List UInt8 × Int)) =>
                    some
                      (Sum.inl
                        (b,
                          wr IntKind.i64
                            (wr IntKind.i64
                                (Prod.fst (Prod.snd v) +
                                  wr IntKind.i64
                                    (Int.tmod
                                      (Prod.snd
                                        (List.getD (Prod.fst x) (Int.toNat (Prod.snd (Prod.snd v)))
                                          ((0 : Int), (0 : Int))))
                                      (4 : Int))) +
                              (1 : Int)),
                          wr IntKind.i64 (Prod.snd (Prod.snd v) + (1 : Int)))))
                  none)
                none))
            none)
          (some (Sum.inr (Prod.fst v))))
      ([], Prod.snd x, (0 : Int)))
    fun (b : List (Int × Int × Int × List UInt8 × Int)) => some b
theorem FV_law16_Logs_eq (w_ref13_Tell : (List (Int × Int × Int × (List UInt8) × Int)) × Int × List UInt8 → Option (List (Int × Int × Int × (List UInt8) × Int))) (w_ref13_Skip : (List (Int × Int × Int × (List UInt8) × Int)) × Int × Int × Int → Option (List (Int × Int × Int × (List UInt8) × Int))) (N : Nat) (x : (List (Int × Int)) × Int) : F_law16_Logs w_ref13_Tell w_ref13_Skip N x = V_law16_Logs w_ref13_Tell w_ref13_Skip N x := by kernel_rfl
noncomputable def W_law16_Logs (N : Nat) (x : (List (Int × Int)) × Int) : Option (List (Int × Int × Int × (List UInt8) × Int)) :=
  obind
    (loopN N
      (fun (v : List (Int × Int × Int × List UInt8 × Int) × Int × Int) =>
        cnd (decide (Prod.snd (Prod.snd v) < (↑(List.length (Prod.fst x)) : Int)))
          (cnd
            (decide ((0 : Int) ≤ Prod.snd (Prod.snd v)) && decide (Prod.snd (Prod.snd v) < (↑(List.length (Prod.fst x)) : Int)))
            (cnd
              (decide
                ((0 : Int) <
                  Int.tmod (Prod.fst (List.getD (Prod.fst x) (Int.toNat (Prod.snd (Prod.snd v))) ((0 : Int), (0 : Int))))
                    (3 : Int)))
              (cnd
                (decide ((0 : Int) ≤ Prod.snd (Prod.snd v)) &&
                  decide (Prod.snd (Prod.snd v) < (↑(List.length (Prod.fst x)) : Int)))
                (cnd
                  (List.all
                    [wr IntKind.u8
                        ((97 : Int) +
                          Int.tmod
                            (Prod.snd (List.getD (Prod.fst x) (Int.toNat (Prod.snd (Prod.snd v))) ((0 : Int), (0 : Int))))
                            (26 : Int))]
                    fun (n : Int) => decide ((0 : Int) ≤ n) && decide (n < (256 : Int)))
                  (obind
                    (W_ref13_Tell N
                      (Prod.fst v, Prod.fst (Prod.snd v),
                        bytesI
                          [wr IntKind.u8
                              ((97 : Int) +
                                Int.tmod
                                  (Prod.snd
                                    (List.getD (Prod.fst x) (Int.toNat (Prod.snd (Prod.snd v))) ((0 : Int), (0 : Int))))
                                  (26 : Int))]))
                    fun (b : List (Int × Int × Int × List UInt8 × Int)) =>
                    some
                      (Sum.inl
                        (b, wr IntKind.i64 (Prod.fst (Prod.snd v) + (1 : Int)),
                          wr IntKind.i64 (Prod.snd (Prod.snd v) + (1 : Int)))))
                  none)
                none)
              (cnd
                (decide ((0 : Int) ≤ Prod.snd (Prod.snd v)) &&
                  decide (Prod.snd (Prod.snd v) < (↑(List.length (Prod.fst x)) : Int)))
                (cnd
                  (decide ((0 : Int) ≤ Prod.snd (Prod.snd v)) &&
                    decide (Prod.snd (Prod.snd v) < (↑(List.length (Prod.fst x)) : Int)))
                  (obind
                    (W_ref13_Skip N
                      (Prod.fst v, Prod.fst (Prod.snd v),
                        wr IntKind.i64
                          (Prod.fst (Prod.snd v) +
                            wr IntKind.i64
                              (Int.tmod
                                (Prod.snd
                                  (List.getD (Prod.fst x) (Int.toNat (Prod.snd (Prod.snd v))) ((0 : Int), (0 : Int))))
                                (4 : Int))),
                        wr IntKind.i64
                          ((1 : Int) +
                            wr IntKind.i64
                              (Int.tmod
                                (wr IntKind.u8
                                  (Int.tdiv
                                    (Prod.snd
                                      (List.getD (Prod.fst x) (Int.toNat (Prod.snd (Prod.snd v))) ((0 : Int), (0 : Int))))
                                    (4 : Int)))
                                (2 : Int)))))
                    fun (b : List (Int × Int × Int × List UInt8 × Int)) =>
                    some
                      (Sum.inl
                        (b,
                          wr IntKind.i64
                            (wr IntKind.i64
                                (Prod.fst (Prod.snd v) +
                                  wr IntKind.i64
                                    (Int.tmod
                                      (Prod.snd
                                        (List.getD (Prod.fst x) (Int.toNat (Prod.snd (Prod.snd v)))
                                          ((0 : Int), (0 : Int))))
                                      (4 : Int))) +
                              (1 : Int)),
                          wr IntKind.i64 (Prod.snd (Prod.snd v) + (1 : Int)))))
                  none)
                none))
            none)
          (some (Sum.inr (Prod.fst v))))
      ([], Prod.snd x, (0 : Int)))
    fun (b : List (Int × Int × Int × List UInt8 × Int)) => some b
theorem F_law16_Logs_eq (N : Nat) (x : (List (Int × Int)) × Int) : F_law16_Logs (W_ref13_Tell N) (W_ref13_Skip N) N x = W_law16_Logs N x := (FV_law16_Logs_eq (W_ref13_Tell N) (W_ref13_Skip N) N x).trans (by kernel_rfl)
noncomputable def conw_law16_Logs (w : (List (Int × Int)) × Int → Option (List (Int × Int × Int × (List UInt8) × Int))) : Con := ⟨49, as_law16_Logs, bs_law16_Logs, List (Int × Int × Int × (List UInt8) × Int), w, out_law16_Logs⟩
noncomputable def con_law16_Logs (N : Nat) : Con := conw_law16_Logs (W_law16_Logs N)
theorem R_law16_Logs_eq (x : (List (Int × Int)) × Int) (y : List (Int × Int × Int × (List UInt8) × Int)) : retOf2 P0 Try.f49 (kpL []) (lbOf as_law16_Logs bs_law16_Logs x) (patS ⟨62, [], [], []⟩ pout_law16_Logs y) = some (out_law16_Logs y) := by kernel_rfl
theorem con_law16_Logs_ok (N : Nat) : Con.ok P0 (con_law16_Logs N) := ⟨⟨Try.f49, Try.func49, by kernel_rfl, by kernel_rfl⟩, fun (x : (List (Int × Int)) × Int) (r : List (Int × Int × Int × (List UInt8) × Int)) (hr : W_law16_Logs N x = some r) =>
  spec2_evT (Γ := G_law16_Logs (W_ref13_Tell N) (W_ref13_Skip N) N) (Λ := L0) (pout := pout_law16_Logs) (kp := kpL []) mixed (orcOf_ok _ (by simp only [List.mem_cons, List.not_mem_nil, or_false, forall_eq_or_imp, forall_eq]; exact ⟨con_ref13_Tell_ok N, con_ref13_Skip_ok N⟩)) Try.func49 (c := bodyOf Try.f49) (by kernel_rfl) (by kernel_rfl) (of_decide_eq_true (by kernel_rfl)) ((F_law16_Logs_eq N x).trans hr) (R_law16_Logs_eq x r)⟩
def as_log_read : List AS := [.val (.agg (.pair (.int .i64) (.pair (.int .i64) (.pair (.int .i64) (.pair .str (.int .i64))))))]
def bs_log_read : List BS := []
def pout_log_read : Pat := ⟨[(2, .val (.alt 113 (.agg (.pair (.int .i64) (.pair (.int .i64) (.pair (.int .i64) (.pair .str (.int .i64)))))) (.alt 134 (.agg (.pair (.int .i64) (.pair (.int .i64) (.pair (.int .i64) (.pair .str (.int .i64)))))) (.alt1 136 (.agg .unit)))))], []⟩
noncomputable def G_log_read  (N : Nat) : OrcT := orcOf []
noncomputable def F_log_read  (N : Nat) (x : Int × Int × Int × (List UInt8) × Int) : Option ((Int × Int × Int × (List UInt8) × Int) ⊕ ((Int × Int × Int × (List UInt8) × Int) ⊕ Unit)) :=
  (evT (G_log_read  N) L0 P0 []
    [] N 400 (bodyOf Try.f79) ⟨15, slots 0 (argsOf as_log_read bs_log_read x), tabU (lbOf as_log_read bs_log_read x) [], []⟩).elim (kRet 15 pout_log_read (kpL []) (lbOf as_log_read bs_log_read x))
def out_log_read (y : (Int × Int × Int × (List UInt8) × Int) ⊕ ((Int × Int × Int × (List UInt8) × Int) ⊕ Unit)) : V × List OK × List OK := (valW (.alt 113 (.agg (.pair (.int .i64) (.pair (.int .i64) (.pair (.int .i64) (.pair .str (.int .i64)))))) (.alt 134 (.agg (.pair (.int .i64) (.pair (.int .i64) (.pair (.int .i64) (.pair .str (.int .i64)))))) (.alt1 136 (.agg .unit)))) y, [], [])
noncomputable def V_log_read  (N : Nat) (x : Int × Int × Int × (List UInt8) × Int) : Option ((Int × Int × Int × (List UInt8) × Int) ⊕ ((Int × Int × Int × (List UInt8) × Int) ⊕ Unit)) :=
  cnd (decide (Prod.fst x = (1 : Int)))
    (some
      (Sum.inr
        (Sum.inl
          (Prod.fst x, Prod.fst (Prod.snd x), Prod.fst (Prod.snd (Prod.snd x)),
            Prod.fst (Prod.snd (Prod.snd (Prod.snd x))), Prod.snd (Prod.snd (Prod.snd (Prod.snd x)))))))
    (cnd (decide (Prod.fst x = (2 : Int)))
      (some
        (Sum.inl
          (Prod.fst x, Prod.fst (Prod.snd x), Prod.fst (Prod.snd (Prod.snd x)),
            Prod.fst (Prod.snd (Prod.snd (Prod.snd x))), Prod.snd (Prod.snd (Prod.snd (Prod.snd x))))))
      (some (Sum.inr (Sum.inr ()))))
theorem FV_log_read_eq  (N : Nat) (x : Int × Int × Int × (List UInt8) × Int) : F_log_read  N x = V_log_read  N x := by kernel_rfl
noncomputable def W_log_read (N : Nat) (x : Int × Int × Int × (List UInt8) × Int) : Option ((Int × Int × Int × (List UInt8) × Int) ⊕ ((Int × Int × Int × (List UInt8) × Int) ⊕ Unit)) :=
  cnd (decide (Prod.fst x = (1 : Int)))
    (some
      (Sum.inr
        (Sum.inl
          (Prod.fst x, Prod.fst (Prod.snd x), Prod.fst (Prod.snd (Prod.snd x)),
            Prod.fst (Prod.snd (Prod.snd (Prod.snd x))), Prod.snd (Prod.snd (Prod.snd (Prod.snd x)))))))
    (cnd (decide (Prod.fst x = (2 : Int)))
      (some
        (Sum.inl
          (Prod.fst x, Prod.fst (Prod.snd x), Prod.fst (Prod.snd (Prod.snd x)),
            Prod.fst (Prod.snd (Prod.snd (Prod.snd x))), Prod.snd (Prod.snd (Prod.snd (Prod.snd x))))))
      (some (Sum.inr (Sum.inr ()))))
theorem F_log_read_eq (N : Nat) (x : Int × Int × Int × (List UInt8) × Int) : F_log_read  N x = W_log_read N x := (FV_log_read_eq  N x).trans (by kernel_rfl)
noncomputable def conw_log_read (w : Int × Int × Int × (List UInt8) × Int → Option ((Int × Int × Int × (List UInt8) × Int) ⊕ ((Int × Int × Int × (List UInt8) × Int) ⊕ Unit))) : Con := ⟨79, as_log_read, bs_log_read, (Int × Int × Int × (List UInt8) × Int) ⊕ ((Int × Int × Int × (List UInt8) × Int) ⊕ Unit), w, out_log_read⟩
noncomputable def con_log_read (N : Nat) : Con := conw_log_read (W_log_read N)
theorem R_log_read_eq (x : Int × Int × Int × (List UInt8) × Int) (y : (Int × Int × Int × (List UInt8) × Int) ⊕ ((Int × Int × Int × (List UInt8) × Int) ⊕ Unit)) : retOf2 P0 Try.f79 (kpL []) (lbOf as_log_read bs_log_read x) (patS ⟨15, [], [], []⟩ pout_log_read y) = some (out_log_read y) := by kernel_rfl
theorem con_log_read_ok (N : Nat) : Con.ok P0 (con_log_read N) := ⟨⟨Try.f79, Try.func79, by kernel_rfl, by kernel_rfl⟩, fun (x : Int × Int × Int × (List UInt8) × Int) (r : (Int × Int × Int × (List UInt8) × Int) ⊕ ((Int × Int × Int × (List UInt8) × Int) ⊕ Unit)) (hr : W_log_read N x = some r) =>
  spec2_evT (Γ := G_log_read N) (Λ := L0) (pout := pout_log_read) (kp := kpL []) mixed (orcOf_ok [] (by simp)) Try.func79 (c := bodyOf Try.f79) (by kernel_rfl) (by kernel_rfl) (of_decide_eq_true (by kernel_rfl)) ((F_log_read_eq N x).trans hr) (R_log_read_eq x r)⟩
def as_log_may : List AS := [.val (.agg (.pair (.int .i64) (.pair (.int .i64) (.pair (.int .i64) (.pair .str (.int .i64))))))]
def bs_log_may : List BS := []
def pout_log_may : Pat := ⟨[(2, .val .bool)], []⟩
noncomputable def G_log_may (w_log_read : Int × Int × Int × (List UInt8) × Int → Option ((Int × Int × Int × (List UInt8) × Int) ⊕ ((Int × Int × Int × (List UInt8) × Int) ⊕ Unit))) (N : Nat) : OrcT := orcOf [conw_log_read w_log_read]
noncomputable def F_log_may (w_log_read : Int × Int × Int × (List UInt8) × Int → Option ((Int × Int × Int × (List UInt8) × Int) ⊕ ((Int × Int × Int × (List UInt8) × Int) ⊕ Unit))) (N : Nat) (x : Int × Int × Int × (List UInt8) × Int) : Option (Bool) :=
  (evT (G_log_may w_log_read N) L0 P0 []
    [(1000001, .reg [(10, [], ⟨[(1, .ptr 600001 0), (17, .val .bool)], [(600001, .box 73 (.val (.pair (.int .i64) (.pair (.int .i64) (.pair (.int .i64) (.pair .str (.int .i64)))))))]⟩)]),
    (1000006, .reg [(11, [], ⟨[(4, .ptr 600004 0), (41, .val .bool)], [(600004, .box 134 (.val (.pair (.int .i64) (.pair (.int .i64) (.pair (.int .i64) (.pair .str (.int .i64)))))))]⟩)])] N 400 (bodyOf Try.f78) ⟨66, slots 0 (argsOf as_log_may bs_log_may x), tabU (lbOf as_log_may bs_log_may x) [], []⟩).elim (kRet 66 pout_log_may (kpL []) (lbOf as_log_may bs_log_may x))
def out_log_may (y : Bool) : V × List OK × List OK := (valW .bool y, [], [])
noncomputable def V_log_may (w_log_read : Int × Int × Int × (List UInt8) × Int → Option ((Int × Int × Int × (List UInt8) × Int) ⊕ ((Int × Int × Int × (List UInt8) × Int) ⊕ Unit))) (N : Nat) (x : Int × Int × Int × (List UInt8) × Int) : Option (Bool) :=
  obind
    (cnd (decide (Prod.fst (Prod.snd x) < (1 : Int)))
      (some
        (true, Prod.fst x, Prod.fst (Prod.snd x), Prod.fst (Prod.snd (Prod.snd x)),
          Prod.fst (Prod.snd (Prod.snd (Prod.snd x))), Prod.snd (Prod.snd (Prod.snd (Prod.snd x)))))
      (some
        (decide (Prod.fst (Prod.snd (Prod.snd x)) < Prod.fst (Prod.snd x)), Prod.fst x, Prod.fst (Prod.snd x),
          Prod.fst (Prod.snd (Prod.snd x)), Prod.fst (Prod.snd (Prod.snd (Prod.snd x))),
          Prod.snd (Prod.snd (Prod.snd (Prod.snd x))))))
    fun (b : Bool × Int × Int × Int × List UInt8 × Int) =>
    cnd (Prod.fst b) (some false)
      (cnd (decide ((1000000 : Int) < Prod.fst (Prod.snd (Prod.snd (Prod.snd b))))) (some false)
        (obind
          (w_log_read
            (Prod.fst (Prod.snd b), Prod.fst (Prod.snd (Prod.snd b)), Prod.fst (Prod.snd (Prod.snd (Prod.snd b))),
              Prod.fst (Prod.snd (Prod.snd (Prod.snd (Prod.snd b)))),
              Prod.snd (Prod.snd (Prod.snd (Prod.snd (Prod.snd b))))))
          fun (b : Int × Int × Int × List UInt8 × Int ⊕ Int × Int × Int × List UInt8 × Int ⊕ PUnit) =>
          selim
            (fun (b_1 : Int × Int × Int × List UInt8 × Int) =>
              selim
                (fun (b : Int × Int × Int × List UInt8 × Int) =>
                  cnd (Prod.fst (Prod.snd (Prod.snd (Prod.snd b))) == [])
                    (cnd (decide (Prod.snd (Prod.snd (Prod.snd (Prod.snd b))) = (1 : Int))) (some true)
                      (some (decide (Prod.snd (Prod.snd (Prod.snd (Prod.snd b))) = (2 : Int)))))
                    (some false))
                (fun (c : Int × Int × Int × List UInt8 × Int ⊕ PUnit) =>
                  selim (fun (b : Int × Int × Int × List UInt8 × Int) => some false) (fun (c : PUnit) => some false) c)
                b)
            (fun (c : Int × Int × Int × List UInt8 × Int ⊕ PUnit) =>
              selim
                (fun (b : Int × Int × Int × List UInt8 × Int) =>
                  obind
                    (cnd (decide (Prod.fst (Prod.snd (Prod.snd b)) = Prod.fst (Prod.snd b)))
                      (some
                        (decide ((↑(List.length (Prod.fst (Prod.snd (Prod.snd (Prod.snd b))))) : Int) ≤ (12 : Int)), Prod.fst b,
                          Prod.fst (Prod.snd b), Prod.fst (Prod.snd (Prod.snd b)),
                          Prod.fst (Prod.snd (Prod.snd (Prod.snd b))), Prod.snd (Prod.snd (Prod.snd (Prod.snd b)))))
                      (some
                        (false, Prod.fst b, Prod.fst (Prod.snd b), Prod.fst (Prod.snd (Prod.snd b)),
                          Prod.fst (Prod.snd (Prod.snd (Prod.snd b))), Prod.snd (Prod.snd (Prod.snd (Prod.snd b))))))
                    fun (b : Bool × Int × Int × Int × List UInt8 × Int) =>
                    cnd (Prod.fst b) (some (decide (Prod.snd (Prod.snd (Prod.snd (Prod.snd (Prod.snd b)))) = (0 : Int))))
                      (some false))
                (fun (c : PUnit) =>
                  selim
                    (fun (b : Int × Int × Int × List UInt8 × Int) =>
                      cnd (Prod.fst (Prod.snd (Prod.snd (Prod.snd b))) == [])
                        (cnd (decide (Prod.snd (Prod.snd (Prod.snd (Prod.snd b))) = (1 : Int))) (some true)
                          (some (decide (Prod.snd (Prod.snd (Prod.snd (Prod.snd b))) = (2 : Int)))))
                        (some false))
                    (fun (c : Int × Int × Int × List UInt8 × Int ⊕ PUnit) =>
                      selim (fun (b : Int × Int × Int × List UInt8 × Int) => some false) (fun (c : PUnit) => some false)
                        c)
                    b)
                c)
            b))
theorem FV_log_may_eq (w_log_read : Int × Int × Int × (List UInt8) × Int → Option ((Int × Int × Int × (List UInt8) × Int) ⊕ ((Int × Int × Int × (List UInt8) × Int) ⊕ Unit))) (N : Nat) (x : Int × Int × Int × (List UInt8) × Int) : F_log_may w_log_read N x = V_log_may w_log_read N x := by kernel_rfl
noncomputable def W_log_may (N : Nat) (x : Int × Int × Int × (List UInt8) × Int) : Option (Bool) :=
  obind
    (cnd (decide (Prod.fst (Prod.snd x) < (1 : Int)))
      (some
        (true, Prod.fst x, Prod.fst (Prod.snd x), Prod.fst (Prod.snd (Prod.snd x)),
          Prod.fst (Prod.snd (Prod.snd (Prod.snd x))), Prod.snd (Prod.snd (Prod.snd (Prod.snd x)))))
      (some
        (decide (Prod.fst (Prod.snd (Prod.snd x)) < Prod.fst (Prod.snd x)), Prod.fst x, Prod.fst (Prod.snd x),
          Prod.fst (Prod.snd (Prod.snd x)), Prod.fst (Prod.snd (Prod.snd (Prod.snd x))),
          Prod.snd (Prod.snd (Prod.snd (Prod.snd x))))))
    fun (b : Bool × Int × Int × Int × List UInt8 × Int) =>
    cnd (Prod.fst b) (some false)
      (cnd (decide ((1000000 : Int) < Prod.fst (Prod.snd (Prod.snd (Prod.snd b))))) (some false)
        (obind
          (W_log_read N
            (Prod.fst (Prod.snd b), Prod.fst (Prod.snd (Prod.snd b)), Prod.fst (Prod.snd (Prod.snd (Prod.snd b))),
              Prod.fst (Prod.snd (Prod.snd (Prod.snd (Prod.snd b)))),
              Prod.snd (Prod.snd (Prod.snd (Prod.snd (Prod.snd b))))))
          fun (b : Int × Int × Int × List UInt8 × Int ⊕ Int × Int × Int × List UInt8 × Int ⊕ PUnit) =>
          selim
            (fun (b_1 : Int × Int × Int × List UInt8 × Int) =>
              selim
                (fun (b : Int × Int × Int × List UInt8 × Int) =>
                  cnd (Prod.fst (Prod.snd (Prod.snd (Prod.snd b))) == [])
                    (cnd (decide (Prod.snd (Prod.snd (Prod.snd (Prod.snd b))) = (1 : Int))) (some true)
                      (some (decide (Prod.snd (Prod.snd (Prod.snd (Prod.snd b))) = (2 : Int)))))
                    (some false))
                (fun (c : Int × Int × Int × List UInt8 × Int ⊕ PUnit) =>
                  selim (fun (b : Int × Int × Int × List UInt8 × Int) => some false) (fun (c : PUnit) => some false) c)
                b)
            (fun (c : Int × Int × Int × List UInt8 × Int ⊕ PUnit) =>
              selim
                (fun (b : Int × Int × Int × List UInt8 × Int) =>
                  obind
                    (cnd (decide (Prod.fst (Prod.snd (Prod.snd b)) = Prod.fst (Prod.snd b)))
                      (some
                        (decide ((↑(List.length (Prod.fst (Prod.snd (Prod.snd (Prod.snd b))))) : Int) ≤ (12 : Int)), Prod.fst b,
                          Prod.fst (Prod.snd b), Prod.fst (Prod.snd (Prod.snd b)),
                          Prod.fst (Prod.snd (Prod.snd (Prod.snd b))), Prod.snd (Prod.snd (Prod.snd (Prod.snd b)))))
                      (some
                        (false, Prod.fst b, Prod.fst (Prod.snd b), Prod.fst (Prod.snd (Prod.snd b)),
                          Prod.fst (Prod.snd (Prod.snd (Prod.snd b))), Prod.snd (Prod.snd (Prod.snd (Prod.snd b))))))
                    fun (b : Bool × Int × Int × Int × List UInt8 × Int) =>
                    cnd (Prod.fst b) (some (decide (Prod.snd (Prod.snd (Prod.snd (Prod.snd (Prod.snd b)))) = (0 : Int))))
                      (some false))
                (fun (c : PUnit) =>
                  selim
                    (fun (b : Int × Int × Int × List UInt8 × Int) =>
                      cnd (Prod.fst (Prod.snd (Prod.snd (Prod.snd b))) == [])
                        (cnd (decide (Prod.snd (Prod.snd (Prod.snd (Prod.snd b))) = (1 : Int))) (some true)
                          (some (decide (Prod.snd (Prod.snd (Prod.snd (Prod.snd b))) = (2 : Int)))))
                        (some false))
                    (fun (c : Int × Int × Int × List UInt8 × Int ⊕ PUnit) =>
                      selim (fun (b : Int × Int × Int × List UInt8 × Int) => some false) (fun (c : PUnit) => some false)
                        c)
                    b)
                c)
            b))
theorem F_log_may_eq (N : Nat) (x : Int × Int × Int × (List UInt8) × Int) : F_log_may (W_log_read N) N x = W_log_may N x := (FV_log_may_eq (W_log_read N) N x).trans (by kernel_rfl)
noncomputable def conw_log_may (w : Int × Int × Int × (List UInt8) × Int → Option (Bool)) : Con := ⟨78, as_log_may, bs_log_may, Bool, w, out_log_may⟩
noncomputable def con_log_may (N : Nat) : Con := conw_log_may (W_log_may N)
theorem R_log_may_eq (x : Int × Int × Int × (List UInt8) × Int) (y : Bool) : retOf2 P0 Try.f78 (kpL []) (lbOf as_log_may bs_log_may x) (patS ⟨66, [], [], []⟩ pout_log_may y) = some (out_log_may y) := by kernel_rfl
theorem con_log_may_ok (N : Nat) : Con.ok P0 (con_log_may N) := ⟨⟨Try.f78, Try.func78, by kernel_rfl, by kernel_rfl⟩, fun (x : Int × Int × Int × (List UInt8) × Int) (r : Bool) (hr : W_log_may N x = some r) =>
  spec2_evT (Γ := G_log_may (W_log_read N) N) (Λ := L0) (pout := pout_log_may) (kp := kpL []) mixed (orcOf_ok _ (by simp only [List.mem_cons, List.not_mem_nil, or_false, forall_eq_or_imp, forall_eq]; exact con_log_read_ok N)) Try.func78 (c := bodyOf Try.f78) (by kernel_rfl) (by kernel_rfl) (of_decide_eq_true (by kernel_rfl)) ((F_log_may_eq N x).trans hr) (R_log_may_eq x r)⟩
def as_log_May : List AS := [.val (.list (.agg (.pair (.int .i64) (.pair (.int .i64) (.pair (.int .i64) (.pair .str (.int .i64))))))), .val (.int .i64)]
def bs_log_May : List BS := []
def pout_log_May : Pat := ⟨[(4, .val .bool)], []⟩
noncomputable def G_log_May (w_log_may : Int × Int × Int × (List UInt8) × Int → Option (Bool)) (N : Nat) : OrcT := orcOf [conw_log_may w_log_may]
noncomputable def F_log_May (w_log_may : Int × Int × Int × (List UInt8) × Int → Option (Bool)) (N : Nat) (x : (List (Int × Int × Int × (List UInt8) × Int)) × Int) : Option (Bool) :=
  (evT (G_log_May w_log_may N) L0 P0 [(5, .loop [11] ⟨[(5, .val (.int .i64)), (13, .val (.int .i64))], []⟩ [(.exit 0, ⟨[], []⟩), (.ret, ⟨[(4, .val .bool)], []⟩)])]
    [] N 400 (bodyOf Try.f50) ⟨30, slots 0 (argsOf as_log_May bs_log_May x), tabU (lbOf as_log_May bs_log_May x) [], []⟩).elim (kRet 30 pout_log_May (kpL []) (lbOf as_log_May bs_log_May x))
def out_log_May (y : Bool) : V × List OK × List OK := (valW .bool y, [], [])
noncomputable def V_log_May (w_log_may : Int × Int × Int × (List UInt8) × Int → Option (Bool)) (N : Nat) (x : (List (Int × Int × Int × (List UInt8) × Int)) × Int) : Option (Bool) :=
  cnd (decide (Prod.snd x < (1 : Int))) (some false)
    (obind
      (loopN N
        (fun (v : Int × Int) =>
          cnd (decide (Prod.snd v < (↑(List.length (Prod.fst x)) : Int)))
            (cnd (decide ((0 : Int) ≤ Prod.snd v) && decide (Prod.snd v < (↑(List.length (Prod.fst x)) : Int)))
              (obind
                (w_log_may
                  (Prod.fst
                      (List.getD (Prod.fst x) (Int.toNat (Prod.snd v)) ((0 : Int), (0 : Int), (0 : Int), [], (0 : Int))),
                    Prod.fst
                      (Prod.snd
                        (List.getD (Prod.fst x) (Int.toNat (Prod.snd v))
                          ((0 : Int), (0 : Int), (0 : Int), [], (0 : Int)))),
                    Prod.fst
                      (Prod.snd
                        (Prod.snd
                          (List.getD (Prod.fst x) (Int.toNat (Prod.snd v))
                            ((0 : Int), (0 : Int), (0 : Int), [], (0 : Int))))),
                    Prod.fst
                      (Prod.snd
                        (Prod.snd
                          (Prod.snd
                            (List.getD (Prod.fst x) (Int.toNat (Prod.snd v))
                              ((0 : Int), (0 : Int), (0 : Int), [], (0 : Int)))))),
                    Prod.snd
                      (Prod.snd
                        (Prod.snd
                          (Prod.snd
                            (List.getD (Prod.fst x) (Int.toNat (Prod.snd v))
                              ((0 : Int), (0 : Int), (0 : Int), [], (0 : Int))))))))
                fun (b : Bool) =>
                cnd (!b) (some (Sum.inr (Sum.inr false)))
                  (cnd
                    (decide
                      (Prod.fst
                          (Prod.snd
                            (List.getD (Prod.fst x) (Int.toNat (Prod.snd v))
                              ((0 : Int), (0 : Int), (0 : Int), [], (0 : Int)))) ≠
                        Prod.fst v))
                    (some (Sum.inr (Sum.inr false)))
                    (some
                      (Sum.inl
                        (wr IntKind.i64
                            (Prod.fst
                                (Prod.snd
                                  (Prod.snd
                                    (List.getD (Prod.fst x) (Int.toNat (Prod.snd v))
                                      ((0 : Int), (0 : Int), (0 : Int), [], (0 : Int))))) +
                              (1 : Int)),
                          wr IntKind.i64 (Prod.snd v + (1 : Int)))))))
              none)
            (some (Sum.inr (Sum.inl ()))))
        (Prod.snd x, (0 : Int)))
      fun (b : PUnit ⊕ Bool) => selim (fun (b : PUnit) => some true) (fun (c : Bool) => some c) b)
theorem FV_log_May_eq (w_log_may : Int × Int × Int × (List UInt8) × Int → Option (Bool)) (N : Nat) (x : (List (Int × Int × Int × (List UInt8) × Int)) × Int) : F_log_May w_log_may N x = V_log_May w_log_may N x := by kernel_rfl
noncomputable def W_log_May (N : Nat) (x : (List (Int × Int × Int × (List UInt8) × Int)) × Int) : Option (Bool) :=
  cnd (decide (Prod.snd x < (1 : Int))) (some false)
    (obind
      (loopN N
        (fun (v : Int × Int) =>
          cnd (decide (Prod.snd v < (↑(List.length (Prod.fst x)) : Int)))
            (cnd (decide ((0 : Int) ≤ Prod.snd v) && decide (Prod.snd v < (↑(List.length (Prod.fst x)) : Int)))
              (obind
                (W_log_may N
                  (Prod.fst
                      (List.getD (Prod.fst x) (Int.toNat (Prod.snd v)) ((0 : Int), (0 : Int), (0 : Int), [], (0 : Int))),
                    Prod.fst
                      (Prod.snd
                        (List.getD (Prod.fst x) (Int.toNat (Prod.snd v))
                          ((0 : Int), (0 : Int), (0 : Int), [], (0 : Int)))),
                    Prod.fst
                      (Prod.snd
                        (Prod.snd
                          (List.getD (Prod.fst x) (Int.toNat (Prod.snd v))
                            ((0 : Int), (0 : Int), (0 : Int), [], (0 : Int))))),
                    Prod.fst
                      (Prod.snd
                        (Prod.snd
                          (Prod.snd
                            (List.getD (Prod.fst x) (Int.toNat (Prod.snd v))
                              ((0 : Int), (0 : Int), (0 : Int), [], (0 : Int)))))),
                    Prod.snd
                      (Prod.snd
                        (Prod.snd
                          (Prod.snd
                            (List.getD (Prod.fst x) (Int.toNat (Prod.snd v))
                              ((0 : Int), (0 : Int), (0 : Int), [], (0 : Int))))))))
                fun (b : Bool) =>
                cnd (!b) (some (Sum.inr (Sum.inr false)))
                  (cnd
                    (decide
                      (Prod.fst
                          (Prod.snd
                            (List.getD (Prod.fst x) (Int.toNat (Prod.snd v))
                              ((0 : Int), (0 : Int), (0 : Int), [], (0 : Int)))) ≠
                        Prod.fst v))
                    (some (Sum.inr (Sum.inr false)))
                    (some
                      (Sum.inl
                        (wr IntKind.i64
                            (Prod.fst
                                (Prod.snd
                                  (Prod.snd
                                    (List.getD (Prod.fst x) (Int.toNat (Prod.snd v))
                                      ((0 : Int), (0 : Int), (0 : Int), [], (0 : Int))))) +
                              (1 : Int)),
                          wr IntKind.i64 (Prod.snd v + (1 : Int)))))))
              none)
            (some (Sum.inr (Sum.inl ()))))
        (Prod.snd x, (0 : Int)))
      fun (b : PUnit ⊕ Bool) => selim (fun (b : PUnit) => some true) (fun (c : Bool) => some c) b)
theorem F_log_May_eq (N : Nat) (x : (List (Int × Int × Int × (List UInt8) × Int)) × Int) : F_log_May (W_log_may N) N x = W_log_May N x := (FV_log_May_eq (W_log_may N) N x).trans (by kernel_rfl)
noncomputable def conw_log_May (w : (List (Int × Int × Int × (List UInt8) × Int)) × Int → Option (Bool)) : Con := ⟨50, as_log_May, bs_log_May, Bool, w, out_log_May⟩
noncomputable def con_log_May (N : Nat) : Con := conw_log_May (W_log_May N)
theorem R_log_May_eq (x : (List (Int × Int × Int × (List UInt8) × Int)) × Int) (y : Bool) : retOf2 P0 Try.f50 (kpL []) (lbOf as_log_May bs_log_May x) (patS ⟨30, [], [], []⟩ pout_log_May y) = some (out_log_May y) := by kernel_rfl
theorem con_log_May_ok (N : Nat) : Con.ok P0 (con_log_May N) := ⟨⟨Try.f50, Try.func50, by kernel_rfl, by kernel_rfl⟩, fun (x : (List (Int × Int × Int × (List UInt8) × Int)) × Int) (r : Bool) (hr : W_log_May N x = some r) =>
  spec2_evT (Γ := G_log_May (W_log_may N) N) (Λ := L0) (pout := pout_log_May) (kp := kpL []) mixed (orcOf_ok _ (by simp only [List.mem_cons, List.not_mem_nil, or_false, forall_eq_or_imp, forall_eq]; exact con_log_may_ok N)) Try.func50 (c := bodyOf Try.f50) (by kernel_rfl) (by kernel_rfl) (of_decide_eq_true (by kernel_rfl)) ((F_log_May_eq N x).trans hr) (R_log_May_eq x r)⟩
def as_ref13_MayLog : List AS := [.val (.list (.agg (.pair (.int .i64) (.pair (.int .i64) (.pair (.int .i64) (.pair .str (.int .i64))))))), .val (.int .i64)]
def bs_ref13_MayLog : List BS := []
def pout_ref13_MayLog : Pat := ⟨[(4, .val .bool)], []⟩
noncomputable def G_ref13_MayLog  (N : Nat) : OrcT := orcOf []
noncomputable def F_ref13_MayLog  (N : Nat) (x : (List (Int × Int × Int × (List UInt8) × Int)) × Int) : Option (Bool) :=
  (evT (G_ref13_MayLog  N) L0 P0 [(5, .loop [] ⟨[(5, .val (.int .i64)), (6, .val (.int .i64))], []⟩ [(.exit 0, ⟨[], []⟩), (.ret, ⟨[(4, .val .bool)], []⟩)])]
    [(1000008, .reg [(11, [], ⟨[(7, .ptr 600007 0), (31, .val .bool)], [(600007, .box 73 (.val (.pair (.int .i64) (.pair (.int .i64) (.pair (.int .i64) (.pair .str (.int .i64)))))))]⟩)]),
    (1000013, .reg [(11, [], ⟨[(7, .ptr 600007 0), (51, .val .bool)], [(600007, .box 73 (.val (.pair (.int .i64) (.pair (.int .i64) (.pair (.int .i64) (.pair .str (.int .i64)))))))]⟩)])] N 400 (bodyOf Try.f51) ⟨75, slots 0 (argsOf as_ref13_MayLog bs_ref13_MayLog x), tabU (lbOf as_ref13_MayLog bs_ref13_MayLog x) [], []⟩).elim (kRet 75 pout_ref13_MayLog (kpL []) (lbOf as_ref13_MayLog bs_ref13_MayLog x))
def out_ref13_MayLog (y : Bool) : V × List OK × List OK := (valW .bool y, [], [])
noncomputable def V_ref13_MayLog  (N : Nat) (x : (List (Int × Int × Int × (List UInt8) × Int)) × Int) : Option (Bool) :=
  cnd (decide (Prod.snd x < (1 : Int))) (some false)
    (obind
      (loopN N
        (fun (v : Int × Int) =>
          cnd (decide (Prod.snd v < (↑(List.length (Prod.fst x)) : Int)))
            (cnd (decide ((0 : Int) ≤ Prod.snd v) && decide (Prod.snd v < (↑(List.length (Prod.fst x)) : Int)))
              (obind
                (cnd
                  (decide
                    (Prod.fst
                        (Prod.snd
                          (List.getD (Prod.fst x) (Int.toNat (Prod.snd v))
                            ((0 : Int), (0 : Int), (0 : Int), [], (0 : Int)))) ≠
                      Prod.fst v))
                  (some
                    (true,
                      Prod.fst
                        (List.getD (Prod.fst x) (Int.toNat (Prod.snd v))
                          ((0 : Int), (0 : Int), (0 : Int), [], (0 : Int))),
                      Prod.fst
                        (Prod.snd
                          (List.getD (Prod.fst x) (Int.toNat (Prod.snd v))
                            ((0 : Int), (0 : Int), (0 : Int), [], (0 : Int)))),
                      Prod.fst
                        (Prod.snd
                          (Prod.snd
                            (List.getD (Prod.fst x) (Int.toNat (Prod.snd v))
                              ((0 : Int), (0 : Int), (0 : Int), [], (0 : Int))))),
                      Prod.fst
                        (Prod.snd
                          (Prod.snd
                            (Prod.snd
                              (List.getD (Prod.fst x) (Int.toNat (Prod.snd v))
                                ((0 : Int), (0 : Int), (0 : Int), [], (0 : Int)))))),
                      Prod.snd
                        (Prod.snd
                          (Prod.snd
                            (Prod.snd
                              (List.getD (Prod.fst x) (Int.toNat (Prod.snd v))
                                ((0 : Int), (0 : Int), (0 : Int), [], (0 : Int))))))))
                  (some
                    (decide
                        (Prod.fst
                            (Prod.snd
                              (Prod.snd
                                (List.getD (Prod.fst x) (Int.toNat (Prod.snd v))
                                  ((0 : Int), (0 : Int), (0 : Int), [], (0 : Int))))) <
                          Prod.fst
                            (Prod.snd
                              (List.getD (Prod.fst x) (Int.toNat (Prod.snd v))
                                ((0 : Int), (0 : Int), (0 : Int), [], (0 : Int))))),
                      Prod.fst
                        (List.getD (Prod.fst x) (Int.toNat (Prod.snd v))
                          ((0 : Int), (0 : Int), (0 : Int), [], (0 : Int))),
                      Prod.fst
                        (Prod.snd
                          (List.getD (Prod.fst x) (Int.toNat (Prod.snd v))
                            ((0 : Int), (0 : Int), (0 : Int), [], (0 : Int)))),
                      Prod.fst
                        (Prod.snd
                          (Prod.snd
                            (List.getD (Prod.fst x) (Int.toNat (Prod.snd v))
                              ((0 : Int), (0 : Int), (0 : Int), [], (0 : Int))))),
                      Prod.fst
                        (Prod.snd
                          (Prod.snd
                            (Prod.snd
                              (List.getD (Prod.fst x) (Int.toNat (Prod.snd v))
                                ((0 : Int), (0 : Int), (0 : Int), [], (0 : Int)))))),
                      Prod.snd
                        (Prod.snd
                          (Prod.snd
                            (Prod.snd
                              (List.getD (Prod.fst x) (Int.toNat (Prod.snd v))
                                ((0 : Int), (0 : Int), (0 : Int), [], (0 : Int)))))))))
                fun (b : Bool × Int × Int × Int × List UInt8 × Int) =>
                cnd (Prod.fst b) (some (Sum.inr (Sum.inr false)))
                  (cnd (decide ((1000000 : Int) < Prod.fst (Prod.snd (Prod.snd (Prod.snd b)))))
                    (some (Sum.inr (Sum.inr false)))
                    (cnd (decide (Prod.fst (Prod.snd b) = (1 : Int)))
                      (obind
                        (cnd (decide (Prod.fst (Prod.snd (Prod.snd (Prod.snd b))) ≠ Prod.fst (Prod.snd (Prod.snd b))))
                          (some
                            (true, Prod.fst (Prod.snd b), Prod.fst (Prod.snd (Prod.snd b)),
                              Prod.fst (Prod.snd (Prod.snd (Prod.snd b))),
                              Prod.fst (Prod.snd (Prod.snd (Prod.snd (Prod.snd b)))),
                              Prod.snd (Prod.snd (Prod.snd (Prod.snd (Prod.snd b))))))
                          (some
                            (decide
                                ((12 : Int) < (↑(List.length (Prod.fst (Prod.snd (Prod.snd (Prod.snd (Prod.snd b)))))) : Int)),
                              Prod.fst (Prod.snd b), Prod.fst (Prod.snd (Prod.snd b)),
                              Prod.fst (Prod.snd (Prod.snd (Prod.snd b))),
                              Prod.fst (Prod.snd (Prod.snd (Prod.snd (Prod.snd b)))),
                              Prod.snd (Prod.snd (Prod.snd (Prod.snd (Prod.snd b)))))))
                        fun (b : Bool × Int × Int × Int × List UInt8 × Int) =>
                        cnd (Prod.fst b) (some (Sum.inr (Sum.inr false)))
                          (cnd (decide (Prod.snd (Prod.snd (Prod.snd (Prod.snd (Prod.snd b)))) ≠ (0 : Int)))
                            (some (Sum.inr (Sum.inr false)))
                            (some
                              (Sum.inl
                                (wr IntKind.i64 (Prod.fst (Prod.snd (Prod.snd (Prod.snd b))) + (1 : Int)),
                                  wr IntKind.i64 (Prod.snd v + (1 : Int)))))))
                      (cnd (decide (Prod.fst (Prod.snd b) = (2 : Int)))
                        (cnd (!Prod.fst (Prod.snd (Prod.snd (Prod.snd (Prod.snd b)))) == [])
                          (some (Sum.inr (Sum.inr false)))
                          (cnd (decide (Prod.snd (Prod.snd (Prod.snd (Prod.snd (Prod.snd b)))) ≠ (1 : Int)))
                            (cnd (decide (Prod.snd (Prod.snd (Prod.snd (Prod.snd (Prod.snd b)))) ≠ (2 : Int)))
                              (some (Sum.inr (Sum.inr false)))
                              (some
                                (Sum.inl
                                  (wr IntKind.i64 (Prod.fst (Prod.snd (Prod.snd (Prod.snd b))) + (1 : Int)),
                                    wr IntKind.i64 (Prod.snd v + (1 : Int))))))
                            (some
                              (Sum.inl
                                (wr IntKind.i64 (Prod.fst (Prod.snd (Prod.snd (Prod.snd b))) + (1 : Int)),
                                  wr IntKind.i64 (Prod.snd v + (1 : Int)))))))
                        (some (Sum.inr (Sum.inr false)))))))
              none)
            (some (Sum.inr (Sum.inl ()))))
        (Prod.snd x, (0 : Int)))
      fun (b : PUnit ⊕ Bool) => selim (fun (b : PUnit) => some true) (fun (c : Bool) => some c) b)
theorem FV_ref13_MayLog_eq  (N : Nat) (x : (List (Int × Int × Int × (List UInt8) × Int)) × Int) : F_ref13_MayLog  N x = V_ref13_MayLog  N x := by kernel_rfl
noncomputable def W_ref13_MayLog (N : Nat) (x : (List (Int × Int × Int × (List UInt8) × Int)) × Int) : Option (Bool) :=
  cnd (decide (Prod.snd x < (1 : Int))) (some false)
    (obind
      (loopN N
        (fun (v : Int × Int) =>
          cnd (decide (Prod.snd v < (↑(List.length (Prod.fst x)) : Int)))
            (cnd (decide ((0 : Int) ≤ Prod.snd v) && decide (Prod.snd v < (↑(List.length (Prod.fst x)) : Int)))
              (obind
                (cnd
                  (decide
                    (Prod.fst
                        (Prod.snd
                          (List.getD (Prod.fst x) (Int.toNat (Prod.snd v))
                            ((0 : Int), (0 : Int), (0 : Int), [], (0 : Int)))) ≠
                      Prod.fst v))
                  (some
                    (true,
                      Prod.fst
                        (List.getD (Prod.fst x) (Int.toNat (Prod.snd v))
                          ((0 : Int), (0 : Int), (0 : Int), [], (0 : Int))),
                      Prod.fst
                        (Prod.snd
                          (List.getD (Prod.fst x) (Int.toNat (Prod.snd v))
                            ((0 : Int), (0 : Int), (0 : Int), [], (0 : Int)))),
                      Prod.fst
                        (Prod.snd
                          (Prod.snd
                            (List.getD (Prod.fst x) (Int.toNat (Prod.snd v))
                              ((0 : Int), (0 : Int), (0 : Int), [], (0 : Int))))),
                      Prod.fst
                        (Prod.snd
                          (Prod.snd
                            (Prod.snd
                              (List.getD (Prod.fst x) (Int.toNat (Prod.snd v))
                                ((0 : Int), (0 : Int), (0 : Int), [], (0 : Int)))))),
                      Prod.snd
                        (Prod.snd
                          (Prod.snd
                            (Prod.snd
                              (List.getD (Prod.fst x) (Int.toNat (Prod.snd v))
                                ((0 : Int), (0 : Int), (0 : Int), [], (0 : Int))))))))
                  (some
                    (decide
                        (Prod.fst
                            (Prod.snd
                              (Prod.snd
                                (List.getD (Prod.fst x) (Int.toNat (Prod.snd v))
                                  ((0 : Int), (0 : Int), (0 : Int), [], (0 : Int))))) <
                          Prod.fst
                            (Prod.snd
                              (List.getD (Prod.fst x) (Int.toNat (Prod.snd v))
                                ((0 : Int), (0 : Int), (0 : Int), [], (0 : Int))))),
                      Prod.fst
                        (List.getD (Prod.fst x) (Int.toNat (Prod.snd v))
                          ((0 : Int), (0 : Int), (0 : Int), [], (0 : Int))),
                      Prod.fst
                        (Prod.snd
                          (List.getD (Prod.fst x) (Int.toNat (Prod.snd v))
                            ((0 : Int), (0 : Int), (0 : Int), [], (0 : Int)))),
                      Prod.fst
                        (Prod.snd
                          (Prod.snd
                            (List.getD (Prod.fst x) (Int.toNat (Prod.snd v))
                              ((0 : Int), (0 : Int), (0 : Int), [], (0 : Int))))),
                      Prod.fst
                        (Prod.snd
                          (Prod.snd
                            (Prod.snd
                              (List.getD (Prod.fst x) (Int.toNat (Prod.snd v))
                                ((0 : Int), (0 : Int), (0 : Int), [], (0 : Int)))))),
                      Prod.snd
                        (Prod.snd
                          (Prod.snd
                            (Prod.snd
                              (List.getD (Prod.fst x) (Int.toNat (Prod.snd v))
                                ((0 : Int), (0 : Int), (0 : Int), [], (0 : Int)))))))))
                fun (b : Bool × Int × Int × Int × List UInt8 × Int) =>
                cnd (Prod.fst b) (some (Sum.inr (Sum.inr false)))
                  (cnd (decide ((1000000 : Int) < Prod.fst (Prod.snd (Prod.snd (Prod.snd b)))))
                    (some (Sum.inr (Sum.inr false)))
                    (cnd (decide (Prod.fst (Prod.snd b) = (1 : Int)))
                      (obind
                        (cnd (decide (Prod.fst (Prod.snd (Prod.snd (Prod.snd b))) ≠ Prod.fst (Prod.snd (Prod.snd b))))
                          (some
                            (true, Prod.fst (Prod.snd b), Prod.fst (Prod.snd (Prod.snd b)),
                              Prod.fst (Prod.snd (Prod.snd (Prod.snd b))),
                              Prod.fst (Prod.snd (Prod.snd (Prod.snd (Prod.snd b)))),
                              Prod.snd (Prod.snd (Prod.snd (Prod.snd (Prod.snd b))))))
                          (some
                            (decide
                                ((12 : Int) < (↑(List.length (Prod.fst (Prod.snd (Prod.snd (Prod.snd (Prod.snd b)))))) : Int)),
                              Prod.fst (Prod.snd b), Prod.fst (Prod.snd (Prod.snd b)),
                              Prod.fst (Prod.snd (Prod.snd (Prod.snd b))),
                              Prod.fst (Prod.snd (Prod.snd (Prod.snd (Prod.snd b)))),
                              Prod.snd (Prod.snd (Prod.snd (Prod.snd (Prod.snd b)))))))
                        fun (b : Bool × Int × Int × Int × List UInt8 × Int) =>
                        cnd (Prod.fst b) (some (Sum.inr (Sum.inr false)))
                          (cnd (decide (Prod.snd (Prod.snd (Prod.snd (Prod.snd (Prod.snd b)))) ≠ (0 : Int)))
                            (some (Sum.inr (Sum.inr false)))
                            (some
                              (Sum.inl
                                (wr IntKind.i64 (Prod.fst (Prod.snd (Prod.snd (Prod.snd b))) + (1 : Int)),
                                  wr IntKind.i64 (Prod.snd v + (1 : Int)))))))
                      (cnd (decide (Prod.fst (Prod.snd b) = (2 : Int)))
                        (cnd (!Prod.fst (Prod.snd (Prod.snd (Prod.snd (Prod.snd b)))) == [])
                          (some (Sum.inr (Sum.inr false)))
                          (cnd (decide (Prod.snd (Prod.snd (Prod.snd (Prod.snd (Prod.snd b)))) ≠ (1 : Int)))
                            (cnd (decide (Prod.snd (Prod.snd (Prod.snd (Prod.snd (Prod.snd b)))) ≠ (2 : Int)))
                              (some (Sum.inr (Sum.inr false)))
                              (some
                                (Sum.inl
                                  (wr IntKind.i64 (Prod.fst (Prod.snd (Prod.snd (Prod.snd b))) + (1 : Int)),
                                    wr IntKind.i64 (Prod.snd v + (1 : Int))))))
                            (some
                              (Sum.inl
                                (wr IntKind.i64 (Prod.fst (Prod.snd (Prod.snd (Prod.snd b))) + (1 : Int)),
                                  wr IntKind.i64 (Prod.snd v + (1 : Int)))))))
                        (some (Sum.inr (Sum.inr false)))))))
              none)
            (some (Sum.inr (Sum.inl ()))))
        (Prod.snd x, (0 : Int)))
      fun (b : PUnit ⊕ Bool) => selim (fun (b : PUnit) => some true) (fun (c : Bool) => some c) b)
theorem F_ref13_MayLog_eq (N : Nat) (x : (List (Int × Int × Int × (List UInt8) × Int)) × Int) : F_ref13_MayLog  N x = W_ref13_MayLog N x := (FV_ref13_MayLog_eq  N x).trans (by kernel_rfl)
noncomputable def conw_ref13_MayLog (w : (List (Int × Int × Int × (List UInt8) × Int)) × Int → Option (Bool)) : Con := ⟨51, as_ref13_MayLog, bs_ref13_MayLog, Bool, w, out_ref13_MayLog⟩
noncomputable def con_ref13_MayLog (N : Nat) : Con := conw_ref13_MayLog (W_ref13_MayLog N)
theorem R_ref13_MayLog_eq (x : (List (Int × Int × Int × (List UInt8) × Int)) × Int) (y : Bool) : retOf2 P0 Try.f51 (kpL []) (lbOf as_ref13_MayLog bs_ref13_MayLog x) (patS ⟨75, [], [], []⟩ pout_ref13_MayLog y) = some (out_ref13_MayLog y) := by kernel_rfl
theorem con_ref13_MayLog_ok (N : Nat) : Con.ok P0 (con_ref13_MayLog N) := ⟨⟨Try.f51, Try.func51, by kernel_rfl, by kernel_rfl⟩, fun (x : (List (Int × Int × Int × (List UInt8) × Int)) × Int) (r : Bool) (hr : W_ref13_MayLog N x = some r) =>
  spec2_evT (Γ := G_ref13_MayLog N) (Λ := L0) (pout := pout_ref13_MayLog) (kp := kpL []) mixed (orcOf_ok [] (by simp)) Try.func51 (c := bodyOf Try.f51) (by kernel_rfl) (by kernel_rfl) (of_decide_eq_true (by kernel_rfl)) ((F_ref13_MayLog_eq N x).trans hr) (R_ref13_MayLog_eq x r)⟩
def as_log_Next : List AS := [.val (.list (.agg (.pair (.int .i64) (.pair (.int .i64) (.pair (.int .i64) (.pair .str (.int .i64))))))), .val (.int .i64)]
def bs_log_Next : List BS := []
def pout_log_Next : Pat := ⟨[(4, .val (.int .i64))], []⟩
noncomputable def G_log_Next  (N : Nat) : OrcT := orcOf []
noncomputable def F_log_Next  (N : Nat) (x : (List (Int × Int × Int × (List UInt8) × Int)) × Int) : Option (Int) :=
  (evT (G_log_Next  N) L0 P0 []
    [] N 400 (bodyOf Try.f52) ⟨17, slots 0 (argsOf as_log_Next bs_log_Next x), tabU (lbOf as_log_Next bs_log_Next x) [], []⟩).elim (kRet 17 pout_log_Next (kpL []) (lbOf as_log_Next bs_log_Next x))
def out_log_Next (y : Int) : V × List OK × List OK := (valW (.int .i64) y, [], [])
noncomputable def V_log_Next  (N : Nat) (x : (List (Int × Int × Int × (List UInt8) × Int)) × Int) : Option (Int) :=
  cnd (decide ((↑(List.length (Prod.fst x)) : Int) = (0 : Int))) (some (Prod.snd x))
    (cnd
      (decide ((0 : Int) ≤ wr IntKind.i64 ((↑(List.length (Prod.fst x)) : Int) - (1 : Int))) &&
        decide (wr IntKind.i64 ((↑(List.length (Prod.fst x)) : Int) - (1 : Int)) < (↑(List.length (Prod.fst x)) : Int)))
      (some
        (wr IntKind.i64
          (Prod.fst
              (Prod.snd
                (Prod.snd
                  (List.getD (Prod.fst x) (Int.toNat (wr IntKind.i64 ((↑(List.length (Prod.fst x)) : Int) - (1 : Int))))
                    ((0 : Int), (0 : Int), (0 : Int), [], (0 : Int))))) +
            (1 : Int))))
      none)
theorem FV_log_Next_eq  (N : Nat) (x : (List (Int × Int × Int × (List UInt8) × Int)) × Int) : F_log_Next  N x = V_log_Next  N x := by kernel_rfl
noncomputable def W_log_Next (N : Nat) (x : (List (Int × Int × Int × (List UInt8) × Int)) × Int) : Option (Int) :=
  cnd (decide ((↑(List.length (Prod.fst x)) : Int) = (0 : Int))) (some (Prod.snd x))
    (cnd
      (decide ((0 : Int) ≤ wr IntKind.i64 ((↑(List.length (Prod.fst x)) : Int) - (1 : Int))) &&
        decide (wr IntKind.i64 ((↑(List.length (Prod.fst x)) : Int) - (1 : Int)) < (↑(List.length (Prod.fst x)) : Int)))
      (some
        (wr IntKind.i64
          (Prod.fst
              (Prod.snd
                (Prod.snd
                  (List.getD (Prod.fst x) (Int.toNat (wr IntKind.i64 ((↑(List.length (Prod.fst x)) : Int) - (1 : Int))))
                    ((0 : Int), (0 : Int), (0 : Int), [], (0 : Int))))) +
            (1 : Int))))
      none)
theorem F_log_Next_eq (N : Nat) (x : (List (Int × Int × Int × (List UInt8) × Int)) × Int) : F_log_Next  N x = W_log_Next N x := (FV_log_Next_eq  N x).trans (by kernel_rfl)
noncomputable def conw_log_Next (w : (List (Int × Int × Int × (List UInt8) × Int)) × Int → Option (Int)) : Con := ⟨52, as_log_Next, bs_log_Next, Int, w, out_log_Next⟩
noncomputable def con_log_Next (N : Nat) : Con := conw_log_Next (W_log_Next N)
theorem R_log_Next_eq (x : (List (Int × Int × Int × (List UInt8) × Int)) × Int) (y : Int) : retOf2 P0 Try.f52 (kpL []) (lbOf as_log_Next bs_log_Next x) (patS ⟨17, [], [], []⟩ pout_log_Next y) = some (out_log_Next y) := by kernel_rfl
theorem con_log_Next_ok (N : Nat) : Con.ok P0 (con_log_Next N) := ⟨⟨Try.f52, Try.func52, by kernel_rfl, by kernel_rfl⟩, fun (x : (List (Int × Int × Int × (List UInt8) × Int)) × Int) (r : Int) (hr : W_log_Next N x = some r) =>
  spec2_evT (Γ := G_log_Next N) (Λ := L0) (pout := pout_log_Next) (kp := kpL []) mixed (orcOf_ok [] (by simp)) Try.func52 (c := bodyOf Try.f52) (by kernel_rfl) (by kernel_rfl) (of_decide_eq_true (by kernel_rfl)) ((F_log_Next_eq N x).trans hr) (R_log_Next_eq x r)⟩
def as_ref13_NextLog : List AS := [.val (.list (.agg (.pair (.int .i64) (.pair (.int .i64) (.pair (.int .i64) (.pair .str (.int .i64))))))), .val (.int .i64)]
def bs_ref13_NextLog : List BS := []
def pout_ref13_NextLog : Pat := ⟨[(4, .val (.int .i64))], []⟩
noncomputable def G_ref13_NextLog  (N : Nat) : OrcT := orcOf []
noncomputable def F_ref13_NextLog  (N : Nat) (x : (List (Int × Int × Int × (List UInt8) × Int)) × Int) : Option (Int) :=
  (evT (G_ref13_NextLog  N) L0 P0 []
    [] N 400 (bodyOf Try.f53) ⟨17, slots 0 (argsOf as_ref13_NextLog bs_ref13_NextLog x), tabU (lbOf as_ref13_NextLog bs_ref13_NextLog x) [], []⟩).elim (kRet 17 pout_ref13_NextLog (kpL []) (lbOf as_ref13_NextLog bs_ref13_NextLog x))
def out_ref13_NextLog (y : Int) : V × List OK × List OK := (valW (.int .i64) y, [], [])
noncomputable def V_ref13_NextLog  (N : Nat) (x : (List (Int × Int × Int × (List UInt8) × Int)) × Int) : Option (Int) :=
  cnd (decide ((↑(List.length (Prod.fst x)) : Int) = (0 : Int))) (some (Prod.snd x))
    (cnd
      (decide ((0 : Int) ≤ wr IntKind.i64 ((↑(List.length (Prod.fst x)) : Int) - (1 : Int))) &&
        decide (wr IntKind.i64 ((↑(List.length (Prod.fst x)) : Int) - (1 : Int)) < (↑(List.length (Prod.fst x)) : Int)))
      (some
        (wr IntKind.i64
          (Prod.fst
              (Prod.snd
                (Prod.snd
                  (List.getD (Prod.fst x) (Int.toNat (wr IntKind.i64 ((↑(List.length (Prod.fst x)) : Int) - (1 : Int))))
                    ((0 : Int), (0 : Int), (0 : Int), [], (0 : Int))))) +
            (1 : Int))))
      none)
theorem FV_ref13_NextLog_eq  (N : Nat) (x : (List (Int × Int × Int × (List UInt8) × Int)) × Int) : F_ref13_NextLog  N x = V_ref13_NextLog  N x := by kernel_rfl
noncomputable def W_ref13_NextLog (N : Nat) (x : (List (Int × Int × Int × (List UInt8) × Int)) × Int) : Option (Int) :=
  cnd (decide ((↑(List.length (Prod.fst x)) : Int) = (0 : Int))) (some (Prod.snd x))
    (cnd
      (decide ((0 : Int) ≤ wr IntKind.i64 ((↑(List.length (Prod.fst x)) : Int) - (1 : Int))) &&
        decide (wr IntKind.i64 ((↑(List.length (Prod.fst x)) : Int) - (1 : Int)) < (↑(List.length (Prod.fst x)) : Int)))
      (some
        (wr IntKind.i64
          (Prod.fst
              (Prod.snd
                (Prod.snd
                  (List.getD (Prod.fst x) (Int.toNat (wr IntKind.i64 ((↑(List.length (Prod.fst x)) : Int) - (1 : Int))))
                    ((0 : Int), (0 : Int), (0 : Int), [], (0 : Int))))) +
            (1 : Int))))
      none)
theorem F_ref13_NextLog_eq (N : Nat) (x : (List (Int × Int × Int × (List UInt8) × Int)) × Int) : F_ref13_NextLog  N x = W_ref13_NextLog N x := (FV_ref13_NextLog_eq  N x).trans (by kernel_rfl)
noncomputable def conw_ref13_NextLog (w : (List (Int × Int × Int × (List UInt8) × Int)) × Int → Option (Int)) : Con := ⟨53, as_ref13_NextLog, bs_ref13_NextLog, Int, w, out_ref13_NextLog⟩
noncomputable def con_ref13_NextLog (N : Nat) : Con := conw_ref13_NextLog (W_ref13_NextLog N)
theorem R_ref13_NextLog_eq (x : (List (Int × Int × Int × (List UInt8) × Int)) × Int) (y : Int) : retOf2 P0 Try.f53 (kpL []) (lbOf as_ref13_NextLog bs_ref13_NextLog x) (patS ⟨17, [], [], []⟩ pout_ref13_NextLog y) = some (out_ref13_NextLog y) := by kernel_rfl
theorem con_ref13_NextLog_ok (N : Nat) : Con.ok P0 (con_ref13_NextLog N) := ⟨⟨Try.f53, Try.func53, by kernel_rfl, by kernel_rfl⟩, fun (x : (List (Int × Int × Int × (List UInt8) × Int)) × Int) (r : Int) (hr : W_ref13_NextLog N x = some r) =>
  spec2_evT (Γ := G_ref13_NextLog N) (Λ := L0) (pout := pout_ref13_NextLog) (kp := kpL []) mixed (orcOf_ok [] (by simp)) Try.func53 (c := bodyOf Try.f53) (by kernel_rfl) (by kernel_rfl) (of_decide_eq_true (by kernel_rfl)) ((F_ref13_NextLog_eq N x).trans hr) (R_ref13_NextLog_eq x r)⟩
def as_log_Gaps : List AS := [.val (.list (.agg (.pair (.int .i64) (.pair (.int .i64) (.pair (.int .i64) (.pair .str (.int .i64)))))))]
def bs_log_Gaps : List BS := []
def pout_log_Gaps : Pat := ⟨[(2, .val (.list (.agg (.pair (.int .i64) (.int .i64)))))], []⟩
noncomputable def G_log_Gaps (w_log_read : Int × Int × Int × (List UInt8) × Int → Option ((Int × Int × Int × (List UInt8) × Int) ⊕ ((Int × Int × Int × (List UInt8) × Int) ⊕ Unit))) (N : Nat) : OrcT := orcOf [conw_log_read w_log_read]
noncomputable def F_log_Gaps (w_log_read : Int × Int × Int × (List UInt8) × Int → Option ((Int × Int × Int × (List UInt8) × Int) ⊕ ((Int × Int × Int × (List UInt8) × Int) ⊕ Unit))) (N : Nat) (x : List (Int × Int × Int × (List UInt8) × Int)) : Option (List (Int × Int)) :=
  (evT (G_log_Gaps w_log_read N) L0 P0 [(3, .loop [9] ⟨[(3, .acc 700003), (11, .val (.int .i64))], [(700003, .nrow 92 (.agg (.pair (.int .i64) (.int .i64))) false true)]⟩ [(.exit 0, ⟨[(3, .val (.list (.agg (.pair (.int .i64) (.int .i64)))))], []⟩)])]
    [] N 400 (bodyOf Try.f55) ⟨56, slots 0 (argsOf as_log_Gaps bs_log_Gaps x), tabU (lbOf as_log_Gaps bs_log_Gaps x) [], []⟩).elim (kRet 56 pout_log_Gaps (kpL []) (lbOf as_log_Gaps bs_log_Gaps x))
def out_log_Gaps (y : List (Int × Int)) : V × List OK × List OK := (valW (.list (.agg (.pair (.int .i64) (.int .i64)))) y, [], [])
noncomputable def V_log_Gaps (w_log_read : Int × Int × Int × (List UInt8) × Int → Option ((Int × Int × Int × (List UInt8) × Int) ⊕ ((Int × Int × Int × (List UInt8) × Int) ⊕ Unit))) (N : Nat) (x : List (Int × Int × Int × (List UInt8) × Int)) : Option (List (Int × Int)) :=
  obind
    (loopN N
      (fun (v : Int × List (Int × Int)) =>
        cnd (decide (Prod.fst v < (↑(List.length x) : Int)))
          (cnd (decide ((0 : Int) ≤ Prod.fst v) && decide (Prod.fst v < (↑(List.length x) : Int)))
            (obind
              (w_log_read
                (Prod.fst (List.getD x (Int.toNat (Prod.fst v)) ((0 : Int), (0 : Int), (0 : Int), [], (0 : Int))),
                  Prod.fst
                    (Prod.snd (List.getD x (Int.toNat (Prod.fst v)) ((0 : Int), (0 : Int), (0 : Int), [], (0 : Int)))),
                  Prod.fst
                    (Prod.snd
                      (Prod.snd (List.getD x (Int.toNat (Prod.fst v)) ((0 : Int), (0 : Int), (0 : Int), [], (0 : Int))))),
                  Prod.fst
                    (Prod.snd
                      (Prod.snd
                        (Prod.snd
                          (List.getD x (Int.toNat (Prod.fst v)) ((0 : Int), (0 : Int), (0 : Int), [], (0 : Int)))))),
                  Prod.snd
                    (Prod.snd
                      (Prod.snd
                        (Prod.snd
                          (List.getD x (Int.toNat (Prod.fst v)) ((0 : Int), (0 : Int), (0 : Int), [], (0 : Int))))))))
              fun (b : Int × Int × Int × List UInt8 × Int ⊕ Int × Int × Int × List UInt8 × Int ⊕ PUnit) =>
              selim
                (fun (b : Int × Int × Int × List UInt8 × Int) =>
                  cnd (decide ((0 : Int) < (↑(List.length (Prod.snd v)) : Int)))
                    (cnd
                      (decide ((0 : Int) ≤ wr IntKind.i64 ((↑(List.length (Prod.snd v)) : Int) - (1 : Int))) &&
                        decide (wr IntKind.i64 ((↑(List.length (Prod.snd v)) : Int) - (1 : Int)) < (↑(List.length (Prod.snd v)) : Int)))
                      (cnd
                        (decide
                          (wr IntKind.i64
                              (Prod.snd
                                  (List.getD (Prod.snd v)
                                    (Int.toNat (wr IntKind.i64 ((↑(List.length (Prod.snd v)) : Int) - (1 : Int))))
                                    ((0 : Int), (0 : Int))) +
                                (1 : Int)) =
                            Prod.fst (Prod.snd b)))
                        (cnd
                          (decide ((0 : Int) ≤ wr IntKind.i64 ((↑(List.length (Prod.snd v)) : Int) - (1 : Int))) &&
                            decide
                              (wr IntKind.i64 ((↑(List.length (Prod.snd v)) : Int) - (1 : Int)) < (↑(List.length (Prod.snd v)) : Int)))
                          (some
                            (Sum.inl
                              (wr IntKind.i64 (Prod.fst v + (1 : Int)),
                                putL (Prod.snd v)
                                  [(Prod.fst
                                        (List.getD (Prod.snd v)
                                          (Int.toNat (wr IntKind.i64 ((↑(List.length (Prod.snd v)) : Int) - (1 : Int))))
                                          ((0 : Int), (0 : Int))),
                                      Prod.fst (Prod.snd (Prod.snd b)))]
                                  (Int.toNat (wr IntKind.i64 ((↑(List.length (Prod.snd v)) : Int) - (1 : Int)))))))
                          none)
                        (cnd
                          (decide
                            ((List.length (Prod.snd v) +
                                  List.length [(Prod.fst (Prod.snd b), Prod.fst (Prod.snd (Prod.snd b)))]) *
                                (16 : Nat) ≤
                              (140737488355328 : Nat)))
                          (some
                            (Sum.inl
                              (wr IntKind.i64 (Prod.fst v + (1 : Int)),
                                Prod.snd v ++ [(Prod.fst (Prod.snd b), Prod.fst (Prod.snd (Prod.snd b)))])))
                          none))
                      none)
                    (cnd
                      (decide
                        ((List.length (Prod.snd v) +
                              List.length [(Prod.fst (Prod.snd b), Prod.fst (Prod.snd (Prod.snd b)))]) *
                            (16 : Nat) ≤
                          (140737488355328 : Nat)))
                      (some
                        (Sum.inl
                          (wr IntKind.i64 (Prod.fst v + (1 : Int)),
                            Prod.snd v ++ [(Prod.fst (Prod.snd b), Prod.fst (Prod.snd (Prod.snd b)))])))
                      none))
                (fun (c : Int × Int × Int × List UInt8 × Int ⊕ PUnit) =>
                  selim
                    (fun (b : Int × Int × Int × List UInt8 × Int) =>
                      some (Sum.inl (wr IntKind.i64 (Prod.fst v + (1 : Int)), Prod.snd v)))
                    (fun (c : PUnit) => some (Sum.inl (wr IntKind.i64 (Prod.fst v + (1 : Int)), Prod.snd v))) c)
                b)
            none)
          (some (Sum.inr (Prod.snd v))))
      ((0 : Int), []))
    fun (b : List (Int × Int)) => some b
theorem FV_log_Gaps_eq (w_log_read : Int × Int × Int × (List UInt8) × Int → Option ((Int × Int × Int × (List UInt8) × Int) ⊕ ((Int × Int × Int × (List UInt8) × Int) ⊕ Unit))) (N : Nat) (x : List (Int × Int × Int × (List UInt8) × Int)) : F_log_Gaps w_log_read N x = V_log_Gaps w_log_read N x := by kernel_rfl
noncomputable def W_log_Gaps (N : Nat) (x : List (Int × Int × Int × (List UInt8) × Int)) : Option (List (Int × Int)) :=
  obind
    (loopN N
      (fun (v : Int × List (Int × Int)) =>
        cnd (decide (Prod.fst v < (↑(List.length x) : Int)))
          (cnd (decide ((0 : Int) ≤ Prod.fst v) && decide (Prod.fst v < (↑(List.length x) : Int)))
            (obind
              (W_log_read N
                (Prod.fst (List.getD x (Int.toNat (Prod.fst v)) ((0 : Int), (0 : Int), (0 : Int), [], (0 : Int))),
                  Prod.fst
                    (Prod.snd (List.getD x (Int.toNat (Prod.fst v)) ((0 : Int), (0 : Int), (0 : Int), [], (0 : Int)))),
                  Prod.fst
                    (Prod.snd
                      (Prod.snd (List.getD x (Int.toNat (Prod.fst v)) ((0 : Int), (0 : Int), (0 : Int), [], (0 : Int))))),
                  Prod.fst
                    (Prod.snd
                      (Prod.snd
                        (Prod.snd
                          (List.getD x (Int.toNat (Prod.fst v)) ((0 : Int), (0 : Int), (0 : Int), [], (0 : Int)))))),
                  Prod.snd
                    (Prod.snd
                      (Prod.snd
                        (Prod.snd
                          (List.getD x (Int.toNat (Prod.fst v)) ((0 : Int), (0 : Int), (0 : Int), [], (0 : Int))))))))
              fun (b : Int × Int × Int × List UInt8 × Int ⊕ Int × Int × Int × List UInt8 × Int ⊕ PUnit) =>
              selim
                (fun (b : Int × Int × Int × List UInt8 × Int) =>
                  cnd (decide ((0 : Int) < (↑(List.length (Prod.snd v)) : Int)))
                    (cnd
                      (decide ((0 : Int) ≤ wr IntKind.i64 ((↑(List.length (Prod.snd v)) : Int) - (1 : Int))) &&
                        decide (wr IntKind.i64 ((↑(List.length (Prod.snd v)) : Int) - (1 : Int)) < (↑(List.length (Prod.snd v)) : Int)))
                      (cnd
                        (decide
                          (wr IntKind.i64
                              (Prod.snd
                                  (List.getD (Prod.snd v)
                                    (Int.toNat (wr IntKind.i64 ((↑(List.length (Prod.snd v)) : Int) - (1 : Int))))
                                    ((0 : Int), (0 : Int))) +
                                (1 : Int)) =
                            Prod.fst (Prod.snd b)))
                        (cnd
                          (decide ((0 : Int) ≤ wr IntKind.i64 ((↑(List.length (Prod.snd v)) : Int) - (1 : Int))) &&
                            decide
                              (wr IntKind.i64 ((↑(List.length (Prod.snd v)) : Int) - (1 : Int)) < (↑(List.length (Prod.snd v)) : Int)))
                          (some
                            (Sum.inl
                              (wr IntKind.i64 (Prod.fst v + (1 : Int)),
                                putL (Prod.snd v)
                                  [(Prod.fst
                                        (List.getD (Prod.snd v)
                                          (Int.toNat (wr IntKind.i64 ((↑(List.length (Prod.snd v)) : Int) - (1 : Int))))
                                          ((0 : Int), (0 : Int))),
                                      Prod.fst (Prod.snd (Prod.snd b)))]
                                  (Int.toNat (wr IntKind.i64 ((↑(List.length (Prod.snd v)) : Int) - (1 : Int)))))))
                          none)
                        (cnd
                          (decide
                            ((List.length (Prod.snd v) +
                                  List.length [(Prod.fst (Prod.snd b), Prod.fst (Prod.snd (Prod.snd b)))]) *
                                (16 : Nat) ≤
                              (140737488355328 : Nat)))
                          (some
                            (Sum.inl
                              (wr IntKind.i64 (Prod.fst v + (1 : Int)),
                                Prod.snd v ++ [(Prod.fst (Prod.snd b), Prod.fst (Prod.snd (Prod.snd b)))])))
                          none))
                      none)
                    (cnd
                      (decide
                        ((List.length (Prod.snd v) +
                              List.length [(Prod.fst (Prod.snd b), Prod.fst (Prod.snd (Prod.snd b)))]) *
                            (16 : Nat) ≤
                          (140737488355328 : Nat)))
                      (some
                        (Sum.inl
                          (wr IntKind.i64 (Prod.fst v + (1 : Int)),
                            Prod.snd v ++ [(Prod.fst (Prod.snd b), Prod.fst (Prod.snd (Prod.snd b)))])))
                      none))
                (fun (c : Int × Int × Int × List UInt8 × Int ⊕ PUnit) =>
                  selim
                    (fun (b : Int × Int × Int × List UInt8 × Int) =>
                      some (Sum.inl (wr IntKind.i64 (Prod.fst v + (1 : Int)), Prod.snd v)))
                    (fun (c : PUnit) => some (Sum.inl (wr IntKind.i64 (Prod.fst v + (1 : Int)), Prod.snd v))) c)
                b)
            none)
          (some (Sum.inr (Prod.snd v))))
      ((0 : Int), []))
    fun (b : List (Int × Int)) => some b
theorem F_log_Gaps_eq (N : Nat) (x : List (Int × Int × Int × (List UInt8) × Int)) : F_log_Gaps (W_log_read N) N x = W_log_Gaps N x := (FV_log_Gaps_eq (W_log_read N) N x).trans (by kernel_rfl)
noncomputable def conw_log_Gaps (w : List (Int × Int × Int × (List UInt8) × Int) → Option (List (Int × Int))) : Con := ⟨55, as_log_Gaps, bs_log_Gaps, List (Int × Int), w, out_log_Gaps⟩
noncomputable def con_log_Gaps (N : Nat) : Con := conw_log_Gaps (W_log_Gaps N)
theorem R_log_Gaps_eq (x : List (Int × Int × Int × (List UInt8) × Int)) (y : List (Int × Int)) : retOf2 P0 Try.f55 (kpL []) (lbOf as_log_Gaps bs_log_Gaps x) (patS ⟨56, [], [], []⟩ pout_log_Gaps y) = some (out_log_Gaps y) := by kernel_rfl
theorem con_log_Gaps_ok (N : Nat) : Con.ok P0 (con_log_Gaps N) := ⟨⟨Try.f55, Try.func55, by kernel_rfl, by kernel_rfl⟩, fun (x : List (Int × Int × Int × (List UInt8) × Int)) (r : List (Int × Int)) (hr : W_log_Gaps N x = some r) =>
  spec2_evT (Γ := G_log_Gaps (W_log_read N) N) (Λ := L0) (pout := pout_log_Gaps) (kp := kpL []) mixed (orcOf_ok _ (by simp only [List.mem_cons, List.not_mem_nil, or_false, forall_eq_or_imp, forall_eq]; exact con_log_read_ok N)) Try.func55 (c := bodyOf Try.f55) (by kernel_rfl) (by kernel_rfl) (of_decide_eq_true (by kernel_rfl)) ((F_log_Gaps_eq N x).trans hr) (R_log_Gaps_eq x r)⟩
def as_ref1_MaySpan : List AS := [.val (.agg (.pair (.int .i64) (.int .i64)))]
def bs_ref1_MaySpan : List BS := []
def pout_ref1_MaySpan : Pat := ⟨[(2, .val .bool)], []⟩
noncomputable def G_ref1_MaySpan  (N : Nat) : OrcT := orcOf []
noncomputable def F_ref1_MaySpan  (N : Nat) (x : Int × Int) : Option (Bool) :=
  (evT (G_ref1_MaySpan  N) L0 P0 []
    [(1000001, .reg [(10, [], ⟨[(1, .ptr 600001 0), (12, .val .bool)], [(600001, .box 92 (.val (.pair (.int .i64) (.int .i64))))]⟩)])] N 400 (bodyOf Try.f81) ⟨18, slots 0 (argsOf as_ref1_MaySpan bs_ref1_MaySpan x), tabU (lbOf as_ref1_MaySpan bs_ref1_MaySpan x) [], []⟩).elim (kRet 18 pout_ref1_MaySpan (kpL []) (lbOf as_ref1_MaySpan bs_ref1_MaySpan x))
def out_ref1_MaySpan (y : Bool) : V × List OK × List OK := (valW .bool y, [], [])
noncomputable def V_ref1_MaySpan  (N : Nat) (x : Int × Int) : Option (Bool) :=
  obind
    (cnd (decide ((1 : Int) ≤ Prod.fst x)) (some (decide (Prod.fst x ≤ Prod.snd x), Prod.fst x, Prod.snd x))
      (some (false, Prod.fst x, Prod.snd x)))
    fun (b : Bool × Int × Int) => cnd (Prod.fst b) (some (decide (Prod.snd (Prod.snd b) ≤ (1000000 : Int)))) (some false)
theorem FV_ref1_MaySpan_eq  (N : Nat) (x : Int × Int) : F_ref1_MaySpan  N x = V_ref1_MaySpan  N x := by kernel_rfl
noncomputable def W_ref1_MaySpan (N : Nat) (x : Int × Int) : Option (Bool) :=
  obind
    (cnd (decide ((1 : Int) ≤ Prod.fst x)) (some (decide (Prod.fst x ≤ Prod.snd x), Prod.fst x, Prod.snd x))
      (some (false, Prod.fst x, Prod.snd x)))
    fun (b : Bool × Int × Int) => cnd (Prod.fst b) (some (decide (Prod.snd (Prod.snd b) ≤ (1000000 : Int)))) (some false)
theorem F_ref1_MaySpan_eq (N : Nat) (x : Int × Int) : F_ref1_MaySpan  N x = W_ref1_MaySpan N x := (FV_ref1_MaySpan_eq  N x).trans (by kernel_rfl)
noncomputable def conw_ref1_MaySpan (w : Int × Int → Option (Bool)) : Con := ⟨81, as_ref1_MaySpan, bs_ref1_MaySpan, Bool, w, out_ref1_MaySpan⟩
noncomputable def con_ref1_MaySpan (N : Nat) : Con := conw_ref1_MaySpan (W_ref1_MaySpan N)
theorem R_ref1_MaySpan_eq (x : Int × Int) (y : Bool) : retOf2 P0 Try.f81 (kpL []) (lbOf as_ref1_MaySpan bs_ref1_MaySpan x) (patS ⟨18, [], [], []⟩ pout_ref1_MaySpan y) = some (out_ref1_MaySpan y) := by kernel_rfl
theorem con_ref1_MaySpan_ok (N : Nat) : Con.ok P0 (con_ref1_MaySpan N) := ⟨⟨Try.f81, Try.func81, by kernel_rfl, by kernel_rfl⟩, fun (x : Int × Int) (r : Bool) (hr : W_ref1_MaySpan N x = some r) =>
  spec2_evT (Γ := G_ref1_MaySpan N) (Λ := L0) (pout := pout_ref1_MaySpan) (kp := kpL []) mixed (orcOf_ok [] (by simp)) Try.func81 (c := bodyOf Try.f81) (by kernel_rfl) (by kernel_rfl) (of_decide_eq_true (by kernel_rfl)) ((F_ref1_MaySpan_eq N x).trans hr) (R_ref1_MaySpan_eq x r)⟩
def as_ref1_AddSpan : List AS := [.val (.list (.agg (.pair (.int .i64) (.int .i64)))), .val (.agg (.pair (.int .i64) (.int .i64)))]
def bs_ref1_AddSpan : List BS := []
def pout_ref1_AddSpan : Pat := ⟨[(4, .val (.list (.agg (.pair (.int .i64) (.int .i64)))))], []⟩
noncomputable def G_ref1_AddSpan (w_ref1_MaySpan : Int × Int → Option (Bool)) (N : Nat) : OrcT := orcOf [conw_ref1_MaySpan w_ref1_MaySpan]
noncomputable def F_ref1_AddSpan (w_ref1_MaySpan : Int × Int → Option (Bool)) (N : Nat) (x : (List (Int × Int)) × Int × Int) : Option (List (Int × Int)) :=
  (evT (G_ref1_AddSpan w_ref1_MaySpan N) L0 P0 [(5, .loop [] ⟨[(3, .ptr 600003 0), (5, .acc 700005), (6, .acc 700006), (7, .val (.int .i64))], [(600003, .box 92 (.val (.pair (.int .i64) (.int .i64)))), (700005, .nrow 92 (.agg (.pair (.int .i64) (.int .i64))) true true), (700006, .nrow 92 (.agg (.pair (.int .i64) (.int .i64))) true true)]⟩ [(.exit 0, ⟨[(3, .ptr 600003 0), (5, .acc 700005), (6, .val (.list (.agg (.pair (.int .i64) (.int .i64)))))], [(600003, .box 92 (.val (.pair (.int .i64) (.int .i64)))), (700005, .nrow 92 (.agg (.pair (.int .i64) (.int .i64))) true true)]⟩)])]
    [] N 400 (bodyOf Try.f64) ⟨77, slots 0 (argsOf as_ref1_AddSpan bs_ref1_AddSpan x), tabU (lbOf as_ref1_AddSpan bs_ref1_AddSpan x) [], []⟩).elim (kRet 77 pout_ref1_AddSpan (kpL []) (lbOf as_ref1_AddSpan bs_ref1_AddSpan x))
def out_ref1_AddSpan (y : List (Int × Int)) : V × List OK × List OK := (valW (.list (.agg (.pair (.int .i64) (.int .i64)))) y, [], [])
noncomputable def V_ref1_AddSpan (w_ref1_MaySpan : Int × Int → Option (Bool)) (N : Nat) (x : (List (Int × Int)) × Int × Int) : Option (List (Int × Int)) :=
  obind (w_ref1_MaySpan (Prod.fst (Prod.snd x), Prod.snd (Prod.snd x))) fun (b : Bool) =>
    cnd (!b) (cnd (decide (List.length (Prod.fst x) * (16 : Nat) ≤ (140737488355328 : Nat))) (some (Prod.fst x)) none)
      (obind
        (loopN N
          (fun (v : Int × (Int × Int) × List (Int × Int) × List (Int × Int)) =>
            cnd (decide (Prod.fst v < (↑(List.length (Prod.fst x)) : Int)))
              (cnd (decide ((0 : Int) ≤ Prod.fst v) && decide (Prod.fst v < (↑(List.length (Prod.fst x)) : Int)))
                (cnd
                  (decide
                    (wr IntKind.i64
                        (Prod.snd (List.getD (Prod.fst x) (Int.toNat (Prod.fst v)) ((0 : Int), (0 : Int))) + (1 : Int)) <
                      Prod.fst (Prod.fst (Prod.snd v))))
                  (cnd (decide ((0 : Int) ≤ Prod.fst v) && decide (Prod.fst v < (↑(List.length (Prod.fst x)) : Int)))
                    (cnd
                      (decide
                        ((List.length (Prod.fst (Prod.snd (Prod.snd v))) +
                              List.length
                                [(Prod.fst (List.getD (Prod.fst x) (Int.toNat (Prod.fst v)) ((0 : Int), (0 : Int))),
                                    Prod.snd (List.getD (Prod.fst x) (Int.toNat (Prod.fst v)) ((0 : Int), (0 : Int))))]) *
                            (16 : Nat) ≤
                          (140737488355328 : Nat)))
                      (some
                        (Sum.inl
                          (wr IntKind.i64 (Prod.fst v + (1 : Int)),
                            (Prod.fst (Prod.fst (Prod.snd v)), Prod.snd (Prod.fst (Prod.snd v))),
                            Prod.fst (Prod.snd (Prod.snd v)) ++
                              [(Prod.fst (List.getD (Prod.fst x) (Int.toNat (Prod.fst v)) ((0 : Int), (0 : Int))),
                                  Prod.snd (List.getD (Prod.fst x) (Int.toNat (Prod.fst v)) ((0 : Int), (0 : Int))))],
                            Prod.snd (Prod.snd (Prod.snd v)))))
                      none)
                    none)
                  (cnd (decide ((0 : Int) ≤ Prod.fst v) && decide (Prod.fst v < (↑(List.length (Prod.fst x)) : Int)))
                    (cnd
                      (decide
                        (wr IntKind.i64 (Prod.snd (Prod.fst (Prod.snd v)) + (1 : Int)) <
                          Prod.fst (List.getD (Prod.fst x) (Int.toNat (Prod.fst v)) ((0 : Int), (0 : Int)))))
                      (cnd (decide ((0 : Int) ≤ Prod.fst v) && decide (Prod.fst v < (↑(List.length (Prod.fst x)) : Int)))
                        (cnd
                          (decide
                            ((List.length (Prod.snd (Prod.snd (Prod.snd v))) +
                                  List.length
                                    [(Prod.fst (List.getD (Prod.fst x) (Int.toNat (Prod.fst v)) ((0 : Int), (0 : Int))),
                                        Prod.snd
                                          (List.getD (Prod.fst x) (Int.toNat (Prod.fst v)) ((0 : Int), (0 : Int))))]) *
                                (16 : Nat) ≤
                              (140737488355328 : Nat)))
                          (some
                            (Sum.inl
                              (wr IntKind.i64 (Prod.fst v + (1 : Int)),
                                (Prod.fst (Prod.fst (Prod.snd v)), Prod.snd (Prod.fst (Prod.snd v))),
                                Prod.fst (Prod.snd (Prod.snd v)),
                                Prod.snd (Prod.snd (Prod.snd v)) ++
                                  [(Prod.fst (List.getD (Prod.fst x) (Int.toNat (Prod.fst v)) ((0 : Int), (0 : Int))),
                                      Prod.snd
                                        (List.getD (Prod.fst x) (Int.toNat (Prod.fst v)) ((0 : Int), (0 : Int))))])))
                          none)
                        none)
                      (cnd (decide ((0 : Int) ≤ Prod.fst v) && decide (Prod.fst v < (↑(List.length (Prod.fst x)) : Int)))
                        (cnd (decide ((0 : Int) ≤ Prod.fst v) && decide (Prod.fst v < (↑(List.length (Prod.fst x)) : Int)))
                          (some
                            (Sum.inl
                              (wr IntKind.i64 (Prod.fst v + (1 : Int)),
                                (min (Prod.fst (Prod.fst (Prod.snd v)))
                                    (Prod.fst (List.getD (Prod.fst x) (Int.toNat (Prod.fst v)) ((0 : Int), (0 : Int)))),
                                  max (Prod.snd (Prod.fst (Prod.snd v)))
                                    (Prod.snd (List.getD (Prod.fst x) (Int.toNat (Prod.fst v)) ((0 : Int), (0 : Int))))),
                                Prod.fst (Prod.snd (Prod.snd v)), Prod.snd (Prod.snd (Prod.snd v)))))
                          none)
                        none))
                    none))
                none)
              (some
                (Sum.inr
                  (Prod.snd (Prod.snd (Prod.snd v)), (Prod.fst (Prod.fst (Prod.snd v)), Prod.snd (Prod.fst (Prod.snd v))),
                    Prod.fst (Prod.snd (Prod.snd v))))))
          ((0 : Int), (Prod.fst (Prod.snd x), Prod.snd (Prod.snd x)), [], []))
        fun (b : List (Int × Int) × (Int × Int) × List (Int × Int)) =>
        cnd
          (decide
            ((List.length (Prod.snd (Prod.snd b)) +
                  List.length [(Prod.fst (Prod.fst (Prod.snd b)), Prod.snd (Prod.fst (Prod.snd b)))]) *
                (16 : Nat) ≤
              (140737488355328 : Nat)))
          (cnd
            (decide
              ((List.length
                      (Prod.snd (Prod.snd b) ++ [(Prod.fst (Prod.fst (Prod.snd b)), Prod.snd (Prod.fst (Prod.snd b)))]) +
                    List.length (Prod.fst b)) *
                  (16 : Nat) ≤
                (140737488355328 : Nat)))
            (some
              (Prod.snd (Prod.snd b) ++ [(Prod.fst (Prod.fst (Prod.snd b)), Prod.snd (Prod.fst (Prod.snd b)))] ++
                Prod.fst b))
            none)
          none)
theorem FV_ref1_AddSpan_eq (w_ref1_MaySpan : Int × Int → Option (Bool)) (N : Nat) (x : (List (Int × Int)) × Int × Int) : F_ref1_AddSpan w_ref1_MaySpan N x = V_ref1_AddSpan w_ref1_MaySpan N x := by kernel_rfl
noncomputable def W_ref1_AddSpan (N : Nat) (x : (List (Int × Int)) × Int × Int) : Option (List (Int × Int)) :=
  obind (W_ref1_MaySpan N (Prod.fst (Prod.snd x), Prod.snd (Prod.snd x))) fun (b : Bool) =>
    cnd (!b) (cnd (decide (List.length (Prod.fst x) * (16 : Nat) ≤ (140737488355328 : Nat))) (some (Prod.fst x)) none)
      (obind
        (loopN N
          (fun (v : Int × (Int × Int) × List (Int × Int) × List (Int × Int)) =>
            cnd (decide (Prod.fst v < (↑(List.length (Prod.fst x)) : Int)))
              (cnd (decide ((0 : Int) ≤ Prod.fst v) && decide (Prod.fst v < (↑(List.length (Prod.fst x)) : Int)))
                (cnd
                  (decide
                    (wr IntKind.i64
                        (Prod.snd (List.getD (Prod.fst x) (Int.toNat (Prod.fst v)) ((0 : Int), (0 : Int))) + (1 : Int)) <
                      Prod.fst (Prod.fst (Prod.snd v))))
                  (cnd (decide ((0 : Int) ≤ Prod.fst v) && decide (Prod.fst v < (↑(List.length (Prod.fst x)) : Int)))
                    (cnd
                      (decide
                        ((List.length (Prod.fst (Prod.snd (Prod.snd v))) +
                              List.length
                                [(Prod.fst (List.getD (Prod.fst x) (Int.toNat (Prod.fst v)) ((0 : Int), (0 : Int))),
                                    Prod.snd (List.getD (Prod.fst x) (Int.toNat (Prod.fst v)) ((0 : Int), (0 : Int))))]) *
                            (16 : Nat) ≤
                          (140737488355328 : Nat)))
                      (some
                        (Sum.inl
                          (wr IntKind.i64 (Prod.fst v + (1 : Int)),
                            (Prod.fst (Prod.fst (Prod.snd v)), Prod.snd (Prod.fst (Prod.snd v))),
                            Prod.fst (Prod.snd (Prod.snd v)) ++
                              [(Prod.fst (List.getD (Prod.fst x) (Int.toNat (Prod.fst v)) ((0 : Int), (0 : Int))),
                                  Prod.snd (List.getD (Prod.fst x) (Int.toNat (Prod.fst v)) ((0 : Int), (0 : Int))))],
                            Prod.snd (Prod.snd (Prod.snd v)))))
                      none)
                    none)
                  (cnd (decide ((0 : Int) ≤ Prod.fst v) && decide (Prod.fst v < (↑(List.length (Prod.fst x)) : Int)))
                    (cnd
                      (decide
                        (wr IntKind.i64 (Prod.snd (Prod.fst (Prod.snd v)) + (1 : Int)) <
                          Prod.fst (List.getD (Prod.fst x) (Int.toNat (Prod.fst v)) ((0 : Int), (0 : Int)))))
                      (cnd (decide ((0 : Int) ≤ Prod.fst v) && decide (Prod.fst v < (↑(List.length (Prod.fst x)) : Int)))
                        (cnd
                          (decide
                            ((List.length (Prod.snd (Prod.snd (Prod.snd v))) +
                                  List.length
                                    [(Prod.fst (List.getD (Prod.fst x) (Int.toNat (Prod.fst v)) ((0 : Int), (0 : Int))),
                                        Prod.snd
                                          (List.getD (Prod.fst x) (Int.toNat (Prod.fst v)) ((0 : Int), (0 : Int))))]) *
                                (16 : Nat) ≤
                              (140737488355328 : Nat)))
                          (some
                            (Sum.inl
                              (wr IntKind.i64 (Prod.fst v + (1 : Int)),
                                (Prod.fst (Prod.fst (Prod.snd v)), Prod.snd (Prod.fst (Prod.snd v))),
                                Prod.fst (Prod.snd (Prod.snd v)),
                                Prod.snd (Prod.snd (Prod.snd v)) ++
                                  [(Prod.fst (List.getD (Prod.fst x) (Int.toNat (Prod.fst v)) ((0 : Int), (0 : Int))),
                                      Prod.snd
                                        (List.getD (Prod.fst x) (Int.toNat (Prod.fst v)) ((0 : Int), (0 : Int))))])))
                          none)
                        none)
                      (cnd (decide ((0 : Int) ≤ Prod.fst v) && decide (Prod.fst v < (↑(List.length (Prod.fst x)) : Int)))
                        (cnd (decide ((0 : Int) ≤ Prod.fst v) && decide (Prod.fst v < (↑(List.length (Prod.fst x)) : Int)))
                          (some
                            (Sum.inl
                              (wr IntKind.i64 (Prod.fst v + (1 : Int)),
                                (min (Prod.fst (Prod.fst (Prod.snd v)))
                                    (Prod.fst (List.getD (Prod.fst x) (Int.toNat (Prod.fst v)) ((0 : Int), (0 : Int)))),
                                  max (Prod.snd (Prod.fst (Prod.snd v)))
                                    (Prod.snd (List.getD (Prod.fst x) (Int.toNat (Prod.fst v)) ((0 : Int), (0 : Int))))),
                                Prod.fst (Prod.snd (Prod.snd v)), Prod.snd (Prod.snd (Prod.snd v)))))
                          none)
                        none))
                    none))
                none)
              (some
                (Sum.inr
                  (Prod.snd (Prod.snd (Prod.snd v)), (Prod.fst (Prod.fst (Prod.snd v)), Prod.snd (Prod.fst (Prod.snd v))),
                    Prod.fst (Prod.snd (Prod.snd v))))))
          ((0 : Int), (Prod.fst (Prod.snd x), Prod.snd (Prod.snd x)), [], []))
        fun (b : List (Int × Int) × (Int × Int) × List (Int × Int)) =>
        cnd
          (decide
            ((List.length (Prod.snd (Prod.snd b)) +
                  List.length [(Prod.fst (Prod.fst (Prod.snd b)), Prod.snd (Prod.fst (Prod.snd b)))]) *
                (16 : Nat) ≤
              (140737488355328 : Nat)))
          (cnd
            (decide
              ((List.length
                      (Prod.snd (Prod.snd b) ++ [(Prod.fst (Prod.fst (Prod.snd b)), Prod.snd (Prod.fst (Prod.snd b)))]) +
                    List.length (Prod.fst b)) *
                  (16 : Nat) ≤
                (140737488355328 : Nat)))
            (some
              (Prod.snd (Prod.snd b) ++ [(Prod.fst (Prod.fst (Prod.snd b)), Prod.snd (Prod.fst (Prod.snd b)))] ++
                Prod.fst b))
            none)
          none)
theorem F_ref1_AddSpan_eq (N : Nat) (x : (List (Int × Int)) × Int × Int) : F_ref1_AddSpan (W_ref1_MaySpan N) N x = W_ref1_AddSpan N x := (FV_ref1_AddSpan_eq (W_ref1_MaySpan N) N x).trans (by kernel_rfl)
noncomputable def conw_ref1_AddSpan (w : (List (Int × Int)) × Int × Int → Option (List (Int × Int))) : Con := ⟨64, as_ref1_AddSpan, bs_ref1_AddSpan, List (Int × Int), w, out_ref1_AddSpan⟩
noncomputable def con_ref1_AddSpan (N : Nat) : Con := conw_ref1_AddSpan (W_ref1_AddSpan N)
theorem R_ref1_AddSpan_eq (x : (List (Int × Int)) × Int × Int) (y : List (Int × Int)) : retOf2 P0 Try.f64 (kpL []) (lbOf as_ref1_AddSpan bs_ref1_AddSpan x) (patS ⟨77, [], [], []⟩ pout_ref1_AddSpan y) = some (out_ref1_AddSpan y) := by kernel_rfl
theorem con_ref1_AddSpan_ok (N : Nat) : Con.ok P0 (con_ref1_AddSpan N) := ⟨⟨Try.f64, Try.func64, by kernel_rfl, by kernel_rfl⟩, fun (x : (List (Int × Int)) × Int × Int) (r : List (Int × Int)) (hr : W_ref1_AddSpan N x = some r) =>
  spec2_evT (Γ := G_ref1_AddSpan (W_ref1_MaySpan N) N) (Λ := L0) (pout := pout_ref1_AddSpan) (kp := kpL []) mixed (orcOf_ok _ (by simp only [List.mem_cons, List.not_mem_nil, or_false, forall_eq_or_imp, forall_eq]; exact con_ref1_MaySpan_ok N)) Try.func64 (c := bodyOf Try.f64) (by kernel_rfl) (by kernel_rfl) (of_decide_eq_true (by kernel_rfl)) ((F_ref1_AddSpan_eq N x).trans hr) (R_ref1_AddSpan_eq x r)⟩
def as_ref13_Gaps : List AS := [.val (.list (.agg (.pair (.int .i64) (.pair (.int .i64) (.pair (.int .i64) (.pair .str (.int .i64)))))))]
def bs_ref13_Gaps : List BS := []
def pout_ref13_Gaps : Pat := ⟨[(2, .val (.list (.agg (.pair (.int .i64) (.int .i64)))))], []⟩
noncomputable def G_ref13_Gaps (w_ref1_AddSpan : (List (Int × Int)) × Int × Int → Option (List (Int × Int))) (N : Nat) : OrcT := orcOf [conw_ref1_AddSpan w_ref1_AddSpan]
noncomputable def F_ref13_Gaps (w_ref1_AddSpan : (List (Int × Int)) × Int × Int → Option (List (Int × Int))) (N : Nat) (x : List (Int × Int × Int × (List UInt8) × Int)) : Option (List (Int × Int)) :=
  (evT (G_ref13_Gaps w_ref1_AddSpan N) L0 P0 [(3, .loop [] ⟨[(3, .val (.list (.agg (.pair (.int .i64) (.int .i64))))), (4, .val (.int .i64))], []⟩ [(.exit 0, ⟨[(3, .val (.list (.agg (.pair (.int .i64) (.int .i64)))))], []⟩)])]
    [] N 400 (bodyOf Try.f56) ⟨31, slots 0 (argsOf as_ref13_Gaps bs_ref13_Gaps x), tabU (lbOf as_ref13_Gaps bs_ref13_Gaps x) [], []⟩).elim (kRet 31 pout_ref13_Gaps (kpL []) (lbOf as_ref13_Gaps bs_ref13_Gaps x))
def out_ref13_Gaps (y : List (Int × Int)) : V × List OK × List OK := (valW (.list (.agg (.pair (.int .i64) (.int .i64)))) y, [], [])
noncomputable def V_ref13_Gaps (w_ref1_AddSpan : (List (Int × Int)) × Int × Int → Option (List (Int × Int))) (N : Nat) (x : List (Int × Int × Int × (List UInt8) × Int)) : Option (List (Int × Int)) :=
  obind
    (loopN N
      (fun (v : List (Int × Int) × Int) =>
        cnd (decide (Prod.snd v < (↑(List.length x) : Int)))
          (cnd (decide ((0 : Int) ≤ Prod.snd v) && decide (Prod.snd v < (↑(List.length x) : Int)))
            (cnd
              (decide
                (Prod.fst (List.getD x (Int.toNat (Prod.snd v)) ((0 : Int), (0 : Int), (0 : Int), [], (0 : Int))) =
                  (2 : Int)))
              (cnd (decide ((0 : Int) ≤ Prod.snd v) && decide (Prod.snd v < (↑(List.length x) : Int)))
                (cnd (decide ((0 : Int) ≤ Prod.snd v) && decide (Prod.snd v < (↑(List.length x) : Int)))
                  (obind
                    (w_ref1_AddSpan
                      (Prod.fst v,
                        Prod.fst
                          (Prod.snd
                            (List.getD x (Int.toNat (Prod.snd v)) ((0 : Int), (0 : Int), (0 : Int), [], (0 : Int)))),
                        Prod.fst
                          (Prod.snd
                            (Prod.snd
                              (List.getD x (Int.toNat (Prod.snd v)) ((0 : Int), (0 : Int), (0 : Int), [], (0 : Int)))))))
                    fun (b : List (Int × Int)) => some (Sum.inl (b, wr IntKind.i64 (Prod.snd v + (1 : Int)))))
                  none)
                none)
              (some (Sum.inl (Prod.fst v, wr IntKind.i64 (Prod.snd v + (1 : Int))))))
            none)
          (some (Sum.inr (Prod.fst v))))
      ([], (0 : Int)))
    fun (b : List (Int × Int)) => some b
theorem FV_ref13_Gaps_eq (w_ref1_AddSpan : (List (Int × Int)) × Int × Int → Option (List (Int × Int))) (N : Nat) (x : List (Int × Int × Int × (List UInt8) × Int)) : F_ref13_Gaps w_ref1_AddSpan N x = V_ref13_Gaps w_ref1_AddSpan N x := by kernel_rfl
noncomputable def W_ref13_Gaps (N : Nat) (x : List (Int × Int × Int × (List UInt8) × Int)) : Option (List (Int × Int)) :=
  obind
    (loopN N
      (fun (v : List (Int × Int) × Int) =>
        cnd (decide (Prod.snd v < (↑(List.length x) : Int)))
          (cnd (decide ((0 : Int) ≤ Prod.snd v) && decide (Prod.snd v < (↑(List.length x) : Int)))
            (cnd
              (decide
                (Prod.fst (List.getD x (Int.toNat (Prod.snd v)) ((0 : Int), (0 : Int), (0 : Int), [], (0 : Int))) =
                  (2 : Int)))
              (cnd (decide ((0 : Int) ≤ Prod.snd v) && decide (Prod.snd v < (↑(List.length x) : Int)))
                (cnd (decide ((0 : Int) ≤ Prod.snd v) && decide (Prod.snd v < (↑(List.length x) : Int)))
                  (obind
                    (W_ref1_AddSpan N
                      (Prod.fst v,
                        Prod.fst
                          (Prod.snd
                            (List.getD x (Int.toNat (Prod.snd v)) ((0 : Int), (0 : Int), (0 : Int), [], (0 : Int)))),
                        Prod.fst
                          (Prod.snd
                            (Prod.snd
                              (List.getD x (Int.toNat (Prod.snd v)) ((0 : Int), (0 : Int), (0 : Int), [], (0 : Int)))))))
                    fun (b : List (Int × Int)) => some (Sum.inl (b, wr IntKind.i64 (Prod.snd v + (1 : Int)))))
                  none)
                none)
              (some (Sum.inl (Prod.fst v, wr IntKind.i64 (Prod.snd v + (1 : Int))))))
            none)
          (some (Sum.inr (Prod.fst v))))
      ([], (0 : Int)))
    fun (b : List (Int × Int)) => some b
theorem F_ref13_Gaps_eq (N : Nat) (x : List (Int × Int × Int × (List UInt8) × Int)) : F_ref13_Gaps (W_ref1_AddSpan N) N x = W_ref13_Gaps N x := (FV_ref13_Gaps_eq (W_ref1_AddSpan N) N x).trans (by kernel_rfl)
noncomputable def conw_ref13_Gaps (w : List (Int × Int × Int × (List UInt8) × Int) → Option (List (Int × Int))) : Con := ⟨56, as_ref13_Gaps, bs_ref13_Gaps, List (Int × Int), w, out_ref13_Gaps⟩
noncomputable def con_ref13_Gaps (N : Nat) : Con := conw_ref13_Gaps (W_ref13_Gaps N)
theorem R_ref13_Gaps_eq (x : List (Int × Int × Int × (List UInt8) × Int)) (y : List (Int × Int)) : retOf2 P0 Try.f56 (kpL []) (lbOf as_ref13_Gaps bs_ref13_Gaps x) (patS ⟨31, [], [], []⟩ pout_ref13_Gaps y) = some (out_ref13_Gaps y) := by kernel_rfl
theorem con_ref13_Gaps_ok (N : Nat) : Con.ok P0 (con_ref13_Gaps N) := ⟨⟨Try.f56, Try.func56, by kernel_rfl, by kernel_rfl⟩, fun (x : List (Int × Int × Int × (List UInt8) × Int)) (r : List (Int × Int)) (hr : W_ref13_Gaps N x = some r) =>
  spec2_evT (Γ := G_ref13_Gaps (W_ref1_AddSpan N) N) (Λ := L0) (pout := pout_ref13_Gaps) (kp := kpL []) mixed (orcOf_ok _ (by simp only [List.mem_cons, List.not_mem_nil, or_false, forall_eq_or_imp, forall_eq]; exact con_ref1_AddSpan_ok N)) Try.func56 (c := bodyOf Try.f56) (by kernel_rfl) (by kernel_rfl) (of_decide_eq_true (by kernel_rfl)) ((F_ref13_Gaps_eq N x).trans hr) (R_ref13_Gaps_eq x r)⟩
def as_ref1_SameSpans : List AS := [.val (.list (.agg (.pair (.int .i64) (.int .i64)))), .val (.list (.agg (.pair (.int .i64) (.int .i64))))]
def bs_ref1_SameSpans : List BS := []
def pout_ref1_SameSpans : Pat := ⟨[(4, .val .bool)], []⟩
noncomputable def G_ref1_SameSpans  (N : Nat) : OrcT := orcOf []
noncomputable def F_ref1_SameSpans  (N : Nat) (x : (List (Int × Int)) × List (Int × Int)) : Option (Bool) :=
  (evT (G_ref1_SameSpans  N) L0 P0 [(4, .loop [] ⟨[(5, .val (.int .i64))], []⟩ [(.exit 0, ⟨[], []⟩), (.ret, ⟨[(4, .val .bool)], []⟩)])]
    [] N 400 (bodyOf Try.f54) ⟨26, slots 0 (argsOf as_ref1_SameSpans bs_ref1_SameSpans x), tabU (lbOf as_ref1_SameSpans bs_ref1_SameSpans x) [], []⟩).elim (kRet 26 pout_ref1_SameSpans (kpL []) (lbOf as_ref1_SameSpans bs_ref1_SameSpans x))
def out_ref1_SameSpans (y : Bool) : V × List OK × List OK := (valW .bool y, [], [])
noncomputable def V_ref1_SameSpans  (N : Nat) (x : (List (Int × Int)) × List (Int × Int)) : Option (Bool) :=
  cnd (decide ((↑(List.length (Prod.fst x)) : Int) ≠ (↑(List.length (Prod.snd x)) : Int))) (some false)
    (obind
      (loopN N
        (fun (v : Int) =>
          cnd (decide (v < (↑(List.length (Prod.fst x)) : Int)))
            (cnd (decide ((0 : Int) ≤ v) && decide (v < (↑(List.length (Prod.fst x)) : Int)))
              (cnd (decide ((0 : Int) ≤ v) && decide (v < (↑(List.length (Prod.snd x)) : Int)))
                (cnd
                  (!(decide
                        (Prod.fst (List.getD (Prod.fst x) (Int.toNat v) ((0 : Int), (0 : Int))) =
                          Prod.fst (List.getD (Prod.snd x) (Int.toNat v) ((0 : Int), (0 : Int)))) &&
                      decide
                        (Prod.snd (List.getD (Prod.fst x) (Int.toNat v) ((0 : Int), (0 : Int))) =
                          Prod.snd (List.getD (Prod.snd x) (Int.toNat v) ((0 : Int), (0 : Int))))))
                  (some (Sum.inr (Sum.inr false))) (some (Sum.inl (wr IntKind.i64 (v + (1 : Int))))))
                none)
              none)
            (some (Sum.inr (Sum.inl ()))))
        (Int.ofNat (0 : Nat)))
      fun (b : PUnit ⊕ Bool) => selim (fun (b : PUnit) => some true) (fun (c : Bool) => some c) b)
theorem FV_ref1_SameSpans_eq  (N : Nat) (x : (List (Int × Int)) × List (Int × Int)) : F_ref1_SameSpans  N x = V_ref1_SameSpans  N x := by kernel_rfl
noncomputable def W_ref1_SameSpans (N : Nat) (x : (List (Int × Int)) × List (Int × Int)) : Option (Bool) :=
  cnd (decide ((↑(List.length (Prod.fst x)) : Int) ≠ (↑(List.length (Prod.snd x)) : Int))) (some false)
    (obind
      (loopN N
        (fun (v : Int) =>
          cnd (decide (v < (↑(List.length (Prod.fst x)) : Int)))
            (cnd (decide ((0 : Int) ≤ v) && decide (v < (↑(List.length (Prod.fst x)) : Int)))
              (cnd (decide ((0 : Int) ≤ v) && decide (v < (↑(List.length (Prod.snd x)) : Int)))
                (cnd
                  (!(decide
                        (Prod.fst (List.getD (Prod.fst x) (Int.toNat v) ((0 : Int), (0 : Int))) =
                          Prod.fst (List.getD (Prod.snd x) (Int.toNat v) ((0 : Int), (0 : Int)))) &&
                      decide
                        (Prod.snd (List.getD (Prod.fst x) (Int.toNat v) ((0 : Int), (0 : Int))) =
                          Prod.snd (List.getD (Prod.snd x) (Int.toNat v) ((0 : Int), (0 : Int))))))
                  (some (Sum.inr (Sum.inr false))) (some (Sum.inl (wr IntKind.i64 (v + (1 : Int))))))
                none)
              none)
            (some (Sum.inr (Sum.inl ()))))
        (Int.ofNat (0 : Nat)))
      fun (b : PUnit ⊕ Bool) => selim (fun (b : PUnit) => some true) (fun (c : Bool) => some c) b)
theorem F_ref1_SameSpans_eq (N : Nat) (x : (List (Int × Int)) × List (Int × Int)) : F_ref1_SameSpans  N x = W_ref1_SameSpans N x := (FV_ref1_SameSpans_eq  N x).trans (by kernel_rfl)
noncomputable def conw_ref1_SameSpans (w : (List (Int × Int)) × List (Int × Int) → Option (Bool)) : Con := ⟨54, as_ref1_SameSpans, bs_ref1_SameSpans, Bool, w, out_ref1_SameSpans⟩
noncomputable def con_ref1_SameSpans (N : Nat) : Con := conw_ref1_SameSpans (W_ref1_SameSpans N)
theorem R_ref1_SameSpans_eq (x : (List (Int × Int)) × List (Int × Int)) (y : Bool) : retOf2 P0 Try.f54 (kpL []) (lbOf as_ref1_SameSpans bs_ref1_SameSpans x) (patS ⟨26, [], [], []⟩ pout_ref1_SameSpans y) = some (out_ref1_SameSpans y) := by kernel_rfl
theorem con_ref1_SameSpans_ok (N : Nat) : Con.ok P0 (con_ref1_SameSpans N) := ⟨⟨Try.f54, Try.func54, by kernel_rfl, by kernel_rfl⟩, fun (x : (List (Int × Int)) × List (Int × Int)) (r : Bool) (hr : W_ref1_SameSpans N x = some r) =>
  spec2_evT (Γ := G_ref1_SameSpans N) (Λ := L0) (pout := pout_ref1_SameSpans) (kp := kpL []) mixed (orcOf_ok [] (by simp)) Try.func54 (c := bodyOf Try.f54) (by kernel_rfl) (by kernel_rfl) (of_decide_eq_true (by kernel_rfl)) ((F_ref1_SameSpans_eq N x).trans hr) (R_ref1_SameSpans_eq x r)⟩
def as_slices_Clone_api_Event : List AS := [.val (.list (.agg (.pair (.int .i64) (.pair (.int .i64) (.pair (.int .i64) (.pair .str (.int .i64)))))))]
def bs_slices_Clone_api_Event : List BS := []
def pout_slices_Clone_api_Event : Pat := ⟨[(2, .acc 700005)], [(700005, .nrow 73 (.agg (.pair (.int .i64) (.pair (.int .i64) (.pair (.int .i64) (.pair .str (.int .i64)))))) false true)]⟩
noncomputable def G_slices_Clone_api_Event  (N : Nat) : OrcT := orcOf []
noncomputable def F_slices_Clone_api_Event  (N : Nat) (x : List (Int × Int × Int × (List UInt8) × Int)) : Option (List (Int × Int × Int × (List UInt8) × Int)) :=
  (evT (G_slices_Clone_api_Event  N) L0 P0 []
    [] N 400 (bodyOf Try.f80) ⟨8, slots 0 [.nl ⟨(.agg (.pair (.int .i64) (.pair (.int .i64) (.pair (.int .i64) (.pair .str (.int .i64)))))), x⟩], tabU (lbOf as_slices_Clone_api_Event bs_slices_Clone_api_Event x) [], []⟩).elim (kRet 8 pout_slices_Clone_api_Event (kpL []) (lbOf as_slices_Clone_api_Event bs_slices_Clone_api_Event x))
def out_slices_Clone_api_Event (y : List (Int × Int × Int × (List UInt8) × Int)) : V × List OK × List OK := (.acc 2000000 0, [], [.nrow 73 false true ⟨(.agg (.pair (.int .i64) (.pair (.int .i64) (.pair (.int .i64) (.pair .str (.int .i64)))))), y⟩])
noncomputable def V_slices_Clone_api_Event  (N : Nat) (x : List (Int × Int × Int × (List UInt8) × Int)) : Option (List (Int × Int × Int × (List UInt8) × Int)) :=
  cnd (decide (List.length x * (48 : Nat) ≤ (140737488355328 : Nat))) (some x) none
theorem FV_slices_Clone_api_Event_eq  (N : Nat) (x : List (Int × Int × Int × (List UInt8) × Int)) : F_slices_Clone_api_Event  N x = V_slices_Clone_api_Event  N x := by kernel_rfl
noncomputable def W_slices_Clone_api_Event (N : Nat) (x : List (Int × Int × Int × (List UInt8) × Int)) : Option (List (Int × Int × Int × (List UInt8) × Int)) :=
  cnd (decide (List.length x * (48 : Nat) ≤ (140737488355328 : Nat))) (some x) none
theorem F_slices_Clone_api_Event_eq (N : Nat) (x : List (Int × Int × Int × (List UInt8) × Int)) : F_slices_Clone_api_Event  N x = W_slices_Clone_api_Event N x := (FV_slices_Clone_api_Event_eq  N x).trans (by kernel_rfl)
noncomputable def conw_slices_Clone_api_Event (w : List (Int × Int × Int × (List UInt8) × Int) → Option (List (Int × Int × Int × (List UInt8) × Int))) : Con := ⟨80, as_slices_Clone_api_Event, bs_slices_Clone_api_Event, List (Int × Int × Int × (List UInt8) × Int), w, out_slices_Clone_api_Event⟩
noncomputable def con_slices_Clone_api_Event (N : Nat) : Con := conw_slices_Clone_api_Event (W_slices_Clone_api_Event N)
theorem R_slices_Clone_api_Event_eq (x : List (Int × Int × Int × (List UInt8) × Int)) (y : List (Int × Int × Int × (List UInt8) × Int)) : retOf2 P0 Try.f80 (kpL []) (lbOf as_slices_Clone_api_Event bs_slices_Clone_api_Event x) (patS ⟨8, [], [], []⟩ pout_slices_Clone_api_Event y) = some (out_slices_Clone_api_Event y) := by kernel_rfl
noncomputable def FA_slices_Clone_api_Event : Option (List (Int × Int × Int × (List UInt8) × Int)) := (evT (G_slices_Clone_api_Event 1) L0 P0 [] [] 1 400 (bodyOf Try.f80) ⟨8, slots 0 [.snil], tabU [] [], []⟩).elim (kRet 8 pout_slices_Clone_api_Event (kpL []) [])
theorem FA_slices_Clone_api_Event_eq : FA_slices_Clone_api_Event = some [] := by kernel_rfl
theorem WN_slices_Clone_api_Event (N : Nat) (r : List (Int × Int × Int × (List UInt8) × Int)) (h : W_slices_Clone_api_Event N [] = some r) : r = [] := by
  have e : W_slices_Clone_api_Event N [] = some [] := by kernel_rfl
  rw [e] at h; injection h with h; exact h.symm
theorem con_slices_Clone_api_Event_ok (N : Nat) : Con.ok P0 (con_slices_Clone_api_Event N) := ⟨⟨Try.f80, Try.func80, by kernel_rfl, by kernel_rfl⟩, fun (x : List (Int × Int × Int × (List UInt8) × Int)) (r : List (Int × Int × Int × (List UInt8) × Int)) (hr : W_slices_Clone_api_Event N x = some r) =>
  clone_split (e := (.agg (.pair (.int .i64) (.pair (.int .i64) (.pair (.int .i64) (.pair .str (.int .i64))))))) (ty := 73) (l := x) (r := r)
    (spec2_evT (Γ := G_slices_Clone_api_Event 1) (Λ := L0) (lb := []) (pout := pout_slices_Clone_api_Event) (kp := kpL []) mixed (orcOf_ok [] (by simp)) Try.func80 (c := bodyOf Try.f80) (by kernel_rfl) (by kernel_rfl) (of_decide_eq_true (by kernel_rfl)) FA_slices_Clone_api_Event_eq (R_slices_Clone_api_Event_eq x []))
    (spec2_evT (Γ := G_slices_Clone_api_Event N) (Λ := L0) (lb := []) (pout := pout_slices_Clone_api_Event) (kp := kpL []) mixed (orcOf_ok [] (by simp)) Try.func80 (c := bodyOf Try.f80) (by kernel_rfl) (by kernel_rfl) (of_decide_eq_true (by kernel_rfl)) ((F_slices_Clone_api_Event_eq N x).trans hr) (R_slices_Clone_api_Event_eq x r))
    (fun h => by subst h; exact WN_slices_Clone_api_Event N r hr)⟩
def as_log_Tell : List AS := [.val (.list (.agg (.pair (.int .i64) (.pair (.int .i64) (.pair (.int .i64) (.pair .str (.int .i64))))))), .val (.int .i64), .val .str]
def bs_log_Tell : List BS := []
def pout_log_Tell : Pat := ⟨[(6, .val (.list (.agg (.pair (.int .i64) (.pair (.int .i64) (.pair (.int .i64) (.pair .str (.int .i64))))))))], []⟩
noncomputable def G_log_Tell (w_slices_Clone_api_Event : List (Int × Int × Int × (List UInt8) × Int) → Option (List (Int × Int × Int × (List UInt8) × Int))) (N : Nat) : OrcT := orcOf [conw_slices_Clone_api_Event w_slices_Clone_api_Event]
noncomputable def F_log_Tell (w_slices_Clone_api_Event : List (Int × Int × Int × (List UInt8) × Int) → Option (List (Int × Int × Int × (List UInt8) × Int))) (N : Nat) (x : (List (Int × Int × Int × (List UInt8) × Int)) × Int × List UInt8) : Option (List (Int × Int × Int × (List UInt8) × Int)) :=
  (evT (G_log_Tell w_slices_Clone_api_Event N) L0 P0 []
    [] N 400 (bodyOf Try.f58) ⟨15, slots 0 (argsOf as_log_Tell bs_log_Tell x), tabU (lbOf as_log_Tell bs_log_Tell x) [], []⟩).elim (kRet 15 pout_log_Tell (kpL []) (lbOf as_log_Tell bs_log_Tell x))
def out_log_Tell (y : List (Int × Int × Int × (List UInt8) × Int)) : V × List OK × List OK := (valW (.list (.agg (.pair (.int .i64) (.pair (.int .i64) (.pair (.int .i64) (.pair .str (.int .i64))))))) y, [], [])
noncomputable def V_log_Tell (w_slices_Clone_api_Event : List (Int × Int × Int × (List UInt8) × Int) → Option (List (Int × Int × Int × (List UInt8) × Int))) (N : Nat) (x : (List (Int × Int × Int × (List UInt8) × Int)) × Int × List UInt8) : Option (List (Int × Int × Int × (List UInt8) × Int)) :=
  obind (w_slices_Clone_api_Event (Prod.fst x)) fun (b : List (Int × Int × Int × List UInt8 × Int)) =>
    cnd
      (decide
        ((List.length b +
              List.length [((1 : Int), Prod.fst (Prod.snd x), Prod.fst (Prod.snd x), Prod.snd (Prod.snd x), (0 : Int))]) *
            (48 : Nat) ≤
          (140737488355328 : Nat)))
      (some (b ++ [((1 : Int), Prod.fst (Prod.snd x), Prod.fst (Prod.snd x), Prod.snd (Prod.snd x), (0 : Int))])) none
theorem FV_log_Tell_eq (w_slices_Clone_api_Event : List (Int × Int × Int × (List UInt8) × Int) → Option (List (Int × Int × Int × (List UInt8) × Int))) (N : Nat) (x : (List (Int × Int × Int × (List UInt8) × Int)) × Int × List UInt8) : F_log_Tell w_slices_Clone_api_Event N x = V_log_Tell w_slices_Clone_api_Event N x := by kernel_rfl
noncomputable def W_log_Tell (N : Nat) (x : (List (Int × Int × Int × (List UInt8) × Int)) × Int × List UInt8) : Option (List (Int × Int × Int × (List UInt8) × Int)) :=
  obind (W_slices_Clone_api_Event N (Prod.fst x)) fun (b : List (Int × Int × Int × List UInt8 × Int)) =>
    cnd
      (decide
        ((List.length b +
              List.length [((1 : Int), Prod.fst (Prod.snd x), Prod.fst (Prod.snd x), Prod.snd (Prod.snd x), (0 : Int))]) *
            (48 : Nat) ≤
          (140737488355328 : Nat)))
      (some (b ++ [((1 : Int), Prod.fst (Prod.snd x), Prod.fst (Prod.snd x), Prod.snd (Prod.snd x), (0 : Int))])) none
theorem F_log_Tell_eq (N : Nat) (x : (List (Int × Int × Int × (List UInt8) × Int)) × Int × List UInt8) : F_log_Tell (W_slices_Clone_api_Event N) N x = W_log_Tell N x := (FV_log_Tell_eq (W_slices_Clone_api_Event N) N x).trans (by kernel_rfl)
noncomputable def conw_log_Tell (w : (List (Int × Int × Int × (List UInt8) × Int)) × Int × List UInt8 → Option (List (Int × Int × Int × (List UInt8) × Int))) : Con := ⟨58, as_log_Tell, bs_log_Tell, List (Int × Int × Int × (List UInt8) × Int), w, out_log_Tell⟩
noncomputable def con_log_Tell (N : Nat) : Con := conw_log_Tell (W_log_Tell N)
theorem R_log_Tell_eq (x : (List (Int × Int × Int × (List UInt8) × Int)) × Int × List UInt8) (y : List (Int × Int × Int × (List UInt8) × Int)) : retOf2 P0 Try.f58 (kpL []) (lbOf as_log_Tell bs_log_Tell x) (patS ⟨15, [], [], []⟩ pout_log_Tell y) = some (out_log_Tell y) := by kernel_rfl
theorem con_log_Tell_ok (N : Nat) : Con.ok P0 (con_log_Tell N) := ⟨⟨Try.f58, Try.func58, by kernel_rfl, by kernel_rfl⟩, fun (x : (List (Int × Int × Int × (List UInt8) × Int)) × Int × List UInt8) (r : List (Int × Int × Int × (List UInt8) × Int)) (hr : W_log_Tell N x = some r) =>
  spec2_evT (Γ := G_log_Tell (W_slices_Clone_api_Event N) N) (Λ := L0) (pout := pout_log_Tell) (kp := kpL []) mixed (orcOf_ok _ (by simp only [List.mem_cons, List.not_mem_nil, or_false, forall_eq_or_imp, forall_eq]; exact con_slices_Clone_api_Event_ok N)) Try.func58 (c := bodyOf Try.f58) (by kernel_rfl) (by kernel_rfl) (of_decide_eq_true (by kernel_rfl)) ((F_log_Tell_eq N x).trans hr) (R_log_Tell_eq x r)⟩
def as_ref13_SameEvents : List AS := [.val (.list (.agg (.pair (.int .i64) (.pair (.int .i64) (.pair (.int .i64) (.pair .str (.int .i64))))))), .val (.list (.agg (.pair (.int .i64) (.pair (.int .i64) (.pair (.int .i64) (.pair .str (.int .i64)))))))]
def bs_ref13_SameEvents : List BS := []
def pout_ref13_SameEvents : Pat := ⟨[(4, .val .bool)], []⟩
noncomputable def G_ref13_SameEvents  (N : Nat) : OrcT := orcOf []
noncomputable def F_ref13_SameEvents  (N : Nat) (x : (List (Int × Int × Int × (List UInt8) × Int)) × List (Int × Int × Int × (List UInt8) × Int)) : Option (Bool) :=
  (evT (G_ref13_SameEvents  N) L0 P0 [(4, .loop [] ⟨[(5, .val (.int .i64))], []⟩ [(.exit 0, ⟨[], []⟩), (.ret, ⟨[(4, .val .bool)], []⟩)])]
    [] N 400 (bodyOf Try.f57) ⟨26, slots 0 (argsOf as_ref13_SameEvents bs_ref13_SameEvents x), tabU (lbOf as_ref13_SameEvents bs_ref13_SameEvents x) [], []⟩).elim (kRet 26 pout_ref13_SameEvents (kpL []) (lbOf as_ref13_SameEvents bs_ref13_SameEvents x))
def out_ref13_SameEvents (y : Bool) : V × List OK × List OK := (valW .bool y, [], [])
noncomputable def V_ref13_SameEvents  (N : Nat) (x : (List (Int × Int × Int × (List UInt8) × Int)) × List (Int × Int × Int × (List UInt8) × Int)) : Option (Bool) :=
  cnd (decide ((↑(List.length (Prod.fst x)) : Int) ≠ (↑(List.length (Prod.snd x)) : Int))) (some false)
    (obind
      (loopN N
        (fun (v : Int) =>
          cnd (decide (v < (↑(List.length (Prod.fst x)) : Int)))
            (cnd (decide ((0 : Int) ≤ v) && decide (v < (↑(List.length (Prod.fst x)) : Int)))
              (cnd (decide ((0 : Int) ≤ v) && decide (v < (↑(List.length (Prod.snd x)) : Int)))
                (cnd
                  (!(decide
                        (Prod.fst
                            (List.getD (Prod.fst x) (Int.toNat v) ((0 : Int), (0 : Int), (0 : Int), [], (0 : Int))) =
                          Prod.fst
                            (List.getD (Prod.snd x) (Int.toNat v) ((0 : Int), (0 : Int), (0 : Int), [], (0 : Int)))) &&
                      (decide
                          (Prod.fst
                              (Prod.snd
                                (List.getD (Prod.fst x) (Int.toNat v) ((0 : Int), (0 : Int), (0 : Int), [], (0 : Int)))) =
                            Prod.fst
                              (Prod.snd
                                (List.getD (Prod.snd x) (Int.toNat v)
                                  ((0 : Int), (0 : Int), (0 : Int), [], (0 : Int))))) &&
                        (decide
                            (Prod.fst
                                (Prod.snd
                                  (Prod.snd
                                    (List.getD (Prod.fst x) (Int.toNat v)
                                      ((0 : Int), (0 : Int), (0 : Int), [], (0 : Int))))) =
                              Prod.fst
                                (Prod.snd
                                  (Prod.snd
                                    (List.getD (Prod.snd x) (Int.toNat v)
                                      ((0 : Int), (0 : Int), (0 : Int), [], (0 : Int)))))) &&
                          (Prod.fst
                                (Prod.snd
                                  (Prod.snd
                                    (Prod.snd
                                      (List.getD (Prod.fst x) (Int.toNat v)
                                        ((0 : Int), (0 : Int), (0 : Int), [], (0 : Int)))))) ==
                              Prod.fst
                                (Prod.snd
                                  (Prod.snd
                                    (Prod.snd
                                      (List.getD (Prod.snd x) (Int.toNat v)
                                        ((0 : Int), (0 : Int), (0 : Int), [], (0 : Int)))))) &&
                            decide
                              (Prod.snd
                                  (Prod.snd
                                    (Prod.snd
                                      (Prod.snd
                                        (List.getD (Prod.fst x) (Int.toNat v)
                                          ((0 : Int), (0 : Int), (0 : Int), [], (0 : Int)))))) =
                                Prod.snd
                                  (Prod.snd
                                    (Prod.snd
                                      (Prod.snd
                                        (List.getD (Prod.snd x) (Int.toNat v)
                                          ((0 : Int), (0 : Int), (0 : Int), [], (0 : Int))))))))))))
                  (some (Sum.inr (Sum.inr false))) (some (Sum.inl (wr IntKind.i64 (v + (1 : Int))))))
                none)
              none)
            (some (Sum.inr (Sum.inl ()))))
        (Int.ofNat (0 : Nat)))
      fun (b : PUnit ⊕ Bool) => selim (fun (b : PUnit) => some true) (fun (c : Bool) => some c) b)
theorem FV_ref13_SameEvents_eq  (N : Nat) (x : (List (Int × Int × Int × (List UInt8) × Int)) × List (Int × Int × Int × (List UInt8) × Int)) : F_ref13_SameEvents  N x = V_ref13_SameEvents  N x := by kernel_rfl
noncomputable def W_ref13_SameEvents (N : Nat) (x : (List (Int × Int × Int × (List UInt8) × Int)) × List (Int × Int × Int × (List UInt8) × Int)) : Option (Bool) :=
  cnd (decide ((↑(List.length (Prod.fst x)) : Int) ≠ (↑(List.length (Prod.snd x)) : Int))) (some false)
    (obind
      (loopN N
        (fun (v : Int) =>
          cnd (decide (v < (↑(List.length (Prod.fst x)) : Int)))
            (cnd (decide ((0 : Int) ≤ v) && decide (v < (↑(List.length (Prod.fst x)) : Int)))
              (cnd (decide ((0 : Int) ≤ v) && decide (v < (↑(List.length (Prod.snd x)) : Int)))
                (cnd
                  (!(decide
                        (Prod.fst
                            (List.getD (Prod.fst x) (Int.toNat v) ((0 : Int), (0 : Int), (0 : Int), [], (0 : Int))) =
                          Prod.fst
                            (List.getD (Prod.snd x) (Int.toNat v) ((0 : Int), (0 : Int), (0 : Int), [], (0 : Int)))) &&
                      (decide
                          (Prod.fst
                              (Prod.snd
                                (List.getD (Prod.fst x) (Int.toNat v) ((0 : Int), (0 : Int), (0 : Int), [], (0 : Int)))) =
                            Prod.fst
                              (Prod.snd
                                (List.getD (Prod.snd x) (Int.toNat v)
                                  ((0 : Int), (0 : Int), (0 : Int), [], (0 : Int))))) &&
                        (decide
                            (Prod.fst
                                (Prod.snd
                                  (Prod.snd
                                    (List.getD (Prod.fst x) (Int.toNat v)
                                      ((0 : Int), (0 : Int), (0 : Int), [], (0 : Int))))) =
                              Prod.fst
                                (Prod.snd
                                  (Prod.snd
                                    (List.getD (Prod.snd x) (Int.toNat v)
                                      ((0 : Int), (0 : Int), (0 : Int), [], (0 : Int)))))) &&
                          (Prod.fst
                                (Prod.snd
                                  (Prod.snd
                                    (Prod.snd
                                      (List.getD (Prod.fst x) (Int.toNat v)
                                        ((0 : Int), (0 : Int), (0 : Int), [], (0 : Int)))))) ==
                              Prod.fst
                                (Prod.snd
                                  (Prod.snd
                                    (Prod.snd
                                      (List.getD (Prod.snd x) (Int.toNat v)
                                        ((0 : Int), (0 : Int), (0 : Int), [], (0 : Int)))))) &&
                            decide
                              (Prod.snd
                                  (Prod.snd
                                    (Prod.snd
                                      (Prod.snd
                                        (List.getD (Prod.fst x) (Int.toNat v)
                                          ((0 : Int), (0 : Int), (0 : Int), [], (0 : Int)))))) =
                                Prod.snd
                                  (Prod.snd
                                    (Prod.snd
                                      (Prod.snd
                                        (List.getD (Prod.snd x) (Int.toNat v)
                                          ((0 : Int), (0 : Int), (0 : Int), [], (0 : Int))))))))))))
                  (some (Sum.inr (Sum.inr false))) (some (Sum.inl (wr IntKind.i64 (v + (1 : Int))))))
                none)
              none)
            (some (Sum.inr (Sum.inl ()))))
        (Int.ofNat (0 : Nat)))
      fun (b : PUnit ⊕ Bool) => selim (fun (b : PUnit) => some true) (fun (c : Bool) => some c) b)
theorem F_ref13_SameEvents_eq (N : Nat) (x : (List (Int × Int × Int × (List UInt8) × Int)) × List (Int × Int × Int × (List UInt8) × Int)) : F_ref13_SameEvents  N x = W_ref13_SameEvents N x := (FV_ref13_SameEvents_eq  N x).trans (by kernel_rfl)
noncomputable def conw_ref13_SameEvents (w : (List (Int × Int × Int × (List UInt8) × Int)) × List (Int × Int × Int × (List UInt8) × Int) → Option (Bool)) : Con := ⟨57, as_ref13_SameEvents, bs_ref13_SameEvents, Bool, w, out_ref13_SameEvents⟩
noncomputable def con_ref13_SameEvents (N : Nat) : Con := conw_ref13_SameEvents (W_ref13_SameEvents N)
theorem R_ref13_SameEvents_eq (x : (List (Int × Int × Int × (List UInt8) × Int)) × List (Int × Int × Int × (List UInt8) × Int)) (y : Bool) : retOf2 P0 Try.f57 (kpL []) (lbOf as_ref13_SameEvents bs_ref13_SameEvents x) (patS ⟨26, [], [], []⟩ pout_ref13_SameEvents y) = some (out_ref13_SameEvents y) := by kernel_rfl
theorem con_ref13_SameEvents_ok (N : Nat) : Con.ok P0 (con_ref13_SameEvents N) := ⟨⟨Try.f57, Try.func57, by kernel_rfl, by kernel_rfl⟩, fun (x : (List (Int × Int × Int × (List UInt8) × Int)) × List (Int × Int × Int × (List UInt8) × Int)) (r : Bool) (hr : W_ref13_SameEvents N x = some r) =>
  spec2_evT (Γ := G_ref13_SameEvents N) (Λ := L0) (pout := pout_ref13_SameEvents) (kp := kpL []) mixed (orcOf_ok [] (by simp)) Try.func57 (c := bodyOf Try.f57) (by kernel_rfl) (by kernel_rfl) (of_decide_eq_true (by kernel_rfl)) ((F_ref13_SameEvents_eq N x).trans hr) (R_ref13_SameEvents_eq x r)⟩
def as_log_Skip : List AS := [.val (.list (.agg (.pair (.int .i64) (.pair (.int .i64) (.pair (.int .i64) (.pair .str (.int .i64))))))), .val (.int .i64), .val (.int .i64), .val (.int .i64)]
def bs_log_Skip : List BS := []
def pout_log_Skip : Pat := ⟨[(8, .val (.list (.agg (.pair (.int .i64) (.pair (.int .i64) (.pair (.int .i64) (.pair .str (.int .i64))))))))], []⟩
noncomputable def G_log_Skip (w_slices_Clone_api_Event : List (Int × Int × Int × (List UInt8) × Int) → Option (List (Int × Int × Int × (List UInt8) × Int))) (N : Nat) : OrcT := orcOf [conw_slices_Clone_api_Event w_slices_Clone_api_Event]
noncomputable def F_log_Skip (w_slices_Clone_api_Event : List (Int × Int × Int × (List UInt8) × Int) → Option (List (Int × Int × Int × (List UInt8) × Int))) (N : Nat) (x : (List (Int × Int × Int × (List UInt8) × Int)) × Int × Int × Int) : Option (List (Int × Int × Int × (List UInt8) × Int)) :=
  (evT (G_log_Skip w_slices_Clone_api_Event N) L0 P0 []
    [] N 400 (bodyOf Try.f60) ⟨17, slots 0 (argsOf as_log_Skip bs_log_Skip x), tabU (lbOf as_log_Skip bs_log_Skip x) [], []⟩).elim (kRet 17 pout_log_Skip (kpL []) (lbOf as_log_Skip bs_log_Skip x))
def out_log_Skip (y : List (Int × Int × Int × (List UInt8) × Int)) : V × List OK × List OK := (valW (.list (.agg (.pair (.int .i64) (.pair (.int .i64) (.pair (.int .i64) (.pair .str (.int .i64))))))) y, [], [])
noncomputable def V_log_Skip (w_slices_Clone_api_Event : List (Int × Int × Int × (List UInt8) × Int) → Option (List (Int × Int × Int × (List UInt8) × Int))) (N : Nat) (x : (List (Int × Int × Int × (List UInt8) × Int)) × Int × Int × Int) : Option (List (Int × Int × Int × (List UInt8) × Int)) :=
  obind (w_slices_Clone_api_Event (Prod.fst x)) fun (b : List (Int × Int × Int × List UInt8 × Int)) =>
    cnd
      (decide
        ((List.length b +
              (1 : Nat)) *
            (48 : Nat) ≤
          (140737488355328 : Nat)))
      (some
        (b ++
          [((2 : Int), Prod.fst (Prod.snd x), Prod.fst (Prod.snd (Prod.snd x)), [], Prod.snd (Prod.snd (Prod.snd x)))]))
      none
theorem FV_log_Skip_eq (w_slices_Clone_api_Event : List (Int × Int × Int × (List UInt8) × Int) → Option (List (Int × Int × Int × (List UInt8) × Int))) (N : Nat) (x : (List (Int × Int × Int × (List UInt8) × Int)) × Int × Int × Int) : F_log_Skip w_slices_Clone_api_Event N x = V_log_Skip w_slices_Clone_api_Event N x := by kernel_rfl
noncomputable def W_log_Skip (N : Nat) (x : (List (Int × Int × Int × (List UInt8) × Int)) × Int × Int × Int) : Option (List (Int × Int × Int × (List UInt8) × Int)) :=
  obind (W_slices_Clone_api_Event N (Prod.fst x)) fun (b : List (Int × Int × Int × List UInt8 × Int)) =>
    cnd
      (decide
        ((List.length b +
              (1 : Nat)) *
            (48 : Nat) ≤
          (140737488355328 : Nat)))
      (some
        (b ++
          [((2 : Int), Prod.fst (Prod.snd x), Prod.fst (Prod.snd (Prod.snd x)), [], Prod.snd (Prod.snd (Prod.snd x)))]))
      none
theorem F_log_Skip_eq (N : Nat) (x : (List (Int × Int × Int × (List UInt8) × Int)) × Int × Int × Int) : F_log_Skip (W_slices_Clone_api_Event N) N x = W_log_Skip N x := (FV_log_Skip_eq (W_slices_Clone_api_Event N) N x).trans (by kernel_rfl)
noncomputable def conw_log_Skip (w : (List (Int × Int × Int × (List UInt8) × Int)) × Int × Int × Int → Option (List (Int × Int × Int × (List UInt8) × Int))) : Con := ⟨60, as_log_Skip, bs_log_Skip, List (Int × Int × Int × (List UInt8) × Int), w, out_log_Skip⟩
noncomputable def con_log_Skip (N : Nat) : Con := conw_log_Skip (W_log_Skip N)
theorem R_log_Skip_eq (x : (List (Int × Int × Int × (List UInt8) × Int)) × Int × Int × Int) (y : List (Int × Int × Int × (List UInt8) × Int)) : retOf2 P0 Try.f60 (kpL []) (lbOf as_log_Skip bs_log_Skip x) (patS ⟨17, [], [], []⟩ pout_log_Skip y) = some (out_log_Skip y) := by kernel_rfl
theorem con_log_Skip_ok (N : Nat) : Con.ok P0 (con_log_Skip N) := ⟨⟨Try.f60, Try.func60, by kernel_rfl, by kernel_rfl⟩, fun (x : (List (Int × Int × Int × (List UInt8) × Int)) × Int × Int × Int) (r : List (Int × Int × Int × (List UInt8) × Int)) (hr : W_log_Skip N x = some r) =>
  spec2_evT (Γ := G_log_Skip (W_slices_Clone_api_Event N) N) (Λ := L0) (pout := pout_log_Skip) (kp := kpL []) mixed (orcOf_ok _ (by simp only [List.mem_cons, List.not_mem_nil, or_false, forall_eq_or_imp, forall_eq]; exact con_slices_Clone_api_Event_ok N)) Try.func60 (c := bodyOf Try.f60) (by kernel_rfl) (by kernel_rfl) (of_decide_eq_true (by kernel_rfl)) ((F_log_Skip_eq N x).trans hr) (R_log_Skip_eq x r)⟩
def as_law16_LogAll : List AS := [.val (.list (.agg (.pair (.int .u8) (.int .u8)))), .val (.int .u8), .val (.agg (.pair (.int .i64) (.pair (.int .i64) (.pair (.int .i64) (.pair .str (.int .i64)))))), .val (.int .u8), .val (.int .i64), .val (.int .i64), .val (.int .i64)]
def bs_law16_LogAll : List BS := []
def pout_law16_LogAll : Pat := ⟨[(14, .val .bool)], []⟩
noncomputable def G_law16_LogAll (w_law16_Logs : (List (Int × Int)) × Int → Option (List (Int × Int × Int × (List UInt8) × Int))) (w_log_May : (List (Int × Int × Int × (List UInt8) × Int)) × Int → Option (Bool)) (w_ref13_MayLog : (List (Int × Int × Int × (List UInt8) × Int)) × Int → Option (Bool)) (w_log_Next : (List (Int × Int × Int × (List UInt8) × Int)) × Int → Option (Int)) (w_ref13_NextLog : (List (Int × Int × Int × (List UInt8) × Int)) × Int → Option (Int)) (w_log_Gaps : List (Int × Int × Int × (List UInt8) × Int) → Option (List (Int × Int))) (w_ref13_Gaps : List (Int × Int × Int × (List UInt8) × Int) → Option (List (Int × Int))) (w_ref1_SameSpans : (List (Int × Int)) × List (Int × Int) → Option (Bool)) (w_log_Tell : (List (Int × Int × Int × (List UInt8) × Int)) × Int × List UInt8 → Option (List (Int × Int × Int × (List UInt8) × Int))) (w_ref13_Tell : (List (Int × Int × Int × (List UInt8) × Int)) × Int × List UInt8 → Option (List (Int × Int × Int × (List UInt8) × Int))) (w_ref13_SameEvents : (List (Int × Int × Int × (List UInt8) × Int)) × List (Int × Int × Int × (List UInt8) × Int) → Option (Bool)) (w_log_Skip : (List (Int × Int × Int × (List UInt8) × Int)) × Int × Int × Int → Option (List (Int × Int × Int × (List UInt8) × Int))) (w_ref13_Skip : (List (Int × Int × Int × (List UInt8) × Int)) × Int × Int × Int → Option (List (Int × Int × Int × (List UInt8) × Int))) (N : Nat) : OrcT := orcOf [con_law16_begun N, conw_law16_Logs w_law16_Logs, conw_log_May w_log_May, conw_ref13_MayLog w_ref13_MayLog, conw_log_Next w_log_Next, conw_ref13_NextLog w_ref13_NextLog, conw_log_Gaps w_log_Gaps, conw_ref13_Gaps w_ref13_Gaps, conw_ref1_SameSpans w_ref1_SameSpans, conw_log_Tell w_log_Tell, conw_ref13_Tell w_ref13_Tell, conw_ref13_SameEvents w_ref13_SameEvents, conw_log_Skip w_log_Skip, conw_ref13_Skip w_ref13_Skip]
noncomputable def F_law16_LogAll (w_law16_Logs : (List (Int × Int)) × Int → Option (List (Int × Int × Int × (List UInt8) × Int))) (w_log_May : (List (Int × Int × Int × (List UInt8) × Int)) × Int → Option (Bool)) (w_ref13_MayLog : (List (Int × Int × Int × (List UInt8) × Int)) × Int → Option (Bool)) (w_log_Next : (List (Int × Int × Int × (List UInt8) × Int)) × Int → Option (Int)) (w_ref13_NextLog : (List (Int × Int × Int × (List UInt8) × Int)) × Int → Option (Int)) (w_log_Gaps : List (Int × Int × Int × (List UInt8) × Int) → Option (List (Int × Int))) (w_ref13_Gaps : List (Int × Int × Int × (List UInt8) × Int) → Option (List (Int × Int))) (w_ref1_SameSpans : (List (Int × Int)) × List (Int × Int) → Option (Bool)) (w_log_Tell : (List (Int × Int × Int × (List UInt8) × Int)) × Int × List UInt8 → Option (List (Int × Int × Int × (List UInt8) × Int))) (w_ref13_Tell : (List (Int × Int × Int × (List UInt8) × Int)) × Int × List UInt8 → Option (List (Int × Int × Int × (List UInt8) × Int))) (w_ref13_SameEvents : (List (Int × Int × Int × (List UInt8) × Int)) × List (Int × Int × Int × (List UInt8) × Int) → Option (Bool)) (w_log_Skip : (List (Int × Int × Int × (List UInt8) × Int)) × Int × Int × Int → Option (List (Int × Int × Int × (List UInt8) × Int))) (w_ref13_Skip : (List (Int × Int × Int × (List UInt8) × Int)) × Int × Int × Int → Option (List (Int × Int × Int × (List UInt8) × Int))) (N : Nat) (x : (List (Int × Int)) × Int × (Int × Int × Int × (List UInt8) × Int) × Int × Int × Int × Int) : Option (Bool) :=
  (evT (G_law16_LogAll w_law16_Logs w_log_May w_ref13_MayLog w_log_Next w_ref13_NextLog w_log_Gaps w_ref13_Gaps w_ref1_SameSpans w_log_Tell w_ref13_Tell w_ref13_SameEvents w_log_Skip w_ref13_Skip N) L0 P0 [(15, .unroll 4)]
    [(18, .cut [16, 19] [(.normal, ⟨[(110, .val .bool)], []⟩)]),
    (20, .cut [16, 19] [(.normal, ⟨[(145, .val .bool)], []⟩)]),
    (19, .cut [16, 19] [(.normal, ⟨[], []⟩), (.ret, ⟨[(14, .val .bool)], []⟩)]),
    (16, .cut [16, 19] [(.normal, ⟨[], []⟩), (.ret, ⟨[(14, .val .bool)], []⟩)]),
    (1000021, .reg [(12, [16], ⟨[(157, .val .bool)], []⟩)]),
    (13, .cut [16, 17] [(.normal, ⟨[(18, .val (.list (.agg (.pair (.int .i64) (.pair (.int .i64) (.pair (.int .i64) (.pair .str (.int .i64))))))))], []⟩)]),
    (10, .cut [16] [(.normal, ⟨[(17, .val (.list (.agg (.pair (.int .i64) (.pair (.int .i64) (.pair (.int .i64) (.pair .str (.int .i64))))))))], []⟩)])] N 400 (bodyOf Try.f12) ⟨171, slots 0 (argsOf as_law16_LogAll bs_law16_LogAll x), tabU (lbOf as_law16_LogAll bs_law16_LogAll x) [], []⟩).elim (kRet 171 pout_law16_LogAll (kpL []) (lbOf as_law16_LogAll bs_law16_LogAll x))
def out_law16_LogAll (y : Bool) : V × List OK × List OK := (valW .bool y, [], [])
noncomputable def V_law16_LogAll (w_law16_Logs : (List (Int × Int)) × Int → Option (List (Int × Int × Int × (List UInt8) × Int))) (w_log_May : (List (Int × Int × Int × (List UInt8) × Int)) × Int → Option (Bool)) (w_ref13_MayLog : (List (Int × Int × Int × (List UInt8) × Int)) × Int → Option (Bool)) (w_log_Next : (List (Int × Int × Int × (List UInt8) × Int)) × Int → Option (Int)) (w_ref13_NextLog : (List (Int × Int × Int × (List UInt8) × Int)) × Int → Option (Int)) (w_log_Gaps : List (Int × Int × Int × (List UInt8) × Int) → Option (List (Int × Int))) (w_ref13_Gaps : List (Int × Int × Int × (List UInt8) × Int) → Option (List (Int × Int))) (w_ref1_SameSpans : (List (Int × Int)) × List (Int × Int) → Option (Bool)) (w_log_Tell : (List (Int × Int × Int × (List UInt8) × Int)) × Int × List UInt8 → Option (List (Int × Int × Int × (List UInt8) × Int))) (w_ref13_Tell : (List (Int × Int × Int × (List UInt8) × Int)) × Int × List UInt8 → Option (List (Int × Int × Int × (List UInt8) × Int))) (w_ref13_SameEvents : (List (Int × Int × Int × (List UInt8) × Int)) × List (Int × Int × Int × (List UInt8) × Int) → Option (Bool)) (w_log_Skip : (List (Int × Int × Int × (List UInt8) × Int)) × Int × Int × Int → Option (List (Int × Int × Int × (List UInt8) × Int))) (w_ref13_Skip : (List (Int × Int × Int × (List UInt8) × Int)) × Int × Int × Int → Option (List (Int × Int × Int × (List UInt8) × Int))) (N : Nat) (x : (List (Int × Int)) × Int × (Int × Int × Int × (List UInt8) × Int) × Int × Int × Int × Int) : Option (Bool) :=
  cnd (decide ((15 : Int) < (↑(List.length (Prod.fst x)) : Int))) (some true)
    (cnd
      (decide
        ((30 : Int) < (↑(List.length (Prod.fst (Prod.snd (Prod.snd (Prod.snd (Prod.fst (Prod.snd (Prod.snd x)))))))) : Int)))
      (some true)
      (obind
        (w_law16_Logs
          (Prod.fst x, wr IntKind.i64 ((1 : Int) + wr IntKind.i64 (Int.tmod (Prod.fst (Prod.snd x)) (9 : Int)))))
        fun (b : List (Int × Int × Int × List UInt8 × Int)) =>
        cnd (decide (List.length b * (48 : Nat) ≤ (140737488355328 : Nat)))
          (obind
            (cnd (decide ((0 : Int) < (↑(List.length b) : Int)))
              (cnd (!decide ((↑(List.length b) : Int) = (0 : Int)))
                (cnd
                  (decide
                      ((0 : Int) ≤
                        Int.tmod (wr IntKind.i64 (Prod.fst (Prod.snd (Prod.snd (Prod.snd x))))) (↑(List.length b) : Int)) &&
                    decide
                      (Int.tmod (wr IntKind.i64 (Prod.fst (Prod.snd (Prod.snd (Prod.snd x))))) (↑(List.length b) : Int) <
                        (↑(List.length b) : Int)))
                  (some
                    (putL b
                      [(Prod.fst (Prod.fst (Prod.snd (Prod.snd x))),
                          Prod.fst (Prod.snd (Prod.fst (Prod.snd (Prod.snd x)))),
                          Prod.fst (Prod.snd (Prod.snd (Prod.fst (Prod.snd (Prod.snd x))))),
                          Prod.fst (Prod.snd (Prod.snd (Prod.snd (Prod.fst (Prod.snd (Prod.snd x)))))),
                          Prod.snd (Prod.snd (Prod.snd (Prod.snd (Prod.fst (Prod.snd (Prod.snd x)))))))]
                      (Int.toNat
                        (Int.tmod (wr IntKind.i64 (Prod.fst (Prod.snd (Prod.snd (Prod.snd x))))) (↑(List.length b) : Int)))))
                  none)
                none)
              (some b))
            fun (b_1 : List (Int × Int × Int × List UInt8 × Int)) =>
            obind
              (cnd (decide ((0 : Int) < (↑(List.length b) : Int)))
                (cnd (!decide ((↑(List.length b) : Int) = (0 : Int)))
                  (cnd
                    (decide
                        ((0 : Int) ≤
                          Int.tmod (wr IntKind.i64 (Prod.fst (Prod.snd (Prod.snd (Prod.snd x))))) (↑(List.length b) : Int)) &&
                      decide
                        (Int.tmod (wr IntKind.i64 (Prod.fst (Prod.snd (Prod.snd (Prod.snd x))))) (↑(List.length b) : Int) ≤
                          (↑(List.length b) : Int)))
                    (cnd
                      (decide
                        (List.length
                              (List.drop (0 : Nat)
                                (List.take
                                  (Int.toNat
                                    (Int.tmod (wr IntKind.i64 (Prod.fst (Prod.snd (Prod.snd (Prod.snd x)))))
                                      (↑(List.length b) : Int)))
                                  b)) *
                            (48 : Nat) ≤
                          (140737488355328 : Nat)))
                      (cnd (!decide ((↑(List.length b) : Int) = (0 : Int)))
                        (cnd
                          (decide
                              ((0 : Int) ≤
                                wr IntKind.i64
                                  (Int.tmod (wr IntKind.i64 (Prod.fst (Prod.snd (Prod.snd (Prod.snd x)))))
                                      (↑(List.length b) : Int) +
                                    (1 : Int))) &&
                            decide
                              (wr IntKind.i64
                                  (Int.tmod (wr IntKind.i64 (Prod.fst (Prod.snd (Prod.snd (Prod.snd x)))))
                                      (↑(List.length b) : Int) +
                                    (1 : Int)) ≤
                                (↑(List.length b) : Int)))
                          (cnd
                            (decide
                              ((List.length
                                      (List.drop (0 : Nat)
                                        (List.take
                                          (Int.toNat
                                            (Int.tmod (wr IntKind.i64 (Prod.fst (Prod.snd (Prod.snd (Prod.snd x)))))
                                              (↑(List.length b) : Int)))
                                          b)) +
                                    List.length
                                      (List.drop
                                        (Int.toNat
                                          (wr IntKind.i64
                                            (Int.tmod (wr IntKind.i64 (Prod.fst (Prod.snd (Prod.snd (Prod.snd x)))))
                                                (↑(List.length b) : Int) +
                                              (1 : Int))))
                                        (List.take (List.length b) b))) *
                                  (48 : Nat) ≤
                                (140737488355328 : Nat)))
                            (some
                              (List.drop (0 : Nat)
                                  (List.take
                                    (Int.toNat
                                      (Int.tmod (wr IntKind.i64 (Prod.fst (Prod.snd (Prod.snd (Prod.snd x)))))
                                        (↑(List.length b) : Int)))
                                    b) ++
                                List.drop
                                  (Int.toNat
                                    (wr IntKind.i64
                                      (Int.tmod (wr IntKind.i64 (Prod.fst (Prod.snd (Prod.snd (Prod.snd x)))))
                                          (↑(List.length b) : Int) +
                                        (1 : Int))))
                                  (List.take (List.length b) b)))
                            none)
                          none)
                        none)
                      none)
                    none)
                  none)
                (some b))
              fun (b_2 : List (Int × Int × Int × List UInt8 × Int)) =>
              obind
                (obind
                  (obind
                    (obind
                      (w_log_May
                        (b, wr IntKind.i64 ((1 : Int) + wr IntKind.i64 (Int.tmod (Prod.fst (Prod.snd x)) (9 : Int)))))
                      fun (b_3 : Bool) =>
                      obind
                        (w_ref13_MayLog
                          (b, wr IntKind.i64 ((1 : Int) + wr IntKind.i64 (Int.tmod (Prod.fst (Prod.snd x)) (9 : Int)))))
                        fun (b_4 : Bool) =>
                        cnd (!b_3 == b_4) (some true)
                          (obind (w_log_May (b, Prod.fst (Prod.snd (Prod.snd (Prod.snd (Prod.snd x))))))
                            fun (b_5 : Bool) =>
                            obind (w_ref13_MayLog (b, Prod.fst (Prod.snd (Prod.snd (Prod.snd (Prod.snd x))))))
                              fun (b : Bool) => some !b_5 == b))
                    fun (b : Bool) => cnd b (some (Sum.inr false)) (some (Sum.inl ())))
                  fun (b_3 : PUnit ⊕ Bool) =>
                  selim
                    (fun (b_4 : PUnit) =>
                      obind
                        (obind
                          (w_ref13_MayLog
                            (b, wr IntKind.i64 ((1 : Int) + wr IntKind.i64 (Int.tmod (Prod.fst (Prod.snd x)) (9 : Int)))))
                          fun (b_5 : Bool) =>
                          cnd b_5
                            (obind
                              (w_log_Next
                                (b,
                                  wr IntKind.i64
                                    ((1 : Int) + wr IntKind.i64 (Int.tmod (Prod.fst (Prod.snd x)) (9 : Int)))))
                              fun (b_6 : Int) =>
                              obind
                                (w_ref13_NextLog
                                  (b,
                                    wr IntKind.i64
                                      ((1 : Int) + wr IntKind.i64 (Int.tmod (Prod.fst (Prod.snd x)) (9 : Int)))))
                                fun (b_7 : Int) =>
                                cnd (decide (b_6 ≠ b_7)) (some true)
                                  (obind (w_log_Gaps b) fun (b_8 : List (Int × Int)) =>
                                    obind (w_ref13_Gaps b) fun (b : List (Int × Int)) =>
                                      obind (w_ref1_SameSpans (b_8, b)) fun (b : Bool) => some !b))
                            (some false))
                        fun (b : Bool) => cnd b (some (Sum.inr false)) (some (Sum.inl ())))
                    (fun (c : Bool) => some (Sum.inr c)) b_3)
                fun (b_3 : PUnit ⊕ Bool) =>
                selim
                  (fun (b_4 : PUnit) =>
                    obind
                      (obind
                        (obind
                          (obind
                            (w_log_May
                              (b_1,
                                wr IntKind.i64 ((1 : Int) + wr IntKind.i64 (Int.tmod (Prod.fst (Prod.snd x)) (9 : Int)))))
                            fun (b : Bool) =>
                            obind
                              (w_ref13_MayLog
                                (b_1,
                                  wr IntKind.i64
                                    ((1 : Int) + wr IntKind.i64 (Int.tmod (Prod.fst (Prod.snd x)) (9 : Int)))))
                              fun (b_5 : Bool) =>
                              cnd (!b == b_5) (some true)
                                (obind (w_log_May (b_1, Prod.fst (Prod.snd (Prod.snd (Prod.snd (Prod.snd x))))))
                                  fun (b : Bool) =>
                                  obind (w_ref13_MayLog (b_1, Prod.fst (Prod.snd (Prod.snd (Prod.snd (Prod.snd x))))))
                                    fun (b_6 : Bool) => some !b == b_6))
                          fun (b : Bool) => cnd b (some (Sum.inr false)) (some (Sum.inl ())))
                        fun (b : PUnit ⊕ Bool) =>
                        selim
                          (fun (b : PUnit) =>
                            obind
                              (obind
                                (w_ref13_MayLog
                                  (b_1,
                                    wr IntKind.i64
                                      ((1 : Int) + wr IntKind.i64 (Int.tmod (Prod.fst (Prod.snd x)) (9 : Int)))))
                                fun (b : Bool) =>
                                cnd b
                                  (obind
                                    (w_log_Next
                                      (b_1,
                                        wr IntKind.i64
                                          ((1 : Int) + wr IntKind.i64 (Int.tmod (Prod.fst (Prod.snd x)) (9 : Int)))))
                                    fun (b : Int) =>
                                    obind
                                      (w_ref13_NextLog
                                        (b_1,
                                          wr IntKind.i64
                                            ((1 : Int) + wr IntKind.i64 (Int.tmod (Prod.fst (Prod.snd x)) (9 : Int)))))
                                      fun (b_5 : Int) =>
                                      cnd (decide (b ≠ b_5)) (some true)
                                        (obind (w_log_Gaps b_1) fun (b : List (Int × Int)) =>
                                          obind (w_ref13_Gaps b_1) fun (b_6 : List (Int × Int)) =>
                                            obind (w_ref1_SameSpans (b, b_6)) fun (b : Bool) => some !b))
                                  (some false))
                              fun (b : Bool) => cnd b (some (Sum.inr false)) (some (Sum.inl ())))
                          (fun (c : Bool) => some (Sum.inr c)) b)
                      fun (b_5 : PUnit ⊕ Bool) =>
                      selim
                        (fun (b_6 : PUnit) =>
                          obind
                            (obind
                              (obind
                                (obind
                                  (w_log_May
                                    (b_2,
                                      wr IntKind.i64
                                        ((1 : Int) + wr IntKind.i64 (Int.tmod (Prod.fst (Prod.snd x)) (9 : Int)))))
                                  fun (b : Bool) =>
                                  obind
                                    (w_ref13_MayLog
                                      (b_2,
                                        wr IntKind.i64
                                          ((1 : Int) + wr IntKind.i64 (Int.tmod (Prod.fst (Prod.snd x)) (9 : Int)))))
                                    fun (b_7 : Bool) =>
                                    cnd (!b == b_7) (some true)
                                      (obind (w_log_May (b_2, Prod.fst (Prod.snd (Prod.snd (Prod.snd (Prod.snd x))))))
                                        fun (b : Bool) =>
                                        obind
                                          (w_ref13_MayLog (b_2, Prod.fst (Prod.snd (Prod.snd (Prod.snd (Prod.snd x))))))
                                          fun (b_8 : Bool) => some !b == b_8))
                                fun (b : Bool) => cnd b (some (Sum.inr false)) (some (Sum.inl ())))
                              fun (b : PUnit ⊕ Bool) =>
                              selim
                                (fun (b : PUnit) =>
                                  obind
                                    (obind
                                      (w_ref13_MayLog
                                        (b_2,
                                          wr IntKind.i64
                                            ((1 : Int) + wr IntKind.i64 (Int.tmod (Prod.fst (Prod.snd x)) (9 : Int)))))
                                      fun (b : Bool) =>
                                      cnd b
                                        (obind
                                          (w_log_Next
                                            (b_2,
                                              wr IntKind.i64
                                                ((1 : Int) +
                                                  wr IntKind.i64 (Int.tmod (Prod.fst (Prod.snd x)) (9 : Int)))))
                                          fun (b : Int) =>
                                          obind
                                            (w_ref13_NextLog
                                              (b_2,
                                                wr IntKind.i64
                                                  ((1 : Int) +
                                                    wr IntKind.i64 (Int.tmod (Prod.fst (Prod.snd x)) (9 : Int)))))
                                            fun (b_7 : Int) =>
                                            cnd (decide (b ≠ b_7)) (some true)
                                              (obind (w_log_Gaps b_2) fun (b : List (Int × Int)) =>
                                                obind (w_ref13_Gaps b_2) fun (b_8 : List (Int × Int)) =>
                                                  obind (w_ref1_SameSpans (b, b_8)) fun (b : Bool) => some !b))
                                        (some false))
                                    fun (b : Bool) => cnd b (some (Sum.inr false)) (some (Sum.inl ())))
                                (fun (c : Bool) => some (Sum.inr c)) b)
                            fun (b_7 : PUnit ⊕ Bool) =>
                            selim
                              (fun (b_8 : PUnit) =>
                                obind
                                  (obind
                                    (w_log_May
                                      (b,
                                        wr IntKind.i64
                                          ((1 : Int) + wr IntKind.i64 (Int.tmod (Prod.fst (Prod.snd x)) (9 : Int)))))
                                    fun (b_9 : Bool) =>
                                    cnd b_9
                                      (obind
                                        (w_log_Tell
                                          (b, Prod.fst (Prod.snd (Prod.snd (Prod.snd (Prod.snd x)))), [(116 : UInt8)]))
                                        fun (b_10 : List (Int × Int × Int × List UInt8 × Int)) =>
                                        obind
                                          (w_ref13_Tell
                                            (b, Prod.fst (Prod.snd (Prod.snd (Prod.snd (Prod.snd x)))), [(116 : UInt8)]))
                                          fun (b : List (Int × Int × Int × List UInt8 × Int)) =>
                                          obind (w_ref13_SameEvents (b_10, b)) fun (b : Bool) => some b)
                                      (some false))
                                  fun (b_9 : Bool) =>
                                  cnd b_9
                                    (obind
                                      (w_log_Skip
                                        (b, Prod.fst (Prod.snd (Prod.snd (Prod.snd (Prod.snd x)))),
                                          Prod.fst (Prod.snd (Prod.snd (Prod.snd (Prod.snd (Prod.snd x))))),
                                          Prod.snd (Prod.snd (Prod.snd (Prod.snd (Prod.snd (Prod.snd x)))))))
                                      fun (b_10 : List (Int × Int × Int × List UInt8 × Int)) =>
                                      obind
                                        (w_ref13_Skip
                                          (b, Prod.fst (Prod.snd (Prod.snd (Prod.snd (Prod.snd x)))),
                                            Prod.fst (Prod.snd (Prod.snd (Prod.snd (Prod.snd (Prod.snd x))))),
                                            Prod.snd (Prod.snd (Prod.snd (Prod.snd (Prod.snd (Prod.snd x)))))))
                                        fun (b : List (Int × Int × Int × List UInt8 × Int)) =>
                                        obind (w_ref13_SameEvents (b_10, b)) fun (b : Bool) => some b)
                                    (some false))
                              (fun (c : Bool) => some c) b_7)
                        (fun (c : Bool) => some c) b_5)
                  (fun (c : Bool) => some c) b_3)
          none))
theorem FV_law16_LogAll_eq (w_law16_Logs : (List (Int × Int)) × Int → Option (List (Int × Int × Int × (List UInt8) × Int))) (w_log_May : (List (Int × Int × Int × (List UInt8) × Int)) × Int → Option (Bool)) (w_ref13_MayLog : (List (Int × Int × Int × (List UInt8) × Int)) × Int → Option (Bool)) (w_log_Next : (List (Int × Int × Int × (List UInt8) × Int)) × Int → Option (Int)) (w_ref13_NextLog : (List (Int × Int × Int × (List UInt8) × Int)) × Int → Option (Int)) (w_log_Gaps : List (Int × Int × Int × (List UInt8) × Int) → Option (List (Int × Int))) (w_ref13_Gaps : List (Int × Int × Int × (List UInt8) × Int) → Option (List (Int × Int))) (w_ref1_SameSpans : (List (Int × Int)) × List (Int × Int) → Option (Bool)) (w_log_Tell : (List (Int × Int × Int × (List UInt8) × Int)) × Int × List UInt8 → Option (List (Int × Int × Int × (List UInt8) × Int))) (w_ref13_Tell : (List (Int × Int × Int × (List UInt8) × Int)) × Int × List UInt8 → Option (List (Int × Int × Int × (List UInt8) × Int))) (w_ref13_SameEvents : (List (Int × Int × Int × (List UInt8) × Int)) × List (Int × Int × Int × (List UInt8) × Int) → Option (Bool)) (w_log_Skip : (List (Int × Int × Int × (List UInt8) × Int)) × Int × Int × Int → Option (List (Int × Int × Int × (List UInt8) × Int))) (w_ref13_Skip : (List (Int × Int × Int × (List UInt8) × Int)) × Int × Int × Int → Option (List (Int × Int × Int × (List UInt8) × Int))) (N : Nat) (x : (List (Int × Int)) × Int × (Int × Int × Int × (List UInt8) × Int) × Int × Int × Int × Int) : F_law16_LogAll w_law16_Logs w_log_May w_ref13_MayLog w_log_Next w_ref13_NextLog w_log_Gaps w_ref13_Gaps w_ref1_SameSpans w_log_Tell w_ref13_Tell w_ref13_SameEvents w_log_Skip w_ref13_Skip N x = V_law16_LogAll w_law16_Logs w_log_May w_ref13_MayLog w_log_Next w_ref13_NextLog w_log_Gaps w_ref13_Gaps w_ref1_SameSpans w_log_Tell w_ref13_Tell w_ref13_SameEvents w_log_Skip w_ref13_Skip N x := by kernel_rfl
noncomputable def W_law16_LogAll (N : Nat) (x : (List (Int × Int)) × Int × (Int × Int × Int × (List UInt8) × Int) × Int × Int × Int × Int) : Option (Bool) :=
  cnd (decide ((15 : Int) < (↑(List.length (Prod.fst x)) : Int))) (some true)
    (cnd
      (decide
        ((30 : Int) < (↑(List.length (Prod.fst (Prod.snd (Prod.snd (Prod.snd (Prod.fst (Prod.snd (Prod.snd x)))))))) : Int)))
      (some true)
      (obind
        (W_law16_Logs N
          (Prod.fst x, wr IntKind.i64 ((1 : Int) + wr IntKind.i64 (Int.tmod (Prod.fst (Prod.snd x)) (9 : Int)))))
        fun (b : List (Int × Int × Int × List UInt8 × Int)) =>
        cnd (decide (List.length b * (48 : Nat) ≤ (140737488355328 : Nat)))
          (obind
            (cnd (decide ((0 : Int) < (↑(List.length b) : Int)))
              (cnd (!decide ((↑(List.length b) : Int) = (0 : Int)))
                (cnd
                  (decide
                      ((0 : Int) ≤
                        Int.tmod (wr IntKind.i64 (Prod.fst (Prod.snd (Prod.snd (Prod.snd x))))) (↑(List.length b) : Int)) &&
                    decide
                      (Int.tmod (wr IntKind.i64 (Prod.fst (Prod.snd (Prod.snd (Prod.snd x))))) (↑(List.length b) : Int) <
                        (↑(List.length b) : Int)))
                  (some
                    (putL b
                      [(Prod.fst (Prod.fst (Prod.snd (Prod.snd x))),
                          Prod.fst (Prod.snd (Prod.fst (Prod.snd (Prod.snd x)))),
                          Prod.fst (Prod.snd (Prod.snd (Prod.fst (Prod.snd (Prod.snd x))))),
                          Prod.fst (Prod.snd (Prod.snd (Prod.snd (Prod.fst (Prod.snd (Prod.snd x)))))),
                          Prod.snd (Prod.snd (Prod.snd (Prod.snd (Prod.fst (Prod.snd (Prod.snd x)))))))]
                      (Int.toNat
                        (Int.tmod (wr IntKind.i64 (Prod.fst (Prod.snd (Prod.snd (Prod.snd x))))) (↑(List.length b) : Int)))))
                  none)
                none)
              (some b))
            fun (b_1 : List (Int × Int × Int × List UInt8 × Int)) =>
            obind
              (cnd (decide ((0 : Int) < (↑(List.length b) : Int)))
                (cnd (!decide ((↑(List.length b) : Int) = (0 : Int)))
                  (cnd
                    (decide
                        ((0 : Int) ≤
                          Int.tmod (wr IntKind.i64 (Prod.fst (Prod.snd (Prod.snd (Prod.snd x))))) (↑(List.length b) : Int)) &&
                      decide
                        (Int.tmod (wr IntKind.i64 (Prod.fst (Prod.snd (Prod.snd (Prod.snd x))))) (↑(List.length b) : Int) ≤
                          (↑(List.length b) : Int)))
                    (cnd
                      (decide
                        (List.length
                              (List.drop (0 : Nat)
                                (List.take
                                  (Int.toNat
                                    (Int.tmod (wr IntKind.i64 (Prod.fst (Prod.snd (Prod.snd (Prod.snd x)))))
                                      (↑(List.length b) : Int)))
                                  b)) *
                            (48 : Nat) ≤
                          (140737488355328 : Nat)))
                      (cnd (!decide ((↑(List.length b) : Int) = (0 : Int)))
                        (cnd
                          (decide
                              ((0 : Int) ≤
                                wr IntKind.i64
                                  (Int.tmod (wr IntKind.i64 (Prod.fst (Prod.snd (Prod.snd (Prod.snd x)))))
                                      (↑(List.length b) : Int) +
                                    (1 : Int))) &&
                            decide
                              (wr IntKind.i64
                                  (Int.tmod (wr IntKind.i64 (Prod.fst (Prod.snd (Prod.snd (Prod.snd x)))))
                                      (↑(List.length b) : Int) +
                                    (1 : Int)) ≤
                                (↑(List.length b) : Int)))
                          (cnd
                            (decide
                              ((List.length
                                      (List.drop (0 : Nat)
                                        (List.take
                                          (Int.toNat
                                            (Int.tmod (wr IntKind.i64 (Prod.fst (Prod.snd (Prod.snd (Prod.snd x)))))
                                              (↑(List.length b) : Int)))
                                          b)) +
                                    List.length
                                      (List.drop
                                        (Int.toNat
                                          (wr IntKind.i64
                                            (Int.tmod (wr IntKind.i64 (Prod.fst (Prod.snd (Prod.snd (Prod.snd x)))))
                                                (↑(List.length b) : Int) +
                                              (1 : Int))))
                                        (List.take (List.length b) b))) *
                                  (48 : Nat) ≤
                                (140737488355328 : Nat)))
                            (some
                              (List.drop (0 : Nat)
                                  (List.take
                                    (Int.toNat
                                      (Int.tmod (wr IntKind.i64 (Prod.fst (Prod.snd (Prod.snd (Prod.snd x)))))
                                        (↑(List.length b) : Int)))
                                    b) ++
                                List.drop
                                  (Int.toNat
                                    (wr IntKind.i64
                                      (Int.tmod (wr IntKind.i64 (Prod.fst (Prod.snd (Prod.snd (Prod.snd x)))))
                                          (↑(List.length b) : Int) +
                                        (1 : Int))))
                                  (List.take (List.length b) b)))
                            none)
                          none)
                        none)
                      none)
                    none)
                  none)
                (some b))
              fun (b_2 : List (Int × Int × Int × List UInt8 × Int)) =>
              obind
                (obind
                  (obind
                    (obind
                      (W_log_May N
                        (b, wr IntKind.i64 ((1 : Int) + wr IntKind.i64 (Int.tmod (Prod.fst (Prod.snd x)) (9 : Int)))))
                      fun (b_3 : Bool) =>
                      obind
                        (W_ref13_MayLog N
                          (b, wr IntKind.i64 ((1 : Int) + wr IntKind.i64 (Int.tmod (Prod.fst (Prod.snd x)) (9 : Int)))))
                        fun (b_4 : Bool) =>
                        cnd (!b_3 == b_4) (some true)
                          (obind (W_log_May N (b, Prod.fst (Prod.snd (Prod.snd (Prod.snd (Prod.snd x))))))
                            fun (b_5 : Bool) =>
                            obind (W_ref13_MayLog N (b, Prod.fst (Prod.snd (Prod.snd (Prod.snd (Prod.snd x))))))
                              fun (b : Bool) => some !b_5 == b))
                    fun (b : Bool) => cnd b (some (Sum.inr false)) (some (Sum.inl ())))
                  fun (b_3 : PUnit ⊕ Bool) =>
                  selim
                    (fun (b_4 : PUnit) =>
                      obind
                        (obind
                          (W_ref13_MayLog N
                            (b, wr IntKind.i64 ((1 : Int) + wr IntKind.i64 (Int.tmod (Prod.fst (Prod.snd x)) (9 : Int)))))
                          fun (b_5 : Bool) =>
                          cnd b_5
                            (obind
                              (W_log_Next N
                                (b,
                                  wr IntKind.i64
                                    ((1 : Int) + wr IntKind.i64 (Int.tmod (Prod.fst (Prod.snd x)) (9 : Int)))))
                              fun (b_6 : Int) =>
                              obind
                                (W_ref13_NextLog N
                                  (b,
                                    wr IntKind.i64
                                      ((1 : Int) + wr IntKind.i64 (Int.tmod (Prod.fst (Prod.snd x)) (9 : Int)))))
                                fun (b_7 : Int) =>
                                cnd (decide (b_6 ≠ b_7)) (some true)
                                  (obind (W_log_Gaps N b) fun (b_8 : List (Int × Int)) =>
                                    obind (W_ref13_Gaps N b) fun (b : List (Int × Int)) =>
                                      obind (W_ref1_SameSpans N (b_8, b)) fun (b : Bool) => some !b))
                            (some false))
                        fun (b : Bool) => cnd b (some (Sum.inr false)) (some (Sum.inl ())))
                    (fun (c : Bool) => some (Sum.inr c)) b_3)
                fun (b_3 : PUnit ⊕ Bool) =>
                selim
                  (fun (b_4 : PUnit) =>
                    obind
                      (obind
                        (obind
                          (obind
                            (W_log_May N
                              (b_1,
                                wr IntKind.i64 ((1 : Int) + wr IntKind.i64 (Int.tmod (Prod.fst (Prod.snd x)) (9 : Int)))))
                            fun (b : Bool) =>
                            obind
                              (W_ref13_MayLog N
                                (b_1,
                                  wr IntKind.i64
                                    ((1 : Int) + wr IntKind.i64 (Int.tmod (Prod.fst (Prod.snd x)) (9 : Int)))))
                              fun (b_5 : Bool) =>
                              cnd (!b == b_5) (some true)
                                (obind (W_log_May N (b_1, Prod.fst (Prod.snd (Prod.snd (Prod.snd (Prod.snd x))))))
                                  fun (b : Bool) =>
                                  obind (W_ref13_MayLog N (b_1, Prod.fst (Prod.snd (Prod.snd (Prod.snd (Prod.snd x))))))
                                    fun (b_6 : Bool) => some !b == b_6))
                          fun (b : Bool) => cnd b (some (Sum.inr false)) (some (Sum.inl ())))
                        fun (b : PUnit ⊕ Bool) =>
                        selim
                          (fun (b : PUnit) =>
                            obind
                              (obind
                                (W_ref13_MayLog N
                                  (b_1,
                                    wr IntKind.i64
                                      ((1 : Int) + wr IntKind.i64 (Int.tmod (Prod.fst (Prod.snd x)) (9 : Int)))))
                                fun (b : Bool) =>
                                cnd b
                                  (obind
                                    (W_log_Next N
                                      (b_1,
                                        wr IntKind.i64
                                          ((1 : Int) + wr IntKind.i64 (Int.tmod (Prod.fst (Prod.snd x)) (9 : Int)))))
                                    fun (b : Int) =>
                                    obind
                                      (W_ref13_NextLog N
                                        (b_1,
                                          wr IntKind.i64
                                            ((1 : Int) + wr IntKind.i64 (Int.tmod (Prod.fst (Prod.snd x)) (9 : Int)))))
                                      fun (b_5 : Int) =>
                                      cnd (decide (b ≠ b_5)) (some true)
                                        (obind (W_log_Gaps N b_1) fun (b : List (Int × Int)) =>
                                          obind (W_ref13_Gaps N b_1) fun (b_6 : List (Int × Int)) =>
                                            obind (W_ref1_SameSpans N (b, b_6)) fun (b : Bool) => some !b))
                                  (some false))
                              fun (b : Bool) => cnd b (some (Sum.inr false)) (some (Sum.inl ())))
                          (fun (c : Bool) => some (Sum.inr c)) b)
                      fun (b_5 : PUnit ⊕ Bool) =>
                      selim
                        (fun (b_6 : PUnit) =>
                          obind
                            (obind
                              (obind
                                (obind
                                  (W_log_May N
                                    (b_2,
                                      wr IntKind.i64
                                        ((1 : Int) + wr IntKind.i64 (Int.tmod (Prod.fst (Prod.snd x)) (9 : Int)))))
                                  fun (b : Bool) =>
                                  obind
                                    (W_ref13_MayLog N
                                      (b_2,
                                        wr IntKind.i64
                                          ((1 : Int) + wr IntKind.i64 (Int.tmod (Prod.fst (Prod.snd x)) (9 : Int)))))
                                    fun (b_7 : Bool) =>
                                    cnd (!b == b_7) (some true)
                                      (obind (W_log_May N (b_2, Prod.fst (Prod.snd (Prod.snd (Prod.snd (Prod.snd x))))))
                                        fun (b : Bool) =>
                                        obind
                                          (W_ref13_MayLog N (b_2, Prod.fst (Prod.snd (Prod.snd (Prod.snd (Prod.snd x))))))
                                          fun (b_8 : Bool) => some !b == b_8))
                                fun (b : Bool) => cnd b (some (Sum.inr false)) (some (Sum.inl ())))
                              fun (b : PUnit ⊕ Bool) =>
                              selim
                                (fun (b : PUnit) =>
                                  obind
                                    (obind
                                      (W_ref13_MayLog N
                                        (b_2,
                                          wr IntKind.i64
                                            ((1 : Int) + wr IntKind.i64 (Int.tmod (Prod.fst (Prod.snd x)) (9 : Int)))))
                                      fun (b : Bool) =>
                                      cnd b
                                        (obind
                                          (W_log_Next N
                                            (b_2,
                                              wr IntKind.i64
                                                ((1 : Int) +
                                                  wr IntKind.i64 (Int.tmod (Prod.fst (Prod.snd x)) (9 : Int)))))
                                          fun (b : Int) =>
                                          obind
                                            (W_ref13_NextLog N
                                              (b_2,
                                                wr IntKind.i64
                                                  ((1 : Int) +
                                                    wr IntKind.i64 (Int.tmod (Prod.fst (Prod.snd x)) (9 : Int)))))
                                            fun (b_7 : Int) =>
                                            cnd (decide (b ≠ b_7)) (some true)
                                              (obind (W_log_Gaps N b_2) fun (b : List (Int × Int)) =>
                                                obind (W_ref13_Gaps N b_2) fun (b_8 : List (Int × Int)) =>
                                                  obind (W_ref1_SameSpans N (b, b_8)) fun (b : Bool) => some !b))
                                        (some false))
                                    fun (b : Bool) => cnd b (some (Sum.inr false)) (some (Sum.inl ())))
                                (fun (c : Bool) => some (Sum.inr c)) b)
                            fun (b_7 : PUnit ⊕ Bool) =>
                            selim
                              (fun (b_8 : PUnit) =>
                                obind
                                  (obind
                                    (W_log_May N
                                      (b,
                                        wr IntKind.i64
                                          ((1 : Int) + wr IntKind.i64 (Int.tmod (Prod.fst (Prod.snd x)) (9 : Int)))))
                                    fun (b_9 : Bool) =>
                                    cnd b_9
                                      (obind
                                        (W_log_Tell N
                                          (b, Prod.fst (Prod.snd (Prod.snd (Prod.snd (Prod.snd x)))), [(116 : UInt8)]))
                                        fun (b_10 : List (Int × Int × Int × List UInt8 × Int)) =>
                                        obind
                                          (W_ref13_Tell N
                                            (b, Prod.fst (Prod.snd (Prod.snd (Prod.snd (Prod.snd x)))), [(116 : UInt8)]))
                                          fun (b : List (Int × Int × Int × List UInt8 × Int)) =>
                                          obind (W_ref13_SameEvents N (b_10, b)) fun (b : Bool) => some b)
                                      (some false))
                                  fun (b_9 : Bool) =>
                                  cnd b_9
                                    (obind
                                      (W_log_Skip N
                                        (b, Prod.fst (Prod.snd (Prod.snd (Prod.snd (Prod.snd x)))),
                                          Prod.fst (Prod.snd (Prod.snd (Prod.snd (Prod.snd (Prod.snd x))))),
                                          Prod.snd (Prod.snd (Prod.snd (Prod.snd (Prod.snd (Prod.snd x)))))))
                                      fun (b_10 : List (Int × Int × Int × List UInt8 × Int)) =>
                                      obind
                                        (W_ref13_Skip N
                                          (b, Prod.fst (Prod.snd (Prod.snd (Prod.snd (Prod.snd x)))),
                                            Prod.fst (Prod.snd (Prod.snd (Prod.snd (Prod.snd (Prod.snd x))))),
                                            Prod.snd (Prod.snd (Prod.snd (Prod.snd (Prod.snd (Prod.snd x)))))))
                                        fun (b : List (Int × Int × Int × List UInt8 × Int)) =>
                                        obind (W_ref13_SameEvents N (b_10, b)) fun (b : Bool) => some b)
                                    (some false))
                              (fun (c : Bool) => some c) b_7)
                        (fun (c : Bool) => some c) b_5)
                  (fun (c : Bool) => some c) b_3)
          none))
theorem F_law16_LogAll_eq (N : Nat) (x : (List (Int × Int)) × Int × (Int × Int × Int × (List UInt8) × Int) × Int × Int × Int × Int) : F_law16_LogAll (W_law16_Logs N) (W_log_May N) (W_ref13_MayLog N) (W_log_Next N) (W_ref13_NextLog N) (W_log_Gaps N) (W_ref13_Gaps N) (W_ref1_SameSpans N) (W_log_Tell N) (W_ref13_Tell N) (W_ref13_SameEvents N) (W_log_Skip N) (W_ref13_Skip N) N x = W_law16_LogAll N x := (FV_law16_LogAll_eq (W_law16_Logs N) (W_log_May N) (W_ref13_MayLog N) (W_log_Next N) (W_ref13_NextLog N) (W_log_Gaps N) (W_ref13_Gaps N) (W_ref1_SameSpans N) (W_log_Tell N) (W_ref13_Tell N) (W_ref13_SameEvents N) (W_log_Skip N) (W_ref13_Skip N) N x).trans (by kernel_rfl)
noncomputable def conw_law16_LogAll (w : (List (Int × Int)) × Int × (Int × Int × Int × (List UInt8) × Int) × Int × Int × Int × Int → Option (Bool)) : Con := ⟨12, as_law16_LogAll, bs_law16_LogAll, Bool, w, out_law16_LogAll⟩
noncomputable def con_law16_LogAll (N : Nat) : Con := conw_law16_LogAll (W_law16_LogAll N)
theorem R_law16_LogAll_eq (x : (List (Int × Int)) × Int × (Int × Int × Int × (List UInt8) × Int) × Int × Int × Int × Int) (y : Bool) : retOf2 P0 Try.f12 (kpL []) (lbOf as_law16_LogAll bs_law16_LogAll x) (patS ⟨171, [], [], []⟩ pout_law16_LogAll y) = some (out_law16_LogAll y) := by kernel_rfl
theorem con_law16_LogAll_ok (N : Nat) : Con.ok P0 (con_law16_LogAll N) := ⟨⟨Try.f12, Try.func12, by kernel_rfl, by kernel_rfl⟩, fun (x : (List (Int × Int)) × Int × (Int × Int × Int × (List UInt8) × Int) × Int × Int × Int × Int) (r : Bool) (hr : W_law16_LogAll N x = some r) =>
  spec2_evT (Γ := G_law16_LogAll (W_law16_Logs N) (W_log_May N) (W_ref13_MayLog N) (W_log_Next N) (W_ref13_NextLog N) (W_log_Gaps N) (W_ref13_Gaps N) (W_ref1_SameSpans N) (W_log_Tell N) (W_ref13_Tell N) (W_ref13_SameEvents N) (W_log_Skip N) (W_ref13_Skip N) N) (Λ := L0) (pout := pout_law16_LogAll) (kp := kpL []) mixed (orcOf_ok _ (by simp only [List.mem_cons, List.not_mem_nil, or_false, forall_eq_or_imp, forall_eq]; exact ⟨con_law16_begun_ok N, con_law16_Logs_ok N, con_log_May_ok N, con_ref13_MayLog_ok N, con_log_Next_ok N, con_ref13_NextLog_ok N, con_log_Gaps_ok N, con_ref13_Gaps_ok N, con_ref1_SameSpans_ok N, con_log_Tell_ok N, con_ref13_Tell_ok N, con_ref13_SameEvents_ok N, con_log_Skip_ok N, con_ref13_Skip_ok N⟩)) Try.func12 (c := bodyOf Try.f12) (by kernel_rfl) (by kernel_rfl) (of_decide_eq_true (by kernel_rfl)) ((F_law16_LogAll_eq N x).trans hr) (R_law16_LogAll_eq x r)⟩
/-! What is reckoned. -/
theorem wr_m {z : Int} (h : -140737488355328 ≤ z) (h2 : z ≤ 140737488355328) : wr .i64 z = z := wr_i64 (by omega) (by omega)
/-- A loop over a list, by a function of Lean's own. -/
theorem loop_rec {σ τ ρ α : Type} (d : α) (l : List α) (mk : Int → σ → τ) (R : List α → σ → ρ) (Inv : σ → List α → Prop) {f : τ → Option (τ ⊕ ρ)}
    (hend : ∀ s, Inv s [] → f (mk l.length s) = some (.inr (R [] s)))
    (hstep : ∀ (i : Nat) (h : α) (r : List α) (s : σ), i < l.length → l.getD i d = h → Inv s (h :: r) → (∃ s', f (mk i s) = some (.inl (mk ((i : Int) + 1) s')) ∧ R (h :: r) s = R r s' ∧ Inv s' r) ∨ f (mk i s) = some (.inr (R (h :: r) s)))
    {N : Nat} {s : σ} (hN : l.length < N) (h0 : Inv s l) : loopN N f (mk 0 s) = some (R l s) := by
  have key : ∀ (rest pre : List α) (N : Nat) (s : σ), l = pre ++ rest → rest.length < N → Inv s rest → loopN N f (mk pre.length s) = some (R rest s) := by
    intro rest
    induction rest with
    | nil =>
      intro pre N s e hN hI
      obtain ⟨M, rfl⟩ : ∃ M, N = M + 1 := ⟨N - 1, by simp at hN; omega⟩
      rw [List.append_nil] at e
      subst e
      simp only [loopN, hend s hI]
    | cons h r ih =>
      intro pre N s e hN hI
      obtain ⟨M, rfl⟩ : ∃ M, N = M + 1 := ⟨N - 1, by simp at hN; omega⟩
      have hg : l.getD pre.length d = h := by rw [e, List.getD_eq_getElem?_getD, List.getElem?_append_right (Nat.le_refl _)]; simp
      have hi : pre.length < l.length := by rw [e]; simp
      rcases hstep pre.length h r s hi hg hI with ⟨s', h1, h2, h3⟩ | h1
      · simp only [loopN, h1]
        rw [h2]
        have := ih (pre ++ [h]) M s' (by rw [e]; simp) (by simp at hN; omega) h3
        simpa using this
      · simp only [loopN, h1]
  have := key l [] N s rfl hN h0
  simpa using this
theorem obind_rec {σ τ ρ α β : Type} (d : α) (l : List α) (mk : Int → σ → τ) (R : List α → σ → ρ) (Inv : σ → List α → Prop) {f : τ → Option (τ ⊕ ρ)} {N : Nat} (s : σ) {x : τ} {k : ρ → Option β} {res : Option β} (hx : x = mk 0 s) (hN : l.length < N) (h0 : Inv s l) (hk : k (R l s) = res)
    (hend : ∀ s, Inv s [] → f (mk l.length s) = some (.inr (R [] s)))
    (hstep : ∀ (i : Nat) (h : α) (r : List α) (s : σ), i < l.length → l.getD i d = h → Inv s (h :: r) → (∃ s', f (mk i s) = some (.inl (mk ((i : Int) + 1) s')) ∧ R (h :: r) s = R r s' ∧ Inv s' r) ∨ f (mk i s) = some (.inr (R (h :: r) s))) : obind (loopN N f x) k = res := by
  subst hx
  rw [loop_rec d l mk R Inv hend hstep hN h0]
  exact hk
abbrev Sp := Int × Int
def okS (s : Sp) : Prop := 1 ≤ s.1 ∧ s.1 ≤ s.2 ∧ s.2 ≤ 1000000
open Classical in
theorem rOk (N : Nat) (a b : Int) : W_ref1_MaySpan N (a, b) = some (decide (okS (a, b))) := by
  unfold W_ref1_MaySpan
  simp only
  by_cases h1 : 1 ≤ a
  · rw [dT h1, cnd_t, obind_s]
    simp only
    by_cases h2 : a ≤ b
    · rw [dT h2, cnd_t]
      by_cases h3 : b ≤ 1000000
      · rw [dT h3, dT (show okS (a, b) from ⟨h1, h2, h3⟩)]
      · rw [dF h3, dF (fun h : okS (a, b) => h3 h.2.2)]
    · rw [dF h2, cnd_f, dF (fun h : okS (a, b) => h2 h.2.1)]
  · rw [dF h1, cnd_f, obind_s]
    simp only
    rw [cnd_f, dF (fun h : okS (a, b) => h1 h.1)]
def B (h : Sp) : Prop := 0 ≤ h.1 ∧ h.1 ≤ 1000001 ∧ 0 ≤ h.2 ∧ h.2 ≤ 1000001
theorem okS.B {s : Sp} (h : okS s) : B s := ⟨by have := h.1; omega, by have := h.2.1; have := h.2.2; omega, by have := h.1; have := h.2.1; omega, by have := h.2.2; omega⟩
abbrev AS3 := Sp × List Sp × List Sp
def ad (s : AS3) (h : Sp) : AS3 := if h.2 + 1 < s.1.1 then (s.1, s.2.1 ++ [h], s.2.2) else if s.1.2 + 1 < h.1 then (s.1, s.2.1, s.2.2 ++ [h]) else ((min s.1.1 h.1, max s.1.2 h.2), s.2.1, s.2.2)
def adI (s : AS3) (rest : List Sp) : Prop := B s.1 ∧ s.2.1.length + s.2.2.length + rest.length ≤ 1000 ∧ ∀ h ∈ rest, B h
theorem adI_step {s : AS3} {h : Sp} {r : List Sp} (hI : adI s (h :: r)) : adI (ad s h) r := by
  obtain ⟨h1, h2, h3⟩ := hI
  have hb := h3 h (by simp)
  have hr : ∀ x ∈ r, B x := fun x hx => h3 x (by simp [hx])
  simp only [List.length_cons] at h2
  unfold ad
  split
  · exact ⟨h1, by simp; omega, hr⟩
  · split
    · exact ⟨h1, by simp; omega, hr⟩
    · refine ⟨⟨?_, ?_, ?_, ?_⟩, by simp only; omega, hr⟩ <;> (simp only; obtain ⟨_, _, _, _⟩ := h1; obtain ⟨_, _, _, _⟩ := hb; omega)
def adR (l : List Sp) (s : AS3) : List Sp × Sp × List Sp := ((l.foldl ad s).2.2, (l.foldl ad s).1, (l.foldl ad s).2.1)
open Classical in
noncomputable def addP (l : List Sp) (s : Sp) : List Sp := if okS s then (l.foldl ad (s, [], [])).2.1 ++ [(l.foldl ad (s, [], [])).1] ++ (l.foldl ad (s, [], [])).2.2 else l
theorem ad_len (l : List Sp) : ∀ s : AS3, (l.foldl ad s).2.1.length + (l.foldl ad s).2.2.length ≤ s.2.1.length + s.2.2.length + l.length := by
  induction l with
  | nil => intro s; simp
  | cons h r ih =>
    intro s
    have := ih (ad s h)
    have h2 : (ad s h).2.1.length + (ad s h).2.2.length ≤ s.2.1.length + s.2.2.length + 1 := by unfold ad; split; · simp; omega
                                                                                                split <;> simp <;> omega
    simp only [List.foldl_cons, List.length_cons]; omega
open Classical in
theorem rAddS_eq (N : Nat) (l : List Sp) (s : Sp) (hN : l.length < N) (hl : l.length ≤ 900) (hb : ∀ h ∈ l, B h) : W_ref1_AddSpan N (l, s) = some (addP l s) := by
  obtain ⟨a, b⟩ := s
  unfold W_ref1_AddSpan addP
  simp only [rOk, obind_s]
  by_cases hs : okS (a, b)
  case neg => rw [dF hs, Bool.not_false, cnd_t, dT (by omega), cnd_t, if_neg hs]
  rw [dT hs, Bool.not_true, cnd_f, if_pos hs]
  refine obind_rec (0, 0) l (fun i (s : AS3) => (i, s)) adR adI ((a, b), [], []) rfl hN ⟨hs.B, by simp; omega, hb⟩ ?_ ?_ ?_
  · have hlen := ad_len l ((a, b), [], [])
    unfold adR
    simp only [List.length_nil] at hlen
    generalize l.foldl ad ((a, b), [], []) = R at *
    obtain ⟨⟨x, y⟩, fr, bk⟩ := R
    simp only at hlen ⊢
    rw [dT (by simp only [List.length_singleton]; omega), cnd_t, dT (by simp only [List.length_append, List.length_singleton]; omega), cnd_t]
  · rintro ⟨⟨x, y⟩, fr, bk⟩ hI
    simp only
    rw [dF (by omega), cnd_f]
    rfl
  · rintro i ⟨p, q⟩ r ⟨⟨x, y⟩, fr, bk⟩ hi hg hI
    left
    refine ⟨ad ((x, y), fr, bk) (p, q), ?_, rfl, adI_step hI⟩
    obtain ⟨⟨b1, b2, b3, b4⟩, hlen, hbb⟩ := hI
    obtain ⟨c1, c2, c3, c4⟩ := hbb (p, q) (by simp)
    simp only [List.length_cons] at b1 b2 b3 b4 c1 c2 c3 c4 hlen
    simp only [Int.toNat_natCast, hg]
    have d1 : decide ((i : Int) < l.length) = true := dT (by omega)
    have d2 : decide ((0 : Int) ≤ i) = true := dT (by omega)
    simp only [d1, d2, Bool.and_self, cnd_t]
    rw [wr_m (z := q + 1) (by omega) (by omega), wr_m (z := (i : Int) + 1) (by omega) (by omega), wr_m (z := y + 1) (by omega) (by omega)]
    unfold ad
    simp only
    by_cases k1 : q + 1 < x
    · rw [dT k1, cnd_t, dT (by simp only [List.length_singleton]; omega), cnd_t, if_pos k1]
    · rw [dF k1, cnd_f, if_neg k1]
      by_cases k2 : y + 1 < p
      · rw [dT k2, cnd_t, dT (by simp only [List.length_singleton]; omega), cnd_t, if_pos k2]
      · rw [dF k2, cnd_f, if_neg k2]
def Rr (a b : Sp) : Prop := a.2 + 1 < b.1
def VS (l : List Sp) : Prop := (∀ a ∈ l, okS a) ∧ l.Pairwise Rr
structure J (s : AS3) (rest : List Sp) : Prop where
  f1 : ∀ a ∈ s.2.1, okS a
  f2 : s.2.1.Pairwise Rr
  m : okS s.1
  fm : ∀ a ∈ s.2.1, a.2 + 1 < s.1.1
  b1 : ∀ a ∈ s.2.2, okS a
  b2 : s.2.2.Pairwise Rr
  bm : ∀ a ∈ s.2.2, s.1.2 + 1 < a.1
  br : ∀ a ∈ s.2.2, ∀ h ∈ rest, a.2 + 1 < h.1
  fr : ∀ a ∈ s.2.1, ∀ h ∈ rest, a.2 + 1 < h.1
  r1 : ∀ h ∈ rest, okS h
  r2 : rest.Pairwise Rr
theorem J_step {s : AS3} {h : Sp} {r : List Sp} (j : J s (h :: r)) : J (ad s h) r := by
  obtain ⟨f1, f2, m, fm, b1, b2, bm, br, fr, r1, r2⟩ := j
  have hh := r1 h (by simp)
  rw [List.pairwise_cons] at r2
  have r1' : ∀ x ∈ r, okS x := fun x hx => r1 x (by simp [hx])
  have br' : ∀ a ∈ s.2.2, ∀ x ∈ r, a.2 + 1 < x.1 := fun a ha x hx => br a ha x (by simp [hx])
  have fr' : ∀ a ∈ s.2.1, ∀ x ∈ r, a.2 + 1 < x.1 := fun a ha x hx => fr a ha x (by simp [hx])
  have bh : ∀ a ∈ s.2.2, a.2 + 1 < h.1 := fun a ha => br a ha h (by simp)
  have fh : ∀ a ∈ s.2.1, a.2 + 1 < h.1 := fun a ha => fr a ha h (by simp)
  obtain ⟨m1, m2, m3⟩ := m
  obtain ⟨g1, g2, g3⟩ := hh
  unfold ad
  split
  · rename_i k
    refine ⟨?_, ?_, ⟨m1, m2, m3⟩, ?_, b1, b2, bm, br', ?_, r1', r2.2⟩
    · intro a ha
      simp only [List.mem_append, List.mem_singleton] at ha
      rcases ha with ha | rfl
      · exact f1 a ha
      · exact ⟨g1, g2, g3⟩
    · rw [List.pairwise_append]
      exact ⟨f2, by simp, fun a ha b hb => by simp at hb; subst hb; exact fh a ha⟩
    · intro a ha
      simp only [List.mem_append, List.mem_singleton] at ha
      rcases ha with ha | rfl
      · exact fm a ha
      · exact k
    · intro a ha x hx
      simp only [List.mem_append, List.mem_singleton] at ha
      rcases ha with ha | rfl
      · exact fr' a ha x hx
      · exact r2.1 x hx
  · rename_i k
    split
    · rename_i k2
      refine ⟨f1, f2, ⟨m1, m2, m3⟩, fm, ?_, ?_, ?_, ?_, fr', r1', r2.2⟩
      · intro a ha
        simp only [List.mem_append, List.mem_singleton] at ha
        rcases ha with ha | rfl
        · exact b1 a ha
        · exact ⟨g1, g2, g3⟩
      · rw [List.pairwise_append]
        exact ⟨b2, by simp, fun a ha b hb => by simp at hb; subst hb; exact bh a ha⟩
      · intro a ha
        simp only [List.mem_append, List.mem_singleton] at ha
        rcases ha with ha | rfl
        · exact bm a ha
        · exact k2
      · intro a ha x hx
        simp only [List.mem_append, List.mem_singleton] at ha
        rcases ha with ha | rfl
        · exact br' a ha x hx
        · exact r2.1 x hx
    · rename_i k2
      have hb : ∀ a ∈ s.2.2, False := fun a ha => by
        have q1 := bm a ha
        have q2 := bh a ha
        have q3 := (b1 a ha).2.1
        omega
      refine ⟨f1, f2, ⟨by simp only; omega, by simp only; omega, by simp only; omega⟩, fun a ha => ?_, b1, b2, fun a ha => (hb a ha).elim, br', fr', r1', r2.2⟩
      have q1 := fm a ha
      have q2 := fh a ha
      simp only
      omega
theorem J_fold : ∀ (l : List Sp) (s : AS3), J s l → J (l.foldl ad s) []
  | [], s, h => h
  | x :: r, s, h => J_fold r _ (J_step h)
theorem VS_add {l : List Sp} {s : Sp} (hl : VS l) (hs : okS s) : VS (addP l s) ∧ (addP l s).length ≤ l.length + 1 := by
  have j := J_fold l (s, [], []) ⟨by simp, by simp, hs, by simp, by simp, by simp, by simp, by simp, by simp, hl.1, hl.2⟩
  have hlen := ad_len l (s, [], [])
  simp only [List.length_nil] at hlen
  unfold addP
  rw [if_pos hs]
  generalize l.foldl ad (s, [], []) = q at *
  obtain ⟨f1, f2, m, fm, b1, b2, bm, _, _, _, _⟩ := j
  refine ⟨⟨?_, ?_⟩, by simp only [List.length_append, List.length_singleton]; omega⟩
  · intro a ha
    simp only [List.mem_append, List.mem_singleton] at ha
    rcases ha with (ha | rfl) | ha
    · exact f1 a ha
    · exact m
    · exact b1 a ha
  · rw [List.pairwise_append, List.pairwise_append]
    refine ⟨⟨f2, by simp, fun a ha b hb => by simp at hb; subst hb; exact fm a ha⟩, b2, fun a ha b hb => ?_⟩
    have q2 := bm b hb
    have q3 := m.2.1
    simp only [List.mem_append, List.mem_singleton] at ha
    show a.2 + 1 < b.1
    rcases ha with ha | rfl
    · have := fm a ha; omega
    · omega
theorem sgetD_mem {l : List Sp} {j : Nat} (h : j < l.length) : l.getD j (0, 0) ∈ l := by
  rw [List.getD_eq_getElem?_getD, List.getElem?_eq_getElem h]; exact List.getElem_mem h
theorem SameS_self (N : Nat) (a : List Sp) (hN : a.length < N) (hl : a.length ≤ 1000) : W_ref1_SameSpans N (a, a) = some true := by
  unfold W_ref1_SameSpans
  simp only
  rw [dF (by simp), cnd_f]
  refine obind_rec (0, 0) a (fun i (s : Unit) => i) (fun l s => (.inl () : PUnit ⊕ Bool)) (fun _ _ => True) () rfl hN trivial (by rw [selim_l]) ?_ ?_
  · rintro s _
    try simp only
    rw [dF (by omega), cnd_f]
  · rintro i h r s hi hg _
    left
    refine ⟨(), ?_, rfl, trivial⟩
    have d1 : decide ((i : Int) < a.length) = true := dT (by omega)
    have d2 : decide ((0 : Int) ≤ i) = true := dT (by omega)
    simp only [d1, d2, Bool.and_self, cnd_t, dT, Bool.not_true, cnd_f]
    rw [wr_m (by omega) (by omega)]
abbrev Ev := Int × Int × Int × List UInt8 × Int
abbrev eD : Ev := ((0 : Int), (0 : Int), (0 : Int), [], (0 : Int))
def vE (e : Ev) : Prop := 1 ≤ e.2.1 ∧ e.2.1 ≤ e.2.2.1 ∧ e.2.2.1 ≤ 1000000 ∧ ((e.1 = 1 ∧ e.2.2.1 = e.2.1 ∧ e.2.2.2.1.length ≤ 12 ∧ e.2.2.2.2 = 0) ∨ (e.1 = 2 ∧ e.2.2.2.1 = [] ∧ (e.2.2.2.2 = 1 ∨ e.2.2.2.2 = 2)))
theorem lread1 (N : Nat) (lo hi : Int) (t : List UInt8) (w : Int) : W_log_read N (1, lo, hi, t, w) = some (.inr (.inl (1, lo, hi, t, w))) := by
  unfold W_log_read
  rfl
theorem lread2 (N : Nat) (lo hi : Int) (t : List UInt8) (w : Int) : W_log_read N (2, lo, hi, t, w) = some (.inl (2, lo, hi, t, w)) := by
  unfold W_log_read
  rfl
theorem lmay_eq (N : Nat) (e : Ev) (h : vE e) : W_log_may N e = some true := by
  obtain ⟨k, lo, hi, t, w⟩ := e
  obtain ⟨h1, h2, h3, h4⟩ := h
  simp only at h1 h2 h3 h4
  unfold W_log_may
  simp only
  rw [dF (by omega), cnd_f, obind_s]
  simp only
  rw [dF (by omega), cnd_f, dF (by omega), cnd_f]
  rcases h4 with ⟨rfl, q1, q2, q3⟩ | ⟨rfl, q1, q2⟩
  · rw [lread1, obind_s, selim_r, selim_l]
    simp only
    rw [dT q1, cnd_t, obind_s]
    simp only
    rw [dT (by omega), cnd_t, dT q3]
  · rw [lread2, obind_s, selim_l, selim_l]
    subst q1
    simp only
    rw [show (([] : List UInt8) == []) = true from rfl, cnd_t]
    rcases q2 with rfl | rfl
    · rw [dT rfl, cnd_t]
    · rw [dF (by decide), cnd_f, dT rfl]
def Ch : Int → List Ev → Prop
  | _, [] => True
  | f, e :: r => vE e ∧ e.2.1 = f ∧ Ch (e.2.2.1 + 1) r
def nx : Int → List Ev → Int
  | f, [] => f
  | f, e :: r => nx (e.2.2.1 + 1) r
theorem nx_append : ∀ (a b : List Ev) (f : Int), nx f (a ++ b) = nx (nx f a) b
  | [], b, f => rfl
  | e :: r, b, f => nx_append r b _
theorem Ch_append : ∀ (a b : List Ev) (f : Int), Ch f (a ++ b) ↔ Ch f a ∧ Ch (nx f a) b
  | [], b, f => by simp [Ch, nx]
  | e :: r, b, f => by simp only [List.cons_append, Ch, nx, Ch_append r b, and_assoc]
theorem Ch_v : ∀ (l : List Ev) (f : Int), Ch f l → ∀ e ∈ l, vE e
  | [], _, _, e, he => by simp at he
  | x :: r, f, h, e, he => by
    rcases List.mem_cons.1 he with rfl | he
    · exact h.1
    · exact Ch_v r _ h.2.2 e he
theorem Ch_nx : ∀ (l : List Ev) (f : Int), Ch f l → 1 ≤ f → f ≤ 2000000 → 1 ≤ nx f l ∧ nx f l ≤ 2000000
  | [], f, _, h1, h2 => ⟨h1, h2⟩
  | e :: r, f, h, h1, h2 => by
    obtain ⟨⟨a1, a2, a3, _⟩, a4, a5⟩ := h
    exact Ch_nx r _ a5 (by omega) (by omega)
theorem lMay_eq (N : Nat) (l : List Ev) (f : Int) (hN : l.length < N) (hl : l.length ≤ 1000) (h : Ch f l) (h1 : 1 ≤ f) (h2 : f ≤ 2000000) : W_log_May N (l, f) = some true := by
  unfold W_log_May
  simp only
  rw [dF (by omega), cnd_f]
  refine obind_rec eD l (fun i (s : Int) => (s, i)) (fun l f => (.inl () : PUnit ⊕ Bool)) (fun f r => Ch f r ∧ 1 ≤ f ∧ f ≤ 2000000) f rfl hN ⟨h, h1, h2⟩ (by rw [selim_l]) ?_ ?_
  · rintro s _
    try simp only
    rw [dF (by omega), cnd_f]
  · rintro i e r s hi hg ⟨g1, g2, g3⟩
    left
    obtain ⟨v, e1, c⟩ := g1
    have d1 : decide ((i : Int) < l.length) = true := dT (by omega)
    have d2 : decide ((0 : Int) ≤ i) = true := dT (by omega)
    have hv := v
    obtain ⟨a1, a2, a3, _⟩ := v
    refine ⟨e.2.2.1 + 1, ?_, rfl, c, by omega, by omega⟩
    simp only [Int.toNat_natCast, hg, d1, d2, Bool.and_self, cnd_t]
    rw [lmay_eq N (e.1, e.2.1, e.2.2.1, e.2.2.2.1, e.2.2.2.2) hv, obind_s, Bool.not_true, cnd_f, dF (by simpa using e1), cnd_f, wr_m (z := (i : Int) + 1) (by omega) (by omega), wr_m (z := e.2.2.1 + 1) (by omega) (by omega)]
theorem lNext_eq (N : Nat) (l : List Ev) (f : Int) (hl : l.length ≤ 1000) (h : ∀ e ∈ l, vE e) : W_log_Next N (l, f) = some (nx f l) := by
  unfold W_log_Next
  simp only
  rcases List.eq_nil_or_concat l with rfl | ⟨p, e, rfl⟩
  · rw [dT (by simp), cnd_t]; rfl
  · rw [List.concat_eq_append] at *
    have hv := h e (by simp)
    obtain ⟨a1, a2, a3, _⟩ := hv
    simp only [List.length_append, List.length_singleton] at hl ⊢
    have w : wr .i64 (((p.length + 1 : Nat) : Int) - 1) = p.length := by rw [wr_m (by omega) (by omega)]; omega
    have hg : (p ++ [e]).getD p.length eD = e := by rw [List.getD_eq_getElem?_getD]; simp
    rw [dF (by omega), cnd_f, w, dT (by omega), dT (by omega), Bool.and_self, cnd_t, Int.toNat_natCast, hg, wr_m (by omega) (by omega), nx_append]
    rfl
/-! Gaps. -/
def push (o : List Sp) (lo hi : Int) : List Sp := if 0 < o.length ∧ (o.getD (o.length - 1) (0, 0)).2 + 1 = lo then putL o [((o.getD (o.length - 1) (0, 0)).1, hi)] (o.length - 1) else o ++ [(lo, hi)]
theorem push_nil (lo hi : Int) : push [] lo hi = [(lo, hi)] := by unfold push; rw [if_neg (by simp)]; rfl
theorem push_snoc (o : List Sp) (t : Sp) (lo hi : Int) : push (o ++ [t]) lo hi = if t.2 + 1 = lo then o ++ [(t.1, hi)] else o ++ [t] ++ [(lo, hi)] := by
  have hl : (o ++ [t]).length - 1 = o.length := by simp
  have hg : (o ++ [t]).getD o.length (0, 0) = t := by rw [List.getD_eq_getElem?_getD]; simp
  unfold push
  rw [hl, hg]
  by_cases h : t.2 + 1 = lo
  · rw [if_pos ⟨by simp, h⟩, if_pos h]
    unfold putL
    simp
  · rw [if_neg (fun q => h q.2), if_neg h]
theorem snoc_cases (o : List Sp) : o = [] ∨ ∃ p t, o = p ++ [t] := by
  rcases List.eq_nil_or_concat o with h | ⟨p, t, h⟩
  · exact .inl h
  · exact .inr ⟨p, t, by rw [h, List.concat_eq_append]⟩
theorem push_ok {o : List Sp} {lo hi : Int} (ho : ∀ s ∈ o, okS s) (hs : okS (lo, hi)) : (∀ s ∈ push o lo hi, okS s) ∧ (push o lo hi).length ≤ o.length + 1 := by
  rcases snoc_cases o with rfl | ⟨p, t, rfl⟩
  · rw [push_nil]; exact ⟨by simpa using hs, by simp⟩
  · rw [push_snoc]
    split
    · rename_i e
      refine ⟨fun s hm => ?_, by simp⟩
      simp only [List.mem_append, List.mem_singleton] at hm
      rcases hm with hm | rfl
      · exact ho s (by simp [hm])
      · have ht := ho t (by simp)
        obtain ⟨a1, a2, a3⟩ := ht
        obtain ⟨b1, b2, b3⟩ := hs
        exact ⟨a1, by simp only at *; omega, b3⟩
    · refine ⟨fun s hm => ?_, by simp⟩
      simp only [List.mem_append, List.mem_singleton] at hm
      rcases hm with (hm | rfl) | rfl
      · exact ho s (by simp [hm])
      · exact ho s (by simp)
      · exact hs
theorem push_hi {o : List Sp} {lo hi m : Int} (ho : ∀ s ∈ o, s.2 + 1 ≤ m) (hm : hi + 1 ≤ m) : ∀ s ∈ push o lo hi, s.2 + 1 ≤ m := by
  rcases snoc_cases o with rfl | ⟨p, t, rfl⟩
  · rw [push_nil]; intro s hs; simp at hs; subst hs; exact hm
  · rw [push_snoc]
    intro s hs
    split at hs
    · simp only [List.mem_append, List.mem_singleton] at hs
      rcases hs with hs | rfl
      · exact ho s (by simp [hs])
      · exact hm
    · simp only [List.mem_append, List.mem_singleton] at hs
      rcases hs with (hs | rfl) | rfl
      · exact ho s (by simp [hs])
      · exact ho s (by simp)
      · exact hm
def gp : List Sp → List Ev → List Sp
  | o, [] => o
  | o, e :: r => gp (if e.1 = 2 then push o e.2.1 e.2.2.1 else o) r
theorem gp_append : ∀ (a b : List Ev) (o : List Sp), gp o (a ++ b) = gp (gp o a) b
  | [], b, o => rfl
  | e :: r, b, o => gp_append r b _
theorem lGaps_eq (N : Nat) (l : List Ev) (hN : l.length < N) (hl : l.length ≤ 800) (h : ∀ e ∈ l, vE e) : W_log_Gaps N l = some (gp [] l) := by
  unfold W_log_Gaps
  refine obind_rec eD l (fun i (o : List Sp) => (i, o)) (fun l o => gp o l) (fun o r => (∀ e ∈ r, vE e) ∧ (∀ s ∈ o, okS s) ∧ o.length + r.length ≤ 900) [] rfl hN ⟨h, by simp, by simp; omega⟩ rfl ?_ ?_
  · rintro o _
    try simp only
    rw [dF (by omega), cnd_f]
    rfl
  · rintro i ⟨k, lo, hi, t, w⟩ r o hi' hg ⟨g1, g2, g3⟩
    left
    have hv := g1 _ (by simp : (k, lo, hi, t, w) ∈ (k, lo, hi, t, w) :: r)
    obtain ⟨a1, a2, a3, a4⟩ := hv
    simp only [List.length_cons] at a1 a2 a3 a4 g3
    have d1 : decide ((i : Int) < l.length) = true := dT (by omega)
    have d2 : decide ((0 : Int) ≤ i) = true := dT (by omega)
    have g1' : ∀ e ∈ r, vE e := fun e he => g1 e (by simp [he])
    rcases a4 with ⟨rfl, _⟩ | ⟨rfl, _⟩
    · refine ⟨o, ?_, by simp only [gp]; rw [if_neg (by decide)], g1', g2, by omega⟩
      simp only [Int.toNat_natCast, hg, d1, d2, Bool.and_self, cnd_t]
      rw [lread1, obind_s, selim_r, selim_l, wr_m (z := (i : Int) + 1) (by omega) (by omega)]
    · have hp := push_ok g2 (show okS (lo, hi) from ⟨a1, a2, a3⟩)
      refine ⟨push o lo hi, ?_, by simp only [gp]; rw [if_pos trivial], g1', hp.1, by omega⟩
      simp only [Int.toNat_natCast, hg, d1, d2, Bool.and_self, cnd_t]
      rw [lread2, obind_s, selim_l, wr_m (z := (i : Int) + 1) (by omega) (by omega)]
      simp only
      unfold push
      by_cases h0 : 0 < o.length
      · have w1 : wr .i64 ((o.length : Int) - 1) = ((o.length - 1 : Nat) : Int) := by rw [wr_m (by omega) (by omega)]; omega
        have hl := g2 _ (sgetD_mem (l := o) (j := o.length - 1) (by omega))
        obtain ⟨b1, b2, b3⟩ := hl
        rw [dT (by omega), cnd_t, w1, dT (by omega), dT (by omega), Bool.and_self, cnd_t, Int.toNat_natCast, wr_m (z := (o.getD (o.length - 1) (0, 0)).2 + 1) (by omega) (by omega)]
        by_cases h1 : (o.getD (o.length - 1) (0, 0)).2 + 1 = lo
        · rw [dT h1, cnd_t, cnd_t, if_pos ⟨h0, h1⟩]
        · rw [dF h1, cnd_f, dT (by simp only [List.length_singleton]; omega), cnd_t, if_neg (fun q => h1 q.2)]
      · rw [dF (by omega), cnd_f, dT (by simp only [List.length_singleton]; omega), cnd_t, if_neg (fun q => h0 q.1)]
/-! One more behind. -/
theorem fold_front (s : Sp) : ∀ (l fr : List Sp), (∀ t ∈ l, t.2 + 1 < s.1) → l.foldl ad (s, fr, []) = (s, fr ++ l, [])
  | [], fr, _ => by simp
  | t :: r, fr, h => by
    have e : ad (s, fr, []) t = (s, fr ++ [t], []) := by unfold ad; rw [if_pos (h t (by simp))]
    rw [List.foldl_cons, e, fold_front s r (fr ++ [t]) fun x hx => h x (by simp [hx])]
    simp
theorem addP_push {a : List Sp} {s : Sp} (ha : VS a) (hs : okS s) (hb : ∀ t ∈ a, t.2 + 1 ≤ s.1) : addP a s = push a s.1 s.2 := by
  unfold addP
  rw [if_pos hs]
  rcases snoc_cases a with rfl | ⟨p, t, rfl⟩
  · rw [push_nil]; simp
  · have hp : ∀ x ∈ p, x.2 + 1 < s.1 := fun x hx => by
      have h1 : Rr x t := (List.pairwise_append.1 ha.2).2.2 x hx t (by simp)
      have h2 := hb t (by simp)
      have h3 := (ha.1 t (by simp)).2.1
      unfold Rr at h1
      omega
    have ht := hb t (by simp)
    have ht2 := (ha.1 t (by simp)).2.1
    have hs2 := hs.2.1
    rw [List.foldl_append, fold_front s p [] hp, List.nil_append, push_snoc]
    simp only [List.foldl_cons, List.foldl_nil]
    unfold ad
    simp only
    by_cases h : t.2 + 1 = s.1
    · rw [if_neg (by omega), if_neg (by omega), if_pos h]
      simp only [List.append_nil]
      rw [show min s.1 t.1 = t.1 by omega, show max s.2 t.2 = s.2 by omega]
    · rw [if_pos (by omega), if_neg h]
      simp
theorem push_push (b : List Sp) (x y z : Int) : push (push b x y) (y + 1) z = push b x z := by
  rcases snoc_cases b with rfl | ⟨p, t, rfl⟩
  · rw [push_nil, push_nil, show [(x, y)] = [] ++ [(x, y)] from rfl, push_snoc, if_pos rfl]; rfl
  · rw [push_snoc, push_snoc]
    by_cases h : t.2 + 1 = x
    · rw [if_pos h, if_pos h, push_snoc, if_pos rfl]
    · rw [if_neg h, if_neg h, push_snoc, if_pos rfl]
/-- All of one's gaps put behind another one's. -/
theorem fold_inv : ∀ (o a : List Sp) (m : Int), VS a → VS o → (∀ t ∈ a, ∀ s ∈ o, t.2 + 1 ≤ s.1) → (∀ t ∈ a, t.2 + 1 ≤ m) → (∀ s ∈ o, s.2 + 1 ≤ m) → VS (o.foldl addP a) ∧ ∀ u ∈ o.foldl addP a, u.2 + 1 ≤ m
  | [], a, m, ha, _, _, h1, _ => ⟨ha, h1⟩
  | s :: r, a, m, ha, ho, hao, h1, h2 => by
    have hs := ho.1 s (by simp)
    have hpw := List.pairwise_cons.1 ho.2
    have ha' := (VS_add ha hs).1
    have hb : ∀ t ∈ a, t.2 + 1 ≤ s.1 := fun t ht => hao t ht s (by simp)
    have e := addP_push ha hs hb
    have hm : ∀ u ∈ addP a s, u.2 + 1 ≤ s.2 + 1 := by
      rw [e]
      refine push_hi (fun t ht => ?_) (Int.le_refl _)
      have := hb t ht
      have := hs.2.1
      omega
    rw [List.foldl_cons]
    refine fold_inv r _ m ha' ⟨fun x hx => ho.1 x (by simp [hx]), hpw.2⟩ (fun t ht x hx => ?_) (fun t ht => ?_) fun x hx => h2 x (by simp [hx])
    · have q1 := hm t ht
      have q2 : Rr s x := hpw.1 x hx
      unfold Rr at q2
      omega
    · have q1 := hm t ht
      have q2 := h2 s (by simp)
      omega
theorem gp_fold : ∀ (d : List Ev) (o a : List Sp) (m : Int), Ch m d → VS a → VS o → (∀ t ∈ a, ∀ s ∈ o, t.2 + 1 ≤ s.1) → (∀ t ∈ a, t.2 + 1 ≤ m) → (∀ s ∈ o, s.2 + 1 ≤ m) → (gp o d).foldl addP a = gp (o.foldl addP a) d
  | [], o, a, m, _, _, _, _, _, _ => rfl
  | e :: r, o, a, m, hc, ha, ho, hao, h1, h2 => by
    obtain ⟨hv, hm, hc'⟩ := hc
    obtain ⟨v1, v2, v3, _⟩ := hv
    simp only [gp]
    by_cases hk : e.1 = 2
    case neg =>
      rw [if_neg hk, if_neg hk]
      exact gp_fold r o a _ hc' ha ho hao (fun t ht => by have := h1 t ht; omega) fun t ht => by have := h2 t ht; omega
    rw [if_pos hk, if_pos hk]
    have hs : okS (e.2.1, e.2.2.1) := ⟨v1, v2, v3⟩
    have eo := addP_push ho hs (fun t ht => by have := h2 t ht; simp only; omega)
    simp only at eo
    have hfi := fold_inv o a m ha ho hao h1 h2
    have key : (push o e.2.1 e.2.2.1).foldl addP a = push (o.foldl addP a) e.2.1 e.2.2.1 := by
      rcases snoc_cases o with rfl | ⟨p, t, rfl⟩
      · rw [push_nil]
        simp only [List.foldl_cons, List.foldl_nil]
        exact addP_push ha hs fun t ht => by have := h1 t ht; simp only; omega
      · have hp : VS p := ⟨fun x hx => ho.1 x (by simp [hx]), (List.pairwise_append.1 ho.2).1⟩
        have ht := ho.1 t (by simp)
        have fp := fold_inv p a t.1 ha hp (fun x hx y hy => hao x hx y (by simp [hy])) (fun x hx => hao x hx t (by simp)) (fun x hx => by
          have : Rr x t := (List.pairwise_append.1 ho.2).2.2 x hx t (by simp)
          unfold Rr at this; omega)
        rw [push_snoc]
        by_cases hh : t.2 + 1 = e.2.1
        · rw [if_pos hh, List.foldl_append, List.foldl_append]
          simp only [List.foldl_cons, List.foldl_nil]
          have ht1 : okS (t.1, e.2.2.1) := ⟨ht.1, by have := ht.2.1; simp only; omega, v3⟩
          rw [addP_push fp.1 ht1 (fun x hx => fp.2 x hx), addP_push fp.1 ht (fun x hx => fp.2 x hx)]
          simp only
          rw [← hh, push_push]
        · rw [if_neg hh, List.foldl_append]
          simp only [List.foldl_cons, List.foldl_nil]
          exact addP_push hfi.1 hs fun x hx => by have := hfi.2 x hx; simp only; omega
    rw [← key]
    refine gp_fold r _ a _ hc' ha ?_ (fun t ht s hs' => ?_) (fun t ht => by have := h1 t ht; omega) ?_
    · rw [← eo]; exact (VS_add ho hs).1
    · rcases snoc_cases o with rfl | ⟨p, x, rfl⟩
      · rw [push_nil] at hs'
        simp at hs'; subst hs'
        have := h1 t ht; simp only; omega
      · rw [push_snoc] at hs'
        split at hs'
        · simp only [List.mem_append, List.mem_singleton] at hs'
          rcases hs' with hs' | rfl
          · exact hao t ht s (by simp [hs'])
          · exact hao t ht x (by simp)
        · simp only [List.mem_append, List.mem_singleton] at hs'
          rcases hs' with (hs' | rfl) | rfl
          · exact hao t ht s (by simp [hs'])
          · exact hao t ht s (by simp)
          · have := h1 t ht; simp only; omega
    · exact push_hi (fun s hs' => by have := h2 s hs'; omega) (by omega)
theorem gp_inv : ∀ (d : List Ev) (o : List Sp) (m : Int), Ch m d → VS o → (∀ s ∈ o, s.2 + 1 ≤ m) → VS (gp o d) ∧ (∀ s ∈ gp o d, s.2 + 1 ≤ nx m d) ∧ (gp o d).length ≤ o.length + d.length
  | [], o, m, _, ho, h => ⟨ho, h, by simp [gp]⟩
  | e :: r, o, m, hc, ho, h => by
    obtain ⟨hv, hm, hc'⟩ := hc
    obtain ⟨v1, v2, v3, _⟩ := hv
    simp only [gp, nx, List.length_cons]
    by_cases hk : e.1 = 2
    · rw [if_pos hk]
      have hs : okS (e.2.1, e.2.2.1) := ⟨v1, v2, v3⟩
      have eo := addP_push ho hs (fun t ht => by have := h t ht; simp only; omega)
      have hl := (push_ok ho.1 hs).2
      have := gp_inv r (push o e.2.1 e.2.2.1) _ hc' (by simp only at eo; rw [← eo]; exact (VS_add ho hs).1) (push_hi (fun s hs' => by have := h s hs'; omega) (by omega))
      exact ⟨this.1, this.2.1, by have := this.2.2; omega⟩
    · rw [if_neg hk]
      have := gp_inv r o _ hc' ho fun s hs => by have := h s hs; omega
      exact ⟨this.1, this.2.1, by have := this.2.2; omega⟩
def stepG (s : List Ev × Int) (h : Sp) : List Ev × Int :=
  if 0 < h.1 % 3 then (s.1 ++ [(1, s.2, s.2, bytesI [97 + h.2 % 26], 0)], s.2 + 1) else (s.1 ++ [(2, s.2, s.2 + h.2 % 4, [], 1 + h.2 / 4 % 2)], s.2 + h.2 % 4 + 1)
def GI (f : Int) (s : List Ev × Int) (r : List Sp) : Prop := Ch f s.1 ∧ nx f s.1 = s.2 ∧ 1 ≤ s.2 ∧ s.2 + 4 * r.length ≤ 200 ∧ s.1.length + r.length ≤ 15 ∧ ∀ h ∈ r, (0 ≤ h.1 ∧ h.1 ≤ 255) ∧ 0 ≤ h.2 ∧ h.2 ≤ 255
theorem stepG_ok {f : Int} {s : List Ev × Int} {h : Sp} {r : List Sp} (hI : GI f s (h :: r)) : GI f (stepG s h) r := by
  obtain ⟨g1, g2, g3, g4, g5, g6⟩ := hI
  have hk := g6 h (by simp)
  have g6' : ∀ x ∈ r, (0 ≤ x.1 ∧ x.1 ≤ 255) ∧ 0 ≤ x.2 ∧ x.2 ≤ 255 := fun x hx => g6 x (by simp [hx])
  simp only [List.length_cons] at g4 g5
  unfold stepG
  split
  · refine ⟨?_, ?_, by simp only; omega, by simp only; omega, by simp only [List.length_append, List.length_singleton]; omega, g6'⟩
    · rw [Ch_append]
      refine ⟨g1, ⟨?_, g2.symm, trivial⟩⟩
      exact ⟨by simp only; omega, by simp only; omega, by simp only; omega, .inl ⟨rfl, rfl, by simp [bytesI], rfl⟩⟩
    · rw [nx_append]; rfl
  · refine ⟨?_, ?_, by simp only; omega, by simp only; omega, by simp only [List.length_append, List.length_singleton]; omega, g6'⟩
    · rw [Ch_append]
      refine ⟨g1, ⟨?_, g2.symm, trivial⟩⟩
      exact ⟨by simp only; omega, by simp only; omega, by simp only; omega, .inr ⟨rfl, rfl, by simp only; omega⟩⟩
    · rw [nx_append]; rfl
theorem foldG_ok (f : Int) : ∀ (l : List Sp) (s : List Ev × Int), GI f s l → GI f (l.foldl stepG s) []
  | [], s, h => h
  | x :: r, s, h => foldG_ok f r _ (stepG_ok h)
theorem Logs_eq (N : Nat) (l : List Sp) (f : Int) (hN : l.length < N) (hl : l.length ≤ 15) (hb : ∀ h ∈ l, (0 ≤ h.1 ∧ h.1 ≤ 255) ∧ 0 ≤ h.2 ∧ h.2 ≤ 255) (h1 : 1 ≤ f) (h2 : f ≤ 9) : ∃ x, W_law16_Logs N (l, f) = some x ∧ Ch f x ∧ x.length ≤ 15 := by
  have h0 : GI f ([], f) l := ⟨trivial, rfl, h1, by simp only; omega, by simp; omega, hb⟩
  have hf := foldG_ok f l _ h0
  refine ⟨(l.foldl stepG ([], f)).1, ?_, hf.1, by have := hf.2.2.2.2.1; simpa using this⟩
  unfold W_law16_Logs
  refine obind_rec (0, 0) l (fun i (s : List Ev × Int) => (s.1, s.2, i)) (fun l s => (l.foldl stepG s).1) (GI f) ([], f) rfl hN h0 rfl ?_ ?_
  · rintro ⟨o, n⟩ _
    try simp only
    rw [dF (by omega), cnd_f]
    rfl
  · rintro i ⟨p, q⟩ r ⟨o, n⟩ hi hg hI
    left
    refine ⟨stepG (o, n) (p, q), ?_, rfl, stepG_ok hI⟩
    obtain ⟨g1, g2, g3, g4, g5, g6⟩ := hI
    have hk := g6 (p, q) (by simp)
    simp only [List.length_cons] at hk g2 g3 g4 g5
    have d1 : decide ((i : Int) < l.length) = true := dT (by omega)
    have d2 : decide ((0 : Int) ≤ i) = true := dT (by omega)
    simp only [Int.toNat_natCast, hg, d1, d2, Bool.and_self, cnd_t]
    rw [Int.tmod_eq_emod_of_nonneg hk.1.1, Int.tmod_eq_emod_of_nonneg (a := q) (b := 26) hk.2.1, Int.tmod_eq_emod_of_nonneg (a := q) (b := 4) hk.2.1, Int.tdiv_eq_ediv_of_nonneg hk.2.1, wr_u8 (z := 97 + q % 26) (by omega) (by omega), wr_u8 (z := q / 4) (by omega) (by omega), Int.tmod_eq_emod_of_nonneg (a := q / 4) (b := 2) (by omega), wr_m (z := q % 4) (by omega) (by omega), wr_m (z := n + q % 4) (by omega) (by omega), wr_m (z := n + 1) (by omega) (by omega), wr_m (z := q / 4 % 2) (by omega) (by omega), wr_m (z := 1 + q / 4 % 2) (by omega) (by omega), wr_m (z := n + q % 4 + 1) (by omega) (by omega), wr_m (z := (i : Int) + 1) (by omega) (by omega)]
    unfold stepG
    simp only
    by_cases hc : 0 < p % 3
    · have ha : List.all [97 + q % 26] (fun n => decide (0 ≤ n) && decide (n < 256)) = true := by
        simp only [List.all_cons, List.all_nil, Bool.and_true, Bool.and_eq_true, decide_eq_true_eq]; omega
      rw [dT hc, cnd_t, ha, cnd_t, if_pos hc]
      unfold W_ref13_Tell
      simp only
      rw [dT (by omega), cnd_t, dT (by first | omega | (simp only [List.length_singleton]; omega)), cnd_t, obind_s]
    · rw [dF hc, cnd_f, if_neg hc]
      unfold W_ref13_Skip
      simp only
      rw [dT (by omega), cnd_t, dT (by first | omega | (simp only [List.length_singleton]; omega)), cnd_t, obind_s]
open Classical in
theorem lmay_dec (N : Nat) (e : Ev) : W_log_may N e = some (decide (vE e)) := by
  by_cases hv : vE e
  · rw [lmay_eq N e hv, dT hv]
  rw [dF hv]
  obtain ⟨k, lo, hi, t, w⟩ := e
  unfold W_log_may
  simp only
  unfold vE at hv
  simp only at hv
  by_cases h1 : lo < 1
  · rw [dT h1, cnd_t, obind_s]
    simp only
    rw [cnd_t]
  rw [dF h1, cnd_f, obind_s]
  simp only
  by_cases h2 : hi < lo
  · rw [dT h2, cnd_t]
  rw [dF h2, cnd_f]
  by_cases h3 : 1000000 < hi
  · rw [dT h3, cnd_t]
  rw [dF h3, cnd_f]
  by_cases k1 : k = 1
  · subst k1
    rw [lread1, obind_s, selim_r, selim_l]
    simp only
    by_cases q1 : hi = lo
    · rw [dT q1, cnd_t, obind_s]
      simp only
      by_cases q2 : (t.length : Int) ≤ 12
      · rw [dT q2, cnd_t]
        by_cases q3 : w = 0
        · exact (hv ⟨by omega, by omega, by omega, .inl ⟨rfl, q1, by omega, q3⟩⟩).elim
        · rw [dF q3]
      · rw [dF q2, cnd_f]
    · rw [dF q1, cnd_f, obind_s]
      simp only
      rw [cnd_f]
  by_cases k2 : k = 2
  · subst k2
    rw [lread2, obind_s, selim_l, selim_l]
    simp only
    by_cases q1 : t = []
    · subst q1
      rw [show (([] : List UInt8) == []) = true from rfl, cnd_t]
      by_cases q2 : w = 1
      · exact (hv ⟨by omega, by omega, by omega, .inr ⟨rfl, rfl, .inl q2⟩⟩).elim
      · rw [dF q2, cnd_f]
        by_cases q3 : w = 2
        · exact (hv ⟨by omega, by omega, by omega, .inr ⟨rfl, rfl, .inr q3⟩⟩).elim
        · rw [dF q3]
    · rw [show (t == []) = false by cases t with | nil => exact (q1 rfl).elim | cons => rfl, cnd_f]
  · have hr : W_log_read N (k, lo, hi, t, w) = some (.inr (.inr ())) := by
      unfold W_log_read
      simp only
      rw [dF k1, cnd_f, dF k2, cnd_f]
    rw [hr, obind_s, selim_r, selim_r, selim_r, selim_r]
theorem Ch_cons (f : Int) (e : Ev) (r : List Ev) : Ch f (e :: r) ↔ vE e ∧ e.2.1 = f ∧ Ch (e.2.2.1 + 1) r := Iff.rfl
open Classical in
theorem lMayD (N : Nat) (l : List Ev) (f : Int) (hN : l.length < N) (hl : l.length ≤ 1000) : W_log_May N (l, f) = some (decide (1 ≤ f ∧ Ch f l)) := by
  unfold W_log_May
  simp only
  by_cases h1 : f < 1
  · rw [dT h1, cnd_t, dF (by omega)]
  rw [dF h1, cnd_f]
  refine obind_rec eD l (fun i (s : Int) => (s, i)) (fun l f => if Ch f l then (.inl () : PUnit ⊕ Bool) else .inr false) (fun f r => True) f rfl hN trivial ?_ ?_ ?_
  · by_cases h : Ch f l
    · rw [if_pos h, selim_l, dT ⟨by omega, h⟩]
    · rw [if_neg h, selim_r, dF (fun q => h q.2)]
  · rintro s _
    try simp only
    rw [dF (by omega), cnd_f, if_pos (show Ch s [] from trivial)]
  · rintro i e r s hi hg _
    have d1 : decide ((i : Int) < l.length) = true := dT (by omega)
    have d2 : decide ((0 : Int) ≤ i) = true := dT (by omega)
    by_cases hv : vE e ∧ e.2.1 = s
    · left
      refine ⟨e.2.2.1 + 1, ?_, ?_, trivial⟩
      · have hb := hv.1.2.2.1
        have hb2 := hv.1.1
        have hb3 := hv.1.2.1
        simp only [Int.toNat_natCast, hg, d1, d2, Bool.and_self, cnd_t]
        rw [lmay_dec N (e.1, e.2.1, e.2.2.1, e.2.2.2.1, e.2.2.2.2), obind_s, dT (show vE (e.1, e.2.1, e.2.2.1, e.2.2.2.1, e.2.2.2.2) from hv.1), Bool.not_true, cnd_f, dF (by simpa using hv.2), cnd_f, wr_m (z := (i : Int) + 1) (by omega) (by omega), wr_m (z := e.2.2.1 + 1) (by omega) (by omega)]
      · have : Ch s (e :: r) ↔ Ch (e.2.2.1 + 1) r := by rw [Ch_cons]; exact ⟨fun q => q.2.2, fun q => ⟨hv.1, hv.2, q⟩⟩
        simp only [this]
    · right
      have hn : ¬ Ch s (e :: r) := fun q => hv ⟨q.1, q.2.1⟩
      rw [if_neg hn]
      simp only [Int.toNat_natCast, hg, d1, d2, Bool.and_self, cnd_t]
      rw [lmay_dec N (e.1, e.2.1, e.2.2.1, e.2.2.2.1, e.2.2.2.2), obind_s]
      by_cases hv1 : vE e
      · rw [dT (show vE (e.1, e.2.1, e.2.2.1, e.2.2.2.1, e.2.2.2.2) from hv1), Bool.not_true, cnd_f, dT (show e.2.1 ≠ s from fun q => hv ⟨hv1, q⟩), cnd_t]
      · rw [dF (show ¬ vE (e.1, e.2.1, e.2.2.1, e.2.2.2.1, e.2.2.2.2) from hv1), Bool.not_false, cnd_t]
open Classical in
theorem rMayD (N : Nat) (l : List Ev) (f : Int) (hN : l.length < N) (hl : l.length ≤ 1000) : W_ref13_MayLog N (l, f) = some (decide (1 ≤ f ∧ Ch f l)) := by
  unfold W_ref13_MayLog
  simp only
  by_cases h1 : f < 1
  · rw [dT h1, cnd_t, dF (by omega)]
  rw [dF h1, cnd_f]
  refine obind_rec eD l (fun i (s : Int) => (s, i)) (fun l f => if Ch f l then (.inl () : PUnit ⊕ Bool) else .inr false) (fun f r => 1 ≤ f) f rfl hN (by omega) ?_ ?_ ?_
  · by_cases h : Ch f l
    · rw [if_pos h, selim_l, dT ⟨by omega, h⟩]
    · rw [if_neg h, selim_r, dF (fun q => h q.2)]
  · rintro s _
    try simp only
    rw [dF (by omega), cnd_f, if_pos (show Ch s [] from trivial)]
  · rintro i ⟨k, lo, hi, t, w⟩ r s hi' hg hs
    have d1 : decide ((i : Int) < l.length) = true := dT (by omega)
    have d2 : decide ((0 : Int) ≤ i) = true := dT (by omega)
    simp only [Int.toNat_natCast, hg, d1, d2, Bool.and_self, cnd_t]
    have no : ¬ (vE (k, lo, hi, t, w) ∧ lo = s) → (if Ch s ((k, lo, hi, t, w) :: r) then (.inl () : PUnit ⊕ Bool) else .inr false) = .inr false := fun h => if_neg fun q => h ⟨q.1, q.2.1⟩
    by_cases a1 : lo = s
    case neg =>
      right
      rw [no (fun q => a1 q.2), dT (show lo ≠ s from a1), cnd_t, obind_s]
      simp only
      rw [cnd_t]
    rw [dF (show ¬ lo ≠ s from fun q => q a1), cnd_f, obind_s]
    simp only
    by_cases a2 : hi < lo
    · right
      rw [no (fun q => by have := q.1.2.1; simp only at this; omega), dT a2, cnd_t]
    rw [dF a2, cnd_f]
    by_cases a3 : 1000000 < hi
    · right
      rw [no (fun q => by have := q.1.2.2.1; simp only at this; omega), dT a3, cnd_t]
    rw [dF a3, cnd_f]
    have good : vE (k, lo, hi, t, w) → (if Ch s ((k, lo, hi, t, w) :: r) then (.inl () : PUnit ⊕ Bool) else .inr false) = (if Ch (hi + 1) r then (.inl () : PUnit ⊕ Bool) else .inr false) := fun hv => by
      have : Ch s ((k, lo, hi, t, w) :: r) ↔ Ch (hi + 1) r := by rw [Ch_cons]; exact ⟨fun q => q.2.2, fun q => ⟨hv, a1, q⟩⟩
      simp only [this]
    have w1 : wr .i64 (hi + 1) = hi + 1 := wr_m (by omega) (by omega)
    have w2 : wr .i64 ((i : Int) + 1) = (i : Int) + 1 := wr_m (by omega) (by omega)
    by_cases k1 : k = 1
    · subst k1
      rw [dT rfl, cnd_t]
      by_cases q1 : hi = lo
      case neg =>
        right
        rw [dT (show hi ≠ lo from q1), cnd_t, obind_s]
        simp only
        rw [cnd_t, no]
        rintro ⟨⟨_, _, _, h | h⟩, _⟩
        · exact q1 h.2.1
        · exact absurd h.1 (by simp)
      rw [dF (show ¬ hi ≠ lo from fun q => q q1), cnd_f, obind_s]
      simp only
      by_cases q2 : (12 : Int) < t.length
      · right
        rw [dT q2, cnd_t, no]
        rintro ⟨⟨_, _, _, h | h⟩, _⟩
        · have := h.2.2.1; simp only at this; omega
        · exact absurd h.1 (by simp)
      rw [dF q2, cnd_f]
      by_cases q3 : w = 0
      · left
        have hv : vE (1, lo, hi, t, w) := ⟨by simp only; omega, by simp only; omega, by simp only; omega, .inl ⟨rfl, q1, by simp only; omega, q3⟩⟩
        refine ⟨hi + 1, ?_, good hv, by omega⟩
        rw [dF (show ¬ w ≠ 0 from fun q => q q3), cnd_f, w1, w2]
      · right
        rw [dT (show w ≠ 0 from q3), cnd_t, no]
        rintro ⟨⟨_, _, _, h | h⟩, _⟩
        · exact q3 h.2.2.2
        · exact absurd h.1 (by simp)
    rw [dF k1, cnd_f]
    by_cases k2 : k = 2
    · subst k2
      rw [dT rfl, cnd_t]
      by_cases q1 : t = []
      case neg =>
        right
        rw [show (!t == []) = true by cases t with | nil => exact (q1 rfl).elim | cons => rfl, cnd_t, no]
        rintro ⟨⟨_, _, _, h | h⟩, _⟩
        · exact absurd h.1 (by simp)
        · exact q1 h.2.1
      subst q1
      rw [show (!([] : List UInt8) == []) = false from rfl, cnd_f]
      by_cases q2 : w = 1
      · left
        have hv : vE (2, lo, hi, [], w) := ⟨by simp only; omega, by simp only; omega, by simp only; omega, .inr ⟨rfl, rfl, .inl q2⟩⟩
        refine ⟨hi + 1, ?_, good hv, by omega⟩
        rw [dF (show ¬ w ≠ 1 from fun q => q q2), cnd_f, w1, w2]
      rw [dT (show w ≠ 1 from q2), cnd_t]
      by_cases q3 : w = 2
      · left
        have hv : vE (2, lo, hi, [], w) := ⟨by simp only; omega, by simp only; omega, by simp only; omega, .inr ⟨rfl, rfl, .inr q3⟩⟩
        refine ⟨hi + 1, ?_, good hv, by omega⟩
        rw [dF (show ¬ w ≠ 2 from fun q => q q3), cnd_f, w1, w2]
      · right
        rw [dT (show w ≠ 2 from q3), cnd_t, no]
        rintro ⟨⟨_, _, _, h | h⟩, _⟩
        · exact absurd h.1 (by simp)
        · rcases h.2.2 with h | h
          · exact q2 h
          · exact q3 h
    · right
      rw [dF k2, cnd_f, no]
      rintro ⟨⟨_, _, _, h | h⟩, _⟩
      · exact k1 h.1
      · exact k2 h.1
theorem rNext (N : Nat) (x : List Ev × Int) : W_ref13_NextLog N x = W_log_Next N x := rfl
theorem rGaps_eq (N : Nat) (l : List Ev) (f : Int) (hN : l.length + 100 < N) (hl : l.length ≤ 100) (h : Ch f l) : W_ref13_Gaps N l = some (gp [] l) := by
  unfold W_ref13_Gaps
  refine obind_rec eD l (fun i (o : List Sp) => (o, i)) (fun l o => gp o l) (fun o r => ∃ m, Ch m r ∧ VS o ∧ (∀ s ∈ o, s.2 + 1 ≤ m) ∧ o.length + r.length ≤ 100) [] rfl (by omega) ⟨f, h, ⟨by simp, by simp⟩, by simp, by simpa using hl⟩ rfl ?_ ?_
  · rintro o _
    try simp only
    rw [dF (by omega), cnd_f]
    rfl
  · rintro i ⟨k, lo, hi, t, w⟩ r o hi' hg ⟨m, g1, g2, g3, g4⟩
    left
    obtain ⟨hv, hm, hc⟩ := g1
    obtain ⟨a1, a2, a3, a4⟩ := hv
    simp only [List.length_cons] at a1 a2 a3 hm hc g4
    have d1 : decide ((i : Int) < l.length) = true := dT (by omega)
    have d2 : decide ((0 : Int) ≤ i) = true := dT (by omega)
    have w2 : wr .i64 ((i : Int) + 1) = (i : Int) + 1 := wr_m (by omega) (by omega)
    simp only [Int.toNat_natCast, hg, d1, d2, Bool.and_self, cnd_t]
    by_cases hk : k = 2
    · have hs : okS (lo, hi) := ⟨a1, a2, a3⟩
      have eo := addP_push g2 hs (fun t ht => by have := g3 t ht; simp only; omega)
      simp only at eo
      have hadd := VS_add g2 hs
      refine ⟨addP o (lo, hi), ?_, by simp only [gp]; rw [if_pos hk, eo], hi + 1, hc, hadd.1, ?_, by have := hadd.2; omega⟩
      · rw [dT hk, cnd_t, rAddS_eq N o (lo, hi) (by omega) (by omega) (fun h hh => (g2.1 h hh).B), obind_s, w2]
      · rw [eo]
        exact push_hi (fun s hs' => by have := g3 s hs'; omega) (by omega)
    · refine ⟨o, ?_, by simp only [gp]; rw [if_neg hk], hi + 1, hc, g2, fun s hs => by have := g3 s hs; omega, by omega⟩
      rw [dF hk, cnd_f, w2]
theorem SameE_self (N : Nat) (a : List Ev) (hN : a.length < N) (hl : a.length ≤ 1000) : W_ref13_SameEvents N (a, a) = some true := by
  unfold W_ref13_SameEvents
  simp only
  rw [dF (by simp), cnd_f]
  refine obind_rec eD a (fun i (s : Unit) => i) (fun l s => (.inl () : PUnit ⊕ Bool)) (fun _ _ => True) () rfl hN trivial (by rw [selim_l]) ?_ ?_
  · rintro s _
    try simp only
    rw [dF (by omega), cnd_f]
  · rintro i h r s hi hg _
    left
    refine ⟨(), ?_, rfl, trivial⟩
    have d1 : decide ((i : Int) < a.length) = true := dT (by omega)
    have d2 : decide ((0 : Int) ≤ i) = true := dT (by omega)
    simp only [d1, d2, Bool.and_self, cnd_t, dT, Bool.not_true, cnd_f, beq_self_eq_true]
    rw [wr_m (by omega) (by omega)]
theorem Clone_eq (N : Nat) (a : List Ev) (hl : a.length ≤ 1000) : W_slices_Clone_api_Event N a = some a := by
  unfold W_slices_Clone_api_Event
  rw [dT (by omega), cnd_t]
theorem lTell (N : Nat) (a : List Ev) (n : Int) (t : List UInt8) (hl : a.length ≤ 1000) : W_log_Tell N (a, n, t) = some (a ++ [(1, n, n, t, 0)]) := by
  unfold W_log_Tell
  simp only
  rw [Clone_eq N a hl, obind_s, dT (by simp only [List.length_singleton]; omega), cnd_t]
theorem rTell (N : Nat) (a : List Ev) (n : Int) (t : List UInt8) (hl : a.length ≤ 1000) : W_ref13_Tell N (a, n, t) = some (a ++ [(1, n, n, t, 0)]) := by
  unfold W_ref13_Tell
  simp only
  rw [dT (by omega), cnd_t, dT (by first | omega | (simp only [List.length_singleton]; omega)), cnd_t]
theorem lSkip (N : Nat) (a : List Ev) (n m w : Int) (hl : a.length ≤ 1000) : W_log_Skip N (a, n, m, w) = some (a ++ [(2, n, m, [], w)]) := by
  unfold W_log_Skip
  simp only
  rw [Clone_eq N a hl, obind_s, dT (by first | omega | (simp only [List.length_singleton]; omega)), cnd_t]
theorem rSkip (N : Nat) (a : List Ev) (n m w : Int) (hl : a.length ≤ 1000) : W_ref13_Skip N (a, n, m, w) = some (a ++ [(2, n, m, [], w)]) := by
  unfold W_ref13_Skip
  simp only
  rw [dT (by omega), cnd_t, dT (by first | omega | (simp only [List.length_singleton]; omega)), cnd_t]
theorem obind_ex {α β : Type} {A : Option α} {k : α → Option β} {res : Option β} (P : α → Prop) (hA : ∃ y, A = some y ∧ P y) (hk : ∀ y, P y → k y = res) : obind A k = res := by
  obtain ⟨y, h1, h2⟩ := hA
  rw [h1, obind_s]
  exact hk y h2
theorem one_round (N : Nat) (f : Int) (L : List Ev) (hN : 200 ≤ N) (hl : L.length ≤ 16) (hf : 1 ≤ f) (hf2 : f ≤ 9) (h : Ch f L) :
    (∃ v, W_log_Next N (L, f) = some v) ∧ W_log_Gaps N L = some (gp [] L) ∧ W_ref13_Gaps N L = some (gp [] L) ∧ W_ref1_SameSpans N (gp [] L, gp [] L) = some true := by
  have hv := Ch_v L f h
  have i1 := gp_inv L [] f h ⟨by simp, by simp⟩ (by simp)
  simp only [List.length_nil] at i1
  exact ⟨⟨_, lNext_eq N L f (by omega) hv⟩, lGaps_eq N L (by omega) (by omega) hv, rGaps_eq N L f (by omega) (by omega) h, SameS_self N _ (by omega) (by omega)⟩
open Classical in
theorem law_aux (N : Nat) (hN : 200 ≤ N) (y0 : List (Int × Int)) (y1 : Int) (y2 : Ev) (y3 y4 y5 y6 : Int) (h0 : ∀ h ∈ y0, (0 ≤ h.1 ∧ h.1 ≤ 255) ∧ 0 ≤ h.2 ∧ h.2 ≤ 255) (h1 : 0 ≤ y1 ∧ y1 ≤ 255) (h3 : 0 ≤ y3 ∧ y3 ≤ 255) : W_law16_LogAll N (y0, y1, y2, y3, y4, y5, y6) = some true := by
  unfold W_law16_LogAll
  simp only
  by_cases c1 : (15 : Int) < y0.length
  · rw [dT c1, cnd_t]
  rw [dF c1, cnd_f]
  by_cases c2 : (30 : Int) < y2.2.2.2.1.length
  · rw [dT c2, cnd_t]
  rw [dF c2, cnd_f]
  obtain ⟨f, hf, hf1, hf2⟩ : ∃ f : Int, wr IntKind.i64 (1 + wr IntKind.i64 (Int.tmod y1 9)) = f ∧ 1 ≤ f ∧ f ≤ 9 := by
    have e1 := Int.emod_nonneg y1 (show (9 : Int) ≠ 0 by omega)
    have e2 := Int.emod_lt_of_pos y1 (show (0 : Int) < 9 by omega)
    refine ⟨_, rfl, ?_, ?_⟩ <;> rw [Int.tmod_eq_emod_of_nonneg h1.1, wr_m (z := y1 % 9) (by omega) (by omega), wr_m (by omega) (by omega)] <;> omega
  obtain ⟨x, hx, hc, hxl⟩ := Logs_eq N y0 f (by omega) (by omega) h0 hf1 hf2
  simp only [hf]
  rw [hx, obind_s, dT (by omega), cnd_t]
  have hw3 : wr IntKind.i64 y3 = y3 := wr_m (by omega) (by omega)
  simp only [hw3]
  have em : ∀ h : 0 < x.length, 0 ≤ Int.tmod y3 x.length ∧ Int.tmod y3 x.length < x.length := fun h => by
    rw [Int.tmod_eq_emod_of_nonneg h3.1]
    exact ⟨Int.emod_nonneg _ (by omega), Int.emod_lt_of_pos _ (by omega)⟩
  refine obind_ex (fun y => y.length ≤ 16) ?_ fun y hy => ?_
  · by_cases hx0 : 0 < x.length
    · have e := em hx0
      generalize Int.tmod y3 x.length = m at e
      rw [dT (by omega), cnd_t, dF (by omega), Bool.not_false, cnd_t, dT e.1, dT e.2, Bool.and_self, cnd_t]
      refine ⟨_, rfl, ?_⟩
      rw [putL_length (by simp only [List.length_singleton]; omega)]
      omega
    · rw [dF (by omega), cnd_f]
      exact ⟨_, rfl, by omega⟩
  refine obind_ex (fun y => y.length ≤ 16) ?_ fun z hz => ?_
  · by_cases hx0 : 0 < x.length
    · have e := em hx0
      generalize Int.tmod y3 x.length = m at e
      have w1 : wr IntKind.i64 (m + 1) = m + 1 := wr_m (by omega) (by omega)
      have l1 : (List.drop 0 (List.take m.toNat x)).length ≤ 15 := by rw [List.length_drop, List.length_take]; omega
      have l2 : (List.drop (m + 1).toNat (List.take x.length x)).length ≤ 15 := by rw [List.length_drop, List.length_take]; omega
      have l3 : (List.drop 0 (List.take m.toNat x)).length + (List.drop (m + 1).toNat (List.take x.length x)).length ≤ 16 := by rw [List.length_drop, List.length_take, List.length_drop, List.length_take]; omega
      rw [w1, dT (by omega), cnd_t, dF (by omega), Bool.not_false, cnd_t, dT e.1, dT (by omega), Bool.and_self, cnd_t, dT (by omega), cnd_t, cnd_t, dT (by omega), dT (by omega), Bool.and_self, cnd_t, dT (by omega), cnd_t]
      refine ⟨_, rfl, ?_⟩
      rw [List.length_append]
      exact l3
    · rw [dF (by omega), cnd_f]
      exact ⟨_, rfl, by omega⟩
  have mx := lMayD N x f (by omega) (by omega); have rx := rMayD N x f (by omega) (by omega)
  have mx2 := lMayD N x y4 (by omega) (by omega); have rx2 := rMayD N x y4 (by omega) (by omega)
  have my := lMayD N y f (by omega) (by omega); have ry := rMayD N y f (by omega) (by omega)
  have my2 := lMayD N y y4 (by omega) (by omega); have ry2 := rMayD N y y4 (by omega) (by omega)
  have mz := lMayD N z f (by omega) (by omega); have rz := rMayD N z f (by omega) (by omega)
  have mz2 := lMayD N z y4 (by omega) (by omega); have rz2 := rMayD N z y4 (by omega) (by omega)
  rw [dT ⟨hf1, hc⟩] at mx rx
  obtain ⟨⟨vx, x1⟩, x2, x3, x4⟩ := one_round N f x hN (by omega) hf1 hf2 hc
  have t1 := lTell N x y4 [(116 : UInt8)] (by omega); have t2 := rTell N x y4 [(116 : UInt8)] (by omega)
  have s1 := lSkip N x y4 y5 y6 (by omega); have s2 := rSkip N x y4 y5 y6 (by omega)
  have e1 := SameE_self N (x ++ [(1, y4, y4, [(116 : UInt8)], 0)]) (by simp only [List.length_append, List.length_singleton]; omega) (by simp only [List.length_append, List.length_singleton]; omega)
  have e2 := SameE_self N (x ++ [(2, y4, y5, [], y6)]) (by simp only [List.length_append, List.length_singleton]; omega) (by simp only [List.length_append, List.length_singleton]; omega)
  have bb : ∀ b : Bool, (!b == b) = false := fun b => by cases b <;> rfl
  have dd : ∀ v : Int, decide (v ≠ v) = false := fun v => dF (fun q => q rfl)
  simp only [rNext, mx, rx, mx2, rx2, bb, obind_s, cnd_f, cnd_t, selim_l, selim_r, x1, x2, x3, x4, dd, Bool.not_true, my, ry, my2, ry2, mz, rz, mz2, rz2, t1, t2, s1, s2, e1, e2]
  by_cases hyc : Ch f y
  · obtain ⟨⟨vy, y1'⟩, y2', y3', y4'⟩ := one_round N f y hN hy hf1 hf2 hyc
    simp only [dT (show 1 ≤ f ∧ Ch f y from ⟨hf1, hyc⟩), cnd_t, y1', y2', y3', y4', obind_s, dd, cnd_f, Bool.not_true, selim_l, selim_r]
    by_cases hzc : Ch f z
    · obtain ⟨⟨vz, z1⟩, z2, z3, z4⟩ := one_round N f z hN hz hf1 hf2 hzc
      simp only [dT (show 1 ≤ f ∧ Ch f z from ⟨hf1, hzc⟩), cnd_t, z1, z2, z3, z4, obind_s, dd, cnd_f, Bool.not_true, selim_l, selim_r]
    · simp only [dF (show ¬ (1 ≤ f ∧ Ch f z) from fun q => hzc q.2), cnd_f, cnd_t, obind_s, selim_l, selim_r]
  · simp only [dF (show ¬ (1 ≤ f ∧ Ch f y) from fun q => hyc q.2), cnd_f, cnd_t, obind_s, selim_l, selim_r]
    by_cases hzc : Ch f z
    · obtain ⟨⟨vz, z1⟩, z2, z3, z4⟩ := one_round N f z hN hz hf1 hf2 hzc
      simp only [dT (show 1 ≤ f ∧ Ch f z from ⟨hf1, hzc⟩), cnd_t, z1, z2, z3, z4, obind_s, dd, cnd_f, Bool.not_true, selim_l, selim_r]
    · simp only [dF (show ¬ (1 ≤ f ∧ Ch f z) from fun q => hzc q.2), cnd_f, cnd_t, obind_s, selim_l, selim_r]
def NN : Nat := 300
theorem law_true (y0 : List (Int × Int)) (y1 : Int) (y2 : Int × Int × Int × (List UInt8) × Int) (y3 : Int) (y4 : Int) (y5 : Int) (y6 : Int) (h0 : Twf (.list (.agg (.pair (.int .u8) (.int .u8)))) y0) (h1 : Twf (.int .u8) y1) (h2 : Twf (.agg (.pair (.int .i64) (.pair (.int .i64) (.pair (.int .i64) (.pair .str (.int .i64)))))) y2) (h3 : Twf (.int .u8) y3) (h4 : Twf (.int .i64) y4) (h5 : Twf (.int .i64) y5) (h6 : Twf (.int .i64) y6) : W_law16_LogAll NN (y0, y1, y2, y3, y4, y5, y6) = some true :=
  law_aux 300 (by omega) y0 y1 y2 y3 y4 y5 y6 h0.2 h1 h3

theorem spec (y0 : List (Int × Int)) (y1 : Int) (y2 : Int × Int × Int × (List UInt8) × Int) (y3 : Int) (y4 : Int) (y5 : Int) (y6 : Int) (h0 : Twf (.list (.agg (.pair (.int .u8) (.int .u8)))) y0) (h1 : Twf (.int .u8) y1) (h2 : Twf (.agg (.pair (.int .i64) (.pair (.int .i64) (.pair (.int .i64) (.pair .str (.int .i64)))))) y2) (h3 : Twf (.int .u8) y3) (h4 : Twf (.int .i64) y4) (h5 : Twf (.int .i64) y5) (h6 : Twf (.int .i64) y6) : Spec2 P0 12 [valW (.list (.agg (.pair (.int .u8) (.int .u8)))) y0, valW (.int .u8) y1, valW (.agg (.pair (.int .i64) (.pair (.int .i64) (.pair (.int .i64) (.pair .str (.int .i64)))))) y2, valW (.int .u8) y3, valW (.int .i64) y4, valW (.int .i64) y5, valW (.int .i64) y6] [] (.bs true) [] [] := (con_law16_LogAll_ok NN).2 (y0, y1, y2, y3, y4, y5, y6) true (law_true y0 y1 y2 y3 y4 y5 y6 h0 h1 h2 h3 h4 h5 h6)
theorem lifted (os : Os) (started : os.Started) (H : Type) (enc : TypeId × Value → H) :
    ReturnsInHanded {} Try.checked os 12 .any (Rows.logAllSpec.pre6 enc Try.prog Try.f12 Rows.logAllRow.domain false) (Rows.logAllSpec.post enc Try.prog Try.f12 false true false false) := by
  refine returnsInHanded_of_change (C := Try.checked) own started (by kernel_rfl) Try.func12
    (ChangeSpec.witness6 (enc := enc) (C := Try.checked) false ⟨#[], #[.slice none 0 0, .int .u8 0, .agg #[.int .i64 0, .int .i64 0, .int .i64 0, .string ⟨#[]⟩, .int .i64 0], .int .u8 0, .int .i64 0, .int .i64 0, .int .i64 0], []⟩ 8 (by kernel_rfl) (by kernel_rfl) (by kernel_rfl) (by kernel_rfl)) ?_
  intro W base args ds gs before hval0 hW hcnd _
  have hval : ∀ (j : Nat) t v, Try.f12.params[j]? = some t → args[j]? = some v → Value.okWide Try.prog W .any base t v := hval0
  have hW' := hW
  obtain ⟨p, q, hA0, hV, rfl, hfz, hnd⟩ := hW
  have hA : DataW.TrodAll enc Try.prog W 0 (fun _ => true) true Try.f12.params.toList args.toList ds p := hA0
  rw [Try.params12] at hA hval
  obtain ⟨v0, vs0, d0, ds0, p0, q0, hargs, rfl, rfl, h0, r0⟩ := trodAll_cons hA
  obtain ⟨v1, vs1, d1, ds1, p1, q1, rfl, rfl, rfl, h1, r1⟩ := trodAll_cons r0
  obtain ⟨v2, vs2, d2, ds2, p2, q2, rfl, rfl, rfl, h2, r2⟩ := trodAll_cons r1
  obtain ⟨v3, vs3, d3, ds3, p3, q3, rfl, rfl, rfl, h3, r3⟩ := trodAll_cons r2
  obtain ⟨v4, vs4, d4, ds4, p4, q4, rfl, rfl, rfl, h4, r4⟩ := trodAll_cons r3
  obtain ⟨v5, vs5, d5, ds5, p5, q5, rfl, rfl, rfl, h5, r5⟩ := trodAll_cons r4
  obtain ⟨v6, vs6, d6, ds6, p6, q6, rfl, rfl, rfl, h6, r6⟩ := trodAll_cons r5
  obtain ⟨rfl, rfl, rfl⟩ := trodAll_nil r6
  obtain rfl : args = #[v0, v1, v2, v3, v4, v5, v6] := by cases args; simp_all
  obtain ⟨rfl, rfl⟩ := trodVars_none hV
  have k0 := h0
  have lt0 : ∀ x ∈ p0, x.block < W.heap.size := by obtain ⟨m, hm⟩ := k0; exact DataW.trod_lt m _ _ _ hm
  obtain ⟨y0, rp0, wf0⟩ := arg_ok (n := 12) (ty := (.list (.agg (.pair (.int .u8) (.int .u8))))) (by kernel_rfl) (hval 0 _ v0 rfl rfl) h0
  have k1 := h1
  have lt1 : ∀ x ∈ p1, x.block < W.heap.size := by obtain ⟨m, hm⟩ := k1; exact DataW.trod_lt m _ _ _ hm
  obtain ⟨y1, rp1, wf1⟩ := arg_ok (n := 12) (ty := (.int .u8)) (by kernel_rfl) (hval 1 _ v1 rfl rfl) h1
  have k2 := h2
  have lt2 : ∀ x ∈ p2, x.block < W.heap.size := by obtain ⟨m, hm⟩ := k2; exact DataW.trod_lt m _ _ _ hm
  obtain ⟨y2, rp2, wf2⟩ := arg_ok (n := 12) (ty := (.agg (.pair (.int .i64) (.pair (.int .i64) (.pair (.int .i64) (.pair .str (.int .i64))))))) (by kernel_rfl) (hval 2 _ v2 rfl rfl) h2
  have k3 := h3
  have lt3 : ∀ x ∈ p3, x.block < W.heap.size := by obtain ⟨m, hm⟩ := k3; exact DataW.trod_lt m _ _ _ hm
  obtain ⟨y3, rp3, wf3⟩ := arg_ok (n := 12) (ty := (.int .u8)) (by kernel_rfl) (hval 3 _ v3 rfl rfl) h3
  have k4 := h4
  have lt4 : ∀ x ∈ p4, x.block < W.heap.size := by obtain ⟨m, hm⟩ := k4; exact DataW.trod_lt m _ _ _ hm
  obtain ⟨y4, rp4, wf4⟩ := arg_ok (n := 12) (ty := (.int .i64)) (by kernel_rfl) (hval 4 _ v4 rfl rfl) h4
  have k5 := h5
  have lt5 : ∀ x ∈ p5, x.block < W.heap.size := by obtain ⟨m, hm⟩ := k5; exact DataW.trod_lt m _ _ _ hm
  obtain ⟨y5, rp5, wf5⟩ := arg_ok (n := 12) (ty := (.int .i64)) (by kernel_rfl) (hval 5 _ v5 rfl rfl) h5
  have k6 := h6
  have lt6 : ∀ x ∈ p6, x.block < W.heap.size := by obtain ⟨m, hm⟩ := k6; exact DataW.trod_lt m _ _ _ hm
  obtain ⟨y6, rp6, wf6⟩ := arg_ok (n := 12) (ty := (.int .i64)) (by kernel_rfl) (hval 6 _ v6 rfl rfl) h6
  clear hA0 hval0
  refine (law_of2 (spec y0 y1 y2 y3 y4 y5 y6 wf0 wf1 wf2 wf3 wf4 wf5 wf6) W #[v0, v1, v2, v3, v4, v5, v6] (.cons rp0 (.cons rp1 (.cons rp2 (.cons rp3 (.cons rp4 (.cons rp5 (.cons rp6 .nil)))))))).mono fun e W' ⟨he, bel⟩ => ?_
  subst he
  exact ⟨_, rfl, _, _, _, [], _, [], hW', trodAll_mk1 (shut_bool Try.underlying4 _), (trodAll_cons_mk (Below.trod laidOut (by kernel_rfl) (of_decide_eq_true (by kernel_rfl)) k0 bel lt0) (trodAll_cons_mk (Below.trod laidOut (by kernel_rfl) (of_decide_eq_true (by kernel_rfl)) k1 bel lt1) (trodAll_cons_mk (Below.trod laidOut (by kernel_rfl) (of_decide_eq_true (by kernel_rfl)) k2 bel lt2) (trodAll_cons_mk (Below.trod laidOut (by kernel_rfl) (of_decide_eq_true (by kernel_rfl)) k3 bel lt3) (trodAll_cons_mk (Below.trod laidOut (by kernel_rfl) (of_decide_eq_true (by kernel_rfl)) k4 bel lt4) (trodAll_cons_mk (Below.trod laidOut (by kernel_rfl) (of_decide_eq_true (by kernel_rfl)) k5 bel lt5) (trodAll_cons_mk (Below.trod laidOut (by kernel_rfl) (of_decide_eq_true (by kernel_rfl)) k6 bel lt6) trodAll_mk0))))))), rfl, bel.frame _, fun h => by cases h⟩

theorem over : Rows.logAllRow.holds Try.pinned (OpenSpec.ofChange Rows.logAllSpec) :=
  OpenClaim.holds_of_wide 12 Try.f12 rfl rfl rfl rfl rfl rfl rfl ⟨rfl, rfl, rfl, rfl, rfl⟩ rfl rfl rfl rfl rfl (by kernel_rfl) Try.func12 (by kernel_rfl)
    (of_decide_eq_true (by kernel_rfl)) (by unfold Func.isWrapper; first | (rw [if_pos (by decide +kernel)]; kernel_rfl) | (rw [if_neg (by decide +kernel)]; exact ⟨rfl, rfl⟩))
    (fun os started H enc _ => lifted os started H enc)

theorem holds : Rows.LogAllSaid := over
end Go.Proofs.Ytnkalddmjdicfaa.logAllX
