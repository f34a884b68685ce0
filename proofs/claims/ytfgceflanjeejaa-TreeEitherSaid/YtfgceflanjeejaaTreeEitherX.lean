/- TreeEither: for all arguments the call returns true. The law is brought to a function of Lean's own (W_..) by the machine of the texts beside it, and that is reckoned; no condition. -/
import Derived.Test.YtfgceflanjeejaaExtL
import Derived.Test.YtfgceflanjeejaaRows
import Derived.WalkKit
import Derived.ProofKit
import Derived.OpenShut
import Derived.ShutString
import Derived.ChangeOld
import Derived.Below
namespace Go.Proofs.Ytfgceflanjeejaa.treeEitherX
open Go.Abs Go.RowKit Go.ChangeShapes Go.WideShapes Go.ChangeAt
set_option maxRecDepth 100000
set_option linter.unusedVariables false
set_option linter.unusedSimpArgs false
noncomputable abbrev P0 : Program := Try.prog
noncomputable def bodyOf (fn : Func) : Code := fn.body.getD .skip
def L0 : Lend := fun f => aget [] [(56, [2])] f
def kpL (l : List Bool) : Nat → Bool := fun j => l.getD j true
theorem own : ownKnob Try.prog.godebug = none := by kernel_rfl
theorem laidOut : laidOutB Try.prog = true := by kernel_rfl
theorem mixed : P0.follows .mixedOrders = true := by decide +kernel
theorem progOk_ : progOk P0 = true := by decide +kernel
noncomputable def con_law21_begun (N : Nat) : Con := ⟨28, [], [], Unit, fun _ => some (), fun _ => (.bs true, [], [])⟩
theorem con_law21_begun_ok (N : Nat) : Con.ok P0 (con_law21_begun N) := closed_con2 (nonJ_ok _) mixed progOk_ (noneΞ_ok2 _) (inl := [14,15,33,34,35,56,93]) (breath := 100000) (n := 60) (by kernel_rfl)
def as_law21_ups : List AS := [.val (.list (.int .u8))]
def bs_law21_ups : List BS := []
def pout_law21_ups : Pat := ⟨[(2, .val (.list (.int .i64)))], []⟩
noncomputable def G_law21_ups  (N : Nat) : OrcT := orcOf []
noncomputable def F_law21_ups  (N : Nat) (x : List Int) : Option (List Int) :=
  (evT (G_law21_ups  N) L0 P0 [(3, .loop [] ⟨[(3, .acc 700003), (4, .val (.int .i64))], [(700003, .nrow 3 (.int .i64) true true)]⟩ [(.exit 0, ⟨[(3, .val (.list (.int .i64)))], []⟩)])]
    [] N 400 (bodyOf Try.f29) ⟨24, slots 0 (argsOf as_law21_ups bs_law21_ups x), tabU (lbOf as_law21_ups bs_law21_ups x) [], []⟩).elim (kRet 24 pout_law21_ups (kpL []) (lbOf as_law21_ups bs_law21_ups x))
def out_law21_ups (y : List Int) : V × List OK × List OK := (valW (.list (.int .i64)) y, [], [])
noncomputable def V_law21_ups  (N : Nat) (x : List Int) : Option (List Int) :=
  obind
    (loopN N
      (fun (v : Int × List Int) =>
        cnd (decide (Prod.fst v < (↑(List.length x) : Int)))
          (cnd (decide ((0 : Int) ≤ Prod.fst v) && decide (Prod.fst v < (↑(List.length x) : Int)))
            (cnd (!decide (wr IntKind.i64 ((↑(List.length x) : Int) + (2 : Int)) = (0 : Int)))
              (cnd
                (decide
                  ((List.length (Prod.snd v) +
                        List.length
                          [Int.tmod (wr IntKind.i64 (List.getD x (Int.toNat (Prod.fst v)) (0 : Int)))
                              (wr IntKind.i64 ((↑(List.length x) : Int) + (2 : Int)))]) *
                      (8 : Nat) ≤
                    (140737488355328 : Nat)))
                (some
                  (Sum.inl
                    (wr IntKind.i64 (Prod.fst v + (1 : Int)),
                      Prod.snd v ++
                        [Int.tmod (wr IntKind.i64 (List.getD x (Int.toNat (Prod.fst v)) (0 : Int)))
                            (wr IntKind.i64 ((↑(List.length x) : Int) + (2 : Int)))])))
                none)
              none)
            none)
          (some (Sum.inr (Prod.snd v))))
      ((0 : Int), []))
    fun (b : List Int) => some b
theorem FV_law21_ups_eq  (N : Nat) (x : List Int) : F_law21_ups  N x = V_law21_ups  N x := by kernel_rfl
noncomputable def W_law21_ups (N : Nat) (x : List Int) : Option (List Int) :=
  obind
    (loopN N
      (fun (v : Int × List Int) =>
        cnd (decide (Prod.fst v < (↑(List.length x) : Int)))
          (cnd (decide ((0 : Int) ≤ Prod.fst v) && decide (Prod.fst v < (↑(List.length x) : Int)))
            (cnd (!decide (wr IntKind.i64 ((↑(List.length x) : Int) + (2 : Int)) = (0 : Int)))
              (cnd
                (decide
                  ((List.length (Prod.snd v) +
                        List.length
                          [Int.tmod (wr IntKind.i64 (List.getD x (Int.toNat (Prod.fst v)) (0 : Int)))
                              (wr IntKind.i64 ((↑(List.length x) : Int) + (2 : Int)))]) *
                      (8 : Nat) ≤
                    (140737488355328 : Nat)))
                (some
                  (Sum.inl
                    (wr IntKind.i64 (Prod.fst v + (1 : Int)),
                      Prod.snd v ++
                        [Int.tmod (wr IntKind.i64 (List.getD x (Int.toNat (Prod.fst v)) (0 : Int)))
                            (wr IntKind.i64 ((↑(List.length x) : Int) + (2 : Int)))])))
                none)
              none)
            none)
          (some (Sum.inr (Prod.snd v))))
      ((0 : Int), []))
    fun (b : List Int) => some b
theorem F_law21_ups_eq (N : Nat) (x : List Int) : F_law21_ups  N x = W_law21_ups N x := (FV_law21_ups_eq  N x).trans (by kernel_rfl)
noncomputable def conw_law21_ups (w : List Int → Option (List Int)) : Con := ⟨29, as_law21_ups, bs_law21_ups, List Int, w, out_law21_ups⟩
noncomputable def con_law21_ups (N : Nat) : Con := conw_law21_ups (W_law21_ups N)
theorem R_law21_ups_eq (x : List Int) (y : List Int) : retOf2 P0 Try.f29 (kpL []) (lbOf as_law21_ups bs_law21_ups x) (patS ⟨24, [], [], []⟩ pout_law21_ups y) = some (out_law21_ups y) := by kernel_rfl
theorem con_law21_ups_ok (N : Nat) : Con.ok P0 (con_law21_ups N) := ⟨⟨Try.f29, Try.func29, by kernel_rfl, by kernel_rfl⟩, fun (x : List Int) (r : List Int) (hr : W_law21_ups N x = some r) =>
  spec2_evT (Γ := G_law21_ups N) (Λ := L0) (pout := pout_law21_ups) (kp := kpL []) mixed (orcOf_ok [] (by simp)) Try.func29 (c := bodyOf Try.f29) (by kernel_rfl) (by kernel_rfl) (of_decide_eq_true (by kernel_rfl)) ((F_law21_ups_eq N x).trans hr) (R_law21_ups_eq x r)⟩
def as_tree_step : List AS := [.val (.list (.int .i64)), .val (.int .i64)]
def bs_tree_step : List BS := []
def pout_tree_step : Pat := ⟨[(4, .val (.alt 92 (.int .i64) (.alt1 107 (.agg .unit))))], []⟩
noncomputable def G_tree_step  (N : Nat) : OrcT := orcOf []
noncomputable def F_tree_step  (N : Nat) (x : (List Int) × Int) : Option (Int ⊕ Unit) :=
  (evT (G_tree_step  N) L0 P0 []
    [] N 400 (bodyOf Try.f57) ⟨21, slots 0 (argsOf as_tree_step bs_tree_step x), tabU (lbOf as_tree_step bs_tree_step x) [], []⟩).elim (kRet 21 pout_tree_step (kpL []) (lbOf as_tree_step bs_tree_step x))
def out_tree_step (y : Int ⊕ Unit) : V × List OK × List OK := (valW (.alt 92 (.int .i64) (.alt1 107 (.agg .unit))) y, [], [])
noncomputable def V_tree_step  (N : Nat) (x : (List Int) × Int) : Option (Int ⊕ Unit) :=
  cnd (decide (Prod.snd x < (1 : Int))) (some (Sum.inr ()))
    (cnd (decide ((↑(List.length (Prod.fst x)) : Int) < Prod.snd x)) (some (Sum.inr ()))
      (cnd
        (decide ((0 : Int) ≤ wr IntKind.i64 (Prod.snd x - (1 : Int))) &&
          decide (wr IntKind.i64 (Prod.snd x - (1 : Int)) < (↑(List.length (Prod.fst x)) : Int)))
        (some (Sum.inl (List.getD (Prod.fst x) (Int.toNat (wr IntKind.i64 (Prod.snd x - (1 : Int)))) (0 : Int)))) none))
theorem FV_tree_step_eq  (N : Nat) (x : (List Int) × Int) : F_tree_step  N x = V_tree_step  N x := by kernel_rfl
noncomputable def W_tree_step (N : Nat) (x : (List Int) × Int) : Option (Int ⊕ Unit) :=
  cnd (decide (Prod.snd x < (1 : Int))) (some (Sum.inr ()))
    (cnd (decide ((↑(List.length (Prod.fst x)) : Int) < Prod.snd x)) (some (Sum.inr ()))
      (cnd
        (decide ((0 : Int) ≤ wr IntKind.i64 (Prod.snd x - (1 : Int))) &&
          decide (wr IntKind.i64 (Prod.snd x - (1 : Int)) < (↑(List.length (Prod.fst x)) : Int)))
        (some (Sum.inl (List.getD (Prod.fst x) (Int.toNat (wr IntKind.i64 (Prod.snd x - (1 : Int)))) (0 : Int)))) none))
theorem F_tree_step_eq (N : Nat) (x : (List Int) × Int) : F_tree_step  N x = W_tree_step N x := (FV_tree_step_eq  N x).trans (by kernel_rfl)
noncomputable def conw_tree_step (w : (List Int) × Int → Option (Int ⊕ Unit)) : Con := ⟨57, as_tree_step, bs_tree_step, Int ⊕ Unit, w, out_tree_step⟩
noncomputable def con_tree_step (N : Nat) : Con := conw_tree_step (W_tree_step N)
theorem R_tree_step_eq (x : (List Int) × Int) (y : Int ⊕ Unit) : retOf2 P0 Try.f57 (kpL []) (lbOf as_tree_step bs_tree_step x) (patS ⟨21, [], [], []⟩ pout_tree_step y) = some (out_tree_step y) := by kernel_rfl
theorem con_tree_step_ok (N : Nat) : Con.ok P0 (con_tree_step N) := ⟨⟨Try.f57, Try.func57, by kernel_rfl, by kernel_rfl⟩, fun (x : (List Int) × Int) (r : Int ⊕ Unit) (hr : W_tree_step N x = some r) =>
  spec2_evT (Γ := G_tree_step N) (Λ := L0) (pout := pout_tree_step) (kp := kpL []) mixed (orcOf_ok [] (by simp)) Try.func57 (c := bodyOf Try.f57) (by kernel_rfl) (by kernel_rfl) (of_decide_eq_true (by kernel_rfl)) ((F_tree_step_eq N x).trans hr) (R_tree_step_eq x r)⟩
def as_tree_climbs : List AS := [.val (.list (.int .i64)), .val (.list .bool), .acc 0, .val (.int .i64)]
def bs_tree_climbs : List BS := [.nrow 3 (.int .i64) false]
def pout_tree_climbs : Pat := ⟨[(2, .acc 1000000), (8, .val .bool)], [(1000000, .nrow 3 (.int .i64) false false)]⟩
noncomputable def G_tree_climbs (w_tree_step : (List Int) × Int → Option (Int ⊕ Unit)) (N : Nat) : OrcT := orcOf [conw_tree_step w_tree_step]
noncomputable def F_tree_climbs (w_tree_step : (List Int) × Int → Option (Int ⊕ Unit)) (N : Nat) (x : (List Int) × (List Bool) × Int × List Int) : Option (Bool × List Int) :=
  (evT (G_tree_climbs w_tree_step N) L0 P0 [(2, .loop [] ⟨[(2, .acc 1000000), (9, .val (.int .i64))], [(1000000, .nrow 3 (.int .i64) false false)]⟩ [(.ret, ⟨[(2, .acc 1000000), (8, .val .bool)], [(1000000, .nrow 3 (.int .i64) false false)]⟩)])]
    [(1000003, .reg [(10, [], ⟨[(2, .acc 1000000), (29, .val .bool)], [(1000000, .nrow 3 (.int .i64) false false)]⟩)])] N 400 (bodyOf Try.f56) ⟨55, slots 0 (argsOf as_tree_climbs bs_tree_climbs x), tabU (lbOf as_tree_climbs bs_tree_climbs x) [], []⟩).elim (kRet 55 pout_tree_climbs (kpL [true]) (lbOf as_tree_climbs bs_tree_climbs x))
def out_tree_climbs (y : Bool × List Int) : V × List OK × List OK := (valW .bool y.1, [.nrow 3 false false ⟨(.int .i64), y.2⟩], [])
noncomputable def V_tree_climbs (w_tree_step : (List Int) × Int → Option (Int ⊕ Unit)) (N : Nat) (x : (List Int) × (List Bool) × Int × List Int) : Option (Bool × List Int) :=
  obind
    (loopN N
      (fun (v : Int × List Int) =>
        obind (w_tree_step (Prod.fst x, Prod.fst v)) fun (b : Int ⊕ PUnit) =>
          selim
            (fun (b : Int) =>
              obind
                (cnd
                  (decide ((0 : Int) ≤ wr IntKind.i64 (Prod.fst v - (1 : Int))) &&
                    decide (wr IntKind.i64 (Prod.fst v - (1 : Int)) < (↑(List.length (Prod.fst (Prod.snd x))) : Int)))
                  (some
                    (!List.getD (Prod.fst (Prod.snd x)) (Int.toNat (wr IntKind.i64 (Prod.fst v - (1 : Int)))) false,
                      Prod.snd v))
                  none)
                fun (b_1 : Bool × List Int) =>
                cnd (Prod.fst b_1) (some (Sum.inr (false, Prod.snd b_1)))
                  (cnd
                    (decide ((0 : Int) ≤ wr IntKind.i64 (Prod.fst v - (1 : Int))) &&
                      decide (wr IntKind.i64 (Prod.fst v - (1 : Int)) < (↑(List.length (Prod.snd b_1)) : Int)))
                    (cnd
                      (decide
                        (List.getD (Prod.snd b_1) (Int.toNat (wr IntKind.i64 (Prod.fst v - (1 : Int)))) (0 : Int) =
                          Prod.fst (Prod.snd (Prod.snd x))))
                      (some (Sum.inr (false, Prod.snd b_1)))
                      (cnd (decide (Prod.fst v = (1 : Int))) (some (Sum.inr (true, Prod.snd b_1)))
                        (cnd
                          (decide ((0 : Int) ≤ wr IntKind.i64 (Prod.fst v - (1 : Int))) &&
                            decide (wr IntKind.i64 (Prod.fst v - (1 : Int)) < (↑(List.length (Prod.snd b_1)) : Int)))
                          (cnd
                            (decide
                              ((0 : Int) <
                                List.getD (Prod.snd b_1) (Int.toNat (wr IntKind.i64 (Prod.fst v - (1 : Int)))) (0 : Int)))
                            (some (Sum.inr (true, Prod.snd b_1)))
                            (cnd
                              (decide ((0 : Int) ≤ wr IntKind.i64 (Prod.fst v - (1 : Int))) &&
                                decide (wr IntKind.i64 (Prod.fst v - (1 : Int)) < (↑(List.length (Prod.snd b_1)) : Int)))
                              (some
                                (Sum.inl
                                  (b,
                                    putL (Prod.snd b_1) [Prod.fst (Prod.snd (Prod.snd x))]
                                      (Int.toNat (wr IntKind.i64 (Prod.fst v - (1 : Int)))))))
                              none))
                          none)))
                    none))
            (fun (c : PUnit) =>
              cnd true (some (Sum.inr (false, Prod.snd v)))
                (cnd
                  (decide ((0 : Int) ≤ wr IntKind.i64 (Prod.fst v - (1 : Int))) &&
                    decide (wr IntKind.i64 (Prod.fst v - (1 : Int)) < (↑(List.length (Prod.snd v)) : Int)))
                  (cnd
                    (decide
                      (List.getD (Prod.snd v) (Int.toNat (wr IntKind.i64 (Prod.fst v - (1 : Int)))) (0 : Int) =
                        Prod.fst (Prod.snd (Prod.snd x))))
                    (some (Sum.inr (false, Prod.snd v)))
                    (cnd (decide (Prod.fst v = (1 : Int))) (some (Sum.inr (true, Prod.snd v)))
                      (cnd
                        (decide ((0 : Int) ≤ wr IntKind.i64 (Prod.fst v - (1 : Int))) &&
                          decide (wr IntKind.i64 (Prod.fst v - (1 : Int)) < (↑(List.length (Prod.snd v)) : Int)))
                        (cnd
                          (decide
                            ((0 : Int) <
                              List.getD (Prod.snd v) (Int.toNat (wr IntKind.i64 (Prod.fst v - (1 : Int)))) (0 : Int)))
                          (some (Sum.inr (true, Prod.snd v)))
                          (cnd
                            (decide ((0 : Int) ≤ wr IntKind.i64 (Prod.fst v - (1 : Int))) &&
                              decide (wr IntKind.i64 (Prod.fst v - (1 : Int)) < (↑(List.length (Prod.snd v)) : Int)))
                            (some
                              (Sum.inl
                                ((0 : Int),
                                  putL (Prod.snd v) [Prod.fst (Prod.snd (Prod.snd x))]
                                    (Int.toNat (wr IntKind.i64 (Prod.fst v - (1 : Int)))))))
                            none))
                        none)))
                  none))
            b)
      (Prod.fst (Prod.snd (Prod.snd x)), Prod.snd (Prod.snd (Prod.snd x))))
    fun (b : Bool × List Int) =>
    cnd (decide (List.length (Prod.snd b) = List.length (Prod.snd (Prod.snd (Prod.snd x)))))
      (some (Prod.fst b, Prod.snd b)) none
theorem FV_tree_climbs_eq (w_tree_step : (List Int) × Int → Option (Int ⊕ Unit)) (N : Nat) (x : (List Int) × (List Bool) × Int × List Int) : F_tree_climbs w_tree_step N x = V_tree_climbs w_tree_step N x := by kernel_rfl
noncomputable def W_tree_climbs (N : Nat) (x : (List Int) × (List Bool) × Int × List Int) : Option (Bool × List Int) :=
  obind
    (loopN N
      (fun (v : Int × List Int) =>
        obind (W_tree_step N (Prod.fst x, Prod.fst v)) fun (b : Int ⊕ PUnit) =>
          selim
            (fun (b : Int) =>
              obind
                (cnd
                  (decide ((0 : Int) ≤ wr IntKind.i64 (Prod.fst v - (1 : Int))) &&
                    decide (wr IntKind.i64 (Prod.fst v - (1 : Int)) < (↑(List.length (Prod.fst (Prod.snd x))) : Int)))
                  (some
                    (!List.getD (Prod.fst (Prod.snd x)) (Int.toNat (wr IntKind.i64 (Prod.fst v - (1 : Int)))) false,
                      Prod.snd v))
                  none)
                fun (b_1 : Bool × List Int) =>
                cnd (Prod.fst b_1) (some (Sum.inr (false, Prod.snd b_1)))
                  (cnd
                    (decide ((0 : Int) ≤ wr IntKind.i64 (Prod.fst v - (1 : Int))) &&
                      decide (wr IntKind.i64 (Prod.fst v - (1 : Int)) < (↑(List.length (Prod.snd b_1)) : Int)))
                    (cnd
                      (decide
                        (List.getD (Prod.snd b_1) (Int.toNat (wr IntKind.i64 (Prod.fst v - (1 : Int)))) (0 : Int) =
                          Prod.fst (Prod.snd (Prod.snd x))))
                      (some (Sum.inr (false, Prod.snd b_1)))
                      (cnd (decide (Prod.fst v = (1 : Int))) (some (Sum.inr (true, Prod.snd b_1)))
                        (cnd
                          (decide ((0 : Int) ≤ wr IntKind.i64 (Prod.fst v - (1 : Int))) &&
                            decide (wr IntKind.i64 (Prod.fst v - (1 : Int)) < (↑(List.length (Prod.snd b_1)) : Int)))
                          (cnd
                            (decide
                              ((0 : Int) <
                                List.getD (Prod.snd b_1) (Int.toNat (wr IntKind.i64 (Prod.fst v - (1 : Int)))) (0 : Int)))
                            (some (Sum.inr (true, Prod.snd b_1)))
                            (cnd
                              (decide ((0 : Int) ≤ wr IntKind.i64 (Prod.fst v - (1 : Int))) &&
                                decide (wr IntKind.i64 (Prod.fst v - (1 : Int)) < (↑(List.length (Prod.snd b_1)) : Int)))
                              (some
                                (Sum.inl
                                  (b,
                                    putL (Prod.snd b_1) [Prod.fst (Prod.snd (Prod.snd x))]
                                      (Int.toNat (wr IntKind.i64 (Prod.fst v - (1 : Int)))))))
                              none))
                          none)))
                    none))
            (fun (c : PUnit) =>
              cnd true (some (Sum.inr (false, Prod.snd v)))
                (cnd
                  (decide ((0 : Int) ≤ wr IntKind.i64 (Prod.fst v - (1 : Int))) &&
                    decide (wr IntKind.i64 (Prod.fst v - (1 : Int)) < (↑(List.length (Prod.snd v)) : Int)))
                  (cnd
                    (decide
                      (List.getD (Prod.snd v) (Int.toNat (wr IntKind.i64 (Prod.fst v - (1 : Int)))) (0 : Int) =
                        Prod.fst (Prod.snd (Prod.snd x))))
                    (some (Sum.inr (false, Prod.snd v)))
                    (cnd (decide (Prod.fst v = (1 : Int))) (some (Sum.inr (true, Prod.snd v)))
                      (cnd
                        (decide ((0 : Int) ≤ wr IntKind.i64 (Prod.fst v - (1 : Int))) &&
                          decide (wr IntKind.i64 (Prod.fst v - (1 : Int)) < (↑(List.length (Prod.snd v)) : Int)))
                        (cnd
                          (decide
                            ((0 : Int) <
                              List.getD (Prod.snd v) (Int.toNat (wr IntKind.i64 (Prod.fst v - (1 : Int)))) (0 : Int)))
                          (some (Sum.inr (true, Prod.snd v)))
                          (cnd
                            (decide ((0 : Int) ≤ wr IntKind.i64 (Prod.fst v - (1 : Int))) &&
                              decide (wr IntKind.i64 (Prod.fst v - (1 : Int)) < (↑(List.length (Prod.snd v)) : Int)))
                            (some
                              (Sum.inl
                                ((0 : Int),
                                  putL (Prod.snd v) [Prod.fst (Prod.snd (Prod.snd x))]
                                    (Int.toNat (wr IntKind.i64 (Prod.fst v - (1 : Int)))))))
                            none))
                        none)))
                  none))
            b)
      (Prod.fst (Prod.snd (Prod.snd x)), Prod.snd (Prod.snd (Prod.snd x))))
    fun (b : Bool × List Int) =>
    cnd (decide (List.length (Prod.snd b) = List.length (Prod.snd (Prod.snd (Prod.snd x)))))
      (some (Prod.fst b, Prod.snd b)) none
theorem F_tree_climbs_eq (N : Nat) (x : (List Int) × (List Bool) × Int × List Int) : F_tree_climbs (W_tree_step N) N x = W_tree_climbs N x := (FV_tree_climbs_eq (W_tree_step N) N x).trans (by kernel_rfl)
noncomputable def conw_tree_climbs (w : (List Int) × (List Bool) × Int × List Int → Option (Bool × List Int)) : Con := ⟨56, as_tree_climbs, bs_tree_climbs, Bool × List Int, w, out_tree_climbs⟩
noncomputable def con_tree_climbs (N : Nat) : Con := conw_tree_climbs (W_tree_climbs N)
theorem R_tree_climbs_eq (x : (List Int) × (List Bool) × Int × List Int) (y : Bool × List Int) : retOf2 P0 Try.f56 (kpL [true]) (lbOf as_tree_climbs bs_tree_climbs x) (patS ⟨55, [], [], []⟩ pout_tree_climbs y) = some (out_tree_climbs y) := by kernel_rfl
theorem con_tree_climbs_ok (N : Nat) : Con.ok P0 (con_tree_climbs N) := ⟨⟨Try.f56, Try.func56, by kernel_rfl, by kernel_rfl⟩, fun (x : (List Int) × (List Bool) × Int × List Int) (r : Bool × List Int) (hr : W_tree_climbs N x = some r) =>
  spec2_evT (Γ := G_tree_climbs (W_tree_step N) N) (Λ := L0) (pout := pout_tree_climbs) (kp := kpL [true]) mixed (orcOf_ok _ (by simp only [List.mem_cons, List.not_mem_nil, or_false, forall_eq_or_imp, forall_eq]; exact con_tree_step_ok N)) Try.func56 (c := bodyOf Try.f56) (by kernel_rfl) (by kernel_rfl) (of_decide_eq_true (by kernel_rfl)) ((F_tree_climbs_eq N x).trans hr) (R_tree_climbs_eq x r)⟩
def as_tree_Rooted : List AS := [.val (.list (.int .i64)), .val (.list .bool)]
def bs_tree_Rooted : List BS := []
def pout_tree_Rooted : Pat := ⟨[(4, .val .bool)], []⟩
noncomputable def G_tree_Rooted (w_tree_climbs : (List Int) × (List Bool) × Int × List Int → Option (Bool × List Int)) (N : Nat) : OrcT := orcOf [conw_tree_climbs w_tree_climbs]
noncomputable def F_tree_Rooted (w_tree_climbs : (List Int) × (List Bool) × Int × List Int → Option (Bool × List Int)) (N : Nat) (x : (List Int) × List Bool) : Option (Bool) :=
  (evT (G_tree_Rooted w_tree_climbs N) L0 P0 [(5, .loop [] ⟨[(5, .acc 700031), (34, .val (.int .i64))], [(700031, .nrow 3 (.int .i64) false false)]⟩ [(.exit 0, ⟨[], []⟩), (.ret, ⟨[(4, .val .bool)], []⟩)])]
    [(1000001, .reg [(10, [], ⟨[(16, .val .bool)], []⟩), (6, [], ⟨[(22, .val .bool)], []⟩)])] N 400 (bodyOf Try.f30) ⟨51, slots 0 (argsOf as_tree_Rooted bs_tree_Rooted x), tabU (lbOf as_tree_Rooted bs_tree_Rooted x) [], []⟩).elim (kRet 51 pout_tree_Rooted (kpL []) (lbOf as_tree_Rooted bs_tree_Rooted x))
def out_tree_Rooted (y : Bool) : V × List OK × List OK := (valW .bool y, [], [])
noncomputable def V_tree_Rooted (w_tree_climbs : (List Int) × (List Bool) × Int × List Int → Option (Bool × List Int)) (N : Nat) (x : (List Int) × List Bool) : Option (Bool) :=
  obind
    (cnd (decide ((↑(List.length (Prod.fst x)) : Int) < (1 : Int))) (some true)
      (some (decide ((↑(List.length (Prod.snd x)) : Int) ≠ (↑(List.length (Prod.fst x)) : Int)))))
    fun (b : Bool) =>
    obind
      (cnd b (some true)
        (cnd (decide ((0 : Int) ≤ (0 : Int)) && decide ((0 : Int) < (↑(List.length (Prod.snd x)) : Int)))
          (some !List.getD (Prod.snd x) (0 : Nat) false) none))
      fun (b : Bool) =>
      cnd b (some false)
        (cnd (decide ((0 : Int) ≤ (0 : Int)) && decide ((0 : Int) < (↑(List.length (Prod.fst x)) : Int)))
          (cnd (decide (List.getD (Prod.fst x) (0 : Nat) (0 : Int) ≠ (0 : Int))) (some false)
            (cnd (decide ((0 : Int) ≤ (↑(List.length (Prod.fst x)) : Int)))
              (cnd (decide ((↑(List.length (Prod.fst x)) : Int) ≤ (↑(List.length (Prod.fst x)) : Int)))
                (cnd (decide ((↑(8 : Nat) : Int) * (↑(List.length (Prod.fst x)) : Int) ≤ (140737488355328 : Int)))
                  (cnd (decide ((↑(List.length (Prod.fst x)) : Int) ≤ (9223372036854775807 : Int)))
                    (obind
                      (loopN N
                        (fun (v : Int × List Int) =>
                          cnd (decide (Prod.fst v < (↑(List.length (Prod.fst x)) : Int)))
                            (cnd (decide ((0 : Int) ≤ Prod.fst v) && decide (Prod.fst v < (↑(List.length (Prod.snd x)) : Int)))
                              (cnd (List.getD (Prod.snd x) (Int.toNat (Prod.fst v)) false)
                                (obind
                                  (w_tree_climbs
                                    (Prod.fst x, Prod.snd x, wr IntKind.i64 (Prod.fst v + (1 : Int)), Prod.snd v))
                                  fun (b : Bool × List Int) =>
                                  cnd (decide (List.length (Prod.snd b) = List.length (Prod.snd v)))
                                    (cnd (!Prod.fst b) (some (Sum.inr (Sum.inr false)))
                                      (some (Sum.inl (wr IntKind.i64 (Prod.fst v + (1 : Int)), Prod.snd b))))
                                    none)
                                (some (Sum.inl (wr IntKind.i64 (Prod.fst v + (1 : Int)), Prod.snd v))))
                              none)
                            (some (Sum.inr (Sum.inl ()))))
                        ((0 : Int), List.replicate (Int.toNat (↑(List.length (Prod.fst x)) : Int)) (0 : Int)))
                      fun (b : PUnit ⊕ Bool) => selim (fun (b : PUnit) => some true) (fun (c : Bool) => some c) b)
                    none)
                  none)
                none)
              none))
          none)
theorem FV_tree_Rooted_eq (w_tree_climbs : (List Int) × (List Bool) × Int × List Int → Option (Bool × List Int)) (N : Nat) (x : (List Int) × List Bool) : F_tree_Rooted w_tree_climbs N x = V_tree_Rooted w_tree_climbs N x := by kernel_rfl
noncomputable def W_tree_Rooted (N : Nat) (x : (List Int) × List Bool) : Option (Bool) :=
  obind
    (cnd (decide ((↑(List.length (Prod.fst x)) : Int) < (1 : Int))) (some true)
      (some (decide ((↑(List.length (Prod.snd x)) : Int) ≠ (↑(List.length (Prod.fst x)) : Int)))))
    fun (b : Bool) =>
    obind
      (cnd b (some true)
        (cnd (decide ((0 : Int) ≤ (0 : Int)) && decide ((0 : Int) < (↑(List.length (Prod.snd x)) : Int)))
          (some !List.getD (Prod.snd x) (0 : Nat) false) none))
      fun (b : Bool) =>
      cnd b (some false)
        (cnd (decide ((0 : Int) ≤ (0 : Int)) && decide ((0 : Int) < (↑(List.length (Prod.fst x)) : Int)))
          (cnd (decide (List.getD (Prod.fst x) (0 : Nat) (0 : Int) ≠ (0 : Int))) (some false)
            (cnd (decide ((0 : Int) ≤ (↑(List.length (Prod.fst x)) : Int)))
              (cnd (decide ((↑(List.length (Prod.fst x)) : Int) ≤ (↑(List.length (Prod.fst x)) : Int)))
                (cnd (decide ((↑(8 : Nat) : Int) * (↑(List.length (Prod.fst x)) : Int) ≤ (140737488355328 : Int)))
                  (cnd (decide ((↑(List.length (Prod.fst x)) : Int) ≤ (9223372036854775807 : Int)))
                    (obind
                      (loopN N
                        (fun (v : Int × List Int) =>
                          cnd (decide (Prod.fst v < (↑(List.length (Prod.fst x)) : Int)))
                            (cnd (decide ((0 : Int) ≤ Prod.fst v) && decide (Prod.fst v < (↑(List.length (Prod.snd x)) : Int)))
                              (cnd (List.getD (Prod.snd x) (Int.toNat (Prod.fst v)) false)
                                (obind
                                  (W_tree_climbs N
                                    (Prod.fst x, Prod.snd x, wr IntKind.i64 (Prod.fst v + (1 : Int)), Prod.snd v))
                                  fun (b : Bool × List Int) =>
                                  cnd (decide (List.length (Prod.snd b) = List.length (Prod.snd v)))
                                    (cnd (!Prod.fst b) (some (Sum.inr (Sum.inr false)))
                                      (some (Sum.inl (wr IntKind.i64 (Prod.fst v + (1 : Int)), Prod.snd b))))
                                    none)
                                (some (Sum.inl (wr IntKind.i64 (Prod.fst v + (1 : Int)), Prod.snd v))))
                              none)
                            (some (Sum.inr (Sum.inl ()))))
                        ((0 : Int), List.replicate (Int.toNat (↑(List.length (Prod.fst x)) : Int)) (0 : Int)))
                      fun (b : PUnit ⊕ Bool) => selim (fun (b : PUnit) => some true) (fun (c : Bool) => some c) b)
                    none)
                  none)
                none)
              none))
          none)
theorem F_tree_Rooted_eq (N : Nat) (x : (List Int) × List Bool) : F_tree_Rooted (W_tree_climbs N) N x = W_tree_Rooted N x := (FV_tree_Rooted_eq (W_tree_climbs N) N x).trans (by kernel_rfl)
noncomputable def conw_tree_Rooted (w : (List Int) × List Bool → Option (Bool)) : Con := ⟨30, as_tree_Rooted, bs_tree_Rooted, Bool, w, out_tree_Rooted⟩
noncomputable def con_tree_Rooted (N : Nat) : Con := conw_tree_Rooted (W_tree_Rooted N)
theorem R_tree_Rooted_eq (x : (List Int) × List Bool) (y : Bool) : retOf2 P0 Try.f30 (kpL []) (lbOf as_tree_Rooted bs_tree_Rooted x) (patS ⟨51, [], [], []⟩ pout_tree_Rooted y) = some (out_tree_Rooted y) := by kernel_rfl
theorem con_tree_Rooted_ok (N : Nat) : Con.ok P0 (con_tree_Rooted N) := ⟨⟨Try.f30, Try.func30, by kernel_rfl, by kernel_rfl⟩, fun (x : (List Int) × List Bool) (r : Bool) (hr : W_tree_Rooted N x = some r) =>
  spec2_evT (Γ := G_tree_Rooted (W_tree_climbs N) N) (Λ := L0) (pout := pout_tree_Rooted) (kp := kpL []) mixed (orcOf_ok _ (by simp only [List.mem_cons, List.not_mem_nil, or_false, forall_eq_or_imp, forall_eq]; exact con_tree_climbs_ok N)) Try.func30 (c := bodyOf Try.f30) (by kernel_rfl) (by kernel_rfl) (of_decide_eq_true (by kernel_rfl)) ((F_tree_Rooted_eq N x).trans hr) (R_tree_Rooted_eq x r)⟩
def as_tree_Loop : List AS := [.val (.list (.int .i64)), .val (.int .i64)]
def bs_tree_Loop : List BS := []
def pout_tree_Loop : Pat := ⟨[(4, .val (.list (.int .i64)))], []⟩
noncomputable def G_tree_Loop (w_tree_step : (List Int) × Int → Option (Int ⊕ Unit)) (N : Nat) : OrcT := orcOf [conw_tree_step w_tree_step]
noncomputable def F_tree_Loop (w_tree_step : (List Int) × Int → Option (Int ⊕ Unit)) (N : Nat) (x : (List Int) × Int) : Option (List Int) :=
  (evT (G_tree_Loop w_tree_step N) L0 P0 [(4, .loop [] ⟨[(5, .acc 700005), (6, .acc 700013), (7, .val (.int .i64))], [(700005, .nrow 3 (.int .i64) true true), (700013, .nrow 3 (.int .i64) false false)]⟩ [(.ret, ⟨[(4, .val (.list (.int .i64)))], []⟩)])]
    [] N 400 (bodyOf Try.f31) ⟨46, slots 0 (argsOf as_tree_Loop bs_tree_Loop x), tabU (lbOf as_tree_Loop bs_tree_Loop x) [], []⟩).elim (kRet 46 pout_tree_Loop (kpL []) (lbOf as_tree_Loop bs_tree_Loop x))
def out_tree_Loop (y : List Int) : V × List OK × List OK := (valW (.list (.int .i64)) y, [], [])
noncomputable def V_tree_Loop (w_tree_step : (List Int) × Int → Option (Int ⊕ Unit)) (N : Nat) (x : (List Int) × Int) : Option (List Int) :=
  cnd (decide ((0 : Int) ≤ (↑(List.length (Prod.fst x)) : Int)))
    (cnd (decide ((↑(List.length (Prod.fst x)) : Int) ≤ (↑(List.length (Prod.fst x)) : Int)))
      (cnd (decide ((↑(8 : Nat) : Int) * (↑(List.length (Prod.fst x)) : Int) ≤ (140737488355328 : Int)))
        (cnd (decide ((↑(List.length (Prod.fst x)) : Int) ≤ (9223372036854775807 : Int)))
          (obind
            (loopN N
              (fun (v : Int × List Int × List Int) =>
                obind (w_tree_step (Prod.fst x, Prod.fst v)) fun (b : Int ⊕ PUnit) =>
                  selim
                    (fun (b : Int) =>
                      cnd
                        (decide ((0 : Int) ≤ wr IntKind.i64 (Prod.fst v - (1 : Int))) &&
                          decide (wr IntKind.i64 (Prod.fst v - (1 : Int)) < (↑(List.length (Prod.snd (Prod.snd v))) : Int)))
                        (cnd
                          (decide
                            ((0 : Int) <
                              List.getD (Prod.snd (Prod.snd v)) (Int.toNat (wr IntKind.i64 (Prod.fst v - (1 : Int))))
                                (0 : Int)))
                          (cnd
                            (decide
                              ((0 : Int) ≤
                                Option.getD
                                  (some
                                    (wr IntKind.i64
                                      (List.getD (Prod.snd (Prod.snd v))
                                          (Int.toNat (wr IntKind.i64 (Prod.fst v - (1 : Int)))) (0 : Int) -
                                        (1 : Int))))
                                  (0 : Int)))
                            (cnd
                              (decide
                                (Option.getD
                                    (some
                                      (wr IntKind.i64
                                        (List.getD (Prod.snd (Prod.snd v))
                                            (Int.toNat (wr IntKind.i64 (Prod.fst v - (1 : Int)))) (0 : Int) -
                                          (1 : Int))))
                                    (0 : Int) ≤
                                  (↑(List.length (Prod.fst (Prod.snd v))) : Int)))
                              (some
                                (Sum.inr
                                  (List.drop
                                    ((0 : Nat) +
                                      Prod.fst
                                        (Prod.snd
                                          (cutT (0 : Nat) (List.length (Prod.fst (Prod.snd v)))
                                            (List.length (Prod.fst (Prod.snd v)))
                                            (some
                                              (wr IntKind.i64
                                                (List.getD (Prod.snd (Prod.snd v))
                                                    (Int.toNat (wr IntKind.i64 (Prod.fst v - (1 : Int)))) (0 : Int) -
                                                  (1 : Int))))
                                            none)))
                                    (List.take
                                      ((0 : Nat) +
                                          Prod.fst
                                            (Prod.snd
                                              (cutT (0 : Nat) (List.length (Prod.fst (Prod.snd v)))
                                                (List.length (Prod.fst (Prod.snd v)))
                                                (some
                                                  (wr IntKind.i64
                                                    (List.getD (Prod.snd (Prod.snd v))
                                                        (Int.toNat (wr IntKind.i64 (Prod.fst v - (1 : Int)))) (0 : Int) -
                                                      (1 : Int))))
                                                none)) +
                                        (Prod.snd
                                            (Prod.snd
                                              (cutT (0 : Nat) (List.length (Prod.fst (Prod.snd v)))
                                                (List.length (Prod.fst (Prod.snd v)))
                                                (some
                                                  (wr IntKind.i64
                                                    (List.getD (Prod.snd (Prod.snd v))
                                                        (Int.toNat (wr IntKind.i64 (Prod.fst v - (1 : Int)))) (0 : Int) -
                                                      (1 : Int))))
                                                none)) -
                                          Prod.fst
                                            (Prod.snd
                                              (cutT (0 : Nat) (List.length (Prod.fst (Prod.snd v)))
                                                (List.length (Prod.fst (Prod.snd v)))
                                                (some
                                                  (wr IntKind.i64
                                                    (List.getD (Prod.snd (Prod.snd v))
                                                        (Int.toNat (wr IntKind.i64 (Prod.fst v - (1 : Int)))) (0 : Int) -
                                                      (1 : Int))))
                                                none))))
                                      (Prod.fst (Prod.snd v))))))
                              none)
                            none)
                          (cnd
                            (decide
                              ((List.length (Prod.fst (Prod.snd v)) + List.length [Prod.fst v]) * (8 : Nat) ≤
                                (140737488355328 : Nat)))
                            (cnd
                              (decide ((0 : Int) ≤ wr IntKind.i64 (Prod.fst v - (1 : Int))) &&
                                decide (wr IntKind.i64 (Prod.fst v - (1 : Int)) < (↑(List.length (Prod.snd (Prod.snd v))) : Int)))
                              (some
                                (Sum.inl
                                  (b, Prod.fst (Prod.snd v) ++ [Prod.fst v],
                                    putL (Prod.snd (Prod.snd v)) [(↑(List.length (Prod.fst (Prod.snd v) ++ [Prod.fst v])) : Int)]
                                      (Int.toNat (wr IntKind.i64 (Prod.fst v - (1 : Int)))))))
                              none)
                            none))
                        none)
                    (fun (c : PUnit) => some (Sum.inr [])) b)
              (Prod.snd x, [], List.replicate (Int.toNat (↑(List.length (Prod.fst x)) : Int)) (0 : Int)))
            fun (b : List Int) => some b)
          none)
        none)
      none)
    none
theorem FV_tree_Loop_eq (w_tree_step : (List Int) × Int → Option (Int ⊕ Unit)) (N : Nat) (x : (List Int) × Int) : F_tree_Loop w_tree_step N x = V_tree_Loop w_tree_step N x := by kernel_rfl
noncomputable def W_tree_Loop (N : Nat) (x : (List Int) × Int) : Option (List Int) :=
  cnd (decide ((0 : Int) ≤ (↑(List.length (Prod.fst x)) : Int)))
    (cnd (decide ((↑(List.length (Prod.fst x)) : Int) ≤ (↑(List.length (Prod.fst x)) : Int)))
      (cnd (decide ((↑(8 : Nat) : Int) * (↑(List.length (Prod.fst x)) : Int) ≤ (140737488355328 : Int)))
        (cnd (decide ((↑(List.length (Prod.fst x)) : Int) ≤ (9223372036854775807 : Int)))
          (obind
            (loopN N
              (fun (v : Int × List Int × List Int) =>
                obind (W_tree_step N (Prod.fst x, Prod.fst v)) fun (b : Int ⊕ PUnit) =>
                  selim
                    (fun (b : Int) =>
                      cnd
                        (decide ((0 : Int) ≤ wr IntKind.i64 (Prod.fst v - (1 : Int))) &&
                          decide (wr IntKind.i64 (Prod.fst v - (1 : Int)) < (↑(List.length (Prod.snd (Prod.snd v))) : Int)))
                        (cnd
                          (decide
                            ((0 : Int) <
                              List.getD (Prod.snd (Prod.snd v)) (Int.toNat (wr IntKind.i64 (Prod.fst v - (1 : Int))))
                                (0 : Int)))
                          (cnd
                            (decide
                              ((0 : Int) ≤
                                Option.getD
                                  (some
                                    (wr IntKind.i64
                                      (List.getD (Prod.snd (Prod.snd v))
                                          (Int.toNat (wr IntKind.i64 (Prod.fst v - (1 : Int)))) (0 : Int) -
                                        (1 : Int))))
                                  (0 : Int)))
                            (cnd
                              (decide
                                (Option.getD
                                    (some
                                      (wr IntKind.i64
                                        (List.getD (Prod.snd (Prod.snd v))
                                            (Int.toNat (wr IntKind.i64 (Prod.fst v - (1 : Int)))) (0 : Int) -
                                          (1 : Int))))
                                    (0 : Int) ≤
                                  (↑(List.length (Prod.fst (Prod.snd v))) : Int)))
                              (some
                                (Sum.inr
                                  (List.drop
                                    ((0 : Nat) +
                                      Prod.fst
                                        (Prod.snd
                                          (cutT (0 : Nat) (List.length (Prod.fst (Prod.snd v)))
                                            (List.length (Prod.fst (Prod.snd v)))
                                            (some
                                              (wr IntKind.i64
                                                (List.getD (Prod.snd (Prod.snd v))
                                                    (Int.toNat (wr IntKind.i64 (Prod.fst v - (1 : Int)))) (0 : Int) -
                                                  (1 : Int))))
                                            none)))
                                    (List.take
                                      ((0 : Nat) +
                                          Prod.fst
                                            (Prod.snd
                                              (cutT (0 : Nat) (List.length (Prod.fst (Prod.snd v)))
                                                (List.length (Prod.fst (Prod.snd v)))
                                                (some
                                                  (wr IntKind.i64
                                                    (List.getD (Prod.snd (Prod.snd v))
                                                        (Int.toNat (wr IntKind.i64 (Prod.fst v - (1 : Int)))) (0 : Int) -
                                                      (1 : Int))))
                                                none)) +
                                        (Prod.snd
                                            (Prod.snd
                                              (cutT (0 : Nat) (List.length (Prod.fst (Prod.snd v)))
                                                (List.length (Prod.fst (Prod.snd v)))
                                                (some
                                                  (wr IntKind.i64
                                                    (List.getD (Prod.snd (Prod.snd v))
                                                        (Int.toNat (wr IntKind.i64 (Prod.fst v - (1 : Int)))) (0 : Int) -
                                                      (1 : Int))))
                                                none)) -
                                          Prod.fst
                                            (Prod.snd
                                              (cutT (0 : Nat) (List.length (Prod.fst (Prod.snd v)))
                                                (List.length (Prod.fst (Prod.snd v)))
                                                (some
                                                  (wr IntKind.i64
                                                    (List.getD (Prod.snd (Prod.snd v))
                                                        (Int.toNat (wr IntKind.i64 (Prod.fst v - (1 : Int)))) (0 : Int) -
                                                      (1 : Int))))
                                                none))))
                                      (Prod.fst (Prod.snd v))))))
                              none)
                            none)
                          (cnd
                            (decide
                              ((List.length (Prod.fst (Prod.snd v)) + List.length [Prod.fst v]) * (8 : Nat) ≤
                                (140737488355328 : Nat)))
                            (cnd
                              (decide ((0 : Int) ≤ wr IntKind.i64 (Prod.fst v - (1 : Int))) &&
                                decide (wr IntKind.i64 (Prod.fst v - (1 : Int)) < (↑(List.length (Prod.snd (Prod.snd v))) : Int)))
                              (some
                                (Sum.inl
                                  (b, Prod.fst (Prod.snd v) ++ [Prod.fst v],
                                    putL (Prod.snd (Prod.snd v)) [(↑(List.length (Prod.fst (Prod.snd v) ++ [Prod.fst v])) : Int)]
                                      (Int.toNat (wr IntKind.i64 (Prod.fst v - (1 : Int)))))))
                              none)
                            none))
                        none)
                    (fun (c : PUnit) => some (Sum.inr [])) b)
              (Prod.snd x, [], List.replicate (Int.toNat (↑(List.length (Prod.fst x)) : Int)) (0 : Int)))
            fun (b : List Int) => some b)
          none)
        none)
      none)
    none
theorem F_tree_Loop_eq (N : Nat) (x : (List Int) × Int) : F_tree_Loop (W_tree_step N) N x = W_tree_Loop N x := (FV_tree_Loop_eq (W_tree_step N) N x).trans (by kernel_rfl)
noncomputable def conw_tree_Loop (w : (List Int) × Int → Option (List Int)) : Con := ⟨31, as_tree_Loop, bs_tree_Loop, List Int, w, out_tree_Loop⟩
noncomputable def con_tree_Loop (N : Nat) : Con := conw_tree_Loop (W_tree_Loop N)
theorem R_tree_Loop_eq (x : (List Int) × Int) (y : List Int) : retOf2 P0 Try.f31 (kpL []) (lbOf as_tree_Loop bs_tree_Loop x) (patS ⟨46, [], [], []⟩ pout_tree_Loop y) = some (out_tree_Loop y) := by kernel_rfl
theorem con_tree_Loop_ok (N : Nat) : Con.ok P0 (con_tree_Loop N) := ⟨⟨Try.f31, Try.func31, by kernel_rfl, by kernel_rfl⟩, fun (x : (List Int) × Int) (r : List Int) (hr : W_tree_Loop N x = some r) =>
  spec2_evT (Γ := G_tree_Loop (W_tree_step N) N) (Λ := L0) (pout := pout_tree_Loop) (kp := kpL []) mixed (orcOf_ok _ (by simp only [List.mem_cons, List.not_mem_nil, or_false, forall_eq_or_imp, forall_eq]; exact con_tree_step_ok N)) Try.func31 (c := bodyOf Try.f31) (by kernel_rfl) (by kernel_rfl) (of_decide_eq_true (by kernel_rfl)) ((F_tree_Loop_eq N x).trans hr) (R_tree_Loop_eq x r)⟩
def as_tree_Deep : List AS := [.val (.list (.int .i64)), .val (.int .i64)]
def bs_tree_Deep : List BS := []
def pout_tree_Deep : Pat := ⟨[(4, .val (.int .i64))], []⟩
noncomputable def G_tree_Deep (w_tree_step : (List Int) × Int → Option (Int ⊕ Unit)) (N : Nat) : OrcT := orcOf [conw_tree_step w_tree_step]
noncomputable def F_tree_Deep (w_tree_step : (List Int) × Int → Option (Int ⊕ Unit)) (N : Nat) (x : (List Int) × Int) : Option (Int) :=
  (evT (G_tree_Deep w_tree_step N) L0 P0 [(2, .loop [] ⟨[(1, .val (.int .i64)), (10, .val (.int .i64))], []⟩ [(.exit 0, ⟨[], []⟩), (.ret, ⟨[(4, .val (.int .i64))], []⟩)])]
    [] N 400 (bodyOf Try.f32) ⟨27, slots 0 (argsOf as_tree_Deep bs_tree_Deep x), tabU (lbOf as_tree_Deep bs_tree_Deep x) [], []⟩).elim (kRet 27 pout_tree_Deep (kpL []) (lbOf as_tree_Deep bs_tree_Deep x))
def out_tree_Deep (y : Int) : V × List OK × List OK := (valW (.int .i64) y, [], [])
noncomputable def V_tree_Deep (w_tree_step : (List Int) × Int → Option (Int ⊕ Unit)) (N : Nat) (x : (List Int) × Int) : Option (Int) :=
  obind
    (loopN N
      (fun (v : Int × Int) =>
        cnd (decide (Prod.snd v < (↑(List.length (Prod.fst x)) : Int)))
          (obind (w_tree_step (Prod.fst x, Prod.fst v)) fun (b : Int ⊕ PUnit) =>
            selim
              (fun (b : Int) =>
                cnd (decide (Prod.fst v = (1 : Int))) (some (Sum.inr (Sum.inr (Prod.snd v))))
                  (some (Sum.inl (b, wr IntKind.i64 (Prod.snd v + (1 : Int))))))
              (fun (c : PUnit) => some (Sum.inr (Sum.inl ()))) b)
          (some (Sum.inr (Sum.inl ()))))
      (Prod.snd x, (0 : Int)))
    fun (b : PUnit ⊕ Int) => selim (fun (b : PUnit) => some (-1 : Int)) (fun (c : Int) => some c) b
theorem FV_tree_Deep_eq (w_tree_step : (List Int) × Int → Option (Int ⊕ Unit)) (N : Nat) (x : (List Int) × Int) : F_tree_Deep w_tree_step N x = V_tree_Deep w_tree_step N x := by kernel_rfl
noncomputable def W_tree_Deep (N : Nat) (x : (List Int) × Int) : Option (Int) :=
  obind
    (loopN N
      (fun (v : Int × Int) =>
        cnd (decide (Prod.snd v < (↑(List.length (Prod.fst x)) : Int)))
          (obind (W_tree_step N (Prod.fst x, Prod.fst v)) fun (b : Int ⊕ PUnit) =>
            selim
              (fun (b : Int) =>
                cnd (decide (Prod.fst v = (1 : Int))) (some (Sum.inr (Sum.inr (Prod.snd v))))
                  (some (Sum.inl (b, wr IntKind.i64 (Prod.snd v + (1 : Int))))))
              (fun (c : PUnit) => some (Sum.inr (Sum.inl ()))) b)
          (some (Sum.inr (Sum.inl ()))))
      (Prod.snd x, (0 : Int)))
    fun (b : PUnit ⊕ Int) => selim (fun (b : PUnit) => some (-1 : Int)) (fun (c : Int) => some c) b
theorem F_tree_Deep_eq (N : Nat) (x : (List Int) × Int) : F_tree_Deep (W_tree_step N) N x = W_tree_Deep N x := (FV_tree_Deep_eq (W_tree_step N) N x).trans (by kernel_rfl)
noncomputable def conw_tree_Deep (w : (List Int) × Int → Option (Int)) : Con := ⟨32, as_tree_Deep, bs_tree_Deep, Int, w, out_tree_Deep⟩
noncomputable def con_tree_Deep (N : Nat) : Con := conw_tree_Deep (W_tree_Deep N)
theorem R_tree_Deep_eq (x : (List Int) × Int) (y : Int) : retOf2 P0 Try.f32 (kpL []) (lbOf as_tree_Deep bs_tree_Deep x) (patS ⟨27, [], [], []⟩ pout_tree_Deep y) = some (out_tree_Deep y) := by kernel_rfl
theorem con_tree_Deep_ok (N : Nat) : Con.ok P0 (con_tree_Deep N) := ⟨⟨Try.f32, Try.func32, by kernel_rfl, by kernel_rfl⟩, fun (x : (List Int) × Int) (r : Int) (hr : W_tree_Deep N x = some r) =>
  spec2_evT (Γ := G_tree_Deep (W_tree_step N) N) (Λ := L0) (pout := pout_tree_Deep) (kp := kpL []) mixed (orcOf_ok _ (by simp only [List.mem_cons, List.not_mem_nil, or_false, forall_eq_or_imp, forall_eq]; exact con_tree_step_ok N)) Try.func32 (c := bodyOf Try.f32) (by kernel_rfl) (by kernel_rfl) (of_decide_eq_true (by kernel_rfl)) ((F_tree_Deep_eq N x).trans hr) (R_tree_Deep_eq x r)⟩
def as_law21_TreeEither : List AS := [.val (.list (.int .u8))]
def bs_law21_TreeEither : List BS := []
def pout_law21_TreeEither : Pat := ⟨[(2, .val .bool)], []⟩
noncomputable def G_law21_TreeEither (w_law21_ups : List Int → Option (List Int)) (w_tree_Rooted : (List Int) × List Bool → Option (Bool)) (w_tree_Loop : (List Int) × Int → Option (List Int)) (w_tree_Deep : (List Int) × Int → Option (Int)) (N : Nat) : OrcT := orcOf [con_law21_begun N, conw_law21_ups w_law21_ups, conw_tree_Rooted w_tree_Rooted, conw_tree_Loop w_tree_Loop, conw_tree_Deep w_tree_Deep]
noncomputable def F_law21_TreeEither (w_law21_ups : List Int → Option (List Int)) (w_tree_Rooted : (List Int) × List Bool → Option (Bool)) (w_tree_Loop : (List Int) × Int → Option (List Int)) (w_tree_Deep : (List Int) × Int → Option (Int)) (N : Nat) (x : List Int) : Option (Bool) :=
  (evT (G_law21_TreeEither w_law21_ups w_tree_Rooted w_tree_Loop w_tree_Deep N) L0 P0 [(8, .loop [3] ⟨[(4, .acc 700023), (5, .val (.int .i64))], [(700023, .nrow 4 .bool false false)]⟩ [(.exit 0, ⟨[(4, .val (.list .bool))], []⟩)]),
    (17, .loop [3] ⟨[(8, .val (.int .i64)), (9, .val (.int .i64))], []⟩ [(.exit 4, ⟨[(8, .val (.int .i64))], []⟩)]),
    (24, .loop [3, 10] ⟨[(11, .val (.int .i64))], []⟩ [(.exit 6, ⟨[], []⟩), (.ret, ⟨[(2, .val .bool)], []⟩)]),
    (13, .loop [3] ⟨[(7, .val (.int .i64))], []⟩ [(.exit 2, ⟨[], []⟩), (.ret, ⟨[(2, .val .bool)], []⟩)])]
    [(1000017, .reg [(6, [3], ⟨[(48, .val .bool)], []⟩)]),
    (1000021, .reg [(8, [3, 10], ⟨[(72, .val .bool)], []⟩)]),
    (1000027, .reg [(14, [3, 10], ⟨[(104, .val .bool)], []⟩)]),
    (1000030, .reg [(26, [3], ⟨[(145, .val .bool)], []⟩)])] N 400 (bodyOf Try.f10) ⟨166, slots 0 (argsOf as_law21_TreeEither bs_law21_TreeEither x), tabU (lbOf as_law21_TreeEither bs_law21_TreeEither x) [], []⟩).elim (kRet 166 pout_law21_TreeEither (kpL []) (lbOf as_law21_TreeEither bs_law21_TreeEither x))
def out_law21_TreeEither (y : Bool) : V × List OK × List OK := (valW .bool y, [], [])
noncomputable def V_law21_TreeEither (w_law21_ups : List Int → Option (List Int)) (w_tree_Rooted : (List Int) × List Bool → Option (Bool)) (w_tree_Loop : (List Int) × Int → Option (List Int)) (w_tree_Deep : (List Int) × Int → Option (Int)) (N : Nat) (x : List Int) : Option (Bool) :=
  cnd (decide ((12 : Int) < (↑(List.length x) : Int))) (some true)
    (obind (w_law21_ups x) fun (b : List Int) =>
      cnd (decide ((0 : Int) ≤ (↑(List.length b) : Int)))
        (cnd (decide ((↑(List.length b) : Int) ≤ (↑(List.length b) : Int)))
          (cnd (decide ((↑(1 : Nat) : Int) * (↑(List.length b) : Int) ≤ (140737488355328 : Int)))
            (cnd (decide ((↑(List.length b) : Int) ≤ (9223372036854775807 : Int)))
              (obind
                (loopN N
                  (fun (v : Int × List Bool) =>
                    cnd (decide (Prod.fst v < (↑(List.length b) : Int)))
                      (cnd (decide ((0 : Int) ≤ Prod.fst v) && decide (Prod.fst v < (↑(List.length (Prod.snd v)) : Int)))
                        (some
                          (Sum.inl
                            (wr IntKind.i64 (Prod.fst v + (1 : Int)), putL (Prod.snd v) [true] (Int.toNat (Prod.fst v)))))
                        none)
                      (some (Sum.inr (Prod.snd v))))
                  ((0 : Int), List.replicate (Int.toNat (↑(List.length b) : Int)) false))
                fun (b_1 : List Bool) =>
                obind (w_tree_Rooted (b, b_1)) fun (b_2 : Bool) =>
                  obind
                    (loopN N
                      (fun (v : Int) =>
                        cnd (decide (v ≤ (↑(List.length b) : Int)))
                          (obind
                            (loopN N
                              (fun (v : Int × Int) =>
                                obind
                                  (cnd (decide (Prod.snd v < (30 : Int))) (some (decide ((1 : Int) ≤ Prod.fst v)))
                                    (some false))
                                  fun (b_3 : Bool) =>
                                  cnd b_3
                                    (cnd (decide (Prod.fst v ≤ (↑(List.length b) : Int)))
                                      (cnd
                                        (decide ((0 : Int) ≤ wr IntKind.i64 (Prod.fst v - (1 : Int))) &&
                                          decide (wr IntKind.i64 (Prod.fst v - (1 : Int)) < (↑(List.length b) : Int)))
                                        (some
                                          (Sum.inl
                                            (List.getD b (Int.toNat (wr IntKind.i64 (Prod.fst v - (1 : Int)))) (0 : Int),
                                              wr IntKind.i64 (Prod.snd v + (1 : Int)))))
                                        none)
                                      (some (Sum.inr (Prod.fst v))))
                                    (some (Sum.inr (Prod.fst v))))
                              (v, (0 : Int)))
                            fun (b_3 : Int) =>
                            obind (w_tree_Loop (b, v)) fun (b_4 : List Int) =>
                              obind (cnd (decide ((1 : Int) ≤ b_3)) (some (decide (b_3 ≤ (↑(List.length b) : Int)))) (some false))
                                fun (b_5 : Bool) =>
                                cnd (!b_5 == decide ((0 : Int) < (↑(List.length b_4) : Int))) (some (Sum.inr (Sum.inr false)))
                                  (obind
                                    (loopN N
                                      (fun (v : Int) =>
                                        cnd (decide (v < (↑(List.length b_4) : Int)))
                                          (cnd (!decide ((↑(List.length b_4) : Int) = (0 : Int)))
                                            (cnd
                                              (decide
                                                  ((0 : Int) ≤
                                                    Int.tmod (wr IntKind.i64 (v + (1 : Int))) (↑(List.length b_4) : Int)) &&
                                                decide
                                                  (Int.tmod (wr IntKind.i64 (v + (1 : Int))) (↑(List.length b_4) : Int) <
                                                    (↑(List.length b_4) : Int)))
                                              (obind
                                                (cnd (decide ((0 : Int) ≤ v) && decide (v < (↑(List.length b_4) : Int)))
                                                  (cnd (decide (List.getD b_4 (Int.toNat v) (0 : Int) < (1 : Int)))
                                                    (some true)
                                                    (cnd (decide ((0 : Int) ≤ v) && decide (v < (↑(List.length b_4) : Int)))
                                                      (some
                                                        (decide
                                                          ((↑(List.length b) : Int) < List.getD b_4 (Int.toNat v) (0 : Int))))
                                                      none))
                                                  none)
                                                fun (b_6 : Bool) =>
                                                cnd b_6 (some (Sum.inr (Sum.inr false)))
                                                  (cnd (decide ((0 : Int) ≤ v) && decide (v < (↑(List.length b_4) : Int)))
                                                    (cnd
                                                      (decide
                                                          ((0 : Int) ≤
                                                            wr IntKind.i64
                                                              (List.getD b_4 (Int.toNat v) (0 : Int) - (1 : Int))) &&
                                                        decide
                                                          (wr IntKind.i64
                                                              (List.getD b_4 (Int.toNat v) (0 : Int) - (1 : Int)) <
                                                            (↑(List.length b) : Int)))
                                                      (cnd
                                                        (decide
                                                          (List.getD b
                                                              (Int.toNat
                                                                (wr IntKind.i64
                                                                  (List.getD b_4 (Int.toNat v) (0 : Int) - (1 : Int))))
                                                              (0 : Int) ≠
                                                            List.getD b_4
                                                              (Int.toNat
                                                                (Int.tmod (wr IntKind.i64 (v + (1 : Int)))
                                                                  (↑(List.length b_4) : Int)))
                                                              (0 : Int)))
                                                        (some (Sum.inr (Sum.inr false)))
                                                        (some (Sum.inl (wr IntKind.i64 (v + (1 : Int))))))
                                                      none)
                                                    none))
                                              none)
                                            none)
                                          (some (Sum.inr (Sum.inl ()))))
                                      (Int.ofNat (0 : Nat)))
                                    fun (b_6 : PUnit ⊕ Bool) =>
                                    selim
                                      (fun (b_7 : PUnit) =>
                                        obind (w_tree_Deep (b, v)) fun (b_8 : Int) =>
                                          obind
                                            (cnd b_2
                                              (cnd (decide ((0 : Int) < (↑(List.length b_4) : Int))) (some true)
                                                (cnd (decide (b_8 < (0 : Int))) (some true)
                                                  (cnd (decide ((1 : Int) < v))
                                                    (cnd
                                                      (decide ((0 : Int) ≤ wr IntKind.i64 (v - (1 : Int))) &&
                                                        decide (wr IntKind.i64 (v - (1 : Int)) < (↑(List.length b) : Int)))
                                                      (obind
                                                        (w_tree_Deep
                                                          (b,
                                                            List.getD b (Int.toNat (wr IntKind.i64 (v - (1 : Int))))
                                                              (0 : Int)))
                                                        fun (b : Int) =>
                                                        some (decide (b_8 ≠ wr IntKind.i64 (b + (1 : Int)))))
                                                      none)
                                                    (some false))))
                                              (some false))
                                            fun (b_9 : Bool) =>
                                            cnd b_9 (some (Sum.inr (Sum.inr false)))
                                              (cnd (decide ((1 : Int) < v))
                                                (cnd (decide ((0 : Int) < b_8))
                                                  (cnd
                                                    (decide ((0 : Int) ≤ wr IntKind.i64 (v - (1 : Int))) &&
                                                      decide (wr IntKind.i64 (v - (1 : Int)) < (↑(List.length b) : Int)))
                                                    (obind
                                                      (w_tree_Deep
                                                        (b,
                                                          List.getD b (Int.toNat (wr IntKind.i64 (v - (1 : Int))))
                                                            (0 : Int)))
                                                      fun (b : Int) =>
                                                      cnd (decide (b_8 ≠ wr IntKind.i64 (b + (1 : Int))))
                                                        (some (Sum.inr (Sum.inr false)))
                                                        (some (Sum.inl (wr IntKind.i64 (v + (1 : Int))))))
                                                    none)
                                                  (some (Sum.inl (wr IntKind.i64 (v + (1 : Int))))))
                                                (some (Sum.inl (wr IntKind.i64 (v + (1 : Int)))))))
                                      (fun (c : Bool) => some (Sum.inr (Sum.inr c))) b_6))
                          (some (Sum.inr (Sum.inl ()))))
                      (Int.ofNat (1 : Nat)))
                    fun (b : PUnit ⊕ Bool) => selim (fun (b : PUnit) => some true) (fun (c : Bool) => some c) b)
              none)
            none)
          none)
        none)
theorem FV_law21_TreeEither_eq (w_law21_ups : List Int → Option (List Int)) (w_tree_Rooted : (List Int) × List Bool → Option (Bool)) (w_tree_Loop : (List Int) × Int → Option (List Int)) (w_tree_Deep : (List Int) × Int → Option (Int)) (N : Nat) (x : List Int) : F_law21_TreeEither w_law21_ups w_tree_Rooted w_tree_Loop w_tree_Deep N x = V_law21_TreeEither w_law21_ups w_tree_Rooted w_tree_Loop w_tree_Deep N x := by kernel_rfl
noncomputable def W_law21_TreeEither (N : Nat) (x : List Int) : Option (Bool) :=
  cnd (decide ((12 : Int) < (↑(List.length x) : Int))) (some true)
    (obind (W_law21_ups N x) fun (b : List Int) =>
      cnd (decide ((0 : Int) ≤ (↑(List.length b) : Int)))
        (cnd (decide ((↑(List.length b) : Int) ≤ (↑(List.length b) : Int)))
          (cnd (decide ((↑(1 : Nat) : Int) * (↑(List.length b) : Int) ≤ (140737488355328 : Int)))
            (cnd (decide ((↑(List.length b) : Int) ≤ (9223372036854775807 : Int)))
              (obind
                (loopN N
                  (fun (v : Int × List Bool) =>
                    cnd (decide (Prod.fst v < (↑(List.length b) : Int)))
                      (cnd (decide ((0 : Int) ≤ Prod.fst v) && decide (Prod.fst v < (↑(List.length (Prod.snd v)) : Int)))
                        (some
                          (Sum.inl
                            (wr IntKind.i64 (Prod.fst v + (1 : Int)), putL (Prod.snd v) [true] (Int.toNat (Prod.fst v)))))
                        none)
                      (some (Sum.inr (Prod.snd v))))
                  ((0 : Int), List.replicate (Int.toNat (↑(List.length b) : Int)) false))
                fun (b_1 : List Bool) =>
                obind (W_tree_Rooted N (b, b_1)) fun (b_2 : Bool) =>
                  obind
                    (loopN N
                      (fun (v : Int) =>
                        cnd (decide (v ≤ (↑(List.length b) : Int)))
                          (obind
                            (loopN N
                              (fun (v : Int × Int) =>
                                obind
                                  (cnd (decide (Prod.snd v < (30 : Int))) (some (decide ((1 : Int) ≤ Prod.fst v)))
                                    (some false))
                                  fun (b_3 : Bool) =>
                                  cnd b_3
                                    (cnd (decide (Prod.fst v ≤ (↑(List.length b) : Int)))
                                      (cnd
                                        (decide ((0 : Int) ≤ wr IntKind.i64 (Prod.fst v - (1 : Int))) &&
                                          decide (wr IntKind.i64 (Prod.fst v - (1 : Int)) < (↑(List.length b) : Int)))
                                        (some
                                          (Sum.inl
                                            (List.getD b (Int.toNat (wr IntKind.i64 (Prod.fst v - (1 : Int)))) (0 : Int),
                                              wr IntKind.i64 (Prod.snd v + (1 : Int)))))
                                        none)
                                      (some (Sum.inr (Prod.fst v))))
                                    (some (Sum.inr (Prod.fst v))))
                              (v, (0 : Int)))
                            fun (b_3 : Int) =>
                            obind (W_tree_Loop N (b, v)) fun (b_4 : List Int) =>
                              obind (cnd (decide ((1 : Int) ≤ b_3)) (some (decide (b_3 ≤ (↑(List.length b) : Int)))) (some false))
                                fun (b_5 : Bool) =>
                                cnd (!b_5 == decide ((0 : Int) < (↑(List.length b_4) : Int))) (some (Sum.inr (Sum.inr false)))
                                  (obind
                                    (loopN N
                                      (fun (v : Int) =>
                                        cnd (decide (v < (↑(List.length b_4) : Int)))
                                          (cnd (!decide ((↑(List.length b_4) : Int) = (0 : Int)))
                                            (cnd
                                              (decide
                                                  ((0 : Int) ≤
                                                    Int.tmod (wr IntKind.i64 (v + (1 : Int))) (↑(List.length b_4) : Int)) &&
                                                decide
                                                  (Int.tmod (wr IntKind.i64 (v + (1 : Int))) (↑(List.length b_4) : Int) <
                                                    (↑(List.length b_4) : Int)))
                                              (obind
                                                (cnd (decide ((0 : Int) ≤ v) && decide (v < (↑(List.length b_4) : Int)))
                                                  (cnd (decide (List.getD b_4 (Int.toNat v) (0 : Int) < (1 : Int)))
                                                    (some true)
                                                    (cnd (decide ((0 : Int) ≤ v) && decide (v < (↑(List.length b_4) : Int)))
                                                      (some
                                                        (decide
                                                          ((↑(List.length b) : Int) < List.getD b_4 (Int.toNat v) (0 : Int))))
                                                      none))
                                                  none)
                                                fun (b_6 : Bool) =>
                                                cnd b_6 (some (Sum.inr (Sum.inr false)))
                                                  (cnd (decide ((0 : Int) ≤ v) && decide (v < (↑(List.length b_4) : Int)))
                                                    (cnd
                                                      (decide
                                                          ((0 : Int) ≤
                                                            wr IntKind.i64
                                                              (List.getD b_4 (Int.toNat v) (0 : Int) - (1 : Int))) &&
                                                        decide
                                                          (wr IntKind.i64
                                                              (List.getD b_4 (Int.toNat v) (0 : Int) - (1 : Int)) <
                                                            (↑(List.length b) : Int)))
                                                      (cnd
                                                        (decide
                                                          (List.getD b
                                                              (Int.toNat
                                                                (wr IntKind.i64
                                                                  (List.getD b_4 (Int.toNat v) (0 : Int) - (1 : Int))))
                                                              (0 : Int) ≠
                                                            List.getD b_4
                                                              (Int.toNat
                                                                (Int.tmod (wr IntKind.i64 (v + (1 : Int)))
                                                                  (↑(List.length b_4) : Int)))
                                                              (0 : Int)))
                                                        (some (Sum.inr (Sum.inr false)))
                                                        (some (Sum.inl (wr IntKind.i64 (v + (1 : Int))))))
                                                      none)
                                                    none))
                                              none)
                                            none)
                                          (some (Sum.inr (Sum.inl ()))))
                                      (Int.ofNat (0 : Nat)))
                                    fun (b_6 : PUnit ⊕ Bool) =>
                                    selim
                                      (fun (b_7 : PUnit) =>
                                        obind (W_tree_Deep N (b, v)) fun (b_8 : Int) =>
                                          obind
                                            (cnd b_2
                                              (cnd (decide ((0 : Int) < (↑(List.length b_4) : Int))) (some true)
                                                (cnd (decide (b_8 < (0 : Int))) (some true)
                                                  (cnd (decide ((1 : Int) < v))
                                                    (cnd
                                                      (decide ((0 : Int) ≤ wr IntKind.i64 (v - (1 : Int))) &&
                                                        decide (wr IntKind.i64 (v - (1 : Int)) < (↑(List.length b) : Int)))
                                                      (obind
                                                        (W_tree_Deep N
                                                          (b,
                                                            List.getD b (Int.toNat (wr IntKind.i64 (v - (1 : Int))))
                                                              (0 : Int)))
                                                        fun (b : Int) =>
                                                        some (decide (b_8 ≠ wr IntKind.i64 (b + (1 : Int)))))
                                                      none)
                                                    (some false))))
                                              (some false))
                                            fun (b_9 : Bool) =>
                                            cnd b_9 (some (Sum.inr (Sum.inr false)))
                                              (cnd (decide ((1 : Int) < v))
                                                (cnd (decide ((0 : Int) < b_8))
                                                  (cnd
                                                    (decide ((0 : Int) ≤ wr IntKind.i64 (v - (1 : Int))) &&
                                                      decide (wr IntKind.i64 (v - (1 : Int)) < (↑(List.length b) : Int)))
                                                    (obind
                                                      (W_tree_Deep N
                                                        (b,
                                                          List.getD b (Int.toNat (wr IntKind.i64 (v - (1 : Int))))
                                                            (0 : Int)))
                                                      fun (b : Int) =>
                                                      cnd (decide (b_8 ≠ wr IntKind.i64 (b + (1 : Int))))
                                                        (some (Sum.inr (Sum.inr false)))
                                                        (some (Sum.inl (wr IntKind.i64 (v + (1 : Int))))))
                                                    none)
                                                  (some (Sum.inl (wr IntKind.i64 (v + (1 : Int))))))
                                                (some (Sum.inl (wr IntKind.i64 (v + (1 : Int)))))))
                                      (fun (c : Bool) => some (Sum.inr (Sum.inr c))) b_6))
                          (some (Sum.inr (Sum.inl ()))))
                      (Int.ofNat (1 : Nat)))
                    fun (b : PUnit ⊕ Bool) => selim (fun (b : PUnit) => some true) (fun (c : Bool) => some c) b)
              none)
            none)
          none)
        none)
theorem F_law21_TreeEither_eq (N : Nat) (x : List Int) : F_law21_TreeEither (W_law21_ups N) (W_tree_Rooted N) (W_tree_Loop N) (W_tree_Deep N) N x = W_law21_TreeEither N x := (FV_law21_TreeEither_eq (W_law21_ups N) (W_tree_Rooted N) (W_tree_Loop N) (W_tree_Deep N) N x).trans (by kernel_rfl)
noncomputable def conw_law21_TreeEither (w : List Int → Option (Bool)) : Con := ⟨10, as_law21_TreeEither, bs_law21_TreeEither, Bool, w, out_law21_TreeEither⟩
noncomputable def con_law21_TreeEither (N : Nat) : Con := conw_law21_TreeEither (W_law21_TreeEither N)
theorem R_law21_TreeEither_eq (x : List Int) (y : Bool) : retOf2 P0 Try.f10 (kpL []) (lbOf as_law21_TreeEither bs_law21_TreeEither x) (patS ⟨166, [], [], []⟩ pout_law21_TreeEither y) = some (out_law21_TreeEither y) := by kernel_rfl
theorem con_law21_TreeEither_ok (N : Nat) : Con.ok P0 (con_law21_TreeEither N) := ⟨⟨Try.f10, Try.func10, by kernel_rfl, by kernel_rfl⟩, fun (x : List Int) (r : Bool) (hr : W_law21_TreeEither N x = some r) =>
  spec2_evT (Γ := G_law21_TreeEither (W_law21_ups N) (W_tree_Rooted N) (W_tree_Loop N) (W_tree_Deep N) N) (Λ := L0) (pout := pout_law21_TreeEither) (kp := kpL []) mixed (orcOf_ok _ (by simp only [List.mem_cons, List.not_mem_nil, or_false, forall_eq_or_imp, forall_eq]; exact ⟨con_law21_begun_ok N, con_law21_ups_ok N, con_tree_Rooted_ok N, con_tree_Loop_ok N, con_tree_Deep_ok N⟩)) Try.func10 (c := bodyOf Try.f10) (by kernel_rfl) (by kernel_rfl) (of_decide_eq_true (by kernel_rfl)) ((F_law21_TreeEither_eq N x).trans hr) (R_law21_TreeEither_eq x r)⟩
/-! What is reckoned. -/
-- PURE
theorem wr_m {z : Int} (h : -140737488355328 ≤ z) (h2 : z ≤ 140737488355328) : wr .i64 z = z := wr_i64 (by omega) (by omega)
theorem cnd_T {α : Type} {p : Prop} {i : Decidable p} {x y : α} (h : p) : cnd (@decide p i) x y = x := by rw [decide_eq_true h]; rfl
theorem loop_post {σ ρ β : Type} {f : σ → Option (σ ⊕ ρ)} {k : ρ → Option β} {x : σ} {N : Nat} (Q : Option β → Prop) (I : σ → Prop) (m : σ → Nat) (J : ρ → Prop) (hx : I x) (hm : m x < N) (hk : ∀ r, J r → Q (k r))
    (hs : ∀ x, I x → (∃ y, f x = some (.inl y) ∧ I y ∧ m y < m x) ∨ ∃ r, f x = some (.inr r) ∧ J r) : Q (obind (loopN N f x) k) := by
  obtain ⟨r, h1, h2⟩ := loopN_run I m J hs N x hx hm
  rw [h1]; exact hk r h2
def U8 (l : List Int) : Prop := ∀ n ∈ l, 0 ≤ n ∧ n ≤ 255
theorem getD_putI (l : List Int) (p j : Nat) (v : Int) (hp : p < l.length) : (putL l [v] p).getD j 0 = if j = p then v else l.getD j 0 := by
  have e : putL l [v] p = l.set p v := (set_putL l p v hp).symm
  rw [e]
  simp only [List.getD_eq_getElem?_getD, List.getElem?_set]
  by_cases h : p = j
  · subst h; simp [hp]
  · rw [if_neg h, if_neg (fun q => h q.symm)]
theorem putI_len (l : List Int) (p : Nat) (v : Int) (hp : p < l.length) : (putL l [v] p).length = l.length := putL_length (by simp; omega)
theorem nodup_le : ∀ (n : Nat) (l : List Int), l.Nodup → (∀ x ∈ l, 1 ≤ x ∧ x ≤ n) → l.length ≤ n
  | 0, [], _, _ => by simp
  | 0, x :: l, _, h => by have := h x (by simp); omega
  | n + 1, l, hd, h => by
    by_cases hm : ((n + 1 : Nat) : Int) ∈ l
    · have := nodup_le n (l.erase ((n + 1 : Nat) : Int)) (hd.erase _) (fun x hx => by
        rw [hd.mem_erase_iff] at hx
        have := h x hx.2
        omega)
      rw [List.length_erase_of_mem hm] at this
      omega
    · have := nodup_le n l hd (fun x hx => by
        have h1 := h x hx
        have h2 : x ≠ ((n + 1 : Nat) : Int) := fun e => hm (e ▸ hx)
        omega)
      omega
/-- A number that somebody bears. -/
def In (u : List Int) (v : Int) : Prop := 1 ≤ v ∧ v ≤ u.length
instance (u : List Int) (v : Int) : Decidable (In u v) := inferInstanceAs (Decidable (_ ∧ _))
def nx (u : List Int) (v : Int) : Int := if In u v then u.getD (v - 1).toNat 0 else v
def it (u : List Int) : Nat → Int → Int
  | 0, v => v
  | k + 1, v => it u k (nx u v)
theorem it_succ (u : List Int) : ∀ (k : Nat) (v : Int), it u (k + 1) v = nx u (it u k v)
  | 0, _ => rfl
  | k + 1, v => it_succ u k (nx u v)
theorem it_add (u : List Int) : ∀ (a b : Nat) (v : Int), it u (a + b) v = it u b (it u a v)
  | 0, b, v => by rw [Nat.zero_add]; rfl
  | a + 1, b, v => by rw [show a + 1 + b = (a + b) + 1 by omega]; exact it_add u a b (nx u v)
theorem it_out {u : List Int} {v : Int} (h : ¬ In u v) : ∀ k, it u k v = v
  | 0 => rfl
  | k + 1 => by show it u k (nx u v) = v; rw [nx, if_neg h]; exact it_out h k
theorem in_lt {u : List Int} {v : Int} {j k : Nat} (h : In u (it u k v)) (hj : j ≤ k) : In u (it u j v) := by
  apply Classical.byContradiction
  intro c
  rw [show k = j + (k - j) by omega, it_add, it_out c] at h
  exact c h
def pth (u : List Int) (k : Nat) (v : Int) : List Int := (List.range k).map fun i => it u i v
theorem pth_succ (u : List Int) (k : Nat) (v : Int) : pth u (k + 1) v = pth u k v ++ [it u k v] := by
  unfold pth; rw [List.range_succ, List.map_append]; rfl
theorem pth_len (u : List Int) (k : Nat) (v : Int) : (pth u k v).length = k := by simp [pth]
theorem mem_pth {u : List Int} {k : Nat} {v x : Int} : x ∈ pth u k v ↔ ∃ j, j < k ∧ it u j v = x := by
  unfold pth
  rw [List.mem_map]
  constructor
  · rintro ⟨j, h, e⟩; exact ⟨j, List.mem_range.1 h, e⟩
  · rintro ⟨j, h, e⟩; exact ⟨j, List.mem_range.2 h, e⟩
theorem pth_get {u : List Int} {k : Nat} {v : Int} {j : Nat} (h : j < k) : (pth u k v).getD j 0 = it u j v := by
  unfold pth
  rw [List.getD_eq_getElem?_getD, List.getElem?_map, List.getElem?_range h]; rfl
theorem step_in (N : Nat) {u : List Int} {v : Int} (hu : u.length ≤ 1000) (h : In u v) : W_tree_step N (u, v) = some (.inl (nx u v)) := by
  unfold W_tree_step
  simp only
  have h1 := h.1; have h2 := h.2
  rw [dF (by omega), cnd_f, dF (by omega), cnd_f, wr_m (by omega) (by omega), dT (by omega), dT (by omega), Bool.and_self, cnd_t, nx, if_pos h]
theorem step_out (N : Nat) {u : List Int} {v : Int} (h : ¬ In u v) : W_tree_step N (u, v) = some (.inr ()) := by
  unfold W_tree_step
  simp only
  by_cases c : v < 1
  · rw [dT c, cnd_t]
  · rw [dF c, cnd_f, dT (by unfold In at h; omega), cnd_t]
/-- It comes to 1. -/
def R (u : List Int) (v : Int) : Prop := ∃ k, it u k v = 1
theorem R_nx {u : List Int} {v : Int} (h : v ≠ 1) : R u v ↔ R u (nx u v) := by
  constructor
  · rintro ⟨k, hk⟩
    cases k with
    | zero => exact absurd hk h
    | succ k => exact ⟨k, hk⟩
  · rintro ⟨k, hk⟩; exact ⟨k + 1, hk⟩
theorem least {p : Nat → Prop} (h : ∃ k, p k) : ∃ k, p k ∧ ∀ j, j < k → ¬ p j := by
  obtain ⟨k, hk⟩ := h
  induction k using Nat.strongRecOn with
  | _ k ih =>
    by_cases c : ∃ j, j < k ∧ p j
    · obtain ⟨j, h1, h2⟩ := c
      exact ih j h1 h2
    · exact ⟨k, hk, fun j h1 h2 => c ⟨j, h1, h2⟩⟩
theorem nodup_pth {u : List Int} {v : Int} : ∀ (k : Nat), (∀ i j, i < j → j < k → it u i v ≠ it u j v) → (pth u k v).Nodup
  | 0, _ => by simp [pth]
  | k + 1, h => by
    rw [pth_succ, List.nodup_append]
    refine ⟨nodup_pth k (fun i j h1 h2 => h i j h1 (by omega)), by simp, fun a ha b hb => ?_⟩
    rw [List.mem_singleton.1 hb]
    obtain ⟨j, h1, rfl⟩ := mem_pth.1 ha
    exact h j k h1 (by omega)
/-- Within fewer steps than there are numbers, if at all. -/
theorem R_least {u : List Int} {v : Int} (hu : 0 < u.length) (h : R u v) : ∃ k, k < u.length ∧ it u k v = 1 ∧ ∀ j, j < k → it u j v ≠ 1 := by
  obtain ⟨k, h1, h2⟩ := least (p := fun k => it u k v = 1) h
  have hin : In u (it u k v) := by rw [h1]; unfold In; omega
  have hd : (pth u (k + 1) v).Nodup := nodup_pth _ (fun i j hij hj e => by
    refine h2 (i + (k - j)) (by omega) ?_
    rw [it_add, e, ← it_add, show j + (k - j) = k by omega]
    exact h1)
  have := nodup_le u.length (pth u (k + 1) v) hd (fun x hx => by
    obtain ⟨j, hj, rfl⟩ := mem_pth.1 hx
    exact in_lt hin (by omega))
  rw [pth_len] at this
  exact ⟨k, by omega, h1, h2⟩
def Dp (u : List Int) (v d : Int) : Prop := (∃ k : Nat, d = k ∧ k < u.length ∧ it u k v = 1 ∧ ∀ j, j < k → it u j v ≠ 1) ∨ (d = -1 ∧ ¬ R u v)
theorem Dp_one {u : List Int} {v a b : Int} (h1 : Dp u v a) (h2 : Dp u v b) : a = b := by
  rcases h1 with ⟨k, rfl, k1, k2, k3⟩ | ⟨rfl, hr⟩
  · rcases h2 with ⟨m, rfl, m1, m2, m3⟩ | ⟨rfl, hr⟩
    · have := k3 m; have := m3 k
      by_cases c : k < m
      · exact absurd k2 (m3 k c)
      · by_cases c2 : m < k
        · exact absurd m2 (k3 m c2)
        · omega
    · exact absurd ⟨k, k2⟩ hr
  · rcases h2 with ⟨m, rfl, m1, m2, m3⟩ | ⟨rfl, _⟩
    · exact absurd ⟨m, m2⟩ hr
    · rfl
theorem Deep_spec (N : Nat) (hN : 2000 ≤ N) {u : List Int} {v : Int} (hu : u.length ≤ 1000) (h0 : 0 < u.length) : ∃ d, W_tree_Deep N (u, v) = some d ∧ Dp u v d := by
  unfold W_tree_Deep
  simp only
  refine loop_post (fun o => ∃ d, o = some d ∧ Dp u v d) (fun x : Int × Int => ∃ k : Nat, x.2 = k ∧ k ≤ u.length ∧ x.1 = it u k v ∧ ∀ j, j < k → it u j v ≠ 1) (fun x => u.length - x.2.toNat) (fun r : PUnit ⊕ Int => (r = .inl () ∧ ¬ R u v) ∨ ∃ d, r = .inr d ∧ Dp u v d) ⟨0, rfl, by omega, rfl, fun j hj => by omega⟩ (by simp; omega) ?_ ?_
  · rintro r (⟨rfl, h⟩ | ⟨d, rfl, h⟩)
    · rw [selim_l]; exact ⟨_, rfl, .inr ⟨rfl, h⟩⟩
    · rw [selim_r]; exact ⟨_, rfl, h⟩
  · rintro ⟨x, i⟩ ⟨k, e1, hk, e2, h3⟩
    simp only at e1 e2 ⊢
    subst e1 e2
    by_cases c : (k : Int) < u.length
    · rw [dT c, cnd_t]
      by_cases hin : In u (it u k v)
      · rw [step_in N hu hin, obind_s, selim_l]
        by_cases c1 : it u k v = 1
        · right
          rw [dT c1, cnd_t]
          exact ⟨_, rfl, .inr ⟨_, rfl, .inl ⟨k, rfl, by omega, c1, h3⟩⟩⟩
        · left
          rw [dF c1, cnd_f, wr_m (by omega) (by omega)]
          refine ⟨_, rfl, ⟨k + 1, by simp, by omega, (it_succ u k v).symm, fun j hj => ?_⟩, by simp only; omega⟩
          by_cases e : j = k
          · subst e; exact c1
          · exact h3 j (by omega)
      · right
        rw [step_out N hin, obind_s, selim_r]
        refine ⟨_, rfl, .inl ⟨rfl, ?_⟩⟩
        rintro ⟨m, hm⟩
        by_cases c2 : m < k
        · exact h3 m c2 hm
        · rw [show m = k + (m - k) by omega, it_add, it_out hin] at hm
          rw [hm] at hin
          exact hin ⟨by omega, by omega⟩
    · right
      rw [dF c, cnd_f]
      refine ⟨_, rfl, .inl ⟨rfl, fun h => ?_⟩⟩
      obtain ⟨m, h1, h2, _⟩ := R_least h0 h
      exact h3 m (by omega) h2
theorem cut_some (n : Nat) (i : Int) (l : List Int) (h : l.length = n) : List.drop ((0 : Nat) + (cutT (0 : Nat) n n (some i) none).2.1) (List.take ((0 : Nat) + (cutT (0 : Nat) n n (some i) none).2.1 + ((cutT (0 : Nat) n n (some i) none).2.2 - (cutT (0 : Nat) n n (some i) none).2.1)) l) = l.drop i.toNat := by
  subst h
  simp only [cutT, Option.getD_some, Option.getD_none]
  by_cases c : i.toNat ≤ l.length
  · rw [show 0 + i.toNat + (l.length - i.toNat) = l.length by omega, List.take_length, Nat.zero_add]
  · rw [List.drop_eq_nil_of_le (by rw [List.length_take]; omega), List.drop_eq_nil_of_le (by omega)]
/-- A round without an end. -/
def Rnd (u r : List Int) : Prop := ∀ i, i < r.length → In u (r.getD i 0) ∧ nx u (r.getD i 0) = r.getD ((i + 1) % r.length) 0
def Lp (u : List Int) (v : Int) (r : List Int) : Prop := r.length ≤ u.length ∧ ((r = [] ∧ ∃ k, k ≤ u.length ∧ ¬ In u (it u k v)) ∨ (r ≠ [] ∧ Rnd u r ∧ ∀ k, In u (it u k v)))
theorem round_of {u : List Int} {v : Int} {j k : Nat} (hj : j < k) (he : it u k v = it u j v) (hin : ∀ i, i < k → In u (it u i v)) : Rnd u ((pth u k v).drop j) ∧ ∀ m, In u (it u m v) := by
  have hl : ((pth u k v).drop j).length = k - j := by rw [List.length_drop, pth_len]
  have hg : ∀ i, i < k - j → ((pth u k v).drop j).getD i 0 = it u (j + i) v := fun i hi => by
    rw [List.getD_eq_getElem?_getD, List.getElem?_drop, ← List.getD_eq_getElem?_getD, pth_get (by omega)]
  refine ⟨fun i hi => ?_, fun m => ?_⟩
  · rw [hl] at hi ⊢
    rw [hg i hi]
    refine ⟨hin _ (by omega), ?_⟩
    rw [← it_succ]
    by_cases c : i + 1 < k - j
    · rw [Nat.mod_eq_of_lt c, hg _ c]; rfl
    · have : i + 1 = k - j := by omega
      rw [this, Nat.mod_self, hg 0 (by omega), show j + i + 1 = k by omega, he]; rfl
  · induction m using Nat.strongRecOn with
    | _ m ih =>
      by_cases c : m < k
      · exact hin m c
      · have h := ih (m - (k - j)) (by omega)
        rw [show m = k + (m - k) by omega, it_add, he, ← it_add, show j + (m - k) = m - (k - j) by omega]
        exact h
theorem sub_inj {a b : Int} (ha : 1 ≤ a) (hb : 1 ≤ b) : ((a - 1).toNat = (b - 1).toNat) ↔ a = b := by omega
theorem Loop_spec (N : Nat) (hN : 2000 ≤ N) {u : List Int} {v : Int} (hu : u.length ≤ 1000) : ∃ r, W_tree_Loop N (u, v) = some r ∧ Lp u v r := by
  unfold W_tree_Loop
  simp only
  rw [dT (by omega), cnd_t, dT (by omega), cnd_t, dT (by omega), cnd_t, dT (by omega), cnd_t, Int.toNat_natCast]
  refine loop_post (fun o => ∃ d, o = some d ∧ Lp u v d) (fun x : Int × List Int × List Int => ∃ k : Nat, k ≤ u.length ∧ x.1 = it u k v ∧ x.2.1 = pth u k v ∧ x.2.2.length = u.length ∧ (pth u k v).Nodup ∧ (∀ i, i < k → In u (it u i v)) ∧
      (∀ y, In u y → y ∉ pth u k v → x.2.2.getD (y - 1).toNat 0 = 0) ∧ ∀ i : Nat, i < k → x.2.2.getD (it u i v - 1).toNat 0 = i + 1) (fun x => u.length - x.2.1.length) (fun r => Lp u v r) ⟨0, by omega, rfl, rfl, by simp, by simp [pth], fun i hi => by omega, fun y hy _ => ?_, fun i hi => by omega⟩ (by simp; omega) ?_ ?_
  · have := hy.1; have := hy.2
    simp only [List.getD_eq_getElem?_getD, List.getElem?_replicate]
    rw [if_pos (by omega)]; rfl
  · intro r h
    exact ⟨r, rfl, h⟩
  · rintro ⟨x, met, pl⟩ ⟨k, hk, e1, e2, hl, hd, hin, hz, hi⟩
    simp only at e1 e2 hl hz hi ⊢
    subst e1 e2
    by_cases hx : In u (it u k v)
    case neg =>
      right
      rw [step_out N hx, obind_s, selim_r]
      exact ⟨_, rfl, by simp, .inl ⟨rfl, k, hk, hx⟩⟩
    have hx1 := hx.1; have hx2 := hx.2
    rw [step_in N hu hx, obind_s, selim_l, wr_m (by omega) (by omega), hl, dT (by omega), dT (by omega), Bool.and_self, cnd_t, pth_len]
    by_cases hm : it u k v ∈ pth u k v
    · right
      obtain ⟨j, hj, he⟩ := mem_pth.1 hm
      have hp := hi j hj
      rw [he] at hp
      rw [hp, dT (by omega), cnd_t, wr_m (by omega) (by omega)]
      simp only [Option.getD_some]
      rw [dT (by omega), cnd_t, dT (by omega), cnd_t, cut_some k _ _ (pth_len u k v), show ((j : Int) + 1 - 1).toNat = j by omega]
      obtain ⟨r1, r2⟩ := round_of hj he.symm hin
      refine ⟨_, rfl, by rw [List.length_drop, pth_len]; omega, .inr ⟨fun q => ?_, r1, r2⟩⟩
      have := congrArg List.length q
      rw [List.length_drop, pth_len] at this
      simp at this
      omega
    · left
      have hkl : k < u.length := by
        have := nodup_le u.length (pth u (k + 1) v) (by
          rw [pth_succ, List.nodup_append]
          exact ⟨hd, by simp, fun a ha b hb e => hm (by rw [← List.mem_singleton.1 hb, ← e]; exact ha)⟩) (fun y hy => by
          obtain ⟨j, hj, rfl⟩ := mem_pth.1 hy
          by_cases c : j = k
          · subst c; exact hx
          · exact hin j (by omega))
        rw [pth_len] at this
        omega
      rw [hz _ hx hm, dF (by omega), cnd_f, dT (by simp only [List.length_singleton]; omega), cnd_t, cnd_t, ← pth_succ, pth_len]
      have hpl : (it u k v - 1).toNat < pl.length := by omega
      refine ⟨_, rfl, ⟨k + 1, by omega, (it_succ u k v).symm, rfl, by simp only; rw [putI_len _ _ _ hpl]; exact hl, ?_, fun i hi2 => ?_, fun y hy hym => ?_, fun i hi2 => ?_⟩, by simp only [pth_len]; omega⟩
      · rw [pth_succ, List.nodup_append]
        exact ⟨hd, by simp, fun a ha b hb e => hm (by rw [← List.mem_singleton.1 hb, ← e]; exact ha)⟩
      · by_cases c : i = k
        · subst c; exact hx
        · exact hin i (by omega)
      · simp only
        have hy1 := hy.1
        rw [pth_succ] at hym
        have h1 : y ∉ pth u k v := fun h => hym (List.mem_append_left _ h)
        have h2 : y ≠ it u k v := fun h => hym (List.mem_append_right _ (by simp [h]))
        rw [getD_putI _ _ _ _ hpl, if_neg (fun q => h2 ((sub_inj hy1 hx1).1 q))]
        exact hz y hy h1
      · simp only
        rw [getD_putI _ _ _ _ hpl]
        by_cases c : i = k
        · subst c
          rw [if_pos rfl]; omega
        · have hii := hin i (by omega)
          have hne : it u i v ≠ it u k v := fun e => hm (mem_pth.2 ⟨i, by omega, e⟩)
          rw [if_neg (fun q => hne ((sub_inj hii.1 hx1).1 q))]
          exact hi i (by omega)
theorem loopG {σ ρ : Type} {f : σ → Option (σ ⊕ ρ)} (I : Nat → σ → Prop) (B : Nat) (J : ρ → Prop) (hb : ∀ k x, I k x → k ≤ B) (hs : ∀ k x, I k x → (∃ y, f x = some (.inl y) ∧ I (k + 1) y) ∨ ∃ r, f x = some (.inr r) ∧ J r) :
    ∀ (M k : Nat) (x : σ), I k x → B < M + k → ∃ r, loopN M f x = some r ∧ J r
  | 0, k, x, h, hm => by have := hb k x h; omega
  | M + 1, k, x, h, hm => by
    rcases hs k x h with ⟨y, h1, h2⟩ | ⟨r, h1, h2⟩
    · obtain ⟨r, h4, h5⟩ := loopG I B J hb hs M (k + 1) y h2 (by omega)
      exact ⟨r, by simp only [loopN, h1]; exact h4, h5⟩
    · exact ⟨r, by simp only [loopN, h1], h2⟩
theorem loop_G {σ ρ β : Type} {f : σ → Option (σ ⊕ ρ)} {g : ρ → Option β} {x : σ} {N : Nat} (Q : Option β → Prop) (I : Nat → σ → Prop) (B : Nat) (J : ρ → Prop) (hx : I 0 x) (hm : B < N) (hk : ∀ r, J r → Q (g r)) (hb : ∀ k x, I k x → k ≤ B)
    (hs : ∀ k x, I k x → (∃ y, f x = some (.inl y) ∧ I (k + 1) y) ∨ ∃ r, f x = some (.inr r) ∧ J r) : Q (obind (loopN N f x) g) := by
  obtain ⟨r, h1, h2⟩ := loopG I B J hb hs N 0 x hx (by omega)
  rw [h1]; exact hk r h2
theorem never_of {u : List Int} {v : Int} {j k : Nat} (hj : j < k) (he : it u k v = it u j v) (h : ∀ i, i < k → it u i v ≠ 1) : ¬ R u v := by
  rintro ⟨m, hm⟩
  induction m using Nat.strongRecOn with
  | _ m ih =>
    by_cases c : m < k
    · exact h m c hm
    · refine ih (m - (k - j)) (by omega) ?_
      rw [show m = k + (m - k) by omega, it_add, he, ← it_add, show j + (m - k) = m - (k - j) by omega] at hm
      exact hm
theorem never_out {u : List Int} {v : Int} {k : Nat} (h0 : 0 < u.length) (ho : ¬ In u (it u k v)) (h : ∀ i, i < k → it u i v ≠ 1) : ¬ R u v := by
  rintro ⟨m, hm⟩
  by_cases c : k ≤ m
  · rw [show m = k + (m - k) by omega, it_add, it_out ho] at hm
    rw [hm] at ho
    exact ho ⟨by omega, by omega⟩
  · exact h m (by omega) hm
theorem pth_next {u : List Int} {k : Nat} {v : Int} (hd : (pth u k v).Nodup) (hm : it u k v ∉ pth u k v) : (pth u (k + 1) v).Nodup := by
  rw [pth_succ, List.nodup_append]
  exact ⟨hd, by simp, fun a ha b hb e => hm (by rw [← List.mem_singleton.1 hb, ← e]; exact ha)⟩
theorem pth_bnd {u : List Int} {k : Nat} {v : Int} (hd : (pth u k v).Nodup) (h : ∀ i, i < k → In u (it u i v)) : k ≤ u.length := by
  have := nodup_le u.length (pth u k v) hd (fun y hy => by
    obtain ⟨j, hj, rfl⟩ := mem_pth.1 hy
    exact h j hj)
  rw [pth_len] at this
  exact this
structure Cl (u : List Int) (f : Int) (ov : List Int) (k : Nat) (x : Int × List Int) : Prop where
  id : x.1 = it u k f
  len : x.2.length = u.length
  nd : (pth u k f).Nodup
  inn : ∀ i, i < k → In u (it u i f)
  n1 : ∀ i, i < k → it u i f ≠ 1
  y1 : ∀ y, In u y → y ∈ pth u k f → x.2.getD (y - 1).toNat 0 = f
  y2 : ∀ y, In u y → y ∉ pth u k f → x.2.getD (y - 1).toNat 0 = ov.getD (y - 1).toNat 0
theorem Cl.next {u : List Int} {f : Int} {ov : List Int} {k : Nat} {x : Int} {o : List Int} (h : Cl u f ov k (x, o)) (hx : In u (it u k f)) (hm : it u k f ∉ pth u k f) (h1 : it u k f ≠ 1) : Cl u f ov (k + 1) (nx u (it u k f), putL o [f] (it u k f - 1).toNat) := by
  have hx1 := hx.1; have hx2 := hx.2
  have hl : o.length = u.length := h.len
  have hpl : (it u k f - 1).toNat < o.length := by omega
  refine ⟨(it_succ u k f).symm, by simp only; rw [putI_len _ _ _ hpl]; exact hl, pth_next h.nd hm, fun i hi => ?_, fun i hi => ?_, fun y hy hym => ?_, fun y hy hym => ?_⟩
  · by_cases c : i = k
    · subst c; exact hx
    · exact h.inn i (by omega)
  · by_cases c : i = k
    · subst c; exact h1
    · exact h.n1 i (by omega)
  · simp only
    rw [getD_putI _ _ _ _ hpl]
    rw [pth_succ] at hym
    by_cases c : y = it u k f
    · subst c; rw [if_pos rfl]
    · rw [if_neg (fun q => c ((sub_inj hy.1 hx1).1 q))]
      refine h.y1 y hy ?_
      rcases List.mem_append.1 hym with q | q
      · exact q
      · exact absurd (List.mem_singleton.1 q) c
  · simp only
    rw [pth_succ] at hym
    have h3 : y ∉ pth u k f := fun q => hym (List.mem_append_left _ q)
    have h2 : y ≠ it u k f := fun q => hym (List.mem_append_right _ (by simp [q]))
    rw [getD_putI _ _ _ _ hpl, if_neg (fun q => h2 ((sub_inj hy.1 hx1).1 q))]
    exact h.y2 y hy h3
def ClR (u : List Int) (f : Int) (b : Bool) (o : List Int) : Prop := o.length = u.length ∧ (b = false → ¬ R u f) ∧ (b = true → R u f ∧ ∀ y, In u y → 0 ≤ o.getD (y - 1).toNat 0 ∧ o.getD (y - 1).toNat 0 < f + 1 ∧ (0 < o.getD (y - 1).toNat 0 → R u y))
theorem climbs_spec (N : Nat) (hN : 2000 ≤ N) {u : List Int} {on : List Bool} {f : Int} {ov : List Int} (hu : u.length ≤ 1000) (hf : In u f) (hon : on.length = u.length) (hall : ∀ i, i < u.length → on.getD i false = true) (hov : ov.length = u.length)
    (hlt : ∀ y, In u y → 0 ≤ ov.getD (y - 1).toNat 0 ∧ ov.getD (y - 1).toNat 0 < f ∧ (0 < ov.getD (y - 1).toNat 0 → R u y)) :
    ∃ b ov', W_tree_climbs N (u, on, f, ov) = some (b, ov') ∧ ClR u f b ov' := by
  have h0 : 0 < u.length := by have := hf.1; have := hf.2; omega
  unfold W_tree_climbs
  refine loop_G (N := N) (x := (f, ov)) (fun o => ∃ (b : Bool) (ov' : List Int), o = some (b, ov') ∧ ClR u f b ov') (Cl u f ov) u.length (fun r : Bool × List Int => ClR u f r.1 r.2) (show Cl u f ov 0 (f, ov) from ⟨rfl, hov, by simp [pth], fun i hi => by omega, fun i hi => by omega, fun y _ hy => by simp [pth] at hy, fun y _ _ => rfl⟩) (by omega) ?_ (fun k x h => pth_bnd h.nd h.inn) ?_
  · rintro ⟨b, o⟩ h
    simp only at h ⊢
    have h1 := h.1
    rw [dT (by omega), cnd_t]
    exact ⟨_, _, rfl, h⟩
  · rintro k ⟨x, o⟩ h
    have e1 := h.id
    have hl := h.len
    simp only at e1 hl ⊢
    subst e1
    have rp : ∀ b : Bool, R u f → (b = true → R u f ∧ ∀ y, In u y → 0 ≤ o.getD (y - 1).toNat 0 ∧ o.getD (y - 1).toNat 0 < f + 1 ∧ (0 < o.getD (y - 1).toNat 0 → R u y)) := by
      intro b hr _
      refine ⟨hr, fun y hy => ?_⟩
      have hf1 := hf.1
      by_cases c : y ∈ pth u k f
      · have := h.y1 y hy c
        simp only at this
        rw [this]
        refine ⟨by omega, by omega, fun _ => ?_⟩
        obtain ⟨j, hj, rfl⟩ := mem_pth.1 c
        obtain ⟨m, hm⟩ := hr
        have hmj : j ≤ m := Nat.le_of_not_lt fun q => h.n1 m (by omega) hm
        exact ⟨m - j, by rw [← it_add, show j + (m - j) = m by omega]; exact hm⟩
      · have := h.y2 y hy c
        simp only at this
        rw [this]
        have := hlt y hy
        exact ⟨this.1, by omega, this.2.2⟩
    by_cases hx : In u (it u k f)
    case neg =>
      right
      rw [step_out N hx, obind_s, selim_r, cnd_t]
      exact ⟨_, rfl, hl, fun _ => never_out h0 hx h.n1, fun q => by cases q⟩
    have hx1 := hx.1; have hx2 := hx.2
    rw [step_in N hu hx, obind_s, selim_l, wr_m (by omega) (by omega), hon, dT (by omega), dT (by omega), Bool.and_self, cnd_t, obind_s, hall _ (by omega), Bool.not_true, cnd_f]
    simp only
    rw [hl, dT (show (it u k f - 1) < (u.length : Int) by omega), Bool.and_self, cnd_t]
    by_cases hm : it u k f ∈ pth u k f
    · right
      have hp := h.y1 _ hx hm
      simp only at hp
      rw [hp, dT rfl, cnd_t]
      obtain ⟨j, hj, he⟩ := mem_pth.1 hm
      exact ⟨_, rfl, hl, fun _ => never_of hj he.symm h.n1, fun q => by cases q⟩
    · have hp := h.y2 _ hx hm
      simp only at hp
      obtain ⟨q1, q2, q3⟩ := hlt _ hx
      rw [hp, dF (by omega), cnd_f]
      by_cases c1 : it u k f = 1
      · right
        rw [dT c1, cnd_t]
        exact ⟨_, rfl, hl, fun q => by (cases q), rp true ⟨k, c1⟩⟩
      · rw [dF c1, cnd_f, cnd_t]
        by_cases c2 : 0 < ov.getD (it u k f - 1).toNat 0
        · right
          rw [dT c2, cnd_t]
          obtain ⟨m, hm2⟩ := q3 c2
          exact ⟨_, rfl, hl, fun q => by (cases q), rp true ⟨k + m, by rw [it_add]; exact hm2⟩⟩
        · left
          rw [dF c2, cnd_f, cnd_t]
          exact ⟨_, rfl, h.next hx hm c1⟩
theorem Rooted_spec (N : Nat) (hN : 2000 ≤ N) {u : List Int} {on : List Bool} (hu : u.length ≤ 1000) (h0 : 0 < u.length) (hon : on.length = u.length) (hall : ∀ i, i < u.length → on.getD i false = true) :
    ∃ b, W_tree_Rooted N (u, on) = some b ∧ (b = true ↔ (u.getD 0 0 = 0 ∧ ∀ y, In u y → R u y)) := by
  unfold W_tree_Rooted
  simp only
  rw [hon, dF (by omega), cnd_f, dF (by simp), obind_s, cnd_f, dT (by omega), dT (by omega), Bool.and_self, cnd_t, hall 0 h0, obind_s, Bool.not_true, cnd_f, cnd_t]
  by_cases c0 : u.getD 0 0 = 0
  case neg =>
    rw [dT c0, cnd_t]
    exact ⟨_, rfl, fun q => by (cases q), fun q => absurd q.1 c0⟩
  rw [dF (by simpa using c0), cnd_f, dT (by omega), cnd_t, dT (by omega), cnd_t, dT (by omega), cnd_t, dT (by omega), cnd_t, Int.toNat_natCast]
  refine loop_G (fun o => ∃ b, o = some b ∧ (b = true ↔ (u.getD 0 0 = 0 ∧ ∀ y, In u y → R u y))) (fun k (x : Int × List Int) => x.1 = k ∧ k ≤ u.length ∧ x.2.length = u.length ∧ (∀ y : Int, 1 ≤ y → y ≤ k → R u y) ∧ ∀ y : Int, In u y → 0 ≤ x.2.getD (y - 1).toNat 0 ∧ x.2.getD (y - 1).toNat 0 < (k : Int) + 1 ∧ (0 < x.2.getD (y - 1).toNat 0 → R u y)) u.length
    (fun r : PUnit ⊕ Bool => (r = .inl () ∧ ∀ y, In u y → R u y) ∨ (r = .inr false ∧ ¬ ∀ y, In u y → R u y)) ⟨rfl, by omega, by simp, fun y h1 h2 => by omega, fun y hy => ?_⟩ (by omega) ?_ (fun k x h => h.2.1) ?_
  · have := hy.1; have := hy.2
    have e : (List.replicate u.length (0 : Int)).getD (y - 1).toNat 0 = 0 := by
      simp only [List.getD_eq_getElem?_getD, List.getElem?_replicate]
      rw [if_pos (by omega)]; rfl
    simp only [e]
    exact ⟨by omega, by omega, fun q => by omega⟩
  · rintro r (⟨rfl, h⟩ | ⟨rfl, h⟩)
    · rw [selim_l]; exact ⟨_, rfl, fun _ => ⟨c0, h⟩, fun _ => rfl⟩
    · rw [selim_r]; exact ⟨_, rfl, fun q => by (cases q), fun q => absurd q.2 h⟩
  · rintro k ⟨i, o⟩ ⟨e1, hk, hl, hR, hy⟩
    simp only at e1 hl hy ⊢
    subst e1
    by_cases c : (k : Int) < u.length
    · rw [dT c, cnd_t, dT (by omega), Bool.and_self, cnd_t, Int.toNat_natCast, hall k (by omega), cnd_t, wr_m (by omega) (by omega)]
      obtain ⟨b, o', h1, h2, h3, h4⟩ := climbs_spec N hN hu (f := (k : Int) + 1) ⟨by omega, by omega⟩ hon hall hl hy
      rw [h1, obind_s]
      simp only
      rw [hl, h2, dT rfl, cnd_t]
      cases b with
      | false =>
        right
        rw [Bool.not_false, cnd_t]
        exact ⟨_, rfl, .inr ⟨rfl, fun q => h3 rfl (q _ ⟨by omega, by omega⟩)⟩⟩
      | true =>
        left
        rw [Bool.not_true, cnd_f]
        obtain ⟨h5, h6⟩ := h4 rfl
        refine ⟨_, rfl, by simp, by omega, h2, fun y q1 q2 => ?_, fun y q => ?_⟩
        · by_cases e : y = (k : Int) + 1
          · subst e; exact h5
          · exact hR y q1 (by omega)
        · have := h6 y q
          refine ⟨this.1, ?_, this.2.2⟩
          have := this.2.1
          simp only
          omega
    · right
      rw [dF c, cnd_f]
      exact ⟨_, rfl, .inl ⟨rfl, fun y q => hR y q.1 (by have := q.2; omega)⟩⟩
theorem Dp_next {u : List Int} {v d e : Int} (hv : v ≠ 1) (hd : Dp u v d) (h0 : 0 ≤ d) (he : Dp u (nx u v) e) : d = e + 1 := by
  rcases hd with ⟨k, rfl, h1, h2, h3⟩ | ⟨rfl, _⟩
  case inr => omega
  cases k with
  | zero => exact absurd h2 hv
  | succ k =>
    have : Dp u (nx u v) (k : Int) := .inl ⟨k, rfl, by omega, h2, fun j hj => h3 (j + 1) (by omega)⟩
    rw [Dp_one he this]
    omega
theorem ups_spec (N : Nat) (hN : 2000 ≤ N) (x : List Int) (hx : x.length ≤ 12) (hU : U8 x) : ∃ u, W_law21_ups N x = some u ∧ u.length = x.length := by
  unfold W_law21_ups
  refine loop_G (fun o => ∃ u : List Int, o = some u ∧ u.length = x.length) (fun k (v : Int × List Int) => v.1 = k ∧ k ≤ x.length ∧ v.2.length = k) x.length (fun r : List Int => r.length = x.length) ⟨rfl, by omega, rfl⟩ (by omega) (fun r h => ⟨r, rfl, h⟩) (fun k v h => h.2.1) ?_
  rintro k ⟨i, o⟩ ⟨e1, hk, hl⟩
  simp only at e1 hl ⊢
  subst e1
  by_cases c : (k : Int) < x.length
  · left
    have w1 : wr .i64 ((x.length : Int) + 2) = x.length + 2 := wr_m (by omega) (by omega)
    rw [w1, dT c, cnd_t, dT (by omega), Bool.and_self, cnd_t, dF (by omega), Bool.not_false, cnd_t, dT (by simp only [List.length_cons, List.length_nil]; omega), cnd_t, wr_m (by omega) (by omega)]
    exact ⟨_, rfl, by simp, by omega, by simp [hl]⟩
  · right
    rw [dF c, cnd_f]
    exact ⟨_, rfl, by omega⟩
theorem on_spec (N : Nat) (hN : 2000 ≤ N) (n : Nat) (hn : n ≤ 12) {β : Type} {g : List Bool → Option β} (Q : Option β → Prop) (hQ : ∀ on, on.length = n → (∀ i, i < n → on.getD i false = true) → Q (g on)) : Q (obind (loopN N
                (fun (v : Int × List Bool) =>
                  cnd (decide (Prod.fst v < (n : Int)))
                    (cnd (decide ((0 : Int) ≤ Prod.fst v) && decide (Prod.fst v < (↑(List.length (Prod.snd v)) : Int)))
                      (some
                        (Sum.inl
                          (wr IntKind.i64 (Prod.fst v + (1 : Int)), putL (Prod.snd v) [true] (Int.toNat (Prod.fst v)))))
                      none)
                    (some (Sum.inr (Prod.snd v))))
                ((0 : Int), List.replicate n false)) g) := by
  refine loop_G Q (fun k (v : Int × List Bool) => v.1 = k ∧ k ≤ n ∧ v.2.length = n ∧ ∀ i, i < k → v.2.getD i false = true) n (fun r => r.length = n ∧ ∀ i, i < n → r.getD i false = true) ⟨rfl, by omega, by simp, fun i hi => by omega⟩ (by omega) (fun r h => hQ r h.1 h.2) (fun k v h => h.2.1) ?_
  rintro k ⟨i, o⟩ ⟨e1, hk, hl, hi⟩
  simp only at e1 hl hi ⊢
  subst e1
  by_cases c : (k : Int) < n
  · left
    rw [dT c, cnd_t, hl, dT (by omega), Bool.true_and, dT c, cnd_t, wr_m (by omega) (by omega), Int.toNat_natCast, ← set_putL o k true (by omega)]
    refine ⟨_, rfl, by simp, by omega, by simp [hl], fun j hj => ?_⟩
    simp only [List.getD_eq_getElem?_getD, List.getElem?_set]
    by_cases e : k = j
    · rw [if_pos e, if_pos (by omega)]; rfl
    · rw [if_neg e, ← List.getD_eq_getElem?_getD]
      exact hi j (by omega)
  · right
    rw [dF c, cnd_f]
    exact ⟨_, rfl, hl, fun i h => hi i (by omega)⟩
theorem goes_spec (N : Nat) (hN : 2000 ≤ N) (b : List Int) (hb : b.length ≤ 12) (w : Int) {β : Type} {g : Int → Option β} (Q : Option β → Prop) (hQ : Q (g (it b 30 w))) : Q (obind (loopN N
                            (fun (v : Int × Int) =>
                              obind
                                (cnd (decide (Prod.snd v < (30 : Int))) (some (decide ((1 : Int) ≤ Prod.fst v)))
                                  (some false))
                                fun (b_3 : Bool) =>
                                cnd b_3
                                  (cnd (decide (Prod.fst v ≤ (↑(List.length b) : Int)))
                                    (cnd
                                      (decide ((0 : Int) ≤ wr IntKind.i64 (Prod.fst v - (1 : Int))) &&
                                        decide (wr IntKind.i64 (Prod.fst v - (1 : Int)) < (↑(List.length b) : Int)))
                                      (some
                                        (Sum.inl
                                          (List.getD b (Int.toNat (wr IntKind.i64 (Prod.fst v - (1 : Int)))) (0 : Int),
                                            wr IntKind.i64 (Prod.snd v + (1 : Int)))))
                                      none)
                                    (some (Sum.inr (Prod.fst v))))
                                  (some (Sum.inr (Prod.fst v))))
                            (w, (0 : Int))) g) := by
  refine loop_G Q (fun k (v : Int × Int) => v.2 = k ∧ k ≤ 30 ∧ v.1 = it b k w) 30 (fun r => r = it b 30 w) ⟨rfl, by omega, rfl⟩ (by omega) (fun r h => by rw [h]; exact hQ) (fun k v h => h.2.1) ?_
  rintro k ⟨v, i⟩ ⟨e1, hk, e2⟩
  simp only at e1 e2 ⊢
  subst e1 e2
  by_cases c : (k : Int) < 30
  · rw [dT c, cnd_t, obind_s]
    by_cases hin : In b (it b k w)
    · left
      have h1 := hin.1; have h2 := hin.2
      rw [dT h1, cnd_t, dT h2, cnd_t, wr_m (by omega) (by omega), dT (by omega), dT (by omega), Bool.and_self, cnd_t, wr_m (by omega) (by omega)]
      refine ⟨_, rfl, by simp, by omega, ?_⟩
      rw [it_succ, nx, if_pos hin]
    · right
      have he : it b k w = it b 30 w := by rw [show 30 = k + (30 - k) by omega, it_add, it_out hin]
      by_cases h1 : 1 ≤ it b k w
      · rw [dT h1, cnd_t, dF (fun q => hin ⟨h1, q⟩), cnd_f]
        exact ⟨_, rfl, he⟩
      · rw [dF h1, cnd_f]
        exact ⟨_, rfl, he⟩
  · right
    rw [dF c, cnd_f, obind_s, cnd_f]
    exact ⟨_, rfl, by rw [show k = 30 by omega]⟩
theorem Lp_in {u r : List Int} {v : Int} (hu : u.length ≤ 12) (h : Lp u v r) : (In u (it u 30 v) ↔ 0 < r.length) := by
  rcases h.2 with ⟨rfl, k, hk, ho⟩ | ⟨hr, _, hi⟩
  · rw [show 30 = k + (30 - k) by omega, it_add, it_out ho]
    exact ⟨fun q => absurd q ho, fun q => by simp at q⟩
  · exact ⟨fun _ => by cases r with | nil => exact absurd rfl hr | cons a l => simp, fun _ => hi 30⟩
theorem Lp_rnd {u r : List Int} {v : Int} (h : Lp u v r) : Rnd u r := by
  rcases h.2 with ⟨rfl, _⟩ | ⟨_, h, _⟩
  · intro i hi; simp at hi
  · exact h
theorem rnd_loop (N : Nat) (hN : 2000 ≤ N) (b r : List Int) (hb : b.length ≤ 12) (hr : r.length ≤ 1000) (h : Rnd b r) {β : Type} {g : PUnit ⊕ Bool → Option β} (Q : Option β → Prop) (hQ : Q (g (.inl ()))) : Q (obind
                                  (loopN N
                                    (fun (v : Int) =>
                                      cnd (decide (v < (↑(List.length r) : Int)))
                                        (cnd (!decide ((↑(List.length r) : Int) = (0 : Int)))
                                          (cnd
                                            (decide
                                                ((0 : Int) ≤
                                                  Int.tmod (wr IntKind.i64 (v + (1 : Int))) (↑(List.length r) : Int)) &&
                                              decide
                                                (Int.tmod (wr IntKind.i64 (v + (1 : Int))) (↑(List.length r) : Int) <
                                                  (↑(List.length r) : Int)))
                                            (obind
                                              (cnd (decide ((0 : Int) ≤ v) && decide (v < (↑(List.length r) : Int)))
                                                (cnd (decide (List.getD r (Int.toNat v) (0 : Int) < (1 : Int)))
                                                  (some true)
                                                  (cnd (decide ((0 : Int) ≤ v) && decide (v < (↑(List.length r) : Int)))
                                                    (some
                                                      (decide
                                                        ((↑(List.length b) : Int) < List.getD r (Int.toNat v) (0 : Int))))
                                                    none))
                                                none)
                                              fun (b_6 : Bool) =>
                                              cnd b_6 (some (Sum.inr (Sum.inr false)))
                                                (cnd (decide ((0 : Int) ≤ v) && decide (v < (↑(List.length r) : Int)))
                                                  (cnd
                                                    (decide
                                                        ((0 : Int) ≤
                                                          wr IntKind.i64
                                                            (List.getD r (Int.toNat v) (0 : Int) - (1 : Int))) &&
                                                      decide
                                                        (wr IntKind.i64
                                                            (List.getD r (Int.toNat v) (0 : Int) - (1 : Int)) <
                                                          (↑(List.length b) : Int)))
                                                    (cnd
                                                      (decide
                                                        (List.getD b
                                                            (Int.toNat
                                                              (wr IntKind.i64
                                                                (List.getD r (Int.toNat v) (0 : Int) - (1 : Int))))
                                                            (0 : Int) ≠
                                                          List.getD r
                                                            (Int.toNat
                                                              (Int.tmod (wr IntKind.i64 (v + (1 : Int)))
                                                                (↑(List.length r) : Int)))
                                                            (0 : Int)))
                                                      (some (Sum.inr (Sum.inr false)))
                                                      (some (Sum.inl (wr IntKind.i64 (v + (1 : Int))))))
                                                    none)
                                                  none))
                                            none)
                                          none)
                                        (some (Sum.inr (Sum.inl ()))))
                                    (Int.ofNat (0 : Nat))) g) := by
  refine loop_G Q (fun k (v : Int) => v = k ∧ k ≤ r.length) r.length (fun z => z = .inl ()) ⟨rfl, by omega⟩ (by omega) (fun z h => by rw [h]; exact hQ) (fun k v h => h.2) ?_
  rintro k v ⟨e1, hk⟩
  subst e1
  by_cases c : (k : Int) < r.length
  · left
    obtain ⟨hin, hnx⟩ := h k (by omega)
    have h1 := hin.1; have h2 := hin.2
    rw [nx, if_pos hin] at hnx
    have w1 : wr .i64 ((k : Int) + 1) = k + 1 := wr_m (by omega) (by omega)
    have w2 : wr .i64 (List.getD r k (0 : Int) - 1) = List.getD r k 0 - 1 := wr_m (by omega) (by omega)
    have hm : Int.tmod ((k : Int) + 1) (r.length : Int) = (((k + 1) % r.length : Nat) : Int) := by
      rw [Int.tmod_eq_emod_of_nonneg (by omega)]; rfl
    have hml : (k + 1) % r.length < r.length := Nat.mod_lt _ (by omega)
    rw [dT c, cnd_t, dF (by omega), Bool.not_false, cnd_t, w1, hm, dT (by omega), dT (by omega), dT (by omega)]
    rw [Int.toNat_natCast]
    simp only [Bool.and_self, cnd_t]
    rw [dF (by omega), cnd_f, dF (by omega), obind_s, cnd_f, w2, dT (by omega), dT (by omega), Bool.and_self, cnd_t, hnx, Int.toNat_natCast]
    rw [dF (fun q => q rfl), cnd_f]
    exact ⟨_, rfl, by omega, by omega⟩
  · right
    rw [dF c, cnd_f]
    exact ⟨_, rfl, rfl⟩
theorem law_aux (N : Nat) (hN : 2000 ≤ N) (x : List Int) (hU : U8 x) : W_law21_TreeEither N x = some true := by
  unfold W_law21_TreeEither
  by_cases c1 : (12 : Int) < x.length
  · rw [dT c1, cnd_t]
  rw [dF c1, cnd_f]
  obtain ⟨u, hu, hul⟩ := ups_spec N hN x (by omega) hU
  rw [hu, obind_s, dT (by omega), cnd_t, dT (by omega), cnd_t, dT (by omega), cnd_t, dT (by omega), cnd_t, Int.toNat_natCast]
  clear hu
  have hu12 : u.length ≤ 12 := by omega
  refine on_spec N hN u.length hu12 (fun o => o = some true) fun on hon hall => ?_
  have hroot : ∃ b, W_tree_Rooted N (u, on) = some b ∧ (b = true → u.getD 0 0 = 0 ∧ ∀ y, In u y → R u y) := by
    by_cases h0 : 0 < u.length
    · obtain ⟨b, h1, h2⟩ := Rooted_spec N hN (by omega) h0 hon hall
      exact ⟨b, h1, h2.1⟩
    · refine ⟨false, ?_, fun q => by cases q⟩
      unfold W_tree_Rooted
      simp only
      rw [dT (by omega), cnd_t, obind_s, cnd_t, obind_s, cnd_t]
  obtain ⟨rt, hr1, hr2⟩ := hroot
  rw [hr1, obind_s]
  refine loop_G (x := Int.ofNat 1) (fun o => o = some true) (fun k (v : Int) => v = (k : Int) + 1 ∧ k ≤ u.length) u.length (fun r : PUnit ⊕ Bool => r = .inl ()) ⟨rfl, by omega⟩ (by omega) (fun r h => by rw [h, selim_l]) (fun k v h => h.2) ?_
  rintro k v ⟨e1, hk⟩
  by_cases c : v ≤ (u.length : Int)
  case neg =>
    right
    rw [dF c, cnd_f]
    exact ⟨_, rfl, rfl⟩
  left
  have hin : In u v := ⟨by omega, c⟩
  have h0 : 0 < u.length := by omega
  rw [dT c, cnd_t]
  have w1 : wr .i64 (v + 1) = v + 1 := wr_m (by omega) (by omega)
  have w2 : wr .i64 (v - 1) = v - 1 := wr_m (by omega) (by omega)
  have hI : v + 1 = ((k + 1 : Nat) : Int) + 1 ∧ k + 1 ≤ u.length := ⟨by omega, by omega⟩
  refine goes_spec N hN u hu12 v (fun o => ∃ y, o = some (.inl y : Int ⊕ (PUnit ⊕ Bool)) ∧ y = ((k + 1 : Nat) : Int) + 1 ∧ k + 1 ≤ u.length) ?_
  obtain ⟨r, hl1, hl2⟩ := Loop_spec N hN (u := u) (v := v) (by omega)
  have hlin := Lp_in hu12 hl2
  rw [hl1, obind_s]
  have hat : (cnd (decide ((1 : Int) ≤ it u 30 v)) (some (decide (it u 30 v ≤ (↑(List.length u) : Int)))) (some false)) = some (decide (0 < r.length)) := by
    by_cases q : 0 < r.length
    · obtain ⟨q1, q2⟩ := hlin.2 q
      rw [dT q1, cnd_t, dT q2, dT q]
    · rw [dF q]
      by_cases q1 : 1 ≤ it u 30 v
      · rw [dT q1, cnd_t, dF (fun q2 => q (hlin.1 ⟨q1, q2⟩))]
      · rw [dF q1, cnd_f]
  rw [hat, obind_s]
  have hd0 : decide ((0 : Int) < (r.length : Int)) = decide (0 < r.length) := by
    by_cases q : 0 < r.length
    · rw [dT q, dT (by omega)]
    · rw [dF q, dF (by omega)]
  rw [hd0]
  have hrl : r.length ≤ 1000 := by have := hl2.1; omega
  rw [show (!decide (0 < r.length) == decide (0 < r.length)) = false by cases decide (0 < r.length) <;> rfl, cnd_f]
  refine rnd_loop N hN u r hu12 hrl (Lp_rnd hl2) (fun o => ∃ y, o = some (.inl y : Int ⊕ (PUnit ⊕ Bool)) ∧ y = ((k + 1 : Nat) : Int) + 1 ∧ k + 1 ≤ u.length) ?_
  rw [selim_l]
  obtain ⟨d, hd1, hd2⟩ := Deep_spec N hN (u := u) (v := v) (by omega) h0
  obtain ⟨e, he1, he2⟩ := Deep_spec N hN (u := u) (v := nx u v) (by omega) h0
  rw [hd1, obind_s, w2, dT (show (0 : Int) ≤ v - 1 by omega), dT (show v - 1 < (u.length : Int) by omega), Bool.and_self]
  have hnx : List.getD u (v - 1).toNat 0 = nx u v := by rw [nx, if_pos hin]
  simp only [cnd_t]
  rw [hnx, he1, obind_s]
  have hde : 1 < v → 0 ≤ d → d = e + 1 := fun h1 h2 => Dp_next (by omega) hd2 h2 he2
  have heb : -1 ≤ e ∧ e ≤ 12 := by
    rcases he2 with ⟨m, rfl, h, _⟩ | ⟨rfl, _⟩ <;> omega
  have w3 : wr .i64 (e + 1) = e + 1 := wr_m (by omega) (by omega)
  rw [w3, obind_s, w3, w1]
  have fin : (cnd (decide ((1 : Int) < v))
                                              (cnd (decide ((0 : Int) < d))
                                                  (cnd (decide (d ≠ e + 1))
                                                      (some (Sum.inr (Sum.inr false)))
                                                      (some (Sum.inl (v + 1))))
                                                (some (Sum.inl (v + 1))))
                                              (some (Sum.inl (v + 1)))) = some (.inl (v + 1) : Int ⊕ (PUnit ⊕ Bool)) := by
    by_cases q1 : 1 < v
    · rw [dT q1, cnd_t]
      by_cases q2 : 0 < d
      · rw [dT q2, cnd_t, dF (fun q => q (hde q1 (by omega))), cnd_f]
      · rw [dF q2, cnd_f]
    · rw [dF q1, cnd_f]
  rw [fin]
  cases rt with
  | false =>
    rw [cnd_f, obind_s, cnd_f]
    exact ⟨_, rfl, hI⟩
  | true =>
    obtain ⟨g1, g2⟩ := hr2 rfl
    have hR := g2 v hin
    have hr0 : ¬ 0 < r.length := by
      intro q
      rcases hl2.2 with ⟨rfl, _⟩ | ⟨_, _, hall2⟩
      · simp at q
      · obtain ⟨m, hm⟩ := hR
        have := hall2 (m + 1)
        rw [it_succ, hm, nx, if_pos ⟨by omega, by omega⟩] at this
        have g3 : List.getD u ((1 : Int) - 1).toNat 0 = 0 := g1
        rw [g3] at this
        have := this.1
        omega
    have hd3 : 0 ≤ d := by
      rcases hd2 with ⟨m, rfl, _⟩ | ⟨_, h⟩
      · omega
      · exact absurd hR h
    rw [cnd_t, dF hr0, cnd_f, dF (by omega), cnd_f]
    by_cases q1 : 1 < v
    · rw [dT q1, cnd_t, dF (fun q => q (hde q1 hd3)), obind_s, cnd_f]
      exact ⟨_, rfl, hI⟩
    · rw [dF q1, cnd_f, obind_s, cnd_f]
      exact ⟨_, rfl, hI⟩
def NN : Nat := 2000
theorem law_true (y0 : List Int) (h0 : Twf (.list (.int .u8)) y0) : W_law21_TreeEither NN y0 = some true := law_aux NN (Nat.le_refl _) y0 h0.2

theorem spec (y0 : List Int) (h0 : Twf (.list (.int .u8)) y0) : Spec2 P0 10 [valW (.list (.int .u8)) y0] [] (.bs true) [] [] := (con_law21_TreeEither_ok NN).2 y0 true (law_true y0 h0)
theorem lifted (os : Os) (started : os.Started) (H : Type) (enc : TypeId × Value → H) :
    ReturnsInHanded {} Try.checked os 10 .any (Rows.treeEitherSpec.pre6 enc Try.prog Try.f10 Rows.treeEitherRow.domain false) (Rows.treeEitherSpec.post enc Try.prog Try.f10 false true false false) := by
  refine returnsInHanded_of_change (C := Try.checked) own started (by kernel_rfl) Try.func10
    (ChangeSpec.witness6 (enc := enc) (C := Try.checked) false ⟨#[], #[.slice none 0 0], []⟩ 8 (by kernel_rfl) (by kernel_rfl) (by kernel_rfl) (by kernel_rfl)) ?_
  intro W base args ds gs before hval0 hW hcnd _
  have hval : ∀ (j : Nat) t v, Try.f10.params[j]? = some t → args[j]? = some v → Value.okWide Try.prog W .any base t v := hval0
  have hW' := hW
  obtain ⟨p, q, hA0, hV, rfl, hfz, hnd⟩ := hW
  have hA : DataW.TrodAll enc Try.prog W 0 (fun _ => true) true Try.f10.params.toList args.toList ds p := hA0
  rw [Try.params10] at hA hval
  obtain ⟨v0, vs0, d0, ds0, p0, q0, hargs, rfl, rfl, h0, r0⟩ := trodAll_cons hA
  obtain ⟨rfl, rfl, rfl⟩ := trodAll_nil r0
  obtain rfl : args = #[v0] := by cases args; simp_all
  obtain ⟨rfl, rfl⟩ := trodVars_none hV
  have k0 := h0
  have lt0 : ∀ x ∈ p0, x.block < W.heap.size := by obtain ⟨m, hm⟩ := k0; exact DataW.trod_lt m _ _ _ hm
  obtain ⟨y0, rp0, wf0⟩ := arg_ok (n := 12) (ty := (.list (.int .u8))) (by kernel_rfl) (hval 0 _ v0 rfl rfl) h0
  clear hA0 hval0
  refine (law_of2 (spec y0 wf0) W #[v0] (.cons rp0 .nil)).mono fun e W' ⟨he, bel⟩ => ?_
  subst he
  exact ⟨_, rfl, _, _, _, [], _, [], hW', trodAll_mk1 (shut_bool Try.underlying4 _), (trodAll_cons_mk (Below.trod laidOut (by kernel_rfl) (of_decide_eq_true (by kernel_rfl)) k0 bel lt0) trodAll_mk0), rfl, bel.frame _, fun h => by cases h⟩

theorem over : Rows.treeEitherRow.holds Try.pinned (OpenSpec.ofChange Rows.treeEitherSpec) :=
  OpenClaim.holds_of_wide 10 Try.f10 rfl rfl rfl rfl rfl rfl rfl ⟨rfl, rfl, rfl, rfl, rfl⟩ rfl rfl rfl rfl rfl (by kernel_rfl) Try.func10 (by kernel_rfl)
    (of_decide_eq_true (by kernel_rfl)) (by unfold Func.isWrapper; first | (rw [if_pos (by decide +kernel)]; kernel_rfl) | (rw [if_neg (by decide +kernel)]; exact ⟨rfl, rfl⟩))
    (fun os started H enc _ => lifted os started H enc)

theorem holds : Rows.TreeEitherSaid := over
end Go.Proofs.Ytfgceflanjeejaa.treeEitherX
