/- TreeMoved: for all arguments the call returns true. The law is brought to a function of Lean's own (W_..) by the machine of the texts beside it, and that is reckoned; no condition. -/
import Derived.Test.YtfgceflanjeejaaExtL
import Derived.Test.YtfgceflanjeejaaRows
import Derived.WalkKit
import Derived.ProofKit
import Derived.OpenShut
import Derived.ShutString
import Derived.ChangeOld
import Derived.Below
namespace Go.Proofs.Ytfgceflanjeejaa.treeMovedX
open Go.Abs Go.RowKit Go.ChangeShapes Go.WideShapes Go.ChangeAt
set_option maxRecDepth 100000
set_option linter.unusedVariables false
set_option linter.unusedSimpArgs false
noncomputable abbrev P0 : Program := Try.prog
noncomputable def bodyOf (fn : Func) : Code := fn.body.getD .skip
def L0 : Lend := fun f => aget [] [(56, [2])] f
def kpL (l : List Bool) : Nat → Bool := fun j => l.getD j true
theorem own : ownKnob Try.prog.godebug = none := by kernel_rfl
theorem laidOut : laidOutB Try.prog = true := by kernel_rfl
theorem mixed : P0.follows .mixedOrders = true := by decide +kernel
theorem progOk_ : progOk P0 = true := by decide +kernel
noncomputable def con_law21_begun (N : Nat) : Con := ⟨28, [], [], Unit, fun _ => some (), fun _ => (.bs true, [], [])⟩
theorem con_law21_begun_ok (N : Nat) : Con.ok P0 (con_law21_begun N) := closed_con2 (nonJ_ok _) mixed progOk_ (noneΞ_ok2 _) (inl := [14,15,33,34,35,56,93]) (breath := 100000) (n := 60) (by kernel_rfl)
def as_tree_step : List AS := [.val (.list (.int .i64)), .val (.int .i64)]
def bs_tree_step : List BS := []
def pout_tree_step : Pat := ⟨[(4, .val (.alt 92 (.int .i64) (.alt1 107 (.agg .unit))))], []⟩
noncomputable def G_tree_step  (N : Nat) : OrcT := orcOf []
noncomputable def F_tree_step  (N : Nat) (x : (List Int) × Int) : Option (Int ⊕ Unit) :=
  (evT (G_tree_step  N) L0 P0 []
    [] N 400 (bodyOf Try.f57) ⟨21, slots 0 (argsOf as_tree_step bs_tree_step x), tabU (lbOf as_tree_step bs_tree_step x) [], []⟩).elim (kRet 21 pout_tree_step (kpL []) (lbOf as_tree_step bs_tree_step x))
def out_tree_step (y : Int ⊕ Unit) : V × List OK × List OK := (valW (.alt 92 (.int .i64) (.alt1 107 (.agg .unit))) y, [], [])
noncomputable def V_tree_step  (N : Nat) (x : (List Int) × Int) : Option (Int ⊕ Unit) :=
  cnd (decide (Prod.snd x < (1 : Int))) (some (Sum.inr ()))
    (cnd (decide ((↑(List.length (Prod.fst x)) : Int) < Prod.snd x)) (some (Sum.inr ()))
      (cnd
        (decide ((0 : Int) ≤ wr IntKind.i64 (Prod.snd x - (1 : Int))) &&
          decide (wr IntKind.i64 (Prod.snd x - (1 : Int)) < (↑(List.length (Prod.fst x)) : Int)))
        (some (Sum.inl (List.getD (Prod.fst x) (Int.toNat (wr IntKind.i64 (Prod.snd x - (1 : Int)))) (0 : Int)))) none))
theorem FV_tree_step_eq  (N : Nat) (x : (List Int) × Int) : F_tree_step  N x = V_tree_step  N x := by kernel_rfl
noncomputable def W_tree_step (N : Nat) (x : (List Int) × Int) : Option (Int ⊕ Unit) :=
  cnd (decide (Prod.snd x < (1 : Int))) (some (Sum.inr ()))
    (cnd (decide ((↑(List.length (Prod.fst x)) : Int) < Prod.snd x)) (some (Sum.inr ()))
      (cnd
        (decide ((0 : Int) ≤ wr IntKind.i64 (Prod.snd x - (1 : Int))) &&
          decide (wr IntKind.i64 (Prod.snd x - (1 : Int)) < (↑(List.length (Prod.fst x)) : Int)))
        (some (Sum.inl (List.getD (Prod.fst x) (Int.toNat (wr IntKind.i64 (Prod.snd x - (1 : Int)))) (0 : Int)))) none))
theorem F_tree_step_eq (N : Nat) (x : (List Int) × Int) : F_tree_step  N x = W_tree_step N x := (FV_tree_step_eq  N x).trans (by kernel_rfl)
noncomputable def conw_tree_step (w : (List Int) × Int → Option (Int ⊕ Unit)) : Con := ⟨57, as_tree_step, bs_tree_step, Int ⊕ Unit, w, out_tree_step⟩
noncomputable def con_tree_step (N : Nat) : Con := conw_tree_step (W_tree_step N)
theorem R_tree_step_eq (x : (List Int) × Int) (y : Int ⊕ Unit) : retOf2 P0 Try.f57 (kpL []) (lbOf as_tree_step bs_tree_step x) (patS ⟨21, [], [], []⟩ pout_tree_step y) = some (out_tree_step y) := by kernel_rfl
theorem con_tree_step_ok (N : Nat) : Con.ok P0 (con_tree_step N) := ⟨⟨Try.f57, Try.func57, by kernel_rfl, by kernel_rfl⟩, fun (x : (List Int) × Int) (r : Int ⊕ Unit) (hr : W_tree_step N x = some r) =>
  spec2_evT (Γ := G_tree_step N) (Λ := L0) (pout := pout_tree_step) (kp := kpL []) mixed (orcOf_ok [] (by simp)) Try.func57 (c := bodyOf Try.f57) (by kernel_rfl) (by kernel_rfl) (of_decide_eq_true (by kernel_rfl)) ((F_tree_step_eq N x).trans hr) (R_tree_step_eq x r)⟩
def as_tree_climbs : List AS := [.val (.list (.int .i64)), .val (.list .bool), .acc 0, .val (.int .i64)]
def bs_tree_climbs : List BS := [.nrow 3 (.int .i64) false]
def pout_tree_climbs : Pat := ⟨[(2, .acc 1000000), (8, .val .bool)], [(1000000, .nrow 3 (.int .i64) false false)]⟩
noncomputable def G_tree_climbs (w_tree_step : (List Int) × Int → Option (Int ⊕ Unit)) (N : Nat) : OrcT := orcOf [conw_tree_step w_tree_step]
noncomputable def F_tree_climbs (w_tree_step : (List Int) × Int → Option (Int ⊕ Unit)) (N : Nat) (x : (List Int) × (List Bool) × Int × List Int) : Option (Bool × List Int) :=
  (evT (G_tree_climbs w_tree_step N) L0 P0 [(2, .loop [] ⟨[(2, .acc 1000000), (9, .val (.int .i64))], [(1000000, .nrow 3 (.int .i64) false false)]⟩ [(.ret, ⟨[(2, .acc 1000000), (8, .val .bool)], [(1000000, .nrow 3 (.int .i64) false false)]⟩)])]
    [(1000003, .reg [(10, [], ⟨[(2, .acc 1000000), (29, .val .bool)], [(1000000, .nrow 3 (.int .i64) false false)]⟩)])] N 400 (bodyOf Try.f56) ⟨55, slots 0 (argsOf as_tree_climbs bs_tree_climbs x), tabU (lbOf as_tree_climbs bs_tree_climbs x) [], []⟩).elim (kRet 55 pout_tree_climbs (kpL [true]) (lbOf as_tree_climbs bs_tree_climbs x))
def out_tree_climbs (y : Bool × List Int) : V × List OK × List OK := (valW .bool y.1, [.nrow 3 false false ⟨(.int .i64), y.2⟩], [])
noncomputable def V_tree_climbs (w_tree_step : (List Int) × Int → Option (Int ⊕ Unit)) (N : Nat) (x : (List Int) × (List Bool) × Int × List Int) : Option (Bool × List Int) :=
  obind
    (loopN N
      (fun (v : Int × List Int) =>
        obind (w_tree_step (Prod.fst x, Prod.fst v)) fun (b : Int ⊕ PUnit) =>
          selim
            (fun (b : Int) =>
              obind
                (cnd
                  (decide ((0 : Int) ≤ wr IntKind.i64 (Prod.fst v - (1 : Int))) &&
                    decide (wr IntKind.i64 (Prod.fst v - (1 : Int)) < (↑(List.length (Prod.fst (Prod.snd x))) : Int)))
                  (some
                    (!List.getD (Prod.fst (Prod.snd x)) (Int.toNat (wr IntKind.i64 (Prod.fst v - (1 : Int)))) false,
                      Prod.snd v))
                  none)
                fun (b_1 : Bool × List Int) =>
                cnd (Prod.fst b_1) (some (Sum.inr (false, Prod.snd b_1)))
                  (cnd
                    (decide ((0 : Int) ≤ wr IntKind.i64 (Prod.fst v - (1 : Int))) &&
                      decide (wr IntKind.i64 (Prod.fst v - (1 : Int)) < (↑(List.length (Prod.snd b_1)) : Int)))
                    (cnd
                      (decide
                        (List.getD (Prod.snd b_1) (Int.toNat (wr IntKind.i64 (Prod.fst v - (1 : Int)))) (0 : Int) =
                          Prod.fst (Prod.snd (Prod.snd x))))
                      (some (Sum.inr (false, Prod.snd b_1)))
                      (cnd (decide (Prod.fst v = (1 : Int))) (some (Sum.inr (true, Prod.snd b_1)))
                        (cnd
                          (decide ((0 : Int) ≤ wr IntKind.i64 (Prod.fst v - (1 : Int))) &&
                            decide (wr IntKind.i64 (Prod.fst v - (1 : Int)) < (↑(List.length (Prod.snd b_1)) : Int)))
                          (cnd
                            (decide
                              ((0 : Int) <
                                List.getD (Prod.snd b_1) (Int.toNat (wr IntKind.i64 (Prod.fst v - (1 : Int)))) (0 : Int)))
                            (some (Sum.inr (true, Prod.snd b_1)))
                            (cnd
                              (decide ((0 : Int) ≤ wr IntKind.i64 (Prod.fst v - (1 : Int))) &&
                                decide (wr IntKind.i64 (Prod.fst v - (1 : Int)) < (↑(List.length (Prod.snd b_1)) : Int)))
                              (some
                                (Sum.inl
                                  (b,
                                    putL (Prod.snd b_1) [Prod.fst (Prod.snd (Prod.snd x))]
                                      (Int.toNat (wr IntKind.i64 (Prod.fst v - (1 : Int)))))))
                              none))
                          none)))
                    none))
            (fun (c : PUnit) =>
              cnd true (some (Sum.inr (false, Prod.snd v)))
                (cnd
                  (decide ((0 : Int) ≤ wr IntKind.i64 (Prod.fst v - (1 : Int))) &&
                    decide (wr IntKind.i64 (Prod.fst v - (1 : Int)) < (↑(List.length (Prod.snd v)) : Int)))
                  (cnd
                    (decide
                      (List.getD (Prod.snd v) (Int.toNat (wr IntKind.i64 (Prod.fst v - (1 : Int)))) (0 : Int) =
                        Prod.fst (Prod.snd (Prod.snd x))))
                    (some (Sum.inr (false, Prod.snd v)))
                    (cnd (decide (Prod.fst v = (1 : Int))) (some (Sum.inr (true, Prod.snd v)))
                      (cnd
                        (decide ((0 : Int) ≤ wr IntKind.i64 (Prod.fst v - (1 : Int))) &&
                          decide (wr IntKind.i64 (Prod.fst v - (1 : Int)) < (↑(List.length (Prod.snd v)) : Int)))
                        (cnd
                          (decide
                            ((0 : Int) <
                              List.getD (Prod.snd v) (Int.toNat (wr IntKind.i64 (Prod.fst v - (1 : Int)))) (0 : Int)))
                          (some (Sum.inr (true, Prod.snd v)))
                          (cnd
                            (decide ((0 : Int) ≤ wr IntKind.i64 (Prod.fst v - (1 : Int))) &&
                              decide (wr IntKind.i64 (Prod.fst v - (1 : Int)) < (↑(List.length (Prod.snd v)) : Int)))
                            (some
                              (Sum.inl
                                ((0 : Int),
                                  putL (Prod.snd v) [Prod.fst (Prod.snd (Prod.snd x))]
                                    (Int.toNat (wr IntKind.i64 (Prod.fst v - (1 : Int)))))))
                            none))
                        none)))
                  none))
            b)
      (Prod.fst (Prod.snd (Prod.snd x)), Prod.snd (Prod.snd (Prod.snd x))))
    fun (b : Bool × List Int) =>
    cnd (decide (List.length (Prod.snd b) = List.length (Prod.snd (Prod.snd (Prod.snd x)))))
      (some (Prod.fst b, Prod.snd b)) none
theorem FV_tree_climbs_eq (w_tree_step : (List Int) × Int → Option (Int ⊕ Unit)) (N : Nat) (x : (List Int) × (List Bool) × Int × List Int) : F_tree_climbs w_tree_step N x = V_tree_climbs w_tree_step N x := by kernel_rfl
noncomputable def W_tree_climbs (N : Nat) (x : (List Int) × (List Bool) × Int × List Int) : Option (Bool × List Int) :=
  obind
    (loopN N
      (fun (v : Int × List Int) =>
        obind (W_tree_step N (Prod.fst x, Prod.fst v)) fun (b : Int ⊕ PUnit) =>
          selim
            (fun (b : Int) =>
              obind
                (cnd
                  (decide ((0 : Int) ≤ wr IntKind.i64 (Prod.fst v - (1 : Int))) &&
                    decide (wr IntKind.i64 (Prod.fst v - (1 : Int)) < (↑(List.length (Prod.fst (Prod.snd x))) : Int)))
                  (some
                    (!List.getD (Prod.fst (Prod.snd x)) (Int.toNat (wr IntKind.i64 (Prod.fst v - (1 : Int)))) false,
                      Prod.snd v))
                  none)
                fun (b_1 : Bool × List Int) =>
                cnd (Prod.fst b_1) (some (Sum.inr (false, Prod.snd b_1)))
                  (cnd
                    (decide ((0 : Int) ≤ wr IntKind.i64 (Prod.fst v - (1 : Int))) &&
                      decide (wr IntKind.i64 (Prod.fst v - (1 : Int)) < (↑(List.length (Prod.snd b_1)) : Int)))
                    (cnd
                      (decide
                        (List.getD (Prod.snd b_1) (Int.toNat (wr IntKind.i64 (Prod.fst v - (1 : Int)))) (0 : Int) =
                          Prod.fst (Prod.snd (Prod.snd x))))
                      (some (Sum.inr (false, Prod.snd b_1)))
                      (cnd (decide (Prod.fst v = (1 : Int))) (some (Sum.inr (true, Prod.snd b_1)))
                        (cnd
                          (decide ((0 : Int) ≤ wr IntKind.i64 (Prod.fst v - (1 : Int))) &&
                            decide (wr IntKind.i64 (Prod.fst v - (1 : Int)) < (↑(List.length (Prod.snd b_1)) : Int)))
                          (cnd
                            (decide
                              ((0 : Int) <
                                List.getD (Prod.snd b_1) (Int.toNat (wr IntKind.i64 (Prod.fst v - (1 : Int)))) (0 : Int)))
                            (some (Sum.inr (true, Prod.snd b_1)))
                            (cnd
                              (decide ((0 : Int) ≤ wr IntKind.i64 (Prod.fst v - (1 : Int))) &&
                                decide (wr IntKind.i64 (Prod.fst v - (1 : Int)) < (↑(List.length (Prod.snd b_1)) : Int)))
                              (some
                                (Sum.inl
                                  (b,
                                    putL (Prod.snd b_1) [Prod.fst (Prod.snd (Prod.snd x))]
                                      (Int.toNat (wr IntKind.i64 (Prod.fst v - (1 : Int)))))))
                              none))
                          none)))
                    none))
            (fun (c : PUnit) =>
              cnd true (some (Sum.inr (false, Prod.snd v)))
                (cnd
                  (decide ((0 : Int) ≤ wr IntKind.i64 (Prod.fst v - (1 : Int))) &&
                    decide (wr IntKind.i64 (Prod.fst v - (1 : Int)) < (↑(List.length (Prod.snd v)) : Int)))
                  (cnd
                    (decide
                      (List.getD (Prod.snd v) (Int.toNat (wr IntKind.i64 (Prod.fst v - (1 : Int)))) (0 : Int) =
                        Prod.fst (Prod.snd (Prod.snd x))))
                    (some (Sum.inr (false, Prod.snd v)))
                    (cnd (decide (Prod.fst v = (1 : Int))) (some (Sum.inr (true, Prod.snd v)))
                      (cnd
                        (decide ((0 : Int) ≤ wr IntKind.i64 (Prod.fst v - (1 : Int))) &&
                          decide (wr IntKind.i64 (Prod.fst v - (1 : Int)) < (↑(List.length (Prod.snd v)) : Int)))
                        (cnd
                          (decide
                            ((0 : Int) <
                              List.getD (Prod.snd v) (Int.toNat (wr IntKind.i64 (Prod.fst v - (1 : Int)))) (0 : Int)))
                          (some (Sum.inr (true, Prod.snd v)))
                          (cnd
                            (decide ((0 : Int) ≤ wr IntKind.i64 (Prod.fst v - (1 : Int))) &&
                              decide (wr IntKind.i64 (Prod.fst v - (1 : Int)) < (↑(List.length (Prod.snd v)) : Int)))
                            (some
                              (Sum.inl
                                ((0 : Int),
                                  putL (Prod.snd v) [Prod.fst (Prod.snd (Prod.snd x))]
                                    (Int.toNat (wr IntKind.i64 (Prod.fst v - (1 : Int)))))))
                            none))
                        none)))
                  none))
            b)
      (Prod.fst (Prod.snd (Prod.snd x)), Prod.snd (Prod.snd (Prod.snd x))))
    fun (b : Bool × List Int) =>
    cnd (decide (List.length (Prod.snd b) = List.length (Prod.snd (Prod.snd (Prod.snd x)))))
      (some (Prod.fst b, Prod.snd b)) none
theorem F_tree_climbs_eq (N : Nat) (x : (List Int) × (List Bool) × Int × List Int) : F_tree_climbs (W_tree_step N) N x = W_tree_climbs N x := (FV_tree_climbs_eq (W_tree_step N) N x).trans (by kernel_rfl)
noncomputable def conw_tree_climbs (w : (List Int) × (List Bool) × Int × List Int → Option (Bool × List Int)) : Con := ⟨56, as_tree_climbs, bs_tree_climbs, Bool × List Int, w, out_tree_climbs⟩
noncomputable def con_tree_climbs (N : Nat) : Con := conw_tree_climbs (W_tree_climbs N)
theorem R_tree_climbs_eq (x : (List Int) × (List Bool) × Int × List Int) (y : Bool × List Int) : retOf2 P0 Try.f56 (kpL [true]) (lbOf as_tree_climbs bs_tree_climbs x) (patS ⟨55, [], [], []⟩ pout_tree_climbs y) = some (out_tree_climbs y) := by kernel_rfl
theorem con_tree_climbs_ok (N : Nat) : Con.ok P0 (con_tree_climbs N) := ⟨⟨Try.f56, Try.func56, by kernel_rfl, by kernel_rfl⟩, fun (x : (List Int) × (List Bool) × Int × List Int) (r : Bool × List Int) (hr : W_tree_climbs N x = some r) =>
  spec2_evT (Γ := G_tree_climbs (W_tree_step N) N) (Λ := L0) (pout := pout_tree_climbs) (kp := kpL [true]) mixed (orcOf_ok _ (by simp only [List.mem_cons, List.not_mem_nil, or_false, forall_eq_or_imp, forall_eq]; exact con_tree_step_ok N)) Try.func56 (c := bodyOf Try.f56) (by kernel_rfl) (by kernel_rfl) (of_decide_eq_true (by kernel_rfl)) ((F_tree_climbs_eq N x).trans hr) (R_tree_climbs_eq x r)⟩
def as_tree_Rooted : List AS := [.val (.list (.int .i64)), .val (.list .bool)]
def bs_tree_Rooted : List BS := []
def pout_tree_Rooted : Pat := ⟨[(4, .val .bool)], []⟩
noncomputable def G_tree_Rooted (w_tree_climbs : (List Int) × (List Bool) × Int × List Int → Option (Bool × List Int)) (N : Nat) : OrcT := orcOf [conw_tree_climbs w_tree_climbs]
noncomputable def F_tree_Rooted (w_tree_climbs : (List Int) × (List Bool) × Int × List Int → Option (Bool × List Int)) (N : Nat) (x : (List Int) × List Bool) : Option (Bool) :=
  (evT (G_tree_Rooted w_tree_climbs N) L0 P0 [(5, .loop [] ⟨[(5, .acc 700031), (34, .val (.int .i64))], [(700031, .nrow 3 (.int .i64) false false)]⟩ [(.exit 0, ⟨[], []⟩), (.ret, ⟨[(4, .val .bool)], []⟩)])]
    [(1000001, .reg [(10, [], ⟨[(16, .val .bool)], []⟩), (6, [], ⟨[(22, .val .bool)], []⟩)])] N 400 (bodyOf Try.f30) ⟨51, slots 0 (argsOf as_tree_Rooted bs_tree_Rooted x), tabU (lbOf as_tree_Rooted bs_tree_Rooted x) [], []⟩).elim (kRet 51 pout_tree_Rooted (kpL []) (lbOf as_tree_Rooted bs_tree_Rooted x))
def out_tree_Rooted (y : Bool) : V × List OK × List OK := (valW .bool y, [], [])
noncomputable def V_tree_Rooted (w_tree_climbs : (List Int) × (List Bool) × Int × List Int → Option (Bool × List Int)) (N : Nat) (x : (List Int) × List Bool) : Option (Bool) :=
  obind
    (cnd (decide ((↑(List.length (Prod.fst x)) : Int) < (1 : Int))) (some true)
      (some (decide ((↑(List.length (Prod.snd x)) : Int) ≠ (↑(List.length (Prod.fst x)) : Int)))))
    fun (b : Bool) =>
    obind
      (cnd b (some true)
        (cnd (decide ((0 : Int) ≤ (0 : Int)) && decide ((0 : Int) < (↑(List.length (Prod.snd x)) : Int)))
          (some !List.getD (Prod.snd x) (0 : Nat) false) none))
      fun (b : Bool) =>
      cnd b (some false)
        (cnd (decide ((0 : Int) ≤ (0 : Int)) && decide ((0 : Int) < (↑(List.length (Prod.fst x)) : Int)))
          (cnd (decide (List.getD (Prod.fst x) (0 : Nat) (0 : Int) ≠ (0 : Int))) (some false)
            (cnd (decide ((0 : Int) ≤ (↑(List.length (Prod.fst x)) : Int)))
              (cnd (decide ((↑(List.length (Prod.fst x)) : Int) ≤ (↑(List.length (Prod.fst x)) : Int)))
                (cnd (decide ((↑(8 : Nat) : Int) * (↑(List.length (Prod.fst x)) : Int) ≤ (140737488355328 : Int)))
                  (cnd (decide ((↑(List.length (Prod.fst x)) : Int) ≤ (9223372036854775807 : Int)))
                    (obind
                      (loopN N
                        (fun (v : Int × List Int) =>
                          cnd (decide (Prod.fst v < (↑(List.length (Prod.fst x)) : Int)))
                            (cnd (decide ((0 : Int) ≤ Prod.fst v) && decide (Prod.fst v < (↑(List.length (Prod.snd x)) : Int)))
                              (cnd (List.getD (Prod.snd x) (Int.toNat (Prod.fst v)) false)
                                (obind
                                  (w_tree_climbs
                                    (Prod.fst x, Prod.snd x, wr IntKind.i64 (Prod.fst v + (1 : Int)), Prod.snd v))
                                  fun (b : Bool × List Int) =>
                                  cnd (decide (List.length (Prod.snd b) = List.length (Prod.snd v)))
                                    (cnd (!Prod.fst b) (some (Sum.inr (Sum.inr false)))
                                      (some (Sum.inl (wr IntKind.i64 (Prod.fst v + (1 : Int)), Prod.snd b))))
                                    none)
                                (some (Sum.inl (wr IntKind.i64 (Prod.fst v + (1 : Int)), Prod.snd v))))
                              none)
                            (some (Sum.inr (Sum.inl ()))))
                        ((0 : Int), List.replicate (Int.toNat (↑(List.length (Prod.fst x)) : Int)) (0 : Int)))
                      fun (b : PUnit ⊕ Bool) => selim (fun (b : PUnit) => some true) (fun (c : Bool) => some c) b)
                    none)
                  none)
                none)
              none))
          none)
theorem FV_tree_Rooted_eq (w_tree_climbs : (List Int) × (List Bool) × Int × List Int → Option (Bool × List Int)) (N : Nat) (x : (List Int) × List Bool) : F_tree_Rooted w_tree_climbs N x = V_tree_Rooted w_tree_climbs N x := by kernel_rfl
noncomputable def W_tree_Rooted (N : Nat) (x : (List Int) × List Bool) : Option (Bool) :=
  obind
    (cnd (decide ((↑(List.length (Prod.fst x)) : Int) < (1 : Int))) (some true)
      (some (decide ((↑(List.length (Prod.snd x)) : Int) ≠ (↑(List.length (Prod.fst x)) : Int)))))
    fun (b : Bool) =>
    obind
      (cnd b (some true)
        (cnd (decide ((0 : Int) ≤ (0 : Int)) && decide ((0 : Int) < (↑(List.length (Prod.snd x)) : Int)))
          (some !List.getD (Prod.snd x) (0 : Nat) false) none))
      fun (b : Bool) =>
      cnd b (some false)
        (cnd (decide ((0 : Int) ≤ (0 : Int)) && decide ((0 : Int) < (↑(List.length (Prod.fst x)) : Int)))
          (cnd (decide (List.getD (Prod.fst x) (0 : Nat) (0 : Int) ≠ (0 : Int))) (some false)
            (cnd (decide ((0 : Int) ≤ (↑(List.length (Prod.fst x)) : Int)))
              (cnd (decide ((↑(List.length (Prod.fst x)) : Int) ≤ (↑(List.length (Prod.fst x)) : Int)))
                (cnd (decide ((↑(8 : Nat) : Int) * (↑(List.length (Prod.fst x)) : Int) ≤ (140737488355328 : Int)))
                  (cnd (decide ((↑(List.length (Prod.fst x)) : Int) ≤ (9223372036854775807 : Int)))
                    (obind
                      (loopN N
                        (fun (v : Int × List Int) =>
                          cnd (decide (Prod.fst v < (↑(List.length (Prod.fst x)) : Int)))
                            (cnd (decide ((0 : Int) ≤ Prod.fst v) && decide (Prod.fst v < (↑(List.length (Prod.snd x)) : Int)))
                              (cnd (List.getD (Prod.snd x) (Int.toNat (Prod.fst v)) false)
                                (obind
                                  (W_tree_climbs N
                                    (Prod.fst x, Prod.snd x, wr IntKind.i64 (Prod.fst v + (1 : Int)), Prod.snd v))
                                  fun (b : Bool × List Int) =>
                                  cnd (decide (List.length (Prod.snd b) = List.length (Prod.snd v)))
                                    (cnd (!Prod.fst b) (some (Sum.inr (Sum.inr false)))
                                      (some (Sum.inl (wr IntKind.i64 (Prod.fst v + (1 : Int)), Prod.snd b))))
                                    none)
                                (some (Sum.inl (wr IntKind.i64 (Prod.fst v + (1 : Int)), Prod.snd v))))
                              none)
                            (some (Sum.inr (Sum.inl ()))))
                        ((0 : Int), List.replicate (Int.toNat (↑(List.length (Prod.fst x)) : Int)) (0 : Int)))
                      fun (b : PUnit ⊕ Bool) => selim (fun (b : PUnit) => some true) (fun (c : Bool) => some c) b)
                    none)
                  none)
                none)
              none))
          none)
theorem F_tree_Rooted_eq (N : Nat) (x : (List Int) × List Bool) : F_tree_Rooted (W_tree_climbs N) N x = W_tree_Rooted N x := (FV_tree_Rooted_eq (W_tree_climbs N) N x).trans (by kernel_rfl)
noncomputable def conw_tree_Rooted (w : (List Int) × List Bool → Option (Bool)) : Con := ⟨30, as_tree_Rooted, bs_tree_Rooted, Bool, w, out_tree_Rooted⟩
noncomputable def con_tree_Rooted (N : Nat) : Con := conw_tree_Rooted (W_tree_Rooted N)
theorem R_tree_Rooted_eq (x : (List Int) × List Bool) (y : Bool) : retOf2 P0 Try.f30 (kpL []) (lbOf as_tree_Rooted bs_tree_Rooted x) (patS ⟨51, [], [], []⟩ pout_tree_Rooted y) = some (out_tree_Rooted y) := by kernel_rfl
theorem con_tree_Rooted_ok (N : Nat) : Con.ok P0 (con_tree_Rooted N) := ⟨⟨Try.f30, Try.func30, by kernel_rfl, by kernel_rfl⟩, fun (x : (List Int) × List Bool) (r : Bool) (hr : W_tree_Rooted N x = some r) =>
  spec2_evT (Γ := G_tree_Rooted (W_tree_climbs N) N) (Λ := L0) (pout := pout_tree_Rooted) (kp := kpL []) mixed (orcOf_ok _ (by simp only [List.mem_cons, List.not_mem_nil, or_false, forall_eq_or_imp, forall_eq]; exact con_tree_climbs_ok N)) Try.func30 (c := bodyOf Try.f30) (by kernel_rfl) (by kernel_rfl) (of_decide_eq_true (by kernel_rfl)) ((F_tree_Rooted_eq N x).trans hr) (R_tree_Rooted_eq x r)⟩
def as_tree_Loop : List AS := [.val (.list (.int .i64)), .val (.int .i64)]
def bs_tree_Loop : List BS := []
def pout_tree_Loop : Pat := ⟨[(4, .val (.list (.int .i64)))], []⟩
noncomputable def G_tree_Loop (w_tree_step : (List Int) × Int → Option (Int ⊕ Unit)) (N : Nat) : OrcT := orcOf [conw_tree_step w_tree_step]
noncomputable def F_tree_Loop (w_tree_step : (List Int) × Int → Option (Int ⊕ Unit)) (N : Nat) (x : (List Int) × Int) : Option (List Int) :=
  (evT (G_tree_Loop w_tree_step N) L0 P0 [(4, .loop [] ⟨[(5, .acc 700005), (6, .acc 700013), (7, .val (.int .i64))], [(700005, .nrow 3 (.int .i64) true true), (700013, .nrow 3 (.int .i64) false false)]⟩ [(.ret, ⟨[(4, .val (.list (.int .i64)))], []⟩)])]
    [] N 400 (bodyOf Try.f31) ⟨46, slots 0 (argsOf as_tree_Loop bs_tree_Loop x), tabU (lbOf as_tree_Loop bs_tree_Loop x) [], []⟩).elim (kRet 46 pout_tree_Loop (kpL []) (lbOf as_tree_Loop bs_tree_Loop x))
def out_tree_Loop (y : List Int) : V × List OK × List OK := (valW (.list (.int .i64)) y, [], [])
noncomputable def V_tree_Loop (w_tree_step : (List Int) × Int → Option (Int ⊕ Unit)) (N : Nat) (x : (List Int) × Int) : Option (List Int) :=
  cnd (decide ((0 : Int) ≤ (↑(List.length (Prod.fst x)) : Int)))
    (cnd (decide ((↑(List.length (Prod.fst x)) : Int) ≤ (↑(List.length (Prod.fst x)) : Int)))
      (cnd (decide ((↑(8 : Nat) : Int) * (↑(List.length (Prod.fst x)) : Int) ≤ (140737488355328 : Int)))
        (cnd (decide ((↑(List.length (Prod.fst x)) : Int) ≤ (9223372036854775807 : Int)))
          (obind
            (loopN N
              (fun (v : Int × List Int × List Int) =>
                obind (w_tree_step (Prod.fst x, Prod.fst v)) fun (b : Int ⊕ PUnit) =>
                  selim
                    (fun (b : Int) =>
                      cnd
                        (decide ((0 : Int) ≤ wr IntKind.i64 (Prod.fst v - (1 : Int))) &&
                          decide (wr IntKind.i64 (Prod.fst v - (1 : Int)) < (↑(List.length (Prod.snd (Prod.snd v))) : Int)))
                        (cnd
                          (decide
                            ((0 : Int) <
                              List.getD (Prod.snd (Prod.snd v)) (Int.toNat (wr IntKind.i64 (Prod.fst v - (1 : Int))))
                                (0 : Int)))
                          (cnd
                            (decide
                              ((0 : Int) ≤
                                Option.getD
                                  (some
                                    (wr IntKind.i64
                                      (List.getD (Prod.snd (Prod.snd v))
                                          (Int.toNat (wr IntKind.i64 (Prod.fst v - (1 : Int)))) (0 : Int) -
                                        (1 : Int))))
                                  (0 : Int)))
                            (cnd
                              (decide
                                (Option.getD
                                    (some
                                      (wr IntKind.i64
                                        (List.getD (Prod.snd (Prod.snd v))
                                            (Int.toNat (wr IntKind.i64 (Prod.fst v - (1 : Int)))) (0 : Int) -
                                          (1 : Int))))
                                    (0 : Int) ≤
                                  (↑(List.length (Prod.fst (Prod.snd v))) : Int)))
                              (some
                                (Sum.inr
                                  (List.drop
                                    ((0 : Nat) +
                                      Prod.fst
                                        (Prod.snd
                                          (cutT (0 : Nat) (List.length (Prod.fst (Prod.snd v)))
                                            (List.length (Prod.fst (Prod.snd v)))
                                            (some
                                              (wr IntKind.i64
                                                (List.getD (Prod.snd (Prod.snd v))
                                                    (Int.toNat (wr IntKind.i64 (Prod.fst v - (1 : Int)))) (0 : Int) -
                                                  (1 : Int))))
                                            none)))
                                    (List.take
                                      ((0 : Nat) +
                                          Prod.fst
                                            (Prod.snd
                                              (cutT (0 : Nat) (List.length (Prod.fst (Prod.snd v)))
                                                (List.length (Prod.fst (Prod.snd v)))
                                                (some
                                                  (wr IntKind.i64
                                                    (List.getD (Prod.snd (Prod.snd v))
                                                        (Int.toNat (wr IntKind.i64 (Prod.fst v - (1 : Int)))) (0 : Int) -
                                                      (1 : Int))))
                                                none)) +
                                        (Prod.snd
                                            (Prod.snd
                                              (cutT (0 : Nat) (List.length (Prod.fst (Prod.snd v)))
                                                (List.length (Prod.fst (Prod.snd v)))
                                                (some
                                                  (wr IntKind.i64
                                                    (List.getD (Prod.snd (Prod.snd v))
                                                        (Int.toNat (wr IntKind.i64 (Prod.fst v - (1 : Int)))) (0 : Int) -
                                                      (1 : Int))))
                                                none)) -
                                          Prod.fst
                                            (Prod.snd
                                              (cutT (0 : Nat) (List.length (Prod.fst (Prod.snd v)))
                                                (List.length (Prod.fst (Prod.snd v)))
                                                (some
                                                  (wr IntKind.i64
                                                    (List.getD (Prod.snd (Prod.snd v))
                                                        (Int.toNat (wr IntKind.i64 (Prod.fst v - (1 : Int)))) (0 : Int) -
                                                      (1 : Int))))
                                                none))))
                                      (Prod.fst (Prod.snd v))))))
                              none)
                            none)
                          (cnd
                            (decide
                              ((List.length (Prod.fst (Prod.snd v)) + List.length [Prod.fst v]) * (8 : Nat) ≤
                                (140737488355328 : Nat)))
                            (cnd
                              (decide ((0 : Int) ≤ wr IntKind.i64 (Prod.fst v - (1 : Int))) &&
                                decide (wr IntKind.i64 (Prod.fst v - (1 : Int)) < (↑(List.length (Prod.snd (Prod.snd v))) : Int)))
                              (some
                                (Sum.inl
                                  (b, Prod.fst (Prod.snd v) ++ [Prod.fst v],
                                    putL (Prod.snd (Prod.snd v)) [(↑(List.length (Prod.fst (Prod.snd v) ++ [Prod.fst v])) : Int)]
                                      (Int.toNat (wr IntKind.i64 (Prod.fst v - (1 : Int)))))))
                              none)
                            none))
                        none)
                    (fun (c : PUnit) => some (Sum.inr [])) b)
              (Prod.snd x, [], List.replicate (Int.toNat (↑(List.length (Prod.fst x)) : Int)) (0 : Int)))
            fun (b : List Int) => some b)
          none)
        none)
      none)
    none
theorem FV_tree_Loop_eq (w_tree_step : (List Int) × Int → Option (Int ⊕ Unit)) (N : Nat) (x : (List Int) × Int) : F_tree_Loop w_tree_step N x = V_tree_Loop w_tree_step N x := by kernel_rfl
noncomputable def W_tree_Loop (N : Nat) (x : (List Int) × Int) : Option (List Int) :=
  cnd (decide ((0 : Int) ≤ (↑(List.length (Prod.fst x)) : Int)))
    (cnd (decide ((↑(List.length (Prod.fst x)) : Int) ≤ (↑(List.length (Prod.fst x)) : Int)))
      (cnd (decide ((↑(8 : Nat) : Int) * (↑(List.length (Prod.fst x)) : Int) ≤ (140737488355328 : Int)))
        (cnd (decide ((↑(List.length (Prod.fst x)) : Int) ≤ (9223372036854775807 : Int)))
          (obind
            (loopN N
              (fun (v : Int × List Int × List Int) =>
                obind (W_tree_step N (Prod.fst x, Prod.fst v)) fun (b : Int ⊕ PUnit) =>
                  selim
                    (fun (b : Int) =>
                      cnd
                        (decide ((0 : Int) ≤ wr IntKind.i64 (Prod.fst v - (1 : Int))) &&
                          decide (wr IntKind.i64 (Prod.fst v - (1 : Int)) < (↑(List.length (Prod.snd (Prod.snd v))) : Int)))
                        (cnd
                          (decide
                            ((0 : Int) <
                              List.getD (Prod.snd (Prod.snd v)) (Int.toNat (wr IntKind.i64 (Prod.fst v - (1 : Int))))
                                (0 : Int)))
                          (cnd
                            (decide
                              ((0 : Int) ≤
                                Option.getD
                                  (some
                                    (wr IntKind.i64
                                      (List.getD (Prod.snd (Prod.snd v))
                                          (Int.toNat (wr IntKind.i64 (Prod.fst v - (1 : Int)))) (0 : Int) -
                                        (1 : Int))))
                                  (0 : Int)))
                            (cnd
                              (decide
                                (Option.getD
                                    (some
                                      (wr IntKind.i64
                                        (List.getD (Prod.snd (Prod.snd v))
                                            (Int.toNat (wr IntKind.i64 (Prod.fst v - (1 : Int)))) (0 : Int) -
                                          (1 : Int))))
                                    (0 : Int) ≤
                                  (↑(List.length (Prod.fst (Prod.snd v))) : Int)))
                              (some
                                (Sum.inr
                                  (List.drop
                                    ((0 : Nat) +
                                      Prod.fst
                                        (Prod.snd
                                          (cutT (0 : Nat) (List.length (Prod.fst (Prod.snd v)))
                                            (List.length (Prod.fst (Prod.snd v)))
                                            (some
                                              (wr IntKind.i64
                                                (List.getD (Prod.snd (Prod.snd v))
                                                    (Int.toNat (wr IntKind.i64 (Prod.fst v - (1 : Int)))) (0 : Int) -
                                                  (1 : Int))))
                                            none)))
                                    (List.take
                                      ((0 : Nat) +
                                          Prod.fst
                                            (Prod.snd
                                              (cutT (0 : Nat) (List.length (Prod.fst (Prod.snd v)))
                                                (List.length (Prod.fst (Prod.snd v)))
                                                (some
                                                  (wr IntKind.i64
                                                    (List.getD (Prod.snd (Prod.snd v))
                                                        (Int.toNat (wr IntKind.i64 (Prod.fst v - (1 : Int)))) (0 : Int) -
                                                      (1 : Int))))
                                                none)) +
                                        (Prod.snd
                                            (Prod.snd
                                              (cutT (0 : Nat) (List.length (Prod.fst (Prod.snd v)))
                                                (List.length (Prod.fst (Prod.snd v)))
                                                (some
                                                  (wr IntKind.i64
                                                    (List.getD (Prod.snd (Prod.snd v))
                                                        (Int.toNat (wr IntKind.i64 (Prod.fst v - (1 : Int)))) (0 : Int) -
                                                      (1 : Int))))
                                                none)) -
                                          Prod.fst
                                            (Prod.snd
                                              (cutT (0 : Nat) (List.length (Prod.fst (Prod.snd v)))
                                                (List.length (Prod.fst (Prod.snd v)))
                                                (some
                                                  (wr IntKind.i64
                                                    (List.getD (Prod.snd (Prod.snd v))
                                                        (Int.toNat (wr IntKind.i64 (Prod.fst v - (1 : Int)))) (0 : Int) -
                                                      (1 : Int))))
                                                none))))
                                      (Prod.fst (Prod.snd v))))))
                              none)
                            none)
                          (cnd
                            (decide
                              ((List.length (Prod.fst (Prod.snd v)) + List.length [Prod.fst v]) * (8 : Nat) ≤
                                (140737488355328 : Nat)))
                            (cnd
                              (decide ((0 : Int) ≤ wr IntKind.i64 (Prod.fst v - (1 : Int))) &&
                                decide (wr IntKind.i64 (Prod.fst v - (1 : Int)) < (↑(List.length (Prod.snd (Prod.snd v))) : Int)))
                              (some
                                (Sum.inl
                                  (b, Prod.fst (Prod.snd v) ++ [Prod.fst v],
                                    putL (Prod.snd (Prod.snd v)) [(↑(List.length (Prod.fst (Prod.snd v) ++ [Prod.fst v])) : Int)]
                                      (Int.toNat (wr IntKind.i64 (Prod.fst v - (1 : Int)))))))
                              none)
                            none))
                        none)
                    (fun (c : PUnit) => some (Sum.inr [])) b)
              (Prod.snd x, [], List.replicate (Int.toNat (↑(List.length (Prod.fst x)) : Int)) (0 : Int)))
            fun (b : List Int) => some b)
          none)
        none)
      none)
    none
theorem F_tree_Loop_eq (N : Nat) (x : (List Int) × Int) : F_tree_Loop (W_tree_step N) N x = W_tree_Loop N x := (FV_tree_Loop_eq (W_tree_step N) N x).trans (by kernel_rfl)
noncomputable def conw_tree_Loop (w : (List Int) × Int → Option (List Int)) : Con := ⟨31, as_tree_Loop, bs_tree_Loop, List Int, w, out_tree_Loop⟩
noncomputable def con_tree_Loop (N : Nat) : Con := conw_tree_Loop (W_tree_Loop N)
theorem R_tree_Loop_eq (x : (List Int) × Int) (y : List Int) : retOf2 P0 Try.f31 (kpL []) (lbOf as_tree_Loop bs_tree_Loop x) (patS ⟨46, [], [], []⟩ pout_tree_Loop y) = some (out_tree_Loop y) := by kernel_rfl
theorem con_tree_Loop_ok (N : Nat) : Con.ok P0 (con_tree_Loop N) := ⟨⟨Try.f31, Try.func31, by kernel_rfl, by kernel_rfl⟩, fun (x : (List Int) × Int) (r : List Int) (hr : W_tree_Loop N x = some r) =>
  spec2_evT (Γ := G_tree_Loop (W_tree_step N) N) (Λ := L0) (pout := pout_tree_Loop) (kp := kpL []) mixed (orcOf_ok _ (by simp only [List.mem_cons, List.not_mem_nil, or_false, forall_eq_or_imp, forall_eq]; exact con_tree_step_ok N)) Try.func31 (c := bodyOf Try.f31) (by kernel_rfl) (by kernel_rfl) (of_decide_eq_true (by kernel_rfl)) ((F_tree_Loop_eq N x).trans hr) (R_tree_Loop_eq x r)⟩
def as_tree_Deep : List AS := [.val (.list (.int .i64)), .val (.int .i64)]
def bs_tree_Deep : List BS := []
def pout_tree_Deep : Pat := ⟨[(4, .val (.int .i64))], []⟩
noncomputable def G_tree_Deep (w_tree_step : (List Int) × Int → Option (Int ⊕ Unit)) (N : Nat) : OrcT := orcOf [conw_tree_step w_tree_step]
noncomputable def F_tree_Deep (w_tree_step : (List Int) × Int → Option (Int ⊕ Unit)) (N : Nat) (x : (List Int) × Int) : Option (Int) :=
  (evT (G_tree_Deep w_tree_step N) L0 P0 [(2, .loop [] ⟨[(1, .val (.int .i64)), (10, .val (.int .i64))], []⟩ [(.exit 0, ⟨[], []⟩), (.ret, ⟨[(4, .val (.int .i64))], []⟩)])]
    [] N 400 (bodyOf Try.f32) ⟨27, slots 0 (argsOf as_tree_Deep bs_tree_Deep x), tabU (lbOf as_tree_Deep bs_tree_Deep x) [], []⟩).elim (kRet 27 pout_tree_Deep (kpL []) (lbOf as_tree_Deep bs_tree_Deep x))
def out_tree_Deep (y : Int) : V × List OK × List OK := (valW (.int .i64) y, [], [])
noncomputable def V_tree_Deep (w_tree_step : (List Int) × Int → Option (Int ⊕ Unit)) (N : Nat) (x : (List Int) × Int) : Option (Int) :=
  obind
    (loopN N
      (fun (v : Int × Int) =>
        cnd (decide (Prod.snd v < (↑(List.length (Prod.fst x)) : Int)))
          (obind (w_tree_step (Prod.fst x, Prod.fst v)) fun (b : Int ⊕ PUnit) =>
            selim
              (fun (b : Int) =>
                cnd (decide (Prod.fst v = (1 : Int))) (some (Sum.inr (Sum.inr (Prod.snd v))))
                  (some (Sum.inl (b, wr IntKind.i64 (Prod.snd v + (1 : Int))))))
              (fun (c : PUnit) => some (Sum.inr (Sum.inl ()))) b)
          (some (Sum.inr (Sum.inl ()))))
      (Prod.snd x, (0 : Int)))
    fun (b : PUnit ⊕ Int) => selim (fun (b : PUnit) => some (-1 : Int)) (fun (c : Int) => some c) b
theorem FV_tree_Deep_eq (w_tree_step : (List Int) × Int → Option (Int ⊕ Unit)) (N : Nat) (x : (List Int) × Int) : F_tree_Deep w_tree_step N x = V_tree_Deep w_tree_step N x := by kernel_rfl
noncomputable def W_tree_Deep (N : Nat) (x : (List Int) × Int) : Option (Int) :=
  obind
    (loopN N
      (fun (v : Int × Int) =>
        cnd (decide (Prod.snd v < (↑(List.length (Prod.fst x)) : Int)))
          (obind (W_tree_step N (Prod.fst x, Prod.fst v)) fun (b : Int ⊕ PUnit) =>
            selim
              (fun (b : Int) =>
                cnd (decide (Prod.fst v = (1 : Int))) (some (Sum.inr (Sum.inr (Prod.snd v))))
                  (some (Sum.inl (b, wr IntKind.i64 (Prod.snd v + (1 : Int))))))
              (fun (c : PUnit) => some (Sum.inr (Sum.inl ()))) b)
          (some (Sum.inr (Sum.inl ()))))
      (Prod.snd x, (0 : Int)))
    fun (b : PUnit ⊕ Int) => selim (fun (b : PUnit) => some (-1 : Int)) (fun (c : Int) => some c) b
theorem F_tree_Deep_eq (N : Nat) (x : (List Int) × Int) : F_tree_Deep (W_tree_step N) N x = W_tree_Deep N x := (FV_tree_Deep_eq (W_tree_step N) N x).trans (by kernel_rfl)
noncomputable def conw_tree_Deep (w : (List Int) × Int → Option (Int)) : Con := ⟨32, as_tree_Deep, bs_tree_Deep, Int, w, out_tree_Deep⟩
noncomputable def con_tree_Deep (N : Nat) : Con := conw_tree_Deep (W_tree_Deep N)
theorem R_tree_Deep_eq (x : (List Int) × Int) (y : Int) : retOf2 P0 Try.f32 (kpL []) (lbOf as_tree_Deep bs_tree_Deep x) (patS ⟨27, [], [], []⟩ pout_tree_Deep y) = some (out_tree_Deep y) := by kernel_rfl
theorem con_tree_Deep_ok (N : Nat) : Con.ok P0 (con_tree_Deep N) := ⟨⟨Try.f32, Try.func32, by kernel_rfl, by kernel_rfl⟩, fun (x : (List Int) × Int) (r : Int) (hr : W_tree_Deep N x = some r) =>
  spec2_evT (Γ := G_tree_Deep (W_tree_step N) N) (Λ := L0) (pout := pout_tree_Deep) (kp := kpL []) mixed (orcOf_ok _ (by simp only [List.mem_cons, List.not_mem_nil, or_false, forall_eq_or_imp, forall_eq]; exact con_tree_step_ok N)) Try.func32 (c := bodyOf Try.f32) (by kernel_rfl) (by kernel_rfl) (of_decide_eq_true (by kernel_rfl)) ((F_tree_Deep_eq N x).trans hr) (R_tree_Deep_eq x r)⟩
def as_law21_TreeMoved : List AS := [.val (.list (.int .u8)), .val (.int .u8), .val (.int .u8)]
def bs_law21_TreeMoved : List BS := []
def pout_law21_TreeMoved : Pat := ⟨[(6, .val .bool)], []⟩
noncomputable def G_law21_TreeMoved (w_tree_Rooted : (List Int) × List Bool → Option (Bool)) (w_tree_Loop : (List Int) × Int → Option (List Int)) (w_tree_Deep : (List Int) × Int → Option (Int)) (N : Nat) : OrcT := orcOf [con_law21_begun N, conw_tree_Rooted w_tree_Rooted, conw_tree_Loop w_tree_Loop, conw_tree_Deep w_tree_Deep]
noncomputable def F_law21_TreeMoved (w_tree_Rooted : (List Int) × List Bool → Option (Bool)) (w_tree_Loop : (List Int) × Int → Option (List Int)) (w_tree_Deep : (List Int) × Int → Option (Int)) (N : Nat) (x : (List Int) × Int × Int) : Option (Bool) :=
  (evT (G_law21_TreeMoved w_tree_Rooted w_tree_Loop w_tree_Deep N) L0 P0 [(7, .loop [] ⟨[(7, .acc 700022), (8, .acc 700023), (9, .val (.int .i64))], [(700022, .nrow 3 (.int .i64) true true), (700023, .nrow 4 .bool true true)]⟩ [(.exit 0, ⟨[(7, .val (.list (.int .i64))), (8, .val (.list .bool))], []⟩)]),
    (17, .loop [7, 8] ⟨[(12, .val .bool), (13, .val (.int .i64)), (14, .val (.int .i64))], []⟩ [(.exit 2, ⟨[(12, .val .bool)], []⟩)])]
    [(1000025, .reg [(14, [7, 8, 15, 16], ⟨[(112, .val .bool)], []⟩), (6, [7, 15, 16], ⟨[(118, .val .bool)], []⟩), (6, [7, 15], ⟨[(124, .val .bool)], []⟩)])] N 400 (bodyOf Try.f11) ⟨138, slots 0 (argsOf as_law21_TreeMoved bs_law21_TreeMoved x), tabU (lbOf as_law21_TreeMoved bs_law21_TreeMoved x) [], []⟩).elim (kRet 138 pout_law21_TreeMoved (kpL []) (lbOf as_law21_TreeMoved bs_law21_TreeMoved x))
def out_law21_TreeMoved (y : Bool) : V × List OK × List OK := (valW .bool y, [], [])
noncomputable def V_law21_TreeMoved (w_tree_Rooted : (List Int) × List Bool → Option (Bool)) (w_tree_Loop : (List Int) × Int → Option (List Int)) (w_tree_Deep : (List Int) × Int → Option (Int)) (N : Nat) (x : (List Int) × Int × Int) : Option (Bool) :=
  cnd (decide ((7 : Int) < (↑(List.length (Prod.fst x)) : Int))) (some true)
    (obind
      (loopN N
        (fun (v : Int × List Int × List Bool) =>
          cnd (decide (Prod.fst v < (↑(List.length (Prod.fst x)) : Int)))
            (cnd (decide ((0 : Int) ≤ Prod.fst v) && decide (Prod.fst v < (↑(List.length (Prod.fst x)) : Int)))
              (cnd (!decide (wr IntKind.i64 (Prod.fst v + (1 : Int)) = (0 : Int)))
                (cnd
                  (decide
                    ((List.length (Prod.fst (Prod.snd v)) +
                          List.length
                            [wr IntKind.i64
                                ((1 : Int) +
                                  Int.tmod (wr IntKind.i64 (List.getD (Prod.fst x) (Int.toNat (Prod.fst v)) (0 : Int)))
                                    (wr IntKind.i64 (Prod.fst v + (1 : Int))))]) *
                        (8 : Nat) ≤
                      (140737488355328 : Nat)))
                  (cnd
                    (decide
                      ((List.length (Prod.snd (Prod.snd v)) + List.length [true]) * (1 : Nat) ≤ (140737488355328 : Nat)))
                    (some
                      (Sum.inl
                        (wr IntKind.i64 (Prod.fst v + (1 : Int)),
                          Prod.fst (Prod.snd v) ++
                            [wr IntKind.i64
                                ((1 : Int) +
                                  Int.tmod (wr IntKind.i64 (List.getD (Prod.fst x) (Int.toNat (Prod.fst v)) (0 : Int)))
                                    (wr IntKind.i64 (Prod.fst v + (1 : Int))))],
                          Prod.snd (Prod.snd v) ++ [true])))
                    none)
                  none)
                none)
              none)
            (some (Sum.inr (Prod.fst (Prod.snd v), Prod.snd (Prod.snd v)))))
        ((0 : Int), [(0 : Int)], [true]))
      fun (b : List Int × List Bool) =>
      obind (w_tree_Rooted (Prod.fst b, Prod.snd b)) fun (b_1 : Bool) =>
        cnd (!b_1) (some false)
          (cnd (decide ((↑(List.length (Prod.fst x)) : Int) = (0 : Int))) (some true)
            (cnd (!decide ((↑(List.length (Prod.fst x)) : Int) = (0 : Int)))
              (cnd (!decide ((↑(List.length (Prod.fst b)) : Int) = (0 : Int)))
                (obind
                  (loopN N
                    (fun (v : Bool × Int × Int) =>
                      cnd (decide (Prod.fst (Prod.snd v) ≠ (0 : Int)))
                        (cnd (decide (Prod.snd (Prod.snd v) < (9 : Int)))
                          (cnd (Prod.fst v)
                            (cnd
                              (decide ((0 : Int) ≤ wr IntKind.i64 (Prod.fst (Prod.snd v) - (1 : Int))) &&
                                decide (wr IntKind.i64 (Prod.fst (Prod.snd v) - (1 : Int)) < (↑(List.length (Prod.fst b)) : Int)))
                              (some
                                (Sum.inl
                                  (true,
                                    List.getD (Prod.fst b)
                                      (Int.toNat (wr IntKind.i64 (Prod.fst (Prod.snd v) - (1 : Int)))) (0 : Int),
                                    wr IntKind.i64 (Prod.snd (Prod.snd v) + (1 : Int)))))
                              none)
                            (cnd
                              (decide ((0 : Int) ≤ wr IntKind.i64 (Prod.fst (Prod.snd v) - (1 : Int))) &&
                                decide (wr IntKind.i64 (Prod.fst (Prod.snd v) - (1 : Int)) < (↑(List.length (Prod.fst b)) : Int)))
                              (some
                                (Sum.inl
                                  (decide
                                      (Prod.fst (Prod.snd v) =
                                        wr IntKind.i64
                                          ((2 : Int) +
                                            Int.tmod (wr IntKind.i64 (Prod.fst (Prod.snd x)))
                                              (↑(List.length (Prod.fst x)) : Int))),
                                    List.getD (Prod.fst b)
                                      (Int.toNat (wr IntKind.i64 (Prod.fst (Prod.snd v) - (1 : Int)))) (0 : Int),
                                    wr IntKind.i64 (Prod.snd (Prod.snd v) + (1 : Int)))))
                              none))
                          (some (Sum.inr (Prod.fst v))))
                        (some (Sum.inr (Prod.fst v))))
                    (false,
                      wr IntKind.i64
                        ((1 : Int) + Int.tmod (wr IntKind.i64 (Prod.snd (Prod.snd x))) (↑(List.length (Prod.fst b)) : Int)),
                      (0 : Int)))
                  fun (b_2 : Bool) =>
                  cnd (decide (List.length (Prod.fst b) * (8 : Nat) ≤ (140737488355328 : Nat)))
                    (cnd
                      (decide
                          ((0 : Int) ≤
                            wr IntKind.i64
                              (wr IntKind.i64
                                  ((2 : Int) +
                                    Int.tmod (wr IntKind.i64 (Prod.fst (Prod.snd x))) (↑(List.length (Prod.fst x)) : Int)) -
                                (1 : Int))) &&
                        decide
                          (wr IntKind.i64
                              (wr IntKind.i64
                                  ((2 : Int) +
                                    Int.tmod (wr IntKind.i64 (Prod.fst (Prod.snd x))) (↑(List.length (Prod.fst x)) : Int)) -
                                (1 : Int)) <
                            (↑(List.length (Prod.fst b)) : Int)))
                      (cnd (decide (List.length (Prod.fst b) * (8 : Nat) ≤ (140737488355328 : Nat)))
                        (cnd
                          (decide
                              ((0 : Int) ≤
                                wr IntKind.i64
                                  (wr IntKind.i64
                                      ((2 : Int) +
                                        Int.tmod (wr IntKind.i64 (Prod.fst (Prod.snd x))) (↑(List.length (Prod.fst x)) : Int)) -
                                    (1 : Int))) &&
                            decide
                              (wr IntKind.i64
                                  (wr IntKind.i64
                                      ((2 : Int) +
                                        Int.tmod (wr IntKind.i64 (Prod.fst (Prod.snd x))) (↑(List.length (Prod.fst x)) : Int)) -
                                    (1 : Int)) <
                                (↑(List.length (Prod.fst b)) : Int)))
                          (obind
                            (obind
                              (w_tree_Rooted
                                (putL (Prod.fst b)
                                    [wr IntKind.i64
                                        ((1 : Int) +
                                          Int.tmod (wr IntKind.i64 (Prod.snd (Prod.snd x))) (↑(List.length (Prod.fst b)) : Int))]
                                    (Int.toNat
                                      (wr IntKind.i64
                                        (wr IntKind.i64
                                            ((2 : Int) +
                                              Int.tmod (wr IntKind.i64 (Prod.fst (Prod.snd x)))
                                                (↑(List.length (Prod.fst x)) : Int)) -
                                          (1 : Int)))),
                                  Prod.snd b))
                              fun (b_3 : Bool) =>
                              cnd (!b_3 == b_2)
                                (obind
                                  (w_tree_Loop
                                    (putL (Prod.fst b)
                                        [wr IntKind.i64
                                            ((1 : Int) +
                                              Int.tmod (wr IntKind.i64 (Prod.snd (Prod.snd x)))
                                                (↑(List.length (Prod.fst b)) : Int))]
                                        (Int.toNat
                                          (wr IntKind.i64
                                            (wr IntKind.i64
                                                ((2 : Int) +
                                                  Int.tmod (wr IntKind.i64 (Prod.fst (Prod.snd x)))
                                                    (↑(List.length (Prod.fst x)) : Int)) -
                                              (1 : Int)))),
                                      wr IntKind.i64
                                        ((2 : Int) +
                                          Int.tmod (wr IntKind.i64 (Prod.fst (Prod.snd x))) (↑(List.length (Prod.fst x)) : Int))))
                                  fun (b : List Int) => some (decide ((0 : Int) < (↑(List.length b) : Int)) == b_2))
                                (some false))
                            fun (b_3 : Bool) =>
                            obind
                              (cnd b_3
                                (obind
                                  (w_tree_Rooted
                                    (putL (Prod.fst b) [(0 : Int)]
                                        (Int.toNat
                                          (wr IntKind.i64
                                            (wr IntKind.i64
                                                ((2 : Int) +
                                                  Int.tmod (wr IntKind.i64 (Prod.fst (Prod.snd x)))
                                                    (↑(List.length (Prod.fst x)) : Int)) -
                                              (1 : Int)))),
                                      Prod.snd b))
                                  fun (b : Bool) => some !b)
                                (some false))
                              fun (b_4 : Bool) =>
                              obind
                                (cnd b_4
                                  (obind
                                    (w_tree_Deep
                                      (putL (Prod.fst b) [(0 : Int)]
                                          (Int.toNat
                                            (wr IntKind.i64
                                              (wr IntKind.i64
                                                  ((2 : Int) +
                                                    Int.tmod (wr IntKind.i64 (Prod.fst (Prod.snd x)))
                                                      (↑(List.length (Prod.fst x)) : Int)) -
                                                (1 : Int)))),
                                        wr IntKind.i64
                                          ((2 : Int) +
                                            Int.tmod (wr IntKind.i64 (Prod.fst (Prod.snd x)))
                                              (↑(List.length (Prod.fst x)) : Int))))
                                    fun (b : Int) => some (decide (b = (-1 : Int))))
                                  (some false))
                                fun (b_5 : Bool) =>
                                cnd b_5
                                  (cnd b_2 (some true)
                                    (obind
                                      (w_tree_Deep
                                        (putL (Prod.fst b)
                                            [wr IntKind.i64
                                                ((1 : Int) +
                                                  Int.tmod (wr IntKind.i64 (Prod.snd (Prod.snd x)))
                                                    (↑(List.length (Prod.fst b)) : Int))]
                                            (Int.toNat
                                              (wr IntKind.i64
                                                (wr IntKind.i64
                                                    ((2 : Int) +
                                                      Int.tmod (wr IntKind.i64 (Prod.fst (Prod.snd x)))
                                                        (↑(List.length (Prod.fst x)) : Int)) -
                                                  (1 : Int)))),
                                          wr IntKind.i64
                                            ((2 : Int) +
                                              Int.tmod (wr IntKind.i64 (Prod.fst (Prod.snd x)))
                                                (↑(List.length (Prod.fst x)) : Int))))
                                      fun (b_6 : Int) =>
                                      obind
                                        (w_tree_Deep
                                          (Prod.fst b,
                                            wr IntKind.i64
                                              ((1 : Int) +
                                                Int.tmod (wr IntKind.i64 (Prod.snd (Prod.snd x)))
                                                  (↑(List.length (Prod.fst b)) : Int))))
                                        fun (b : Int) => some (decide (b_6 = wr IntKind.i64 (b + (1 : Int))))))
                                  (some false))
                          none)
                        none)
                      none)
                    none)
                none)
              none)))
theorem FV_law21_TreeMoved_eq (w_tree_Rooted : (List Int) × List Bool → Option (Bool)) (w_tree_Loop : (List Int) × Int → Option (List Int)) (w_tree_Deep : (List Int) × Int → Option (Int)) (N : Nat) (x : (List Int) × Int × Int) : F_law21_TreeMoved w_tree_Rooted w_tree_Loop w_tree_Deep N x = V_law21_TreeMoved w_tree_Rooted w_tree_Loop w_tree_Deep N x := by kernel_rfl
noncomputable def W_law21_TreeMoved (N : Nat) (x : (List Int) × Int × Int) : Option (Bool) :=
  cnd (decide ((7 : Int) < (↑(List.length (Prod.fst x)) : Int))) (some true)
    (obind
      (loopN N
        (fun (v : Int × List Int × List Bool) =>
          cnd (decide (Prod.fst v < (↑(List.length (Prod.fst x)) : Int)))
            (cnd (decide ((0 : Int) ≤ Prod.fst v) && decide (Prod.fst v < (↑(List.length (Prod.fst x)) : Int)))
              (cnd (!decide (wr IntKind.i64 (Prod.fst v + (1 : Int)) = (0 : Int)))
                (cnd
                  (decide
                    ((List.length (Prod.fst (Prod.snd v)) +
                          List.length
                            [wr IntKind.i64
                                ((1 : Int) +
                                  Int.tmod (wr IntKind.i64 (List.getD (Prod.fst x) (Int.toNat (Prod.fst v)) (0 : Int)))
                                    (wr IntKind.i64 (Prod.fst v + (1 : Int))))]) *
                        (8 : Nat) ≤
                      (140737488355328 : Nat)))
                  (cnd
                    (decide
                      ((List.length (Prod.snd (Prod.snd v)) + List.length [true]) * (1 : Nat) ≤ (140737488355328 : Nat)))
                    (some
                      (Sum.inl
                        (wr IntKind.i64 (Prod.fst v + (1 : Int)),
                          Prod.fst (Prod.snd v) ++
                            [wr IntKind.i64
                                ((1 : Int) +
                                  Int.tmod (wr IntKind.i64 (List.getD (Prod.fst x) (Int.toNat (Prod.fst v)) (0 : Int)))
                                    (wr IntKind.i64 (Prod.fst v + (1 : Int))))],
                          Prod.snd (Prod.snd v) ++ [true])))
                    none)
                  none)
                none)
              none)
            (some (Sum.inr (Prod.fst (Prod.snd v), Prod.snd (Prod.snd v)))))
        ((0 : Int), [(0 : Int)], [true]))
      fun (b : List Int × List Bool) =>
      obind (W_tree_Rooted N (Prod.fst b, Prod.snd b)) fun (b_1 : Bool) =>
        cnd (!b_1) (some false)
          (cnd (decide ((↑(List.length (Prod.fst x)) : Int) = (0 : Int))) (some true)
            (cnd (!decide ((↑(List.length (Prod.fst x)) : Int) = (0 : Int)))
              (cnd (!decide ((↑(List.length (Prod.fst b)) : Int) = (0 : Int)))
                (obind
                  (loopN N
                    (fun (v : Bool × Int × Int) =>
                      cnd (decide (Prod.fst (Prod.snd v) ≠ (0 : Int)))
                        (cnd (decide (Prod.snd (Prod.snd v) < (9 : Int)))
                          (cnd (Prod.fst v)
                            (cnd
                              (decide ((0 : Int) ≤ wr IntKind.i64 (Prod.fst (Prod.snd v) - (1 : Int))) &&
                                decide (wr IntKind.i64 (Prod.fst (Prod.snd v) - (1 : Int)) < (↑(List.length (Prod.fst b)) : Int)))
                              (some
                                (Sum.inl
                                  (true,
                                    List.getD (Prod.fst b)
                                      (Int.toNat (wr IntKind.i64 (Prod.fst (Prod.snd v) - (1 : Int)))) (0 : Int),
                                    wr IntKind.i64 (Prod.snd (Prod.snd v) + (1 : Int)))))
                              none)
                            (cnd
                              (decide ((0 : Int) ≤ wr IntKind.i64 (Prod.fst (Prod.snd v) - (1 : Int))) &&
                                decide (wr IntKind.i64 (Prod.fst (Prod.snd v) - (1 : Int)) < (↑(List.length (Prod.fst b)) : Int)))
                              (some
                                (Sum.inl
                                  (decide
                                      (Prod.fst (Prod.snd v) =
                                        wr IntKind.i64
                                          ((2 : Int) +
                                            Int.tmod (wr IntKind.i64 (Prod.fst (Prod.snd x)))
                                              (↑(List.length (Prod.fst x)) : Int))),
                                    List.getD (Prod.fst b)
                                      (Int.toNat (wr IntKind.i64 (Prod.fst (Prod.snd v) - (1 : Int)))) (0 : Int),
                                    wr IntKind.i64 (Prod.snd (Prod.snd v) + (1 : Int)))))
                              none))
                          (some (Sum.inr (Prod.fst v))))
                        (some (Sum.inr (Prod.fst v))))
                    (false,
                      wr IntKind.i64
                        ((1 : Int) + Int.tmod (wr IntKind.i64 (Prod.snd (Prod.snd x))) (↑(List.length (Prod.fst b)) : Int)),
                      (0 : Int)))
                  fun (b_2 : Bool) =>
                  cnd (decide (List.length (Prod.fst b) * (8 : Nat) ≤ (140737488355328 : Nat)))
                    (cnd
                      (decide
                          ((0 : Int) ≤
                            wr IntKind.i64
                              (wr IntKind.i64
                                  ((2 : Int) +
                                    Int.tmod (wr IntKind.i64 (Prod.fst (Prod.snd x))) (↑(List.length (Prod.fst x)) : Int)) -
                                (1 : Int))) &&
                        decide
                          (wr IntKind.i64
                              (wr IntKind.i64
                                  ((2 : Int) +
                                    Int.tmod (wr IntKind.i64 (Prod.fst (Prod.snd x))) (↑(List.length (Prod.fst x)) : Int)) -
                                (1 : Int)) <
                            (↑(List.length (Prod.fst b)) : Int)))
                      (cnd (decide (List.length (Prod.fst b) * (8 : Nat) ≤ (140737488355328 : Nat)))
                        (cnd
                          (decide
                              ((0 : Int) ≤
                                wr IntKind.i64
                                  (wr IntKind.i64
                                      ((2 : Int) +
                                        Int.tmod (wr IntKind.i64 (Prod.fst (Prod.snd x))) (↑(List.length (Prod.fst x)) : Int)) -
                                    (1 : Int))) &&
                            decide
                              (wr IntKind.i64
                                  (wr IntKind.i64
                                      ((2 : Int) +
                                        Int.tmod (wr IntKind.i64 (Prod.fst (Prod.snd x))) (↑(List.length (Prod.fst x)) : Int)) -
                                    (1 : Int)) <
                                (↑(List.length (Prod.fst b)) : Int)))
                          (obind
                            (obind
                              (W_tree_Rooted N
                                (putL (Prod.fst b)
                                    [wr IntKind.i64
                                        ((1 : Int) +
                                          Int.tmod (wr IntKind.i64 (Prod.snd (Prod.snd x))) (↑(List.length (Prod.fst b)) : Int))]
                                    (Int.toNat
                                      (wr IntKind.i64
                                        (wr IntKind.i64
                                            ((2 : Int) +
                                              Int.tmod (wr IntKind.i64 (Prod.fst (Prod.snd x)))
                                                (↑(List.length (Prod.fst x)) : Int)) -
                                          (1 : Int)))),
                                  Prod.snd b))
                              fun (b_3 : Bool) =>
                              cnd (!b_3 == b_2)
                                (obind
                                  (W_tree_Loop N
                                    (putL (Prod.fst b)
                                        [wr IntKind.i64
                                            ((1 : Int) +
                                              Int.tmod (wr IntKind.i64 (Prod.snd (Prod.snd x)))
                                                (↑(List.length (Prod.fst b)) : Int))]
                                        (Int.toNat
                                          (wr IntKind.i64
                                            (wr IntKind.i64
                                                ((2 : Int) +
                                                  Int.tmod (wr IntKind.i64 (Prod.fst (Prod.snd x)))
                                                    (↑(List.length (Prod.fst x)) : Int)) -
                                              (1 : Int)))),
                                      wr IntKind.i64
                                        ((2 : Int) +
                                          Int.tmod (wr IntKind.i64 (Prod.fst (Prod.snd x))) (↑(List.length (Prod.fst x)) : Int))))
                                  fun (b : List Int) => some (decide ((0 : Int) < (↑(List.length b) : Int)) == b_2))
                                (some false))
                            fun (b_3 : Bool) =>
                            obind
                              (cnd b_3
                                (obind
                                  (W_tree_Rooted N
                                    (putL (Prod.fst b) [(0 : Int)]
                                        (Int.toNat
                                          (wr IntKind.i64
                                            (wr IntKind.i64
                                                ((2 : Int) +
                                                  Int.tmod (wr IntKind.i64 (Prod.fst (Prod.snd x)))
                                                    (↑(List.length (Prod.fst x)) : Int)) -
                                              (1 : Int)))),
                                      Prod.snd b))
                                  fun (b : Bool) => some !b)
                                (some false))
                              fun (b_4 : Bool) =>
                              obind
                                (cnd b_4
                                  (obind
                                    (W_tree_Deep N
                                      (putL (Prod.fst b) [(0 : Int)]
                                          (Int.toNat
                                            (wr IntKind.i64
                                              (wr IntKind.i64
                                                  ((2 : Int) +
                                                    Int.tmod (wr IntKind.i64 (Prod.fst (Prod.snd x)))
                                                      (↑(List.length (Prod.fst x)) : Int)) -
                                                (1 : Int)))),
                                        wr IntKind.i64
                                          ((2 : Int) +
                                            Int.tmod (wr IntKind.i64 (Prod.fst (Prod.snd x)))
                                              (↑(List.length (Prod.fst x)) : Int))))
                                    fun (b : Int) => some (decide (b = (-1 : Int))))
                                  (some false))
                                fun (b_5 : Bool) =>
                                cnd b_5
                                  (cnd b_2 (some true)
                                    (obind
                                      (W_tree_Deep N
                                        (putL (Prod.fst b)
                                            [wr IntKind.i64
                                                ((1 : Int) +
                                                  Int.tmod (wr IntKind.i64 (Prod.snd (Prod.snd x)))
                                                    (↑(List.length (Prod.fst b)) : Int))]
                                            (Int.toNat
                                              (wr IntKind.i64
                                                (wr IntKind.i64
                                                    ((2 : Int) +
                                                      Int.tmod (wr IntKind.i64 (Prod.fst (Prod.snd x)))
                                                        (↑(List.length (Prod.fst x)) : Int)) -
                                                  (1 : Int)))),
                                          wr IntKind.i64
                                            ((2 : Int) +
                                              Int.tmod (wr IntKind.i64 (Prod.fst (Prod.snd x)))
                                                (↑(List.length (Prod.fst x)) : Int))))
                                      fun (b_6 : Int) =>
                                      obind
                                        (W_tree_Deep N
                                          (Prod.fst b,
                                            wr IntKind.i64
                                              ((1 : Int) +
                                                Int.tmod (wr IntKind.i64 (Prod.snd (Prod.snd x)))
                                                  (↑(List.length (Prod.fst b)) : Int))))
                                        fun (b : Int) => some (decide (b_6 = wr IntKind.i64 (b + (1 : Int))))))
                                  (some false))
                          none)
                        none)
                      none)
                    none)
                none)
              none)))
theorem F_law21_TreeMoved_eq (N : Nat) (x : (List Int) × Int × Int) : F_law21_TreeMoved (W_tree_Rooted N) (W_tree_Loop N) (W_tree_Deep N) N x = W_law21_TreeMoved N x := (FV_law21_TreeMoved_eq (W_tree_Rooted N) (W_tree_Loop N) (W_tree_Deep N) N x).trans (by kernel_rfl)
noncomputable def conw_law21_TreeMoved (w : (List Int) × Int × Int → Option (Bool)) : Con := ⟨11, as_law21_TreeMoved, bs_law21_TreeMoved, Bool, w, out_law21_TreeMoved⟩
noncomputable def con_law21_TreeMoved (N : Nat) : Con := conw_law21_TreeMoved (W_law21_TreeMoved N)
theorem R_law21_TreeMoved_eq (x : (List Int) × Int × Int) (y : Bool) : retOf2 P0 Try.f11 (kpL []) (lbOf as_law21_TreeMoved bs_law21_TreeMoved x) (patS ⟨138, [], [], []⟩ pout_law21_TreeMoved y) = some (out_law21_TreeMoved y) := by kernel_rfl
theorem con_law21_TreeMoved_ok (N : Nat) : Con.ok P0 (con_law21_TreeMoved N) := ⟨⟨Try.f11, Try.func11, by kernel_rfl, by kernel_rfl⟩, fun (x : (List Int) × Int × Int) (r : Bool) (hr : W_law21_TreeMoved N x = some r) =>
  spec2_evT (Γ := G_law21_TreeMoved (W_tree_Rooted N) (W_tree_Loop N) (W_tree_Deep N) N) (Λ := L0) (pout := pout_law21_TreeMoved) (kp := kpL []) mixed (orcOf_ok _ (by simp only [List.mem_cons, List.not_mem_nil, or_false, forall_eq_or_imp, forall_eq]; exact ⟨con_law21_begun_ok N, con_tree_Rooted_ok N, con_tree_Loop_ok N, con_tree_Deep_ok N⟩)) Try.func11 (c := bodyOf Try.f11) (by kernel_rfl) (by kernel_rfl) (of_decide_eq_true (by kernel_rfl)) ((F_law21_TreeMoved_eq N x).trans hr) (R_law21_TreeMoved_eq x r)⟩
/-! What is reckoned. -/
-- PURE
theorem wr_m {z : Int} (h : -140737488355328 ≤ z) (h2 : z ≤ 140737488355328) : wr .i64 z = z := wr_i64 (by omega) (by omega)
theorem cnd_T {α : Type} {p : Prop} {i : Decidable p} {x y : α} (h : p) : cnd (@decide p i) x y = x := by rw [decide_eq_true h]; rfl
theorem loop_post {σ ρ β : Type} {f : σ → Option (σ ⊕ ρ)} {k : ρ → Option β} {x : σ} {N : Nat} (Q : Option β → Prop) (I : σ → Prop) (m : σ → Nat) (J : ρ → Prop) (hx : I x) (hm : m x < N) (hk : ∀ r, J r → Q (k r))
    (hs : ∀ x, I x → (∃ y, f x = some (.inl y) ∧ I y ∧ m y < m x) ∨ ∃ r, f x = some (.inr r) ∧ J r) : Q (obind (loopN N f x) k) := by
  obtain ⟨r, h1, h2⟩ := loopN_run I m J hs N x hx hm
  rw [h1]; exact hk r h2
def U8 (l : List Int) : Prop := ∀ n ∈ l, 0 ≤ n ∧ n ≤ 255
theorem getD_putI (l : List Int) (p j : Nat) (v : Int) (hp : p < l.length) : (putL l [v] p).getD j 0 = if j = p then v else l.getD j 0 := by
  have e : putL l [v] p = l.set p v := (set_putL l p v hp).symm
  rw [e]
  simp only [List.getD_eq_getElem?_getD, List.getElem?_set]
  by_cases h : p = j
  · subst h; simp [hp]
  · rw [if_neg h, if_neg (fun q => h q.symm)]
theorem putI_len (l : List Int) (p : Nat) (v : Int) (hp : p < l.length) : (putL l [v] p).length = l.length := putL_length (by simp; omega)
theorem nodup_le : ∀ (n : Nat) (l : List Int), l.Nodup → (∀ x ∈ l, 1 ≤ x ∧ x ≤ n) → l.length ≤ n
  | 0, [], _, _ => by simp
  | 0, x :: l, _, h => by have := h x (by simp); omega
  | n + 1, l, hd, h => by
    by_cases hm : ((n + 1 : Nat) : Int) ∈ l
    · have := nodup_le n (l.erase ((n + 1 : Nat) : Int)) (hd.erase _) (fun x hx => by
        rw [hd.mem_erase_iff] at hx
        have := h x hx.2
        omega)
      rw [List.length_erase_of_mem hm] at this
      omega
    · have := nodup_le n l hd (fun x hx => by
        have h1 := h x hx
        have h2 : x ≠ ((n + 1 : Nat) : Int) := fun e => hm (e ▸ hx)
        omega)
      omega
/-- A number that somebody bears. -/
def In (u : List Int) (v : Int) : Prop := 1 ≤ v ∧ v ≤ u.length
instance (u : List Int) (v : Int) : Decidable (In u v) := inferInstanceAs (Decidable (_ ∧ _))
def nx (u : List Int) (v : Int) : Int := if In u v then u.getD (v - 1).toNat 0 else v
def it (u : List Int) : Nat → Int → Int
  | 0, v => v
  | k + 1, v => it u k (nx u v)
theorem it_succ (u : List Int) : ∀ (k : Nat) (v : Int), it u (k + 1) v = nx u (it u k v)
  | 0, _ => rfl
  | k + 1, v => it_succ u k (nx u v)
theorem it_add (u : List Int) : ∀ (a b : Nat) (v : Int), it u (a + b) v = it u b (it u a v)
  | 0, b, v => by rw [Nat.zero_add]; rfl
  | a + 1, b, v => by rw [show a + 1 + b = (a + b) + 1 by omega]; exact it_add u a b (nx u v)
theorem it_out {u : List Int} {v : Int} (h : ¬ In u v) : ∀ k, it u k v = v
  | 0 => rfl
  | k + 1 => by show it u k (nx u v) = v; rw [nx, if_neg h]; exact it_out h k
theorem in_lt {u : List Int} {v : Int} {j k : Nat} (h : In u (it u k v)) (hj : j ≤ k) : In u (it u j v) := by
  apply Classical.byContradiction
  intro c
  rw [show k = j + (k - j) by omega, it_add, it_out c] at h
  exact c h
def pth (u : List Int) (k : Nat) (v : Int) : List Int := (List.range k).map fun i => it u i v
theorem pth_succ (u : List Int) (k : Nat) (v : Int) : pth u (k + 1) v = pth u k v ++ [it u k v] := by
  unfold pth; rw [List.range_succ, List.map_append]; rfl
theorem pth_len (u : List Int) (k : Nat) (v : Int) : (pth u k v).length = k := by simp [pth]
theorem mem_pth {u : List Int} {k : Nat} {v x : Int} : x ∈ pth u k v ↔ ∃ j, j < k ∧ it u j v = x := by
  unfold pth
  rw [List.mem_map]
  constructor
  · rintro ⟨j, h, e⟩; exact ⟨j, List.mem_range.1 h, e⟩
  · rintro ⟨j, h, e⟩; exact ⟨j, List.mem_range.2 h, e⟩
theorem pth_get {u : List Int} {k : Nat} {v : Int} {j : Nat} (h : j < k) : (pth u k v).getD j 0 = it u j v := by
  unfold pth
  rw [List.getD_eq_getElem?_getD, List.getElem?_map, List.getElem?_range h]; rfl
theorem step_in (N : Nat) {u : List Int} {v : Int} (hu : u.length ≤ 1000) (h : In u v) : W_tree_step N (u, v) = some (.inl (nx u v)) := by
  unfold W_tree_step
  simp only
  have h1 := h.1; have h2 := h.2
  rw [dF (by omega), cnd_f, dF (by omega), cnd_f, wr_m (by omega) (by omega), dT (by omega), dT (by omega), Bool.and_self, cnd_t, nx, if_pos h]
theorem step_out (N : Nat) {u : List Int} {v : Int} (h : ¬ In u v) : W_tree_step N (u, v) = some (.inr ()) := by
  unfold W_tree_step
  simp only
  by_cases c : v < 1
  · rw [dT c, cnd_t]
  · rw [dF c, cnd_f, dT (by unfold In at h; omega), cnd_t]
/-- It comes to 1. -/
def R (u : List Int) (v : Int) : Prop := ∃ k, it u k v = 1
theorem R_nx {u : List Int} {v : Int} (h : v ≠ 1) : R u v ↔ R u (nx u v) := by
  constructor
  · rintro ⟨k, hk⟩
    cases k with
    | zero => exact absurd hk h
    | succ k => exact ⟨k, hk⟩
  · rintro ⟨k, hk⟩; exact ⟨k + 1, hk⟩
theorem least {p : Nat → Prop} (h : ∃ k, p k) : ∃ k, p k ∧ ∀ j, j < k → ¬ p j := by
  obtain ⟨k, hk⟩ := h
  induction k using Nat.strongRecOn with
  | _ k ih =>
    by_cases c : ∃ j, j < k ∧ p j
    · obtain ⟨j, h1, h2⟩ := c
      exact ih j h1 h2
    · exact ⟨k, hk, fun j h1 h2 => c ⟨j, h1, h2⟩⟩
theorem nodup_pth {u : List Int} {v : Int} : ∀ (k : Nat), (∀ i j, i < j → j < k → it u i v ≠ it u j v) → (pth u k v).Nodup
  | 0, _ => by simp [pth]
  | k + 1, h => by
    rw [pth_succ, List.nodup_append]
    refine ⟨nodup_pth k (fun i j h1 h2 => h i j h1 (by omega)), by simp, fun a ha b hb => ?_⟩
    rw [List.mem_singleton.1 hb]
    obtain ⟨j, h1, rfl⟩ := mem_pth.1 ha
    exact h j k h1 (by omega)
/-- Within fewer steps than there are numbers, if at all. -/
theorem R_least {u : List Int} {v : Int} (hu : 0 < u.length) (h : R u v) : ∃ k, k < u.length ∧ it u k v = 1 ∧ ∀ j, j < k → it u j v ≠ 1 := by
  obtain ⟨k, h1, h2⟩ := least (p := fun k => it u k v = 1) h
  have hin : In u (it u k v) := by rw [h1]; unfold In; omega
  have hd : (pth u (k + 1) v).Nodup := nodup_pth _ (fun i j hij hj e => by
    refine h2 (i + (k - j)) (by omega) ?_
    rw [it_add, e, ← it_add, show j + (k - j) = k by omega]
    exact h1)
  have := nodup_le u.length (pth u (k + 1) v) hd (fun x hx => by
    obtain ⟨j, hj, rfl⟩ := mem_pth.1 hx
    exact in_lt hin (by omega))
  rw [pth_len] at this
  exact ⟨k, by omega, h1, h2⟩
def Dp (u : List Int) (v d : Int) : Prop := (∃ k : Nat, d = k ∧ k < u.length ∧ it u k v = 1 ∧ ∀ j, j < k → it u j v ≠ 1) ∨ (d = -1 ∧ ¬ R u v)
theorem Dp_one {u : List Int} {v a b : Int} (h1 : Dp u v a) (h2 : Dp u v b) : a = b := by
  rcases h1 with ⟨k, rfl, k1, k2, k3⟩ | ⟨rfl, hr⟩
  · rcases h2 with ⟨m, rfl, m1, m2, m3⟩ | ⟨rfl, hr⟩
    · have := k3 m; have := m3 k
      by_cases c : k < m
      · exact absurd k2 (m3 k c)
      · by_cases c2 : m < k
        · exact absurd m2 (k3 m c2)
        · omega
    · exact absurd ⟨k, k2⟩ hr
  · rcases h2 with ⟨m, rfl, m1, m2, m3⟩ | ⟨rfl, _⟩
    · exact absurd ⟨m, m2⟩ hr
    · rfl
theorem Deep_spec (N : Nat) (hN : 2000 ≤ N) {u : List Int} {v : Int} (hu : u.length ≤ 1000) (h0 : 0 < u.length) : ∃ d, W_tree_Deep N (u, v) = some d ∧ Dp u v d := by
  unfold W_tree_Deep
  simp only
  refine loop_post (fun o => ∃ d, o = some d ∧ Dp u v d) (fun x : Int × Int => ∃ k : Nat, x.2 = k ∧ k ≤ u.length ∧ x.1 = it u k v ∧ ∀ j, j < k → it u j v ≠ 1) (fun x => u.length - x.2.toNat) (fun r : PUnit ⊕ Int => (r = .inl () ∧ ¬ R u v) ∨ ∃ d, r = .inr d ∧ Dp u v d) ⟨0, rfl, by omega, rfl, fun j hj => by omega⟩ (by simp; omega) ?_ ?_
  · rintro r (⟨rfl, h⟩ | ⟨d, rfl, h⟩)
    · rw [selim_l]; exact ⟨_, rfl, .inr ⟨rfl, h⟩⟩
    · rw [selim_r]; exact ⟨_, rfl, h⟩
  · rintro ⟨x, i⟩ ⟨k, e1, hk, e2, h3⟩
    simp only at e1 e2 ⊢
    subst e1 e2
    by_cases c : (k : Int) < u.length
    · rw [dT c, cnd_t]
      by_cases hin : In u (it u k v)
      · rw [step_in N hu hin, obind_s, selim_l]
        by_cases c1 : it u k v = 1
        · right
          rw [dT c1, cnd_t]
          exact ⟨_, rfl, .inr ⟨_, rfl, .inl ⟨k, rfl, by omega, c1, h3⟩⟩⟩
        · left
          rw [dF c1, cnd_f, wr_m (by omega) (by omega)]
          refine ⟨_, rfl, ⟨k + 1, by simp, by omega, (it_succ u k v).symm, fun j hj => ?_⟩, by simp only; omega⟩
          by_cases e : j = k
          · subst e; exact c1
          · exact h3 j (by omega)
      · right
        rw [step_out N hin, obind_s, selim_r]
        refine ⟨_, rfl, .inl ⟨rfl, ?_⟩⟩
        rintro ⟨m, hm⟩
        by_cases c2 : m < k
        · exact h3 m c2 hm
        · rw [show m = k + (m - k) by omega, it_add, it_out hin] at hm
          rw [hm] at hin
          exact hin ⟨by omega, by omega⟩
    · right
      rw [dF c, cnd_f]
      refine ⟨_, rfl, .inl ⟨rfl, fun h => ?_⟩⟩
      obtain ⟨m, h1, h2, _⟩ := R_least h0 h
      exact h3 m (by omega) h2
theorem cut_some (n : Nat) (i : Int) (l : List Int) (h : l.length = n) : List.drop ((0 : Nat) + (cutT (0 : Nat) n n (some i) none).2.1) (List.take ((0 : Nat) + (cutT (0 : Nat) n n (some i) none).2.1 + ((cutT (0 : Nat) n n (some i) none).2.2 - (cutT (0 : Nat) n n (some i) none).2.1)) l) = l.drop i.toNat := by
  subst h
  simp only [cutT, Option.getD_some, Option.getD_none]
  by_cases c : i.toNat ≤ l.length
  · rw [show 0 + i.toNat + (l.length - i.toNat) = l.length by omega, List.take_length, Nat.zero_add]
  · rw [List.drop_eq_nil_of_le (by rw [List.length_take]; omega), List.drop_eq_nil_of_le (by omega)]
/-- A round without an end. -/
def Rnd (u r : List Int) : Prop := ∀ i, i < r.length → In u (r.getD i 0) ∧ nx u (r.getD i 0) = r.getD ((i + 1) % r.length) 0
def Lp (u : List Int) (v : Int) (r : List Int) : Prop := r.length ≤ u.length ∧ ((r = [] ∧ ∃ k, k ≤ u.length ∧ ¬ In u (it u k v)) ∨ (r ≠ [] ∧ Rnd u r ∧ ∀ k, In u (it u k v)))
theorem round_of {u : List Int} {v : Int} {j k : Nat} (hj : j < k) (he : it u k v = it u j v) (hin : ∀ i, i < k → In u (it u i v)) : Rnd u ((pth u k v).drop j) ∧ ∀ m, In u (it u m v) := by
  have hl : ((pth u k v).drop j).length = k - j := by rw [List.length_drop, pth_len]
  have hg : ∀ i, i < k - j → ((pth u k v).drop j).getD i 0 = it u (j + i) v := fun i hi => by
    rw [List.getD_eq_getElem?_getD, List.getElem?_drop, ← List.getD_eq_getElem?_getD, pth_get (by omega)]
  refine ⟨fun i hi => ?_, fun m => ?_⟩
  · rw [hl] at hi ⊢
    rw [hg i hi]
    refine ⟨hin _ (by omega), ?_⟩
    rw [← it_succ]
    by_cases c : i + 1 < k - j
    · rw [Nat.mod_eq_of_lt c, hg _ c]; rfl
    · have : i + 1 = k - j := by omega
      rw [this, Nat.mod_self, hg 0 (by omega), show j + i + 1 = k by omega, he]; rfl
  · induction m using Nat.strongRecOn with
    | _ m ih =>
      by_cases c : m < k
      · exact hin m c
      · have h := ih (m - (k - j)) (by omega)
        rw [show m = k + (m - k) by omega, it_add, he, ← it_add, show j + (m - k) = m - (k - j) by omega]
        exact h
theorem sub_inj {a b : Int} (ha : 1 ≤ a) (hb : 1 ≤ b) : ((a - 1).toNat = (b - 1).toNat) ↔ a = b := by omega
theorem Loop_spec (N : Nat) (hN : 2000 ≤ N) {u : List Int} {v : Int} (hu : u.length ≤ 1000) : ∃ r, W_tree_Loop N (u, v) = some r ∧ Lp u v r := by
  unfold W_tree_Loop
  simp only
  rw [dT (by omega), cnd_t, dT (by omega), cnd_t, dT (by omega), cnd_t, dT (by omega), cnd_t, Int.toNat_natCast]
  refine loop_post (fun o => ∃ d, o = some d ∧ Lp u v d) (fun x : Int × List Int × List Int => ∃ k : Nat, k ≤ u.length ∧ x.1 = it u k v ∧ x.2.1 = pth u k v ∧ x.2.2.length = u.length ∧ (pth u k v).Nodup ∧ (∀ i, i < k → In u (it u i v)) ∧
      (∀ y, In u y → y ∉ pth u k v → x.2.2.getD (y - 1).toNat 0 = 0) ∧ ∀ i : Nat, i < k → x.2.2.getD (it u i v - 1).toNat 0 = i + 1) (fun x => u.length - x.2.1.length) (fun r => Lp u v r) ⟨0, by omega, rfl, rfl, by simp, by simp [pth], fun i hi => by omega, fun y hy _ => ?_, fun i hi => by omega⟩ (by simp; omega) ?_ ?_
  · have := hy.1; have := hy.2
    simp only [List.getD_eq_getElem?_getD, List.getElem?_replicate]
    rw [if_pos (by omega)]; rfl
  · intro r h
    exact ⟨r, rfl, h⟩
  · rintro ⟨x, met, pl⟩ ⟨k, hk, e1, e2, hl, hd, hin, hz, hi⟩
    simp only at e1 e2 hl hz hi ⊢
    subst e1 e2
    by_cases hx : In u (it u k v)
    case neg =>
      right
      rw [step_out N hx, obind_s, selim_r]
      exact ⟨_, rfl, by simp, .inl ⟨rfl, k, hk, hx⟩⟩
    have hx1 := hx.1; have hx2 := hx.2
    rw [step_in N hu hx, obind_s, selim_l, wr_m (by omega) (by omega), hl, dT (by omega), dT (by omega), Bool.and_self, cnd_t, pth_len]
    by_cases hm : it u k v ∈ pth u k v
    · right
      obtain ⟨j, hj, he⟩ := mem_pth.1 hm
      have hp := hi j hj
      rw [he] at hp
      rw [hp, dT (by omega), cnd_t, wr_m (by omega) (by omega)]
      simp only [Option.getD_some]
      rw [dT (by omega), cnd_t, dT (by omega), cnd_t, cut_some k _ _ (pth_len u k v), show ((j : Int) + 1 - 1).toNat = j by omega]
      obtain ⟨r1, r2⟩ := round_of hj he.symm hin
      refine ⟨_, rfl, by rw [List.length_drop, pth_len]; omega, .inr ⟨fun q => ?_, r1, r2⟩⟩
      have := congrArg List.length q
      rw [List.length_drop, pth_len] at this
      simp at this
      omega
    · left
      have hkl : k < u.length := by
        have := nodup_le u.length (pth u (k + 1) v) (by
          rw [pth_succ, List.nodup_append]
          exact ⟨hd, by simp, fun a ha b hb e => hm (by rw [← List.mem_singleton.1 hb, ← e]; exact ha)⟩) (fun y hy => by
          obtain ⟨j, hj, rfl⟩ := mem_pth.1 hy
          by_cases c : j = k
          · subst c; exact hx
          · exact hin j (by omega))
        rw [pth_len] at this
        omega
      rw [hz _ hx hm, dF (by omega), cnd_f, dT (by simp only [List.length_singleton]; omega), cnd_t, cnd_t, ← pth_succ, pth_len]
      have hpl : (it u k v - 1).toNat < pl.length := by omega
      refine ⟨_, rfl, ⟨k + 1, by omega, (it_succ u k v).symm, rfl, by simp only; rw [putI_len _ _ _ hpl]; exact hl, ?_, fun i hi2 => ?_, fun y hy hym => ?_, fun i hi2 => ?_⟩, by simp only [pth_len]; omega⟩
      · rw [pth_succ, List.nodup_append]
        exact ⟨hd, by simp, fun a ha b hb e => hm (by rw [← List.mem_singleton.1 hb, ← e]; exact ha)⟩
      · by_cases c : i = k
        · subst c; exact hx
        · exact hin i (by omega)
      · simp only
        have hy1 := hy.1
        rw [pth_succ] at hym
        have h1 : y ∉ pth u k v := fun h => hym (List.mem_append_left _ h)
        have h2 : y ≠ it u k v := fun h => hym (List.mem_append_right _ (by simp [h]))
        rw [getD_putI _ _ _ _ hpl, if_neg (fun q => h2 ((sub_inj hy1 hx1).1 q))]
        exact hz y hy h1
      · simp only
        rw [getD_putI _ _ _ _ hpl]
        by_cases c : i = k
        · subst c
          rw [if_pos rfl]; omega
        · have hii := hin i (by omega)
          have hne : it u i v ≠ it u k v := fun e => hm (mem_pth.2 ⟨i, by omega, e⟩)
          rw [if_neg (fun q => hne ((sub_inj hii.1 hx1).1 q))]
          exact hi i (by omega)
theorem loopG {σ ρ : Type} {f : σ → Option (σ ⊕ ρ)} (I : Nat → σ → Prop) (B : Nat) (J : ρ → Prop) (hb : ∀ k x, I k x → k ≤ B) (hs : ∀ k x, I k x → (∃ y, f x = some (.inl y) ∧ I (k + 1) y) ∨ ∃ r, f x = some (.inr r) ∧ J r) :
    ∀ (M k : Nat) (x : σ), I k x → B < M + k → ∃ r, loopN M f x = some r ∧ J r
  | 0, k, x, h, hm => by have := hb k x h; omega
  | M + 1, k, x, h, hm => by
    rcases hs k x h with ⟨y, h1, h2⟩ | ⟨r, h1, h2⟩
    · obtain ⟨r, h4, h5⟩ := loopG I B J hb hs M (k + 1) y h2 (by omega)
      exact ⟨r, by simp only [loopN, h1]; exact h4, h5⟩
    · exact ⟨r, by simp only [loopN, h1], h2⟩
theorem loop_G {σ ρ β : Type} {f : σ → Option (σ ⊕ ρ)} {g : ρ → Option β} {x : σ} {N : Nat} (Q : Option β → Prop) (I : Nat → σ → Prop) (B : Nat) (J : ρ → Prop) (hx : I 0 x) (hm : B < N) (hk : ∀ r, J r → Q (g r)) (hb : ∀ k x, I k x → k ≤ B)
    (hs : ∀ k x, I k x → (∃ y, f x = some (.inl y) ∧ I (k + 1) y) ∨ ∃ r, f x = some (.inr r) ∧ J r) : Q (obind (loopN N f x) g) := by
  obtain ⟨r, h1, h2⟩ := loopG I B J hb hs N 0 x hx (by omega)
  rw [h1]; exact hk r h2
theorem never_of {u : List Int} {v : Int} {j k : Nat} (hj : j < k) (he : it u k v = it u j v) (h : ∀ i, i < k → it u i v ≠ 1) : ¬ R u v := by
  rintro ⟨m, hm⟩
  induction m using Nat.strongRecOn with
  | _ m ih =>
    by_cases c : m < k
    · exact h m c hm
    · refine ih (m - (k - j)) (by omega) ?_
      rw [show m = k + (m - k) by omega, it_add, he, ← it_add, show j + (m - k) = m - (k - j) by omega] at hm
      exact hm
theorem never_out {u : List Int} {v : Int} {k : Nat} (h0 : 0 < u.length) (ho : ¬ In u (it u k v)) (h : ∀ i, i < k → it u i v ≠ 1) : ¬ R u v := by
  rintro ⟨m, hm⟩
  by_cases c : k ≤ m
  · rw [show m = k + (m - k) by omega, it_add, it_out ho] at hm
    rw [hm] at ho
    exact ho ⟨by omega, by omega⟩
  · exact h m (by omega) hm
theorem pth_next {u : List Int} {k : Nat} {v : Int} (hd : (pth u k v).Nodup) (hm : it u k v ∉ pth u k v) : (pth u (k + 1) v).Nodup := by
  rw [pth_succ, List.nodup_append]
  exact ⟨hd, by simp, fun a ha b hb e => hm (by rw [← List.mem_singleton.1 hb, ← e]; exact ha)⟩
theorem pth_bnd {u : List Int} {k : Nat} {v : Int} (hd : (pth u k v).Nodup) (h : ∀ i, i < k → In u (it u i v)) : k ≤ u.length := by
  have := nodup_le u.length (pth u k v) hd (fun y hy => by
    obtain ⟨j, hj, rfl⟩ := mem_pth.1 hy
    exact h j hj)
  rw [pth_len] at this
  exact this
structure Cl (u : List Int) (f : Int) (ov : List Int) (k : Nat) (x : Int × List Int) : Prop where
  id : x.1 = it u k f
  len : x.2.length = u.length
  nd : (pth u k f).Nodup
  inn : ∀ i, i < k → In u (it u i f)
  n1 : ∀ i, i < k → it u i f ≠ 1
  y1 : ∀ y, In u y → y ∈ pth u k f → x.2.getD (y - 1).toNat 0 = f
  y2 : ∀ y, In u y → y ∉ pth u k f → x.2.getD (y - 1).toNat 0 = ov.getD (y - 1).toNat 0
theorem Cl.next {u : List Int} {f : Int} {ov : List Int} {k : Nat} {x : Int} {o : List Int} (h : Cl u f ov k (x, o)) (hx : In u (it u k f)) (hm : it u k f ∉ pth u k f) (h1 : it u k f ≠ 1) : Cl u f ov (k + 1) (nx u (it u k f), putL o [f] (it u k f - 1).toNat) := by
  have hx1 := hx.1; have hx2 := hx.2
  have hl : o.length = u.length := h.len
  have hpl : (it u k f - 1).toNat < o.length := by omega
  refine ⟨(it_succ u k f).symm, by simp only; rw [putI_len _ _ _ hpl]; exact hl, pth_next h.nd hm, fun i hi => ?_, fun i hi => ?_, fun y hy hym => ?_, fun y hy hym => ?_⟩
  · by_cases c : i = k
    · subst c; exact hx
    · exact h.inn i (by omega)
  · by_cases c : i = k
    · subst c; exact h1
    · exact h.n1 i (by omega)
  · simp only
    rw [getD_putI _ _ _ _ hpl]
    rw [pth_succ] at hym
    by_cases c : y = it u k f
    · subst c; rw [if_pos rfl]
    · rw [if_neg (fun q => c ((sub_inj hy.1 hx1).1 q))]
      refine h.y1 y hy ?_
      rcases List.mem_append.1 hym with q | q
      · exact q
      · exact absurd (List.mem_singleton.1 q) c
  · simp only
    rw [pth_succ] at hym
    have h3 : y ∉ pth u k f := fun q => hym (List.mem_append_left _ q)
    have h2 : y ≠ it u k f := fun q => hym (List.mem_append_right _ (by simp [q]))
    rw [getD_putI _ _ _ _ hpl, if_neg (fun q => h2 ((sub_inj hy.1 hx1).1 q))]
    exact h.y2 y hy h3
def ClR (u : List Int) (f : Int) (b : Bool) (o : List Int) : Prop := o.length = u.length ∧ (b = false → ¬ R u f) ∧ (b = true → R u f ∧ ∀ y, In u y → 0 ≤ o.getD (y - 1).toNat 0 ∧ o.getD (y - 1).toNat 0 < f + 1 ∧ (0 < o.getD (y - 1).toNat 0 → R u y))
theorem climbs_spec (N : Nat) (hN : 2000 ≤ N) {u : List Int} {on : List Bool} {f : Int} {ov : List Int} (hu : u.length ≤ 1000) (hf : In u f) (hon : on.length = u.length) (hall : ∀ i, i < u.length → on.getD i false = true) (hov : ov.length = u.length)
    (hlt : ∀ y, In u y → 0 ≤ ov.getD (y - 1).toNat 0 ∧ ov.getD (y - 1).toNat 0 < f ∧ (0 < ov.getD (y - 1).toNat 0 → R u y)) :
    ∃ b ov', W_tree_climbs N (u, on, f, ov) = some (b, ov') ∧ ClR u f b ov' := by
  have h0 : 0 < u.length := by have := hf.1; have := hf.2; omega
  unfold W_tree_climbs
  refine loop_G (N := N) (x := (f, ov)) (fun o => ∃ (b : Bool) (ov' : List Int), o = some (b, ov') ∧ ClR u f b ov') (Cl u f ov) u.length (fun r : Bool × List Int => ClR u f r.1 r.2) (show Cl u f ov 0 (f, ov) from ⟨rfl, hov, by simp [pth], fun i hi => by omega, fun i hi => by omega, fun y _ hy => by simp [pth] at hy, fun y _ _ => rfl⟩) (by omega) ?_ (fun k x h => pth_bnd h.nd h.inn) ?_
  · rintro ⟨b, o⟩ h
    simp only at h ⊢
    have h1 := h.1
    rw [dT (by omega), cnd_t]
    exact ⟨_, _, rfl, h⟩
  · rintro k ⟨x, o⟩ h
    have e1 := h.id
    have hl := h.len
    simp only at e1 hl ⊢
    subst e1
    have rp : ∀ b : Bool, R u f → (b = true → R u f ∧ ∀ y, In u y → 0 ≤ o.getD (y - 1).toNat 0 ∧ o.getD (y - 1).toNat 0 < f + 1 ∧ (0 < o.getD (y - 1).toNat 0 → R u y)) := by
      intro b hr _
      refine ⟨hr, fun y hy => ?_⟩
      have hf1 := hf.1
      by_cases c : y ∈ pth u k f
      · have := h.y1 y hy c
        simp only at this
        rw [this]
        refine ⟨by omega, by omega, fun _ => ?_⟩
        obtain ⟨j, hj, rfl⟩ := mem_pth.1 c
        obtain ⟨m, hm⟩ := hr
        have hmj : j ≤ m := Nat.le_of_not_lt fun q => h.n1 m (by omega) hm
        exact ⟨m - j, by rw [← it_add, show j + (m - j) = m by omega]; exact hm⟩
      · have := h.y2 y hy c
        simp only at this
        rw [this]
        have := hlt y hy
        exact ⟨this.1, by omega, this.2.2⟩
    by_cases hx : In u (it u k f)
    case neg =>
      right
      rw [step_out N hx, obind_s, selim_r, cnd_t]
      exact ⟨_, rfl, hl, fun _ => never_out h0 hx h.n1, fun q => by cases q⟩
    have hx1 := hx.1; have hx2 := hx.2
    rw [step_in N hu hx, obind_s, selim_l, wr_m (by omega) (by omega), hon, dT (by omega), dT (by omega), Bool.and_self, cnd_t, obind_s, hall _ (by omega), Bool.not_true, cnd_f]
    simp only
    rw [hl, dT (show (it u k f - 1) < (u.length : Int) by omega), Bool.and_self, cnd_t]
    by_cases hm : it u k f ∈ pth u k f
    · right
      have hp := h.y1 _ hx hm
      simp only at hp
      rw [hp, dT rfl, cnd_t]
      obtain ⟨j, hj, he⟩ := mem_pth.1 hm
      exact ⟨_, rfl, hl, fun _ => never_of hj he.symm h.n1, fun q => by cases q⟩
    · have hp := h.y2 _ hx hm
      simp only at hp
      obtain ⟨q1, q2, q3⟩ := hlt _ hx
      rw [hp, dF (by omega), cnd_f]
      by_cases c1 : it u k f = 1
      · right
        rw [dT c1, cnd_t]
        exact ⟨_, rfl, hl, fun q => by (cases q), rp true ⟨k, c1⟩⟩
      · rw [dF c1, cnd_f, cnd_t]
        by_cases c2 : 0 < ov.getD (it u k f - 1).toNat 0
        · right
          rw [dT c2, cnd_t]
          obtain ⟨m, hm2⟩ := q3 c2
          exact ⟨_, rfl, hl, fun q => by (cases q), rp true ⟨k + m, by rw [it_add]; exact hm2⟩⟩
        · left
          rw [dF c2, cnd_f, cnd_t]
          exact ⟨_, rfl, h.next hx hm c1⟩
theorem Rooted_spec (N : Nat) (hN : 2000 ≤ N) {u : List Int} {on : List Bool} (hu : u.length ≤ 1000) (h0 : 0 < u.length) (hon : on.length = u.length) (hall : ∀ i, i < u.length → on.getD i false = true) :
    ∃ b, W_tree_Rooted N (u, on) = some b ∧ (b = true ↔ (u.getD 0 0 = 0 ∧ ∀ y, In u y → R u y)) := by
  unfold W_tree_Rooted
  simp only
  rw [hon, dF (by omega), cnd_f, dF (by simp), obind_s, cnd_f, dT (by omega), dT (by omega), Bool.and_self, cnd_t, hall 0 h0, obind_s, Bool.not_true, cnd_f, cnd_t]
  by_cases c0 : u.getD 0 0 = 0
  case neg =>
    rw [dT c0, cnd_t]
    exact ⟨_, rfl, fun q => by (cases q), fun q => absurd q.1 c0⟩
  rw [dF (by simpa using c0), cnd_f, dT (by omega), cnd_t, dT (by omega), cnd_t, dT (by omega), cnd_t, dT (by omega), cnd_t, Int.toNat_natCast]
  refine loop_G (fun o => ∃ b, o = some b ∧ (b = true ↔ (u.getD 0 0 = 0 ∧ ∀ y, In u y → R u y))) (fun k (x : Int × List Int) => x.1 = k ∧ k ≤ u.length ∧ x.2.length = u.length ∧ (∀ y : Int, 1 ≤ y → y ≤ k → R u y) ∧ ∀ y : Int, In u y → 0 ≤ x.2.getD (y - 1).toNat 0 ∧ x.2.getD (y - 1).toNat 0 < (k : Int) + 1 ∧ (0 < x.2.getD (y - 1).toNat 0 → R u y)) u.length
    (fun r : PUnit ⊕ Bool => (r = .inl () ∧ ∀ y, In u y → R u y) ∨ (r = .inr false ∧ ¬ ∀ y, In u y → R u y)) ⟨rfl, by omega, by simp, fun y h1 h2 => by omega, fun y hy => ?_⟩ (by omega) ?_ (fun k x h => h.2.1) ?_
  · have := hy.1; have := hy.2
    have e : (List.replicate u.length (0 : Int)).getD (y - 1).toNat 0 = 0 := by
      simp only [List.getD_eq_getElem?_getD, List.getElem?_replicate]
      rw [if_pos (by omega)]; rfl
    simp only [e]
    exact ⟨by omega, by omega, fun q => by omega⟩
  · rintro r (⟨rfl, h⟩ | ⟨rfl, h⟩)
    · rw [selim_l]; exact ⟨_, rfl, fun _ => ⟨c0, h⟩, fun _ => rfl⟩
    · rw [selim_r]; exact ⟨_, rfl, fun q => by (cases q), fun q => absurd q.2 h⟩
  · rintro k ⟨i, o⟩ ⟨e1, hk, hl, hR, hy⟩
    simp only at e1 hl hy ⊢
    subst e1
    by_cases c : (k : Int) < u.length
    · rw [dT c, cnd_t, dT (by omega), Bool.and_self, cnd_t, Int.toNat_natCast, hall k (by omega), cnd_t, wr_m (by omega) (by omega)]
      obtain ⟨b, o', h1, h2, h3, h4⟩ := climbs_spec N hN hu (f := (k : Int) + 1) ⟨by omega, by omega⟩ hon hall hl hy
      rw [h1, obind_s]
      simp only
      rw [hl, h2, dT rfl, cnd_t]
      cases b with
      | false =>
        right
        rw [Bool.not_false, cnd_t]
        exact ⟨_, rfl, .inr ⟨rfl, fun q => h3 rfl (q _ ⟨by omega, by omega⟩)⟩⟩
      | true =>
        left
        rw [Bool.not_true, cnd_f]
        obtain ⟨h5, h6⟩ := h4 rfl
        refine ⟨_, rfl, by simp, by omega, h2, fun y q1 q2 => ?_, fun y q => ?_⟩
        · by_cases e : y = (k : Int) + 1
          · subst e; exact h5
          · exact hR y q1 (by omega)
        · have := h6 y q
          refine ⟨this.1, ?_, this.2.2⟩
          have := this.2.1
          simp only
          omega
    · right
      rw [dF c, cnd_f]
      exact ⟨_, rfl, .inl ⟨rfl, fun y q => hR y q.1 (by have := q.2; omega)⟩⟩
theorem Dp_next {u : List Int} {v d e : Int} (hv : v ≠ 1) (hd : Dp u v d) (h0 : 0 ≤ d) (he : Dp u (nx u v) e) : d = e + 1 := by
  rcases hd with ⟨k, rfl, h1, h2, h3⟩ | ⟨rfl, _⟩
  case inr => omega
  cases k with
  | zero => exact absurd h2 hv
  | succ k =>
    have : Dp u (nx u v) (k : Int) := .inl ⟨k, rfl, by omega, h2, fun j hj => h3 (j + 1) (by omega)⟩
    rw [Dp_one he this]
    omega
/-- A made tree: each hangs on one that is less. -/
structure Mt (u : List Int) : Prop where
  pos : 0 < u.length
  top : u.getD 0 0 = 0
  up : ∀ v : Int, 2 ≤ v → v ≤ u.length → 1 ≤ u.getD (v - 1).toNat 0 ∧ u.getD (v - 1).toNat 0 < v
theorem Mt.nx1 {u : List Int} (h : Mt u) : nx u 1 = 0 := by
  have := h.pos
  rw [nx, if_pos ⟨by omega, by omega⟩]; exact h.top
theorem Mt.nxv {u : List Int} (h : Mt u) {v : Int} (h1 : 2 ≤ v) (h2 : v ≤ u.length) : 1 ≤ nx u v ∧ nx u v < v := by
  rw [nx, if_pos ⟨by omega, by omega⟩]; exact h.up v h1 h2
theorem Mt.reach {u : List Int} (h : Mt u) : ∀ (n : Nat) (v : Int), v ≤ n → In u v → R u v
  | 0, v, h1, hv => by have := hv.1; omega
  | n + 1, v, h1, hv => by
    by_cases c : v = 1
    · exact ⟨0, c⟩
    · have hv1 := hv.1; have hv2 := hv.2
      have := h.nxv (v := v) (by omega) (by omega)
      exact (R_nx c).2 (h.reach n (nx u v) (by omega) ⟨by omega, by omega⟩)
/-- One who hangs elsewhere. -/
structure Mv (u x : List Int) (a c : Int) : Prop where
  len : x.length = u.length
  a2 : 2 ≤ a ∧ a ≤ u.length
  at_ : nx x a = c
  oth : ∀ v, v ≠ a → nx x v = nx u v
theorem Mv.mk_ {u : List Int} {a c : Int} (h : 2 ≤ a ∧ a ≤ u.length) : Mv u (putL u [c] (a - 1).toNat) a c := by
  have hl : (a - 1).toNat < u.length := by omega
  have e := putI_len u _ c hl
  have hin : ∀ v, In (putL u [c] (a - 1).toNat) v ↔ In u v := fun v => by unfold In; rw [e]
  refine ⟨e, h, ?_, fun v hv => ?_⟩
  · rw [nx, if_pos ((hin a).2 ⟨by omega, by omega⟩), getD_putI _ _ _ _ hl, if_pos rfl]
  · unfold nx
    by_cases q : In u v
    · rw [if_pos ((hin v).2 q), if_pos q, getD_putI _ _ _ _ hl, if_neg (fun z => hv ((sub_inj q.1 (by omega)).1 z))]
    · rw [if_neg (fun z => q ((hin v).1 z)), if_neg q]
theorem Mv.same {u x : List Int} {a c : Int} (h : Mv u x a c) {v : Int} : ∀ k, (∀ j, j < k → it u j v ≠ a) → it x k v = it u k v
  | 0, _ => rfl
  | k + 1, hj => by rw [it_succ, it_succ, h.same k (fun j hjk => hj j (by omega)), h.oth _ (hj k (by omega))]
theorem Mv.inn {u x : List Int} {a c : Int} (h : Mv u x a c) {v : Int} : In x v ↔ In u v := by unfold In; rw [h.len]
/-- b comes to a. -/
def Un (u : List Int) (a b : Int) : Prop := ∃ k, it u k b = a
theorem Un_least {u : List Int} {a b : Int} (h : Un u a b) : ∃ k, it u k b = a ∧ ∀ j, j < k → it u j b ≠ a := least h
theorem Mv.under {u x : List Int} {a b : Int} (ht : Mt u) (h : Mv u x a b) (hu : Un u a b) : (¬ R x a) ∧ ∀ k, In x (it x k a) := by
  obtain ⟨m, h1, h2⟩ := Un_least hu
  have h3 := h.same m h2
  have hback : it x (m + 1) a = it x 0 a := by
    show it x m (nx x a) = a
    rw [h.at_, h3, h1]
  have hina : In u a := ⟨by have := h.a2; omega, by have := h.a2; omega⟩
  have hpre : ∀ i, i < m + 1 → In x (it x i a) ∧ it x i a ≠ 1 := by
    intro i hi
    cases i with
    | zero => exact ⟨h.inn.2 hina, fun q => by have h5 : a = 1 := q; have := h.a2; omega⟩
    | succ i =>
      have e : it x (i + 1) a = it u i b := by
        show it x i (nx x a) = _
        rw [h.at_, h.same i (fun j hj => h2 j (by omega))]
      rw [e, h.inn]
      have hin : In u (it u i b) := in_lt (k := m) (by rw [h1]; exact hina) (by omega)
      refine ⟨hin, fun q => ?_⟩
      have h4 : it u (i + 1) b = 0 := by rw [it_succ, q, ht.nx1]
      have h5 : In u (it u (i + 1) b) := in_lt (k := m) (by rw [h1]; exact hina) (by omega)
      rw [h4] at h5
      have := h5.1
      omega
  exact ⟨never_of (by omega) hback (fun i hi => (hpre i hi).2), (round_of (u := x) (j := 0) (k := m + 1) (by omega) hback (fun i hi => (hpre i hi).1)).2⟩
theorem Mv.free {u x : List Int} {a b : Int} (ht : Mt u) (h : Mv u x a b) (hb : In u b) (hu : ¬ Un u a b) : ∀ v, In u v → R x v := by
  have hRb : ∃ k, it x k b = 1 := by
    obtain ⟨k, hk⟩ := ht.reach b.toNat b (by omega) hb
    exact ⟨k, by rw [h.same k (fun j _ q => hu ⟨j, q⟩)]; exact hk⟩
  have hRa : R x a := by
    obtain ⟨k, hk⟩ := hRb
    exact ⟨k + 1, by show it x k (nx x a) = 1; rw [h.at_]; exact hk⟩
  intro v hv
  by_cases c : ∃ k, it u k v = a
  · obtain ⟨m, h1, h2⟩ := least c
    obtain ⟨k, hk⟩ := hRa
    exact ⟨m + k, by rw [it_add, h.same m h2, h1]; exact hk⟩
  · obtain ⟨k, hk⟩ := ht.reach v.toNat v (by omega) hv
    exact ⟨k, by rw [h.same k (fun j _ q => c ⟨j, q⟩)]; exact hk⟩
theorem made_spec (N : Nat) (hN : 2000 ≤ N) (x : List Int) (hx : x.length ≤ 7) (hU : U8 x) {β : Type} {g : List Int × List Bool → Option β} (Q : Option β → Prop) (hQ : ∀ u on, Mt u → u.length = x.length + 1 → on.length = u.length → (∀ i, i < u.length → on.getD i false = true) → Q (g (u, on))) : Q (obind
    (loopN N
      (fun (v : Int × List Int × List Bool) =>
        cnd (decide (Prod.fst v < (↑(List.length x) : Int)))
          (cnd (decide ((0 : Int) ≤ Prod.fst v) && decide (Prod.fst v < (↑(List.length x) : Int)))
            (cnd (!decide (wr IntKind.i64 (Prod.fst v + (1 : Int)) = (0 : Int)))
              (cnd
                (decide
                  ((List.length (Prod.fst (Prod.snd v)) +
                        List.length
                          [wr IntKind.i64
                              ((1 : Int) +
                                Int.tmod (wr IntKind.i64 (List.getD x (Int.toNat (Prod.fst v)) (0 : Int)))
                                  (wr IntKind.i64 (Prod.fst v + (1 : Int))))]) *
                      (8 : Nat) ≤
                    (140737488355328 : Nat)))
                (cnd
                  (decide
                    ((List.length (Prod.snd (Prod.snd v)) + List.length [true]) * (1 : Nat) ≤ (140737488355328 : Nat)))
                  (some
                    (Sum.inl
                      (wr IntKind.i64 (Prod.fst v + (1 : Int)),
                        Prod.fst (Prod.snd v) ++
                          [wr IntKind.i64
                              ((1 : Int) +
                                Int.tmod (wr IntKind.i64 (List.getD x (Int.toNat (Prod.fst v)) (0 : Int)))
                                  (wr IntKind.i64 (Prod.fst v + (1 : Int))))],
                        Prod.snd (Prod.snd v) ++ [true])))
                  none)
                none)
              none)
            none)
          (some (Sum.inr (Prod.fst (Prod.snd v), Prod.snd (Prod.snd v)))))
      ((0 : Int), [(0 : Int)], [true])) g) := by
  refine loop_G (N := N) (x := ((0 : Int), [(0 : Int)], [true])) Q (fun k v => v.1 = k ∧ k ≤ x.length ∧ v.2.1.length = k + 1 ∧ Mt v.2.1 ∧ v.2.2.length = k + 1 ∧ ∀ i, i < k + 1 → v.2.2.getD i false = true) x.length (fun r : List Int × List Bool => Mt r.1 ∧ r.1.length = x.length + 1 ∧ r.2.length = r.1.length ∧ ∀ i, i < r.1.length → r.2.getD i false = true) ⟨rfl, by omega, rfl, ⟨by simp, rfl, fun v h1 h2 => by simp at h2; omega⟩, rfl, fun i hi => by have : i = 0 := (by omega); subst this; rfl⟩ (by omega) (fun r h => hQ r.1 r.2 h.1 h.2.1 h.2.2.1 h.2.2.2) (fun k v h => h.2.1) ?_
  rintro k ⟨i, o, p⟩ ⟨e1, hk, hl, ht, hpl, hp⟩
  simp only at e1 hl ht hpl hp ⊢
  subst e1
  by_cases c : (k : Int) < x.length
  · left
    have hc : 0 ≤ x.getD k 0 ∧ x.getD k 0 ≤ 255 := by
      rw [List.getD_eq_getElem?_getD, List.getElem?_eq_getElem (by omega)]
      exact hU _ (List.getElem_mem _)
    have hm0 : 0 ≤ x.getD k 0 % ((k : Int) + 1) := Int.emod_nonneg _ (by omega)
    have hm1 : x.getD k 0 % ((k : Int) + 1) < (k : Int) + 1 := Int.emod_lt_of_pos _ (by omega)
    have w1 : wr .i64 ((k : Int) + 1) = k + 1 := wr_m (by omega) (by omega)
    have w2 : wr .i64 (x.getD k 0) = x.getD k 0 := wr_m (by omega) (by omega)
    rw [dT c, cnd_t, dT (by omega), Bool.and_self, cnd_t, w1, Int.toNat_natCast, w2, Int.tmod_eq_emod_of_nonneg hc.1, dF (by omega), Bool.not_false, cnd_t]
    generalize x.getD k 0 % ((k : Int) + 1) = z at *
    rw [wr_m (by omega) (by omega), dT (by simp only [List.length_cons, List.length_nil]; omega), cnd_t, dT (by simp only [List.length_cons, List.length_nil]; omega), cnd_t]
    refine ⟨_, rfl, by simp, by omega, by simp [hl], ⟨by simp, ?_, fun v h1 h2 => ?_⟩, by simp [hpl], fun j hj => ?_⟩
    · have := ht.top
      have hp0 := ht.pos
      simp only [List.getD_eq_getElem?_getD] at this ⊢
      rw [List.getElem?_append_left hp0]; exact this
    · simp only at h2 ⊢
      simp only [List.length_append, List.length_cons, List.length_nil] at h2
      by_cases q : v ≤ o.length
      · have := ht.up v h1 q
        simp only [List.getD_eq_getElem?_getD] at this ⊢
        rw [List.getElem?_append_left (by omega)]; exact this
      · have e : (v - 1).toNat = o.length := by omega
        rw [e, List.getD_eq_getElem?_getD, List.getElem?_append_right (Nat.le_refl _), Nat.sub_self]
        show 1 ≤ 1 + z ∧ 1 + z < v
        omega
    · simp only
      rw [List.getD_eq_getElem?_getD]
      by_cases q : j < p.length
      · rw [List.getElem?_append_left q, ← List.getD_eq_getElem?_getD]
        exact hp j (by omega)
      · have e : j = p.length := by omega
        rw [e, List.getElem?_append_right (Nat.le_refl _), Nat.sub_self]; rfl
  · right
    rw [dF c, cnd_f]
    exact ⟨_, rfl, ht, by simp only; omega, by simp only; omega, fun i hi => hp i (by simp only at hi; omega)⟩
theorem under_spec (N : Nat) (hN : 2000 ≤ N) (u : List Int) (a b : Int) (hu : u.length ≤ 8) (ht : Mt u) (ha : 2 ≤ a) (hb : In u b) {β : Type} {g : Bool → Option β} (Q : Option β → Prop) (hQ : ∀ r, (r = true ↔ Un u a b) → Q (g r)) : Q (obind
                (loopN N
                  (fun (v : Bool × Int × Int) =>
                    cnd (decide (Prod.fst (Prod.snd v) ≠ (0 : Int)))
                      (cnd (decide (Prod.snd (Prod.snd v) < (9 : Int)))
                        (cnd (Prod.fst v)
                          (cnd
                            (decide ((0 : Int) ≤ wr IntKind.i64 (Prod.fst (Prod.snd v) - (1 : Int))) &&
                              decide (wr IntKind.i64 (Prod.fst (Prod.snd v) - (1 : Int)) < (↑(List.length u) : Int)))
                            (some
                              (Sum.inl
                                (true,
                                  List.getD u
                                    (Int.toNat (wr IntKind.i64 (Prod.fst (Prod.snd v) - (1 : Int)))) (0 : Int),
                                  wr IntKind.i64 (Prod.snd (Prod.snd v) + (1 : Int)))))
                            none)
                          (cnd
                            (decide ((0 : Int) ≤ wr IntKind.i64 (Prod.fst (Prod.snd v) - (1 : Int))) &&
                              decide (wr IntKind.i64 (Prod.fst (Prod.snd v) - (1 : Int)) < (↑(List.length u) : Int)))
                            (some
                              (Sum.inl
                                (decide (Prod.fst (Prod.snd v) = a),
                                  List.getD u
                                    (Int.toNat (wr IntKind.i64 (Prod.fst (Prod.snd v) - (1 : Int)))) (0 : Int),
                                  wr IntKind.i64 (Prod.snd (Prod.snd v) + (1 : Int)))))
                            none))
                        (some (Sum.inr (Prod.fst v))))
                      (some (Sum.inr (Prod.fst v))))
                  (false, b, (0 : Int))) g) := by
  have hb1 := hb.1; have hb2 := hb.2
  refine loop_G (N := N) (x := (false, b, (0 : Int))) Q (fun k v => v.2.2 = k ∧ k ≤ 9 ∧ v.2.1 = it u k b ∧ (v.1 = true ↔ ∃ j, j < k ∧ it u j b = a) ∧ (it u k b = 0 ∨ (In u (it u k b) ∧ it u k b + k ≤ 8))) 9 (fun r : Bool => r = true ↔ Un u a b) ⟨rfl, by omega, rfl, ⟨fun q => by (cases q), fun ⟨j, hj, _⟩ => by omega⟩, .inr ⟨hb, by show b + ((0 : Nat) : Int) ≤ 8; omega⟩⟩ (by omega) hQ (fun k v h => h.2.1) ?_
  rintro k ⟨r, at_, i⟩ ⟨e1, hk, e2, hr, hz⟩
  simp only at e1 e2 hr ⊢
  subst e1 e2
  by_cases c : it u k b = 0
  · right
    rw [dF (fun q => q c), cnd_f]
    refine ⟨_, rfl, hr.trans ⟨fun ⟨j, _, h⟩ => ⟨j, h⟩, fun ⟨j, h⟩ => ⟨j, Nat.lt_of_not_le fun q => ?_, h⟩⟩⟩
    have ho : ¬ In u (it u k b) := fun q => by have := q.1; omega
    rw [show j = k + (j - k) by omega, it_add, it_out ho] at h
    omega
  · left
    obtain ⟨h1, h2⟩ := hz.resolve_left c
    have h11 := h1.1; have h12 := h1.2
    have w1 : wr .i64 (it u k b - 1) = it u k b - 1 := wr_m (by omega) (by omega)
    have w2 : wr .i64 ((k : Int) + 1) = k + 1 := wr_m (by omega) (by omega)
    have hn : List.getD u (it u k b - 1).toNat 0 = it u (k + 1) b := by rw [it_succ, nx, if_pos h1]
    have hz2 : it u (k + 1) b = 0 ∨ (In u (it u (k + 1) b) ∧ it u (k + 1) b + ((k + 1 : Nat) : Int) ≤ 8) := by
      rw [it_succ]
      by_cases q : it u k b = 1
      · left; rw [q]; exact ht.nx1
      · right
        have := ht.nxv (v := it u k b) (by omega) h12
        exact ⟨⟨by omega, by omega⟩, by omega⟩
    rw [dT c, cnd_t, dT (by omega), cnd_t, w1, w2, dT (by omega), dT (by omega), Bool.and_self, cnd_t, cnd_t, hn]
    cases r with
    | true =>
      rw [cnd_t]
      obtain ⟨j, h3, h4⟩ := hr.1 rfl
      exact ⟨_, rfl, by simp, by omega, rfl, ⟨fun _ => ⟨j, by omega, h4⟩, fun _ => rfl⟩, hz2⟩
    | false =>
      rw [cnd_f]
      refine ⟨_, rfl, by simp, by omega, rfl, ⟨fun q => ⟨k, by omega, of_decide_eq_true q⟩, fun ⟨j, h3, h4⟩ => ?_⟩, hz2⟩
      by_cases q : j < k
      · exact absurd (hr.2 ⟨j, q, h4⟩) (by simp)
      · have : j = k := by omega
        subst this
        exact decide_eq_true h4
theorem law_aux (N : Nat) (hN : 2000 ≤ N) (x : List Int) (y1 y2 : Int) (hU : U8 x) (h1 : 0 ≤ y1 ∧ y1 ≤ 255) (h2 : 0 ≤ y2 ∧ y2 ≤ 255) : W_law21_TreeMoved N (x, y1, y2) = some true := by
  unfold W_law21_TreeMoved
  simp only
  by_cases c1 : (7 : Int) < x.length
  · rw [dT c1, cnd_t]
  rw [dF c1, cnd_f]
  refine made_spec N hN x (by omega) hU (fun o => o = some true) fun u on ht hul hon hall => ?_
  have h0 := ht.pos
  obtain ⟨rt, g1, g2⟩ := Rooted_spec N hN (u := u) (by omega) h0 hon hall
  have hrt : rt = true := g2.2 ⟨ht.top, fun y hy => ht.reach y.toNat y (by have := hy.1; omega) hy⟩
  subst hrt
  simp only
  rw [g1, obind_s, Bool.not_true, cnd_f]
  by_cases c2 : (x.length : Int) = 0
  · rw [dT c2, cnd_t]
  rw [dF c2, cnd_f, Bool.not_false, cnd_t, dF (by omega), Bool.not_false, cnd_t]
  clear g1 g2
  obtain ⟨a, hA, ha⟩ : ∃ a, wr .i64 (2 + Int.tmod (wr .i64 y1) (x.length : Int)) = a ∧ 2 ≤ a ∧ a ≤ u.length := by
    have w1 : wr .i64 y1 = y1 := wr_m (by omega) (by omega)
    have q1 : 0 ≤ y1 % (x.length : Int) := Int.emod_nonneg _ (by omega)
    have q2 : y1 % (x.length : Int) < x.length := Int.emod_lt_of_pos _ (by omega)
    refine ⟨_, rfl, ?_⟩
    rw [w1, Int.tmod_eq_emod_of_nonneg h1.1, wr_m (by omega) (by omega)]
    omega
  obtain ⟨b, hB, hb⟩ : ∃ b, wr .i64 (1 + Int.tmod (wr .i64 y2) (u.length : Int)) = b ∧ In u b := by
    have w1 : wr .i64 y2 = y2 := wr_m (by omega) (by omega)
    have q1 : 0 ≤ y2 % (u.length : Int) := Int.emod_nonneg _ (by omega)
    have q2 : y2 % (u.length : Int) < u.length := Int.emod_lt_of_pos _ (by omega)
    refine ⟨_, rfl, ?_⟩
    rw [w1, Int.tmod_eq_emod_of_nonneg h2.1, wr_m (by omega) (by omega)]
    exact ⟨by omega, by omega⟩
  rw [hA, hB]
  refine under_spec N hN u a b (by omega) ht ha.1 hb (fun o => o = some true) fun r hr => ?_
  have w1 : wr .i64 (a - 1) = a - 1 := wr_m (by omega) (by omega)
  rw [w1, dT (show u.length * 8 ≤ 140737488355328 by omega), cnd_t, dT (by omega), dT (by omega), Bool.and_self, cnd_t, cnd_t, cnd_t]
  have hX := Mv.mk_ (u := u) (a := a) (c := b) ha
  have hY := Mv.mk_ (u := u) (a := a) (c := 0) ha
  generalize putL u [b] (a - 1).toNat = X at *
  generalize putL u [(0 : Int)] (a - 1).toNat = Y at *
  have hXl := hX.len; have hYl := hY.len
  have top : ∀ {z : List Int} {c : Int}, Mv u z a c → z.getD 0 0 = 0 := fun {z c} h => by
    have e := h.oth 1 (by omega)
    have hl := h.len
    rw [ht.nx1, nx, if_pos ⟨by omega, by omega⟩] at e
    exact e
  have hinx : In X a := ⟨by omega, by omega⟩
  obtain ⟨bX, x1, x2⟩ := Rooted_spec N hN (u := X) (on := on) (by omega) (by omega) (by omega) (fun i hi => hall i (by omega))
  obtain ⟨bY, z1, z2⟩ := Rooted_spec N hN (u := Y) (on := on) (by omega) (by omega) (by omega) (fun i hi => hall i (by omega))
  obtain ⟨l, l1, l2⟩ := Loop_spec N hN (u := X) (v := a) (by omega)
  obtain ⟨dY, v1, v2⟩ := Deep_spec N hN (u := Y) (v := a) (by omega) (by omega)
  obtain ⟨dX, e1, e2⟩ := Deep_spec N hN (u := X) (v := a) (by omega) (by omega)
  obtain ⟨dU, f1, f2⟩ := Deep_spec N hN (u := u) (v := b) (by omega) h0
  have hYa : ¬ R Y a := by
    rintro ⟨k, hk⟩
    cases k with
    | zero => have : a = 1 := hk; omega
    | succ k =>
      have e : it Y (k + 1) a = it Y k (nx Y a) := rfl
      rw [e, hY.at_, it_out (fun q => by have := q.1; omega)] at hk
      omega
  have hbY : bY = false := by
    cases bY with
    | false => rfl
    | true => exact absurd ((z2.1 rfl).2 a ⟨by omega, by omega⟩) hYa
  have hdY : dY = -1 := by
    rcases v2 with ⟨k, _, _, hk, _⟩ | ⟨h, _⟩
    · exact absurd ⟨k, hk⟩ hYa
    · exact h
  subst hbY hdY
  rw [x1, obind_s]
  have key : bX = !r ∧ decide (0 < (l.length : Int)) = r ∧ (r = false → dX = dU + 1) := by
    cases hrr : r with
    | true =>
      rw [hrr] at hr
      obtain ⟨q1, q2⟩ := hX.under ht (hr.1 rfl)
      refine ⟨?_, ?_, fun q => by cases q⟩
      · cases bX with
        | false => rfl
        | true => exact absurd ((x2.1 rfl).2 a hinx) q1
      · rcases l2.2 with ⟨_, k, _, hk⟩ | ⟨hne, _, _⟩
        · exact absurd (q2 k) hk
        · apply dT
          cases l with
          | nil => exact absurd rfl hne
          | cons s t => simp only [List.length_cons]; omega
    | false =>
      rw [hrr] at hr
      have hun : ¬ Un u a b := fun q => by have := hr.2 q; cases this
      have q1 := hX.free ht hb hun
      have hRa : R X a := q1 a (hX.inn.1 hinx)
      refine ⟨x2.2 ⟨top hX, fun y hy => q1 y (hX.inn.1 hy)⟩, ?_, fun _ => ?_⟩
      · rcases l2.2 with ⟨rfl, _⟩ | ⟨_, _, hall2⟩
        · rfl
        · obtain ⟨m, hm⟩ := hRa
          have h5 := hall2 (m + 1)
          rw [it_succ, hm, hX.oth 1 (by omega), ht.nx1] at h5
          have := h5.1
          omega
      · have hd0 : 0 ≤ dX := by
          rcases e2 with ⟨m, rfl, _⟩ | ⟨_, h⟩
          · omega
          · exact absurd hRa h
        have hsame : ∀ k, it X k b = it u k b := fun k => hX.same k (fun j _ q => hun ⟨j, q⟩)
        have f3 : Dp X (nx X a) dU := by
          rw [hX.at_]
          rcases f2 with ⟨k, h5, h6, h7, h8⟩ | ⟨h5, h6⟩
          · exact .inl ⟨k, h5, by omega, by rw [hsame]; exact h7, fun j hj => by rw [hsame]; exact h8 j hj⟩
          · exact .inr ⟨h5, fun ⟨k, hk⟩ => h6 ⟨k, by rw [← hsame]; exact hk⟩⟩
        exact Dp_next (by omega) e2 hd0 f3
  obtain ⟨k1, k2, k3⟩ := key
  have hdU : -1 ≤ dU ∧ dU ≤ 8 := by
    rcases f2 with ⟨k, rfl, h6, _⟩ | ⟨rfl, _⟩ <;> omega
  subst k1
  rw [l1, obind_s, k2]
  rw [show (!(!r) == r) = true by cases r <;> rfl, cnd_t, obind_s, show (r == r) = true by cases r <;> rfl, cnd_t, z1, obind_s, obind_s, Bool.not_false, cnd_t, v1, obind_s, obind_s, dT rfl, cnd_t]
  cases r with
  | true => rw [cnd_t]
  | false =>
    rw [cnd_f, e1, obind_s, f1, obind_s, wr_m (by omega) (by omega), dT (k3 rfl)]
def NN : Nat := 2000
theorem law_true (y0 : List Int) (y1 : Int) (y2 : Int) (h0 : Twf (.list (.int .u8)) y0) (h1 : Twf (.int .u8) y1) (h2 : Twf (.int .u8) y2) : W_law21_TreeMoved NN (y0, y1, y2) = some true :=
  law_aux NN (Nat.le_refl _) y0 y1 y2 h0.2 h1 h2

theorem spec (y0 : List Int) (y1 : Int) (y2 : Int) (h0 : Twf (.list (.int .u8)) y0) (h1 : Twf (.int .u8) y1) (h2 : Twf (.int .u8) y2) : Spec2 P0 11 [valW (.list (.int .u8)) y0, valW (.int .u8) y1, valW (.int .u8) y2] [] (.bs true) [] [] := (con_law21_TreeMoved_ok NN).2 (y0, y1, y2) true (law_true y0 y1 y2 h0 h1 h2)
theorem lifted (os : Os) (started : os.Started) (H : Type) (enc : TypeId × Value → H) :
    ReturnsInHanded {} Try.checked os 11 .any (Rows.treeMovedSpec.pre6 enc Try.prog Try.f11 Rows.treeMovedRow.domain false) (Rows.treeMovedSpec.post enc Try.prog Try.f11 false true false false) := by
  refine returnsInHanded_of_change (C := Try.checked) own started (by kernel_rfl) Try.func11
    (ChangeSpec.witness6 (enc := enc) (C := Try.checked) false ⟨#[], #[.slice none 0 0, .int .u8 0, .int .u8 0], []⟩ 8 (by kernel_rfl) (by kernel_rfl) (by kernel_rfl) (by kernel_rfl)) ?_
  intro W base args ds gs before hval0 hW hcnd _
  have hval : ∀ (j : Nat) t v, Try.f11.params[j]? = some t → args[j]? = some v → Value.okWide Try.prog W .any base t v := hval0
  have hW' := hW
  obtain ⟨p, q, hA0, hV, rfl, hfz, hnd⟩ := hW
  have hA : DataW.TrodAll enc Try.prog W 0 (fun _ => true) true Try.f11.params.toList args.toList ds p := hA0
  rw [Try.params11] at hA hval
  obtain ⟨v0, vs0, d0, ds0, p0, q0, hargs, rfl, rfl, h0, r0⟩ := trodAll_cons hA
  obtain ⟨v1, vs1, d1, ds1, p1, q1, rfl, rfl, rfl, h1, r1⟩ := trodAll_cons r0
  obtain ⟨v2, vs2, d2, ds2, p2, q2, rfl, rfl, rfl, h2, r2⟩ := trodAll_cons r1
  obtain ⟨rfl, rfl, rfl⟩ := trodAll_nil r2
  obtain rfl : args = #[v0, v1, v2] := by cases args; simp_all
  obtain ⟨rfl, rfl⟩ := trodVars_none hV
  have k0 := h0
  have lt0 : ∀ x ∈ p0, x.block < W.heap.size := by obtain ⟨m, hm⟩ := k0; exact DataW.trod_lt m _ _ _ hm
  obtain ⟨y0, rp0, wf0⟩ := arg_ok (n := 12) (ty := (.list (.int .u8))) (by kernel_rfl) (hval 0 _ v0 rfl rfl) h0
  have k1 := h1
  have lt1 : ∀ x ∈ p1, x.block < W.heap.size := by obtain ⟨m, hm⟩ := k1; exact DataW.trod_lt m _ _ _ hm
  obtain ⟨y1, rp1, wf1⟩ := arg_ok (n := 12) (ty := (.int .u8)) (by kernel_rfl) (hval 1 _ v1 rfl rfl) h1
  have k2 := h2
  have lt2 : ∀ x ∈ p2, x.block < W.heap.size := by obtain ⟨m, hm⟩ := k2; exact DataW.trod_lt m _ _ _ hm
  obtain ⟨y2, rp2, wf2⟩ := arg_ok (n := 12) (ty := (.int .u8)) (by kernel_rfl) (hval 2 _ v2 rfl rfl) h2
  clear hA0 hval0
  refine (law_of2 (spec y0 y1 y2 wf0 wf1 wf2) W #[v0, v1, v2] (.cons rp0 (.cons rp1 (.cons rp2 .nil)))).mono fun e W' ⟨he, bel⟩ => ?_
  subst he
  exact ⟨_, rfl, _, _, _, [], _, [], hW', trodAll_mk1 (shut_bool Try.underlying4 _), (trodAll_cons_mk (Below.trod laidOut (by kernel_rfl) (of_decide_eq_true (by kernel_rfl)) k0 bel lt0) (trodAll_cons_mk (Below.trod laidOut (by kernel_rfl) (of_decide_eq_true (by kernel_rfl)) k1 bel lt1) (trodAll_cons_mk (Below.trod laidOut (by kernel_rfl) (of_decide_eq_true (by kernel_rfl)) k2 bel lt2) trodAll_mk0))), rfl, bel.frame _, fun h => by cases h⟩

theorem over : Rows.treeMovedRow.holds Try.pinned (OpenSpec.ofChange Rows.treeMovedSpec) :=
  OpenClaim.holds_of_wide 11 Try.f11 rfl rfl rfl rfl rfl rfl rfl ⟨rfl, rfl, rfl, rfl, rfl⟩ rfl rfl rfl rfl rfl (by kernel_rfl) Try.func11 (by kernel_rfl)
    (of_decide_eq_true (by kernel_rfl)) (by unfold Func.isWrapper; first | (rw [if_pos (by decide +kernel)]; kernel_rfl) | (rw [if_neg (by decide +kernel)]; exact ⟨rfl, rfl⟩))
    (fun os started H enc _ => lifted os started H enc)

theorem holds : Rows.TreeMovedSaid := over
end Go.Proofs.Ytfgceflanjeejaa.treeMovedX
