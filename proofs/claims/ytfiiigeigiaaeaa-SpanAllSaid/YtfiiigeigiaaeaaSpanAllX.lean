/- SpanAll: for all arguments the call returns true. The law is brought to a function of Lean's own (W_..) by the machine of the texts beside it, and that is reckoned; no condition. -/
import Derived.Test.YtfiiigeigiaaeaaExtL
import Derived.Test.YtfiiigeigiaaeaaRows
import Derived.WalkKit
import Derived.ProofKit
import Derived.OpenShut
import Derived.ShutString
import Derived.ChangeOld
import Derived.Below
namespace Go.Proofs.Ytfiiigeigiaaeaa.spanAllX
open Go.Abs Go.RowKit Go.ChangeShapes Go.WideShapes Go.ChangeAt
set_option maxRecDepth 100000
set_option linter.unusedVariables false
set_option linter.unusedSimpArgs false
noncomputable abbrev P0 : Program := Try.prog
noncomputable def bodyOf (fn : Func) : Code := fn.body.getD .skip
def L0 : Lend := fun f => aget [] [] f
def kpL (l : List Bool) : Nat → Bool := fun j => l.getD j true
theorem own : ownKnob Try.prog.godebug = none := by kernel_rfl
theorem laidOut : laidOutB Try.prog = true := by kernel_rfl
theorem mixed : P0.follows .mixedOrders = true := by decide +kernel
theorem progOk_ : progOk P0 = true := by decide +kernel
noncomputable def con_law3_begun (N : Nat) : Con := ⟨27, [], [], Unit, fun _ => some (), fun _ => (.bs true, [], [])⟩
theorem con_law3_begun_ok (N : Nat) : Con.ok P0 (con_law3_begun N) := closed_con2 (nonJ_ok _) mixed progOk_ (noneΞ_ok2 _) (inl := [16,17,41,56,58,64,72,91]) (breath := 100000) (n := 60) (by kernel_rfl)
def as_ref1_MaySpan : List AS := [.val (.agg (.pair (.int .i64) (.int .i64)))]
def bs_ref1_MaySpan : List BS := []
def pout_ref1_MaySpan : Pat := ⟨[(2, .val .bool)], []⟩
noncomputable def G_ref1_MaySpan  (N : Nat) : OrcT := orcOf []
noncomputable def F_ref1_MaySpan  (N : Nat) (x : Int × Int) : Option (Bool) :=
  (evT (G_ref1_MaySpan  N) L0 P0 []
    [(1000001, .reg [(10, [], ⟨[(1, .ptr 600001 0), (12, .val .bool)], [(600001, .box 41 (.val (.pair (.int .i64) (.int .i64))))]⟩)])] N 400 (bodyOf Try.f32) ⟨18, slots 0 (argsOf as_ref1_MaySpan bs_ref1_MaySpan x), tabU (lbOf as_ref1_MaySpan bs_ref1_MaySpan x) [], []⟩).elim (kRet 18 pout_ref1_MaySpan (kpL []) (lbOf as_ref1_MaySpan bs_ref1_MaySpan x))
def out_ref1_MaySpan (y : Bool) : V × List OK × List OK := (valW .bool y, [], [])
noncomputable def V_ref1_MaySpan  (N : Nat) (x : Int × Int) : Option (Bool) :=
  obind
    (cnd (decide ((1 : Int) ≤ Prod.fst x)) (some (decide (Prod.fst x ≤ Prod.snd x), Prod.fst x, Prod.snd x))
      (some (false, Prod.fst x, Prod.snd x)))
    fun (b : Bool × Int × Int) => cnd (Prod.fst b) (some (decide (Prod.snd (Prod.snd b) ≤ (1000000 : Int)))) (some false)
theorem FV_ref1_MaySpan_eq  (N : Nat) (x : Int × Int) : F_ref1_MaySpan  N x = V_ref1_MaySpan  N x := by kernel_rfl
noncomputable def W_ref1_MaySpan (N : Nat) (x : Int × Int) : Option (Bool) :=
  obind
    (cnd (decide ((1 : Int) ≤ Prod.fst x)) (some (decide (Prod.fst x ≤ Prod.snd x), Prod.fst x, Prod.snd x))
      (some (false, Prod.fst x, Prod.snd x)))
    fun (b : Bool × Int × Int) => cnd (Prod.fst b) (some (decide (Prod.snd (Prod.snd b) ≤ (1000000 : Int)))) (some false)
theorem F_ref1_MaySpan_eq (N : Nat) (x : Int × Int) : F_ref1_MaySpan  N x = W_ref1_MaySpan N x := (FV_ref1_MaySpan_eq  N x).trans (by kernel_rfl)
noncomputable def conw_ref1_MaySpan (w : Int × Int → Option (Bool)) : Con := ⟨32, as_ref1_MaySpan, bs_ref1_MaySpan, Bool, w, out_ref1_MaySpan⟩
noncomputable def con_ref1_MaySpan (N : Nat) : Con := conw_ref1_MaySpan (W_ref1_MaySpan N)
theorem R_ref1_MaySpan_eq (x : Int × Int) (y : Bool) : retOf2 P0 Try.f32 (kpL []) (lbOf as_ref1_MaySpan bs_ref1_MaySpan x) (patS ⟨18, [], [], []⟩ pout_ref1_MaySpan y) = some (out_ref1_MaySpan y) := by kernel_rfl
theorem con_ref1_MaySpan_ok (N : Nat) : Con.ok P0 (con_ref1_MaySpan N) := ⟨⟨Try.f32, Try.func32, by kernel_rfl, by kernel_rfl⟩, fun (x : Int × Int) (r : Bool) (hr : W_ref1_MaySpan N x = some r) =>
  spec2_evT (Γ := G_ref1_MaySpan N) (Λ := L0) (pout := pout_ref1_MaySpan) (kp := kpL []) mixed (orcOf_ok [] (by simp)) Try.func32 (c := bodyOf Try.f32) (by kernel_rfl) (by kernel_rfl) (of_decide_eq_true (by kernel_rfl)) ((F_ref1_MaySpan_eq N x).trans hr) (R_ref1_MaySpan_eq x r)⟩
def as_ref1_AddSpan : List AS := [.val (.list (.agg (.pair (.int .i64) (.int .i64)))), .val (.agg (.pair (.int .i64) (.int .i64)))]
def bs_ref1_AddSpan : List BS := []
def pout_ref1_AddSpan : Pat := ⟨[(4, .val (.list (.agg (.pair (.int .i64) (.int .i64)))))], []⟩
noncomputable def G_ref1_AddSpan (w_ref1_MaySpan : Int × Int → Option (Bool)) (N : Nat) : OrcT := orcOf [conw_ref1_MaySpan w_ref1_MaySpan]
noncomputable def F_ref1_AddSpan (w_ref1_MaySpan : Int × Int → Option (Bool)) (N : Nat) (x : (List (Int × Int)) × Int × Int) : Option (List (Int × Int)) :=
  (evT (G_ref1_AddSpan w_ref1_MaySpan N) L0 P0 [(5, .loop [] ⟨[(3, .ptr 600003 0), (5, .acc 700005), (6, .acc 700006), (7, .val (.int .i64))], [(600003, .box 41 (.val (.pair (.int .i64) (.int .i64)))), (700005, .nrow 41 (.agg (.pair (.int .i64) (.int .i64))) true true), (700006, .nrow 41 (.agg (.pair (.int .i64) (.int .i64))) true true)]⟩ [(.exit 0, ⟨[(3, .ptr 600003 0), (5, .acc 700005), (6, .val (.list (.agg (.pair (.int .i64) (.int .i64)))))], [(600003, .box 41 (.val (.pair (.int .i64) (.int .i64)))), (700005, .nrow 41 (.agg (.pair (.int .i64) (.int .i64))) true true)]⟩)])]
    [] N 400 (bodyOf Try.f31) ⟨77, slots 0 (argsOf as_ref1_AddSpan bs_ref1_AddSpan x), tabU (lbOf as_ref1_AddSpan bs_ref1_AddSpan x) [], []⟩).elim (kRet 77 pout_ref1_AddSpan (kpL []) (lbOf as_ref1_AddSpan bs_ref1_AddSpan x))
def out_ref1_AddSpan (y : List (Int × Int)) : V × List OK × List OK := (valW (.list (.agg (.pair (.int .i64) (.int .i64)))) y, [], [])
noncomputable def V_ref1_AddSpan (w_ref1_MaySpan : Int × Int → Option (Bool)) (N : Nat) (x : (List (Int × Int)) × Int × Int) : Option (List (Int × Int)) :=
  obind (w_ref1_MaySpan (Prod.fst (Prod.snd x), Prod.snd (Prod.snd x))) fun (b : Bool) =>
    cnd (!b) (cnd (decide (List.length (Prod.fst x) * (16 : Nat) ≤ (140737488355328 : Nat))) (some (Prod.fst x)) none)
      (obind
        (loopN N
          (fun (v : Int × (Int × Int) × List (Int × Int) × List (Int × Int)) =>
            cnd (decide (Prod.fst v < (↑(List.length (Prod.fst x)) : Int)))
              (cnd (decide ((0 : Int) ≤ Prod.fst v) && decide (Prod.fst v < (↑(List.length (Prod.fst x)) : Int)))
                (cnd
                  (decide
                    (wr IntKind.i64
                        (Prod.snd (List.getD (Prod.fst x) (Int.toNat (Prod.fst v)) ((0 : Int), (0 : Int))) + (1 : Int)) <
                      Prod.fst (Prod.fst (Prod.snd v))))
                  (cnd (decide ((0 : Int) ≤ Prod.fst v) && decide (Prod.fst v < (↑(List.length (Prod.fst x)) : Int)))
                    (cnd
                      (decide
                        ((List.length (Prod.fst (Prod.snd (Prod.snd v))) +
                              List.length
                                [(Prod.fst (List.getD (Prod.fst x) (Int.toNat (Prod.fst v)) ((0 : Int), (0 : Int))),
                                    Prod.snd (List.getD (Prod.fst x) (Int.toNat (Prod.fst v)) ((0 : Int), (0 : Int))))]) *
                            (16 : Nat) ≤
                          (140737488355328 : Nat)))
                      (some
                        (Sum.inl
                          (wr IntKind.i64 (Prod.fst v + (1 : Int)),
                            (Prod.fst (Prod.fst (Prod.snd v)), Prod.snd (Prod.fst (Prod.snd v))),
                            Prod.fst (Prod.snd (Prod.snd v)) ++
                              [(Prod.fst (List.getD (Prod.fst x) (Int.toNat (Prod.fst v)) ((0 : Int), (0 : Int))),
                                  Prod.snd (List.getD (Prod.fst x) (Int.toNat (Prod.fst v)) ((0 : Int), (0 : Int))))],
                            Prod.snd (Prod.snd (Prod.snd v)))))
                      none)
                    none)
                  (cnd (decide ((0 : Int) ≤ Prod.fst v) && decide (Prod.fst v < (↑(List.length (Prod.fst x)) : Int)))
                    (cnd
                      (decide
                        (wr IntKind.i64 (Prod.snd (Prod.fst (Prod.snd v)) + (1 : Int)) <
                          Prod.fst (List.getD (Prod.fst x) (Int.toNat (Prod.fst v)) ((0 : Int), (0 : Int)))))
                      (cnd (decide ((0 : Int) ≤ Prod.fst v) && decide (Prod.fst v < (↑(List.length (Prod.fst x)) : Int)))
                        (cnd
                          (decide
                            ((List.length (Prod.snd (Prod.snd (Prod.snd v))) +
                                  List.length
                                    [(Prod.fst (List.getD (Prod.fst x) (Int.toNat (Prod.fst v)) ((0 : Int), (0 : Int))),
                                        Prod.snd
                                          (List.getD (Prod.fst x) (Int.toNat (Prod.fst v)) ((0 : Int), (0 : Int))))]) *
                                (16 : Nat) ≤
                              (140737488355328 : Nat)))
                          (some
                            (Sum.inl
                              (wr IntKind.i64 (Prod.fst v + (1 : Int)),
                                (Prod.fst (Prod.fst (Prod.snd v)), Prod.snd (Prod.fst (Prod.snd v))),
                                Prod.fst (Prod.snd (Prod.snd v)),
                                Prod.snd (Prod.snd (Prod.snd v)) ++
                                  [(Prod.fst (List.getD (Prod.fst x) (Int.toNat (Prod.fst v)) ((0 : Int), (0 : Int))),
                                      Prod.snd
                                        (List.getD (Prod.fst x) (Int.toNat (Prod.fst v)) ((0 : Int), (0 : Int))))])))
                          none)
                        none)
                      (cnd (decide ((0 : Int) ≤ Prod.fst v) && decide (Prod.fst v < (↑(List.length (Prod.fst x)) : Int)))
                        (cnd (decide ((0 : Int) ≤ Prod.fst v) && decide (Prod.fst v < (↑(List.length (Prod.fst x)) : Int)))
                          (some
                            (Sum.inl
                              (wr IntKind.i64 (Prod.fst v + (1 : Int)),
                                (min (Prod.fst (Prod.fst (Prod.snd v)))
                                    (Prod.fst (List.getD (Prod.fst x) (Int.toNat (Prod.fst v)) ((0 : Int), (0 : Int)))),
                                  max (Prod.snd (Prod.fst (Prod.snd v)))
                                    (Prod.snd (List.getD (Prod.fst x) (Int.toNat (Prod.fst v)) ((0 : Int), (0 : Int))))),
                                Prod.fst (Prod.snd (Prod.snd v)), Prod.snd (Prod.snd (Prod.snd v)))))
                          none)
                        none))
                    none))
                none)
              (some
                (Sum.inr
                  (Prod.snd (Prod.snd (Prod.snd v)), (Prod.fst (Prod.fst (Prod.snd v)), Prod.snd (Prod.fst (Prod.snd v))),
                    Prod.fst (Prod.snd (Prod.snd v))))))
          ((0 : Int), (Prod.fst (Prod.snd x), Prod.snd (Prod.snd x)), [], []))
        fun (b : List (Int × Int) × (Int × Int) × List (Int × Int)) =>
        cnd
          (decide
            ((List.length (Prod.snd (Prod.snd b)) +
                  List.length [(Prod.fst (Prod.fst (Prod.snd b)), Prod.snd (Prod.fst (Prod.snd b)))]) *
                (16 : Nat) ≤
              (140737488355328 : Nat)))
          (cnd
            (decide
              ((List.length
                      (Prod.snd (Prod.snd b) ++ [(Prod.fst (Prod.fst (Prod.snd b)), Prod.snd (Prod.fst (Prod.snd b)))]) +
                    List.length (Prod.fst b)) *
                  (16 : Nat) ≤
                (140737488355328 : Nat)))
            (some
              (Prod.snd (Prod.snd b) ++ [(Prod.fst (Prod.fst (Prod.snd b)), Prod.snd (Prod.fst (Prod.snd b)))] ++
                Prod.fst b))
            none)
          none)
theorem FV_ref1_AddSpan_eq (w_ref1_MaySpan : Int × Int → Option (Bool)) (N : Nat) (x : (List (Int × Int)) × Int × Int) : F_ref1_AddSpan w_ref1_MaySpan N x = V_ref1_AddSpan w_ref1_MaySpan N x := by kernel_rfl
noncomputable def W_ref1_AddSpan (N : Nat) (x : (List (Int × Int)) × Int × Int) : Option (List (Int × Int)) :=
  obind (W_ref1_MaySpan N (Prod.fst (Prod.snd x), Prod.snd (Prod.snd x))) fun (b : Bool) =>
    cnd (!b) (cnd (decide (List.length (Prod.fst x) * (16 : Nat) ≤ (140737488355328 : Nat))) (some (Prod.fst x)) none)
      (obind
        (loopN N
          (fun (v : Int × (Int × Int) × List (Int × Int) × List (Int × Int)) =>
            cnd (decide (Prod.fst v < (↑(List.length (Prod.fst x)) : Int)))
              (cnd (decide ((0 : Int) ≤ Prod.fst v) && decide (Prod.fst v < (↑(List.length (Prod.fst x)) : Int)))
                (cnd
                  (decide
                    (wr IntKind.i64
                        (Prod.snd (List.getD (Prod.fst x) (Int.toNat (Prod.fst v)) ((0 : Int), (0 : Int))) + (1 : Int)) <
                      Prod.fst (Prod.fst (Prod.snd v))))
                  (cnd (decide ((0 : Int) ≤ Prod.fst v) && decide (Prod.fst v < (↑(List.length (Prod.fst x)) : Int)))
                    (cnd
                      (decide
                        ((List.length (Prod.fst (Prod.snd (Prod.snd v))) +
                              List.length
                                [(Prod.fst (List.getD (Prod.fst x) (Int.toNat (Prod.fst v)) ((0 : Int), (0 : Int))),
                                    Prod.snd (List.getD (Prod.fst x) (Int.toNat (Prod.fst v)) ((0 : Int), (0 : Int))))]) *
                            (16 : Nat) ≤
                          (140737488355328 : Nat)))
                      (some
                        (Sum.inl
                          (wr IntKind.i64 (Prod.fst v + (1 : Int)),
                            (Prod.fst (Prod.fst (Prod.snd v)), Prod.snd (Prod.fst (Prod.snd v))),
                            Prod.fst (Prod.snd (Prod.snd v)) ++
                              [(Prod.fst (List.getD (Prod.fst x) (Int.toNat (Prod.fst v)) ((0 : Int), (0 : Int))),
                                  Prod.snd (List.getD (Prod.fst x) (Int.toNat (Prod.fst v)) ((0 : Int), (0 : Int))))],
                            Prod.snd (Prod.snd (Prod.snd v)))))
                      none)
                    none)
                  (cnd (decide ((0 : Int) ≤ Prod.fst v) && decide (Prod.fst v < (↑(List.length (Prod.fst x)) : Int)))
                    (cnd
                      (decide
                        (wr IntKind.i64 (Prod.snd (Prod.fst (Prod.snd v)) + (1 : Int)) <
                          Prod.fst (List.getD (Prod.fst x) (Int.toNat (Prod.fst v)) ((0 : Int), (0 : Int)))))
                      (cnd (decide ((0 : Int) ≤ Prod.fst v) && decide (Prod.fst v < (↑(List.length (Prod.fst x)) : Int)))
                        (cnd
                          (decide
                            ((List.length (Prod.snd (Prod.snd (Prod.snd v))) +
                                  List.length
                                    [(Prod.fst (List.getD (Prod.fst x) (Int.toNat (Prod.fst v)) ((0 : Int), (0 : Int))),
                                        Prod.snd
                                          (List.getD (Prod.fst x) (Int.toNat (Prod.fst v)) ((0 : Int), (0 : Int))))]) *
                                (16 : Nat) ≤
                              (140737488355328 : Nat)))
                          (some
                            (Sum.inl
                              (wr IntKind.i64 (Prod.fst v + (1 : Int)),
                                (Prod.fst (Prod.fst (Prod.snd v)), Prod.snd (Prod.fst (Prod.snd v))),
                                Prod.fst (Prod.snd (Prod.snd v)),
                                Prod.snd (Prod.snd (Prod.snd v)) ++
                                  [(Prod.fst (List.getD (Prod.fst x) (Int.toNat (Prod.fst v)) ((0 : Int), (0 : Int))),
                                      Prod.snd
                                        (List.getD (Prod.fst x) (Int.toNat (Prod.fst v)) ((0 : Int), (0 : Int))))])))
                          none)
                        none)
                      (cnd (decide ((0 : Int) ≤ Prod.fst v) && decide (Prod.fst v < (↑(List.length (Prod.fst x)) : Int)))
                        (cnd (decide ((0 : Int) ≤ Prod.fst v) && decide (Prod.fst v < (↑(List.length (Prod.fst x)) : Int)))
                          (some
                            (Sum.inl
                              (wr IntKind.i64 (Prod.fst v + (1 : Int)),
                                (min (Prod.fst (Prod.fst (Prod.snd v)))
                                    (Prod.fst (List.getD (Prod.fst x) (Int.toNat (Prod.fst v)) ((0 : Int), (0 : Int)))),
                                  max (Prod.snd (Prod.fst (Prod.snd v)))
                                    (Prod.snd (List.getD (Prod.fst x) (Int.toNat (Prod.fst v)) ((0 : Int), (0 : Int))))),
                                Prod.fst (Prod.snd (Prod.snd v)), Prod.snd (Prod.snd (Prod.snd v)))))
                          none)
                        none))
                    none))
                none)
              (some
                (Sum.inr
                  (Prod.snd (Prod.snd (Prod.snd v)), (Prod.fst (Prod.fst (Prod.snd v)), Prod.snd (Prod.fst (Prod.snd v))),
                    Prod.fst (Prod.snd (Prod.snd v))))))
          ((0 : Int), (Prod.fst (Prod.snd x), Prod.snd (Prod.snd x)), [], []))
        fun (b : List (Int × Int) × (Int × Int) × List (Int × Int)) =>
        cnd
          (decide
            ((List.length (Prod.snd (Prod.snd b)) +
                  List.length [(Prod.fst (Prod.fst (Prod.snd b)), Prod.snd (Prod.fst (Prod.snd b)))]) *
                (16 : Nat) ≤
              (140737488355328 : Nat)))
          (cnd
            (decide
              ((List.length
                      (Prod.snd (Prod.snd b) ++ [(Prod.fst (Prod.fst (Prod.snd b)), Prod.snd (Prod.fst (Prod.snd b)))]) +
                    List.length (Prod.fst b)) *
                  (16 : Nat) ≤
                (140737488355328 : Nat)))
            (some
              (Prod.snd (Prod.snd b) ++ [(Prod.fst (Prod.fst (Prod.snd b)), Prod.snd (Prod.fst (Prod.snd b)))] ++
                Prod.fst b))
            none)
          none)
theorem F_ref1_AddSpan_eq (N : Nat) (x : (List (Int × Int)) × Int × Int) : F_ref1_AddSpan (W_ref1_MaySpan N) N x = W_ref1_AddSpan N x := (FV_ref1_AddSpan_eq (W_ref1_MaySpan N) N x).trans (by kernel_rfl)
noncomputable def conw_ref1_AddSpan (w : (List (Int × Int)) × Int × Int → Option (List (Int × Int))) : Con := ⟨31, as_ref1_AddSpan, bs_ref1_AddSpan, List (Int × Int), w, out_ref1_AddSpan⟩
noncomputable def con_ref1_AddSpan (N : Nat) : Con := conw_ref1_AddSpan (W_ref1_AddSpan N)
theorem R_ref1_AddSpan_eq (x : (List (Int × Int)) × Int × Int) (y : List (Int × Int)) : retOf2 P0 Try.f31 (kpL []) (lbOf as_ref1_AddSpan bs_ref1_AddSpan x) (patS ⟨77, [], [], []⟩ pout_ref1_AddSpan y) = some (out_ref1_AddSpan y) := by kernel_rfl
theorem con_ref1_AddSpan_ok (N : Nat) : Con.ok P0 (con_ref1_AddSpan N) := ⟨⟨Try.f31, Try.func31, by kernel_rfl, by kernel_rfl⟩, fun (x : (List (Int × Int)) × Int × Int) (r : List (Int × Int)) (hr : W_ref1_AddSpan N x = some r) =>
  spec2_evT (Γ := G_ref1_AddSpan (W_ref1_MaySpan N) N) (Λ := L0) (pout := pout_ref1_AddSpan) (kp := kpL []) mixed (orcOf_ok _ (by simp only [List.mem_cons, List.not_mem_nil, or_false, forall_eq_or_imp, forall_eq]; exact con_ref1_MaySpan_ok N)) Try.func31 (c := bodyOf Try.f31) (by kernel_rfl) (by kernel_rfl) (of_decide_eq_true (by kernel_rfl)) ((F_ref1_AddSpan_eq N x).trans hr) (R_ref1_AddSpan_eq x r)⟩
def as_law3_Spans : List AS := [.val (.list (.agg (.pair (.int .u8) (.int .u8))))]
def bs_law3_Spans : List BS := []
def pout_law3_Spans : Pat := ⟨[(2, .val (.list (.agg (.pair (.int .i64) (.int .i64)))))], []⟩
noncomputable def G_law3_Spans (w_ref1_AddSpan : (List (Int × Int)) × Int × Int → Option (List (Int × Int))) (N : Nat) : OrcT := orcOf [conw_ref1_AddSpan w_ref1_AddSpan]
noncomputable def F_law3_Spans (w_ref1_AddSpan : (List (Int × Int)) × Int × Int → Option (List (Int × Int))) (N : Nat) (x : List (Int × Int)) : Option (List (Int × Int)) :=
  (evT (G_law3_Spans w_ref1_AddSpan N) L0 P0 [(3, .loop [] ⟨[(3, .val (.list (.agg (.pair (.int .i64) (.int .i64))))), (4, .val (.int .i64))], []⟩ [(.exit 0, ⟨[(3, .val (.list (.agg (.pair (.int .i64) (.int .i64)))))], []⟩)])]
    [] N 400 (bodyOf Try.f28) ⟨34, slots 0 (argsOf as_law3_Spans bs_law3_Spans x), tabU (lbOf as_law3_Spans bs_law3_Spans x) [], []⟩).elim (kRet 34 pout_law3_Spans (kpL []) (lbOf as_law3_Spans bs_law3_Spans x))
def out_law3_Spans (y : List (Int × Int)) : V × List OK × List OK := (valW (.list (.agg (.pair (.int .i64) (.int .i64)))) y, [], [])
noncomputable def V_law3_Spans (w_ref1_AddSpan : (List (Int × Int)) × Int × Int → Option (List (Int × Int))) (N : Nat) (x : List (Int × Int)) : Option (List (Int × Int)) :=
  obind
    (loopN N
      (fun (v : List (Int × Int) × Int) =>
        cnd (decide (Prod.snd v < (↑(List.length x) : Int)))
          (cnd (decide ((0 : Int) ≤ Prod.snd v) && decide (Prod.snd v < (↑(List.length x) : Int)))
            (cnd (decide ((0 : Int) ≤ Prod.snd v) && decide (Prod.snd v < (↑(List.length x) : Int)))
              (obind
                (w_ref1_AddSpan
                  (Prod.fst v,
                    wr IntKind.i64
                      ((1 : Int) +
                        wr IntKind.i64
                          (Int.tmod (Prod.fst (List.getD x (Int.toNat (Prod.snd v)) ((0 : Int), (0 : Int)))) (40 : Int))),
                    wr IntKind.i64
                      (wr IntKind.i64
                          ((1 : Int) +
                            wr IntKind.i64
                              (Int.tmod (Prod.fst (List.getD x (Int.toNat (Prod.snd v)) ((0 : Int), (0 : Int))))
                                (40 : Int))) +
                        wr IntKind.i64
                          (Int.tmod (Prod.snd (List.getD x (Int.toNat (Prod.snd v)) ((0 : Int), (0 : Int)))) (6 : Int)))))
                fun (b : List (Int × Int)) => some (Sum.inl (b, wr IntKind.i64 (Prod.snd v + (1 : Int)))))
              none)
            none)
          (some (Sum.inr (Prod.fst v))))
      ([], (0 : Int)))
    fun (b : List (Int × Int)) => some b
theorem FV_law3_Spans_eq (w_ref1_AddSpan : (List (Int × Int)) × Int × Int → Option (List (Int × Int))) (N : Nat) (x : List (Int × Int)) : F_law3_Spans w_ref1_AddSpan N x = V_law3_Spans w_ref1_AddSpan N x := by kernel_rfl
noncomputable def W_law3_Spans (N : Nat) (x : List (Int × Int)) : Option (List (Int × Int)) :=
  obind
    (loopN N
      (fun (v : List (Int × Int) × Int) =>
        cnd (decide (Prod.snd v < (↑(List.length x) : Int)))
          (cnd (decide ((0 : Int) ≤ Prod.snd v) && decide (Prod.snd v < (↑(List.length x) : Int)))
            (cnd (decide ((0 : Int) ≤ Prod.snd v) && decide (Prod.snd v < (↑(List.length x) : Int)))
              (obind
                (W_ref1_AddSpan N
                  (Prod.fst v,
                    wr IntKind.i64
                      ((1 : Int) +
                        wr IntKind.i64
                          (Int.tmod (Prod.fst (List.getD x (Int.toNat (Prod.snd v)) ((0 : Int), (0 : Int)))) (40 : Int))),
                    wr IntKind.i64
                      (wr IntKind.i64
                          ((1 : Int) +
                            wr IntKind.i64
                              (Int.tmod (Prod.fst (List.getD x (Int.toNat (Prod.snd v)) ((0 : Int), (0 : Int))))
                                (40 : Int))) +
                        wr IntKind.i64
                          (Int.tmod (Prod.snd (List.getD x (Int.toNat (Prod.snd v)) ((0 : Int), (0 : Int)))) (6 : Int)))))
                fun (b : List (Int × Int)) => some (Sum.inl (b, wr IntKind.i64 (Prod.snd v + (1 : Int)))))
              none)
            none)
          (some (Sum.inr (Prod.fst v))))
      ([], (0 : Int)))
    fun (b : List (Int × Int)) => some b
theorem F_law3_Spans_eq (N : Nat) (x : List (Int × Int)) : F_law3_Spans (W_ref1_AddSpan N) N x = W_law3_Spans N x := (FV_law3_Spans_eq (W_ref1_AddSpan N) N x).trans (by kernel_rfl)
noncomputable def conw_law3_Spans (w : List (Int × Int) → Option (List (Int × Int))) : Con := ⟨28, as_law3_Spans, bs_law3_Spans, List (Int × Int), w, out_law3_Spans⟩
noncomputable def con_law3_Spans (N : Nat) : Con := conw_law3_Spans (W_law3_Spans N)
theorem R_law3_Spans_eq (x : List (Int × Int)) (y : List (Int × Int)) : retOf2 P0 Try.f28 (kpL []) (lbOf as_law3_Spans bs_law3_Spans x) (patS ⟨34, [], [], []⟩ pout_law3_Spans y) = some (out_law3_Spans y) := by kernel_rfl
theorem con_law3_Spans_ok (N : Nat) : Con.ok P0 (con_law3_Spans N) := ⟨⟨Try.f28, Try.func28, by kernel_rfl, by kernel_rfl⟩, fun (x : List (Int × Int)) (r : List (Int × Int)) (hr : W_law3_Spans N x = some r) =>
  spec2_evT (Γ := G_law3_Spans (W_ref1_AddSpan N) N) (Λ := L0) (pout := pout_law3_Spans) (kp := kpL []) mixed (orcOf_ok _ (by simp only [List.mem_cons, List.not_mem_nil, or_false, forall_eq_or_imp, forall_eq]; exact con_ref1_AddSpan_ok N)) Try.func28 (c := bodyOf Try.f28) (by kernel_rfl) (by kernel_rfl) (of_decide_eq_true (by kernel_rfl)) ((F_law3_Spans_eq N x).trans hr) (R_law3_Spans_eq x r)⟩
def as_span_read : List AS := [.val (.agg (.pair (.int .i64) (.int .i64)))]
def bs_span_read : List BS := []
def pout_span_read : Pat := ⟨[(2, .val (.alt 82 (.agg (.pair (.int .i64) (.int .i64))) (.alt1 101 (.agg .unit))))], []⟩
noncomputable def G_span_read  (N : Nat) : OrcT := orcOf []
noncomputable def F_span_read  (N : Nat) (x : Int × Int) : Option ((Int × Int) ⊕ Unit) :=
  (evT (G_span_read  N) L0 P0 []
    [(1000001, .reg [(10, [], ⟨[(1, .ptr 600001 0), (12, .val .bool)], [(600001, .box 41 (.val (.pair (.int .i64) (.int .i64))))]⟩)])] N 400 (bodyOf Try.f60) ⟨22, slots 0 (argsOf as_span_read bs_span_read x), tabU (lbOf as_span_read bs_span_read x) [], []⟩).elim (kRet 22 pout_span_read (kpL []) (lbOf as_span_read bs_span_read x))
def out_span_read (y : (Int × Int) ⊕ Unit) : V × List OK × List OK := (valW (.alt 82 (.agg (.pair (.int .i64) (.int .i64))) (.alt1 101 (.agg .unit))) y, [], [])
noncomputable def V_span_read  (N : Nat) (x : Int × Int) : Option ((Int × Int) ⊕ Unit) :=
  obind
    (cnd (decide (Prod.fst x < (1 : Int))) (some (true, Prod.fst x, Prod.snd x))
      (some (decide (Prod.snd x < Prod.fst x), Prod.fst x, Prod.snd x)))
    fun (b : Bool × Int × Int) =>
    cnd (Prod.fst b) (some (Sum.inr ()))
      (cnd (decide ((1000000 : Int) < Prod.snd (Prod.snd b))) (some (Sum.inr ()))
        (some (Sum.inl (Prod.fst (Prod.snd b), Prod.snd (Prod.snd b)))))
theorem FV_span_read_eq  (N : Nat) (x : Int × Int) : F_span_read  N x = V_span_read  N x := by kernel_rfl
noncomputable def W_span_read (N : Nat) (x : Int × Int) : Option ((Int × Int) ⊕ Unit) :=
  obind
    (cnd (decide (Prod.fst x < (1 : Int))) (some (true, Prod.fst x, Prod.snd x))
      (some (decide (Prod.snd x < Prod.fst x), Prod.fst x, Prod.snd x)))
    fun (b : Bool × Int × Int) =>
    cnd (Prod.fst b) (some (Sum.inr ()))
      (cnd (decide ((1000000 : Int) < Prod.snd (Prod.snd b))) (some (Sum.inr ()))
        (some (Sum.inl (Prod.fst (Prod.snd b), Prod.snd (Prod.snd b)))))
theorem F_span_read_eq (N : Nat) (x : Int × Int) : F_span_read  N x = W_span_read N x := (FV_span_read_eq  N x).trans (by kernel_rfl)
noncomputable def conw_span_read (w : Int × Int → Option ((Int × Int) ⊕ Unit)) : Con := ⟨60, as_span_read, bs_span_read, (Int × Int) ⊕ Unit, w, out_span_read⟩
noncomputable def con_span_read (N : Nat) : Con := conw_span_read (W_span_read N)
theorem R_span_read_eq (x : Int × Int) (y : (Int × Int) ⊕ Unit) : retOf2 P0 Try.f60 (kpL []) (lbOf as_span_read bs_span_read x) (patS ⟨22, [], [], []⟩ pout_span_read y) = some (out_span_read y) := by kernel_rfl
theorem con_span_read_ok (N : Nat) : Con.ok P0 (con_span_read N) := ⟨⟨Try.f60, Try.func60, by kernel_rfl, by kernel_rfl⟩, fun (x : Int × Int) (r : (Int × Int) ⊕ Unit) (hr : W_span_read N x = some r) =>
  spec2_evT (Γ := G_span_read N) (Λ := L0) (pout := pout_span_read) (kp := kpL []) mixed (orcOf_ok [] (by simp)) Try.func60 (c := bodyOf Try.f60) (by kernel_rfl) (by kernel_rfl) (of_decide_eq_true (by kernel_rfl)) ((F_span_read_eq N x).trans hr) (R_span_read_eq x r)⟩
def as_slices_Clone_api_Span : List AS := [.val (.list (.agg (.pair (.int .i64) (.int .i64))))]
def bs_slices_Clone_api_Span : List BS := []
def pout_slices_Clone_api_Span : Pat := ⟨[(2, .acc 700005)], [(700005, .nrow 41 (.agg (.pair (.int .i64) (.int .i64))) false true)]⟩
noncomputable def G_slices_Clone_api_Span  (N : Nat) : OrcT := orcOf []
noncomputable def F_slices_Clone_api_Span  (N : Nat) (x : List (Int × Int)) : Option (List (Int × Int)) :=
  (evT (G_slices_Clone_api_Span  N) L0 P0 []
    [] N 400 (bodyOf Try.f61) ⟨8, slots 0 [.nl ⟨(.agg (.pair (.int .i64) (.int .i64))), x⟩], tabU (lbOf as_slices_Clone_api_Span bs_slices_Clone_api_Span x) [], []⟩).elim (kRet 8 pout_slices_Clone_api_Span (kpL []) (lbOf as_slices_Clone_api_Span bs_slices_Clone_api_Span x))
def out_slices_Clone_api_Span (y : List (Int × Int)) : V × List OK × List OK := (.acc 2000000 0, [], [.nrow 41 false true ⟨(.agg (.pair (.int .i64) (.int .i64))), y⟩])
noncomputable def V_slices_Clone_api_Span  (N : Nat) (x : List (Int × Int)) : Option (List (Int × Int)) :=
  cnd (decide (List.length x * (16 : Nat) ≤ (140737488355328 : Nat))) (some x) none
theorem FV_slices_Clone_api_Span_eq  (N : Nat) (x : List (Int × Int)) : F_slices_Clone_api_Span  N x = V_slices_Clone_api_Span  N x := by kernel_rfl
noncomputable def W_slices_Clone_api_Span (N : Nat) (x : List (Int × Int)) : Option (List (Int × Int)) :=
  cnd (decide (List.length x * (16 : Nat) ≤ (140737488355328 : Nat))) (some x) none
theorem F_slices_Clone_api_Span_eq (N : Nat) (x : List (Int × Int)) : F_slices_Clone_api_Span  N x = W_slices_Clone_api_Span N x := (FV_slices_Clone_api_Span_eq  N x).trans (by kernel_rfl)
noncomputable def conw_slices_Clone_api_Span (w : List (Int × Int) → Option (List (Int × Int))) : Con := ⟨61, as_slices_Clone_api_Span, bs_slices_Clone_api_Span, List (Int × Int), w, out_slices_Clone_api_Span⟩
noncomputable def con_slices_Clone_api_Span (N : Nat) : Con := conw_slices_Clone_api_Span (W_slices_Clone_api_Span N)
theorem R_slices_Clone_api_Span_eq (x : List (Int × Int)) (y : List (Int × Int)) : retOf2 P0 Try.f61 (kpL []) (lbOf as_slices_Clone_api_Span bs_slices_Clone_api_Span x) (patS ⟨8, [], [], []⟩ pout_slices_Clone_api_Span y) = some (out_slices_Clone_api_Span y) := by kernel_rfl
noncomputable def FA_slices_Clone_api_Span : Option (List (Int × Int)) := (evT (G_slices_Clone_api_Span 1) L0 P0 [] [] 1 400 (bodyOf Try.f61) ⟨8, slots 0 [.snil], tabU [] [], []⟩).elim (kRet 8 pout_slices_Clone_api_Span (kpL []) [])
theorem FA_slices_Clone_api_Span_eq : FA_slices_Clone_api_Span = some [] := by kernel_rfl
theorem WN_slices_Clone_api_Span (N : Nat) (r : List (Int × Int)) (h : W_slices_Clone_api_Span N [] = some r) : r = [] := by
  have e : W_slices_Clone_api_Span N [] = some [] := by kernel_rfl
  rw [e] at h; injection h with h; exact h.symm
theorem con_slices_Clone_api_Span_ok (N : Nat) : Con.ok P0 (con_slices_Clone_api_Span N) := ⟨⟨Try.f61, Try.func61, by kernel_rfl, by kernel_rfl⟩, fun (x : List (Int × Int)) (r : List (Int × Int)) (hr : W_slices_Clone_api_Span N x = some r) =>
  clone_split (e := (.agg (.pair (.int .i64) (.int .i64)))) (ty := 41) (l := x) (r := r)
    (spec2_evT (Γ := G_slices_Clone_api_Span 1) (Λ := L0) (lb := []) (pout := pout_slices_Clone_api_Span) (kp := kpL []) mixed (orcOf_ok [] (by simp)) Try.func61 (c := bodyOf Try.f61) (by kernel_rfl) (by kernel_rfl) (of_decide_eq_true (by kernel_rfl)) FA_slices_Clone_api_Span_eq (R_slices_Clone_api_Span_eq x []))
    (spec2_evT (Γ := G_slices_Clone_api_Span N) (Λ := L0) (lb := []) (pout := pout_slices_Clone_api_Span) (kp := kpL []) mixed (orcOf_ok [] (by simp)) Try.func61 (c := bodyOf Try.f61) (by kernel_rfl) (by kernel_rfl) (of_decide_eq_true (by kernel_rfl)) ((F_slices_Clone_api_Span_eq N x).trans hr) (R_slices_Clone_api_Span_eq x r))
    (fun h => by subst h; exact WN_slices_Clone_api_Span N r hr)⟩
def as_span_Add : List AS := [.val (.list (.agg (.pair (.int .i64) (.int .i64)))), .val (.agg (.pair (.int .i64) (.int .i64)))]
def bs_span_Add : List BS := []
def pout_span_Add : Pat := ⟨[(4, .val (.list (.agg (.pair (.int .i64) (.int .i64)))))], []⟩
noncomputable def G_span_Add (w_span_read : Int × Int → Option ((Int × Int) ⊕ Unit)) (w_slices_Clone_api_Span : List (Int × Int) → Option (List (Int × Int))) (N : Nat) : OrcT := orcOf [conw_span_read w_span_read, conw_slices_Clone_api_Span w_slices_Clone_api_Span]
noncomputable def F_span_Add (w_span_read : Int × Int → Option ((Int × Int) ⊕ Unit)) (w_slices_Clone_api_Span : List (Int × Int) → Option (List (Int × Int))) (N : Nat) (x : (List (Int × Int)) × Int × Int) : Option (List (Int × Int)) :=
  (evT (G_span_Add w_span_read w_slices_Clone_api_Span N) L0 P0 [(6, .loop [21] ⟨[(5, .ptr 600005 0), (7, .acc 700007), (8, .acc 700008), (23, .val (.int .i64))], [(600005, .box 82 (.val (.pair (.int .i64) (.int .i64)))), (700007, .nrow 41 (.agg (.pair (.int .i64) (.int .i64))) true true), (700008, .nrow 41 (.agg (.pair (.int .i64) (.int .i64))) true true)]⟩ [(.exit 0, ⟨[(5, .ptr 600005 0), (7, .acc 700007), (8, .val (.list (.agg (.pair (.int .i64) (.int .i64)))))], [(600005, .box 82 (.val (.pair (.int .i64) (.int .i64)))), (700007, .nrow 41 (.agg (.pair (.int .i64) (.int .i64))) true true)]⟩)])]
    [] N 400 (bodyOf Try.f30) ⟨67, slots 0 (argsOf as_span_Add bs_span_Add x), tabU (lbOf as_span_Add bs_span_Add x) [], []⟩).elim (kRet 67 pout_span_Add (kpL []) (lbOf as_span_Add bs_span_Add x))
def out_span_Add (y : List (Int × Int)) : V × List OK × List OK := (valW (.list (.agg (.pair (.int .i64) (.int .i64)))) y, [], [])
noncomputable def V_span_Add (w_span_read : Int × Int → Option ((Int × Int) ⊕ Unit)) (w_slices_Clone_api_Span : List (Int × Int) → Option (List (Int × Int))) (N : Nat) (x : (List (Int × Int)) × Int × Int) : Option (List (Int × Int)) :=
  obind (w_span_read (Prod.fst (Prod.snd x), Prod.snd (Prod.snd x))) fun (b : Int × Int ⊕ PUnit) =>
    selim
      (fun (b : Int × Int) =>
        obind
          (loopN N
            (fun (v : Int × (Int × Int) × List (Int × Int) × List (Int × Int)) =>
              cnd (decide (Prod.fst v < (↑(List.length (Prod.fst x)) : Int)))
                (cnd (decide ((0 : Int) ≤ Prod.fst v) && decide (Prod.fst v < (↑(List.length (Prod.fst x)) : Int)))
                  (cnd
                    (decide
                      (Prod.snd (List.getD (Prod.fst x) (Int.toNat (Prod.fst v)) ((0 : Int), (0 : Int))) <
                        wr IntKind.i64 (Prod.fst (Prod.fst (Prod.snd v)) - (1 : Int))))
                    (cnd
                      (decide
                        ((List.length (Prod.fst (Prod.snd (Prod.snd v))) +
                              List.length
                                [(Prod.fst (List.getD (Prod.fst x) (Int.toNat (Prod.fst v)) ((0 : Int), (0 : Int))),
                                    Prod.snd (List.getD (Prod.fst x) (Int.toNat (Prod.fst v)) ((0 : Int), (0 : Int))))]) *
                            (16 : Nat) ≤
                          (140737488355328 : Nat)))
                      (some
                        (Sum.inl
                          (wr IntKind.i64 (Prod.fst v + (1 : Int)),
                            (Prod.fst (Prod.fst (Prod.snd v)), Prod.snd (Prod.fst (Prod.snd v))),
                            Prod.fst (Prod.snd (Prod.snd v)) ++
                              [(Prod.fst (List.getD (Prod.fst x) (Int.toNat (Prod.fst v)) ((0 : Int), (0 : Int))),
                                  Prod.snd (List.getD (Prod.fst x) (Int.toNat (Prod.fst v)) ((0 : Int), (0 : Int))))],
                            Prod.snd (Prod.snd (Prod.snd v)))))
                      none)
                    (cnd
                      (decide
                        (wr IntKind.i64 (Prod.snd (Prod.fst (Prod.snd v)) + (1 : Int)) <
                          Prod.fst (List.getD (Prod.fst x) (Int.toNat (Prod.fst v)) ((0 : Int), (0 : Int)))))
                      (cnd
                        (decide
                          ((List.length (Prod.snd (Prod.snd (Prod.snd v))) +
                                List.length
                                  [(Prod.fst (List.getD (Prod.fst x) (Int.toNat (Prod.fst v)) ((0 : Int), (0 : Int))),
                                      Prod.snd
                                        (List.getD (Prod.fst x) (Int.toNat (Prod.fst v)) ((0 : Int), (0 : Int))))]) *
                              (16 : Nat) ≤
                            (140737488355328 : Nat)))
                        (some
                          (Sum.inl
                            (wr IntKind.i64 (Prod.fst v + (1 : Int)),
                              (Prod.fst (Prod.fst (Prod.snd v)), Prod.snd (Prod.fst (Prod.snd v))),
                              Prod.fst (Prod.snd (Prod.snd v)),
                              Prod.snd (Prod.snd (Prod.snd v)) ++
                                [(Prod.fst (List.getD (Prod.fst x) (Int.toNat (Prod.fst v)) ((0 : Int), (0 : Int))),
                                    Prod.snd (List.getD (Prod.fst x) (Int.toNat (Prod.fst v)) ((0 : Int), (0 : Int))))])))
                        none)
                      (some
                        (Sum.inl
                          (wr IntKind.i64 (Prod.fst v + (1 : Int)),
                            (min (Prod.fst (Prod.fst (Prod.snd v)))
                                (Prod.fst (List.getD (Prod.fst x) (Int.toNat (Prod.fst v)) ((0 : Int), (0 : Int)))),
                              max (Prod.snd (Prod.fst (Prod.snd v)))
                                (Prod.snd (List.getD (Prod.fst x) (Int.toNat (Prod.fst v)) ((0 : Int), (0 : Int))))),
                            Prod.fst (Prod.snd (Prod.snd v)), Prod.snd (Prod.snd (Prod.snd v)))))))
                  none)
                (some
                  (Sum.inr
                    (Prod.snd (Prod.snd (Prod.snd v)),
                      (Prod.fst (Prod.fst (Prod.snd v)), Prod.snd (Prod.fst (Prod.snd v))),
                      Prod.fst (Prod.snd (Prod.snd v))))))
            ((0 : Int), (Prod.fst b, Prod.snd b), [], []))
          fun (b : List (Int × Int) × (Int × Int) × List (Int × Int)) =>
          cnd
            (decide
              ((List.length (Prod.snd (Prod.snd b)) +
                    List.length [(Prod.fst (Prod.fst (Prod.snd b)), Prod.snd (Prod.fst (Prod.snd b)))]) *
                  (16 : Nat) ≤
                (140737488355328 : Nat)))
            (cnd
              (decide
                ((List.length
                        (Prod.snd (Prod.snd b) ++
                          [(Prod.fst (Prod.fst (Prod.snd b)), Prod.snd (Prod.fst (Prod.snd b)))]) +
                      List.length (Prod.fst b)) *
                    (16 : Nat) ≤
                  (140737488355328 : Nat)))
              (some
                (Prod.snd (Prod.snd b) ++ [(Prod.fst (Prod.fst (Prod.snd b)), Prod.snd (Prod.fst (Prod.snd b)))] ++
                  Prod.fst b))
              none)
            none)
      (fun (c : PUnit) => obind (w_slices_Clone_api_Span (Prod.fst x)) fun (b : List (Int × Int)) => some b) b
theorem FV_span_Add_eq (w_span_read : Int × Int → Option ((Int × Int) ⊕ Unit)) (w_slices_Clone_api_Span : List (Int × Int) → Option (List (Int × Int))) (N : Nat) (x : (List (Int × Int)) × Int × Int) : F_span_Add w_span_read w_slices_Clone_api_Span N x = V_span_Add w_span_read w_slices_Clone_api_Span N x := by kernel_rfl
noncomputable def W_span_Add (N : Nat) (x : (List (Int × Int)) × Int × Int) : Option (List (Int × Int)) :=
  obind (W_span_read N (Prod.fst (Prod.snd x), Prod.snd (Prod.snd x))) fun (b : Int × Int ⊕ PUnit) =>
    selim
      (fun (b : Int × Int) =>
        obind
          (loopN N
            (fun (v : Int × (Int × Int) × List (Int × Int) × List (Int × Int)) =>
              cnd (decide (Prod.fst v < (↑(List.length (Prod.fst x)) : Int)))
                (cnd (decide ((0 : Int) ≤ Prod.fst v) && decide (Prod.fst v < (↑(List.length (Prod.fst x)) : Int)))
                  (cnd
                    (decide
                      (Prod.snd (List.getD (Prod.fst x) (Int.toNat (Prod.fst v)) ((0 : Int), (0 : Int))) <
                        wr IntKind.i64 (Prod.fst (Prod.fst (Prod.snd v)) - (1 : Int))))
                    (cnd
                      (decide
                        ((List.length (Prod.fst (Prod.snd (Prod.snd v))) +
                              List.length
                                [(Prod.fst (List.getD (Prod.fst x) (Int.toNat (Prod.fst v)) ((0 : Int), (0 : Int))),
                                    Prod.snd (List.getD (Prod.fst x) (Int.toNat (Prod.fst v)) ((0 : Int), (0 : Int))))]) *
                            (16 : Nat) ≤
                          (140737488355328 : Nat)))
                      (some
                        (Sum.inl
                          (wr IntKind.i64 (Prod.fst v + (1 : Int)),
                            (Prod.fst (Prod.fst (Prod.snd v)), Prod.snd (Prod.fst (Prod.snd v))),
                            Prod.fst (Prod.snd (Prod.snd v)) ++
                              [(Prod.fst (List.getD (Prod.fst x) (Int.toNat (Prod.fst v)) ((0 : Int), (0 : Int))),
                                  Prod.snd (List.getD (Prod.fst x) (Int.toNat (Prod.fst v)) ((0 : Int), (0 : Int))))],
                            Prod.snd (Prod.snd (Prod.snd v)))))
                      none)
                    (cnd
                      (decide
                        (wr IntKind.i64 (Prod.snd (Prod.fst (Prod.snd v)) + (1 : Int)) <
                          Prod.fst (List.getD (Prod.fst x) (Int.toNat (Prod.fst v)) ((0 : Int), (0 : Int)))))
                      (cnd
                        (decide
                          ((List.length (Prod.snd (Prod.snd (Prod.snd v))) +
                                List.length
                                  [(Prod.fst (List.getD (Prod.fst x) (Int.toNat (Prod.fst v)) ((0 : Int), (0 : Int))),
                                      Prod.snd
                                        (List.getD (Prod.fst x) (Int.toNat (Prod.fst v)) ((0 : Int), (0 : Int))))]) *
                              (16 : Nat) ≤
                            (140737488355328 : Nat)))
                        (some
                          (Sum.inl
                            (wr IntKind.i64 (Prod.fst v + (1 : Int)),
                              (Prod.fst (Prod.fst (Prod.snd v)), Prod.snd (Prod.fst (Prod.snd v))),
                              Prod.fst (Prod.snd (Prod.snd v)),
                              Prod.snd (Prod.snd (Prod.snd v)) ++
                                [(Prod.fst (List.getD (Prod.fst x) (Int.toNat (Prod.fst v)) ((0 : Int), (0 : Int))),
                                    Prod.snd (List.getD (Prod.fst x) (Int.toNat (Prod.fst v)) ((0 : Int), (0 : Int))))])))
                        none)
                      (some
                        (Sum.inl
                          (wr IntKind.i64 (Prod.fst v + (1 : Int)),
                            (min (Prod.fst (Prod.fst (Prod.snd v)))
                                (Prod.fst (List.getD (Prod.fst x) (Int.toNat (Prod.fst v)) ((0 : Int), (0 : Int)))),
                              max (Prod.snd (Prod.fst (Prod.snd v)))
                                (Prod.snd (List.getD (Prod.fst x) (Int.toNat (Prod.fst v)) ((0 : Int), (0 : Int))))),
                            Prod.fst (Prod.snd (Prod.snd v)), Prod.snd (Prod.snd (Prod.snd v)))))))
                  none)
                (some
                  (Sum.inr
                    (Prod.snd (Prod.snd (Prod.snd v)),
                      (Prod.fst (Prod.fst (Prod.snd v)), Prod.snd (Prod.fst (Prod.snd v))),
                      Prod.fst (Prod.snd (Prod.snd v))))))
            ((0 : Int), (Prod.fst b, Prod.snd b), [], []))
          fun (b : List (Int × Int) × (Int × Int) × List (Int × Int)) =>
          cnd
            (decide
              ((List.length (Prod.snd (Prod.snd b)) +
                    List.length [(Prod.fst (Prod.fst (Prod.snd b)), Prod.snd (Prod.fst (Prod.snd b)))]) *
                  (16 : Nat) ≤
                (140737488355328 : Nat)))
            (cnd
              (decide
                ((List.length
                        (Prod.snd (Prod.snd b) ++
                          [(Prod.fst (Prod.fst (Prod.snd b)), Prod.snd (Prod.fst (Prod.snd b)))]) +
                      List.length (Prod.fst b)) *
                    (16 : Nat) ≤
                  (140737488355328 : Nat)))
              (some
                (Prod.snd (Prod.snd b) ++ [(Prod.fst (Prod.fst (Prod.snd b)), Prod.snd (Prod.fst (Prod.snd b)))] ++
                  Prod.fst b))
              none)
            none)
      (fun (c : PUnit) => obind (W_slices_Clone_api_Span N (Prod.fst x)) fun (b : List (Int × Int)) => some b) b
theorem F_span_Add_eq (N : Nat) (x : (List (Int × Int)) × Int × Int) : F_span_Add (W_span_read N) (W_slices_Clone_api_Span N) N x = W_span_Add N x := (FV_span_Add_eq (W_span_read N) (W_slices_Clone_api_Span N) N x).trans (by kernel_rfl)
noncomputable def conw_span_Add (w : (List (Int × Int)) × Int × Int → Option (List (Int × Int))) : Con := ⟨30, as_span_Add, bs_span_Add, List (Int × Int), w, out_span_Add⟩
noncomputable def con_span_Add (N : Nat) : Con := conw_span_Add (W_span_Add N)
theorem R_span_Add_eq (x : (List (Int × Int)) × Int × Int) (y : List (Int × Int)) : retOf2 P0 Try.f30 (kpL []) (lbOf as_span_Add bs_span_Add x) (patS ⟨67, [], [], []⟩ pout_span_Add y) = some (out_span_Add y) := by kernel_rfl
theorem con_span_Add_ok (N : Nat) : Con.ok P0 (con_span_Add N) := ⟨⟨Try.f30, Try.func30, by kernel_rfl, by kernel_rfl⟩, fun (x : (List (Int × Int)) × Int × Int) (r : List (Int × Int)) (hr : W_span_Add N x = some r) =>
  spec2_evT (Γ := G_span_Add (W_span_read N) (W_slices_Clone_api_Span N) N) (Λ := L0) (pout := pout_span_Add) (kp := kpL []) mixed (orcOf_ok _ (by simp only [List.mem_cons, List.not_mem_nil, or_false, forall_eq_or_imp, forall_eq]; exact ⟨con_span_read_ok N, con_slices_Clone_api_Span_ok N⟩)) Try.func30 (c := bodyOf Try.f30) (by kernel_rfl) (by kernel_rfl) (of_decide_eq_true (by kernel_rfl)) ((F_span_Add_eq N x).trans hr) (R_span_Add_eq x r)⟩
def as_ref1_SameSpans : List AS := [.val (.list (.agg (.pair (.int .i64) (.int .i64)))), .val (.list (.agg (.pair (.int .i64) (.int .i64))))]
def bs_ref1_SameSpans : List BS := []
def pout_ref1_SameSpans : Pat := ⟨[(4, .val .bool)], []⟩
noncomputable def G_ref1_SameSpans  (N : Nat) : OrcT := orcOf []
noncomputable def F_ref1_SameSpans  (N : Nat) (x : (List (Int × Int)) × List (Int × Int)) : Option (Bool) :=
  (evT (G_ref1_SameSpans  N) L0 P0 [(4, .loop [] ⟨[(5, .val (.int .i64))], []⟩ [(.exit 0, ⟨[], []⟩), (.ret, ⟨[(4, .val .bool)], []⟩)])]
    [] N 400 (bodyOf Try.f29) ⟨26, slots 0 (argsOf as_ref1_SameSpans bs_ref1_SameSpans x), tabU (lbOf as_ref1_SameSpans bs_ref1_SameSpans x) [], []⟩).elim (kRet 26 pout_ref1_SameSpans (kpL []) (lbOf as_ref1_SameSpans bs_ref1_SameSpans x))
def out_ref1_SameSpans (y : Bool) : V × List OK × List OK := (valW .bool y, [], [])
noncomputable def V_ref1_SameSpans  (N : Nat) (x : (List (Int × Int)) × List (Int × Int)) : Option (Bool) :=
  cnd (decide ((↑(List.length (Prod.fst x)) : Int) ≠ (↑(List.length (Prod.snd x)) : Int))) (some false)
    (obind
      (loopN N
        (fun (v : Int) =>
          cnd (decide (v < (↑(List.length (Prod.fst x)) : Int)))
            (cnd (decide ((0 : Int) ≤ v) && decide (v < (↑(List.length (Prod.fst x)) : Int)))
              (cnd (decide ((0 : Int) ≤ v) && decide (v < (↑(List.length (Prod.snd x)) : Int)))
                (cnd
                  (!(decide
                        (Prod.fst (List.getD (Prod.fst x) (Int.toNat v) ((0 : Int), (0 : Int))) =
                          Prod.fst (List.getD (Prod.snd x) (Int.toNat v) ((0 : Int), (0 : Int)))) &&
                      decide
                        (Prod.snd (List.getD (Prod.fst x) (Int.toNat v) ((0 : Int), (0 : Int))) =
                          Prod.snd (List.getD (Prod.snd x) (Int.toNat v) ((0 : Int), (0 : Int))))))
                  (some (Sum.inr (Sum.inr false))) (some (Sum.inl (wr IntKind.i64 (v + (1 : Int))))))
                none)
              none)
            (some (Sum.inr (Sum.inl ()))))
        (Int.ofNat (0 : Nat)))
      fun (b : PUnit ⊕ Bool) => selim (fun (b : PUnit) => some true) (fun (c : Bool) => some c) b)
theorem FV_ref1_SameSpans_eq  (N : Nat) (x : (List (Int × Int)) × List (Int × Int)) : F_ref1_SameSpans  N x = V_ref1_SameSpans  N x := by kernel_rfl
noncomputable def W_ref1_SameSpans (N : Nat) (x : (List (Int × Int)) × List (Int × Int)) : Option (Bool) :=
  cnd (decide ((↑(List.length (Prod.fst x)) : Int) ≠ (↑(List.length (Prod.snd x)) : Int))) (some false)
    (obind
      (loopN N
        (fun (v : Int) =>
          cnd (decide (v < (↑(List.length (Prod.fst x)) : Int)))
            (cnd (decide ((0 : Int) ≤ v) && decide (v < (↑(List.length (Prod.fst x)) : Int)))
              (cnd (decide ((0 : Int) ≤ v) && decide (v < (↑(List.length (Prod.snd x)) : Int)))
                (cnd
                  (!(decide
                        (Prod.fst (List.getD (Prod.fst x) (Int.toNat v) ((0 : Int), (0 : Int))) =
                          Prod.fst (List.getD (Prod.snd x) (Int.toNat v) ((0 : Int), (0 : Int)))) &&
                      decide
                        (Prod.snd (List.getD (Prod.fst x) (Int.toNat v) ((0 : Int), (0 : Int))) =
                          Prod.snd (List.getD (Prod.snd x) (Int.toNat v) ((0 : Int), (0 : Int))))))
                  (some (Sum.inr (Sum.inr false))) (some (Sum.inl (wr IntKind.i64 (v + (1 : Int))))))
                none)
              none)
            (some (Sum.inr (Sum.inl ()))))
        (Int.ofNat (0 : Nat)))
      fun (b : PUnit ⊕ Bool) => selim (fun (b : PUnit) => some true) (fun (c : Bool) => some c) b)
theorem F_ref1_SameSpans_eq (N : Nat) (x : (List (Int × Int)) × List (Int × Int)) : F_ref1_SameSpans  N x = W_ref1_SameSpans N x := (FV_ref1_SameSpans_eq  N x).trans (by kernel_rfl)
noncomputable def conw_ref1_SameSpans (w : (List (Int × Int)) × List (Int × Int) → Option (Bool)) : Con := ⟨29, as_ref1_SameSpans, bs_ref1_SameSpans, Bool, w, out_ref1_SameSpans⟩
noncomputable def con_ref1_SameSpans (N : Nat) : Con := conw_ref1_SameSpans (W_ref1_SameSpans N)
theorem R_ref1_SameSpans_eq (x : (List (Int × Int)) × List (Int × Int)) (y : Bool) : retOf2 P0 Try.f29 (kpL []) (lbOf as_ref1_SameSpans bs_ref1_SameSpans x) (patS ⟨26, [], [], []⟩ pout_ref1_SameSpans y) = some (out_ref1_SameSpans y) := by kernel_rfl
theorem con_ref1_SameSpans_ok (N : Nat) : Con.ok P0 (con_ref1_SameSpans N) := ⟨⟨Try.f29, Try.func29, by kernel_rfl, by kernel_rfl⟩, fun (x : (List (Int × Int)) × List (Int × Int)) (r : Bool) (hr : W_ref1_SameSpans N x = some r) =>
  spec2_evT (Γ := G_ref1_SameSpans N) (Λ := L0) (pout := pout_ref1_SameSpans) (kp := kpL []) mixed (orcOf_ok [] (by simp)) Try.func29 (c := bodyOf Try.f29) (by kernel_rfl) (by kernel_rfl) (of_decide_eq_true (by kernel_rfl)) ((F_ref1_SameSpans_eq N x).trans hr) (R_ref1_SameSpans_eq x r)⟩
def as_span_Lacks : List AS := [.val (.list (.agg (.pair (.int .i64) (.int .i64)))), .val (.agg (.pair (.int .i64) (.int .i64)))]
def bs_span_Lacks : List BS := []
def pout_span_Lacks : Pat := ⟨[(4, .val (.list (.agg (.pair (.int .i64) (.int .i64)))))], []⟩
noncomputable def G_span_Lacks (w_span_read : Int × Int → Option ((Int × Int) ⊕ Unit)) (N : Nat) : OrcT := orcOf [conw_span_read w_span_read]
noncomputable def F_span_Lacks (w_span_read : Int × Int → Option ((Int × Int) ⊕ Unit)) (N : Nat) (x : (List (Int × Int)) × Int × Int) : Option (List (Int × Int)) :=
  (evT (G_span_Lacks w_span_read N) L0 P0 [(6, .loop [18] ⟨[(5, .ptr 600005 0), (7, .acc 700007), (20, .val (.int .i64))], [(600005, .box 82 (.val (.pair (.int .i64) (.int .i64)))), (700007, .nrow 41 (.agg (.pair (.int .i64) (.int .i64))) true true)]⟩ [(.exit 0, ⟨[(5, .ptr 600005 0), (7, .acc 700007)], [(600005, .box 82 (.val (.pair (.int .i64) (.int .i64)))), (700007, .nrow 41 (.agg (.pair (.int .i64) (.int .i64))) true true)]⟩)])]
    [(11, .cut [18] [(.normal, ⟨[(5, .ptr 600005 0), (7, .acc 700007), (9, .ptr 600009 0)], [(600005, .box 82 (.val (.pair (.int .i64) (.int .i64)))), (700007, .nrow 41 (.agg (.pair (.int .i64) (.int .i64))) true true), (600009, .box 41 (.val (.pair (.int .i64) (.int .i64))))]⟩)])] N 400 (bodyOf Try.f33) ⟨61, slots 0 (argsOf as_span_Lacks bs_span_Lacks x), tabU (lbOf as_span_Lacks bs_span_Lacks x) [], []⟩).elim (kRet 61 pout_span_Lacks (kpL []) (lbOf as_span_Lacks bs_span_Lacks x))
def out_span_Lacks (y : List (Int × Int)) : V × List OK × List OK := (valW (.list (.agg (.pair (.int .i64) (.int .i64)))) y, [], [])
noncomputable def V_span_Lacks (w_span_read : Int × Int → Option ((Int × Int) ⊕ Unit)) (N : Nat) (x : (List (Int × Int)) × Int × Int) : Option (List (Int × Int)) :=
  obind (w_span_read (Prod.fst (Prod.snd x), Prod.snd (Prod.snd x))) fun (b : Int × Int ⊕ PUnit) =>
    selim
      (fun (b : Int × Int) =>
        obind
          (loopN N
            (fun (v : Int × (Int × Int) × List (Int × Int)) =>
              cnd (decide (Prod.fst v < (↑(List.length (Prod.fst x)) : Int)))
                (cnd (decide ((0 : Int) ≤ Prod.fst v) && decide (Prod.fst v < (↑(List.length (Prod.fst x)) : Int)))
                  (cnd
                    (decide
                      (Prod.snd (Prod.fst (Prod.snd v)) <
                        Prod.fst (List.getD (Prod.fst x) (Int.toNat (Prod.fst v)) ((0 : Int), (0 : Int)))))
                    (some
                      (Sum.inr
                        ((Prod.fst (Prod.fst (Prod.snd v)), Prod.snd (Prod.fst (Prod.snd v))), Prod.snd (Prod.snd v))))
                    (obind
                      (cnd
                        (decide
                          (Prod.fst (Prod.fst (Prod.snd v)) <
                            Prod.fst (List.getD (Prod.fst x) (Int.toNat (Prod.fst v)) ((0 : Int), (0 : Int)))))
                        (cnd
                          (decide
                            ((List.length (Prod.snd (Prod.snd v)) +
                                  List.length
                                    [(Prod.fst (Prod.fst (Prod.snd v)),
                                        wr IntKind.i64
                                          (Prod.fst
                                              (List.getD (Prod.fst x) (Int.toNat (Prod.fst v)) ((0 : Int), (0 : Int))) -
                                            (1 : Int)))]) *
                                (16 : Nat) ≤
                              (140737488355328 : Nat)))
                          (some
                            ((Prod.fst (Prod.fst (Prod.snd v)), Prod.snd (Prod.fst (Prod.snd v))),
                              Prod.snd (Prod.snd v) ++
                                [(Prod.fst (Prod.fst (Prod.snd v)),
                                    wr IntKind.i64
                                      (Prod.fst (List.getD (Prod.fst x) (Int.toNat (Prod.fst v)) ((0 : Int), (0 : Int))) -
                                        (1 : Int)))],
                              Prod.fst (List.getD (Prod.fst x) (Int.toNat (Prod.fst v)) ((0 : Int), (0 : Int))),
                              Prod.snd (List.getD (Prod.fst x) (Int.toNat (Prod.fst v)) ((0 : Int), (0 : Int)))))
                          none)
                        (some
                          ((Prod.fst (Prod.fst (Prod.snd v)), Prod.snd (Prod.fst (Prod.snd v))), Prod.snd (Prod.snd v),
                            Prod.fst (List.getD (Prod.fst x) (Int.toNat (Prod.fst v)) ((0 : Int), (0 : Int))),
                            Prod.snd (List.getD (Prod.fst x) (Int.toNat (Prod.fst v)) ((0 : Int), (0 : Int))))))
                      fun (b : (Int × Int) × List (Int × Int) × Int × Int) =>
                      some
                        (Sum.inl
                          (wr IntKind.i64 (Prod.fst v + (1 : Int)),
                            (max (Prod.fst (Prod.fst b)) (wr IntKind.i64 (Prod.snd (Prod.snd (Prod.snd b)) + (1 : Int))),
                              Prod.snd (Prod.fst b)),
                            Prod.fst (Prod.snd b)))))
                  none)
                (some
                  (Sum.inr
                    ((Prod.fst (Prod.fst (Prod.snd v)), Prod.snd (Prod.fst (Prod.snd v))), Prod.snd (Prod.snd v)))))
            ((0 : Int), (Prod.fst b, Prod.snd b), []))
          fun (b : (Int × Int) × List (Int × Int)) =>
          cnd (decide (Prod.fst (Prod.fst b) ≤ Prod.snd (Prod.fst b)))
            (cnd
              (decide
                ((List.length (Prod.snd b) + List.length [(Prod.fst (Prod.fst b), Prod.snd (Prod.fst b))]) * (16 : Nat) ≤
                  (140737488355328 : Nat)))
              (some (Prod.snd b ++ [(Prod.fst (Prod.fst b), Prod.snd (Prod.fst b))])) none)
            (some (Prod.snd b)))
      (fun (c : PUnit) => some []) b
theorem FV_span_Lacks_eq (w_span_read : Int × Int → Option ((Int × Int) ⊕ Unit)) (N : Nat) (x : (List (Int × Int)) × Int × Int) : F_span_Lacks w_span_read N x = V_span_Lacks w_span_read N x := by kernel_rfl
noncomputable def W_span_Lacks (N : Nat) (x : (List (Int × Int)) × Int × Int) : Option (List (Int × Int)) :=
  obind (W_span_read N (Prod.fst (Prod.snd x), Prod.snd (Prod.snd x))) fun (b : Int × Int ⊕ PUnit) =>
    selim
      (fun (b : Int × Int) =>
        obind
          (loopN N
            (fun (v : Int × (Int × Int) × List (Int × Int)) =>
              cnd (decide (Prod.fst v < (↑(List.length (Prod.fst x)) : Int)))
                (cnd (decide ((0 : Int) ≤ Prod.fst v) && decide (Prod.fst v < (↑(List.length (Prod.fst x)) : Int)))
                  (cnd
                    (decide
                      (Prod.snd (Prod.fst (Prod.snd v)) <
                        Prod.fst (List.getD (Prod.fst x) (Int.toNat (Prod.fst v)) ((0 : Int), (0 : Int)))))
                    (some
                      (Sum.inr
                        ((Prod.fst (Prod.fst (Prod.snd v)), Prod.snd (Prod.fst (Prod.snd v))), Prod.snd (Prod.snd v))))
                    (obind
                      (cnd
                        (decide
                          (Prod.fst (Prod.fst (Prod.snd v)) <
                            Prod.fst (List.getD (Prod.fst x) (Int.toNat (Prod.fst v)) ((0 : Int), (0 : Int)))))
                        (cnd
                          (decide
                            ((List.length (Prod.snd (Prod.snd v)) +
                                  List.length
                                    [(Prod.fst (Prod.fst (Prod.snd v)),
                                        wr IntKind.i64
                                          (Prod.fst
                                              (List.getD (Prod.fst x) (Int.toNat (Prod.fst v)) ((0 : Int), (0 : Int))) -
                                            (1 : Int)))]) *
                                (16 : Nat) ≤
                              (140737488355328 : Nat)))
                          (some
                            ((Prod.fst (Prod.fst (Prod.snd v)), Prod.snd (Prod.fst (Prod.snd v))),
                              Prod.snd (Prod.snd v) ++
                                [(Prod.fst (Prod.fst (Prod.snd v)),
                                    wr IntKind.i64
                                      (Prod.fst (List.getD (Prod.fst x) (Int.toNat (Prod.fst v)) ((0 : Int), (0 : Int))) -
                                        (1 : Int)))],
                              Prod.fst (List.getD (Prod.fst x) (Int.toNat (Prod.fst v)) ((0 : Int), (0 : Int))),
                              Prod.snd (List.getD (Prod.fst x) (Int.toNat (Prod.fst v)) ((0 : Int), (0 : Int)))))
                          none)
                        (some
                          ((Prod.fst (Prod.fst (Prod.snd v)), Prod.snd (Prod.fst (Prod.snd v))), Prod.snd (Prod.snd v),
                            Prod.fst (List.getD (Prod.fst x) (Int.toNat (Prod.fst v)) ((0 : Int), (0 : Int))),
                            Prod.snd (List.getD (Prod.fst x) (Int.toNat (Prod.fst v)) ((0 : Int), (0 : Int))))))
                      fun (b : (Int × Int) × List (Int × Int) × Int × Int) =>
                      some
                        (Sum.inl
                          (wr IntKind.i64 (Prod.fst v + (1 : Int)),
                            (max (Prod.fst (Prod.fst b)) (wr IntKind.i64 (Prod.snd (Prod.snd (Prod.snd b)) + (1 : Int))),
                              Prod.snd (Prod.fst b)),
                            Prod.fst (Prod.snd b)))))
                  none)
                (some
                  (Sum.inr
                    ((Prod.fst (Prod.fst (Prod.snd v)), Prod.snd (Prod.fst (Prod.snd v))), Prod.snd (Prod.snd v)))))
            ((0 : Int), (Prod.fst b, Prod.snd b), []))
          fun (b : (Int × Int) × List (Int × Int)) =>
          cnd (decide (Prod.fst (Prod.fst b) ≤ Prod.snd (Prod.fst b)))
            (cnd
              (decide
                ((List.length (Prod.snd b) + List.length [(Prod.fst (Prod.fst b), Prod.snd (Prod.fst b))]) * (16 : Nat) ≤
                  (140737488355328 : Nat)))
              (some (Prod.snd b ++ [(Prod.fst (Prod.fst b), Prod.snd (Prod.fst b))])) none)
            (some (Prod.snd b)))
      (fun (c : PUnit) => some []) b
theorem F_span_Lacks_eq (N : Nat) (x : (List (Int × Int)) × Int × Int) : F_span_Lacks (W_span_read N) N x = W_span_Lacks N x := (FV_span_Lacks_eq (W_span_read N) N x).trans (by kernel_rfl)
noncomputable def conw_span_Lacks (w : (List (Int × Int)) × Int × Int → Option (List (Int × Int))) : Con := ⟨33, as_span_Lacks, bs_span_Lacks, List (Int × Int), w, out_span_Lacks⟩
noncomputable def con_span_Lacks (N : Nat) : Con := conw_span_Lacks (W_span_Lacks N)
theorem R_span_Lacks_eq (x : (List (Int × Int)) × Int × Int) (y : List (Int × Int)) : retOf2 P0 Try.f33 (kpL []) (lbOf as_span_Lacks bs_span_Lacks x) (patS ⟨61, [], [], []⟩ pout_span_Lacks y) = some (out_span_Lacks y) := by kernel_rfl
theorem con_span_Lacks_ok (N : Nat) : Con.ok P0 (con_span_Lacks N) := ⟨⟨Try.f33, Try.func33, by kernel_rfl, by kernel_rfl⟩, fun (x : (List (Int × Int)) × Int × Int) (r : List (Int × Int)) (hr : W_span_Lacks N x = some r) =>
  spec2_evT (Γ := G_span_Lacks (W_span_read N) N) (Λ := L0) (pout := pout_span_Lacks) (kp := kpL []) mixed (orcOf_ok _ (by simp only [List.mem_cons, List.not_mem_nil, or_false, forall_eq_or_imp, forall_eq]; exact con_span_read_ok N)) Try.func33 (c := bodyOf Try.f33) (by kernel_rfl) (by kernel_rfl) (of_decide_eq_true (by kernel_rfl)) ((F_span_Lacks_eq N x).trans hr) (R_span_Lacks_eq x r)⟩
def as_ref1_Lacks : List AS := [.val (.list (.agg (.pair (.int .i64) (.int .i64)))), .val (.agg (.pair (.int .i64) (.int .i64)))]
def bs_ref1_Lacks : List BS := []
def pout_ref1_Lacks : Pat := ⟨[(4, .val (.list (.agg (.pair (.int .i64) (.int .i64)))))], []⟩
noncomputable def G_ref1_Lacks  (N : Nat) : OrcT := orcOf []
noncomputable def F_ref1_Lacks  (N : Nat) (x : (List (Int × Int)) × Int × Int) : Option (List (Int × Int)) :=
  (evT (G_ref1_Lacks  N) L0 P0 [(3, .loop [] ⟨[(3, .ptr 600003 0), (5, .acc 700005), (6, .val (.int .i64))], [(600003, .box 41 (.val (.pair (.int .i64) (.int .i64)))), (700005, .nrow 41 (.agg (.pair (.int .i64) (.int .i64))) true true)]⟩ [(.exit 0, ⟨[(3, .ptr 600003 0), (5, .acc 700005)], [(600003, .box 41 (.val (.pair (.int .i64) (.int .i64)))), (700005, .nrow 41 (.agg (.pair (.int .i64) (.int .i64))) true true)]⟩)])]
    [(8, .cut [] [(.normal, ⟨[(3, .ptr 600003 0), (5, .acc 700005)], [(600003, .box 41 (.val (.pair (.int .i64) (.int .i64)))), (700005, .nrow 41 (.agg (.pair (.int .i64) (.int .i64))) true true)]⟩)])] N 400 (bodyOf Try.f34) ⟨75, slots 0 (argsOf as_ref1_Lacks bs_ref1_Lacks x), tabU (lbOf as_ref1_Lacks bs_ref1_Lacks x) [], []⟩).elim (kRet 75 pout_ref1_Lacks (kpL []) (lbOf as_ref1_Lacks bs_ref1_Lacks x))
def out_ref1_Lacks (y : List (Int × Int)) : V × List OK × List OK := (valW (.list (.agg (.pair (.int .i64) (.int .i64)))) y, [], [])
noncomputable def V_ref1_Lacks  (N : Nat) (x : (List (Int × Int)) × Int × Int) : Option (List (Int × Int)) :=
  obind
    (loopN N
      (fun (v : Int × (Int × Int) × List (Int × Int)) =>
        cnd (decide (Prod.fst v < (↑(List.length (Prod.fst x)) : Int)))
          (cnd (decide (Prod.fst (Prod.fst (Prod.snd v)) ≤ Prod.snd (Prod.fst (Prod.snd v))))
            (cnd (decide ((0 : Int) ≤ Prod.fst v) && decide (Prod.fst v < (↑(List.length (Prod.fst x)) : Int)))
              (cnd
                (decide
                  (Prod.snd (List.getD (Prod.fst x) (Int.toNat (Prod.fst v)) ((0 : Int), (0 : Int))) <
                    Prod.fst (Prod.fst (Prod.snd v))))
                (some
                  (Sum.inl
                    (wr IntKind.i64 (Prod.fst v + (1 : Int)),
                      (Prod.fst (Prod.fst (Prod.snd v)), Prod.snd (Prod.fst (Prod.snd v))), Prod.snd (Prod.snd v))))
                (cnd (decide ((0 : Int) ≤ Prod.fst v) && decide (Prod.fst v < (↑(List.length (Prod.fst x)) : Int)))
                  (cnd
                    (decide
                      (Prod.snd (Prod.fst (Prod.snd v)) <
                        Prod.fst (List.getD (Prod.fst x) (Int.toNat (Prod.fst v)) ((0 : Int), (0 : Int)))))
                    (some
                      (Sum.inl
                        (wr IntKind.i64 (Prod.fst v + (1 : Int)),
                          (Prod.fst (Prod.fst (Prod.snd v)), Prod.snd (Prod.fst (Prod.snd v))), Prod.snd (Prod.snd v))))
                    (obind
                      (cnd (decide ((0 : Int) ≤ Prod.fst v) && decide (Prod.fst v < (↑(List.length (Prod.fst x)) : Int)))
                        (cnd
                          (decide
                            (Prod.fst (Prod.fst (Prod.snd v)) <
                              Prod.fst (List.getD (Prod.fst x) (Int.toNat (Prod.fst v)) ((0 : Int), (0 : Int)))))
                          (cnd (decide ((0 : Int) ≤ Prod.fst v) && decide (Prod.fst v < (↑(List.length (Prod.fst x)) : Int)))
                            (cnd
                              (decide
                                ((List.length (Prod.snd (Prod.snd v)) +
                                      List.length
                                        [(Prod.fst (Prod.fst (Prod.snd v)),
                                            wr IntKind.i64
                                              (Prod.fst
                                                  (List.getD (Prod.fst x) (Int.toNat (Prod.fst v))
                                                    ((0 : Int), (0 : Int))) -
                                                (1 : Int)))]) *
                                    (16 : Nat) ≤
                                  (140737488355328 : Nat)))
                              (some
                                ((Prod.fst (Prod.fst (Prod.snd v)), Prod.snd (Prod.fst (Prod.snd v))),
                                  Prod.snd (Prod.snd v) ++
                                    [(Prod.fst (Prod.fst (Prod.snd v)),
                                        wr IntKind.i64
                                          (Prod.fst
                                              (List.getD (Prod.fst x) (Int.toNat (Prod.fst v)) ((0 : Int), (0 : Int))) -
                                            (1 : Int)))]))
                              none)
                            none)
                          (some
                            ((Prod.fst (Prod.fst (Prod.snd v)), Prod.snd (Prod.fst (Prod.snd v))),
                              Prod.snd (Prod.snd v))))
                        none)
                      fun (b : (Int × Int) × List (Int × Int)) =>
                      cnd (decide ((0 : Int) ≤ Prod.fst v) && decide (Prod.fst v < (↑(List.length (Prod.fst x)) : Int)))
                        (some
                          (Sum.inl
                            (wr IntKind.i64 (Prod.fst v + (1 : Int)),
                              (wr IntKind.i64
                                  (Prod.snd (List.getD (Prod.fst x) (Int.toNat (Prod.fst v)) ((0 : Int), (0 : Int))) +
                                    (1 : Int)),
                                Prod.snd (Prod.fst b)),
                              Prod.snd b)))
                        none))
                  none))
              none)
            (some
              (Sum.inr ((Prod.fst (Prod.fst (Prod.snd v)), Prod.snd (Prod.fst (Prod.snd v))), Prod.snd (Prod.snd v)))))
          (some (Sum.inr ((Prod.fst (Prod.fst (Prod.snd v)), Prod.snd (Prod.fst (Prod.snd v))), Prod.snd (Prod.snd v)))))
      ((0 : Int), (Prod.fst (Prod.snd x), Prod.snd (Prod.snd x)), []))
    fun (b : (Int × Int) × List (Int × Int)) =>
    cnd (decide (Prod.fst (Prod.fst b) ≤ Prod.snd (Prod.fst b)))
      (cnd
        (decide
          ((List.length (Prod.snd b) + List.length [(Prod.fst (Prod.fst b), Prod.snd (Prod.fst b))]) * (16 : Nat) ≤
            (140737488355328 : Nat)))
        (some (Prod.snd b ++ [(Prod.fst (Prod.fst b), Prod.snd (Prod.fst b))])) none)
      (some (Prod.snd b))
theorem FV_ref1_Lacks_eq  (N : Nat) (x : (List (Int × Int)) × Int × Int) : F_ref1_Lacks  N x = V_ref1_Lacks  N x := by kernel_rfl
noncomputable def W_ref1_Lacks (N : Nat) (x : (List (Int × Int)) × Int × Int) : Option (List (Int × Int)) :=
  obind
    (loopN N
      (fun (v : Int × (Int × Int) × List (Int × Int)) =>
        cnd (decide (Prod.fst v < (↑(List.length (Prod.fst x)) : Int)))
          (cnd (decide (Prod.fst (Prod.fst (Prod.snd v)) ≤ Prod.snd (Prod.fst (Prod.snd v))))
            (cnd (decide ((0 : Int) ≤ Prod.fst v) && decide (Prod.fst v < (↑(List.length (Prod.fst x)) : Int)))
              (cnd
                (decide
                  (Prod.snd (List.getD (Prod.fst x) (Int.toNat (Prod.fst v)) ((0 : Int), (0 : Int))) <
                    Prod.fst (Prod.fst (Prod.snd v))))
                (some
                  (Sum.inl
                    (wr IntKind.i64 (Prod.fst v + (1 : Int)),
                      (Prod.fst (Prod.fst (Prod.snd v)), Prod.snd (Prod.fst (Prod.snd v))), Prod.snd (Prod.snd v))))
                (cnd (decide ((0 : Int) ≤ Prod.fst v) && decide (Prod.fst v < (↑(List.length (Prod.fst x)) : Int)))
                  (cnd
                    (decide
                      (Prod.snd (Prod.fst (Prod.snd v)) <
                        Prod.fst (List.getD (Prod.fst x) (Int.toNat (Prod.fst v)) ((0 : Int), (0 : Int)))))
                    (some
                      (Sum.inl
                        (wr IntKind.i64 (Prod.fst v + (1 : Int)),
                          (Prod.fst (Prod.fst (Prod.snd v)), Prod.snd (Prod.fst (Prod.snd v))), Prod.snd (Prod.snd v))))
                    (obind
                      (cnd (decide ((0 : Int) ≤ Prod.fst v) && decide (Prod.fst v < (↑(List.length (Prod.fst x)) : Int)))
                        (cnd
                          (decide
                            (Prod.fst (Prod.fst (Prod.snd v)) <
                              Prod.fst (List.getD (Prod.fst x) (Int.toNat (Prod.fst v)) ((0 : Int), (0 : Int)))))
                          (cnd (decide ((0 : Int) ≤ Prod.fst v) && decide (Prod.fst v < (↑(List.length (Prod.fst x)) : Int)))
                            (cnd
                              (decide
                                ((List.length (Prod.snd (Prod.snd v)) +
                                      List.length
                                        [(Prod.fst (Prod.fst (Prod.snd v)),
                                            wr IntKind.i64
                                              (Prod.fst
                                                  (List.getD (Prod.fst x) (Int.toNat (Prod.fst v))
                                                    ((0 : Int), (0 : Int))) -
                                                (1 : Int)))]) *
                                    (16 : Nat) ≤
                                  (140737488355328 : Nat)))
                              (some
                                ((Prod.fst (Prod.fst (Prod.snd v)), Prod.snd (Prod.fst (Prod.snd v))),
                                  Prod.snd (Prod.snd v) ++
                                    [(Prod.fst (Prod.fst (Prod.snd v)),
                                        wr IntKind.i64
                                          (Prod.fst
                                              (List.getD (Prod.fst x) (Int.toNat (Prod.fst v)) ((0 : Int), (0 : Int))) -
                                            (1 : Int)))]))
                              none)
                            none)
                          (some
                            ((Prod.fst (Prod.fst (Prod.snd v)), Prod.snd (Prod.fst (Prod.snd v))),
                              Prod.snd (Prod.snd v))))
                        none)
                      fun (b : (Int × Int) × List (Int × Int)) =>
                      cnd (decide ((0 : Int) ≤ Prod.fst v) && decide (Prod.fst v < (↑(List.length (Prod.fst x)) : Int)))
                        (some
                          (Sum.inl
                            (wr IntKind.i64 (Prod.fst v + (1 : Int)),
                              (wr IntKind.i64
                                  (Prod.snd (List.getD (Prod.fst x) (Int.toNat (Prod.fst v)) ((0 : Int), (0 : Int))) +
                                    (1 : Int)),
                                Prod.snd (Prod.fst b)),
                              Prod.snd b)))
                        none))
                  none))
              none)
            (some
              (Sum.inr ((Prod.fst (Prod.fst (Prod.snd v)), Prod.snd (Prod.fst (Prod.snd v))), Prod.snd (Prod.snd v)))))
          (some (Sum.inr ((Prod.fst (Prod.fst (Prod.snd v)), Prod.snd (Prod.fst (Prod.snd v))), Prod.snd (Prod.snd v)))))
      ((0 : Int), (Prod.fst (Prod.snd x), Prod.snd (Prod.snd x)), []))
    fun (b : (Int × Int) × List (Int × Int)) =>
    cnd (decide (Prod.fst (Prod.fst b) ≤ Prod.snd (Prod.fst b)))
      (cnd
        (decide
          ((List.length (Prod.snd b) + List.length [(Prod.fst (Prod.fst b), Prod.snd (Prod.fst b))]) * (16 : Nat) ≤
            (140737488355328 : Nat)))
        (some (Prod.snd b ++ [(Prod.fst (Prod.fst b), Prod.snd (Prod.fst b))])) none)
      (some (Prod.snd b))
theorem F_ref1_Lacks_eq (N : Nat) (x : (List (Int × Int)) × Int × Int) : F_ref1_Lacks  N x = W_ref1_Lacks N x := (FV_ref1_Lacks_eq  N x).trans (by kernel_rfl)
noncomputable def conw_ref1_Lacks (w : (List (Int × Int)) × Int × Int → Option (List (Int × Int))) : Con := ⟨34, as_ref1_Lacks, bs_ref1_Lacks, List (Int × Int), w, out_ref1_Lacks⟩
noncomputable def con_ref1_Lacks (N : Nat) : Con := conw_ref1_Lacks (W_ref1_Lacks N)
theorem R_ref1_Lacks_eq (x : (List (Int × Int)) × Int × Int) (y : List (Int × Int)) : retOf2 P0 Try.f34 (kpL []) (lbOf as_ref1_Lacks bs_ref1_Lacks x) (patS ⟨75, [], [], []⟩ pout_ref1_Lacks y) = some (out_ref1_Lacks y) := by kernel_rfl
theorem con_ref1_Lacks_ok (N : Nat) : Con.ok P0 (con_ref1_Lacks N) := ⟨⟨Try.f34, Try.func34, by kernel_rfl, by kernel_rfl⟩, fun (x : (List (Int × Int)) × Int × Int) (r : List (Int × Int)) (hr : W_ref1_Lacks N x = some r) =>
  spec2_evT (Γ := G_ref1_Lacks N) (Λ := L0) (pout := pout_ref1_Lacks) (kp := kpL []) mixed (orcOf_ok [] (by simp)) Try.func34 (c := bodyOf Try.f34) (by kernel_rfl) (by kernel_rfl) (of_decide_eq_true (by kernel_rfl)) ((F_ref1_Lacks_eq N x).trans hr) (R_ref1_Lacks_eq x r)⟩
def as_span_Has_1 : List AS := [.val (.agg (.pair (.int .i64) (.int .i64))), .ptr 0 0]
def bs_span_Has_1 : List BS := [.box 3 (.int .i64)]
def pout_span_Has_1 : Pat := ⟨[(1, .ptr 1000000 0), (3, .val .bool)], [(1000000, .box 3 (.val (.int .i64)))]⟩
noncomputable def G_span_Has_1  (N : Nat) : OrcT := orcOf []
noncomputable def F_span_Has_1  (N : Nat) (x : (Int × Int) × Int) : Option (Bool × Int) :=
  (evT (G_span_Has_1  N) L0 P0 []
    [] N 400 (bodyOf Try.f63) ⟨14, slots 0 (argsOf as_span_Has_1 bs_span_Has_1 x), tabU (lbOf as_span_Has_1 bs_span_Has_1 x) [], []⟩).elim (kRet 14 pout_span_Has_1 (kpL [true]) (lbOf as_span_Has_1 bs_span_Has_1 x))
def out_span_Has_1 (y : Bool × Int) : V × List OK × List OK := (valW .bool y.1, [.box 3 (cellsW (.int .i64) y.2)], [])
noncomputable def V_span_Has_1  (N : Nat) (x : (Int × Int) × Int) : Option (Bool × Int) :=
  cnd (decide (Prod.fst (Prod.fst x) ≤ Prod.snd x)) (some (decide (Prod.snd x ≤ Prod.snd (Prod.fst x)), Prod.snd x))
    (some (false, Prod.snd x))
theorem FV_span_Has_1_eq  (N : Nat) (x : (Int × Int) × Int) : F_span_Has_1  N x = V_span_Has_1  N x := by kernel_rfl
noncomputable def W_span_Has_1 (N : Nat) (x : (Int × Int) × Int) : Option (Bool × Int) :=
  cnd (decide (Prod.fst (Prod.fst x) ≤ Prod.snd x)) (some (decide (Prod.snd x ≤ Prod.snd (Prod.fst x)), Prod.snd x))
    (some (false, Prod.snd x))
theorem F_span_Has_1_eq (N : Nat) (x : (Int × Int) × Int) : F_span_Has_1  N x = W_span_Has_1 N x := (FV_span_Has_1_eq  N x).trans (by kernel_rfl)
noncomputable def conw_span_Has_1 (w : (Int × Int) × Int → Option (Bool × Int)) : Con := ⟨63, as_span_Has_1, bs_span_Has_1, Bool × Int, w, out_span_Has_1⟩
noncomputable def con_span_Has_1 (N : Nat) : Con := conw_span_Has_1 (W_span_Has_1 N)
theorem R_span_Has_1_eq (x : (Int × Int) × Int) (y : Bool × Int) : retOf2 P0 Try.f63 (kpL [true]) (lbOf as_span_Has_1 bs_span_Has_1 x) (patS ⟨14, [], [], []⟩ pout_span_Has_1 y) = some (out_span_Has_1 y) := by kernel_rfl
theorem con_span_Has_1_ok (N : Nat) : Con.ok P0 (con_span_Has_1 N) := ⟨⟨Try.f63, Try.func63, by kernel_rfl, by kernel_rfl⟩, fun (x : (Int × Int) × Int) (r : Bool × Int) (hr : W_span_Has_1 N x = some r) =>
  spec2_evT (Γ := G_span_Has_1 N) (Λ := L0) (pout := pout_span_Has_1) (kp := kpL [true]) mixed (orcOf_ok [] (by simp)) Try.func63 (c := bodyOf Try.f63) (by kernel_rfl) (by kernel_rfl) (of_decide_eq_true (by kernel_rfl)) ((F_span_Has_1_eq N x).trans hr) (R_span_Has_1_eq x r)⟩
def as_slices_IndexFunc_api_Span__span_Has_1 : List AS := [.val (.list (.agg (.pair (.int .i64) (.int .i64)))), .fn 63 [0]]
def bs_slices_IndexFunc_api_Span__span_Has_1 : List BS := [.box 3 (.int .i64)]
def pout_slices_IndexFunc_api_Span__span_Has_1 : Pat := ⟨[(1, .fn 63 [1000000]), (4, .val (.int .i64))], [(1000000, .box 3 (.val (.int .i64)))]⟩
noncomputable def G_slices_IndexFunc_api_Span__span_Has_1 (w_span_Has_1 : (Int × Int) × Int → Option (Bool × Int)) (N : Nat) : OrcT := orcOf [conw_span_Has_1 w_span_Has_1]
noncomputable def F_slices_IndexFunc_api_Span__span_Has_1 (w_span_Has_1 : (Int × Int) × Int → Option (Bool × Int)) (N : Nat) (x : (List (Int × Int)) × Int) : Option (Int × Int) :=
  (evT (G_slices_IndexFunc_api_Span__span_Has_1 w_span_Has_1 N) L0 P0 [(2, .loop [] ⟨[(1, .fn 63 [1000000]), (8, .val (.int .i64))], [(1000000, .box 3 (.val (.int .i64)))]⟩ [(.exit 0, ⟨[(1, .fn 63 [1000000])], [(1000000, .box 3 (.val (.int .i64)))]⟩), (.ret, ⟨[(1, .fn 63 [1000000]), (4, .val (.int .i64))], [(1000000, .box 3 (.val (.int .i64)))]⟩)])]
    [] N 400 (bodyOf Try.f75) ⟨19, slots 0 (argsOf as_slices_IndexFunc_api_Span__span_Has_1 bs_slices_IndexFunc_api_Span__span_Has_1 x), tabU (lbOf as_slices_IndexFunc_api_Span__span_Has_1 bs_slices_IndexFunc_api_Span__span_Has_1 x) [], []⟩).elim (kRet 19 pout_slices_IndexFunc_api_Span__span_Has_1 (kpL [true]) (lbOf as_slices_IndexFunc_api_Span__span_Has_1 bs_slices_IndexFunc_api_Span__span_Has_1 x))
def out_slices_IndexFunc_api_Span__span_Has_1 (y : Int × Int) : V × List OK × List OK := (valW (.int .i64) y.1, [.box 3 (cellsW (.int .i64) y.2)], [])
noncomputable def V_slices_IndexFunc_api_Span__span_Has_1 (w_span_Has_1 : (Int × Int) × Int → Option (Bool × Int)) (N : Nat) (x : (List (Int × Int)) × Int) : Option (Int × Int) :=
  obind
    (loopN N
      (fun (v : Int × Int) =>
        cnd (decide (Prod.fst v < (↑(List.length (Prod.fst x)) : Int)))
          (cnd (decide ((0 : Int) ≤ Prod.fst v) && decide (Prod.fst v < (↑(List.length (Prod.fst x)) : Int)))
            (obind
              (w_span_Has_1
                ((Prod.fst (List.getD (Prod.fst x) (Int.toNat (Prod.fst v)) ((0 : Int), (0 : Int))),
                    Prod.snd (List.getD (Prod.fst x) (Int.toNat (Prod.fst v)) ((0 : Int), (0 : Int)))),
                  Prod.snd v))
              fun (b : Bool × Int) =>
              cnd (Prod.fst b) (some (Sum.inr (Sum.inr (Prod.fst v, Prod.snd b))))
                (some (Sum.inl (wr IntKind.i64 (Prod.fst v + (1 : Int)), Prod.snd b))))
            none)
          (some (Sum.inr (Sum.inl (Prod.snd v)))))
      ((0 : Int), Prod.snd x))
    fun (b : Int ⊕ Int × Int) =>
    selim (fun (b : Int) => some ((-1 : Int), b)) (fun (c : Int × Int) => some (Prod.fst c, Prod.snd c)) b
theorem FV_slices_IndexFunc_api_Span__span_Has_1_eq (w_span_Has_1 : (Int × Int) × Int → Option (Bool × Int)) (N : Nat) (x : (List (Int × Int)) × Int) : F_slices_IndexFunc_api_Span__span_Has_1 w_span_Has_1 N x = V_slices_IndexFunc_api_Span__span_Has_1 w_span_Has_1 N x := by kernel_rfl
noncomputable def W_slices_IndexFunc_api_Span__span_Has_1 (N : Nat) (x : (List (Int × Int)) × Int) : Option (Int × Int) :=
  obind
    (loopN N
      (fun (v : Int × Int) =>
        cnd (decide (Prod.fst v < (↑(List.length (Prod.fst x)) : Int)))
          (cnd (decide ((0 : Int) ≤ Prod.fst v) && decide (Prod.fst v < (↑(List.length (Prod.fst x)) : Int)))
            (obind
              (W_span_Has_1 N
                ((Prod.fst (List.getD (Prod.fst x) (Int.toNat (Prod.fst v)) ((0 : Int), (0 : Int))),
                    Prod.snd (List.getD (Prod.fst x) (Int.toNat (Prod.fst v)) ((0 : Int), (0 : Int)))),
                  Prod.snd v))
              fun (b : Bool × Int) =>
              cnd (Prod.fst b) (some (Sum.inr (Sum.inr (Prod.fst v, Prod.snd b))))
                (some (Sum.inl (wr IntKind.i64 (Prod.fst v + (1 : Int)), Prod.snd b))))
            none)
          (some (Sum.inr (Sum.inl (Prod.snd v)))))
      ((0 : Int), Prod.snd x))
    fun (b : Int ⊕ Int × Int) =>
    selim (fun (b : Int) => some ((-1 : Int), b)) (fun (c : Int × Int) => some (Prod.fst c, Prod.snd c)) b
theorem F_slices_IndexFunc_api_Span__span_Has_1_eq (N : Nat) (x : (List (Int × Int)) × Int) : F_slices_IndexFunc_api_Span__span_Has_1 (W_span_Has_1 N) N x = W_slices_IndexFunc_api_Span__span_Has_1 N x := (FV_slices_IndexFunc_api_Span__span_Has_1_eq (W_span_Has_1 N) N x).trans (by kernel_rfl)
noncomputable def conw_slices_IndexFunc_api_Span__span_Has_1 (w : (List (Int × Int)) × Int → Option (Int × Int)) : Con := ⟨75, as_slices_IndexFunc_api_Span__span_Has_1, bs_slices_IndexFunc_api_Span__span_Has_1, Int × Int, w, out_slices_IndexFunc_api_Span__span_Has_1⟩
noncomputable def con_slices_IndexFunc_api_Span__span_Has_1 (N : Nat) : Con := conw_slices_IndexFunc_api_Span__span_Has_1 (W_slices_IndexFunc_api_Span__span_Has_1 N)
theorem R_slices_IndexFunc_api_Span__span_Has_1_eq (x : (List (Int × Int)) × Int) (y : Int × Int) : retOf2 P0 Try.f75 (kpL [true]) (lbOf as_slices_IndexFunc_api_Span__span_Has_1 bs_slices_IndexFunc_api_Span__span_Has_1 x) (patS ⟨19, [], [], []⟩ pout_slices_IndexFunc_api_Span__span_Has_1 y) = some (out_slices_IndexFunc_api_Span__span_Has_1 y) := by kernel_rfl
theorem con_slices_IndexFunc_api_Span__span_Has_1_ok (N : Nat) : Con.ok P0 (con_slices_IndexFunc_api_Span__span_Has_1 N) := ⟨⟨Try.f75, Try.func75, by kernel_rfl, by kernel_rfl⟩, fun (x : (List (Int × Int)) × Int) (r : Int × Int) (hr : W_slices_IndexFunc_api_Span__span_Has_1 N x = some r) =>
  spec2_evT (Γ := G_slices_IndexFunc_api_Span__span_Has_1 (W_span_Has_1 N) N) (Λ := L0) (pout := pout_slices_IndexFunc_api_Span__span_Has_1) (kp := kpL [true]) mixed (orcOf_ok _ (by simp only [List.mem_cons, List.not_mem_nil, or_false, forall_eq_or_imp, forall_eq]; exact con_span_Has_1_ok N)) Try.func75 (c := bodyOf Try.f75) (by kernel_rfl) (by kernel_rfl) (of_decide_eq_true (by kernel_rfl)) ((F_slices_IndexFunc_api_Span__span_Has_1_eq N x).trans hr) (R_slices_IndexFunc_api_Span__span_Has_1_eq x r)⟩
def as_slices_ContainsFunc_api_Span__span_Has_1 : List AS := [.val (.list (.agg (.pair (.int .i64) (.int .i64)))), .fn 63 [0]]
def bs_slices_ContainsFunc_api_Span__span_Has_1 : List BS := [.box 3 (.int .i64)]
def pout_slices_ContainsFunc_api_Span__span_Has_1 : Pat := ⟨[(1, .fn 63 [1000000]), (4, .val .bool)], [(1000000, .box 3 (.val (.int .i64)))]⟩
noncomputable def G_slices_ContainsFunc_api_Span__span_Has_1 (w_slices_IndexFunc_api_Span__span_Has_1 : (List (Int × Int)) × Int → Option (Int × Int)) (N : Nat) : OrcT := orcOf [conw_slices_IndexFunc_api_Span__span_Has_1 w_slices_IndexFunc_api_Span__span_Has_1]
noncomputable def F_slices_ContainsFunc_api_Span__span_Has_1 (w_slices_IndexFunc_api_Span__span_Has_1 : (List (Int × Int)) × Int → Option (Int × Int)) (N : Nat) (x : (List (Int × Int)) × Int) : Option (Bool × Int) :=
  (evT (G_slices_ContainsFunc_api_Span__span_Has_1 w_slices_IndexFunc_api_Span__span_Has_1 N) L0 P0 []
    [] N 400 (bodyOf Try.f62) ⟨9, slots 0 (argsOf as_slices_ContainsFunc_api_Span__span_Has_1 bs_slices_ContainsFunc_api_Span__span_Has_1 x), tabU (lbOf as_slices_ContainsFunc_api_Span__span_Has_1 bs_slices_ContainsFunc_api_Span__span_Has_1 x) [], []⟩).elim (kRet 9 pout_slices_ContainsFunc_api_Span__span_Has_1 (kpL [true]) (lbOf as_slices_ContainsFunc_api_Span__span_Has_1 bs_slices_ContainsFunc_api_Span__span_Has_1 x))
def out_slices_ContainsFunc_api_Span__span_Has_1 (y : Bool × Int) : V × List OK × List OK := (valW .bool y.1, [.box 3 (cellsW (.int .i64) y.2)], [])
noncomputable def V_slices_ContainsFunc_api_Span__span_Has_1 (w_slices_IndexFunc_api_Span__span_Has_1 : (List (Int × Int)) × Int → Option (Int × Int)) (N : Nat) (x : (List (Int × Int)) × Int) : Option (Bool × Int) :=
  obind (w_slices_IndexFunc_api_Span__span_Has_1 (Prod.fst x, Prod.snd x)) fun (b : Int × Int) =>
    some (decide ((0 : Int) ≤ Prod.fst b), Prod.snd b)
theorem FV_slices_ContainsFunc_api_Span__span_Has_1_eq (w_slices_IndexFunc_api_Span__span_Has_1 : (List (Int × Int)) × Int → Option (Int × Int)) (N : Nat) (x : (List (Int × Int)) × Int) : F_slices_ContainsFunc_api_Span__span_Has_1 w_slices_IndexFunc_api_Span__span_Has_1 N x = V_slices_ContainsFunc_api_Span__span_Has_1 w_slices_IndexFunc_api_Span__span_Has_1 N x := by kernel_rfl
noncomputable def W_slices_ContainsFunc_api_Span__span_Has_1 (N : Nat) (x : (List (Int × Int)) × Int) : Option (Bool × Int) :=
  obind (W_slices_IndexFunc_api_Span__span_Has_1 N (Prod.fst x, Prod.snd x)) fun (b : Int × Int) =>
    some (decide ((0 : Int) ≤ Prod.fst b), Prod.snd b)
theorem F_slices_ContainsFunc_api_Span__span_Has_1_eq (N : Nat) (x : (List (Int × Int)) × Int) : F_slices_ContainsFunc_api_Span__span_Has_1 (W_slices_IndexFunc_api_Span__span_Has_1 N) N x = W_slices_ContainsFunc_api_Span__span_Has_1 N x := (FV_slices_ContainsFunc_api_Span__span_Has_1_eq (W_slices_IndexFunc_api_Span__span_Has_1 N) N x).trans (by kernel_rfl)
noncomputable def conw_slices_ContainsFunc_api_Span__span_Has_1 (w : (List (Int × Int)) × Int → Option (Bool × Int)) : Con := ⟨62, as_slices_ContainsFunc_api_Span__span_Has_1, bs_slices_ContainsFunc_api_Span__span_Has_1, Bool × Int, w, out_slices_ContainsFunc_api_Span__span_Has_1⟩
noncomputable def con_slices_ContainsFunc_api_Span__span_Has_1 (N : Nat) : Con := conw_slices_ContainsFunc_api_Span__span_Has_1 (W_slices_ContainsFunc_api_Span__span_Has_1 N)
theorem R_slices_ContainsFunc_api_Span__span_Has_1_eq (x : (List (Int × Int)) × Int) (y : Bool × Int) : retOf2 P0 Try.f62 (kpL [true]) (lbOf as_slices_ContainsFunc_api_Span__span_Has_1 bs_slices_ContainsFunc_api_Span__span_Has_1 x) (patS ⟨9, [], [], []⟩ pout_slices_ContainsFunc_api_Span__span_Has_1 y) = some (out_slices_ContainsFunc_api_Span__span_Has_1 y) := by kernel_rfl
theorem con_slices_ContainsFunc_api_Span__span_Has_1_ok (N : Nat) : Con.ok P0 (con_slices_ContainsFunc_api_Span__span_Has_1 N) := ⟨⟨Try.f62, Try.func62, by kernel_rfl, by kernel_rfl⟩, fun (x : (List (Int × Int)) × Int) (r : Bool × Int) (hr : W_slices_ContainsFunc_api_Span__span_Has_1 N x = some r) =>
  spec2_evT (Γ := G_slices_ContainsFunc_api_Span__span_Has_1 (W_slices_IndexFunc_api_Span__span_Has_1 N) N) (Λ := L0) (pout := pout_slices_ContainsFunc_api_Span__span_Has_1) (kp := kpL [true]) mixed (orcOf_ok _ (by simp only [List.mem_cons, List.not_mem_nil, or_false, forall_eq_or_imp, forall_eq]; exact con_slices_IndexFunc_api_Span__span_Has_1_ok N)) Try.func62 (c := bodyOf Try.f62) (by kernel_rfl) (by kernel_rfl) (of_decide_eq_true (by kernel_rfl)) ((F_slices_ContainsFunc_api_Span__span_Has_1_eq N x).trans hr) (R_slices_ContainsFunc_api_Span__span_Has_1_eq x r)⟩
def as_span_Has : List AS := [.val (.list (.agg (.pair (.int .i64) (.int .i64)))), .val (.int .i64)]
def bs_span_Has : List BS := []
def pout_span_Has : Pat := ⟨[(4, .val .bool)], []⟩
noncomputable def G_span_Has (w_slices_ContainsFunc_api_Span__span_Has_1 : (List (Int × Int)) × Int → Option (Bool × Int)) (N : Nat) : OrcT := orcOf [conw_slices_ContainsFunc_api_Span__span_Has_1 w_slices_ContainsFunc_api_Span__span_Has_1]
noncomputable def F_span_Has (w_slices_ContainsFunc_api_Span__span_Has_1 : (List (Int × Int)) × Int → Option (Bool × Int)) (N : Nat) (x : (List (Int × Int)) × Int) : Option (Bool) :=
  (evT (G_span_Has w_slices_ContainsFunc_api_Span__span_Has_1 N) L0 P0 []
    [] N 400 (bodyOf Try.f35) ⟨8, slots 0 (argsOf as_span_Has bs_span_Has x), tabU (lbOf as_span_Has bs_span_Has x) [], []⟩).elim (kRet 8 pout_span_Has (kpL []) (lbOf as_span_Has bs_span_Has x))
def out_span_Has (y : Bool) : V × List OK × List OK := (valW .bool y, [], [])
noncomputable def V_span_Has (w_slices_ContainsFunc_api_Span__span_Has_1 : (List (Int × Int)) × Int → Option (Bool × Int)) (N : Nat) (x : (List (Int × Int)) × Int) : Option (Bool) :=
  obind (w_slices_ContainsFunc_api_Span__span_Has_1 (Prod.fst x, Prod.snd x)) fun (b : Bool × Int) => some (Prod.fst b)
theorem FV_span_Has_eq (w_slices_ContainsFunc_api_Span__span_Has_1 : (List (Int × Int)) × Int → Option (Bool × Int)) (N : Nat) (x : (List (Int × Int)) × Int) : F_span_Has w_slices_ContainsFunc_api_Span__span_Has_1 N x = V_span_Has w_slices_ContainsFunc_api_Span__span_Has_1 N x := by kernel_rfl
noncomputable def W_span_Has (N : Nat) (x : (List (Int × Int)) × Int) : Option (Bool) :=
  obind (W_slices_ContainsFunc_api_Span__span_Has_1 N (Prod.fst x, Prod.snd x)) fun (b : Bool × Int) => some (Prod.fst b)
theorem F_span_Has_eq (N : Nat) (x : (List (Int × Int)) × Int) : F_span_Has (W_slices_ContainsFunc_api_Span__span_Has_1 N) N x = W_span_Has N x := (FV_span_Has_eq (W_slices_ContainsFunc_api_Span__span_Has_1 N) N x).trans (by kernel_rfl)
noncomputable def conw_span_Has (w : (List (Int × Int)) × Int → Option (Bool)) : Con := ⟨35, as_span_Has, bs_span_Has, Bool, w, out_span_Has⟩
noncomputable def con_span_Has (N : Nat) : Con := conw_span_Has (W_span_Has N)
theorem R_span_Has_eq (x : (List (Int × Int)) × Int) (y : Bool) : retOf2 P0 Try.f35 (kpL []) (lbOf as_span_Has bs_span_Has x) (patS ⟨8, [], [], []⟩ pout_span_Has y) = some (out_span_Has y) := by kernel_rfl
theorem con_span_Has_ok (N : Nat) : Con.ok P0 (con_span_Has N) := ⟨⟨Try.f35, Try.func35, by kernel_rfl, by kernel_rfl⟩, fun (x : (List (Int × Int)) × Int) (r : Bool) (hr : W_span_Has N x = some r) =>
  spec2_evT (Γ := G_span_Has (W_slices_ContainsFunc_api_Span__span_Has_1 N) N) (Λ := L0) (pout := pout_span_Has) (kp := kpL []) mixed (orcOf_ok _ (by simp only [List.mem_cons, List.not_mem_nil, or_false, forall_eq_or_imp, forall_eq]; exact con_slices_ContainsFunc_api_Span__span_Has_1_ok N)) Try.func35 (c := bodyOf Try.f35) (by kernel_rfl) (by kernel_rfl) (of_decide_eq_true (by kernel_rfl)) ((F_span_Has_eq N x).trans hr) (R_span_Has_eq x r)⟩
def as_ref1_HasSpan : List AS := [.val (.list (.agg (.pair (.int .i64) (.int .i64)))), .val (.int .i64)]
def bs_ref1_HasSpan : List BS := []
def pout_ref1_HasSpan : Pat := ⟨[(4, .val .bool)], []⟩
noncomputable def G_ref1_HasSpan  (N : Nat) : OrcT := orcOf []
noncomputable def F_ref1_HasSpan  (N : Nat) (x : (List (Int × Int)) × Int) : Option (Bool) :=
  (evT (G_ref1_HasSpan  N) L0 P0 [(2, .loop [] ⟨[(5, .val (.int .i64))], []⟩ [(.exit 0, ⟨[], []⟩), (.ret, ⟨[(4, .val .bool)], []⟩)])]
    [] N 400 (bodyOf Try.f36) ⟨28, slots 0 (argsOf as_ref1_HasSpan bs_ref1_HasSpan x), tabU (lbOf as_ref1_HasSpan bs_ref1_HasSpan x) [], []⟩).elim (kRet 28 pout_ref1_HasSpan (kpL []) (lbOf as_ref1_HasSpan bs_ref1_HasSpan x))
def out_ref1_HasSpan (y : Bool) : V × List OK × List OK := (valW .bool y, [], [])
noncomputable def V_ref1_HasSpan  (N : Nat) (x : (List (Int × Int)) × Int) : Option (Bool) :=
  obind
    (loopN N
      (fun (v : Int) =>
        cnd (decide (v < (↑(List.length (Prod.fst x)) : Int)))
          (cnd (decide ((0 : Int) ≤ v) && decide (v < (↑(List.length (Prod.fst x)) : Int)))
            (cnd (decide (Prod.fst (List.getD (Prod.fst x) (Int.toNat v) ((0 : Int), (0 : Int))) ≤ Prod.snd x))
              (cnd (decide ((0 : Int) ≤ v) && decide (v < (↑(List.length (Prod.fst x)) : Int)))
                (cnd (decide (Prod.snd x ≤ Prod.snd (List.getD (Prod.fst x) (Int.toNat v) ((0 : Int), (0 : Int)))))
                  (some (Sum.inr (Sum.inr true))) (some (Sum.inl (wr IntKind.i64 (v + (1 : Int))))))
                none)
              (some (Sum.inl (wr IntKind.i64 (v + (1 : Int))))))
            none)
          (some (Sum.inr (Sum.inl ()))))
      (Int.ofNat (0 : Nat)))
    fun (b : PUnit ⊕ Bool) => selim (fun (b : PUnit) => some false) (fun (c : Bool) => some c) b
theorem FV_ref1_HasSpan_eq  (N : Nat) (x : (List (Int × Int)) × Int) : F_ref1_HasSpan  N x = V_ref1_HasSpan  N x := by kernel_rfl
noncomputable def W_ref1_HasSpan (N : Nat) (x : (List (Int × Int)) × Int) : Option (Bool) :=
  obind
    (loopN N
      (fun (v : Int) =>
        cnd (decide (v < (↑(List.length (Prod.fst x)) : Int)))
          (cnd (decide ((0 : Int) ≤ v) && decide (v < (↑(List.length (Prod.fst x)) : Int)))
            (cnd (decide (Prod.fst (List.getD (Prod.fst x) (Int.toNat v) ((0 : Int), (0 : Int))) ≤ Prod.snd x))
              (cnd (decide ((0 : Int) ≤ v) && decide (v < (↑(List.length (Prod.fst x)) : Int)))
                (cnd (decide (Prod.snd x ≤ Prod.snd (List.getD (Prod.fst x) (Int.toNat v) ((0 : Int), (0 : Int)))))
                  (some (Sum.inr (Sum.inr true))) (some (Sum.inl (wr IntKind.i64 (v + (1 : Int))))))
                none)
              (some (Sum.inl (wr IntKind.i64 (v + (1 : Int))))))
            none)
          (some (Sum.inr (Sum.inl ()))))
      (Int.ofNat (0 : Nat)))
    fun (b : PUnit ⊕ Bool) => selim (fun (b : PUnit) => some false) (fun (c : Bool) => some c) b
theorem F_ref1_HasSpan_eq (N : Nat) (x : (List (Int × Int)) × Int) : F_ref1_HasSpan  N x = W_ref1_HasSpan N x := (FV_ref1_HasSpan_eq  N x).trans (by kernel_rfl)
noncomputable def conw_ref1_HasSpan (w : (List (Int × Int)) × Int → Option (Bool)) : Con := ⟨36, as_ref1_HasSpan, bs_ref1_HasSpan, Bool, w, out_ref1_HasSpan⟩
noncomputable def con_ref1_HasSpan (N : Nat) : Con := conw_ref1_HasSpan (W_ref1_HasSpan N)
theorem R_ref1_HasSpan_eq (x : (List (Int × Int)) × Int) (y : Bool) : retOf2 P0 Try.f36 (kpL []) (lbOf as_ref1_HasSpan bs_ref1_HasSpan x) (patS ⟨28, [], [], []⟩ pout_ref1_HasSpan y) = some (out_ref1_HasSpan y) := by kernel_rfl
theorem con_ref1_HasSpan_ok (N : Nat) : Con.ok P0 (con_ref1_HasSpan N) := ⟨⟨Try.f36, Try.func36, by kernel_rfl, by kernel_rfl⟩, fun (x : (List (Int × Int)) × Int) (r : Bool) (hr : W_ref1_HasSpan N x = some r) =>
  spec2_evT (Γ := G_ref1_HasSpan N) (Λ := L0) (pout := pout_ref1_HasSpan) (kp := kpL []) mixed (orcOf_ok [] (by simp)) Try.func36 (c := bodyOf Try.f36) (by kernel_rfl) (by kernel_rfl) (of_decide_eq_true (by kernel_rfl)) ((F_ref1_HasSpan_eq N x).trans hr) (R_ref1_HasSpan_eq x r)⟩
def as_span_Count : List AS := [.val (.list (.agg (.pair (.int .i64) (.int .i64))))]
def bs_span_Count : List BS := []
def pout_span_Count : Pat := ⟨[(2, .val (.int .i64))], []⟩
noncomputable def G_span_Count  (N : Nat) : OrcT := orcOf []
noncomputable def F_span_Count  (N : Nat) (x : List (Int × Int)) : Option (Int) :=
  (evT (G_span_Count  N) L0 P0 [(3, .loop [6] ⟨[(3, .val (.int .i64)), (8, .val (.int .i64))], []⟩ [(.exit 0, ⟨[(3, .val (.int .i64))], []⟩)])]
    [] N 400 (bodyOf Try.f37) ⟨22, slots 0 (argsOf as_span_Count bs_span_Count x), tabU (lbOf as_span_Count bs_span_Count x) [], []⟩).elim (kRet 22 pout_span_Count (kpL []) (lbOf as_span_Count bs_span_Count x))
def out_span_Count (y : Int) : V × List OK × List OK := (valW (.int .i64) y, [], [])
noncomputable def V_span_Count  (N : Nat) (x : List (Int × Int)) : Option (Int) :=
  obind
    (loopN N
      (fun (v : Int × Int) =>
        cnd (decide (Prod.snd v < (↑(List.length x) : Int)))
          (cnd (decide ((0 : Int) ≤ Prod.snd v) && decide (Prod.snd v < (↑(List.length x) : Int)))
            (some
              (Sum.inl
                (wr IntKind.i64
                    (Prod.fst v +
                      wr IntKind.i64
                        (wr IntKind.i64
                            (Prod.snd (List.getD x (Int.toNat (Prod.snd v)) ((0 : Int), (0 : Int))) -
                              Prod.fst (List.getD x (Int.toNat (Prod.snd v)) ((0 : Int), (0 : Int)))) +
                          (1 : Int))),
                  wr IntKind.i64 (Prod.snd v + (1 : Int)))))
            none)
          (some (Sum.inr (Prod.fst v))))
      ((0 : Int), (0 : Int)))
    fun (b : Int) => some b
theorem FV_span_Count_eq  (N : Nat) (x : List (Int × Int)) : F_span_Count  N x = V_span_Count  N x := by kernel_rfl
noncomputable def W_span_Count (N : Nat) (x : List (Int × Int)) : Option (Int) :=
  obind
    (loopN N
      (fun (v : Int × Int) =>
        cnd (decide (Prod.snd v < (↑(List.length x) : Int)))
          (cnd (decide ((0 : Int) ≤ Prod.snd v) && decide (Prod.snd v < (↑(List.length x) : Int)))
            (some
              (Sum.inl
                (wr IntKind.i64
                    (Prod.fst v +
                      wr IntKind.i64
                        (wr IntKind.i64
                            (Prod.snd (List.getD x (Int.toNat (Prod.snd v)) ((0 : Int), (0 : Int))) -
                              Prod.fst (List.getD x (Int.toNat (Prod.snd v)) ((0 : Int), (0 : Int)))) +
                          (1 : Int))),
                  wr IntKind.i64 (Prod.snd v + (1 : Int)))))
            none)
          (some (Sum.inr (Prod.fst v))))
      ((0 : Int), (0 : Int)))
    fun (b : Int) => some b
theorem F_span_Count_eq (N : Nat) (x : List (Int × Int)) : F_span_Count  N x = W_span_Count N x := (FV_span_Count_eq  N x).trans (by kernel_rfl)
noncomputable def conw_span_Count (w : List (Int × Int) → Option (Int)) : Con := ⟨37, as_span_Count, bs_span_Count, Int, w, out_span_Count⟩
noncomputable def con_span_Count (N : Nat) : Con := conw_span_Count (W_span_Count N)
theorem R_span_Count_eq (x : List (Int × Int)) (y : Int) : retOf2 P0 Try.f37 (kpL []) (lbOf as_span_Count bs_span_Count x) (patS ⟨22, [], [], []⟩ pout_span_Count y) = some (out_span_Count y) := by kernel_rfl
theorem con_span_Count_ok (N : Nat) : Con.ok P0 (con_span_Count N) := ⟨⟨Try.f37, Try.func37, by kernel_rfl, by kernel_rfl⟩, fun (x : List (Int × Int)) (r : Int) (hr : W_span_Count N x = some r) =>
  spec2_evT (Γ := G_span_Count N) (Λ := L0) (pout := pout_span_Count) (kp := kpL []) mixed (orcOf_ok [] (by simp)) Try.func37 (c := bodyOf Try.f37) (by kernel_rfl) (by kernel_rfl) (of_decide_eq_true (by kernel_rfl)) ((F_span_Count_eq N x).trans hr) (R_span_Count_eq x r)⟩
def as_span_May : List AS := [.val (.list (.agg (.pair (.int .i64) (.int .i64))))]
def bs_span_May : List BS := []
def pout_span_May : Pat := ⟨[(2, .val .bool)], []⟩
noncomputable def G_span_May (w_span_read : Int × Int → Option ((Int × Int) ⊕ Unit)) (N : Nat) : OrcT := orcOf [conw_span_read w_span_read]
noncomputable def F_span_May (w_span_read : Int × Int → Option ((Int × Int) ⊕ Unit)) (N : Nat) (x : List (Int × Int)) : Option (Bool) :=
  (evT (G_span_May w_span_read N) L0 P0 [(3, .loop [8] ⟨[(3, .val (.int .i64)), (10, .val (.int .i64))], []⟩ [(.exit 0, ⟨[], []⟩), (.ret, ⟨[(2, .val .bool)], []⟩)])]
    [] N 400 (bodyOf Try.f38) ⟨32, slots 0 (argsOf as_span_May bs_span_May x), tabU (lbOf as_span_May bs_span_May x) [], []⟩).elim (kRet 32 pout_span_May (kpL []) (lbOf as_span_May bs_span_May x))
def out_span_May (y : Bool) : V × List OK × List OK := (valW .bool y, [], [])
noncomputable def V_span_May (w_span_read : Int × Int → Option ((Int × Int) ⊕ Unit)) (N : Nat) (x : List (Int × Int)) : Option (Bool) :=
  obind
    (loopN N
      (fun (v : Int × Int) =>
        cnd (decide (Prod.snd v < (↑(List.length x) : Int)))
          (cnd (decide ((0 : Int) ≤ Prod.snd v) && decide (Prod.snd v < (↑(List.length x) : Int)))
            (obind
              (w_span_read
                (Prod.fst (List.getD x (Int.toNat (Prod.snd v)) ((0 : Int), (0 : Int))),
                  Prod.snd (List.getD x (Int.toNat (Prod.snd v)) ((0 : Int), (0 : Int)))))
              fun (b : Int × Int ⊕ PUnit) =>
              selim
                (fun (b : Int × Int) =>
                  cnd (decide (Prod.fst b < Prod.fst v)) (some (Sum.inr (Sum.inr false)))
                    (some (Sum.inl (wr IntKind.i64 (Prod.snd b + (2 : Int)), wr IntKind.i64 (Prod.snd v + (1 : Int))))))
                (fun (c : PUnit) => some (Sum.inr (Sum.inr false))) b)
            none)
          (some (Sum.inr (Sum.inl ()))))
      ((1 : Int), (0 : Int)))
    fun (b : PUnit ⊕ Bool) => selim (fun (b : PUnit) => some true) (fun (c : Bool) => some c) b
theorem FV_span_May_eq (w_span_read : Int × Int → Option ((Int × Int) ⊕ Unit)) (N : Nat) (x : List (Int × Int)) : F_span_May w_span_read N x = V_span_May w_span_read N x := by kernel_rfl
noncomputable def W_span_May (N : Nat) (x : List (Int × Int)) : Option (Bool) :=
  obind
    (loopN N
      (fun (v : Int × Int) =>
        cnd (decide (Prod.snd v < (↑(List.length x) : Int)))
          (cnd (decide ((0 : Int) ≤ Prod.snd v) && decide (Prod.snd v < (↑(List.length x) : Int)))
            (obind
              (W_span_read N
                (Prod.fst (List.getD x (Int.toNat (Prod.snd v)) ((0 : Int), (0 : Int))),
                  Prod.snd (List.getD x (Int.toNat (Prod.snd v)) ((0 : Int), (0 : Int)))))
              fun (b : Int × Int ⊕ PUnit) =>
              selim
                (fun (b : Int × Int) =>
                  cnd (decide (Prod.fst b < Prod.fst v)) (some (Sum.inr (Sum.inr false)))
                    (some (Sum.inl (wr IntKind.i64 (Prod.snd b + (2 : Int)), wr IntKind.i64 (Prod.snd v + (1 : Int))))))
                (fun (c : PUnit) => some (Sum.inr (Sum.inr false))) b)
            none)
          (some (Sum.inr (Sum.inl ()))))
      ((1 : Int), (0 : Int)))
    fun (b : PUnit ⊕ Bool) => selim (fun (b : PUnit) => some true) (fun (c : Bool) => some c) b
theorem F_span_May_eq (N : Nat) (x : List (Int × Int)) : F_span_May (W_span_read N) N x = W_span_May N x := (FV_span_May_eq (W_span_read N) N x).trans (by kernel_rfl)
noncomputable def conw_span_May (w : List (Int × Int) → Option (Bool)) : Con := ⟨38, as_span_May, bs_span_May, Bool, w, out_span_May⟩
noncomputable def con_span_May (N : Nat) : Con := conw_span_May (W_span_May N)
theorem R_span_May_eq (x : List (Int × Int)) (y : Bool) : retOf2 P0 Try.f38 (kpL []) (lbOf as_span_May bs_span_May x) (patS ⟨32, [], [], []⟩ pout_span_May y) = some (out_span_May y) := by kernel_rfl
theorem con_span_May_ok (N : Nat) : Con.ok P0 (con_span_May N) := ⟨⟨Try.f38, Try.func38, by kernel_rfl, by kernel_rfl⟩, fun (x : List (Int × Int)) (r : Bool) (hr : W_span_May N x = some r) =>
  spec2_evT (Γ := G_span_May (W_span_read N) N) (Λ := L0) (pout := pout_span_May) (kp := kpL []) mixed (orcOf_ok _ (by simp only [List.mem_cons, List.not_mem_nil, or_false, forall_eq_or_imp, forall_eq]; exact con_span_read_ok N)) Try.func38 (c := bodyOf Try.f38) (by kernel_rfl) (by kernel_rfl) (of_decide_eq_true (by kernel_rfl)) ((F_span_May_eq N x).trans hr) (R_span_May_eq x r)⟩
def as_ref1_MaySpans : List AS := [.val (.list (.agg (.pair (.int .i64) (.int .i64))))]
def bs_ref1_MaySpans : List BS := []
def pout_ref1_MaySpans : Pat := ⟨[(2, .val .bool)], []⟩
noncomputable def G_ref1_MaySpans (w_ref1_MaySpan : Int × Int → Option (Bool)) (N : Nat) : OrcT := orcOf [conw_ref1_MaySpan w_ref1_MaySpan]
noncomputable def F_ref1_MaySpans (w_ref1_MaySpan : Int × Int → Option (Bool)) (N : Nat) (x : List (Int × Int)) : Option (Bool) :=
  (evT (G_ref1_MaySpans w_ref1_MaySpan N) L0 P0 [(2, .loop [] ⟨[(3, .val (.int .i64))], []⟩ [(.exit 0, ⟨[], []⟩), (.ret, ⟨[(2, .val .bool)], []⟩)])]
    [] N 400 (bodyOf Try.f39) ⟨35, slots 0 (argsOf as_ref1_MaySpans bs_ref1_MaySpans x), tabU (lbOf as_ref1_MaySpans bs_ref1_MaySpans x) [], []⟩).elim (kRet 35 pout_ref1_MaySpans (kpL []) (lbOf as_ref1_MaySpans bs_ref1_MaySpans x))
def out_ref1_MaySpans (y : Bool) : V × List OK × List OK := (valW .bool y, [], [])
noncomputable def V_ref1_MaySpans (w_ref1_MaySpan : Int × Int → Option (Bool)) (N : Nat) (x : List (Int × Int)) : Option (Bool) :=
  obind
    (loopN N
      (fun (v : Int) =>
        cnd (decide (v < (↑(List.length x) : Int)))
          (cnd (decide ((0 : Int) ≤ v) && decide (v < (↑(List.length x) : Int)))
            (obind
              (w_ref1_MaySpan
                (Prod.fst (List.getD x (Int.toNat v) ((0 : Int), (0 : Int))),
                  Prod.snd (List.getD x (Int.toNat v) ((0 : Int), (0 : Int)))))
              fun (b : Bool) =>
              cnd (!b) (some (Sum.inr (Sum.inr false)))
                (cnd (decide ((0 : Int) < v))
                  (cnd (decide ((0 : Int) ≤ v) && decide (v < (↑(List.length x) : Int)))
                    (cnd
                      (decide ((0 : Int) ≤ wr IntKind.i64 (v - (1 : Int))) &&
                        decide (wr IntKind.i64 (v - (1 : Int)) < (↑(List.length x) : Int)))
                      (cnd
                        (decide
                          (Prod.fst (List.getD x (Int.toNat v) ((0 : Int), (0 : Int))) ≤
                            wr IntKind.i64
                              (Prod.snd
                                  (List.getD x (Int.toNat (wr IntKind.i64 (v - (1 : Int)))) ((0 : Int), (0 : Int))) +
                                (1 : Int))))
                        (some (Sum.inr (Sum.inr false))) (some (Sum.inl (wr IntKind.i64 (v + (1 : Int))))))
                      none)
                    none)
                  (some (Sum.inl (wr IntKind.i64 (v + (1 : Int)))))))
            none)
          (some (Sum.inr (Sum.inl ()))))
      (Int.ofNat (0 : Nat)))
    fun (b : PUnit ⊕ Bool) => selim (fun (b : PUnit) => some true) (fun (c : Bool) => some c) b
theorem FV_ref1_MaySpans_eq (w_ref1_MaySpan : Int × Int → Option (Bool)) (N : Nat) (x : List (Int × Int)) : F_ref1_MaySpans w_ref1_MaySpan N x = V_ref1_MaySpans w_ref1_MaySpan N x := by kernel_rfl
noncomputable def W_ref1_MaySpans (N : Nat) (x : List (Int × Int)) : Option (Bool) :=
  obind
    (loopN N
      (fun (v : Int) =>
        cnd (decide (v < (↑(List.length x) : Int)))
          (cnd (decide ((0 : Int) ≤ v) && decide (v < (↑(List.length x) : Int)))
            (obind
              (W_ref1_MaySpan N
                (Prod.fst (List.getD x (Int.toNat v) ((0 : Int), (0 : Int))),
                  Prod.snd (List.getD x (Int.toNat v) ((0 : Int), (0 : Int)))))
              fun (b : Bool) =>
              cnd (!b) (some (Sum.inr (Sum.inr false)))
                (cnd (decide ((0 : Int) < v))
                  (cnd (decide ((0 : Int) ≤ v) && decide (v < (↑(List.length x) : Int)))
                    (cnd
                      (decide ((0 : Int) ≤ wr IntKind.i64 (v - (1 : Int))) &&
                        decide (wr IntKind.i64 (v - (1 : Int)) < (↑(List.length x) : Int)))
                      (cnd
                        (decide
                          (Prod.fst (List.getD x (Int.toNat v) ((0 : Int), (0 : Int))) ≤
                            wr IntKind.i64
                              (Prod.snd
                                  (List.getD x (Int.toNat (wr IntKind.i64 (v - (1 : Int)))) ((0 : Int), (0 : Int))) +
                                (1 : Int))))
                        (some (Sum.inr (Sum.inr false))) (some (Sum.inl (wr IntKind.i64 (v + (1 : Int))))))
                      none)
                    none)
                  (some (Sum.inl (wr IntKind.i64 (v + (1 : Int)))))))
            none)
          (some (Sum.inr (Sum.inl ()))))
      (Int.ofNat (0 : Nat)))
    fun (b : PUnit ⊕ Bool) => selim (fun (b : PUnit) => some true) (fun (c : Bool) => some c) b
theorem F_ref1_MaySpans_eq (N : Nat) (x : List (Int × Int)) : F_ref1_MaySpans (W_ref1_MaySpan N) N x = W_ref1_MaySpans N x := (FV_ref1_MaySpans_eq (W_ref1_MaySpan N) N x).trans (by kernel_rfl)
noncomputable def conw_ref1_MaySpans (w : List (Int × Int) → Option (Bool)) : Con := ⟨39, as_ref1_MaySpans, bs_ref1_MaySpans, Bool, w, out_ref1_MaySpans⟩
noncomputable def con_ref1_MaySpans (N : Nat) : Con := conw_ref1_MaySpans (W_ref1_MaySpans N)
theorem R_ref1_MaySpans_eq (x : List (Int × Int)) (y : Bool) : retOf2 P0 Try.f39 (kpL []) (lbOf as_ref1_MaySpans bs_ref1_MaySpans x) (patS ⟨35, [], [], []⟩ pout_ref1_MaySpans y) = some (out_ref1_MaySpans y) := by kernel_rfl
theorem con_ref1_MaySpans_ok (N : Nat) : Con.ok P0 (con_ref1_MaySpans N) := ⟨⟨Try.f39, Try.func39, by kernel_rfl, by kernel_rfl⟩, fun (x : List (Int × Int)) (r : Bool) (hr : W_ref1_MaySpans N x = some r) =>
  spec2_evT (Γ := G_ref1_MaySpans (W_ref1_MaySpan N) N) (Λ := L0) (pout := pout_ref1_MaySpans) (kp := kpL []) mixed (orcOf_ok _ (by simp only [List.mem_cons, List.not_mem_nil, or_false, forall_eq_or_imp, forall_eq]; exact con_ref1_MaySpan_ok N)) Try.func39 (c := bodyOf Try.f39) (by kernel_rfl) (by kernel_rfl) (of_decide_eq_true (by kernel_rfl)) ((F_ref1_MaySpans_eq N x).trans hr) (R_ref1_MaySpans_eq x r)⟩
def as_law3_SpanAll : List AS := [.val (.list (.agg (.pair (.int .u8) (.int .u8)))), .val (.list (.agg (.pair (.int .i64) (.int .i64)))), .val (.agg (.pair (.int .i64) (.int .i64))), .val (.int .i64)]
def bs_law3_SpanAll : List BS := []
def pout_law3_SpanAll : Pat := ⟨[(8, .val .bool)], []⟩
noncomputable def G_law3_SpanAll (w_law3_Spans : List (Int × Int) → Option (List (Int × Int))) (w_span_Add : (List (Int × Int)) × Int × Int → Option (List (Int × Int))) (w_ref1_AddSpan : (List (Int × Int)) × Int × Int → Option (List (Int × Int))) (w_ref1_SameSpans : (List (Int × Int)) × List (Int × Int) → Option (Bool)) (w_ref1_MaySpan : Int × Int → Option (Bool)) (w_span_Lacks : (List (Int × Int)) × Int × Int → Option (List (Int × Int))) (w_ref1_Lacks : (List (Int × Int)) × Int × Int → Option (List (Int × Int))) (w_span_Has : (List (Int × Int)) × Int → Option (Bool)) (w_ref1_HasSpan : (List (Int × Int)) × Int → Option (Bool)) (w_span_Count : List (Int × Int) → Option (Int)) (w_span_May : List (Int × Int) → Option (Bool)) (w_ref1_MaySpans : List (Int × Int) → Option (Bool)) (N : Nat) : OrcT := orcOf [con_law3_begun N, conw_law3_Spans w_law3_Spans, conw_span_Add w_span_Add, conw_ref1_AddSpan w_ref1_AddSpan, conw_ref1_SameSpans w_ref1_SameSpans, conw_ref1_MaySpan w_ref1_MaySpan, conw_span_Lacks w_span_Lacks, conw_ref1_Lacks w_ref1_Lacks, conw_span_Has w_span_Has, conw_ref1_HasSpan w_ref1_HasSpan, conw_span_Count w_span_Count, conw_span_May w_span_May, conw_ref1_MaySpans w_ref1_MaySpans]
noncomputable def F_law3_SpanAll (w_law3_Spans : List (Int × Int) → Option (List (Int × Int))) (w_span_Add : (List (Int × Int)) × Int × Int → Option (List (Int × Int))) (w_ref1_AddSpan : (List (Int × Int)) × Int × Int → Option (List (Int × Int))) (w_ref1_SameSpans : (List (Int × Int)) × List (Int × Int) → Option (Bool)) (w_ref1_MaySpan : Int × Int → Option (Bool)) (w_span_Lacks : (List (Int × Int)) × Int × Int → Option (List (Int × Int))) (w_ref1_Lacks : (List (Int × Int)) × Int × Int → Option (List (Int × Int))) (w_span_Has : (List (Int × Int)) × Int → Option (Bool)) (w_ref1_HasSpan : (List (Int × Int)) × Int → Option (Bool)) (w_span_Count : List (Int × Int) → Option (Int)) (w_span_May : List (Int × Int) → Option (Bool)) (w_ref1_MaySpans : List (Int × Int) → Option (Bool)) (N : Nat) (x : (List (Int × Int)) × (List (Int × Int)) × (Int × Int) × Int) : Option (Bool) :=
  (evT (G_law3_SpanAll w_law3_Spans w_span_Add w_ref1_AddSpan w_ref1_SameSpans w_ref1_MaySpan w_span_Lacks w_ref1_Lacks w_span_Has w_ref1_HasSpan w_span_Count w_span_May w_ref1_MaySpans N) L0 P0 [(8, .unroll 4),
    (16, .loop [9] ⟨[(12, .val (.int .i64)), (13, .val (.int .i64))], []⟩ [(.exit 2, ⟨[(12, .val (.int .i64))], []⟩)])]
    [(1000019, .reg [(13, [9], ⟨[(101, .val .bool)], []⟩), (4, [], ⟨[(105, .val .bool)], []⟩)])] N 400 (bodyOf Try.f6) ⟨113, slots 0 (argsOf as_law3_SpanAll bs_law3_SpanAll x), tabU (lbOf as_law3_SpanAll bs_law3_SpanAll x) [], []⟩).elim (kRet 113 pout_law3_SpanAll (kpL []) (lbOf as_law3_SpanAll bs_law3_SpanAll x))
def out_law3_SpanAll (y : Bool) : V × List OK × List OK := (valW .bool y, [], [])
noncomputable def V_law3_SpanAll (w_law3_Spans : List (Int × Int) → Option (List (Int × Int))) (w_span_Add : (List (Int × Int)) × Int × Int → Option (List (Int × Int))) (w_ref1_AddSpan : (List (Int × Int)) × Int × Int → Option (List (Int × Int))) (w_ref1_SameSpans : (List (Int × Int)) × List (Int × Int) → Option (Bool)) (w_ref1_MaySpan : Int × Int → Option (Bool)) (w_span_Lacks : (List (Int × Int)) × Int × Int → Option (List (Int × Int))) (w_ref1_Lacks : (List (Int × Int)) × Int × Int → Option (List (Int × Int))) (w_span_Has : (List (Int × Int)) × Int → Option (Bool)) (w_ref1_HasSpan : (List (Int × Int)) × Int → Option (Bool)) (w_span_Count : List (Int × Int) → Option (Int)) (w_span_May : List (Int × Int) → Option (Bool)) (w_ref1_MaySpans : List (Int × Int) → Option (Bool)) (N : Nat) (x : (List (Int × Int)) × (List (Int × Int)) × (Int × Int) × Int) : Option (Bool) :=
  cnd (decide ((8 : Int) < (↑(List.length (Prod.fst x)) : Int))) (some true)
    (cnd (decide ((8 : Int) < (↑(List.length (Prod.fst (Prod.snd x))) : Int))) (some true)
      (obind (w_law3_Spans (Prod.fst x)) fun (b : List (Int × Int)) =>
        obind (w_span_Add (b, Prod.fst (Prod.fst (Prod.snd (Prod.snd x))), Prod.snd (Prod.fst (Prod.snd (Prod.snd x)))))
          fun (b_1 : List (Int × Int)) =>
          obind
            (w_ref1_AddSpan
              (b, Prod.fst (Prod.fst (Prod.snd (Prod.snd x))), Prod.snd (Prod.fst (Prod.snd (Prod.snd x)))))
            fun (b_2 : List (Int × Int)) =>
            obind (w_ref1_SameSpans (b_1, b_2)) fun (b_3 : Bool) =>
              cnd (!b_3) (some false)
                (obind
                  (w_ref1_MaySpan
                    (Prod.fst (Prod.fst (Prod.snd (Prod.snd x))), Prod.snd (Prod.fst (Prod.snd (Prod.snd x)))))
                  fun (b_4 : Bool) =>
                  cnd b_4
                    (obind
                      (w_span_Lacks
                        (b, Prod.fst (Prod.fst (Prod.snd (Prod.snd x))), Prod.snd (Prod.fst (Prod.snd (Prod.snd x)))))
                      fun (b_5 : List (Int × Int)) =>
                      obind
                        (w_ref1_Lacks
                          (b, Prod.fst (Prod.fst (Prod.snd (Prod.snd x))), Prod.snd (Prod.fst (Prod.snd (Prod.snd x)))))
                        fun (b_6 : List (Int × Int)) =>
                        obind (w_ref1_SameSpans (b_5, b_6)) fun (b_7 : Bool) =>
                          cnd (!b_7) (some false)
                            (obind (w_span_Add (b, (3 : Int), (30 : Int))) fun (b_8 : List (Int × Int)) =>
                              obind (w_ref1_AddSpan (b, (3 : Int), (30 : Int))) fun (b_9 : List (Int × Int)) =>
                                obind (w_ref1_SameSpans (b_8, b_9)) fun (b_10 : Bool) =>
                                  cnd (!b_10) (some false)
                                    (obind (w_ref1_MaySpan ((3 : Int), (30 : Int))) fun (b_11 : Bool) =>
                                      cnd b_11
                                        (obind (w_span_Lacks (b, (3 : Int), (30 : Int)))
                                          fun (b_12 : List (Int × Int)) =>
                                          obind (w_ref1_Lacks (b, (3 : Int), (30 : Int)))
                                            fun (b_13 : List (Int × Int)) =>
                                            obind (w_ref1_SameSpans (b_12, b_13)) fun (b_14 : Bool) =>
                                              cnd (!b_14) (some false)
                                                (obind (w_span_Add (b, (20 : Int), (20 : Int)))
                                                  fun (b_15 : List (Int × Int)) =>
                                                  obind (w_ref1_AddSpan (b, (20 : Int), (20 : Int)))
                                                    fun (b_16 : List (Int × Int)) =>
                                                    obind (w_ref1_SameSpans (b_15, b_16)) fun (b_17 : Bool) =>
                                                      cnd (!b_17) (some false)
                                                        (obind (w_ref1_MaySpan ((20 : Int), (20 : Int)))
                                                          fun (b_18 : Bool) =>
                                                          cnd b_18
                                                            (obind (w_span_Lacks (b, (20 : Int), (20 : Int)))
                                                              fun (b_19 : List (Int × Int)) =>
                                                              obind (w_ref1_Lacks (b, (20 : Int), (20 : Int)))
                                                                fun (b_20 : List (Int × Int)) =>
                                                                obind (w_ref1_SameSpans (b_19, b_20))
                                                                  fun (b_21 : Bool) =>
                                                                  cnd (!b_21) (some false)
                                                                    (obind
                                                                      (loopN N
                                                                        (fun (v : Int × Int) =>
                                                                          cnd (decide (Prod.snd v < (↑(List.length b) : Int)))
                                                                            (cnd
                                                                              (decide ((0 : Int) ≤ Prod.snd v) &&
                                                                                decide (Prod.snd v < (↑(List.length b) : Int)))
                                                                              (cnd
                                                                                (decide ((0 : Int) ≤ Prod.snd v) &&
                                                                                  decide (Prod.snd v < (↑(List.length b) : Int)))
                                                                                (some
                                                                                  (Sum.inl
                                                                                    (wr IntKind.i64
                                                                                        (wr IntKind.i64
                                                                                            (wr IntKind.i64
                                                                                                (Prod.fst v +
                                                                                                  Prod.snd
                                                                                                    (List.getD b
                                                                                                      (Int.toNat
                                                                                                        (Prod.snd v))
                                                                                                      ((0 : Int),
                                                                                                        (0 : Int)))) -
                                                                                              Prod.fst
                                                                                                (List.getD b
                                                                                                  (Int.toNat (Prod.snd v))
                                                                                                  ((0 : Int),
                                                                                                    (0 : Int)))) +
                                                                                          (1 : Int)),
                                                                                      wr IntKind.i64
                                                                                        (Prod.snd v + (1 : Int)))))
                                                                                none)
                                                                              none)
                                                                            (some (Sum.inr (Prod.fst v))))
                                                                        ((0 : Int), (0 : Int)))
                                                                      fun (b_22 : Int) =>
                                                                      obind
                                                                        (obind
                                                                          (w_span_Has
                                                                            (b, Prod.snd (Prod.snd (Prod.snd x))))
                                                                          fun (b_23 : Bool) =>
                                                                          obind
                                                                            (w_ref1_HasSpan
                                                                              (b, Prod.snd (Prod.snd (Prod.snd x))))
                                                                            fun (b_24 : Bool) =>
                                                                            cnd (b_23 == b_24)
                                                                              (obind (w_span_Count b) fun (b : Int) =>
                                                                                some (decide (b = b_22)))
                                                                              (some false))
                                                                        fun (b_23 : Bool) =>
                                                                        obind
                                                                          (cnd b_23
                                                                            (obind (w_span_May b) fun (b : Bool) =>
                                                                              some b)
                                                                            (some false))
                                                                          fun (b : Bool) =>
                                                                          cnd b
                                                                            (obind (w_span_May (Prod.fst (Prod.snd x)))
                                                                              fun (b : Bool) =>
                                                                              obind
                                                                                (w_ref1_MaySpans
                                                                                  (Prod.fst (Prod.snd x)))
                                                                                fun (b_24 : Bool) => some (b == b_24))
                                                                            (some false)))
                                                            (obind
                                                              (loopN N
                                                                (fun (v : Int × Int) =>
                                                                  cnd (decide (Prod.snd v < (↑(List.length b) : Int)))
                                                                    (cnd
                                                                      (decide ((0 : Int) ≤ Prod.snd v) &&
                                                                        decide (Prod.snd v < (↑(List.length b) : Int)))
                                                                      (cnd
                                                                        (decide ((0 : Int) ≤ Prod.snd v) &&
                                                                          decide (Prod.snd v < (↑(List.length b) : Int)))
                                                                        (some
                                                                          (Sum.inl
                                                                            (wr IntKind.i64
                                                                                (wr IntKind.i64
                                                                                    (wr IntKind.i64
                                                                                        (Prod.fst v +
                                                                                          Prod.snd
                                                                                            (List.getD b
                                                                                              (Int.toNat (Prod.snd v))
                                                                                              ((0 : Int), (0 : Int)))) -
                                                                                      Prod.fst
                                                                                        (List.getD b
                                                                                          (Int.toNat (Prod.snd v))
                                                                                          ((0 : Int), (0 : Int)))) +
                                                                                  (1 : Int)),
                                                                              wr IntKind.i64 (Prod.snd v + (1 : Int)))))
                                                                        none)
                                                                      none)
                                                                    (some (Sum.inr (Prod.fst v))))
                                                                ((0 : Int), (0 : Int)))
                                                              fun (b_19 : Int) =>
                                                              obind
                                                                (obind
                                                                  (w_span_Has (b, Prod.snd (Prod.snd (Prod.snd x))))
                                                                  fun (b_20 : Bool) =>
                                                                  obind
                                                                    (w_ref1_HasSpan
                                                                      (b, Prod.snd (Prod.snd (Prod.snd x))))
                                                                    fun (b_21 : Bool) =>
                                                                    cnd (b_20 == b_21)
                                                                      (obind (w_span_Count b) fun (b : Int) =>
                                                                        some (decide (b = b_19)))
                                                                      (some false))
                                                                fun (b_20 : Bool) =>
                                                                obind
                                                                  (cnd b_20
                                                                    (obind (w_span_May b) fun (b : Bool) => some b)
                                                                    (some false))
                                                                  fun (b : Bool) =>
                                                                  cnd b
                                                                    (obind (w_span_May (Prod.fst (Prod.snd x)))
                                                                      fun (b : Bool) =>
                                                                      obind (w_ref1_MaySpans (Prod.fst (Prod.snd x)))
                                                                        fun (b_21 : Bool) => some (b == b_21))
                                                                    (some false)))))
                                        (obind (w_span_Add (b, (20 : Int), (20 : Int))) fun (b_12 : List (Int × Int)) =>
                                          obind (w_ref1_AddSpan (b, (20 : Int), (20 : Int)))
                                            fun (b_13 : List (Int × Int)) =>
                                            obind (w_ref1_SameSpans (b_12, b_13)) fun (b_14 : Bool) =>
                                              cnd (!b_14) (some false)
                                                (obind (w_ref1_MaySpan ((20 : Int), (20 : Int))) fun (b_15 : Bool) =>
                                                  cnd b_15
                                                    (obind (w_span_Lacks (b, (20 : Int), (20 : Int)))
                                                      fun (b_16 : List (Int × Int)) =>
                                                      obind (w_ref1_Lacks (b, (20 : Int), (20 : Int)))
                                                        fun (b_17 : List (Int × Int)) =>
                                                        obind (w_ref1_SameSpans (b_16, b_17)) fun (b_18 : Bool) =>
                                                          cnd (!b_18) (some false)
                                                            (obind
                                                              (loopN N
                                                                (fun (v : Int × Int) =>
                                                                  cnd (decide (Prod.snd v < (↑(List.length b) : Int)))
                                                                    (cnd
                                                                      (decide ((0 : Int) ≤ Prod.snd v) &&
                                                                        decide (Prod.snd v < (↑(List.length b) : Int)))
                                                                      (cnd
                                                                        (decide ((0 : Int) ≤ Prod.snd v) &&
                                                                          decide (Prod.snd v < (↑(List.length b) : Int)))
                                                                        (some
                                                                          (Sum.inl
                                                                            (wr IntKind.i64
                                                                                (wr IntKind.i64
                                                                                    (wr IntKind.i64
                                                                                        (Prod.fst v +
                                                                                          Prod.snd
                                                                                            (List.getD b
                                                                                              (Int.toNat (Prod.snd v))
                                                                                              ((0 : Int), (0 : Int)))) -
                                                                                      Prod.fst
                                                                                        (List.getD b
                                                                                          (Int.toNat (Prod.snd v))
                                                                                          ((0 : Int), (0 : Int)))) +
                                                                                  (1 : Int)),
                                                                              wr IntKind.i64 (Prod.snd v + (1 : Int)))))
                                                                        none)
                                                                      none)
                                                                    (some (Sum.inr (Prod.fst v))))
                                                                ((0 : Int), (0 : Int)))
                                                              fun (b_19 : Int) =>
                                                              obind
                                                                (obind
                                                                  (w_span_Has (b, Prod.snd (Prod.snd (Prod.snd x))))
                                                                  fun (b_20 : Bool) =>
                                                                  obind
                                                                    (w_ref1_HasSpan
                                                                      (b, Prod.snd (Prod.snd (Prod.snd x))))
                                                                    fun (b_21 : Bool) =>
                                                                    cnd (b_20 == b_21)
                                                                      (obind (w_span_Count b) fun (b : Int) =>
                                                                        some (decide (b = b_19)))
                                                                      (some false))
                                                                fun (b_20 : Bool) =>
                                                                obind
                                                                  (cnd b_20
                                                                    (obind (w_span_May b) fun (b : Bool) => some b)
                                                                    (some false))
                                                                  fun (b : Bool) =>
                                                                  cnd b
                                                                    (obind (w_span_May (Prod.fst (Prod.snd x)))
                                                                      fun (b : Bool) =>
                                                                      obind (w_ref1_MaySpans (Prod.fst (Prod.snd x)))
                                                                        fun (b_21 : Bool) => some (b == b_21))
                                                                    (some false)))
                                                    (obind
                                                      (loopN N
                                                        (fun (v : Int × Int) =>
                                                          cnd (decide (Prod.snd v < (↑(List.length b) : Int)))
                                                            (cnd
                                                              (decide ((0 : Int) ≤ Prod.snd v) &&
                                                                decide (Prod.snd v < (↑(List.length b) : Int)))
                                                              (cnd
                                                                (decide ((0 : Int) ≤ Prod.snd v) &&
                                                                  decide (Prod.snd v < (↑(List.length b) : Int)))
                                                                (some
                                                                  (Sum.inl
                                                                    (wr IntKind.i64
                                                                        (wr IntKind.i64
                                                                            (wr IntKind.i64
                                                                                (Prod.fst v +
                                                                                  Prod.snd
                                                                                    (List.getD b (Int.toNat (Prod.snd v))
                                                                                      ((0 : Int), (0 : Int)))) -
                                                                              Prod.fst
                                                                                (List.getD b (Int.toNat (Prod.snd v))
                                                                                  ((0 : Int), (0 : Int)))) +
                                                                          (1 : Int)),
                                                                      wr IntKind.i64 (Prod.snd v + (1 : Int)))))
                                                                none)
                                                              none)
                                                            (some (Sum.inr (Prod.fst v))))
                                                        ((0 : Int), (0 : Int)))
                                                      fun (b_16 : Int) =>
                                                      obind
                                                        (obind (w_span_Has (b, Prod.snd (Prod.snd (Prod.snd x))))
                                                          fun (b_17 : Bool) =>
                                                          obind (w_ref1_HasSpan (b, Prod.snd (Prod.snd (Prod.snd x))))
                                                            fun (b_18 : Bool) =>
                                                            cnd (b_17 == b_18)
                                                              (obind (w_span_Count b) fun (b : Int) =>
                                                                some (decide (b = b_16)))
                                                              (some false))
                                                        fun (b_17 : Bool) =>
                                                        obind
                                                          (cnd b_17 (obind (w_span_May b) fun (b : Bool) => some b)
                                                            (some false))
                                                          fun (b : Bool) =>
                                                          cnd b
                                                            (obind (w_span_May (Prod.fst (Prod.snd x)))
                                                              fun (b : Bool) =>
                                                              obind (w_ref1_MaySpans (Prod.fst (Prod.snd x)))
                                                                fun (b_18 : Bool) => some (b == b_18))
                                                            (some false)))))))
                    (obind (w_span_Add (b, (3 : Int), (30 : Int))) fun (b_5 : List (Int × Int)) =>
                      obind (w_ref1_AddSpan (b, (3 : Int), (30 : Int))) fun (b_6 : List (Int × Int)) =>
                        obind (w_ref1_SameSpans (b_5, b_6)) fun (b_7 : Bool) =>
                          cnd (!b_7) (some false)
                            (obind (w_ref1_MaySpan ((3 : Int), (30 : Int))) fun (b_8 : Bool) =>
                              cnd b_8
                                (obind (w_span_Lacks (b, (3 : Int), (30 : Int))) fun (b_9 : List (Int × Int)) =>
                                  obind (w_ref1_Lacks (b, (3 : Int), (30 : Int))) fun (b_10 : List (Int × Int)) =>
                                    obind (w_ref1_SameSpans (b_9, b_10)) fun (b_11 : Bool) =>
                                      cnd (!b_11) (some false)
                                        (obind (w_span_Add (b, (20 : Int), (20 : Int))) fun (b_12 : List (Int × Int)) =>
                                          obind (w_ref1_AddSpan (b, (20 : Int), (20 : Int)))
                                            fun (b_13 : List (Int × Int)) =>
                                            obind (w_ref1_SameSpans (b_12, b_13)) fun (b_14 : Bool) =>
                                              cnd (!b_14) (some false)
                                                (obind (w_ref1_MaySpan ((20 : Int), (20 : Int))) fun (b_15 : Bool) =>
                                                  cnd b_15
                                                    (obind (w_span_Lacks (b, (20 : Int), (20 : Int)))
                                                      fun (b_16 : List (Int × Int)) =>
                                                      obind (w_ref1_Lacks (b, (20 : Int), (20 : Int)))
                                                        fun (b_17 : List (Int × Int)) =>
                                                        obind (w_ref1_SameSpans (b_16, b_17)) fun (b_18 : Bool) =>
                                                          cnd (!b_18) (some false)
                                                            (obind
                                                              (loopN N
                                                                (fun (v : Int × Int) =>
                                                                  cnd (decide (Prod.snd v < (↑(List.length b) : Int)))
                                                                    (cnd
                                                                      (decide ((0 : Int) ≤ Prod.snd v) &&
                                                                        decide (Prod.snd v < (↑(List.length b) : Int)))
                                                                      (cnd
                                                                        (decide ((0 : Int) ≤ Prod.snd v) &&
                                                                          decide (Prod.snd v < (↑(List.length b) : Int)))
                                                                        (some
                                                                          (Sum.inl
                                                                            (wr IntKind.i64
                                                                                (wr IntKind.i64
                                                                                    (wr IntKind.i64
                                                                                        (Prod.fst v +
                                                                                          Prod.snd
                                                                                            (List.getD b
                                                                                              (Int.toNat (Prod.snd v))
                                                                                              ((0 : Int), (0 : Int)))) -
                                                                                      Prod.fst
                                                                                        (List.getD b
                                                                                          (Int.toNat (Prod.snd v))
                                                                                          ((0 : Int), (0 : Int)))) +
                                                                                  (1 : Int)),
                                                                              wr IntKind.i64 (Prod.snd v + (1 : Int)))))
                                                                        none)
                                                                      none)
                                                                    (some (Sum.inr (Prod.fst v))))
                                                                ((0 : Int), (0 : Int)))
                                                              fun (b_19 : Int) =>
                                                              obind
                                                                (obind
                                                                  (w_span_Has (b, Prod.snd (Prod.snd (Prod.snd x))))
                                                                  fun (b_20 : Bool) =>
                                                                  obind
                                                                    (w_ref1_HasSpan
                                                                      (b, Prod.snd (Prod.snd (Prod.snd x))))
                                                                    fun (b_21 : Bool) =>
                                                                    cnd (b_20 == b_21)
                                                                      (obind (w_span_Count b) fun (b : Int) =>
                                                                        some (decide (b = b_19)))
                                                                      (some false))
                                                                fun (b_20 : Bool) =>
                                                                obind
                                                                  (cnd b_20
                                                                    (obind (w_span_May b) fun (b : Bool) => some b)
                                                                    (some false))
                                                                  fun (b : Bool) =>
                                                                  cnd b
                                                                    (obind (w_span_May (Prod.fst (Prod.snd x)))
                                                                      fun (b : Bool) =>
                                                                      obind (w_ref1_MaySpans (Prod.fst (Prod.snd x)))
                                                                        fun (b_21 : Bool) => some (b == b_21))
                                                                    (some false)))
                                                    (obind
                                                      (loopN N
                                                        (fun (v : Int × Int) =>
                                                          cnd (decide (Prod.snd v < (↑(List.length b) : Int)))
                                                            (cnd
                                                              (decide ((0 : Int) ≤ Prod.snd v) &&
                                                                decide (Prod.snd v < (↑(List.length b) : Int)))
                                                              (cnd
                                                                (decide ((0 : Int) ≤ Prod.snd v) &&
                                                                  decide (Prod.snd v < (↑(List.length b) : Int)))
                                                                (some
                                                                  (Sum.inl
                                                                    (wr IntKind.i64
                                                                        (wr IntKind.i64
                                                                            (wr IntKind.i64
                                                                                (Prod.fst v +
                                                                                  Prod.snd
                                                                                    (List.getD b (Int.toNat (Prod.snd v))
                                                                                      ((0 : Int), (0 : Int)))) -
                                                                              Prod.fst
                                                                                (List.getD b (Int.toNat (Prod.snd v))
                                                                                  ((0 : Int), (0 : Int)))) +
                                                                          (1 : Int)),
                                                                      wr IntKind.i64 (Prod.snd v + (1 : Int)))))
                                                                none)
                                                              none)
                                                            (some (Sum.inr (Prod.fst v))))
                                                        ((0 : Int), (0 : Int)))
                                                      fun (b_16 : Int) =>
                                                      obind
                                                        (obind (w_span_Has (b, Prod.snd (Prod.snd (Prod.snd x))))
                                                          fun (b_17 : Bool) =>
                                                          obind (w_ref1_HasSpan (b, Prod.snd (Prod.snd (Prod.snd x))))
                                                            fun (b_18 : Bool) =>
                                                            cnd (b_17 == b_18)
                                                              (obind (w_span_Count b) fun (b : Int) =>
                                                                some (decide (b = b_16)))
                                                              (some false))
                                                        fun (b_17 : Bool) =>
                                                        obind
                                                          (cnd b_17 (obind (w_span_May b) fun (b : Bool) => some b)
                                                            (some false))
                                                          fun (b : Bool) =>
                                                          cnd b
                                                            (obind (w_span_May (Prod.fst (Prod.snd x)))
                                                              fun (b : Bool) =>
                                                              obind (w_ref1_MaySpans (Prod.fst (Prod.snd x)))
                                                                fun (b_18 : Bool) => some (b == b_18))
                                                            (some false)))))
                                (obind (w_span_Add (b, (20 : Int), (20 : Int))) fun (b_9 : List (Int × Int)) =>
                                  obind (w_ref1_AddSpan (b, (20 : Int), (20 : Int))) fun (b_10 : List (Int × Int)) =>
                                    obind (w_ref1_SameSpans (b_9, b_10)) fun (b_11 : Bool) =>
                                      cnd (!b_11) (some false)
                                        (obind (w_ref1_MaySpan ((20 : Int), (20 : Int))) fun (b_12 : Bool) =>
                                          cnd b_12
                                            (obind (w_span_Lacks (b, (20 : Int), (20 : Int)))
                                              fun (b_13 : List (Int × Int)) =>
                                              obind (w_ref1_Lacks (b, (20 : Int), (20 : Int)))
                                                fun (b_14 : List (Int × Int)) =>
                                                obind (w_ref1_SameSpans (b_13, b_14)) fun (b_15 : Bool) =>
                                                  cnd (!b_15) (some false)
                                                    (obind
                                                      (loopN N
                                                        (fun (v : Int × Int) =>
                                                          cnd (decide (Prod.snd v < (↑(List.length b) : Int)))
                                                            (cnd
                                                              (decide ((0 : Int) ≤ Prod.snd v) &&
                                                                decide (Prod.snd v < (↑(List.length b) : Int)))
                                                              (cnd
                                                                (decide ((0 : Int) ≤ Prod.snd v) &&
                                                                  decide (Prod.snd v < (↑(List.length b) : Int)))
                                                                (some
                                                                  (Sum.inl
                                                                    (wr IntKind.i64
                                                                        (wr IntKind.i64
                                                                            (wr IntKind.i64
                                                                                (Prod.fst v +
                                                                                  Prod.snd
                                                                                    (List.getD b (Int.toNat (Prod.snd v))
                                                                                      ((0 : Int), (0 : Int)))) -
                                                                              Prod.fst
                                                                                (List.getD b (Int.toNat (Prod.snd v))
                                                                                  ((0 : Int), (0 : Int)))) +
                                                                          (1 : Int)),
                                                                      wr IntKind.i64 (Prod.snd v + (1 : Int)))))
                                                                none)
                                                              none)
                                                            (some (Sum.inr (Prod.fst v))))
                                                        ((0 : Int), (0 : Int)))
                                                      fun (b_16 : Int) =>
                                                      obind
                                                        (obind (w_span_Has (b, Prod.snd (Prod.snd (Prod.snd x))))
                                                          fun (b_17 : Bool) =>
                                                          obind (w_ref1_HasSpan (b, Prod.snd (Prod.snd (Prod.snd x))))
                                                            fun (b_18 : Bool) =>
                                                            cnd (b_17 == b_18)
                                                              (obind (w_span_Count b) fun (b : Int) =>
                                                                some (decide (b = b_16)))
                                                              (some false))
                                                        fun (b_17 : Bool) =>
                                                        obind
                                                          (cnd b_17 (obind (w_span_May b) fun (b : Bool) => some b)
                                                            (some false))
                                                          fun (b : Bool) =>
                                                          cnd b
                                                            (obind (w_span_May (Prod.fst (Prod.snd x)))
                                                              fun (b : Bool) =>
                                                              obind (w_ref1_MaySpans (Prod.fst (Prod.snd x)))
                                                                fun (b_18 : Bool) => some (b == b_18))
                                                            (some false)))
                                            (obind
                                              (loopN N
                                                (fun (v : Int × Int) =>
                                                  cnd (decide (Prod.snd v < (↑(List.length b) : Int)))
                                                    (cnd
                                                      (decide ((0 : Int) ≤ Prod.snd v) &&
                                                        decide (Prod.snd v < (↑(List.length b) : Int)))
                                                      (cnd
                                                        (decide ((0 : Int) ≤ Prod.snd v) &&
                                                          decide (Prod.snd v < (↑(List.length b) : Int)))
                                                        (some
                                                          (Sum.inl
                                                            (wr IntKind.i64
                                                                (wr IntKind.i64
                                                                    (wr IntKind.i64
                                                                        (Prod.fst v +
                                                                          Prod.snd
                                                                            (List.getD b (Int.toNat (Prod.snd v))
                                                                              ((0 : Int), (0 : Int)))) -
                                                                      Prod.fst
                                                                        (List.getD b (Int.toNat (Prod.snd v))
                                                                          ((0 : Int), (0 : Int)))) +
                                                                  (1 : Int)),
                                                              wr IntKind.i64 (Prod.snd v + (1 : Int)))))
                                                        none)
                                                      none)
                                                    (some (Sum.inr (Prod.fst v))))
                                                ((0 : Int), (0 : Int)))
                                              fun (b_13 : Int) =>
                                              obind
                                                (obind (w_span_Has (b, Prod.snd (Prod.snd (Prod.snd x))))
                                                  fun (b_14 : Bool) =>
                                                  obind (w_ref1_HasSpan (b, Prod.snd (Prod.snd (Prod.snd x))))
                                                    fun (b_15 : Bool) =>
                                                    cnd (b_14 == b_15)
                                                      (obind (w_span_Count b) fun (b : Int) => some (decide (b = b_13)))
                                                      (some false))
                                                fun (b_14 : Bool) =>
                                                obind
                                                  (cnd b_14 (obind (w_span_May b) fun (b : Bool) => some b)
                                                    (some false))
                                                  fun (b : Bool) =>
                                                  cnd b
                                                    (obind (w_span_May (Prod.fst (Prod.snd x))) fun (b : Bool) =>
                                                      obind (w_ref1_MaySpans (Prod.fst (Prod.snd x)))
                                                        fun (b_15 : Bool) => some (b == b_15))
                                                    (some false)))))))))
theorem FV_law3_SpanAll_eq (w_law3_Spans : List (Int × Int) → Option (List (Int × Int))) (w_span_Add : (List (Int × Int)) × Int × Int → Option (List (Int × Int))) (w_ref1_AddSpan : (List (Int × Int)) × Int × Int → Option (List (Int × Int))) (w_ref1_SameSpans : (List (Int × Int)) × List (Int × Int) → Option (Bool)) (w_ref1_MaySpan : Int × Int → Option (Bool)) (w_span_Lacks : (List (Int × Int)) × Int × Int → Option (List (Int × Int))) (w_ref1_Lacks : (List (Int × Int)) × Int × Int → Option (List (Int × Int))) (w_span_Has : (List (Int × Int)) × Int → Option (Bool)) (w_ref1_HasSpan : (List (Int × Int)) × Int → Option (Bool)) (w_span_Count : List (Int × Int) → Option (Int)) (w_span_May : List (Int × Int) → Option (Bool)) (w_ref1_MaySpans : List (Int × Int) → Option (Bool)) (N : Nat) (x : (List (Int × Int)) × (List (Int × Int)) × (Int × Int) × Int) : F_law3_SpanAll w_law3_Spans w_span_Add w_ref1_AddSpan w_ref1_SameSpans w_ref1_MaySpan w_span_Lacks w_ref1_Lacks w_span_Has w_ref1_HasSpan w_span_Count w_span_May w_ref1_MaySpans N x = V_law3_SpanAll w_law3_Spans w_span_Add w_ref1_AddSpan w_ref1_SameSpans w_ref1_MaySpan w_span_Lacks w_ref1_Lacks w_span_Has w_ref1_HasSpan w_span_Count w_span_May w_ref1_MaySpans N x := by kernel_rfl
noncomputable def W_law3_SpanAll (N : Nat) (x : (List (Int × Int)) × (List (Int × Int)) × (Int × Int) × Int) : Option (Bool) :=
  cnd (decide ((8 : Int) < (↑(List.length (Prod.fst x)) : Int))) (some true)
    (cnd (decide ((8 : Int) < (↑(List.length (Prod.fst (Prod.snd x))) : Int))) (some true)
      (obind (W_law3_Spans N (Prod.fst x)) fun (b : List (Int × Int)) =>
        obind (W_span_Add N (b, Prod.fst (Prod.fst (Prod.snd (Prod.snd x))), Prod.snd (Prod.fst (Prod.snd (Prod.snd x)))))
          fun (b_1 : List (Int × Int)) =>
          obind
            (W_ref1_AddSpan N
              (b, Prod.fst (Prod.fst (Prod.snd (Prod.snd x))), Prod.snd (Prod.fst (Prod.snd (Prod.snd x)))))
            fun (b_2 : List (Int × Int)) =>
            obind (W_ref1_SameSpans N (b_1, b_2)) fun (b_3 : Bool) =>
              cnd (!b_3) (some false)
                (obind
                  (W_ref1_MaySpan N
                    (Prod.fst (Prod.fst (Prod.snd (Prod.snd x))), Prod.snd (Prod.fst (Prod.snd (Prod.snd x)))))
                  fun (b_4 : Bool) =>
                  cnd b_4
                    (obind
                      (W_span_Lacks N
                        (b, Prod.fst (Prod.fst (Prod.snd (Prod.snd x))), Prod.snd (Prod.fst (Prod.snd (Prod.snd x)))))
                      fun (b_5 : List (Int × Int)) =>
                      obind
                        (W_ref1_Lacks N
                          (b, Prod.fst (Prod.fst (Prod.snd (Prod.snd x))), Prod.snd (Prod.fst (Prod.snd (Prod.snd x)))))
                        fun (b_6 : List (Int × Int)) =>
                        obind (W_ref1_SameSpans N (b_5, b_6)) fun (b_7 : Bool) =>
                          cnd (!b_7) (some false)
                            (obind (W_span_Add N (b, (3 : Int), (30 : Int))) fun (b_8 : List (Int × Int)) =>
                              obind (W_ref1_AddSpan N (b, (3 : Int), (30 : Int))) fun (b_9 : List (Int × Int)) =>
                                obind (W_ref1_SameSpans N (b_8, b_9)) fun (b_10 : Bool) =>
                                  cnd (!b_10) (some false)
                                    (obind (W_ref1_MaySpan N ((3 : Int), (30 : Int))) fun (b_11 : Bool) =>
                                      cnd b_11
                                        (obind (W_span_Lacks N (b, (3 : Int), (30 : Int)))
                                          fun (b_12 : List (Int × Int)) =>
                                          obind (W_ref1_Lacks N (b, (3 : Int), (30 : Int)))
                                            fun (b_13 : List (Int × Int)) =>
                                            obind (W_ref1_SameSpans N (b_12, b_13)) fun (b_14 : Bool) =>
                                              cnd (!b_14) (some false)
                                                (obind (W_span_Add N (b, (20 : Int), (20 : Int)))
                                                  fun (b_15 : List (Int × Int)) =>
                                                  obind (W_ref1_AddSpan N (b, (20 : Int), (20 : Int)))
                                                    fun (b_16 : List (Int × Int)) =>
                                                    obind (W_ref1_SameSpans N (b_15, b_16)) fun (b_17 : Bool) =>
                                                      cnd (!b_17) (some false)
                                                        (obind (W_ref1_MaySpan N ((20 : Int), (20 : Int)))
                                                          fun (b_18 : Bool) =>
                                                          cnd b_18
                                                            (obind (W_span_Lacks N (b, (20 : Int), (20 : Int)))
                                                              fun (b_19 : List (Int × Int)) =>
                                                              obind (W_ref1_Lacks N (b, (20 : Int), (20 : Int)))
                                                                fun (b_20 : List (Int × Int)) =>
                                                                obind (W_ref1_SameSpans N (b_19, b_20))
                                                                  fun (b_21 : Bool) =>
                                                                  cnd (!b_21) (some false)
                                                                    (obind
                                                                      (loopN N
                                                                        (fun (v : Int × Int) =>
                                                                          cnd (decide (Prod.snd v < (↑(List.length b) : Int)))
                                                                            (cnd
                                                                              (decide ((0 : Int) ≤ Prod.snd v) &&
                                                                                decide (Prod.snd v < (↑(List.length b) : Int)))
                                                                              (cnd
                                                                                (decide ((0 : Int) ≤ Prod.snd v) &&
                                                                                  decide (Prod.snd v < (↑(List.length b) : Int)))
                                                                                (some
                                                                                  (Sum.inl
                                                                                    (wr IntKind.i64
                                                                                        (wr IntKind.i64
                                                                                            (wr IntKind.i64
                                                                                                (Prod.fst v +
                                                                                                  Prod.snd
                                                                                                    (List.getD b
                                                                                                      (Int.toNat
                                                                                                        (Prod.snd v))
                                                                                                      ((0 : Int),
                                                                                                        (0 : Int)))) -
                                                                                              Prod.fst
                                                                                                (List.getD b
                                                                                                  (Int.toNat (Prod.snd v))
                                                                                                  ((0 : Int),
                                                                                                    (0 : Int)))) +
                                                                                          (1 : Int)),
                                                                                      wr IntKind.i64
                                                                                        (Prod.snd v + (1 : Int)))))
                                                                                none)
                                                                              none)
                                                                            (some (Sum.inr (Prod.fst v))))
                                                                        ((0 : Int), (0 : Int)))
                                                                      fun (b_22 : Int) =>
                                                                      obind
                                                                        (obind
                                                                          (W_span_Has N
                                                                            (b, Prod.snd (Prod.snd (Prod.snd x))))
                                                                          fun (b_23 : Bool) =>
                                                                          obind
                                                                            (W_ref1_HasSpan N
                                                                              (b, Prod.snd (Prod.snd (Prod.snd x))))
                                                                            fun (b_24 : Bool) =>
                                                                            cnd (b_23 == b_24)
                                                                              (obind (W_span_Count N b) fun (b : Int) =>
                                                                                some (decide (b = b_22)))
                                                                              (some false))
                                                                        fun (b_23 : Bool) =>
                                                                        obind
                                                                          (cnd b_23
                                                                            (obind (W_span_May N b) fun (b : Bool) =>
                                                                              some b)
                                                                            (some false))
                                                                          fun (b : Bool) =>
                                                                          cnd b
                                                                            (obind (W_span_May N (Prod.fst (Prod.snd x)))
                                                                              fun (b : Bool) =>
                                                                              obind
                                                                                (W_ref1_MaySpans N
                                                                                  (Prod.fst (Prod.snd x)))
                                                                                fun (b_24 : Bool) => some (b == b_24))
                                                                            (some false)))
                                                            (obind
                                                              (loopN N
                                                                (fun (v : Int × Int) =>
                                                                  cnd (decide (Prod.snd v < (↑(List.length b) : Int)))
                                                                    (cnd
                                                                      (decide ((0 : Int) ≤ Prod.snd v) &&
                                                                        decide (Prod.snd v < (↑(List.length b) : Int)))
                                                                      (cnd
                                                                        (decide ((0 : Int) ≤ Prod.snd v) &&
                                                                          decide (Prod.snd v < (↑(List.length b) : Int)))
                                                                        (some
                                                                          (Sum.inl
                                                                            (wr IntKind.i64
                                                                                (wr IntKind.i64
                                                                                    (wr IntKind.i64
                                                                                        (Prod.fst v +
                                                                                          Prod.snd
                                                                                            (List.getD b
                                                                                              (Int.toNat (Prod.snd v))
                                                                                              ((0 : Int), (0 : Int)))) -
                                                                                      Prod.fst
                                                                                        (List.getD b
                                                                                          (Int.toNat (Prod.snd v))
                                                                                          ((0 : Int), (0 : Int)))) +
                                                                                  (1 : Int)),
                                                                              wr IntKind.i64 (Prod.snd v + (1 : Int)))))
                                                                        none)
                                                                      none)
                                                                    (some (Sum.inr (Prod.fst v))))
                                                                ((0 : Int), (0 : Int)))
                                                              fun (b_19 : Int) =>
                                                              obind
                                                                (obind
                                                                  (W_span_Has N (b, Prod.snd (Prod.snd (Prod.snd x))))
                                                                  fun (b_20 : Bool) =>
                                                                  obind
                                                                    (W_ref1_HasSpan N
                                                                      (b, Prod.snd (Prod.snd (Prod.snd x))))
                                                                    fun (b_21 : Bool) =>
                                                                    cnd (b_20 == b_21)
                                                                      (obind (W_span_Count N b) fun (b : Int) =>
                                                                        some (decide (b = b_19)))
                                                                      (some false))
                                                                fun (b_20 : Bool) =>
                                                                obind
                                                                  (cnd b_20
                                                                    (obind (W_span_May N b) fun (b : Bool) => some b)
                                                                    (some false))
                                                                  fun (b : Bool) =>
                                                                  cnd b
                                                                    (obind (W_span_May N (Prod.fst (Prod.snd x)))
                                                                      fun (b : Bool) =>
                                                                      obind (W_ref1_MaySpans N (Prod.fst (Prod.snd x)))
                                                                        fun (b_21 : Bool) => some (b == b_21))
                                                                    (some false)))))
                                        (obind (W_span_Add N (b, (20 : Int), (20 : Int))) fun (b_12 : List (Int × Int)) =>
                                          obind (W_ref1_AddSpan N (b, (20 : Int), (20 : Int)))
                                            fun (b_13 : List (Int × Int)) =>
                                            obind (W_ref1_SameSpans N (b_12, b_13)) fun (b_14 : Bool) =>
                                              cnd (!b_14) (some false)
                                                (obind (W_ref1_MaySpan N ((20 : Int), (20 : Int))) fun (b_15 : Bool) =>
                                                  cnd b_15
                                                    (obind (W_span_Lacks N (b, (20 : Int), (20 : Int)))
                                                      fun (b_16 : List (Int × Int)) =>
                                                      obind (W_ref1_Lacks N (b, (20 : Int), (20 : Int)))
                                                        fun (b_17 : List (Int × Int)) =>
                                                        obind (W_ref1_SameSpans N (b_16, b_17)) fun (b_18 : Bool) =>
                                                          cnd (!b_18) (some false)
                                                            (obind
                                                              (loopN N
                                                                (fun (v : Int × Int) =>
                                                                  cnd (decide (Prod.snd v < (↑(List.length b) : Int)))
                                                                    (cnd
                                                                      (decide ((0 : Int) ≤ Prod.snd v) &&
                                                                        decide (Prod.snd v < (↑(List.length b) : Int)))
                                                                      (cnd
                                                                        (decide ((0 : Int) ≤ Prod.snd v) &&
                                                                          decide (Prod.snd v < (↑(List.length b) : Int)))
                                                                        (some
                                                                          (Sum.inl
                                                                            (wr IntKind.i64
                                                                                (wr IntKind.i64
                                                                                    (wr IntKind.i64
                                                                                        (Prod.fst v +
                                                                                          Prod.snd
                                                                                            (List.getD b
                                                                                              (Int.toNat (Prod.snd v))
                                                                                              ((0 : Int), (0 : Int)))) -
                                                                                      Prod.fst
                                                                                        (List.getD b
                                                                                          (Int.toNat (Prod.snd v))
                                                                                          ((0 : Int), (0 : Int)))) +
                                                                                  (1 : Int)),
                                                                              wr IntKind.i64 (Prod.snd v + (1 : Int)))))
                                                                        none)
                                                                      none)
                                                                    (some (Sum.inr (Prod.fst v))))
                                                                ((0 : Int), (0 : Int)))
                                                              fun (b_19 : Int) =>
                                                              obind
                                                                (obind
                                                                  (W_span_Has N (b, Prod.snd (Prod.snd (Prod.snd x))))
                                                                  fun (b_20 : Bool) =>
                                                                  obind
                                                                    (W_ref1_HasSpan N
                                                                      (b, Prod.snd (Prod.snd (Prod.snd x))))
                                                                    fun (b_21 : Bool) =>
                                                                    cnd (b_20 == b_21)
                                                                      (obind (W_span_Count N b) fun (b : Int) =>
                                                                        some (decide (b = b_19)))
                                                                      (some false))
                                                                fun (b_20 : Bool) =>
                                                                obind
                                                                  (cnd b_20
                                                                    (obind (W_span_May N b) fun (b : Bool) => some b)
                                                                    (some false))
                                                                  fun (b : Bool) =>
                                                                  cnd b
                                                                    (obind (W_span_May N (Prod.fst (Prod.snd x)))
                                                                      fun (b : Bool) =>
                                                                      obind (W_ref1_MaySpans N (Prod.fst (Prod.snd x)))
                                                                        fun (b_21 : Bool) => some (b == b_21))
                                                                    (some false)))
                                                    (obind
                                                      (loopN N
                                                        (fun (v : Int × Int) =>
                                                          cnd (decide (Prod.snd v < (↑(List.length b) : Int)))
                                                            (cnd
                                                              (decide ((0 : Int) ≤ Prod.snd v) &&
                                                                decide (Prod.snd v < (↑(List.length b) : Int)))
                                                              (cnd
                                                                (decide ((0 : Int) ≤ Prod.snd v) &&
                                                                  decide (Prod.snd v < (↑(List.length b) : Int)))
                                                                (some
                                                                  (Sum.inl
                                                                    (wr IntKind.i64
                                                                        (wr IntKind.i64
                                                                            (wr IntKind.i64
                                                                                (Prod.fst v +
                                                                                  Prod.snd
                                                                                    (List.getD b (Int.toNat (Prod.snd v))
                                                                                      ((0 : Int), (0 : Int)))) -
                                                                              Prod.fst
                                                                                (List.getD b (Int.toNat (Prod.snd v))
                                                                                  ((0 : Int), (0 : Int)))) +
                                                                          (1 : Int)),
                                                                      wr IntKind.i64 (Prod.snd v + (1 : Int)))))
                                                                none)
                                                              none)
                                                            (some (Sum.inr (Prod.fst v))))
                                                        ((0 : Int), (0 : Int)))
                                                      fun (b_16 : Int) =>
                                                      obind
                                                        (obind (W_span_Has N (b, Prod.snd (Prod.snd (Prod.snd x))))
                                                          fun (b_17 : Bool) =>
                                                          obind (W_ref1_HasSpan N (b, Prod.snd (Prod.snd (Prod.snd x))))
                                                            fun (b_18 : Bool) =>
                                                            cnd (b_17 == b_18)
                                                              (obind (W_span_Count N b) fun (b : Int) =>
                                                                some (decide (b = b_16)))
                                                              (some false))
                                                        fun (b_17 : Bool) =>
                                                        obind
                                                          (cnd b_17 (obind (W_span_May N b) fun (b : Bool) => some b)
                                                            (some false))
                                                          fun (b : Bool) =>
                                                          cnd b
                                                            (obind (W_span_May N (Prod.fst (Prod.snd x)))
                                                              fun (b : Bool) =>
                                                              obind (W_ref1_MaySpans N (Prod.fst (Prod.snd x)))
                                                                fun (b_18 : Bool) => some (b == b_18))
                                                            (some false)))))))
                    (obind (W_span_Add N (b, (3 : Int), (30 : Int))) fun (b_5 : List (Int × Int)) =>
                      obind (W_ref1_AddSpan N (b, (3 : Int), (30 : Int))) fun (b_6 : List (Int × Int)) =>
                        obind (W_ref1_SameSpans N (b_5, b_6)) fun (b_7 : Bool) =>
                          cnd (!b_7) (some false)
                            (obind (W_ref1_MaySpan N ((3 : Int), (30 : Int))) fun (b_8 : Bool) =>
                              cnd b_8
                                (obind (W_span_Lacks N (b, (3 : Int), (30 : Int))) fun (b_9 : List (Int × Int)) =>
                                  obind (W_ref1_Lacks N (b, (3 : Int), (30 : Int))) fun (b_10 : List (Int × Int)) =>
                                    obind (W_ref1_SameSpans N (b_9, b_10)) fun (b_11 : Bool) =>
                                      cnd (!b_11) (some false)
                                        (obind (W_span_Add N (b, (20 : Int), (20 : Int))) fun (b_12 : List (Int × Int)) =>
                                          obind (W_ref1_AddSpan N (b, (20 : Int), (20 : Int)))
                                            fun (b_13 : List (Int × Int)) =>
                                            obind (W_ref1_SameSpans N (b_12, b_13)) fun (b_14 : Bool) =>
                                              cnd (!b_14) (some false)
                                                (obind (W_ref1_MaySpan N ((20 : Int), (20 : Int))) fun (b_15 : Bool) =>
                                                  cnd b_15
                                                    (obind (W_span_Lacks N (b, (20 : Int), (20 : Int)))
                                                      fun (b_16 : List (Int × Int)) =>
                                                      obind (W_ref1_Lacks N (b, (20 : Int), (20 : Int)))
                                                        fun (b_17 : List (Int × Int)) =>
                                                        obind (W_ref1_SameSpans N (b_16, b_17)) fun (b_18 : Bool) =>
                                                          cnd (!b_18) (some false)
                                                            (obind
                                                              (loopN N
                                                                (fun (v : Int × Int) =>
                                                                  cnd (decide (Prod.snd v < (↑(List.length b) : Int)))
                                                                    (cnd
                                                                      (decide ((0 : Int) ≤ Prod.snd v) &&
                                                                        decide (Prod.snd v < (↑(List.length b) : Int)))
                                                                      (cnd
                                                                        (decide ((0 : Int) ≤ Prod.snd v) &&
                                                                          decide (Prod.snd v < (↑(List.length b) : Int)))
                                                                        (some
                                                                          (Sum.inl
                                                                            (wr IntKind.i64
                                                                                (wr IntKind.i64
                                                                                    (wr IntKind.i64
                                                                                        (Prod.fst v +
                                                                                          Prod.snd
                                                                                            (List.getD b
                                                                                              (Int.toNat (Prod.snd v))
                                                                                              ((0 : Int), (0 : Int)))) -
                                                                                      Prod.fst
                                                                                        (List.getD b
                                                                                          (Int.toNat (Prod.snd v))
                                                                                          ((0 : Int), (0 : Int)))) +
                                                                                  (1 : Int)),
                                                                              wr IntKind.i64 (Prod.snd v + (1 : Int)))))
                                                                        none)
                                                                      none)
                                                                    (some (Sum.inr (Prod.fst v))))
                                                                ((0 : Int), (0 : Int)))
                                                              fun (b_19 : Int) =>
                                                              obind
                                                                (obind
                                                                  (W_span_Has N (b, Prod.snd (Prod.snd (Prod.snd x))))
                                                                  fun (b_20 : Bool) =>
                                                                  obind
                                                                    (W_ref1_HasSpan N
                                                                      (b, Prod.snd (Prod.snd (Prod.snd x))))
                                                                    fun (b_21 : Bool) =>
                                                                    cnd (b_20 == b_21)
                                                                      (obind (W_span_Count N b) fun (b : Int) =>
                                                                        some (decide (b = b_19)))
                                                                      (some false))
                                                                fun (b_20 : Bool) =>
                                                                obind
                                                                  (cnd b_20
                                                                    (obind (W_span_May N b) fun (b : Bool) => some b)
                                                                    (some false))
                                                                  fun (b : Bool) =>
                                                                  cnd b
                                                                    (obind (W_span_May N (Prod.fst (Prod.snd x)))
                                                                      fun (b : Bool) =>
                                                                      obind (W_ref1_MaySpans N (Prod.fst (Prod.snd x)))
                                                                        fun (b_21 : Bool) => some (b == b_21))
                                                                    (some false)))
                                                    (obind
                                                      (loopN N
                                                        (fun (v : Int × Int) =>
                                                          cnd (decide (Prod.snd v < (↑(List.length b) : Int)))
                                                            (cnd
                                                              (decide ((0 : Int) ≤ Prod.snd v) &&
                                                                decide (Prod.snd v < (↑(List.length b) : Int)))
                                                              (cnd
                                                                (decide ((0 : Int) ≤ Prod.snd v) &&
                                                                  decide (Prod.snd v < (↑(List.length b) : Int)))
                                                                (some
                                                                  (Sum.inl
                                                                    (wr IntKind.i64
                                                                        (wr IntKind.i64
                                                                            (wr IntKind.i64
                                                                                (Prod.fst v +
                                                                                  Prod.snd
                                                                                    (List.getD b (Int.toNat (Prod.snd v))
                                                                                      ((0 : Int), (0 : Int)))) -
                                                                              Prod.fst
                                                                                (List.getD b (Int.toNat (Prod.snd v))
                                                                                  ((0 : Int), (0 : Int)))) +
                                                                          (1 : Int)),
                                                                      wr IntKind.i64 (Prod.snd v + (1 : Int)))))
                                                                none)
                                                              none)
                                                            (some (Sum.inr (Prod.fst v))))
                                                        ((0 : Int), (0 : Int)))
                                                      fun (b_16 : Int) =>
                                                      obind
                                                        (obind (W_span_Has N (b, Prod.snd (Prod.snd (Prod.snd x))))
                                                          fun (b_17 : Bool) =>
                                                          obind (W_ref1_HasSpan N (b, Prod.snd (Prod.snd (Prod.snd x))))
                                                            fun (b_18 : Bool) =>
                                                            cnd (b_17 == b_18)
                                                              (obind (W_span_Count N b) fun (b : Int) =>
                                                                some (decide (b = b_16)))
                                                              (some false))
                                                        fun (b_17 : Bool) =>
                                                        obind
                                                          (cnd b_17 (obind (W_span_May N b) fun (b : Bool) => some b)
                                                            (some false))
                                                          fun (b : Bool) =>
                                                          cnd b
                                                            (obind (W_span_May N (Prod.fst (Prod.snd x)))
                                                              fun (b : Bool) =>
                                                              obind (W_ref1_MaySpans N (Prod.fst (Prod.snd x)))
                                                                fun (b_18 : Bool) => some (b == b_18))
                                                            (some false)))))
                                (obind (W_span_Add N (b, (20 : Int), (20 : Int))) fun (b_9 : List (Int × Int)) =>
                                  obind (W_ref1_AddSpan N (b, (20 : Int), (20 : Int))) fun (b_10 : List (Int × Int)) =>
                                    obind (W_ref1_SameSpans N (b_9, b_10)) fun (b_11 : Bool) =>
                                      cnd (!b_11) (some false)
                                        (obind (W_ref1_MaySpan N ((20 : Int), (20 : Int))) fun (b_12 : Bool) =>
                                          cnd b_12
                                            (obind (W_span_Lacks N (b, (20 : Int), (20 : Int)))
                                              fun (b_13 : List (Int × Int)) =>
                                              obind (W_ref1_Lacks N (b, (20 : Int), (20 : Int)))
                                                fun (b_14 : List (Int × Int)) =>
                                                obind (W_ref1_SameSpans N (b_13, b_14)) fun (b_15 : Bool) =>
                                                  cnd (!b_15) (some false)
                                                    (obind
                                                      (loopN N
                                                        (fun (v : Int × Int) =>
                                                          cnd (decide (Prod.snd v < (↑(List.length b) : Int)))
                                                            (cnd
                                                              (decide ((0 : Int) ≤ Prod.snd v) &&
                                                                decide (Prod.snd v < (↑(List.length b) : Int)))
                                                              (cnd
                                                                (decide ((0 : Int) ≤ Prod.snd v) &&
                                                                  decide (Prod.snd v < (↑(List.length b) : Int)))
                                                                (some
                                                                  (Sum.inl
                                                                    (wr IntKind.i64
                                                                        (wr IntKind.i64
                                                                            (wr IntKind.i64
                                                                                (Prod.fst v +
                                                                                  Prod.snd
                                                                                    (List.getD b (Int.toNat (Prod.snd v))
                                                                                      ((0 : Int), (0 : Int)))) -
                                                                              Prod.fst
                                                                                (List.getD b (Int.toNat (Prod.snd v))
                                                                                  ((0 : Int), (0 : Int)))) +
                                                                          (1 : Int)),
                                                                      wr IntKind.i64 (Prod.snd v + (1 : Int)))))
                                                                none)
                                                              none)
                                                            (some (Sum.inr (Prod.fst v))))
                                                        ((0 : Int), (0 : Int)))
                                                      fun (b_16 : Int) =>
                                                      obind
                                                        (obind (W_span_Has N (b, Prod.snd (Prod.snd (Prod.snd x))))
                                                          fun (b_17 : Bool) =>
                                                          obind (W_ref1_HasSpan N (b, Prod.snd (Prod.snd (Prod.snd x))))
                                                            fun (b_18 : Bool) =>
                                                            cnd (b_17 == b_18)
                                                              (obind (W_span_Count N b) fun (b : Int) =>
                                                                some (decide (b = b_16)))
                                                              (some false))
                                                        fun (b_17 : Bool) =>
                                                        obind
                                                          (cnd b_17 (obind (W_span_May N b) fun (b : Bool) => some b)
                                                            (some false))
                                                          fun (b : Bool) =>
                                                          cnd b
                                                            (obind (W_span_May N (Prod.fst (Prod.snd x)))
                                                              fun (b : Bool) =>
                                                              obind (W_ref1_MaySpans N (Prod.fst (Prod.snd x)))
                                                                fun (b_18 : Bool) => some (b == b_18))
                                                            (some false)))
                                            (obind
                                              (loopN N
                                                (fun (v : Int × Int) =>
                                                  cnd (decide (Prod.snd v < (↑(List.length b) : Int)))
                                                    (cnd
                                                      (decide ((0 : Int) ≤ Prod.snd v) &&
                                                        decide (Prod.snd v < (↑(List.length b) : Int)))
                                                      (cnd
                                                        (decide ((0 : Int) ≤ Prod.snd v) &&
                                                          decide (Prod.snd v < (↑(List.length b) : Int)))
                                                        (some
                                                          (Sum.inl
                                                            (wr IntKind.i64
                                                                (wr IntKind.i64
                                                                    (wr IntKind.i64
                                                                        (Prod.fst v +
                                                                          Prod.snd
                                                                            (List.getD b (Int.toNat (Prod.snd v))
                                                                              ((0 : Int), (0 : Int)))) -
                                                                      Prod.fst
                                                                        (List.getD b (Int.toNat (Prod.snd v))
                                                                          ((0 : Int), (0 : Int)))) +
                                                                  (1 : Int)),
                                                              wr IntKind.i64 (Prod.snd v + (1 : Int)))))
                                                        none)
                                                      none)
                                                    (some (Sum.inr (Prod.fst v))))
                                                ((0 : Int), (0 : Int)))
                                              fun (b_13 : Int) =>
                                              obind
                                                (obind (W_span_Has N (b, Prod.snd (Prod.snd (Prod.snd x))))
                                                  fun (b_14 : Bool) =>
                                                  obind (W_ref1_HasSpan N (b, Prod.snd (Prod.snd (Prod.snd x))))
                                                    fun (b_15 : Bool) =>
                                                    cnd (b_14 == b_15)
                                                      (obind (W_span_Count N b) fun (b : Int) => some (decide (b = b_13)))
                                                      (some false))
                                                fun (b_14 : Bool) =>
                                                obind
                                                  (cnd b_14 (obind (W_span_May N b) fun (b : Bool) => some b)
                                                    (some false))
                                                  fun (b : Bool) =>
                                                  cnd b
                                                    (obind (W_span_May N (Prod.fst (Prod.snd x))) fun (b : Bool) =>
                                                      obind (W_ref1_MaySpans N (Prod.fst (Prod.snd x)))
                                                        fun (b_15 : Bool) => some (b == b_15))
                                                    (some false)))))))))
theorem F_law3_SpanAll_eq (N : Nat) (x : (List (Int × Int)) × (List (Int × Int)) × (Int × Int) × Int) : F_law3_SpanAll (W_law3_Spans N) (W_span_Add N) (W_ref1_AddSpan N) (W_ref1_SameSpans N) (W_ref1_MaySpan N) (W_span_Lacks N) (W_ref1_Lacks N) (W_span_Has N) (W_ref1_HasSpan N) (W_span_Count N) (W_span_May N) (W_ref1_MaySpans N) N x = W_law3_SpanAll N x := (FV_law3_SpanAll_eq (W_law3_Spans N) (W_span_Add N) (W_ref1_AddSpan N) (W_ref1_SameSpans N) (W_ref1_MaySpan N) (W_span_Lacks N) (W_ref1_Lacks N) (W_span_Has N) (W_ref1_HasSpan N) (W_span_Count N) (W_span_May N) (W_ref1_MaySpans N) N x).trans (by kernel_rfl)
noncomputable def conw_law3_SpanAll (w : (List (Int × Int)) × (List (Int × Int)) × (Int × Int) × Int → Option (Bool)) : Con := ⟨6, as_law3_SpanAll, bs_law3_SpanAll, Bool, w, out_law3_SpanAll⟩
noncomputable def con_law3_SpanAll (N : Nat) : Con := conw_law3_SpanAll (W_law3_SpanAll N)
theorem R_law3_SpanAll_eq (x : (List (Int × Int)) × (List (Int × Int)) × (Int × Int) × Int) (y : Bool) : retOf2 P0 Try.f6 (kpL []) (lbOf as_law3_SpanAll bs_law3_SpanAll x) (patS ⟨113, [], [], []⟩ pout_law3_SpanAll y) = some (out_law3_SpanAll y) := by kernel_rfl
theorem con_law3_SpanAll_ok (N : Nat) : Con.ok P0 (con_law3_SpanAll N) := ⟨⟨Try.f6, Try.func6, by kernel_rfl, by kernel_rfl⟩, fun (x : (List (Int × Int)) × (List (Int × Int)) × (Int × Int) × Int) (r : Bool) (hr : W_law3_SpanAll N x = some r) =>
  spec2_evT (Γ := G_law3_SpanAll (W_law3_Spans N) (W_span_Add N) (W_ref1_AddSpan N) (W_ref1_SameSpans N) (W_ref1_MaySpan N) (W_span_Lacks N) (W_ref1_Lacks N) (W_span_Has N) (W_ref1_HasSpan N) (W_span_Count N) (W_span_May N) (W_ref1_MaySpans N) N) (Λ := L0) (pout := pout_law3_SpanAll) (kp := kpL []) mixed (orcOf_ok _ (by simp only [List.mem_cons, List.not_mem_nil, or_false, forall_eq_or_imp, forall_eq]; exact ⟨con_law3_begun_ok N, con_law3_Spans_ok N, con_span_Add_ok N, con_ref1_AddSpan_ok N, con_ref1_SameSpans_ok N, con_ref1_MaySpan_ok N, con_span_Lacks_ok N, con_ref1_Lacks_ok N, con_span_Has_ok N, con_ref1_HasSpan_ok N, con_span_Count_ok N, con_span_May_ok N, con_ref1_MaySpans_ok N⟩)) Try.func6 (c := bodyOf Try.f6) (by kernel_rfl) (by kernel_rfl) (of_decide_eq_true (by kernel_rfl)) ((F_law3_SpanAll_eq N x).trans hr) (R_law3_SpanAll_eq x r)⟩
/-! What is reckoned. -/
theorem wr_m {z : Int} (h : -140737488355328 ≤ z) (h2 : z ≤ 140737488355328) : wr .i64 z = z := wr_i64 (by omega) (by omega)
/-- A loop over a list, by a function of Lean's own. -/
theorem loop_rec {σ τ ρ α : Type} (d : α) (l : List α) (mk : Int → σ → τ) (R : List α → σ → ρ) (Inv : σ → List α → Prop) {f : τ → Option (τ ⊕ ρ)}
    (hend : ∀ s, Inv s [] → f (mk l.length s) = some (.inr (R [] s)))
    (hstep : ∀ (i : Nat) (h : α) (r : List α) (s : σ), i < l.length → l.getD i d = h → Inv s (h :: r) → (∃ s', f (mk i s) = some (.inl (mk ((i : Int) + 1) s')) ∧ R (h :: r) s = R r s' ∧ Inv s' r) ∨ f (mk i s) = some (.inr (R (h :: r) s)))
    {N : Nat} {s : σ} (hN : l.length < N) (h0 : Inv s l) : loopN N f (mk 0 s) = some (R l s) := by
  have key : ∀ (rest pre : List α) (N : Nat) (s : σ), l = pre ++ rest → rest.length < N → Inv s rest → loopN N f (mk pre.length s) = some (R rest s) := by
    intro rest
    induction rest with
    | nil =>
      intro pre N s e hN hI
      obtain ⟨M, rfl⟩ : ∃ M, N = M + 1 := ⟨N - 1, by simp at hN; omega⟩
      rw [List.append_nil] at e
      subst e
      simp only [loopN, hend s hI]
    | cons h r ih =>
      intro pre N s e hN hI
      obtain ⟨M, rfl⟩ : ∃ M, N = M + 1 := ⟨N - 1, by simp at hN; omega⟩
      have hg : l.getD pre.length d = h := by rw [e, List.getD_eq_getElem?_getD, List.getElem?_append_right (Nat.le_refl _)]; simp
      have hi : pre.length < l.length := by rw [e]; simp
      rcases hstep pre.length h r s hi hg hI with ⟨s', h1, h2, h3⟩ | h1
      · simp only [loopN, h1]
        rw [h2]
        have := ih (pre ++ [h]) M s' (by rw [e]; simp) (by simp at hN; omega) h3
        simpa using this
      · simp only [loopN, h1]
  have := key l [] N s rfl hN h0
  simpa using this
theorem obind_rec {σ τ ρ α β : Type} (d : α) (l : List α) (mk : Int → σ → τ) (R : List α → σ → ρ) (Inv : σ → List α → Prop) {f : τ → Option (τ ⊕ ρ)} {N : Nat} (s : σ) {x : τ} {k : ρ → Option β} {res : Option β} (hx : x = mk 0 s) (hN : l.length < N) (h0 : Inv s l) (hk : k (R l s) = res)
    (hend : ∀ s, Inv s [] → f (mk l.length s) = some (.inr (R [] s)))
    (hstep : ∀ (i : Nat) (h : α) (r : List α) (s : σ), i < l.length → l.getD i d = h → Inv s (h :: r) → (∃ s', f (mk i s) = some (.inl (mk ((i : Int) + 1) s')) ∧ R (h :: r) s = R r s' ∧ Inv s' r) ∨ f (mk i s) = some (.inr (R (h :: r) s))) : obind (loopN N f x) k = res := by
  subst hx
  rw [loop_rec d l mk R Inv hend hstep hN h0]
  exact hk
abbrev Sp := Int × Int
def okS (s : Sp) : Prop := 1 ≤ s.1 ∧ s.1 ≤ s.2 ∧ s.2 ≤ 1000000
open Classical in
theorem rOk (N : Nat) (a b : Int) : W_ref1_MaySpan N (a, b) = some (decide (okS (a, b))) := by
  unfold W_ref1_MaySpan
  simp only
  by_cases h1 : 1 ≤ a
  · rw [dT h1, cnd_t, obind_s]
    simp only
    by_cases h2 : a ≤ b
    · rw [dT h2, cnd_t]
      by_cases h3 : b ≤ 1000000
      · rw [dT h3, dT (show okS (a, b) from ⟨h1, h2, h3⟩)]
      · rw [dF h3, dF (fun h : okS (a, b) => h3 h.2.2)]
    · rw [dF h2, cnd_f, dF (fun h : okS (a, b) => h2 h.2.1)]
  · rw [dF h1, cnd_f, obind_s]
    simp only
    rw [cnd_f, dF (fun h : okS (a, b) => h1 h.1)]
open Classical in
theorem sread_eq (N : Nat) (a b : Int) : W_span_read N (a, b) = some (if okS (a, b) then .inl (a, b) else .inr ()) := by
  unfold W_span_read
  simp only
  by_cases h1 : a < 1
  · rw [dT h1, cnd_t, obind_s]
    simp only
    rw [cnd_t, if_neg (fun h : okS (a, b) => by have := h.1; omega)]
  · rw [dF h1, cnd_f, obind_s]
    simp only
    by_cases h2 : b < a
    · rw [dT h2, cnd_t, if_neg (fun h : okS (a, b) => by have := h.2.1; omega)]
    · rw [dF h2, cnd_f]
      by_cases h3 : 1000000 < b
      · rw [dT h3, cnd_t, if_neg (fun h : okS (a, b) => by have := h.2.2; omega)]
      · rw [dF h3, cnd_f, if_pos (show okS (a, b) from ⟨by simp only; omega, by simp only; omega, by simp only; omega⟩)]
def B (h : Sp) : Prop := 0 ≤ h.1 ∧ h.1 ≤ 1000001 ∧ 0 ≤ h.2 ∧ h.2 ≤ 1000001
theorem okS.B {s : Sp} (h : okS s) : B s := ⟨by have := h.1; omega, by have := h.2.1; have := h.2.2; omega, by have := h.1; have := h.2.1; omega, by have := h.2.2; omega⟩
abbrev AS3 := Sp × List Sp × List Sp
def ad (s : AS3) (h : Sp) : AS3 := if h.2 + 1 < s.1.1 then (s.1, s.2.1 ++ [h], s.2.2) else if s.1.2 + 1 < h.1 then (s.1, s.2.1, s.2.2 ++ [h]) else ((min s.1.1 h.1, max s.1.2 h.2), s.2.1, s.2.2)
def adI (s : AS3) (rest : List Sp) : Prop := B s.1 ∧ s.2.1.length + s.2.2.length + rest.length ≤ 1000 ∧ ∀ h ∈ rest, B h
theorem adI_step {s : AS3} {h : Sp} {r : List Sp} (hI : adI s (h :: r)) : adI (ad s h) r := by
  obtain ⟨h1, h2, h3⟩ := hI
  have hb := h3 h (by simp)
  have hr : ∀ x ∈ r, B x := fun x hx => h3 x (by simp [hx])
  simp only [List.length_cons] at h2
  unfold ad
  split
  · exact ⟨h1, by simp; omega, hr⟩
  · split
    · exact ⟨h1, by simp; omega, hr⟩
    · refine ⟨⟨?_, ?_, ?_, ?_⟩, by simp only; omega, hr⟩ <;> (simp only; obtain ⟨_, _, _, _⟩ := h1; obtain ⟨_, _, _, _⟩ := hb; omega)
def adR (l : List Sp) (s : AS3) : List Sp × Sp × List Sp := ((l.foldl ad s).2.2, (l.foldl ad s).1, (l.foldl ad s).2.1)
open Classical in
noncomputable def addP (l : List Sp) (s : Sp) : List Sp := if okS s then (l.foldl ad (s, [], [])).2.1 ++ [(l.foldl ad (s, [], [])).1] ++ (l.foldl ad (s, [], [])).2.2 else l
theorem ad_len (l : List Sp) : ∀ s : AS3, (l.foldl ad s).2.1.length + (l.foldl ad s).2.2.length ≤ s.2.1.length + s.2.2.length + l.length := by
  induction l with
  | nil => intro s; simp
  | cons h r ih =>
    intro s
    have := ih (ad s h)
    have h2 : (ad s h).2.1.length + (ad s h).2.2.length ≤ s.2.1.length + s.2.2.length + 1 := by unfold ad; split; · simp; omega
                                                                                                split <;> simp <;> omega
    simp only [List.foldl_cons, List.length_cons]; omega
open Classical in
theorem rAddS_eq (N : Nat) (l : List Sp) (s : Sp) (hN : l.length < N) (hl : l.length ≤ 900) (hb : ∀ h ∈ l, B h) : W_ref1_AddSpan N (l, s) = some (addP l s) := by
  obtain ⟨a, b⟩ := s
  unfold W_ref1_AddSpan addP
  simp only [rOk, obind_s]
  by_cases hs : okS (a, b)
  case neg => rw [dF hs, Bool.not_false, cnd_t, dT (by omega), cnd_t, if_neg hs]
  rw [dT hs, Bool.not_true, cnd_f, if_pos hs]
  refine obind_rec (0, 0) l (fun i (s : AS3) => (i, s)) adR adI ((a, b), [], []) rfl hN ⟨hs.B, by simp; omega, hb⟩ ?_ ?_ ?_
  · have hlen := ad_len l ((a, b), [], [])
    unfold adR
    simp only [List.length_nil] at hlen
    generalize l.foldl ad ((a, b), [], []) = R at *
    obtain ⟨⟨x, y⟩, fr, bk⟩ := R
    simp only at hlen ⊢
    rw [dT (by simp only [List.length_singleton]; omega), cnd_t, dT (by simp only [List.length_append, List.length_singleton]; omega), cnd_t]
  · rintro ⟨⟨x, y⟩, fr, bk⟩ hI
    simp only
    rw [dF (by omega), cnd_f]
    rfl
  · rintro i ⟨p, q⟩ r ⟨⟨x, y⟩, fr, bk⟩ hi hg hI
    left
    refine ⟨ad ((x, y), fr, bk) (p, q), ?_, rfl, adI_step hI⟩
    obtain ⟨⟨b1, b2, b3, b4⟩, hlen, hbb⟩ := hI
    obtain ⟨c1, c2, c3, c4⟩ := hbb (p, q) (by simp)
    simp only [List.length_cons] at b1 b2 b3 b4 c1 c2 c3 c4 hlen
    simp only [Int.toNat_natCast, hg]
    have d1 : decide ((i : Int) < l.length) = true := dT (by omega)
    have d2 : decide ((0 : Int) ≤ i) = true := dT (by omega)
    simp only [d1, d2, Bool.and_self, cnd_t]
    rw [wr_m (z := q + 1) (by omega) (by omega), wr_m (z := (i : Int) + 1) (by omega) (by omega), wr_m (z := y + 1) (by omega) (by omega)]
    unfold ad
    simp only
    by_cases k1 : q + 1 < x
    · rw [dT k1, cnd_t, dT (by simp only [List.length_singleton]; omega), cnd_t, if_pos k1]
    · rw [dF k1, cnd_f, if_neg k1]
      by_cases k2 : y + 1 < p
      · rw [dT k2, cnd_t, dT (by simp only [List.length_singleton]; omega), cnd_t, if_pos k2]
      · rw [dF k2, cnd_f, if_neg k2]
open Classical in
theorem sAddS_eq (N : Nat) (l : List Sp) (s : Sp) (hN : l.length < N) (hl : l.length ≤ 900) (hb : ∀ h ∈ l, B h) : W_span_Add N (l, s) = some (addP l s) := by
  obtain ⟨a, b⟩ := s
  unfold W_span_Add addP
  simp only [sread_eq, obind_s]
  by_cases hs : okS (a, b)
  case neg =>
    rw [if_neg hs, selim_r, if_neg hs]
    unfold W_slices_Clone_api_Span
    rw [dT (by omega), cnd_t, obind_s]
  rw [if_pos hs, selim_l, if_pos hs]
  refine obind_rec (0, 0) l (fun i (s : AS3) => (i, s)) adR adI ((a, b), [], []) rfl hN ⟨hs.B, by simp; omega, hb⟩ ?_ ?_ ?_
  · have hlen := ad_len l ((a, b), [], [])
    unfold adR
    simp only [List.length_nil] at hlen
    generalize l.foldl ad ((a, b), [], []) = R at *
    obtain ⟨⟨x, y⟩, fr, bk⟩ := R
    simp only at hlen ⊢
    rw [dT (by simp only [List.length_singleton]; omega), cnd_t, dT (by simp only [List.length_append, List.length_singleton]; omega), cnd_t]
  · rintro ⟨⟨x, y⟩, fr, bk⟩ hI
    simp only
    rw [dF (by omega), cnd_f]
    rfl
  · rintro i ⟨p, q⟩ r ⟨⟨x, y⟩, fr, bk⟩ hi hg hI
    left
    refine ⟨ad ((x, y), fr, bk) (p, q), ?_, rfl, adI_step hI⟩
    obtain ⟨⟨b1, b2, b3, b4⟩, hlen, hbb⟩ := hI
    obtain ⟨c1, c2, c3, c4⟩ := hbb (p, q) (by simp)
    simp only [List.length_cons] at b1 b2 b3 b4 c1 c2 c3 c4 hlen
    simp only [Int.toNat_natCast, hg]
    have d1 : decide ((i : Int) < l.length) = true := dT (by omega)
    have d2 : decide ((0 : Int) ≤ i) = true := dT (by omega)
    simp only [d1, d2, Bool.and_self, cnd_t]
    rw [wr_m (z := x - 1) (by omega) (by omega), wr_m (z := (i : Int) + 1) (by omega) (by omega), wr_m (z := y + 1) (by omega) (by omega)]
    unfold ad
    simp only
    by_cases k1 : q + 1 < x
    · rw [dT (show q < x - 1 by omega), cnd_t, dT (by simp only [List.length_singleton]; omega), cnd_t, if_pos k1]
    · rw [dF (show ¬ q < x - 1 by omega), cnd_f, if_neg k1]
      by_cases k2 : y + 1 < p
      · rw [dT k2, cnd_t, dT (by simp only [List.length_singleton]; omega), cnd_t, if_pos k2]
      · rw [dF k2, cnd_f, if_neg k2]
def Rr (a b : Sp) : Prop := a.2 + 1 < b.1
def VS (l : List Sp) : Prop := (∀ a ∈ l, okS a) ∧ l.Pairwise Rr
structure J (s : AS3) (rest : List Sp) : Prop where
  f1 : ∀ a ∈ s.2.1, okS a
  f2 : s.2.1.Pairwise Rr
  m : okS s.1
  fm : ∀ a ∈ s.2.1, a.2 + 1 < s.1.1
  b1 : ∀ a ∈ s.2.2, okS a
  b2 : s.2.2.Pairwise Rr
  bm : ∀ a ∈ s.2.2, s.1.2 + 1 < a.1
  br : ∀ a ∈ s.2.2, ∀ h ∈ rest, a.2 + 1 < h.1
  fr : ∀ a ∈ s.2.1, ∀ h ∈ rest, a.2 + 1 < h.1
  r1 : ∀ h ∈ rest, okS h
  r2 : rest.Pairwise Rr
theorem J_step {s : AS3} {h : Sp} {r : List Sp} (j : J s (h :: r)) : J (ad s h) r := by
  obtain ⟨f1, f2, m, fm, b1, b2, bm, br, fr, r1, r2⟩ := j
  have hh := r1 h (by simp)
  rw [List.pairwise_cons] at r2
  have r1' : ∀ x ∈ r, okS x := fun x hx => r1 x (by simp [hx])
  have br' : ∀ a ∈ s.2.2, ∀ x ∈ r, a.2 + 1 < x.1 := fun a ha x hx => br a ha x (by simp [hx])
  have fr' : ∀ a ∈ s.2.1, ∀ x ∈ r, a.2 + 1 < x.1 := fun a ha x hx => fr a ha x (by simp [hx])
  have bh : ∀ a ∈ s.2.2, a.2 + 1 < h.1 := fun a ha => br a ha h (by simp)
  have fh : ∀ a ∈ s.2.1, a.2 + 1 < h.1 := fun a ha => fr a ha h (by simp)
  obtain ⟨m1, m2, m3⟩ := m
  obtain ⟨g1, g2, g3⟩ := hh
  unfold ad
  split
  · rename_i k
    refine ⟨?_, ?_, ⟨m1, m2, m3⟩, ?_, b1, b2, bm, br', ?_, r1', r2.2⟩
    · intro a ha
      simp only [List.mem_append, List.mem_singleton] at ha
      rcases ha with ha | rfl
      · exact f1 a ha
      · exact ⟨g1, g2, g3⟩
    · rw [List.pairwise_append]
      exact ⟨f2, by simp, fun a ha b hb => by simp at hb; subst hb; exact fh a ha⟩
    · intro a ha
      simp only [List.mem_append, List.mem_singleton] at ha
      rcases ha with ha | rfl
      · exact fm a ha
      · exact k
    · intro a ha x hx
      simp only [List.mem_append, List.mem_singleton] at ha
      rcases ha with ha | rfl
      · exact fr' a ha x hx
      · exact r2.1 x hx
  · rename_i k
    split
    · rename_i k2
      refine ⟨f1, f2, ⟨m1, m2, m3⟩, fm, ?_, ?_, ?_, ?_, fr', r1', r2.2⟩
      · intro a ha
        simp only [List.mem_append, List.mem_singleton] at ha
        rcases ha with ha | rfl
        · exact b1 a ha
        · exact ⟨g1, g2, g3⟩
      · rw [List.pairwise_append]
        exact ⟨b2, by simp, fun a ha b hb => by simp at hb; subst hb; exact bh a ha⟩
      · intro a ha
        simp only [List.mem_append, List.mem_singleton] at ha
        rcases ha with ha | rfl
        · exact bm a ha
        · exact k2
      · intro a ha x hx
        simp only [List.mem_append, List.mem_singleton] at ha
        rcases ha with ha | rfl
        · exact br' a ha x hx
        · exact r2.1 x hx
    · rename_i k2
      have hb : ∀ a ∈ s.2.2, False := fun a ha => by
        have q1 := bm a ha
        have q2 := bh a ha
        have q3 := (b1 a ha).2.1
        omega
      refine ⟨f1, f2, ⟨by simp only; omega, by simp only; omega, by simp only; omega⟩, fun a ha => ?_, b1, b2, fun a ha => (hb a ha).elim, br', fr', r1', r2.2⟩
      have q1 := fm a ha
      have q2 := fh a ha
      simp only
      omega
theorem J_fold : ∀ (l : List Sp) (s : AS3), J s l → J (l.foldl ad s) []
  | [], s, h => h
  | x :: r, s, h => J_fold r _ (J_step h)
theorem VS_add {l : List Sp} {s : Sp} (hl : VS l) (hs : okS s) : VS (addP l s) ∧ (addP l s).length ≤ l.length + 1 := by
  have j := J_fold l (s, [], []) ⟨by simp, by simp, hs, by simp, by simp, by simp, by simp, by simp, by simp, hl.1, hl.2⟩
  have hlen := ad_len l (s, [], [])
  simp only [List.length_nil] at hlen
  unfold addP
  rw [if_pos hs]
  generalize l.foldl ad (s, [], []) = q at *
  obtain ⟨f1, f2, m, fm, b1, b2, bm, _, _, _, _⟩ := j
  refine ⟨⟨?_, ?_⟩, by simp only [List.length_append, List.length_singleton]; omega⟩
  · intro a ha
    simp only [List.mem_append, List.mem_singleton] at ha
    rcases ha with (ha | rfl) | ha
    · exact f1 a ha
    · exact m
    · exact b1 a ha
  · rw [List.pairwise_append, List.pairwise_append]
    refine ⟨⟨f2, by simp, fun a ha b hb => by simp at hb; subst hb; exact fm a ha⟩, b2, fun a ha b hb => ?_⟩
    have q2 := bm b hb
    have q3 := m.2.1
    simp only [List.mem_append, List.mem_singleton] at ha
    show a.2 + 1 < b.1
    rcases ha with ha | rfl
    · have := fm a ha; omega
    · omega
theorem sgetD_mem {l : List Sp} {j : Nat} (h : j < l.length) : l.getD j (0, 0) ∈ l := by
  rw [List.getD_eq_getElem?_getD, List.getElem?_eq_getElem h]; exact List.getElem_mem h
theorem Spans_eq (N : Nat) (l : List Sp) (hN : l.length < N) (hN2 : 100 ≤ N) (hl : l.length ≤ 8) (hb : ∀ h ∈ l, (0 ≤ h.1 ∧ h.1 ≤ 255) ∧ 0 ≤ h.2 ∧ h.2 ≤ 255) : ∃ x, W_law3_Spans N l = some x ∧ VS x ∧ x.length ≤ 8 := by
  unfold W_law3_Spans
  obtain ⟨x, h1, h2, h3⟩ : ∃ x, (fun (l : List Sp) (s : List Sp) => l.foldl (fun s h => addP s (1 + h.1 % 40, 1 + h.1 % 40 + h.2 % 6)) s) l [] = x ∧ VS x ∧ x.length ≤ 8 := by
    have key : ∀ (r : List Sp) (s : List Sp), VS s → (∀ h ∈ r, (0 ≤ h.1 ∧ h.1 ≤ 255) ∧ 0 ≤ h.2 ∧ h.2 ≤ 255) → VS (r.foldl (fun s h => addP s (1 + h.1 % 40, 1 + h.1 % 40 + h.2 % 6)) s) ∧ (r.foldl (fun s h => addP s (1 + h.1 % 40, 1 + h.1 % 40 + h.2 % 6)) s).length ≤ s.length + r.length := by
      intro r
      induction r with
      | nil => intro s hs _; exact ⟨hs, by simp⟩
      | cons h r ih =>
        intro s hs hh
        have hk := hh h (by simp)
        obtain ⟨a1, a2⟩ := VS_add (s := (1 + h.1 % 40, 1 + h.1 % 40 + h.2 % 6)) hs ⟨by simp only; omega, by simp only; omega, by simp only; omega⟩
        obtain ⟨c1, c2⟩ := ih _ a1 fun x hx => hh x (by simp [hx])
        simp only [List.foldl_cons, List.length_cons]
        exact ⟨c1, by omega⟩
    obtain ⟨c1, c2⟩ := key l [] ⟨by simp, by simp⟩ hb
    refine ⟨_, rfl, c1, ?_⟩
    show (List.foldl (fun s h => addP s (1 + h.1 % 40, 1 + h.1 % 40 + h.2 % 6)) [] l).length ≤ 8
    simp only [List.length_nil] at c2
    omega
  refine ⟨x, ?_, h2, h3⟩
  refine obind_rec (0, 0) l (fun i (s : List Sp) => (s, i)) (fun l s => l.foldl (fun s h => addP s (1 + h.1 % 40, 1 + h.1 % 40 + h.2 % 6)) s) (fun s rest => VS s ∧ s.length + rest.length ≤ 8 ∧ ∀ h ∈ rest, (0 ≤ h.1 ∧ h.1 ≤ 255) ∧ 0 ≤ h.2 ∧ h.2 ≤ 255) [] rfl hN ⟨⟨by simp, by simp⟩, by simp; omega, hb⟩ (by rw [← h1]) ?_ ?_
  · rintro s _
    try simp only
    rw [dF (by omega), cnd_f]
    rfl
  · rintro i ⟨p, q⟩ r s hi hg ⟨hv, hlen, hbb⟩
    left
    have hk := hbb (p, q) (by simp)
    simp only [List.length_cons] at hk hlen
    have ho : okS (1 + p % 40, 1 + p % 40 + q % 6) := ⟨by simp only; omega, by simp only; omega, by simp only; omega⟩
    obtain ⟨a1, a2⟩ := VS_add hv ho
    refine ⟨addP s (1 + p % 40, 1 + p % 40 + q % 6), ?_, rfl, a1, by omega, fun x hx => hbb x (by simp [hx])⟩
    have d1 : decide ((i : Int) < l.length) = true := dT (by omega)
    have d2 : decide ((0 : Int) ≤ i) = true := dT (by omega)
    simp only [Int.toNat_natCast, hg, d1, d2, Bool.and_self, cnd_t]
    rw [Int.tmod_eq_emod_of_nonneg hk.1.1, Int.tmod_eq_emod_of_nonneg hk.2.1, wr_m (z := p % 40) (by omega) (by omega), wr_m (z := 1 + p % 40) (by omega) (by omega), wr_m (z := q % 6) (by omega) (by omega), wr_m (z := 1 + p % 40 + q % 6) (by omega) (by omega), rAddS_eq N s _ (by omega) (by omega) (fun h hh => (hv.1 h hh).B), obind_s, wr_m (z := (i : Int) + 1) (by omega) (by omega)]
theorem SameS_self (N : Nat) (a : List Sp) (hN : a.length < N) (hl : a.length ≤ 1000) : W_ref1_SameSpans N (a, a) = some true := by
  unfold W_ref1_SameSpans
  simp only
  rw [dF (by simp), cnd_f]
  refine obind_rec (0, 0) a (fun i (s : Unit) => i) (fun l s => (.inl () : PUnit ⊕ Bool)) (fun _ _ => True) () rfl hN trivial (by rw [selim_l]) ?_ ?_
  · rintro s _
    try simp only
    rw [dF (by omega), cnd_f]
  · rintro i h r s hi hg _
    left
    refine ⟨(), ?_, rfl, trivial⟩
    have d1 : decide ((i : Int) < a.length) = true := dT (by omega)
    have d2 : decide ((0 : Int) ≤ i) = true := dT (by omega)
    simp only [d1, d2, Bool.and_self, cnd_t, dT, Bool.not_true, cnd_f]
    rw [wr_m (by omega) (by omega)]
/-! What is lacked. -/
abbrev LS := Sp × List Sp
def lkR : List Sp → LS → LS
  | [], s => s
  | h :: r, s => if s.1.1 ≤ s.1.2 then (if h.2 < s.1.1 ∨ s.1.2 < h.1 then lkR r s else lkR r ((h.2 + 1, s.1.2), if s.1.1 < h.1 then s.2 ++ [(s.1.1, h.1 - 1)] else s.2)) else s
def lkS : List Sp → LS → LS
  | [], s => s
  | h :: r, s => if s.1.2 < h.1 then s else lkS r ((max s.1.1 (h.2 + 1), s.1.2), if s.1.1 < h.1 then s.2 ++ [(s.1.1, h.1 - 1)] else s.2)
def fin (s : LS) : List Sp := if s.1.1 ≤ s.1.2 then s.2 ++ [(s.1.1, s.1.2)] else s.2
theorem S_dead : ∀ (l : List Sp) (a b : Int) (o : List Sp), (∀ h ∈ l, okS h) → b < a → fin (lkS l ((a, b), o)) = o
  | [], a, b, o, _, h => by unfold lkS fin; rw [if_neg (by simp only; omega)]
  | h :: r, a, b, o, hv, hab => by
    unfold lkS
    simp only
    have := (hv h (by simp)).2.1
    split
    · unfold fin; rw [if_neg (by simp only; omega)]
    · rw [if_neg (by omega)]
      exact S_dead r _ b o (fun x hx => hv x (by simp [hx])) (by omega)
theorem R_far : ∀ (l : List Sp) (a b : Int) (o : List Sp), a ≤ b → (∀ h ∈ l, b < h.1) → lkR l ((a, b), o) = ((a, b), o)
  | [], a, b, o, _, _ => rfl
  | h :: r, a, b, o, hab, hv => by
    unfold lkR
    simp only
    rw [if_pos hab, if_pos (.inr (hv h (by simp)))]
    exact R_far r a b o hab fun x hx => hv x (by simp [hx])
theorem lk_same : ∀ (l : List Sp) (a b : Int) (o : List Sp), VS l → fin (lkR l ((a, b), o)) = fin (lkS l ((a, b), o))
  | [], a, b, o, _ => rfl
  | h :: r, a, b, o, hv => by
    have hr : VS r := ⟨fun x hx => hv.1 x (by simp [hx]), (List.pairwise_cons.1 hv.2).2⟩
    have hh := hv.1 h (by simp)
    have h21 := hh.2.1
    by_cases hab : a ≤ b
    case neg =>
      rw [S_dead (h :: r) a b o hv.1 (by omega)]
      unfold lkR
      simp only
      rw [if_neg hab]
      unfold fin
      rw [if_neg (by simp only; omega)]
    by_cases h1 : h.2 < a
    · unfold lkR lkS
      simp only
      rw [if_pos hab, if_pos (.inl h1), if_neg (by omega), if_neg (by omega), show max a (h.2 + 1) = a by omega]
      exact lk_same r a b o hr
    by_cases h2 : b < h.1
    · unfold lkR lkS
      simp only
      rw [if_pos hab, if_pos (.inr h2), if_pos h2, R_far r a b o hab fun x hx => by
        have : Rr h x := (List.pairwise_cons.1 hv.2).1 x hx
        unfold Rr at this
        omega]
    · unfold lkR lkS
      simp only
      rw [if_pos hab, if_neg (by rintro (h | h) <;> omega), if_neg h2, show max a (h.2 + 1) = h.2 + 1 by omega]
      exact lk_same r _ b _ hr
def lkI (s : LS) (rest : List Sp) : Prop := 0 ≤ s.1.1 ∧ s.1.1 ≤ 1000001 ∧ s.1.2 ≤ 1000000 ∧ s.2.length + rest.length ≤ 900 ∧ ∀ h ∈ rest, okS h
theorem if_push {c : Prop} [Decidable c] {α : Type} {a b : α} : (if c then some a else some b) = some (if c then a else b) := by split <;> rfl
theorem ite_len {c : Prop} [Decidable c] {α : Type} {o : List α} {z : α} : (if c then o ++ [z] else o).length ≤ o.length + 1 := by split <;> simp
theorem rLacks_eq (N : Nat) (l : List Sp) (s : Sp) (hN : l.length < N) (hl : l.length ≤ 800) (hv : ∀ h ∈ l, okS h) (hs : okS s) : W_ref1_Lacks N (l, s) = some (fin (lkR l (s, []))) := by
  obtain ⟨a, b⟩ := s
  unfold W_ref1_Lacks
  simp only
  have s1 := hs.1
  have s2 := hs.2.1
  have s3 := hs.2.2
  simp only at s1 s2 s3
  have lr : ∀ (l : List Sp) (s : LS), (lkR l s).2.length ≤ s.2.length + l.length := by
    intro l
    induction l with
    | nil => intro s; simp [lkR]
    | cons h r ih =>
      intro s
      unfold lkR
      split
      · split
        · have := ih s; simp only [List.length_cons]; omega
        · have := ih ((h.2 + 1, s.1.2), if s.1.1 < h.1 then s.2 ++ [(s.1.1, h.1 - 1)] else s.2)
          have h2 := ite_len (c := s.1.1 < h.1) (o := s.2) (z := (s.1.1, h.1 - 1))
          simp only [List.length_cons] at this ⊢
          omega
      · simp only [List.length_cons]; omega
  refine obind_rec (0, 0) l (fun i (s : LS) => (i, s)) lkR lkI ((a, b), []) rfl hN ⟨by simp only; omega, by simp only; omega, by simp only; omega, by simp; omega, hv⟩ ?_ ?_ ?_
  · have := lr l ((a, b), [])
    simp only [List.length_nil] at this
    generalize lkR l ((a, b), []) = q at *
    unfold fin
    by_cases hq : q.1.1 ≤ q.1.2
    · rw [dT hq, cnd_t, dT (by simp only [List.length_singleton]; omega), cnd_t, if_pos hq]
    · rw [dF hq, cnd_f, if_neg hq]
  · rintro ⟨⟨x, y⟩, o⟩ _
    try simp only
    rw [dF (by omega), cnd_f]
    rfl
  · rintro i ⟨p, q⟩ r ⟨⟨x, y⟩, o⟩ hi hg ⟨g1, g2, g3, g4, g5⟩
    obtain ⟨h1, h2, h3⟩ := g5 (p, q) (by simp)
    have g5' : ∀ h ∈ r, okS h := fun x hx => g5 x (by simp [hx])
    simp only [List.length_cons] at g1 g2 g3 g4 h1 h2 h3
    have d1 : decide ((i : Int) < l.length) = true := dT (by omega)
    have d2 : decide ((0 : Int) ≤ i) = true := dT (by omega)
    simp only [Int.toNat_natCast, hg, d1, d2, Bool.and_self, cnd_t]
    rw [wr_m (z := (i : Int) + 1) (by omega) (by omega), wr_m (z := p - 1) (by omega) (by omega), wr_m (z := q + 1) (by omega) (by omega)]
    by_cases k0 : x ≤ y
    case neg =>
      right
      rw [dF k0, cnd_f]
      unfold lkR
      simp only
      rw [if_neg k0]
    left
    rw [dT k0, cnd_t]
    by_cases k1 : q < x
    · refine ⟨((x, y), o), by rw [dT k1, cnd_t], ?_, g1, g2, g3, by simp only; omega, g5'⟩
      conv => lhs; unfold lkR
      simp only
      rw [if_pos k0, if_pos (.inl k1)]
    by_cases k2 : y < p
    · refine ⟨((x, y), o), by rw [dF k1, cnd_f, dT k2, cnd_t], ?_, g1, g2, g3, by simp only; omega, g5'⟩
      conv => lhs; unfold lkR
      simp only
      rw [if_pos k0, if_pos (.inr k2)]
    refine ⟨((q + 1, y), if x < p then o ++ [(x, p - 1)] else o), ?_, ?_, by simp only; omega, by simp only; omega, g3, ?_, g5'⟩
    · rw [dF k1, cnd_f, dF k2, cnd_f]
      by_cases k3 : x < p
      · rw [dT k3, cnd_t, dT (by simp only [List.length_singleton]; omega), cnd_t, obind_s, if_pos k3]
      · rw [dF k3, cnd_f, obind_s, if_neg k3]
    · conv => lhs; unfold lkR
      simp only
      rw [if_pos k0, if_neg (by rintro (h | h) <;> omega)]
    · have h2 := ite_len (c := x < p) (o := o) (z := (x, p - 1))
      simp only
      omega
theorem sLacks_eq (N : Nat) (l : List Sp) (s : Sp) (hN : l.length < N) (hl : l.length ≤ 800) (hv : ∀ h ∈ l, okS h) (hs : okS s) : W_span_Lacks N (l, s) = some (fin (lkS l (s, []))) := by
  obtain ⟨a, b⟩ := s
  unfold W_span_Lacks
  simp only [sread_eq, obind_s, if_pos hs, selim_l]
  have s1 := hs.1
  have s2 := hs.2.1
  have s3 := hs.2.2
  simp only at s1 s2 s3
  have lr : ∀ (l : List Sp) (s : LS), (lkS l s).2.length ≤ s.2.length + l.length := by
    intro l
    induction l with
    | nil => intro s; simp [lkS]
    | cons h r ih =>
      intro s
      unfold lkS
      split
      · simp only [List.length_cons]; omega
      · have := ih ((max s.1.1 (h.2 + 1), s.1.2), if s.1.1 < h.1 then s.2 ++ [(s.1.1, h.1 - 1)] else s.2)
        have h2 := ite_len (c := s.1.1 < h.1) (o := s.2) (z := (s.1.1, h.1 - 1))
        simp only [List.length_cons] at this ⊢
        omega
  refine obind_rec (0, 0) l (fun i (s : LS) => (i, s)) lkS lkI ((a, b), []) rfl hN ⟨by simp only; omega, by simp only; omega, by simp only; omega, by simp; omega, hv⟩ ?_ ?_ ?_
  · have := lr l ((a, b), [])
    simp only [List.length_nil] at this
    generalize lkS l ((a, b), []) = q at *
    unfold fin
    by_cases hq : q.1.1 ≤ q.1.2
    · rw [dT hq, cnd_t, dT (by simp only [List.length_singleton]; omega), cnd_t, if_pos hq]
    · rw [dF hq, cnd_f, if_neg hq]
  · rintro ⟨⟨x, y⟩, o⟩ _
    try simp only
    rw [dF (by omega), cnd_f]
    rfl
  · rintro i ⟨p, q⟩ r ⟨⟨x, y⟩, o⟩ hi hg ⟨g1, g2, g3, g4, g5⟩
    obtain ⟨h1, h2, h3⟩ := g5 (p, q) (by simp)
    have g5' : ∀ h ∈ r, okS h := fun x hx => g5 x (by simp [hx])
    simp only [List.length_cons] at g1 g2 g3 g4 h1 h2 h3
    have d1 : decide ((i : Int) < l.length) = true := dT (by omega)
    have d2 : decide ((0 : Int) ≤ i) = true := dT (by omega)
    simp only [Int.toNat_natCast, hg, d1, d2, Bool.and_self, cnd_t]
    rw [wr_m (z := (i : Int) + 1) (by omega) (by omega), wr_m (z := p - 1) (by omega) (by omega)]
    by_cases k0 : y < p
    · right
      rw [dT k0, cnd_t]
      unfold lkS
      simp only
      rw [if_pos k0]
    left
    rw [dF k0, cnd_f]
    refine ⟨((max x (q + 1), y), if x < p then o ++ [(x, p - 1)] else o), ?_, ?_, by simp only; omega, by simp only; omega, g3, ?_, g5'⟩
    · by_cases k3 : x < p
      · rw [dT k3, cnd_t, dT (by simp only [List.length_singleton]; omega), cnd_t, obind_s, if_pos k3]
        simp only
        rw [wr_m (z := q + 1) (by omega) (by omega)]
      · rw [dF k3, cnd_f, obind_s, if_neg k3]
        simp only
        rw [wr_m (z := q + 1) (by omega) (by omega)]
    · conv => lhs; unfold lkS
      simp only
      rw [if_neg k0]
    · have h2 := ite_len (c := x < p) (o := o) (z := (x, p - 1))
      simp only
      omega
theorem lkS_len : ∀ (l : List Sp) (s : LS), (lkS l s).2.length ≤ s.2.length + l.length := by
  intro l
  induction l with
  | nil => intro s; simp [lkS]
  | cons h r ih =>
    intro s
    unfold lkS
    split
    · simp only [List.length_cons]; omega
    · have := ih ((max s.1.1 (h.2 + 1), s.1.2), if s.1.1 < h.1 then s.2 ++ [(s.1.1, h.1 - 1)] else s.2)
      have h2 := ite_len (c := s.1.1 < h.1) (o := s.2) (z := (s.1.1, h.1 - 1))
      simp only [List.length_cons] at this ⊢
      omega
theorem fin_len (l : List Sp) (s : Sp) : (fin (lkS l (s, []))).length ≤ l.length + 1 := by
  have := lkS_len l (s, [])
  simp only [List.length_nil] at this
  unfold fin
  split
  · simp only [List.length_append, List.length_singleton]; omega
  · omega
theorem loop_rec2 {σ τ ρ α : Type} (l : List α) (mk : Int → σ → τ) (R : List α → σ → ρ) (Inv : σ → List α → List α → Prop) {f : τ → Option (τ ⊕ ρ)}
    (hend : ∀ s, Inv s l [] → f (mk l.length s) = some (.inr (R [] s)))
    (hstep : ∀ (pre : List α) (h : α) (r : List α) (s : σ), l = pre ++ h :: r → Inv s pre (h :: r) → (∃ s', f (mk pre.length s) = some (.inl (mk ((pre.length : Int) + 1) s')) ∧ R (h :: r) s = R r s' ∧ Inv s' (pre ++ [h]) r) ∨ f (mk pre.length s) = some (.inr (R (h :: r) s)))
    {N : Nat} {s : σ} (hN : l.length < N) (h0 : Inv s [] l) : loopN N f (mk 0 s) = some (R l s) := by
  have key : ∀ (rest pre : List α) (N : Nat) (s : σ), l = pre ++ rest → rest.length < N → Inv s pre rest → loopN N f (mk pre.length s) = some (R rest s) := by
    intro rest
    induction rest with
    | nil =>
      intro pre N s e hN hI
      obtain ⟨M, rfl⟩ : ∃ M, N = M + 1 := ⟨N - 1, by simp at hN; omega⟩
      rw [List.append_nil] at e
      subst e
      simp only [loopN, hend s hI]
    | cons h r ih =>
      intro pre N s e hN hI
      obtain ⟨M, rfl⟩ : ∃ M, N = M + 1 := ⟨N - 1, by simp at hN; omega⟩
      rcases hstep pre h r s e hI with ⟨s', h1, h2, h3⟩ | h1
      · simp only [loopN, h1]
        rw [h2]
        have := ih (pre ++ [h]) M s' (by rw [e]; simp) (by simp at hN; omega) h3
        simpa using this
      · simp only [loopN, h1]
  have := key l [] N s rfl hN h0
  simpa using this
open Classical in
theorem sHas_eq (N : Nat) (l : List Sp) (n : Int) (hN : l.length < N) (hl : l.length ≤ 1000) : W_span_Has N (l, n) = some (decide (∃ h ∈ l, h.1 ≤ n ∧ n ≤ h.2)) := by
  have h1eq : ∀ a b : Int, W_span_Has_1 N ((a, b), n) = some (decide (a ≤ n ∧ n ≤ b), n) := fun a b => by
    unfold W_span_Has_1
    simp only
    by_cases h : a ≤ n
    · rw [dT h, cnd_t]
      by_cases h2 : n ≤ b
      · rw [dT h2, dT ⟨h, h2⟩]
      · rw [dF h2, dF (fun q => h2 q.2)]
    · rw [dF h, cnd_f, dF (fun q => h q.1)]
  have hi : ∃ k, W_slices_IndexFunc_api_Span__span_Has_1 N (l, n) = some (k, n) ∧ (0 ≤ k ↔ ∃ h ∈ l, h.1 ≤ n ∧ n ≤ h.2) := by
    unfold W_slices_IndexFunc_api_Span__span_Has_1
    simp only
    have key : ∀ f : Int × Int → Option ((Int × Int) ⊕ (Int ⊕ (Int × Int))), (∀ v : Int, 0 ≤ v → v < l.length → f (v, n) = if (l.getD v.toNat (0, 0)).1 ≤ n ∧ n ≤ (l.getD v.toNat (0, 0)).2 then some (.inr (.inr (v, n))) else some (.inl (v + 1, n))) → (∀ v : Int, ¬ v < l.length → f (v, n) = some (.inr (.inl n))) →
        ∃ r, loopN N f (0, n) = some r ∧ (match r with | .inl m => m = n ∧ ¬ ∃ h ∈ l, h.1 ≤ n ∧ n ≤ h.2 | .inr q => q.2 = n ∧ 0 ≤ q.1 ∧ ∃ h ∈ l, h.1 ≤ n ∧ n ≤ h.2) := fun f hf he => by
      refine loopN_run (f := f) (fun v : Int × Int => v.2 = n ∧ 0 ≤ v.1 ∧ v.1 ≤ l.length ∧ ∀ j : Nat, (j : Int) < v.1 → ¬ ((l.getD j (0, 0)).1 ≤ n ∧ n ≤ (l.getD j (0, 0)).2)) (fun v : Int × Int => l.length - v.1.toNat) (fun r : Int ⊕ (Int × Int) => match r with | .inl m => m = n ∧ ¬ ∃ h ∈ l, h.1 ≤ n ∧ n ≤ h.2 | .inr q => q.2 = n ∧ 0 ≤ q.1 ∧ ∃ h ∈ l, h.1 ≤ n ∧ n ≤ h.2) (fun v => ?_) N (0, n) ⟨rfl, by simp, by simp, fun j hj => by simp at hj; omega⟩ (by simp; omega)
      obtain ⟨v, m⟩ := v
      rintro ⟨g0, g1, g2, g3⟩
      simp only at g0 g1 g2 g3
      subst g0
      by_cases h : v < l.length
      · rw [hf v g1 h]
        split
        · rename_i hc
          right
          exact ⟨_, rfl, rfl, g1, _, sgetD_mem (by omega), hc⟩
        · rename_i hc
          left
          refine ⟨_, rfl, ⟨rfl, by simp only; omega, by simp only; omega, fun j hj => ?_⟩, by simp only; omega⟩
          by_cases hjv : (j : Int) < v
          · exact g3 j hjv
          · have : j = v.toNat := by simp only at hj; omega
            subst this; exact hc
      · right
        rw [he v h]
        refine ⟨_, rfl, rfl, ?_⟩
        rintro ⟨x, hx, hc⟩
        obtain ⟨j, hj, e⟩ := List.getElem_of_mem hx
        refine g3 j (by omega) ?_
        have : l.getD j (0, 0) = x := by rw [List.getD_eq_getElem?_getD, List.getElem?_eq_getElem hj]; exact e
        rw [this]; exact hc
    obtain ⟨r, e1, e2⟩ := key (fun (v : Int × Int) =>
      cnd (decide (Prod.fst v < (↑(List.length l) : Int)))
        (cnd (decide ((0 : Int) ≤ Prod.fst v) && decide (Prod.fst v < (↑(List.length l) : Int)))
          (obind
            (W_span_Has_1 N
              ((Prod.fst (List.getD l (Int.toNat (Prod.fst v)) ((0 : Int), (0 : Int))),
                  Prod.snd (List.getD l (Int.toNat (Prod.fst v)) ((0 : Int), (0 : Int)))),
                Prod.snd v))
            fun (b : Bool × Int) =>
            cnd (Prod.fst b) (some (Sum.inr (Sum.inr (Prod.fst v, Prod.snd b))))
              (some (Sum.inl (wr IntKind.i64 (Prod.fst v + (1 : Int)), Prod.snd b))))
          none)
        (some (Sum.inr (Sum.inl (Prod.snd v))))) (fun v g1 g2 => by
      simp only
      rw [dT g2, dT g1, Bool.and_self, cnd_t, cnd_t, h1eq, obind_s]
      simp only
      by_cases hc : (l.getD v.toNat (0, 0)).1 ≤ n ∧ n ≤ (l.getD v.toNat (0, 0)).2
      · rw [dT hc, cnd_t, if_pos hc]
      · rw [dF hc, cnd_f, if_neg hc, wr_m (by omega) (by omega)]) (fun v h => by simp only; rw [dF h, cnd_f])
    rw [e1, obind_s]
    cases r with
    | inl m =>
      obtain ⟨q1, q2⟩ := e2
      subst q1
      exact ⟨-1, rfl, by simp [q2]⟩
    | inr q =>
      obtain ⟨q1, q2, q3⟩ := e2
      obtain ⟨k, m⟩ := q
      simp only at q1 q2; subst q1
      exact ⟨k, rfl, ⟨fun _ => q3, fun _ => q2⟩⟩
  obtain ⟨k, e1, e2⟩ := hi
  unfold W_span_Has W_slices_ContainsFunc_api_Span__span_Has_1
  simp only [e1, obind_s]
  by_cases h : ∃ h ∈ l, h.1 ≤ n ∧ n ≤ h.2
  · rw [dT (e2.2 h), dT h]
  · rw [dF (fun q => h (e2.1 q)), dF h]
open Classical in
theorem rHasS_eq (N : Nat) (l : List Sp) (n : Int) (hN : l.length < N) (hl : l.length ≤ 1000) : W_ref1_HasSpan N (l, n) = some (decide (∃ h ∈ l, h.1 ≤ n ∧ n ≤ h.2)) := by
  unfold W_ref1_HasSpan
  simp only
  refine obind_rec (0, 0) l (fun i (s : Unit) => i) (fun l s => if ∃ h ∈ l, h.1 ≤ n ∧ n ≤ h.2 then (.inr true : PUnit ⊕ Bool) else .inl ()) (fun _ _ => True) () rfl hN trivial ?_ ?_ ?_
  · by_cases h : ∃ h ∈ l, h.1 ≤ n ∧ n ≤ h.2
    · rw [if_pos h, selim_r, dT h]
    · rw [if_neg h, selim_l, dF h]
  · rintro s _
    rw [dF (by omega), cnd_f, if_neg (by simp)]
  · rintro i ⟨p, q⟩ r s hi hg _
    have d1 : decide ((i : Int) < l.length) = true := dT (by omega)
    have d2 : decide ((0 : Int) ≤ i) = true := dT (by omega)
    simp only [Int.toNat_natCast, hg, d1, d2, Bool.and_self, cnd_t]
    rw [wr_m (z := (i : Int) + 1) (by omega) (by omega)]
    by_cases h1 : p ≤ n
    · rw [dT h1, cnd_t]
      by_cases h2 : n ≤ q
      · right
        rw [dT h2, cnd_t, if_pos ⟨(p, q), by simp, h1, h2⟩]
      · left
        refine ⟨(), by rw [dF h2, cnd_f], ?_, trivial⟩
        congr 1
        simp only [List.mem_cons, eq_iff_iff]
        exact ⟨fun ⟨x, hx, hc⟩ => by
          rcases hx with rfl | hx
          · exact absurd hc.2 h2
          · exact ⟨x, hx, hc⟩, fun ⟨x, hx, hc⟩ => ⟨x, .inr hx, hc⟩⟩
    · left
      refine ⟨(), by rw [dF h1, cnd_f], ?_, trivial⟩
      congr 1
      simp only [List.mem_cons, eq_iff_iff]
      exact ⟨fun ⟨x, hx, hc⟩ => by
        rcases hx with rfl | hx
        · exact absurd hc.1 h1
        · exact ⟨x, hx, hc⟩, fun ⟨x, hx, hc⟩ => ⟨x, .inr hx, hc⟩⟩
def cnt (l : List Sp) (n : Int) : Int := l.foldl (fun n h => n + (h.2 - h.1 + 1)) n
def cntI (n : Int) (rest : List Sp) : Prop := 0 ≤ n ∧ n + rest.length * 1000000 ≤ 100000000 ∧ ∀ h ∈ rest, okS h
theorem Count_eq (N : Nat) (l : List Sp) (hN : l.length < N) (hl : l.length ≤ 20) (hv : ∀ h ∈ l, okS h) : W_span_Count N l = some (cnt l 0) := by
  unfold W_span_Count
  refine obind_rec (0, 0) l (fun i (s : Int) => (s, i)) cnt cntI 0 rfl hN ⟨by omega, by omega, hv⟩ rfl ?_ ?_
  · rintro s _
    try simp only
    rw [dF (by omega), cnd_f]
    rfl
  · rintro i ⟨p, q⟩ r s hi hg ⟨g1, g2, g3⟩
    left
    obtain ⟨h1, h2, h3⟩ := g3 (p, q) (by simp)
    simp only [List.length_cons] at h1 h2 h3 g2
    have d1 : decide ((i : Int) < l.length) = true := dT (by omega)
    have d2 : decide ((0 : Int) ≤ i) = true := dT (by omega)
    refine ⟨s + (q - p + 1), ?_, rfl, by omega, by omega, fun x hx => g3 x (by simp [hx])⟩
    simp only [Int.toNat_natCast, hg, d1, d2, Bool.and_self, cnd_t]
    rw [wr_m (z := (i : Int) + 1) (by omega) (by omega), wr_m (z := q - p) (by omega) (by omega), wr_m (z := q - p + 1) (by omega) (by omega), wr_m (z := s + (q - p + 1)) (by omega) (by omega)]
def G : Int → List Sp → Prop
  | _, [] => True
  | f, h :: r => okS h ∧ f ≤ h.1 ∧ G (h.2 + 2) r
theorem VS_G : ∀ (l : List Sp) (f : Int), VS l → (∀ h ∈ l, f ≤ h.1) → G f l
  | [], _, _, _ => trivial
  | h :: r, f, hv, hf => ⟨hv.1 h (by simp), hf h (by simp), VS_G r _ ⟨fun x hx => hv.1 x (by simp [hx]), (List.pairwise_cons.1 hv.2).2⟩ fun x hx => by
      have : Rr h x := (List.pairwise_cons.1 hv.2).1 x hx
      unfold Rr at this
      omega⟩
open Classical in
theorem sMayS_eq (N : Nat) (l : List Sp) (hN : l.length < N) (hl : l.length ≤ 1000) : W_span_May N l = some (decide (G 1 l)) := by
  unfold W_span_May
  refine obind_rec (0, 0) l (fun i (s : Int) => (s, i)) (fun l f => if G f l then (.inl () : PUnit ⊕ Bool) else .inr false) (fun f _ => 0 ≤ f ∧ f ≤ 1000010) 1 rfl hN ⟨by omega, by omega⟩ ?_ ?_ ?_
  · by_cases h : G 1 l
    · rw [if_pos h, selim_l, dT h]
    · rw [if_neg h, selim_r, dF h]
  · rintro s _
    try simp only
    rw [dF (by omega), cnd_f, if_pos (show G s [] from trivial)]
  · rintro i ⟨p, q⟩ r s hi hg ⟨g1, g2⟩
    have d1 : decide ((i : Int) < l.length) = true := dT (by omega)
    have d2 : decide ((0 : Int) ≤ i) = true := dT (by omega)
    simp only [Int.toNat_natCast, hg, d1, d2, Bool.and_self, cnd_t, sread_eq, obind_s]
    rw [wr_m (z := (i : Int) + 1) (by omega) (by omega)]
    by_cases ho : okS (p, q)
    case neg =>
      right
      rw [if_neg ho, selim_r, if_neg (fun h : G s ((p, q) :: r) => ho h.1)]
    rw [if_pos ho, selim_l]
    obtain ⟨h1, h2, h3⟩ := ho
    simp only at h1 h2 h3 ⊢
    by_cases hf : p < s
    · right
      rw [dT hf, cnd_t, if_neg (fun h : G s ((p, q) :: r) => by have := h.2.1; simp only at this; omega)]
    · left
      refine ⟨q + 2, by rw [dF hf, cnd_f, wr_m (by omega) (by omega)], ?_, by omega, by omega⟩
      congr 1
      simp only [G, eq_iff_iff]
      exact ⟨fun h => h.2.2, fun h => ⟨⟨h1, h2, h3⟩, by omega, h⟩⟩
open Classical in
theorem rMayS_eq (N : Nat) (l : List Sp) (hN : l.length < N) (hl : l.length ≤ 1000) : W_ref1_MaySpans N l = some (decide (G 1 l)) := by
  unfold W_ref1_MaySpans
  have e := loop_rec2 (N := N) (f := fun (v : Int) =>
      cnd (decide (v < (↑(List.length l) : Int)))
        (cnd (decide ((0 : Int) ≤ v) && decide (v < (↑(List.length l) : Int)))
          (obind
            (W_ref1_MaySpan N
              (Prod.fst (List.getD l (Int.toNat v) ((0 : Int), (0 : Int))),
                Prod.snd (List.getD l (Int.toNat v) ((0 : Int), (0 : Int)))))
            fun (b : Bool) =>
            cnd (!b) (some (Sum.inr (Sum.inr false)))
              (cnd (decide ((0 : Int) < v))
                (cnd (decide ((0 : Int) ≤ v) && decide (v < (↑(List.length l) : Int)))
                  (cnd
                    (decide ((0 : Int) ≤ wr IntKind.i64 (v - (1 : Int))) &&
                      decide (wr IntKind.i64 (v - (1 : Int)) < (↑(List.length l) : Int)))
                    (cnd
                      (decide
                        (Prod.fst (List.getD l (Int.toNat v) ((0 : Int), (0 : Int))) ≤
                          wr IntKind.i64
                            (Prod.snd
                                (List.getD l (Int.toNat (wr IntKind.i64 (v - (1 : Int)))) ((0 : Int), (0 : Int))) +
                              (1 : Int))))
                      (some (Sum.inr (Sum.inr false))) (some (Sum.inl (wr IntKind.i64 (v + (1 : Int))))))
                    none)
                  none)
                (some (Sum.inl (wr IntKind.i64 (v + (1 : Int)))))))
          none)
        (some (Sum.inr (Sum.inl ())))) l (fun i (s : Int) => i) (fun l f => if G f l then (.inl () : PUnit ⊕ Bool) else .inr false)
    (fun s pre _ => (pre = [] ∧ s = 1) ∨ ∃ pp p, pre = pp ++ [p] ∧ okS p ∧ s = p.2 + 2) (fun s _ => by
      rw [dF (by omega), cnd_f, if_pos (show G s [] from trivial)]) (fun pre h r s e hI => ?_) (s := 1) hN (.inl ⟨rfl, rfl⟩)
  · refine (congrArg (fun x => obind x _) e).trans ?_
    rw [obind_s]
    by_cases h : G 1 l
    · rw [if_pos h, selim_l, dT h]
    · rw [if_neg h, selim_r, dF h]
  · obtain ⟨p, q⟩ := h
    have hlen : l.length = pre.length + (r.length + 1) := by rw [e]; simp
    have hg : l.getD pre.length (0, 0) = (p, q) := by rw [e, List.getD_eq_getElem?_getD, List.getElem?_append_right (Nat.le_refl _)]; simp
    have d1 : decide ((pre.length : Int) < l.length) = true := dT (by omega)
    have d2 : decide ((0 : Int) ≤ pre.length) = true := dT (by omega)
    simp only [Int.toNat_natCast, hg, d1, d2, Bool.and_self, cnd_t, rOk, obind_s]
    rw [wr_m (z := (pre.length : Int) + 1) (by omega) (by omega)]
    by_cases ho : okS (p, q)
    case neg =>
      right
      rw [dF ho, Bool.not_false, cnd_t, if_neg (fun h : G s ((p, q) :: r) => ho h.1)]
    rw [dT ho, Bool.not_true, cnd_f]
    rcases hI with ⟨rfl, rfl⟩ | ⟨pp, ⟨p0, q0⟩, rfl, ho2, rfl⟩
    · left
      refine ⟨q + 2, by simp only [List.length_nil]; rw [dF (by omega), cnd_f], ?_, .inr ⟨[], (p, q), rfl, ho, rfl⟩⟩
      congr 1
      simp only [G, eq_iff_iff]
      exact ⟨fun h => h.2.2, fun h => ⟨ho, ho.1, h⟩⟩
    · have hg2 : l.getD pp.length (0, 0) = (p0, q0) := by
        rw [e, List.getD_eq_getElem?_getD, List.append_assoc, List.getElem?_append_right (Nat.le_refl _)]; simp
      obtain ⟨k1, k2, k3⟩ := ho2
      simp only [List.length_append, List.length_singleton] at k1 k2 k3 hlen ⊢
      have w : wr .i64 (((pp.length + 1 : Nat) : Int) - 1) = pp.length := by rw [wr_m (by omega) (by omega)]; omega
      rw [dT (by omega), cnd_t, w, dT (by omega), dT (by omega), Bool.and_self, cnd_t, Int.toNat_natCast, hg2]
      simp only
      rw [wr_m (z := q0 + 1) (by omega) (by omega)]
      by_cases hf : p ≤ q0 + 1
      · right
        rw [dT hf, cnd_t, if_neg (fun h : G (q0 + 2) ((p, q) :: r) => by have := h.2.1; simp only at this; omega)]
      · left
        refine ⟨q + 2, by rw [dF hf, cnd_f], ?_, .inr ⟨pp ++ [(p0, q0)], (p, q), rfl, ho, rfl⟩⟩
        congr 1
        simp only [G, eq_iff_iff]
        exact ⟨fun h => h.2.2, fun h => ⟨ho, by omega, h⟩⟩
open Classical in
theorem law_aux (N : Nat) (hN : 100 ≤ N) (y0 : List (Int × Int)) (y1 : List (Int × Int)) (y2 : Int × Int) (y3 : Int) (h0 : ∀ h ∈ y0, (0 ≤ h.1 ∧ h.1 ≤ 255) ∧ 0 ≤ h.2 ∧ h.2 ≤ 255) : W_law3_SpanAll N (y0, y1, y2, y3) = some true := by
  obtain ⟨a, b⟩ := y2
  unfold W_law3_SpanAll
  simp only
  by_cases c1 : (8 : Int) < y0.length
  · rw [dT c1, cnd_t]
  rw [dF c1, cnd_f]
  by_cases c2 : (8 : Int) < y1.length
  · rw [dT c2, cnd_t]
  rw [dF c2, cnd_f]
  obtain ⟨x, e1, hv, hxl⟩ := Spans_eq N y0 (by omega) hN (by omega) h0
  have hB : ∀ h ∈ x, B h := fun h hh => (hv.1 h hh).B
  have A1 : ∀ s : Int × Int, W_span_Add N (x, s) = some (addP x s) := fun s => sAddS_eq N x s (by omega) (by omega) hB
  have A2 : ∀ s : Int × Int, W_ref1_AddSpan N (x, s) = some (addP x s) := fun s => rAddS_eq N x s (by omega) (by omega) hB
  have al : ∀ s : Int × Int, (addP x s).length ≤ 1000 ∧ (addP x s).length < N := fun s => by
    by_cases hs : okS s
    · have := (VS_add hv hs).2; omega
    · unfold addP; rw [if_neg hs]; omega
  have A3 : ∀ s : Int × Int, W_ref1_SameSpans N (addP x s, addP x s) = some true := fun s => SameS_self N _ (al s).2 (al s).1
  have L1 : ∀ s : Int × Int, okS s → W_span_Lacks N (x, s) = some (fin (lkS x (s, []))) := fun s hs => sLacks_eq N x s (by omega) (by omega) hv.1 hs
  have L2 : ∀ s : Int × Int, okS s → W_ref1_Lacks N (x, s) = some (fin (lkS x (s, []))) := fun s hs => by
    rw [rLacks_eq N x s (by omega) (by omega) hv.1 hs, ← lk_same x s.1 s.2 [] hv]
  have L3 : ∀ s : Int × Int, W_ref1_SameSpans N (fin (lkS x (s, [])), fin (lkS x (s, []))) = some true := fun s => by
    have := fin_len x s
    exact SameS_self N _ (by omega) (by omega)
  have o1 : okS (3, 30) := by unfold okS; omega
  have o2 : okS (20, 20) := by unfold okS; omega
  have cn : ∀ f : Int × Int → Option ((Int × Int) ⊕ Int), (∀ v : Int × Int, f v = cnd (decide (Prod.snd v < (↑(List.length x) : Int))) (cnd (decide ((0 : Int) ≤ Prod.snd v) && decide (Prod.snd v < (↑(List.length x) : Int))) (cnd (decide ((0 : Int) ≤ Prod.snd v) && decide (Prod.snd v < (↑(List.length x) : Int)))
      (some (Sum.inl (wr IntKind.i64 (wr IntKind.i64 (wr IntKind.i64 (Prod.fst v + Prod.snd (List.getD x (Int.toNat (Prod.snd v)) ((0 : Int), (0 : Int)))) - Prod.fst (List.getD x (Int.toNat (Prod.snd v)) ((0 : Int), (0 : Int)))) + (1 : Int)), wr IntKind.i64 (Prod.snd v + (1 : Int))))) none) none) (some (Sum.inr (Prod.fst v)))) →
      loopN N f (0, 0) = some (cnt x 0) := fun f hf => by
    refine loop_rec (0, 0) x (fun i (s : Int) => (s, i)) cnt cntI ?_ ?_ (s := 0) (by omega) ⟨by omega, by omega, hv.1⟩
    · rintro s _
      rw [hf]
      simp only
      rw [dF (by omega), cnd_f]
      rfl
    · rintro i ⟨p, q⟩ r s hi hg ⟨g1, g2, g3⟩
      left
      obtain ⟨h1, h2, h3⟩ := g3 (p, q) (by simp)
      simp only [List.length_cons] at h1 h2 h3 g2
      have d1 : decide ((i : Int) < x.length) = true := dT (by omega)
      have d2 : decide ((0 : Int) ≤ i) = true := dT (by omega)
      refine ⟨s + (q - p + 1), ?_, rfl, by omega, by omega, fun x hx => g3 x (by simp [hx])⟩
      rw [hf]
      simp only [Int.toNat_natCast, hg, d1, d2, Bool.and_self, cnd_t]
      rw [wr_m (z := (i : Int) + 1) (by omega) (by omega), wr_m (z := s + q) (by omega) (by omega), wr_m (z := s + q - p) (by omega) (by omega), wr_m (z := s + q - p + 1) (by omega) (by omega), show s + q - p + 1 = s + (q - p + 1) by omega]
  have bs : ∀ b : Bool, (b == b) = true := by decide
  have G1 : G 1 x := VS_G x 1 hv fun h hh => (hv.1 h hh).1
  simp only [e1, obind_s, A1, A2, A3, Bool.not_true, cnd_f, rOk, dT o1, dT o2, cnd_t, L1 _ o1, L2 _ o1, L1 _ o2, L2 _ o2, L3, cn _ (fun v => rfl), sHas_eq N x y3 (by omega) (by omega), rHasS_eq N x y3 (by omega) (by omega), bs, Count_eq N x (by omega) (by omega) hv.1, sMayS_eq N x (by omega) (by omega), dT G1, sMayS_eq N y1 (by omega) (by omega), rMayS_eq N y1 (by omega) (by omega), decide_true]
  by_cases ho : okS (a, b)
  · simp only [dT ho, cnd_t, L1 _ ho, L2 _ ho, L3, obind_s, Bool.not_true, cnd_f]
  · simp only [dF ho, cnd_f]
def NN : Nat := 100
theorem law_true (y0 : List (Int × Int)) (y1 : List (Int × Int)) (y2 : Int × Int) (y3 : Int) (h0 : Twf (.list (.agg (.pair (.int .u8) (.int .u8)))) y0) (h1 : Twf (.list (.agg (.pair (.int .i64) (.int .i64)))) y1) (h2 : Twf (.agg (.pair (.int .i64) (.int .i64))) y2) (h3 : Twf (.int .i64) y3) : W_law3_SpanAll NN (y0, y1, y2, y3) = some true := law_aux 100 (by omega) y0 y1 y2 y3 h0.2

theorem spec (y0 : List (Int × Int)) (y1 : List (Int × Int)) (y2 : Int × Int) (y3 : Int) (h0 : Twf (.list (.agg (.pair (.int .u8) (.int .u8)))) y0) (h1 : Twf (.list (.agg (.pair (.int .i64) (.int .i64)))) y1) (h2 : Twf (.agg (.pair (.int .i64) (.int .i64))) y2) (h3 : Twf (.int .i64) y3) : Spec2 P0 6 [valW (.list (.agg (.pair (.int .u8) (.int .u8)))) y0, valW (.list (.agg (.pair (.int .i64) (.int .i64)))) y1, valW (.agg (.pair (.int .i64) (.int .i64))) y2, valW (.int .i64) y3] [] (.bs true) [] [] := (con_law3_SpanAll_ok NN).2 (y0, y1, y2, y3) true (law_true y0 y1 y2 y3 h0 h1 h2 h3)
theorem lifted (os : Os) (started : os.Started) (H : Type) (enc : TypeId × Value → H) :
    ReturnsInHanded {} Try.checked os 6 .any (Rows.spanAllSpec.pre6 enc Try.prog Try.f6 Rows.spanAllRow.domain false) (Rows.spanAllSpec.post enc Try.prog Try.f6 false true false false) := by
  refine returnsInHanded_of_change (C := Try.checked) own started (by kernel_rfl) Try.func6
    (ChangeSpec.witness6 (enc := enc) (C := Try.checked) false ⟨#[], #[.slice none 0 0, .slice none 0 0, .agg #[.int .i64 0, .int .i64 0], .int .i64 0], []⟩ 8 (by kernel_rfl) (by kernel_rfl) (by kernel_rfl) (by kernel_rfl)) ?_
  intro W base args ds gs before hval0 hW hcnd _
  have hval : ∀ (j : Nat) t v, Try.f6.params[j]? = some t → args[j]? = some v → Value.okWide Try.prog W .any base t v := hval0
  have hW' := hW
  obtain ⟨p, q, hA0, hV, rfl, hfz, hnd⟩ := hW
  have hA : DataW.TrodAll enc Try.prog W 0 (fun _ => true) true Try.f6.params.toList args.toList ds p := hA0
  rw [Try.params6] at hA hval
  obtain ⟨v0, vs0, d0, ds0, p0, q0, hargs, rfl, rfl, h0, r0⟩ := trodAll_cons hA
  obtain ⟨v1, vs1, d1, ds1, p1, q1, rfl, rfl, rfl, h1, r1⟩ := trodAll_cons r0
  obtain ⟨v2, vs2, d2, ds2, p2, q2, rfl, rfl, rfl, h2, r2⟩ := trodAll_cons r1
  obtain ⟨v3, vs3, d3, ds3, p3, q3, rfl, rfl, rfl, h3, r3⟩ := trodAll_cons r2
  obtain ⟨rfl, rfl, rfl⟩ := trodAll_nil r3
  obtain rfl : args = #[v0, v1, v2, v3] := by cases args; simp_all
  obtain ⟨rfl, rfl⟩ := trodVars_none hV
  have k0 := h0
  have lt0 : ∀ x ∈ p0, x.block < W.heap.size := by obtain ⟨m, hm⟩ := k0; exact DataW.trod_lt m _ _ _ hm
  obtain ⟨y0, rp0, wf0⟩ := arg_ok (n := 12) (ty := (.list (.agg (.pair (.int .u8) (.int .u8))))) (by kernel_rfl) (hval 0 _ v0 rfl rfl) h0
  have k1 := h1
  have lt1 : ∀ x ∈ p1, x.block < W.heap.size := by obtain ⟨m, hm⟩ := k1; exact DataW.trod_lt m _ _ _ hm
  obtain ⟨y1, rp1, wf1⟩ := arg_ok (n := 12) (ty := (.list (.agg (.pair (.int .i64) (.int .i64))))) (by kernel_rfl) (hval 1 _ v1 rfl rfl) h1
  have k2 := h2
  have lt2 : ∀ x ∈ p2, x.block < W.heap.size := by obtain ⟨m, hm⟩ := k2; exact DataW.trod_lt m _ _ _ hm
  obtain ⟨y2, rp2, wf2⟩ := arg_ok (n := 12) (ty := (.agg (.pair (.int .i64) (.int .i64)))) (by kernel_rfl) (hval 2 _ v2 rfl rfl) h2
  have k3 := h3
  have lt3 : ∀ x ∈ p3, x.block < W.heap.size := by obtain ⟨m, hm⟩ := k3; exact DataW.trod_lt m _ _ _ hm
  obtain ⟨y3, rp3, wf3⟩ := arg_ok (n := 12) (ty := (.int .i64)) (by kernel_rfl) (hval 3 _ v3 rfl rfl) h3
  clear hA0 hval0
  refine (law_of2 (spec y0 y1 y2 y3 wf0 wf1 wf2 wf3) W #[v0, v1, v2, v3] (.cons rp0 (.cons rp1 (.cons rp2 (.cons rp3 .nil))))).mono fun e W' ⟨he, bel⟩ => ?_
  subst he
  exact ⟨_, rfl, _, _, _, [], _, [], hW', trodAll_mk1 (shut_bool Try.underlying4 _), (trodAll_cons_mk (Below.trod laidOut (by kernel_rfl) (of_decide_eq_true (by kernel_rfl)) k0 bel lt0) (trodAll_cons_mk (Below.trod laidOut (by kernel_rfl) (of_decide_eq_true (by kernel_rfl)) k1 bel lt1) (trodAll_cons_mk (Below.trod laidOut (by kernel_rfl) (of_decide_eq_true (by kernel_rfl)) k2 bel lt2) (trodAll_cons_mk (Below.trod laidOut (by kernel_rfl) (of_decide_eq_true (by kernel_rfl)) k3 bel lt3) trodAll_mk0)))), rfl, bel.frame _, fun h => by cases h⟩

theorem over : Rows.spanAllRow.holds Try.pinned (OpenSpec.ofChange Rows.spanAllSpec) :=
  OpenClaim.holds_of_wide 6 Try.f6 rfl rfl rfl rfl rfl rfl rfl ⟨rfl, rfl, rfl, rfl, rfl⟩ rfl rfl rfl rfl rfl (by kernel_rfl) Try.func6 (by kernel_rfl)
    (of_decide_eq_true (by kernel_rfl)) (by unfold Func.isWrapper; first | (rw [if_pos (by decide +kernel)]; kernel_rfl) | (rw [if_neg (by decide +kernel)]; exact ⟨rfl, rfl⟩))
    (fun os started H enc _ => lifted os started H enc)

theorem holds : Rows.SpanAllSaid := over
end Go.Proofs.Ytfiiigeigiaaeaa.spanAllX
