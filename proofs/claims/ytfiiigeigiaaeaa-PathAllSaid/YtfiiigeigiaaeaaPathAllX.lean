/- PathAll: for all arguments the call returns true. The law is brought to a function of Lean's own (W_..) by the machine of the texts beside it, and that is reckoned; no condition. -/
import Derived.Test.YtfiiigeigiaaeaaExtL
import Derived.Test.YtfiiigeigiaaeaaRows
import Derived.WalkKit
import Derived.ProofKit
import Derived.OpenShut
import Derived.ShutString
import Derived.ChangeOld
import Derived.Below
namespace Go.Proofs.Ytfiiigeigiaaeaa.pathAllX
open Go.Abs Go.RowKit Go.ChangeShapes Go.WideShapes Go.ChangeAt
set_option maxRecDepth 100000
set_option linter.unusedVariables false
set_option linter.unusedSimpArgs false
noncomputable abbrev P0 : Program := Try.prog
noncomputable def bodyOf (fn : Func) : Code := fn.body.getD .skip
def L0 : Lend := fun f => aget [] [] f
def kpL (l : List Bool) : Nat → Bool := fun j => l.getD j true
theorem own : ownKnob Try.prog.godebug = none := by kernel_rfl
theorem laidOut : laidOutB Try.prog = true := by kernel_rfl
theorem mixed : P0.follows .mixedOrders = true := by decide +kernel
theorem progOk_ : progOk P0 = true := by decide +kernel
noncomputable def con_law2_begun (N : Nat) : Con := ⟨15, [], [], Unit, fun _ => some (), fun _ => (.bs true, [], [])⟩
theorem con_law2_begun_ok (N : Nat) : Con.ok P0 (con_law2_begun N) := closed_con2 (nonJ_ok _) mixed progOk_ (noneΞ_ok2 _) (inl := [16,17,41,56,58,64,72,91]) (breath := 100000) (n := 60) (by kernel_rfl)
def as_Made : List AS := [.val (.list (.int .u8))]
def bs_Made : List BS := []
def pout_Made : Pat := ⟨[(2, .ptr 600005 0)], [(600005, .box 76 (.val (.pair (.list (.int .u8)) (.int .i64))))]⟩
noncomputable def G_Made  (N : Nat) : OrcT := orcOf []
noncomputable def F_Made  (N : Nat) (x : List Int) : Option ((List Int) × Int) :=
  (evT (G_Made  N) L0 P0 []
    [] N 400 (bodyOf Try.f16) ⟨6, slots 0 (argsOf as_Made bs_Made x), tabU (lbOf as_Made bs_Made x) [], []⟩).elim (kRet 6 pout_Made (kpL []) (lbOf as_Made bs_Made x))
def out_Made (y : (List Int) × Int) : V × List OK × List OK := (.ptr 2000000 0 0, [], [.box 76 (cellsW (.pair (.list (.int .u8)) (.int .i64)) y)])
noncomputable def V_Made  (N : Nat) (x : List Int) : Option ((List Int) × Int) :=
  some (x, (0 : Int))
theorem FV_Made_eq  (N : Nat) (x : List Int) : F_Made  N x = V_Made  N x := by kernel_rfl
noncomputable def W_Made (N : Nat) (x : List Int) : Option ((List Int) × Int) :=
  some (x, (0 : Int))
theorem F_Made_eq (N : Nat) (x : List Int) : F_Made  N x = W_Made N x := (FV_Made_eq  N x).trans (by kernel_rfl)
noncomputable def conw_Made (w : List Int → Option ((List Int) × Int)) : Con := ⟨16, as_Made, bs_Made, (List Int) × Int, w, out_Made⟩
noncomputable def con_Made (N : Nat) : Con := conw_Made (W_Made N)
theorem R_Made_eq (x : List Int) (y : (List Int) × Int) : retOf2 P0 Try.f16 (kpL []) (lbOf as_Made bs_Made x) (patS ⟨6, [], [], []⟩ pout_Made y) = some (out_Made y) := by kernel_rfl
theorem con_Made_ok (N : Nat) : Con.ok P0 (con_Made N) := ⟨⟨Try.f16, Try.func16, by kernel_rfl, by kernel_rfl⟩, fun (x : List Int) (r : (List Int) × Int) (hr : W_Made N x = some r) =>
  spec2_evT (Γ := G_Made N) (Λ := L0) (pout := pout_Made) (kp := kpL []) mixed (orcOf_ok [] (by simp)) Try.func16 (c := bodyOf Try.f16) (by kernel_rfl) (by kernel_rfl) (of_decide_eq_true (by kernel_rfl)) ((F_Made_eq N x).trans hr) (R_Made_eq x r)⟩
def as_Picks_Num : List AS := [.ptr 0 0, .val (.int .i64)]
def bs_Picks_Num : List BS := [.box 76 (.pair (.list (.int .u8)) (.int .i64))]
def pout_Picks_Num : Pat := ⟨[(0, .ptr 1000000 0), (4, .val (.int .i64))], [(1000000, .box 76 (.val (.pair (.list (.int .u8)) (.int .i64))))]⟩
noncomputable def G_Picks_Num  (N : Nat) : OrcT := orcOf []
noncomputable def F_Picks_Num  (N : Nat) (x : Int × (List Int) × Int) : Option (Int × (List Int) × Int) :=
  (evT (G_Picks_Num  N) L0 P0 []
    [] N 400 (bodyOf Try.f56) ⟨40, slots 0 (argsOf as_Picks_Num bs_Picks_Num x), tabU (lbOf as_Picks_Num bs_Picks_Num x) [], []⟩).elim (kRet 40 pout_Picks_Num (kpL [true]) (lbOf as_Picks_Num bs_Picks_Num x))
def out_Picks_Num (y : Int × (List Int) × Int) : V × List OK × List OK := (valW (.int .i64) y.1, [.box 76 (cellsW (.pair (.list (.int .u8)) (.int .i64)) y.2)], [])
noncomputable def V_Picks_Num  (N : Nat) (x : Int × (List Int) × Int) : Option (Int × (List Int) × Int) :=
  cnd (decide ((↑(List.length (Prod.fst (Prod.snd x))) : Int) ≤ Prod.snd (Prod.snd x)))
    (some ((0 : Int), Prod.fst (Prod.snd x), Prod.snd (Prod.snd x)))
    (cnd (decide (Prod.fst x < (1 : Int))) (some ((0 : Int), Prod.fst (Prod.snd x), Prod.snd (Prod.snd x)))
      (cnd
        (decide ((0 : Int) ≤ wr IntKind.i64 (wr IntKind.i64 (Prod.snd (Prod.snd x) + (1 : Int)) - (1 : Int))) &&
          decide
            (wr IntKind.i64 (wr IntKind.i64 (Prod.snd (Prod.snd x) + (1 : Int)) - (1 : Int)) <
              (↑(List.length (Prod.fst (Prod.snd x))) : Int)))
        (cnd (!decide (Prod.fst x = (0 : Int)))
          (some
            (Int.tmod
                (wr IntKind.i64
                  (List.getD (Prod.fst (Prod.snd x))
                    (Int.toNat (wr IntKind.i64 (wr IntKind.i64 (Prod.snd (Prod.snd x) + (1 : Int)) - (1 : Int))))
                    (0 : Int)))
                (Prod.fst x),
              Prod.fst (Prod.snd x), wr IntKind.i64 (Prod.snd (Prod.snd x) + (1 : Int))))
          none)
        none))
theorem FV_Picks_Num_eq  (N : Nat) (x : Int × (List Int) × Int) : F_Picks_Num  N x = V_Picks_Num  N x := by kernel_rfl
noncomputable def W_Picks_Num (N : Nat) (x : Int × (List Int) × Int) : Option (Int × (List Int) × Int) :=
  cnd (decide ((↑(List.length (Prod.fst (Prod.snd x))) : Int) ≤ Prod.snd (Prod.snd x)))
    (some ((0 : Int), Prod.fst (Prod.snd x), Prod.snd (Prod.snd x)))
    (cnd (decide (Prod.fst x < (1 : Int))) (some ((0 : Int), Prod.fst (Prod.snd x), Prod.snd (Prod.snd x)))
      (cnd
        (decide ((0 : Int) ≤ wr IntKind.i64 (wr IntKind.i64 (Prod.snd (Prod.snd x) + (1 : Int)) - (1 : Int))) &&
          decide
            (wr IntKind.i64 (wr IntKind.i64 (Prod.snd (Prod.snd x) + (1 : Int)) - (1 : Int)) <
              (↑(List.length (Prod.fst (Prod.snd x))) : Int)))
        (cnd (!decide (Prod.fst x = (0 : Int)))
          (some
            (Int.tmod
                (wr IntKind.i64
                  (List.getD (Prod.fst (Prod.snd x))
                    (Int.toNat (wr IntKind.i64 (wr IntKind.i64 (Prod.snd (Prod.snd x) + (1 : Int)) - (1 : Int))))
                    (0 : Int)))
                (Prod.fst x),
              Prod.fst (Prod.snd x), wr IntKind.i64 (Prod.snd (Prod.snd x) + (1 : Int))))
          none)
        none))
theorem F_Picks_Num_eq (N : Nat) (x : Int × (List Int) × Int) : F_Picks_Num  N x = W_Picks_Num N x := (FV_Picks_Num_eq  N x).trans (by kernel_rfl)
noncomputable def conw_Picks_Num (w : Int × (List Int) × Int → Option (Int × (List Int) × Int)) : Con := ⟨56, as_Picks_Num, bs_Picks_Num, Int × (List Int) × Int, w, out_Picks_Num⟩
noncomputable def con_Picks_Num (N : Nat) : Con := conw_Picks_Num (W_Picks_Num N)
theorem R_Picks_Num_eq (x : Int × (List Int) × Int) (y : Int × (List Int) × Int) : retOf2 P0 Try.f56 (kpL [true]) (lbOf as_Picks_Num bs_Picks_Num x) (patS ⟨40, [], [], []⟩ pout_Picks_Num y) = some (out_Picks_Num y) := by kernel_rfl
theorem con_Picks_Num_ok (N : Nat) : Con.ok P0 (con_Picks_Num N) := ⟨⟨Try.f56, Try.func56, by kernel_rfl, by kernel_rfl⟩, fun (x : Int × (List Int) × Int) (r : Int × (List Int) × Int) (hr : W_Picks_Num N x = some r) =>
  spec2_evT (Γ := G_Picks_Num N) (Λ := L0) (pout := pout_Picks_Num) (kp := kpL [true]) mixed (orcOf_ok [] (by simp)) Try.func56 (c := bodyOf Try.f56) (by kernel_rfl) (by kernel_rfl) (of_decide_eq_true (by kernel_rfl)) ((F_Picks_Num_eq N x).trans hr) (R_Picks_Num_eq x r)⟩
def as_ref1_Has : List AS := [.val (.list (.int .i64)), .val (.int .i64)]
def bs_ref1_Has : List BS := []
def pout_ref1_Has : Pat := ⟨[(4, .val .bool)], []⟩
noncomputable def G_ref1_Has  (N : Nat) : OrcT := orcOf []
noncomputable def F_ref1_Has  (N : Nat) (x : (List Int) × Int) : Option (Bool) :=
  (evT (G_ref1_Has  N) L0 P0 [(2, .loop [] ⟨[(5, .val (.int .i64))], []⟩ [(.exit 0, ⟨[], []⟩), (.ret, ⟨[(4, .val .bool)], []⟩)])]
    [] N 400 (bodyOf Try.f24) ⟨18, slots 0 (argsOf as_ref1_Has bs_ref1_Has x), tabU (lbOf as_ref1_Has bs_ref1_Has x) [], []⟩).elim (kRet 18 pout_ref1_Has (kpL []) (lbOf as_ref1_Has bs_ref1_Has x))
def out_ref1_Has (y : Bool) : V × List OK × List OK := (valW .bool y, [], [])
noncomputable def V_ref1_Has  (N : Nat) (x : (List Int) × Int) : Option (Bool) :=
  obind
    (loopN N
      (fun (v : Int) =>
        cnd (decide (v < (↑(List.length (Prod.fst x)) : Int)))
          (cnd (decide ((0 : Int) ≤ v) && decide (v < (↑(List.length (Prod.fst x)) : Int)))
            (cnd (decide (List.getD (Prod.fst x) (Int.toNat v) (0 : Int) = Prod.snd x)) (some (Sum.inr (Sum.inr true)))
              (some (Sum.inl (wr IntKind.i64 (v + (1 : Int))))))
            none)
          (some (Sum.inr (Sum.inl ()))))
      (Int.ofNat (0 : Nat)))
    fun (b : PUnit ⊕ Bool) => selim (fun (b : PUnit) => some false) (fun (c : Bool) => some c) b
theorem FV_ref1_Has_eq  (N : Nat) (x : (List Int) × Int) : F_ref1_Has  N x = V_ref1_Has  N x := by kernel_rfl
noncomputable def W_ref1_Has (N : Nat) (x : (List Int) × Int) : Option (Bool) :=
  obind
    (loopN N
      (fun (v : Int) =>
        cnd (decide (v < (↑(List.length (Prod.fst x)) : Int)))
          (cnd (decide ((0 : Int) ≤ v) && decide (v < (↑(List.length (Prod.fst x)) : Int)))
            (cnd (decide (List.getD (Prod.fst x) (Int.toNat v) (0 : Int) = Prod.snd x)) (some (Sum.inr (Sum.inr true)))
              (some (Sum.inl (wr IntKind.i64 (v + (1 : Int))))))
            none)
          (some (Sum.inr (Sum.inl ()))))
      (Int.ofNat (0 : Nat)))
    fun (b : PUnit ⊕ Bool) => selim (fun (b : PUnit) => some false) (fun (c : Bool) => some c) b
theorem F_ref1_Has_eq (N : Nat) (x : (List Int) × Int) : F_ref1_Has  N x = W_ref1_Has N x := (FV_ref1_Has_eq  N x).trans (by kernel_rfl)
noncomputable def conw_ref1_Has (w : (List Int) × Int → Option (Bool)) : Con := ⟨24, as_ref1_Has, bs_ref1_Has, Bool, w, out_ref1_Has⟩
noncomputable def con_ref1_Has (N : Nat) : Con := conw_ref1_Has (W_ref1_Has N)
theorem R_ref1_Has_eq (x : (List Int) × Int) (y : Bool) : retOf2 P0 Try.f24 (kpL []) (lbOf as_ref1_Has bs_ref1_Has x) (patS ⟨18, [], [], []⟩ pout_ref1_Has y) = some (out_ref1_Has y) := by kernel_rfl
theorem con_ref1_Has_ok (N : Nat) : Con.ok P0 (con_ref1_Has N) := ⟨⟨Try.f24, Try.func24, by kernel_rfl, by kernel_rfl⟩, fun (x : (List Int) × Int) (r : Bool) (hr : W_ref1_Has N x = some r) =>
  spec2_evT (Γ := G_ref1_Has N) (Λ := L0) (pout := pout_ref1_Has) (kp := kpL []) mixed (orcOf_ok [] (by simp)) Try.func24 (c := bodyOf Try.f24) (by kernel_rfl) (by kernel_rfl) (of_decide_eq_true (by kernel_rfl)) ((F_ref1_Has_eq N x).trans hr) (R_ref1_Has_eq x r)⟩
def as_ref1_MayPath : List AS := [.val (.list (.int .i64))]
def bs_ref1_MayPath : List BS := []
def pout_ref1_MayPath : Pat := ⟨[(2, .val .bool)], []⟩
noncomputable def G_ref1_MayPath (w_ref1_Has : (List Int) × Int → Option (Bool)) (N : Nat) : OrcT := orcOf [conw_ref1_Has w_ref1_Has]
noncomputable def F_ref1_MayPath (w_ref1_Has : (List Int) × Int → Option (Bool)) (N : Nat) (x : List Int) : Option (Bool) :=
  (evT (G_ref1_MayPath w_ref1_Has N) L0 P0 [(4, .loop [] ⟨[(3, .val (.int .i64))], []⟩ [(.exit 0, ⟨[], []⟩), (.ret, ⟨[(2, .val .bool)], []⟩)])]
    [(1000001, .reg [(8, [], ⟨[(11, .val .bool)], []⟩)])] N 400 (bodyOf Try.f22) ⟨46, slots 0 (argsOf as_ref1_MayPath bs_ref1_MayPath x), tabU (lbOf as_ref1_MayPath bs_ref1_MayPath x) [], []⟩).elim (kRet 46 pout_ref1_MayPath (kpL []) (lbOf as_ref1_MayPath bs_ref1_MayPath x))
def out_ref1_MayPath (y : Bool) : V × List OK × List OK := (valW .bool y, [], [])
noncomputable def V_ref1_MayPath (w_ref1_Has : (List Int) × Int → Option (Bool)) (N : Nat) (x : List Int) : Option (Bool) :=
  obind (cnd (decide ((↑(List.length x) : Int) < (1 : Int))) (some true) (some (decide ((10 : Int) < (↑(List.length x) : Int)))))
    fun (b : Bool) =>
    cnd b (some false)
      (cnd (decide ((0 : Int) ≤ (0 : Int)) && decide ((0 : Int) < (↑(List.length x) : Int)))
        (cnd (decide (List.getD x (0 : Nat) (0 : Int) ≠ (1 : Int))) (some false)
          (obind
            (loopN N
              (fun (v : Int) =>
                cnd (decide (v < (↑(List.length x) : Int)))
                  (cnd (decide ((0 : Int) ≤ v) && decide (v < (↑(List.length x) : Int)))
                    (cnd (decide (List.getD x (Int.toNat v) (0 : Int) < (1 : Int))) (some (Sum.inr (Sum.inr false)))
                      (cnd (decide ((0 : Int) ≤ v) && decide (v < (↑(List.length x) : Int)))
                        (cnd (decide ((8 : Int) < List.getD x (Int.toNat v) (0 : Int))) (some (Sum.inr (Sum.inr false)))
                          (cnd (decide ((0 : Int) ≤ v) && decide (v ≤ (↑(List.length x) : Int)))
                            (cnd (decide ((0 : Int) ≤ v) && decide (v < (↑(List.length x) : Int)))
                              (obind
                                (w_ref1_Has
                                  (List.drop (0 : Nat) (List.take (Int.toNat v) x), List.getD x (Int.toNat v) (0 : Int)))
                                fun (b : Bool) =>
                                cnd b (some (Sum.inr (Sum.inr false))) (some (Sum.inl (wr IntKind.i64 (v + (1 : Int))))))
                              none)
                            none))
                        none))
                    none)
                  (some (Sum.inr (Sum.inl ()))))
              (Int.ofNat (0 : Nat)))
            fun (b : PUnit ⊕ Bool) => selim (fun (b : PUnit) => some true) (fun (c : Bool) => some c) b))
        none)
theorem FV_ref1_MayPath_eq (w_ref1_Has : (List Int) × Int → Option (Bool)) (N : Nat) (x : List Int) : F_ref1_MayPath w_ref1_Has N x = V_ref1_MayPath w_ref1_Has N x := by kernel_rfl
noncomputable def W_ref1_MayPath (N : Nat) (x : List Int) : Option (Bool) :=
  obind (cnd (decide ((↑(List.length x) : Int) < (1 : Int))) (some true) (some (decide ((10 : Int) < (↑(List.length x) : Int)))))
    fun (b : Bool) =>
    cnd b (some false)
      (cnd (decide ((0 : Int) ≤ (0 : Int)) && decide ((0 : Int) < (↑(List.length x) : Int)))
        (cnd (decide (List.getD x (0 : Nat) (0 : Int) ≠ (1 : Int))) (some false)
          (obind
            (loopN N
              (fun (v : Int) =>
                cnd (decide (v < (↑(List.length x) : Int)))
                  (cnd (decide ((0 : Int) ≤ v) && decide (v < (↑(List.length x) : Int)))
                    (cnd (decide (List.getD x (Int.toNat v) (0 : Int) < (1 : Int))) (some (Sum.inr (Sum.inr false)))
                      (cnd (decide ((0 : Int) ≤ v) && decide (v < (↑(List.length x) : Int)))
                        (cnd (decide ((8 : Int) < List.getD x (Int.toNat v) (0 : Int))) (some (Sum.inr (Sum.inr false)))
                          (cnd (decide ((0 : Int) ≤ v) && decide (v ≤ (↑(List.length x) : Int)))
                            (cnd (decide ((0 : Int) ≤ v) && decide (v < (↑(List.length x) : Int)))
                              (obind
                                (W_ref1_Has N
                                  (List.drop (0 : Nat) (List.take (Int.toNat v) x), List.getD x (Int.toNat v) (0 : Int)))
                                fun (b : Bool) =>
                                cnd b (some (Sum.inr (Sum.inr false))) (some (Sum.inl (wr IntKind.i64 (v + (1 : Int))))))
                              none)
                            none))
                        none))
                    none)
                  (some (Sum.inr (Sum.inl ()))))
              (Int.ofNat (0 : Nat)))
            fun (b : PUnit ⊕ Bool) => selim (fun (b : PUnit) => some true) (fun (c : Bool) => some c) b))
        none)
theorem F_ref1_MayPath_eq (N : Nat) (x : List Int) : F_ref1_MayPath (W_ref1_Has N) N x = W_ref1_MayPath N x := (FV_ref1_MayPath_eq (W_ref1_Has N) N x).trans (by kernel_rfl)
noncomputable def conw_ref1_MayPath (w : List Int → Option (Bool)) : Con := ⟨22, as_ref1_MayPath, bs_ref1_MayPath, Bool, w, out_ref1_MayPath⟩
noncomputable def con_ref1_MayPath (N : Nat) : Con := conw_ref1_MayPath (W_ref1_MayPath N)
theorem R_ref1_MayPath_eq (x : List Int) (y : Bool) : retOf2 P0 Try.f22 (kpL []) (lbOf as_ref1_MayPath bs_ref1_MayPath x) (patS ⟨46, [], [], []⟩ pout_ref1_MayPath y) = some (out_ref1_MayPath y) := by kernel_rfl
theorem con_ref1_MayPath_ok (N : Nat) : Con.ok P0 (con_ref1_MayPath N) := ⟨⟨Try.f22, Try.func22, by kernel_rfl, by kernel_rfl⟩, fun (x : List Int) (r : Bool) (hr : W_ref1_MayPath N x = some r) =>
  spec2_evT (Γ := G_ref1_MayPath (W_ref1_Has N) N) (Λ := L0) (pout := pout_ref1_MayPath) (kp := kpL []) mixed (orcOf_ok _ (by simp only [List.mem_cons, List.not_mem_nil, or_false, forall_eq_or_imp, forall_eq]; exact con_ref1_Has_ok N)) Try.func22 (c := bodyOf Try.f22) (by kernel_rfl) (by kernel_rfl) (of_decide_eq_true (by kernel_rfl)) ((F_ref1_MayPath_eq N x).trans hr) (R_ref1_MayPath_eq x r)⟩
def as_ref1_AddPath : List AS := [.val (.list (.int .i64)), .val (.int .i64)]
def bs_ref1_AddPath : List BS := []
def pout_ref1_AddPath : Pat := ⟨[(4, .val (.list (.int .i64))), (5, .val .bool)], []⟩
noncomputable def G_ref1_AddPath (w_ref1_MayPath : List Int → Option (Bool)) (N : Nat) : OrcT := orcOf [conw_ref1_MayPath w_ref1_MayPath]
noncomputable def F_ref1_AddPath (w_ref1_MayPath : List Int → Option (Bool)) (N : Nat) (x : (List Int) × Int) : Option ((List Int) × Bool) :=
  (evT (G_ref1_AddPath w_ref1_MayPath N) L0 P0 []
    [] N 400 (bodyOf Try.f19) ⟨17, slots 0 (argsOf as_ref1_AddPath bs_ref1_AddPath x), tabU (lbOf as_ref1_AddPath bs_ref1_AddPath x) [], []⟩).elim (kRet 17 pout_ref1_AddPath (kpL []) (lbOf as_ref1_AddPath bs_ref1_AddPath x))
def out_ref1_AddPath (y : (List Int) × Bool) : V × List OK × List OK := (.tup [valW (.list (.int .i64)) y.1, valW .bool y.2], [], [])
noncomputable def V_ref1_AddPath (w_ref1_MayPath : List Int → Option (Bool)) (N : Nat) (x : (List Int) × Int) : Option ((List Int) × Bool) :=
  cnd (decide (List.length (Prod.fst x) * (8 : Nat) ≤ (140737488355328 : Nat)))
    (cnd (decide ((List.length (Prod.fst x) + List.length [Prod.snd x]) * (8 : Nat) ≤ (140737488355328 : Nat)))
      (obind (w_ref1_MayPath (Prod.fst x ++ [Prod.snd x])) fun (b : Bool) =>
        cnd (!b) (some ([], false)) (some (Prod.fst x ++ [Prod.snd x], true)))
      none)
    none
theorem FV_ref1_AddPath_eq (w_ref1_MayPath : List Int → Option (Bool)) (N : Nat) (x : (List Int) × Int) : F_ref1_AddPath w_ref1_MayPath N x = V_ref1_AddPath w_ref1_MayPath N x := by kernel_rfl
noncomputable def W_ref1_AddPath (N : Nat) (x : (List Int) × Int) : Option ((List Int) × Bool) :=
  cnd (decide (List.length (Prod.fst x) * (8 : Nat) ≤ (140737488355328 : Nat)))
    (cnd (decide ((List.length (Prod.fst x) + List.length [Prod.snd x]) * (8 : Nat) ≤ (140737488355328 : Nat)))
      (obind (W_ref1_MayPath N (Prod.fst x ++ [Prod.snd x])) fun (b : Bool) =>
        cnd (!b) (some ([], false)) (some (Prod.fst x ++ [Prod.snd x], true)))
      none)
    none
theorem F_ref1_AddPath_eq (N : Nat) (x : (List Int) × Int) : F_ref1_AddPath (W_ref1_MayPath N) N x = W_ref1_AddPath N x := (FV_ref1_AddPath_eq (W_ref1_MayPath N) N x).trans (by kernel_rfl)
noncomputable def conw_ref1_AddPath (w : (List Int) × Int → Option ((List Int) × Bool)) : Con := ⟨19, as_ref1_AddPath, bs_ref1_AddPath, (List Int) × Bool, w, out_ref1_AddPath⟩
noncomputable def con_ref1_AddPath (N : Nat) : Con := conw_ref1_AddPath (W_ref1_AddPath N)
theorem R_ref1_AddPath_eq (x : (List Int) × Int) (y : (List Int) × Bool) : retOf2 P0 Try.f19 (kpL []) (lbOf as_ref1_AddPath bs_ref1_AddPath x) (patS ⟨17, [], [], []⟩ pout_ref1_AddPath y) = some (out_ref1_AddPath y) := by kernel_rfl
theorem con_ref1_AddPath_ok (N : Nat) : Con.ok P0 (con_ref1_AddPath N) := ⟨⟨Try.f19, Try.func19, by kernel_rfl, by kernel_rfl⟩, fun (x : (List Int) × Int) (r : (List Int) × Bool) (hr : W_ref1_AddPath N x = some r) =>
  spec2_evT (Γ := G_ref1_AddPath (W_ref1_MayPath N) N) (Λ := L0) (pout := pout_ref1_AddPath) (kp := kpL []) mixed (orcOf_ok _ (by simp only [List.mem_cons, List.not_mem_nil, or_false, forall_eq_or_imp, forall_eq]; exact con_ref1_MayPath_ok N)) Try.func19 (c := bodyOf Try.f19) (by kernel_rfl) (by kernel_rfl) (of_decide_eq_true (by kernel_rfl)) ((F_ref1_AddPath_eq N x).trans hr) (R_ref1_AddPath_eq x r)⟩
def as_Picks_Path : List AS := [.ptr 0 0]
def bs_Picks_Path : List BS := [.box 76 (.pair (.list (.int .u8)) (.int .i64))]
def pout_Picks_Path : Pat := ⟨[(0, .ptr 1000000 0), (2, .val (.list (.int .i64)))], [(1000000, .box 76 (.val (.pair (.list (.int .u8)) (.int .i64))))]⟩
noncomputable def G_Picks_Path (w_Picks_Num : Int × (List Int) × Int → Option (Int × (List Int) × Int)) (w_ref1_AddPath : (List Int) × Int → Option ((List Int) × Bool)) (N : Nat) : OrcT := orcOf [conw_Picks_Num w_Picks_Num, conw_ref1_AddPath w_ref1_AddPath]
noncomputable def F_Picks_Path (w_Picks_Num : Int × (List Int) × Int → Option (Int × (List Int) × Int)) (w_ref1_AddPath : (List Int) × Int → Option ((List Int) × Bool)) (N : Nat) (x : (List Int) × Int) : Option ((List Int) × (List Int) × Int) :=
  (evT (G_Picks_Path w_Picks_Num w_ref1_AddPath N) L0 P0 [(3, .loop [] ⟨[(0, .ptr 1000000 0), (3, .val (.list (.int .i64))), (4, .val (.int .i64))], [(1000000, .box 76 (.val (.pair (.list (.int .u8)) (.int .i64))))]⟩ [(.exit 0, ⟨[(0, .ptr 1000000 0), (3, .val (.list (.int .i64)))], [(1000000, .box 76 (.val (.pair (.list (.int .u8)) (.int .i64))))]⟩)])]
    [] N 400 (bodyOf Try.f17) ⟨25, slots 0 (argsOf as_Picks_Path bs_Picks_Path x), tabU (lbOf as_Picks_Path bs_Picks_Path x) [], []⟩).elim (kRet 25 pout_Picks_Path (kpL [true]) (lbOf as_Picks_Path bs_Picks_Path x))
def out_Picks_Path (y : (List Int) × (List Int) × Int) : V × List OK × List OK := (valW (.list (.int .i64)) y.1, [.box 76 (cellsW (.pair (.list (.int .u8)) (.int .i64)) y.2)], [])
noncomputable def V_Picks_Path (w_Picks_Num : Int × (List Int) × Int → Option (Int × (List Int) × Int)) (w_ref1_AddPath : (List Int) × Int → Option ((List Int) × Bool)) (N : Nat) (x : (List Int) × Int) : Option ((List Int) × (List Int) × Int) :=
  obind (w_Picks_Num ((4 : Int), Prod.fst x, Prod.snd x)) fun (b : Int × List Int × Int) =>
    obind
      (loopN N
        (fun (v : List Int × Int × List Int × Int) =>
          cnd (decide ((0 : Int) < Prod.fst (Prod.snd v)))
            (obind (w_Picks_Num ((7 : Int), Prod.fst (Prod.snd (Prod.snd v)), Prod.snd (Prod.snd (Prod.snd v))))
              fun (b : Int × List Int × Int) =>
              obind (w_ref1_AddPath (Prod.fst v, wr IntKind.i64 ((2 : Int) + Prod.fst b)))
                fun (b_1 : List Int × Bool) =>
                cnd (Prod.snd b_1)
                  (some
                    (Sum.inl
                      (Prod.fst b_1, wr IntKind.i64 (Prod.fst (Prod.snd v) - (1 : Int)), Prod.fst (Prod.snd b),
                        Prod.snd (Prod.snd b))))
                  (some
                    (Sum.inl
                      (Prod.fst v, wr IntKind.i64 (Prod.fst (Prod.snd v) - (1 : Int)), Prod.fst (Prod.snd b),
                        Prod.snd (Prod.snd b)))))
            (some (Sum.inr (Prod.fst v, Prod.fst (Prod.snd (Prod.snd v)), Prod.snd (Prod.snd (Prod.snd v))))))
        ([(1 : Int)], Prod.fst b, Prod.fst (Prod.snd b), Prod.snd (Prod.snd b)))
      fun (b : List Int × List Int × Int) => some (Prod.fst b, Prod.fst (Prod.snd b), Prod.snd (Prod.snd b))
theorem FV_Picks_Path_eq (w_Picks_Num : Int × (List Int) × Int → Option (Int × (List Int) × Int)) (w_ref1_AddPath : (List Int) × Int → Option ((List Int) × Bool)) (N : Nat) (x : (List Int) × Int) : F_Picks_Path w_Picks_Num w_ref1_AddPath N x = V_Picks_Path w_Picks_Num w_ref1_AddPath N x := by kernel_rfl
noncomputable def W_Picks_Path (N : Nat) (x : (List Int) × Int) : Option ((List Int) × (List Int) × Int) :=
  obind (W_Picks_Num N ((4 : Int), Prod.fst x, Prod.snd x)) fun (b : Int × List Int × Int) =>
    obind
      (loopN N
        (fun (v : List Int × Int × List Int × Int) =>
          cnd (decide ((0 : Int) < Prod.fst (Prod.snd v)))
            (obind (W_Picks_Num N ((7 : Int), Prod.fst (Prod.snd (Prod.snd v)), Prod.snd (Prod.snd (Prod.snd v))))
              fun (b : Int × List Int × Int) =>
              obind (W_ref1_AddPath N (Prod.fst v, wr IntKind.i64 ((2 : Int) + Prod.fst b)))
                fun (b_1 : List Int × Bool) =>
                cnd (Prod.snd b_1)
                  (some
                    (Sum.inl
                      (Prod.fst b_1, wr IntKind.i64 (Prod.fst (Prod.snd v) - (1 : Int)), Prod.fst (Prod.snd b),
                        Prod.snd (Prod.snd b))))
                  (some
                    (Sum.inl
                      (Prod.fst v, wr IntKind.i64 (Prod.fst (Prod.snd v) - (1 : Int)), Prod.fst (Prod.snd b),
                        Prod.snd (Prod.snd b)))))
            (some (Sum.inr (Prod.fst v, Prod.fst (Prod.snd (Prod.snd v)), Prod.snd (Prod.snd (Prod.snd v))))))
        ([(1 : Int)], Prod.fst b, Prod.fst (Prod.snd b), Prod.snd (Prod.snd b)))
      fun (b : List Int × List Int × Int) => some (Prod.fst b, Prod.fst (Prod.snd b), Prod.snd (Prod.snd b))
theorem F_Picks_Path_eq (N : Nat) (x : (List Int) × Int) : F_Picks_Path (W_Picks_Num N) (W_ref1_AddPath N) N x = W_Picks_Path N x := (FV_Picks_Path_eq (W_Picks_Num N) (W_ref1_AddPath N) N x).trans (by kernel_rfl)
noncomputable def conw_Picks_Path (w : (List Int) × Int → Option ((List Int) × (List Int) × Int)) : Con := ⟨17, as_Picks_Path, bs_Picks_Path, (List Int) × (List Int) × Int, w, out_Picks_Path⟩
noncomputable def con_Picks_Path (N : Nat) : Con := conw_Picks_Path (W_Picks_Path N)
theorem R_Picks_Path_eq (x : (List Int) × Int) (y : (List Int) × (List Int) × Int) : retOf2 P0 Try.f17 (kpL [true]) (lbOf as_Picks_Path bs_Picks_Path x) (patS ⟨25, [], [], []⟩ pout_Picks_Path y) = some (out_Picks_Path y) := by kernel_rfl
theorem con_Picks_Path_ok (N : Nat) : Con.ok P0 (con_Picks_Path N) := ⟨⟨Try.f17, Try.func17, by kernel_rfl, by kernel_rfl⟩, fun (x : (List Int) × Int) (r : (List Int) × (List Int) × Int) (hr : W_Picks_Path N x = some r) =>
  spec2_evT (Γ := G_Picks_Path (W_Picks_Num N) (W_ref1_AddPath N) N) (Λ := L0) (pout := pout_Picks_Path) (kp := kpL [true]) mixed (orcOf_ok _ (by simp only [List.mem_cons, List.not_mem_nil, or_false, forall_eq_or_imp, forall_eq]; exact ⟨con_Picks_Num_ok N, con_ref1_AddPath_ok N⟩)) Try.func17 (c := bodyOf Try.f17) (by kernel_rfl) (by kernel_rfl) (of_decide_eq_true (by kernel_rfl)) ((F_Picks_Path_eq N x).trans hr) (R_Picks_Path_eq x r)⟩
def as_slices_Clone_int : List AS := [.val (.list (.int .i64))]
def bs_slices_Clone_int : List BS := []
def pout_slices_Clone_int : Pat := ⟨[(2, .acc 700005)], [(700005, .nrow 3 (.int .i64) false true)]⟩
noncomputable def G_slices_Clone_int  (N : Nat) : OrcT := orcOf []
noncomputable def F_slices_Clone_int  (N : Nat) (x : List Int) : Option (List Int) :=
  (evT (G_slices_Clone_int  N) L0 P0 []
    [] N 400 (bodyOf Try.f58) ⟨8, slots 0 [.nl ⟨(.int .i64), x⟩], tabU (lbOf as_slices_Clone_int bs_slices_Clone_int x) [], []⟩).elim (kRet 8 pout_slices_Clone_int (kpL []) (lbOf as_slices_Clone_int bs_slices_Clone_int x))
def out_slices_Clone_int (y : List Int) : V × List OK × List OK := (.acc 2000000 0, [], [.nrow 3 false true ⟨(.int .i64), y⟩])
noncomputable def V_slices_Clone_int  (N : Nat) (x : List Int) : Option (List Int) :=
  cnd (decide (List.length x * (8 : Nat) ≤ (140737488355328 : Nat))) (some x) none
theorem FV_slices_Clone_int_eq  (N : Nat) (x : List Int) : F_slices_Clone_int  N x = V_slices_Clone_int  N x := by kernel_rfl
noncomputable def W_slices_Clone_int (N : Nat) (x : List Int) : Option (List Int) :=
  cnd (decide (List.length x * (8 : Nat) ≤ (140737488355328 : Nat))) (some x) none
theorem F_slices_Clone_int_eq (N : Nat) (x : List Int) : F_slices_Clone_int  N x = W_slices_Clone_int N x := (FV_slices_Clone_int_eq  N x).trans (by kernel_rfl)
noncomputable def conw_slices_Clone_int (w : List Int → Option (List Int)) : Con := ⟨58, as_slices_Clone_int, bs_slices_Clone_int, List Int, w, out_slices_Clone_int⟩
noncomputable def con_slices_Clone_int (N : Nat) : Con := conw_slices_Clone_int (W_slices_Clone_int N)
theorem R_slices_Clone_int_eq (x : List Int) (y : List Int) : retOf2 P0 Try.f58 (kpL []) (lbOf as_slices_Clone_int bs_slices_Clone_int x) (patS ⟨8, [], [], []⟩ pout_slices_Clone_int y) = some (out_slices_Clone_int y) := by kernel_rfl
noncomputable def FA_slices_Clone_int : Option (List Int) := (evT (G_slices_Clone_int 1) L0 P0 [] [] 1 400 (bodyOf Try.f58) ⟨8, slots 0 [.snil], tabU [] [], []⟩).elim (kRet 8 pout_slices_Clone_int (kpL []) [])
theorem FA_slices_Clone_int_eq : FA_slices_Clone_int = some [] := by kernel_rfl
theorem WN_slices_Clone_int (N : Nat) (r : List Int) (h : W_slices_Clone_int N [] = some r) : r = [] := by
  have e : W_slices_Clone_int N [] = some [] := by kernel_rfl
  rw [e] at h; injection h with h; exact h.symm
theorem con_slices_Clone_int_ok (N : Nat) : Con.ok P0 (con_slices_Clone_int N) := ⟨⟨Try.f58, Try.func58, by kernel_rfl, by kernel_rfl⟩, fun (x : List Int) (r : List Int) (hr : W_slices_Clone_int N x = some r) =>
  clone_split (e := (.int .i64)) (ty := 3) (l := x) (r := r)
    (spec2_evT (Γ := G_slices_Clone_int 1) (Λ := L0) (lb := []) (pout := pout_slices_Clone_int) (kp := kpL []) mixed (orcOf_ok [] (by simp)) Try.func58 (c := bodyOf Try.f58) (by kernel_rfl) (by kernel_rfl) (of_decide_eq_true (by kernel_rfl)) FA_slices_Clone_int_eq (R_slices_Clone_int_eq x []))
    (spec2_evT (Γ := G_slices_Clone_int N) (Λ := L0) (lb := []) (pout := pout_slices_Clone_int) (kp := kpL []) mixed (orcOf_ok [] (by simp)) Try.func58 (c := bodyOf Try.f58) (by kernel_rfl) (by kernel_rfl) (of_decide_eq_true (by kernel_rfl)) ((F_slices_Clone_int_eq N x).trans hr) (R_slices_Clone_int_eq x r))
    (fun h => by subst h; exact WN_slices_Clone_int N r hr)⟩
def as_slices_Index_int : List AS := [.val (.list (.int .i64)), .val (.int .i64)]
def bs_slices_Index_int : List BS := []
def pout_slices_Index_int : Pat := ⟨[(4, .val (.int .i64))], []⟩
noncomputable def G_slices_Index_int  (N : Nat) : OrcT := orcOf []
noncomputable def F_slices_Index_int  (N : Nat) (x : (List Int) × Int) : Option (Int) :=
  (evT (G_slices_Index_int  N) L0 P0 [(2, .loop [] ⟨[(8, .val (.int .i64))], []⟩ [(.exit 0, ⟨[], []⟩), (.ret, ⟨[(4, .val (.int .i64))], []⟩)])]
    [] N 400 (bodyOf Try.f74) ⟨19, slots 0 (argsOf as_slices_Index_int bs_slices_Index_int x), tabU (lbOf as_slices_Index_int bs_slices_Index_int x) [], []⟩).elim (kRet 19 pout_slices_Index_int (kpL []) (lbOf as_slices_Index_int bs_slices_Index_int x))
def out_slices_Index_int (y : Int) : V × List OK × List OK := (valW (.int .i64) y, [], [])
noncomputable def V_slices_Index_int  (N : Nat) (x : (List Int) × Int) : Option (Int) :=
  obind
    (loopN N
      (fun (v : Int) =>
        cnd (decide (v < (↑(List.length (Prod.fst x)) : Int)))
          (cnd (decide ((0 : Int) ≤ v) && decide (v < (↑(List.length (Prod.fst x)) : Int)))
            (cnd (decide (Prod.snd x = List.getD (Prod.fst x) (Int.toNat v) (0 : Int))) (some (Sum.inr (Sum.inr v)))
              (some (Sum.inl (wr IntKind.i64 (v + (1 : Int))))))
            none)
          (some (Sum.inr (Sum.inl ()))))
      (Int.ofNat (0 : Nat)))
    fun (b : PUnit ⊕ Int) => selim (fun (b : PUnit) => some (-1 : Int)) (fun (c : Int) => some c) b
theorem FV_slices_Index_int_eq  (N : Nat) (x : (List Int) × Int) : F_slices_Index_int  N x = V_slices_Index_int  N x := by kernel_rfl
noncomputable def W_slices_Index_int (N : Nat) (x : (List Int) × Int) : Option (Int) :=
  obind
    (loopN N
      (fun (v : Int) =>
        cnd (decide (v < (↑(List.length (Prod.fst x)) : Int)))
          (cnd (decide ((0 : Int) ≤ v) && decide (v < (↑(List.length (Prod.fst x)) : Int)))
            (cnd (decide (Prod.snd x = List.getD (Prod.fst x) (Int.toNat v) (0 : Int))) (some (Sum.inr (Sum.inr v)))
              (some (Sum.inl (wr IntKind.i64 (v + (1 : Int))))))
            none)
          (some (Sum.inr (Sum.inl ()))))
      (Int.ofNat (0 : Nat)))
    fun (b : PUnit ⊕ Int) => selim (fun (b : PUnit) => some (-1 : Int)) (fun (c : Int) => some c) b
theorem F_slices_Index_int_eq (N : Nat) (x : (List Int) × Int) : F_slices_Index_int  N x = W_slices_Index_int N x := (FV_slices_Index_int_eq  N x).trans (by kernel_rfl)
noncomputable def conw_slices_Index_int (w : (List Int) × Int → Option (Int)) : Con := ⟨74, as_slices_Index_int, bs_slices_Index_int, Int, w, out_slices_Index_int⟩
noncomputable def con_slices_Index_int (N : Nat) : Con := conw_slices_Index_int (W_slices_Index_int N)
theorem R_slices_Index_int_eq (x : (List Int) × Int) (y : Int) : retOf2 P0 Try.f74 (kpL []) (lbOf as_slices_Index_int bs_slices_Index_int x) (patS ⟨19, [], [], []⟩ pout_slices_Index_int y) = some (out_slices_Index_int y) := by kernel_rfl
theorem con_slices_Index_int_ok (N : Nat) : Con.ok P0 (con_slices_Index_int N) := ⟨⟨Try.f74, Try.func74, by kernel_rfl, by kernel_rfl⟩, fun (x : (List Int) × Int) (r : Int) (hr : W_slices_Index_int N x = some r) =>
  spec2_evT (Γ := G_slices_Index_int N) (Λ := L0) (pout := pout_slices_Index_int) (kp := kpL []) mixed (orcOf_ok [] (by simp)) Try.func74 (c := bodyOf Try.f74) (by kernel_rfl) (by kernel_rfl) (of_decide_eq_true (by kernel_rfl)) ((F_slices_Index_int_eq N x).trans hr) (R_slices_Index_int_eq x r)⟩
def as_slices_Contains_int : List AS := [.val (.list (.int .i64)), .val (.int .i64)]
def bs_slices_Contains_int : List BS := []
def pout_slices_Contains_int : Pat := ⟨[(4, .val .bool)], []⟩
noncomputable def G_slices_Contains_int (w_slices_Index_int : (List Int) × Int → Option (Int)) (N : Nat) : OrcT := orcOf [conw_slices_Index_int w_slices_Index_int]
noncomputable def F_slices_Contains_int (w_slices_Index_int : (List Int) × Int → Option (Int)) (N : Nat) (x : (List Int) × Int) : Option (Bool) :=
  (evT (G_slices_Contains_int w_slices_Index_int N) L0 P0 []
    [] N 400 (bodyOf Try.f59) ⟨9, slots 0 (argsOf as_slices_Contains_int bs_slices_Contains_int x), tabU (lbOf as_slices_Contains_int bs_slices_Contains_int x) [], []⟩).elim (kRet 9 pout_slices_Contains_int (kpL []) (lbOf as_slices_Contains_int bs_slices_Contains_int x))
def out_slices_Contains_int (y : Bool) : V × List OK × List OK := (valW .bool y, [], [])
noncomputable def V_slices_Contains_int (w_slices_Index_int : (List Int) × Int → Option (Int)) (N : Nat) (x : (List Int) × Int) : Option (Bool) :=
  obind (w_slices_Index_int (Prod.fst x, Prod.snd x)) fun (b : Int) => some (decide ((0 : Int) ≤ b))
theorem FV_slices_Contains_int_eq (w_slices_Index_int : (List Int) × Int → Option (Int)) (N : Nat) (x : (List Int) × Int) : F_slices_Contains_int w_slices_Index_int N x = V_slices_Contains_int w_slices_Index_int N x := by kernel_rfl
noncomputable def W_slices_Contains_int (N : Nat) (x : (List Int) × Int) : Option (Bool) :=
  obind (W_slices_Index_int N (Prod.fst x, Prod.snd x)) fun (b : Int) => some (decide ((0 : Int) ≤ b))
theorem F_slices_Contains_int_eq (N : Nat) (x : (List Int) × Int) : F_slices_Contains_int (W_slices_Index_int N) N x = W_slices_Contains_int N x := (FV_slices_Contains_int_eq (W_slices_Index_int N) N x).trans (by kernel_rfl)
noncomputable def conw_slices_Contains_int (w : (List Int) × Int → Option (Bool)) : Con := ⟨59, as_slices_Contains_int, bs_slices_Contains_int, Bool, w, out_slices_Contains_int⟩
noncomputable def con_slices_Contains_int (N : Nat) : Con := conw_slices_Contains_int (W_slices_Contains_int N)
theorem R_slices_Contains_int_eq (x : (List Int) × Int) (y : Bool) : retOf2 P0 Try.f59 (kpL []) (lbOf as_slices_Contains_int bs_slices_Contains_int x) (patS ⟨9, [], [], []⟩ pout_slices_Contains_int y) = some (out_slices_Contains_int y) := by kernel_rfl
theorem con_slices_Contains_int_ok (N : Nat) : Con.ok P0 (con_slices_Contains_int N) := ⟨⟨Try.f59, Try.func59, by kernel_rfl, by kernel_rfl⟩, fun (x : (List Int) × Int) (r : Bool) (hr : W_slices_Contains_int N x = some r) =>
  spec2_evT (Γ := G_slices_Contains_int (W_slices_Index_int N) N) (Λ := L0) (pout := pout_slices_Contains_int) (kp := kpL []) mixed (orcOf_ok _ (by simp only [List.mem_cons, List.not_mem_nil, or_false, forall_eq_or_imp, forall_eq]; exact con_slices_Index_int_ok N)) Try.func59 (c := bodyOf Try.f59) (by kernel_rfl) (by kernel_rfl) (of_decide_eq_true (by kernel_rfl)) ((F_slices_Contains_int_eq N x).trans hr) (R_slices_Contains_int_eq x r)⟩
def as_path_Has : List AS := [.val (.list (.int .i64)), .val (.int .i64)]
def bs_path_Has : List BS := []
def pout_path_Has : Pat := ⟨[(4, .val .bool)], []⟩
noncomputable def G_path_Has (w_slices_Contains_int : (List Int) × Int → Option (Bool)) (N : Nat) : OrcT := orcOf [conw_slices_Contains_int w_slices_Contains_int]
noncomputable def F_path_Has (w_slices_Contains_int : (List Int) × Int → Option (Bool)) (N : Nat) (x : (List Int) × Int) : Option (Bool) :=
  (evT (G_path_Has w_slices_Contains_int N) L0 P0 []
    [] N 400 (bodyOf Try.f23) ⟨8, slots 0 (argsOf as_path_Has bs_path_Has x), tabU (lbOf as_path_Has bs_path_Has x) [], []⟩).elim (kRet 8 pout_path_Has (kpL []) (lbOf as_path_Has bs_path_Has x))
def out_path_Has (y : Bool) : V × List OK × List OK := (valW .bool y, [], [])
noncomputable def V_path_Has (w_slices_Contains_int : (List Int) × Int → Option (Bool)) (N : Nat) (x : (List Int) × Int) : Option (Bool) :=
  obind (w_slices_Contains_int (Prod.fst x, Prod.snd x)) fun (b : Bool) => some b
theorem FV_path_Has_eq (w_slices_Contains_int : (List Int) × Int → Option (Bool)) (N : Nat) (x : (List Int) × Int) : F_path_Has w_slices_Contains_int N x = V_path_Has w_slices_Contains_int N x := by kernel_rfl
noncomputable def W_path_Has (N : Nat) (x : (List Int) × Int) : Option (Bool) :=
  obind (W_slices_Contains_int N (Prod.fst x, Prod.snd x)) fun (b : Bool) => some b
theorem F_path_Has_eq (N : Nat) (x : (List Int) × Int) : F_path_Has (W_slices_Contains_int N) N x = W_path_Has N x := (FV_path_Has_eq (W_slices_Contains_int N) N x).trans (by kernel_rfl)
noncomputable def conw_path_Has (w : (List Int) × Int → Option (Bool)) : Con := ⟨23, as_path_Has, bs_path_Has, Bool, w, out_path_Has⟩
noncomputable def con_path_Has (N : Nat) : Con := conw_path_Has (W_path_Has N)
theorem R_path_Has_eq (x : (List Int) × Int) (y : Bool) : retOf2 P0 Try.f23 (kpL []) (lbOf as_path_Has bs_path_Has x) (patS ⟨8, [], [], []⟩ pout_path_Has y) = some (out_path_Has y) := by kernel_rfl
theorem con_path_Has_ok (N : Nat) : Con.ok P0 (con_path_Has N) := ⟨⟨Try.f23, Try.func23, by kernel_rfl, by kernel_rfl⟩, fun (x : (List Int) × Int) (r : Bool) (hr : W_path_Has N x = some r) =>
  spec2_evT (Γ := G_path_Has (W_slices_Contains_int N) N) (Λ := L0) (pout := pout_path_Has) (kp := kpL []) mixed (orcOf_ok _ (by simp only [List.mem_cons, List.not_mem_nil, or_false, forall_eq_or_imp, forall_eq]; exact con_slices_Contains_int_ok N)) Try.func23 (c := bodyOf Try.f23) (by kernel_rfl) (by kernel_rfl) (of_decide_eq_true (by kernel_rfl)) ((F_path_Has_eq N x).trans hr) (R_path_Has_eq x r)⟩
def as_path_read : List AS := [.val (.list (.int .i64))]
def bs_path_read : List BS := []
def pout_path_read : Pat := ⟨[(2, .val (.alt 78 (.list (.int .i64)) (.alt1 99 (.agg .unit))))], []⟩
noncomputable def G_path_read (w_path_Has : (List Int) × Int → Option (Bool)) (N : Nat) : OrcT := orcOf [conw_path_Has w_path_Has]
noncomputable def F_path_read (w_path_Has : (List Int) × Int → Option (Bool)) (N : Nat) (x : List Int) : Option ((List Int) ⊕ Unit) :=
  (evT (G_path_read w_path_Has N) L0 P0 [(4, .loop [21] ⟨[(23, .val (.int .i64))], []⟩ [(.exit 0, ⟨[], []⟩), (.ret, ⟨[(2, .val (.alt 78 (.list (.int .i64)) (.alt1 99 (.agg .unit))))], []⟩)])]
    [(1000001, .reg [(8, [], ⟨[(12, .val .bool)], []⟩)]),
    (1000006, .reg [(6, [21], ⟨[(33, .val .bool)], []⟩)])] N 400 (bodyOf Try.f57) ⟨46, slots 0 (argsOf as_path_read bs_path_read x), tabU (lbOf as_path_read bs_path_read x) [], []⟩).elim (kRet 46 pout_path_read (kpL []) (lbOf as_path_read bs_path_read x))
def out_path_read (y : (List Int) ⊕ Unit) : V × List OK × List OK := (valW (.alt 78 (.list (.int .i64)) (.alt1 99 (.agg .unit))) y, [], [])
noncomputable def V_path_read (w_path_Has : (List Int) × Int → Option (Bool)) (N : Nat) (x : List Int) : Option ((List Int) ⊕ Unit) :=
  obind (cnd (decide ((↑(List.length x) : Int) < (1 : Int))) (some true) (some (decide ((10 : Int) < (↑(List.length x) : Int)))))
    fun (b : Bool) =>
    cnd b (some (Sum.inr ()))
      (cnd (decide ((0 : Int) ≤ (0 : Int)) && decide ((0 : Int) < (↑(List.length x) : Int)))
        (cnd (decide (List.getD x (0 : Nat) (0 : Int) ≠ (1 : Int))) (some (Sum.inr ()))
          (obind
            (loopN N
              (fun (v : Int) =>
                cnd (decide (v < (↑(List.length x) : Int)))
                  (cnd (decide ((0 : Int) ≤ v) && decide (v < (↑(List.length x) : Int)))
                    (obind
                      (cnd (decide (List.getD x (Int.toNat v) (0 : Int) < (1 : Int))) (some true)
                        (some (decide ((8 : Int) < List.getD x (Int.toNat v) (0 : Int)))))
                      fun (b : Bool) =>
                      cnd b (some (Sum.inr (Sum.inr (Sum.inr ()))))
                        (cnd (decide ((0 : Int) ≤ v) && decide (v ≤ (↑(List.length x) : Int)))
                          (obind
                            (w_path_Has
                              (List.drop (0 : Nat) (List.take (Int.toNat v) x), List.getD x (Int.toNat v) (0 : Int)))
                            fun (b : Bool) =>
                            cnd b (some (Sum.inr (Sum.inr (Sum.inr ()))))
                              (some (Sum.inl (wr IntKind.i64 (v + (1 : Int))))))
                          none))
                    none)
                  (some (Sum.inr (Sum.inl ()))))
              (Int.ofNat (0 : Nat)))
            fun (b : PUnit ⊕ List Int ⊕ PUnit) =>
            selim (fun (b : PUnit) => some (Sum.inl x)) (fun (c : List Int ⊕ PUnit) => some c) b))
        none)
theorem FV_path_read_eq (w_path_Has : (List Int) × Int → Option (Bool)) (N : Nat) (x : List Int) : F_path_read w_path_Has N x = V_path_read w_path_Has N x := by kernel_rfl
noncomputable def W_path_read (N : Nat) (x : List Int) : Option ((List Int) ⊕ Unit) :=
  obind (cnd (decide ((↑(List.length x) : Int) < (1 : Int))) (some true) (some (decide ((10 : Int) < (↑(List.length x) : Int)))))
    fun (b : Bool) =>
    cnd b (some (Sum.inr ()))
      (cnd (decide ((0 : Int) ≤ (0 : Int)) && decide ((0 : Int) < (↑(List.length x) : Int)))
        (cnd (decide (List.getD x (0 : Nat) (0 : Int) ≠ (1 : Int))) (some (Sum.inr ()))
          (obind
            (loopN N
              (fun (v : Int) =>
                cnd (decide (v < (↑(List.length x) : Int)))
                  (cnd (decide ((0 : Int) ≤ v) && decide (v < (↑(List.length x) : Int)))
                    (obind
                      (cnd (decide (List.getD x (Int.toNat v) (0 : Int) < (1 : Int))) (some true)
                        (some (decide ((8 : Int) < List.getD x (Int.toNat v) (0 : Int)))))
                      fun (b : Bool) =>
                      cnd b (some (Sum.inr (Sum.inr (Sum.inr ()))))
                        (cnd (decide ((0 : Int) ≤ v) && decide (v ≤ (↑(List.length x) : Int)))
                          (obind
                            (W_path_Has N
                              (List.drop (0 : Nat) (List.take (Int.toNat v) x), List.getD x (Int.toNat v) (0 : Int)))
                            fun (b : Bool) =>
                            cnd b (some (Sum.inr (Sum.inr (Sum.inr ()))))
                              (some (Sum.inl (wr IntKind.i64 (v + (1 : Int))))))
                          none))
                    none)
                  (some (Sum.inr (Sum.inl ()))))
              (Int.ofNat (0 : Nat)))
            fun (b : PUnit ⊕ List Int ⊕ PUnit) =>
            selim (fun (b : PUnit) => some (Sum.inl x)) (fun (c : List Int ⊕ PUnit) => some c) b))
        none)
theorem F_path_read_eq (N : Nat) (x : List Int) : F_path_read (W_path_Has N) N x = W_path_read N x := (FV_path_read_eq (W_path_Has N) N x).trans (by kernel_rfl)
noncomputable def conw_path_read (w : List Int → Option ((List Int) ⊕ Unit)) : Con := ⟨57, as_path_read, bs_path_read, (List Int) ⊕ Unit, w, out_path_read⟩
noncomputable def con_path_read (N : Nat) : Con := conw_path_read (W_path_read N)
theorem R_path_read_eq (x : List Int) (y : (List Int) ⊕ Unit) : retOf2 P0 Try.f57 (kpL []) (lbOf as_path_read bs_path_read x) (patS ⟨46, [], [], []⟩ pout_path_read y) = some (out_path_read y) := by kernel_rfl
theorem con_path_read_ok (N : Nat) : Con.ok P0 (con_path_read N) := ⟨⟨Try.f57, Try.func57, by kernel_rfl, by kernel_rfl⟩, fun (x : List Int) (r : (List Int) ⊕ Unit) (hr : W_path_read N x = some r) =>
  spec2_evT (Γ := G_path_read (W_path_Has N) N) (Λ := L0) (pout := pout_path_read) (kp := kpL []) mixed (orcOf_ok _ (by simp only [List.mem_cons, List.not_mem_nil, or_false, forall_eq_or_imp, forall_eq]; exact con_path_Has_ok N)) Try.func57 (c := bodyOf Try.f57) (by kernel_rfl) (by kernel_rfl) (of_decide_eq_true (by kernel_rfl)) ((F_path_read_eq N x).trans hr) (R_path_read_eq x r)⟩
def as_path_Add : List AS := [.val (.list (.int .i64)), .val (.int .i64)]
def bs_path_Add : List BS := []
def pout_path_Add : Pat := ⟨[(4, .val (.list (.int .i64))), (5, .val .bool)], []⟩
noncomputable def G_path_Add (w_slices_Clone_int : List Int → Option (List Int)) (w_path_read : List Int → Option ((List Int) ⊕ Unit)) (N : Nat) : OrcT := orcOf [conw_slices_Clone_int w_slices_Clone_int, conw_path_read w_path_read]
noncomputable def F_path_Add (w_slices_Clone_int : List Int → Option (List Int)) (w_path_read : List Int → Option ((List Int) ⊕ Unit)) (N : Nat) (x : (List Int) × Int) : Option ((List Int) × Bool) :=
  (evT (G_path_Add w_slices_Clone_int w_path_read N) L0 P0 []
    [] N 400 (bodyOf Try.f18) ⟨20, slots 0 (argsOf as_path_Add bs_path_Add x), tabU (lbOf as_path_Add bs_path_Add x) [], []⟩).elim (kRet 20 pout_path_Add (kpL []) (lbOf as_path_Add bs_path_Add x))
def out_path_Add (y : (List Int) × Bool) : V × List OK × List OK := (.tup [valW (.list (.int .i64)) y.1, valW .bool y.2], [], [])
noncomputable def V_path_Add (w_slices_Clone_int : List Int → Option (List Int)) (w_path_read : List Int → Option ((List Int) ⊕ Unit)) (N : Nat) (x : (List Int) × Int) : Option ((List Int) × Bool) :=
  obind (w_slices_Clone_int (Prod.fst x)) fun (b : List Int) =>
    cnd (decide ((List.length b + List.length [Prod.snd x]) * (8 : Nat) ≤ (140737488355328 : Nat)))
      (obind (w_path_read (b ++ [Prod.snd x])) fun (b : List Int ⊕ PUnit) =>
        selim (fun (b : List Int) => some (b, true)) (fun (c : PUnit) => some ([], false)) b)
      none
theorem FV_path_Add_eq (w_slices_Clone_int : List Int → Option (List Int)) (w_path_read : List Int → Option ((List Int) ⊕ Unit)) (N : Nat) (x : (List Int) × Int) : F_path_Add w_slices_Clone_int w_path_read N x = V_path_Add w_slices_Clone_int w_path_read N x := by kernel_rfl
noncomputable def W_path_Add (N : Nat) (x : (List Int) × Int) : Option ((List Int) × Bool) :=
  obind (W_slices_Clone_int N (Prod.fst x)) fun (b : List Int) =>
    cnd (decide ((List.length b + List.length [Prod.snd x]) * (8 : Nat) ≤ (140737488355328 : Nat)))
      (obind (W_path_read N (b ++ [Prod.snd x])) fun (b : List Int ⊕ PUnit) =>
        selim (fun (b : List Int) => some (b, true)) (fun (c : PUnit) => some ([], false)) b)
      none
theorem F_path_Add_eq (N : Nat) (x : (List Int) × Int) : F_path_Add (W_slices_Clone_int N) (W_path_read N) N x = W_path_Add N x := (FV_path_Add_eq (W_slices_Clone_int N) (W_path_read N) N x).trans (by kernel_rfl)
noncomputable def conw_path_Add (w : (List Int) × Int → Option ((List Int) × Bool)) : Con := ⟨18, as_path_Add, bs_path_Add, (List Int) × Bool, w, out_path_Add⟩
noncomputable def con_path_Add (N : Nat) : Con := conw_path_Add (W_path_Add N)
theorem R_path_Add_eq (x : (List Int) × Int) (y : (List Int) × Bool) : retOf2 P0 Try.f18 (kpL []) (lbOf as_path_Add bs_path_Add x) (patS ⟨20, [], [], []⟩ pout_path_Add y) = some (out_path_Add y) := by kernel_rfl
theorem con_path_Add_ok (N : Nat) : Con.ok P0 (con_path_Add N) := ⟨⟨Try.f18, Try.func18, by kernel_rfl, by kernel_rfl⟩, fun (x : (List Int) × Int) (r : (List Int) × Bool) (hr : W_path_Add N x = some r) =>
  spec2_evT (Γ := G_path_Add (W_slices_Clone_int N) (W_path_read N) N) (Λ := L0) (pout := pout_path_Add) (kp := kpL []) mixed (orcOf_ok _ (by simp only [List.mem_cons, List.not_mem_nil, or_false, forall_eq_or_imp, forall_eq]; exact ⟨con_slices_Clone_int_ok N, con_path_read_ok N⟩)) Try.func18 (c := bodyOf Try.f18) (by kernel_rfl) (by kernel_rfl) (of_decide_eq_true (by kernel_rfl)) ((F_path_Add_eq N x).trans hr) (R_path_Add_eq x r)⟩
def as_ref1_SameInts : List AS := [.val (.list (.int .i64)), .val (.list (.int .i64))]
def bs_ref1_SameInts : List BS := []
def pout_ref1_SameInts : Pat := ⟨[(4, .val .bool)], []⟩
noncomputable def G_ref1_SameInts  (N : Nat) : OrcT := orcOf []
noncomputable def F_ref1_SameInts  (N : Nat) (x : (List Int) × List Int) : Option (Bool) :=
  (evT (G_ref1_SameInts  N) L0 P0 [(4, .loop [] ⟨[(5, .val (.int .i64))], []⟩ [(.exit 0, ⟨[], []⟩), (.ret, ⟨[(4, .val .bool)], []⟩)])]
    [] N 400 (bodyOf Try.f20) ⟨26, slots 0 (argsOf as_ref1_SameInts bs_ref1_SameInts x), tabU (lbOf as_ref1_SameInts bs_ref1_SameInts x) [], []⟩).elim (kRet 26 pout_ref1_SameInts (kpL []) (lbOf as_ref1_SameInts bs_ref1_SameInts x))
def out_ref1_SameInts (y : Bool) : V × List OK × List OK := (valW .bool y, [], [])
noncomputable def V_ref1_SameInts  (N : Nat) (x : (List Int) × List Int) : Option (Bool) :=
  cnd (decide ((↑(List.length (Prod.fst x)) : Int) ≠ (↑(List.length (Prod.snd x)) : Int))) (some false)
    (obind
      (loopN N
        (fun (v : Int) =>
          cnd (decide (v < (↑(List.length (Prod.fst x)) : Int)))
            (cnd (decide ((0 : Int) ≤ v) && decide (v < (↑(List.length (Prod.fst x)) : Int)))
              (cnd (decide ((0 : Int) ≤ v) && decide (v < (↑(List.length (Prod.snd x)) : Int)))
                (cnd
                  (decide
                    (List.getD (Prod.fst x) (Int.toNat v) (0 : Int) ≠ List.getD (Prod.snd x) (Int.toNat v) (0 : Int)))
                  (some (Sum.inr (Sum.inr false))) (some (Sum.inl (wr IntKind.i64 (v + (1 : Int))))))
                none)
              none)
            (some (Sum.inr (Sum.inl ()))))
        (Int.ofNat (0 : Nat)))
      fun (b : PUnit ⊕ Bool) => selim (fun (b : PUnit) => some true) (fun (c : Bool) => some c) b)
theorem FV_ref1_SameInts_eq  (N : Nat) (x : (List Int) × List Int) : F_ref1_SameInts  N x = V_ref1_SameInts  N x := by kernel_rfl
noncomputable def W_ref1_SameInts (N : Nat) (x : (List Int) × List Int) : Option (Bool) :=
  cnd (decide ((↑(List.length (Prod.fst x)) : Int) ≠ (↑(List.length (Prod.snd x)) : Int))) (some false)
    (obind
      (loopN N
        (fun (v : Int) =>
          cnd (decide (v < (↑(List.length (Prod.fst x)) : Int)))
            (cnd (decide ((0 : Int) ≤ v) && decide (v < (↑(List.length (Prod.fst x)) : Int)))
              (cnd (decide ((0 : Int) ≤ v) && decide (v < (↑(List.length (Prod.snd x)) : Int)))
                (cnd
                  (decide
                    (List.getD (Prod.fst x) (Int.toNat v) (0 : Int) ≠ List.getD (Prod.snd x) (Int.toNat v) (0 : Int)))
                  (some (Sum.inr (Sum.inr false))) (some (Sum.inl (wr IntKind.i64 (v + (1 : Int))))))
                none)
              none)
            (some (Sum.inr (Sum.inl ()))))
        (Int.ofNat (0 : Nat)))
      fun (b : PUnit ⊕ Bool) => selim (fun (b : PUnit) => some true) (fun (c : Bool) => some c) b)
theorem F_ref1_SameInts_eq (N : Nat) (x : (List Int) × List Int) : F_ref1_SameInts  N x = W_ref1_SameInts N x := (FV_ref1_SameInts_eq  N x).trans (by kernel_rfl)
noncomputable def conw_ref1_SameInts (w : (List Int) × List Int → Option (Bool)) : Con := ⟨20, as_ref1_SameInts, bs_ref1_SameInts, Bool, w, out_ref1_SameInts⟩
noncomputable def con_ref1_SameInts (N : Nat) : Con := conw_ref1_SameInts (W_ref1_SameInts N)
theorem R_ref1_SameInts_eq (x : (List Int) × List Int) (y : Bool) : retOf2 P0 Try.f20 (kpL []) (lbOf as_ref1_SameInts bs_ref1_SameInts x) (patS ⟨26, [], [], []⟩ pout_ref1_SameInts y) = some (out_ref1_SameInts y) := by kernel_rfl
theorem con_ref1_SameInts_ok (N : Nat) : Con.ok P0 (con_ref1_SameInts N) := ⟨⟨Try.f20, Try.func20, by kernel_rfl, by kernel_rfl⟩, fun (x : (List Int) × List Int) (r : Bool) (hr : W_ref1_SameInts N x = some r) =>
  spec2_evT (Γ := G_ref1_SameInts N) (Λ := L0) (pout := pout_ref1_SameInts) (kp := kpL []) mixed (orcOf_ok [] (by simp)) Try.func20 (c := bodyOf Try.f20) (by kernel_rfl) (by kernel_rfl) (of_decide_eq_true (by kernel_rfl)) ((F_ref1_SameInts_eq N x).trans hr) (R_ref1_SameInts_eq x r)⟩
def as_path_May : List AS := [.val (.list (.int .i64))]
def bs_path_May : List BS := []
def pout_path_May : Pat := ⟨[(2, .val .bool)], []⟩
noncomputable def G_path_May (w_path_read : List Int → Option ((List Int) ⊕ Unit)) (N : Nat) : OrcT := orcOf [conw_path_read w_path_read]
noncomputable def F_path_May (w_path_read : List Int → Option ((List Int) ⊕ Unit)) (N : Nat) (x : List Int) : Option (Bool) :=
  (evT (G_path_May w_path_read N) L0 P0 []
    [] N 400 (bodyOf Try.f21) ⟨12, slots 0 (argsOf as_path_May bs_path_May x), tabU (lbOf as_path_May bs_path_May x) [], []⟩).elim (kRet 12 pout_path_May (kpL []) (lbOf as_path_May bs_path_May x))
def out_path_May (y : Bool) : V × List OK × List OK := (valW .bool y, [], [])
noncomputable def V_path_May (w_path_read : List Int → Option ((List Int) ⊕ Unit)) (N : Nat) (x : List Int) : Option (Bool) :=
  obind (w_path_read x) fun (b : List Int ⊕ PUnit) =>
    selim (fun (b : List Int) => some true) (fun (c : PUnit) => some false) b
theorem FV_path_May_eq (w_path_read : List Int → Option ((List Int) ⊕ Unit)) (N : Nat) (x : List Int) : F_path_May w_path_read N x = V_path_May w_path_read N x := by kernel_rfl
noncomputable def W_path_May (N : Nat) (x : List Int) : Option (Bool) :=
  obind (W_path_read N x) fun (b : List Int ⊕ PUnit) =>
    selim (fun (b : List Int) => some true) (fun (c : PUnit) => some false) b
theorem F_path_May_eq (N : Nat) (x : List Int) : F_path_May (W_path_read N) N x = W_path_May N x := (FV_path_May_eq (W_path_read N) N x).trans (by kernel_rfl)
noncomputable def conw_path_May (w : List Int → Option (Bool)) : Con := ⟨21, as_path_May, bs_path_May, Bool, w, out_path_May⟩
noncomputable def con_path_May (N : Nat) : Con := conw_path_May (W_path_May N)
theorem R_path_May_eq (x : List Int) (y : Bool) : retOf2 P0 Try.f21 (kpL []) (lbOf as_path_May bs_path_May x) (patS ⟨12, [], [], []⟩ pout_path_May y) = some (out_path_May y) := by kernel_rfl
theorem con_path_May_ok (N : Nat) : Con.ok P0 (con_path_May N) := ⟨⟨Try.f21, Try.func21, by kernel_rfl, by kernel_rfl⟩, fun (x : List Int) (r : Bool) (hr : W_path_May N x = some r) =>
  spec2_evT (Γ := G_path_May (W_path_read N) N) (Λ := L0) (pout := pout_path_May) (kp := kpL []) mixed (orcOf_ok _ (by simp only [List.mem_cons, List.not_mem_nil, or_false, forall_eq_or_imp, forall_eq]; exact con_path_read_ok N)) Try.func21 (c := bodyOf Try.f21) (by kernel_rfl) (by kernel_rfl) (of_decide_eq_true (by kernel_rfl)) ((F_path_May_eq N x).trans hr) (R_path_May_eq x r)⟩
def as_path_Grand : List AS := [.val (.list (.int .i64))]
def bs_path_Grand : List BS := []
def pout_path_Grand : Pat := ⟨[(2, .val (.int .i64))], []⟩
noncomputable def G_path_Grand  (N : Nat) : OrcT := orcOf []
noncomputable def F_path_Grand  (N : Nat) (x : List Int) : Option (Int) :=
  (evT (G_path_Grand  N) L0 P0 []
    [] N 400 (bodyOf Try.f25) ⟨12, slots 0 (argsOf as_path_Grand bs_path_Grand x), tabU (lbOf as_path_Grand bs_path_Grand x) [], []⟩).elim (kRet 12 pout_path_Grand (kpL []) (lbOf as_path_Grand bs_path_Grand x))
def out_path_Grand (y : Int) : V × List OK × List OK := (valW (.int .i64) y, [], [])
noncomputable def V_path_Grand  (N : Nat) (x : List Int) : Option (Int) :=
  cnd (decide ((↑(List.length x) : Int) < (2 : Int))) (some (0 : Int))
    (cnd
      (decide ((0 : Int) ≤ wr IntKind.i64 ((↑(List.length x) : Int) - (2 : Int))) &&
        decide (wr IntKind.i64 ((↑(List.length x) : Int) - (2 : Int)) < (↑(List.length x) : Int)))
      (some (List.getD x (Int.toNat (wr IntKind.i64 ((↑(List.length x) : Int) - (2 : Int)))) (0 : Int))) none)
theorem FV_path_Grand_eq  (N : Nat) (x : List Int) : F_path_Grand  N x = V_path_Grand  N x := by kernel_rfl
noncomputable def W_path_Grand (N : Nat) (x : List Int) : Option (Int) :=
  cnd (decide ((↑(List.length x) : Int) < (2 : Int))) (some (0 : Int))
    (cnd
      (decide ((0 : Int) ≤ wr IntKind.i64 ((↑(List.length x) : Int) - (2 : Int))) &&
        decide (wr IntKind.i64 ((↑(List.length x) : Int) - (2 : Int)) < (↑(List.length x) : Int)))
      (some (List.getD x (Int.toNat (wr IntKind.i64 ((↑(List.length x) : Int) - (2 : Int)))) (0 : Int))) none)
theorem F_path_Grand_eq (N : Nat) (x : List Int) : F_path_Grand  N x = W_path_Grand N x := (FV_path_Grand_eq  N x).trans (by kernel_rfl)
noncomputable def conw_path_Grand (w : List Int → Option (Int)) : Con := ⟨25, as_path_Grand, bs_path_Grand, Int, w, out_path_Grand⟩
noncomputable def con_path_Grand (N : Nat) : Con := conw_path_Grand (W_path_Grand N)
theorem R_path_Grand_eq (x : List Int) (y : Int) : retOf2 P0 Try.f25 (kpL []) (lbOf as_path_Grand bs_path_Grand x) (patS ⟨12, [], [], []⟩ pout_path_Grand y) = some (out_path_Grand y) := by kernel_rfl
theorem con_path_Grand_ok (N : Nat) : Con.ok P0 (con_path_Grand N) := ⟨⟨Try.f25, Try.func25, by kernel_rfl, by kernel_rfl⟩, fun (x : List Int) (r : Int) (hr : W_path_Grand N x = some r) =>
  spec2_evT (Γ := G_path_Grand N) (Λ := L0) (pout := pout_path_Grand) (kp := kpL []) mixed (orcOf_ok [] (by simp)) Try.func25 (c := bodyOf Try.f25) (by kernel_rfl) (by kernel_rfl) (of_decide_eq_true (by kernel_rfl)) ((F_path_Grand_eq N x).trans hr) (R_path_Grand_eq x r)⟩
def as_ref1_Grand : List AS := [.val (.list (.int .i64))]
def bs_ref1_Grand : List BS := []
def pout_ref1_Grand : Pat := ⟨[(2, .val (.int .i64))], []⟩
noncomputable def G_ref1_Grand  (N : Nat) : OrcT := orcOf []
noncomputable def F_ref1_Grand  (N : Nat) (x : List Int) : Option (Int) :=
  (evT (G_ref1_Grand  N) L0 P0 []
    [] N 400 (bodyOf Try.f26) ⟨12, slots 0 (argsOf as_ref1_Grand bs_ref1_Grand x), tabU (lbOf as_ref1_Grand bs_ref1_Grand x) [], []⟩).elim (kRet 12 pout_ref1_Grand (kpL []) (lbOf as_ref1_Grand bs_ref1_Grand x))
def out_ref1_Grand (y : Int) : V × List OK × List OK := (valW (.int .i64) y, [], [])
noncomputable def V_ref1_Grand  (N : Nat) (x : List Int) : Option (Int) :=
  cnd (decide ((↑(List.length x) : Int) < (2 : Int))) (some (0 : Int))
    (cnd
      (decide ((0 : Int) ≤ wr IntKind.i64 ((↑(List.length x) : Int) - (2 : Int))) &&
        decide (wr IntKind.i64 ((↑(List.length x) : Int) - (2 : Int)) < (↑(List.length x) : Int)))
      (some (List.getD x (Int.toNat (wr IntKind.i64 ((↑(List.length x) : Int) - (2 : Int)))) (0 : Int))) none)
theorem FV_ref1_Grand_eq  (N : Nat) (x : List Int) : F_ref1_Grand  N x = V_ref1_Grand  N x := by kernel_rfl
noncomputable def W_ref1_Grand (N : Nat) (x : List Int) : Option (Int) :=
  cnd (decide ((↑(List.length x) : Int) < (2 : Int))) (some (0 : Int))
    (cnd
      (decide ((0 : Int) ≤ wr IntKind.i64 ((↑(List.length x) : Int) - (2 : Int))) &&
        decide (wr IntKind.i64 ((↑(List.length x) : Int) - (2 : Int)) < (↑(List.length x) : Int)))
      (some (List.getD x (Int.toNat (wr IntKind.i64 ((↑(List.length x) : Int) - (2 : Int)))) (0 : Int))) none)
theorem F_ref1_Grand_eq (N : Nat) (x : List Int) : F_ref1_Grand  N x = W_ref1_Grand N x := (FV_ref1_Grand_eq  N x).trans (by kernel_rfl)
noncomputable def conw_ref1_Grand (w : List Int → Option (Int)) : Con := ⟨26, as_ref1_Grand, bs_ref1_Grand, Int, w, out_ref1_Grand⟩
noncomputable def con_ref1_Grand (N : Nat) : Con := conw_ref1_Grand (W_ref1_Grand N)
theorem R_ref1_Grand_eq (x : List Int) (y : Int) : retOf2 P0 Try.f26 (kpL []) (lbOf as_ref1_Grand bs_ref1_Grand x) (patS ⟨12, [], [], []⟩ pout_ref1_Grand y) = some (out_ref1_Grand y) := by kernel_rfl
theorem con_ref1_Grand_ok (N : Nat) : Con.ok P0 (con_ref1_Grand N) := ⟨⟨Try.f26, Try.func26, by kernel_rfl, by kernel_rfl⟩, fun (x : List Int) (r : Int) (hr : W_ref1_Grand N x = some r) =>
  spec2_evT (Γ := G_ref1_Grand N) (Λ := L0) (pout := pout_ref1_Grand) (kp := kpL []) mixed (orcOf_ok [] (by simp)) Try.func26 (c := bodyOf Try.f26) (by kernel_rfl) (by kernel_rfl) (of_decide_eq_true (by kernel_rfl)) ((F_ref1_Grand_eq N x).trans hr) (R_ref1_Grand_eq x r)⟩
def as_law2_PathAll : List AS := [.val (.list (.int .i64)), .val (.list (.int .u8)), .val (.int .i64)]
def bs_law2_PathAll : List BS := []
def pout_law2_PathAll : Pat := ⟨[(6, .val .bool)], []⟩
noncomputable def G_law2_PathAll (w_Made : List Int → Option ((List Int) × Int)) (w_Picks_Path : (List Int) × Int → Option ((List Int) × (List Int) × Int)) (w_path_Add : (List Int) × Int → Option ((List Int) × Bool)) (w_ref1_AddPath : (List Int) × Int → Option ((List Int) × Bool)) (w_ref1_SameInts : (List Int) × List Int → Option (Bool)) (w_path_May : List Int → Option (Bool)) (w_ref1_MayPath : List Int → Option (Bool)) (w_path_Has : (List Int) × Int → Option (Bool)) (w_ref1_Has : (List Int) × Int → Option (Bool)) (w_path_Grand : List Int → Option (Int)) (w_ref1_Grand : List Int → Option (Int)) (N : Nat) : OrcT := orcOf [con_law2_begun N, conw_Made w_Made, conw_Picks_Path w_Picks_Path, conw_path_Add w_path_Add, conw_ref1_AddPath w_ref1_AddPath, conw_ref1_SameInts w_ref1_SameInts, conw_path_May w_path_May, conw_ref1_MayPath w_ref1_MayPath, conw_path_Has w_path_Has, conw_ref1_Has w_ref1_Has, conw_path_Grand w_path_Grand, conw_ref1_Grand w_ref1_Grand]
noncomputable def F_law2_PathAll (w_Made : List Int → Option ((List Int) × Int)) (w_Picks_Path : (List Int) × Int → Option ((List Int) × (List Int) × Int)) (w_path_Add : (List Int) × Int → Option ((List Int) × Bool)) (w_ref1_AddPath : (List Int) × Int → Option ((List Int) × Bool)) (w_ref1_SameInts : (List Int) × List Int → Option (Bool)) (w_path_May : List Int → Option (Bool)) (w_ref1_MayPath : List Int → Option (Bool)) (w_path_Has : (List Int) × Int → Option (Bool)) (w_ref1_Has : (List Int) × Int → Option (Bool)) (w_path_Grand : List Int → Option (Int)) (w_ref1_Grand : List Int → Option (Int)) (N : Nat) (x : (List Int) × (List Int) × Int) : Option (Bool) :=
  (evT (G_law2_PathAll w_Made w_Picks_Path w_path_Add w_ref1_AddPath w_ref1_SameInts w_path_May w_ref1_MayPath w_path_Has w_ref1_Has w_path_Grand w_ref1_Grand N) L0 P0 [(7, .unroll 3)]
    [] N 400 (bodyOf Try.f3) ⟨104, slots 0 (argsOf as_law2_PathAll bs_law2_PathAll x), tabU (lbOf as_law2_PathAll bs_law2_PathAll x) [], []⟩).elim (kRet 104 pout_law2_PathAll (kpL []) (lbOf as_law2_PathAll bs_law2_PathAll x))
def out_law2_PathAll (y : Bool) : V × List OK × List OK := (valW .bool y, [], [])
noncomputable def V_law2_PathAll (w_Made : List Int → Option ((List Int) × Int)) (w_Picks_Path : (List Int) × Int → Option ((List Int) × (List Int) × Int)) (w_path_Add : (List Int) × Int → Option ((List Int) × Bool)) (w_ref1_AddPath : (List Int) × Int → Option ((List Int) × Bool)) (w_ref1_SameInts : (List Int) × List Int → Option (Bool)) (w_path_May : List Int → Option (Bool)) (w_ref1_MayPath : List Int → Option (Bool)) (w_path_Has : (List Int) × Int → Option (Bool)) (w_ref1_Has : (List Int) × Int → Option (Bool)) (w_path_Grand : List Int → Option (Int)) (w_ref1_Grand : List Int → Option (Int)) (N : Nat) (x : (List Int) × (List Int) × Int) : Option (Bool) :=
  cnd (decide ((14 : Int) < (↑(List.length (Prod.fst x)) : Int))) (some true)
    (cnd (decide ((6 : Int) < (↑(List.length (Prod.fst (Prod.snd x))) : Int))) (some true)
      (obind (w_Made (Prod.fst (Prod.snd x))) fun (b : List Int × Int) =>
        obind (w_Picks_Path (Prod.fst b, Prod.snd b)) fun (b : List Int × List Int × Int) =>
          obind (w_path_Add (Prod.fst x, Prod.snd (Prod.snd x))) fun (b_1 : List Int × Bool) =>
            obind (w_ref1_AddPath (Prod.fst x, Prod.snd (Prod.snd x))) fun (b_2 : List Int × Bool) =>
              cnd (!Prod.snd b_1 == Prod.snd b_2) (some false)
                (obind (w_ref1_SameInts (Prod.fst b_1, Prod.fst b_2)) fun (b_3 : Bool) =>
                  cnd (!b_3) (some false)
                    (obind (w_path_May (Prod.fst x)) fun (b_4 : Bool) =>
                      obind (w_ref1_MayPath (Prod.fst x)) fun (b_5 : Bool) =>
                        cnd (!b_4 == b_5) (some false)
                          (obind (w_path_Has (Prod.fst x, Prod.snd (Prod.snd x))) fun (b_6 : Bool) =>
                            obind (w_ref1_Has (Prod.fst x, Prod.snd (Prod.snd x))) fun (b_7 : Bool) =>
                              cnd (!b_6 == b_7) (some false)
                                (obind (w_path_Grand (Prod.fst x)) fun (b_8 : Int) =>
                                  obind (w_ref1_Grand (Prod.fst x)) fun (b_9 : Int) =>
                                    cnd (decide (b_8 ≠ b_9)) (some false)
                                      (obind (w_path_Add (Prod.fst b, Prod.snd (Prod.snd x)))
                                        fun (b_10 : List Int × Bool) =>
                                        obind (w_ref1_AddPath (Prod.fst b, Prod.snd (Prod.snd x)))
                                          fun (b_11 : List Int × Bool) =>
                                          cnd (!Prod.snd b_10 == Prod.snd b_11) (some false)
                                            (obind (w_ref1_SameInts (Prod.fst b_10, Prod.fst b_11)) fun (b_12 : Bool) =>
                                              cnd (!b_12) (some false)
                                                (obind (w_path_May (Prod.fst b)) fun (b_13 : Bool) =>
                                                  obind (w_ref1_MayPath (Prod.fst b)) fun (b_14 : Bool) =>
                                                    cnd (!b_13 == b_14) (some false)
                                                      (obind (w_path_Has (Prod.fst b, Prod.snd (Prod.snd x)))
                                                        fun (b_15 : Bool) =>
                                                        obind (w_ref1_Has (Prod.fst b, Prod.snd (Prod.snd x)))
                                                          fun (b_16 : Bool) =>
                                                          cnd (!b_15 == b_16) (some false)
                                                            (obind (w_path_Grand (Prod.fst b)) fun (b_17 : Int) =>
                                                              obind (w_ref1_Grand (Prod.fst b)) fun (b_18 : Int) =>
                                                                cnd (decide (b_17 ≠ b_18)) (some false)
                                                                  (obind (w_path_May (Prod.fst b)) fun (b : Bool) =>
                                                                    some b))))))))))))
theorem FV_law2_PathAll_eq (w_Made : List Int → Option ((List Int) × Int)) (w_Picks_Path : (List Int) × Int → Option ((List Int) × (List Int) × Int)) (w_path_Add : (List Int) × Int → Option ((List Int) × Bool)) (w_ref1_AddPath : (List Int) × Int → Option ((List Int) × Bool)) (w_ref1_SameInts : (List Int) × List Int → Option (Bool)) (w_path_May : List Int → Option (Bool)) (w_ref1_MayPath : List Int → Option (Bool)) (w_path_Has : (List Int) × Int → Option (Bool)) (w_ref1_Has : (List Int) × Int → Option (Bool)) (w_path_Grand : List Int → Option (Int)) (w_ref1_Grand : List Int → Option (Int)) (N : Nat) (x : (List Int) × (List Int) × Int) : F_law2_PathAll w_Made w_Picks_Path w_path_Add w_ref1_AddPath w_ref1_SameInts w_path_May w_ref1_MayPath w_path_Has w_ref1_Has w_path_Grand w_ref1_Grand N x = V_law2_PathAll w_Made w_Picks_Path w_path_Add w_ref1_AddPath w_ref1_SameInts w_path_May w_ref1_MayPath w_path_Has w_ref1_Has w_path_Grand w_ref1_Grand N x := by kernel_rfl
noncomputable def W_law2_PathAll (N : Nat) (x : (List Int) × (List Int) × Int) : Option (Bool) :=
  cnd (decide ((14 : Int) < (↑(List.length (Prod.fst x)) : Int))) (some true)
    (cnd (decide ((6 : Int) < (↑(List.length (Prod.fst (Prod.snd x))) : Int))) (some true)
      (obind (W_Made N (Prod.fst (Prod.snd x))) fun (b : List Int × Int) =>
        obind (W_Picks_Path N (Prod.fst b, Prod.snd b)) fun (b : List Int × List Int × Int) =>
          obind (W_path_Add N (Prod.fst x, Prod.snd (Prod.snd x))) fun (b_1 : List Int × Bool) =>
            obind (W_ref1_AddPath N (Prod.fst x, Prod.snd (Prod.snd x))) fun (b_2 : List Int × Bool) =>
              cnd (!Prod.snd b_1 == Prod.snd b_2) (some false)
                (obind (W_ref1_SameInts N (Prod.fst b_1, Prod.fst b_2)) fun (b_3 : Bool) =>
                  cnd (!b_3) (some false)
                    (obind (W_path_May N (Prod.fst x)) fun (b_4 : Bool) =>
                      obind (W_ref1_MayPath N (Prod.fst x)) fun (b_5 : Bool) =>
                        cnd (!b_4 == b_5) (some false)
                          (obind (W_path_Has N (Prod.fst x, Prod.snd (Prod.snd x))) fun (b_6 : Bool) =>
                            obind (W_ref1_Has N (Prod.fst x, Prod.snd (Prod.snd x))) fun (b_7 : Bool) =>
                              cnd (!b_6 == b_7) (some false)
                                (obind (W_path_Grand N (Prod.fst x)) fun (b_8 : Int) =>
                                  obind (W_ref1_Grand N (Prod.fst x)) fun (b_9 : Int) =>
                                    cnd (decide (b_8 ≠ b_9)) (some false)
                                      (obind (W_path_Add N (Prod.fst b, Prod.snd (Prod.snd x)))
                                        fun (b_10 : List Int × Bool) =>
                                        obind (W_ref1_AddPath N (Prod.fst b, Prod.snd (Prod.snd x)))
                                          fun (b_11 : List Int × Bool) =>
                                          cnd (!Prod.snd b_10 == Prod.snd b_11) (some false)
                                            (obind (W_ref1_SameInts N (Prod.fst b_10, Prod.fst b_11)) fun (b_12 : Bool) =>
                                              cnd (!b_12) (some false)
                                                (obind (W_path_May N (Prod.fst b)) fun (b_13 : Bool) =>
                                                  obind (W_ref1_MayPath N (Prod.fst b)) fun (b_14 : Bool) =>
                                                    cnd (!b_13 == b_14) (some false)
                                                      (obind (W_path_Has N (Prod.fst b, Prod.snd (Prod.snd x)))
                                                        fun (b_15 : Bool) =>
                                                        obind (W_ref1_Has N (Prod.fst b, Prod.snd (Prod.snd x)))
                                                          fun (b_16 : Bool) =>
                                                          cnd (!b_15 == b_16) (some false)
                                                            (obind (W_path_Grand N (Prod.fst b)) fun (b_17 : Int) =>
                                                              obind (W_ref1_Grand N (Prod.fst b)) fun (b_18 : Int) =>
                                                                cnd (decide (b_17 ≠ b_18)) (some false)
                                                                  (obind (W_path_May N (Prod.fst b)) fun (b : Bool) =>
                                                                    some b))))))))))))
theorem F_law2_PathAll_eq (N : Nat) (x : (List Int) × (List Int) × Int) : F_law2_PathAll (W_Made N) (W_Picks_Path N) (W_path_Add N) (W_ref1_AddPath N) (W_ref1_SameInts N) (W_path_May N) (W_ref1_MayPath N) (W_path_Has N) (W_ref1_Has N) (W_path_Grand N) (W_ref1_Grand N) N x = W_law2_PathAll N x := (FV_law2_PathAll_eq (W_Made N) (W_Picks_Path N) (W_path_Add N) (W_ref1_AddPath N) (W_ref1_SameInts N) (W_path_May N) (W_ref1_MayPath N) (W_path_Has N) (W_ref1_Has N) (W_path_Grand N) (W_ref1_Grand N) N x).trans (by kernel_rfl)
noncomputable def conw_law2_PathAll (w : (List Int) × (List Int) × Int → Option (Bool)) : Con := ⟨3, as_law2_PathAll, bs_law2_PathAll, Bool, w, out_law2_PathAll⟩
noncomputable def con_law2_PathAll (N : Nat) : Con := conw_law2_PathAll (W_law2_PathAll N)
theorem R_law2_PathAll_eq (x : (List Int) × (List Int) × Int) (y : Bool) : retOf2 P0 Try.f3 (kpL []) (lbOf as_law2_PathAll bs_law2_PathAll x) (patS ⟨104, [], [], []⟩ pout_law2_PathAll y) = some (out_law2_PathAll y) := by kernel_rfl
theorem con_law2_PathAll_ok (N : Nat) : Con.ok P0 (con_law2_PathAll N) := ⟨⟨Try.f3, Try.func3, by kernel_rfl, by kernel_rfl⟩, fun (x : (List Int) × (List Int) × Int) (r : Bool) (hr : W_law2_PathAll N x = some r) =>
  spec2_evT (Γ := G_law2_PathAll (W_Made N) (W_Picks_Path N) (W_path_Add N) (W_ref1_AddPath N) (W_ref1_SameInts N) (W_path_May N) (W_ref1_MayPath N) (W_path_Has N) (W_ref1_Has N) (W_path_Grand N) (W_ref1_Grand N) N) (Λ := L0) (pout := pout_law2_PathAll) (kp := kpL []) mixed (orcOf_ok _ (by simp only [List.mem_cons, List.not_mem_nil, or_false, forall_eq_or_imp, forall_eq]; exact ⟨con_law2_begun_ok N, con_Made_ok N, con_Picks_Path_ok N, con_path_Add_ok N, con_ref1_AddPath_ok N, con_ref1_SameInts_ok N, con_path_May_ok N, con_ref1_MayPath_ok N, con_path_Has_ok N, con_ref1_Has_ok N, con_path_Grand_ok N, con_ref1_Grand_ok N⟩)) Try.func3 (c := bodyOf Try.f3) (by kernel_rfl) (by kernel_rfl) (of_decide_eq_true (by kernel_rfl)) ((F_law2_PathAll_eq N x).trans hr) (R_law2_PathAll_eq x r)⟩
/-! What is reckoned. -/
theorem wr_s {z : Int} (h : 0 ≤ z) (h2 : z ≤ 140737488355328) : wr .i64 z = z := wr_i64 (by omega) (by omega)
theorem getD_mem {l : List Int} {j : Nat} (h : j < l.length) : l.getD j 0 ∈ l := by
  rw [List.getD_eq_getElem?_getD, List.getElem?_eq_getElem h]; exact List.getElem_mem h
theorem mem_getD {l : List Int} {x : Int} (h : x ∈ l) : ∃ j, j < l.length ∧ l.getD j 0 = x := by
  obtain ⟨j, hj, e⟩ := List.getElem_of_mem h
  exact ⟨j, hj, by rw [List.getD_eq_getElem?_getD, List.getElem?_eq_getElem hj]; exact e⟩
theorem Index_eq (N : Nat) (l : List Int) (x : Int) (hN : l.length < N) (hl : l.length ≤ 140737488355327) : ∃ r, W_slices_Index_int N (l, x) = some r ∧ (0 ≤ r ↔ x ∈ l) := by
  unfold W_slices_Index_int
  obtain ⟨r, h1, h2⟩ := loopN_run (N := N) (f := fun (v : Int) =>
      cnd (decide (v < ↑(List.length (Prod.fst (l, x)))))
        (cnd (decide ((0 : Int) ≤ v) && decide (v < ↑(List.length (Prod.fst (l, x)))))
          (cnd (decide (Prod.snd (l, x) = List.getD (Prod.fst (l, x)) (Int.toNat v) (0 : Int))) (some (Sum.inr (Sum.inr v)))
            (some (Sum.inl (wr IntKind.i64 (v + (1 : Int))))))
          none)
        (some (Sum.inr (Sum.inl ())))) (x := Int.ofNat 0)
    (fun v => 0 ≤ v ∧ v ≤ l.length ∧ ∀ j : Nat, (j : Int) < v → l.getD j 0 ≠ x) (fun v => l.length - v.toNat) (fun r : PUnit ⊕ Int => match r with | .inl _ => x ∉ l | .inr k => 0 ≤ k ∧ x ∈ l) (fun v ⟨g1, g2, g3⟩ => by
      simp only
      by_cases h : v < l.length
      · simp only [dT h, dT g1, Bool.and_self, cnd_t]
        by_cases he : x = l.getD v.toNat 0
        · right
          rw [dT he, cnd_t]
          exact ⟨_, rfl, g1, by rw [he]; exact getD_mem (by omega)⟩
        · left
          rw [dF he, cnd_f, wr_s (by omega) (by omega)]
          refine ⟨_, rfl, ⟨by omega, by omega, fun j hj => ?_⟩, by omega⟩
          by_cases hjv : (j : Int) < v
          · exact g3 j hjv
          · have : j = v.toNat := by omega
            subst this
            exact fun e => he e.symm
      · right
        rw [dF h, cnd_f]
        refine ⟨_, rfl, fun hm => ?_⟩
        obtain ⟨j, hj, e⟩ := mem_getD hm
        exact g3 j (by omega) e) ⟨by simp, by simp, fun j hj => by simp at hj; omega⟩ (by simp; omega)
  rw [h1, obind_s]
  cases r with
  | inl u => exact ⟨-1, rfl, by simp only at h2; simp [h2]⟩
  | inr k => exact ⟨k, rfl, by simp only at h2; simp [h2.1, h2.2]⟩
theorem Has_eq (N : Nat) (l : List Int) (x : Int) (hN : l.length < N) (hl : l.length ≤ 140737488355327) : W_path_Has N (l, x) = some (decide (x ∈ l)) := by
  obtain ⟨r, h1, h2⟩ := Index_eq N l x hN hl
  unfold W_path_Has W_slices_Contains_int
  simp only [h1, obind_s]
  by_cases h : x ∈ l
  · rw [dT (h2.2 h), dT h]
  · rw [dF (fun e => h (h2.1 e)), dF h]
def VP (x : List Int) : Prop := 1 ≤ x.length ∧ x.length ≤ 10 ∧ x.getD 0 0 = 1 ∧ ∀ j, j < x.length → 1 ≤ x.getD j 0 ∧ x.getD j 0 ≤ 8 ∧ x.getD j 0 ∉ x.take j
open Classical in
theorem read_eq (N : Nat) (x : List Int) (hN : 12 ≤ N) : W_path_read N x = some (if VP x then .inl x else .inr ()) := by
  unfold W_path_read
  by_cases h1 : (x.length : Int) < 1
  · rw [dT h1, cnd_t, obind_s, cnd_t, if_neg (fun h => by have := h.1; omega)]
  rw [dF h1, cnd_f, obind_s]
  by_cases h2 : (10 : Int) < x.length
  · rw [dT h2, cnd_t, if_neg (fun h => by have := h.2.1; omega)]
  rw [dF h2, cnd_f, dT (show (0 : Int) ≤ 0 by omega), dT (show (0 : Int) < x.length by omega), Bool.and_self, cnd_t]
  by_cases h3 : x.getD 0 0 = 1
  case neg => rw [dT h3, cnd_t, if_neg (fun h => h3 h.2.2.1)]
  rw [dF (by simpa using h3), cnd_f]
  refine obind_loop (fun v : Int => 0 ≤ v ∧ v ≤ x.length ∧ ∀ j : Nat, (j : Int) < v → 1 ≤ x.getD j 0 ∧ x.getD j 0 ≤ 8 ∧ x.getD j 0 ∉ x.take j) (fun v => x.length - v.toNat)
    (fun r : PUnit ⊕ List Int ⊕ PUnit => (r = .inl () ∧ VP x) ∨ (r = .inr (.inr ()) ∧ ¬ VP x)) ⟨by simp, by simp, fun j hj => by simp at hj; omega⟩ (by simp; omega) ?_ ?_
  · rintro r (⟨rfl, h⟩ | ⟨rfl, h⟩)
    · rw [selim_l, if_pos h]
    · rw [selim_r, if_neg h]
  · rintro v ⟨g1, g2, g3⟩
    by_cases h : v < x.length
    · simp only [dT h, dT g1, Bool.and_self, cnd_t, dT (show v ≤ x.length by omega), List.drop_zero]
      have bad : ¬ (1 ≤ x.getD v.toNat 0 ∧ x.getD v.toNat 0 ≤ 8 ∧ x.getD v.toNat 0 ∉ x.take v.toNat) → ¬ VP x := fun hb hv => hb (hv.2.2.2 v.toNat (by omega))
      by_cases b1 : x.getD v.toNat 0 < 1
      · right
        rw [dT b1, cnd_t, obind_s, cnd_t]
        exact ⟨_, rfl, .inr ⟨rfl, bad (fun h => by omega)⟩⟩
      rw [dF b1, cnd_f, obind_s]
      by_cases b2 : 8 < x.getD v.toNat 0
      · right
        rw [dT b2, cnd_t]
        exact ⟨_, rfl, .inr ⟨rfl, bad (fun h => by omega)⟩⟩
      rw [dF b2, cnd_f, Has_eq N _ _ (by rw [List.length_take]; omega) (by rw [List.length_take]; omega), obind_s]
      by_cases b3 : x.getD v.toNat 0 ∈ x.take v.toNat
      · right
        rw [dT b3, cnd_t]
        exact ⟨_, rfl, .inr ⟨rfl, bad (fun h => h.2.2 b3)⟩⟩
      left
      rw [dF b3, cnd_f, wr_s (by omega) (by omega)]
      refine ⟨_, rfl, ⟨by omega, by omega, fun j hj => ?_⟩, by omega⟩
      by_cases hjv : (j : Int) < v
      · exact g3 j hjv
      · have : j = v.toNat := by omega
        subst this
        exact ⟨by omega, by omega, b3⟩
    · right
      rw [dF h, cnd_f]
      exact ⟨_, rfl, .inl ⟨rfl, by omega, by omega, h3, fun j hj => g3 j (by omega)⟩⟩
/-- One more. -/
theorem VP_snoc {p : List Int} (hp : VP p) (id : Int) : VP (p ++ [id]) ↔ (p.length < 10 ∧ 1 ≤ id ∧ id ≤ 8 ∧ id ∉ p) := by
  have gl : (p ++ [id]).getD p.length 0 = id := by simp [List.getD_eq_getElem?_getD]
  have go : ∀ j, j < p.length → (p ++ [id]).getD j 0 = p.getD j 0 := fun j hj => by
    rw [List.getD_eq_getElem?_getD, List.getD_eq_getElem?_getD, List.getElem?_append_left hj]
  constructor
  · rintro ⟨h1, h2, h3, h4⟩
    have := h4 p.length (by simp)
    rw [gl, List.take_left'  rfl] at this
    simp at h2
    exact ⟨by omega, this.1, this.2.1, this.2.2⟩
  · rintro ⟨h1, h2, h3, h4⟩
    obtain ⟨a1, a2, a3, a4⟩ := hp
    refine ⟨by simp, by simp; omega, by rw [go 0 (by omega)]; exact a3, fun j hj => ?_⟩
    by_cases hjp : j < p.length
    · rw [go j hjp, List.take_append_of_le_length (by omega)]
      exact a4 j hjp
    · simp at hj
      have : j = p.length := by omega
      subst this
      rw [gl, List.take_left' rfl]
      exact ⟨h2, h3, h4⟩
open Classical in
theorem Add_eq (N : Nat) (p : List Int) (id : Int) (hN : 12 ≤ N) (hl : p.length ≤ 1000) : W_path_Add N (p, id) = some (if VP (p ++ [id]) then (p ++ [id], true) else ([], false)) := by
  unfold W_path_Add W_slices_Clone_int
  simp only
  rw [dT (by omega), cnd_t, obind_s, dT (by simp; omega), cnd_t, read_eq N _ hN, obind_s]
  split
  · rw [selim_l]
  · rw [selim_r]
open Classical in
theorem May_eq (N : Nat) (p : List Int) (hN : 12 ≤ N) : W_path_May N p = some (decide (VP p)) := by
  unfold W_path_May
  rw [read_eq N _ hN, obind_s]
  split
  · rename_i h; rw [selim_l, dT h]
  · rename_i h; rw [selim_r, dF h]
open Classical in
/-- A loop that looks at each place till one is bad. -/
theorem all_loop {N len : Nat} {β : Type} {f : Int → Option (Int ⊕ (PUnit ⊕ β))} (bad : Nat → Prop) (r : β) (hN : len < N)
    (hf : ∀ v : Int, 0 ≤ v → v < len → f v = if bad v.toNat then some (.inr (.inr r)) else some (.inl (v + 1))) (he : ∀ v : Int, 0 ≤ v → ¬ v < len → f v = some (.inr (.inl ()))) :
    loopN N f (Int.ofNat 0) = some (if ∃ j, j < len ∧ bad j then .inr r else .inl ()) := by
  obtain ⟨q, h1, h2⟩ := loopN_run (N := N) (f := f) (x := Int.ofNat 0) (fun v => 0 ≤ v ∧ v ≤ len ∧ ∀ j : Nat, (j : Int) < v → ¬ bad j) (fun v => len - v.toNat)
    (fun q => q = if ∃ j, j < len ∧ bad j then .inr r else .inl ()) (fun v ⟨g1, g2, g3⟩ => by
      by_cases h : v < len
      · rw [hf v g1 h]
        by_cases hb : bad v.toNat
        · right
          rw [if_pos hb]
          exact ⟨_, rfl, by rw [if_pos ⟨v.toNat, by omega, hb⟩]⟩
        · left
          rw [if_neg hb]
          refine ⟨_, rfl, ⟨by omega, by omega, fun j hj => ?_⟩, by omega⟩
          by_cases hjv : (j : Int) < v
          · exact g3 j hjv
          · have : j = v.toNat := by omega
            subst this; exact hb
      · right
        rw [he v g1 h]
        exact ⟨_, rfl, by rw [if_neg]; rintro ⟨j, hj, hb⟩; exact g3 j (by omega) hb⟩) ⟨by simp, by simp, fun j hj => by simp at hj; omega⟩ (by simp; omega)
  rw [h1, h2]
open Classical in
theorem rHas_eq (N : Nat) (l : List Int) (x : Int) (hN : l.length < N) (hl : l.length ≤ 140737488355327) : W_ref1_Has N (l, x) = some (decide (x ∈ l)) := by
  unfold W_ref1_Has
  simp only
  rw [all_loop (len := l.length) (fun j => l.getD j 0 = x) true hN (fun v h1 h2 => by
    rw [dT h2, cnd_t, dT h1, Bool.and_self, cnd_t]
    by_cases h : l.getD v.toNat 0 = x
    · rw [dT h, cnd_t, if_pos h]
    · rw [dF h, cnd_f, if_neg h, wr_s (by omega) (by omega)]) (fun v _ h => by rw [dF h, cnd_f]), obind_s]
  by_cases h : x ∈ l
  · rw [if_pos (mem_getD h), selim_r, dT h]
  · rw [if_neg (fun ⟨j, hj, e⟩ => h (e ▸ getD_mem hj)), selim_l, dF h]
open Classical in
theorem rMay_eq (N : Nat) (x : List Int) (hN : 12 ≤ N) : W_ref1_MayPath N x = some (decide (VP x)) := by
  unfold W_ref1_MayPath
  by_cases h1 : (x.length : Int) < 1
  · rw [dT h1, cnd_t, obind_s, cnd_t, dF (fun h => by have := h.1; omega)]
  rw [dF h1, cnd_f, obind_s]
  by_cases h2 : (10 : Int) < x.length
  · rw [dT h2, cnd_t, dF (fun h => by have := h.2.1; omega)]
  rw [dF h2, cnd_f, dT (show (0 : Int) ≤ 0 by omega), dT (show (0 : Int) < x.length by omega), Bool.and_self, cnd_t]
  by_cases h3 : x.getD 0 0 = 1
  case neg => rw [dT h3, cnd_t, dF (fun h => h3 h.2.2.1)]
  rw [dF (by simpa using h3), cnd_f]
  rw [all_loop (len := x.length) (fun j => ¬ (1 ≤ x.getD j 0 ∧ x.getD j 0 ≤ 8 ∧ x.getD j 0 ∉ x.take j)) false (by omega) (fun v g1 g2 => by
    rw [dT g2, dT g1, cnd_t, Bool.and_self, cnd_t, dT (show v ≤ x.length by omega), cnd_t, Bool.and_self, cnd_t, cnd_t, List.drop_zero]
    by_cases b1 : x.getD v.toNat 0 < 1
    · rw [dT b1, cnd_t, if_pos (fun h => by omega)]
    rw [dF b1, cnd_f]
    by_cases b2 : 8 < x.getD v.toNat 0
    · rw [dT b2, cnd_t, if_pos (fun h => by omega)]
    rw [dF b2, cnd_f, rHas_eq N _ _ (by rw [List.length_take]; omega) (by rw [List.length_take]; omega), obind_s]
    by_cases b3 : x.getD v.toNat 0 ∈ x.take v.toNat
    · rw [dT b3, cnd_t, if_pos (fun h => h.2.2 b3)]
    rw [dF b3, cnd_f, if_neg (fun h => h ⟨by omega, by omega, b3⟩), wr_s (by omega) (by omega)]) (fun v _ h => by rw [dF h, cnd_f]), obind_s]
  by_cases hv : VP x
  · rw [if_neg (fun ⟨j, hj, hb⟩ => hb (hv.2.2.2 j hj)), selim_l, dT hv]
  · rw [if_pos, selim_r, dF hv]
    refine Classical.byContradiction fun hn => hv ⟨by omega, by omega, h3, fun j hj => Classical.byContradiction fun hb => hn ⟨j, hj, hb⟩⟩
open Classical in
theorem rAdd_eq (N : Nat) (p : List Int) (id : Int) (hN : 12 ≤ N) (hl : p.length ≤ 1000) : W_ref1_AddPath N (p, id) = some (if VP (p ++ [id]) then (p ++ [id], true) else ([], false)) := by
  unfold W_ref1_AddPath
  simp only
  rw [dT (by omega), cnd_t, dT (by simp; omega), cnd_t, rMay_eq N _ hN, obind_s]
  by_cases h : VP (p ++ [id])
  · rw [dT h, if_pos h, Bool.not_true, cnd_f]
  · rw [dF h, if_neg h, Bool.not_false, cnd_t]
theorem Same_self (N : Nat) (a : List Int) (hN : a.length < N) (hl : a.length ≤ 140737488355327) : W_ref1_SameInts N (a, a) = some true := by
  unfold W_ref1_SameInts
  simp only
  rw [dF (by simp), cnd_f, all_loop (len := a.length) (fun j => False) false hN (fun v h1 h2 => by
    rw [dT h2, cnd_t, dT h1, Bool.and_self, cnd_t, cnd_t, dF (by simp), cnd_f, if_neg id, wr_s (by omega) (by omega)]) (fun v _ h => by rw [dF h, cnd_f]), obind_s, if_neg (by rintro ⟨_, _, h⟩; exact h), selim_l]
theorem Num_eq (N : Nat) (m : Int) (l : List Int) (n : Int) (hm : 1 ≤ m) (hn : 0 ≤ n) (hn2 : n ≤ 1000000) (hel : ∀ x ∈ l, 0 ≤ x ∧ x ≤ 255) : ∃ k n', W_Picks_Num N (m, l, n) = some (k, l, n') ∧ 0 ≤ k ∧ k < m ∧ n ≤ n' ∧ n' ≤ n + 1 := by
  unfold W_Picks_Num
  simp only
  by_cases h : (l.length : Int) ≤ n
  · rw [dT h, cnd_t]; exact ⟨_, _, rfl, by omega, by omega, by omega, by omega⟩
  rw [dF h, cnd_f, dF (by omega), cnd_f, wr_s (z := n + 1) (by omega) (by omega), wr_s (z := n + 1 - 1) (by omega) (by omega), dT (by omega), dT (by omega), Bool.and_self, cnd_t, dF (by omega), Bool.not_false, cnd_t]
  have hb := hel (l.getD (n + 1 - 1).toNat 0) (getD_mem (by omega))
  rw [wr_s (by omega) (by omega), Int.tmod_eq_emod_of_nonneg (by omega)]
  exact ⟨_, _, rfl, Int.emod_nonneg _ (by omega), Int.emod_lt_of_pos _ (by omega), by omega, by omega⟩
open Classical in
theorem Path_eq (N : Nat) (l : List Int) (n : Int) (hN : 12 ≤ N) (hn : 0 ≤ n) (hn2 : n ≤ 1000) (hel : ∀ x ∈ l, 0 ≤ x ∧ x ≤ 255) : ∃ p n', W_Picks_Path N (l, n) = some (p, l, n') ∧ VP p ∧ n ≤ n' ∧ n' ≤ n + 5 := by
  unfold W_Picks_Path
  simp only
  obtain ⟨k, n1, e1, a1, a2, a3, a4⟩ := Num_eq N 4 l n (by omega) hn (by omega) hel
  rw [e1, obind_s]
  simp only
  obtain ⟨r, h1, h2⟩ := loopN_run (N := N) (f := fun (v : List Int × Int × List Int × Int) =>
        cnd (decide ((0 : Int) < Prod.fst (Prod.snd v)))
          (obind (W_Picks_Num N ((7 : Int), Prod.fst (Prod.snd (Prod.snd v)), Prod.snd (Prod.snd (Prod.snd v))))
            fun (b : Int × List Int × Int) =>
            obind (W_ref1_AddPath N (Prod.fst v, wr IntKind.i64 ((2 : Int) + Prod.fst b)))
              fun (b_1 : List Int × Bool) =>
              cnd (Prod.snd b_1)
                (some
                  (Sum.inl
                    (Prod.fst b_1, wr IntKind.i64 (Prod.fst (Prod.snd v) - (1 : Int)), Prod.fst (Prod.snd b),
                      Prod.snd (Prod.snd b))))
                (some
                  (Sum.inl
                    (Prod.fst v, wr IntKind.i64 (Prod.fst (Prod.snd v) - (1 : Int)), Prod.fst (Prod.snd b),
                      Prod.snd (Prod.snd b)))))
          (some (Sum.inr (Prod.fst v, Prod.fst (Prod.snd (Prod.snd v)), Prod.snd (Prod.snd (Prod.snd v)))))) (x := ([1], k, l, n1))
    (fun v => VP v.1 ∧ 0 ≤ v.2.1 ∧ v.2.1 ≤ 4 ∧ v.2.2.1 = l ∧ n ≤ v.2.2.2 ∧ v.2.2.2 + v.2.1 ≤ n + 5) (fun v => v.2.1.toNat) (fun r => VP r.1 ∧ r.2.1 = l ∧ n ≤ r.2.2 ∧ r.2.2 ≤ n + 5) (fun v => by
      obtain ⟨p, i, l', m⟩ := v
      rintro ⟨g1, g2, g3, g4, g5, g6⟩
      simp only at g1 g2 g3 g4 g5 g6 ⊢
      subst g4
      by_cases hi : 0 < i
      · left
        obtain ⟨k', m', f1, f2, f3, f4, f5⟩ := Num_eq N 7 l' m (by omega) (by omega) (by omega) hel
        have hp := g1.2.1
        rw [dT hi, cnd_t, f1, obind_s]
        simp only
        rw [wr_s (z := 2 + k') (by omega) (by omega), rAdd_eq N p _ hN (by omega), obind_s, wr_s (z := i - 1) (by omega) (by omega)]
        by_cases hv : VP (p ++ [2 + k'])
        · simp only [if_pos hv, cnd_t]
          exact ⟨_, rfl, ⟨hv, by simp only; omega, by simp only; omega, rfl, by simp only; omega, by simp only; omega⟩, by simp only; omega⟩
        · simp only [if_neg hv, cnd_f]
          exact ⟨_, rfl, ⟨g1, by simp only; omega, by simp only; omega, rfl, by simp only; omega, by simp only; omega⟩, by simp only; omega⟩
      · right
        rw [dF hi, cnd_f]
        exact ⟨_, rfl, g1, rfl, by simp only; omega, by simp only; omega⟩)
    ⟨⟨by simp, by simp, by simp, fun j hj => by
      have : j = 0 := by simpa using hj
      subst this; simp⟩, by simp only; omega, by simp only; omega, rfl, by simp only; omega, by simp only; omega⟩ (by simp only; omega)
  rw [h1, obind_s]
  obtain ⟨b1, b2, b3, b4⟩ := h2
  obtain ⟨p, l', m⟩ := r
  simp only at b1 b2 b3 b4
  subst b2
  exact ⟨_, _, rfl, b1, b3, b4⟩
theorem Grand_same (N : Nat) (p : List Int) (h : (p.length : Int) ≤ 1000) : ∃ k, W_path_Grand N p = some k ∧ W_ref1_Grand N p = some k := by
  unfold W_path_Grand W_ref1_Grand
  by_cases h2 : (p.length : Int) < 2
  · rw [dT h2, cnd_t]; exact ⟨_, rfl, rfl⟩
  · rw [dF h2, cnd_f, wr_s (by omega) (by omega), dT (by omega), dT (by omega), Bool.and_self, cnd_t]; exact ⟨_, rfl, rfl⟩
open Classical in
theorem law_aux (N : Nat) (hN : 100 ≤ N) (y0 : List Int) (y1 : List Int) (y2 : Int) (h1 : ∀ x ∈ y1, 0 ≤ x ∧ x ≤ 255) : W_law2_PathAll N (y0, y1, y2) = some true := by
  unfold W_law2_PathAll
  simp only
  by_cases c1 : (14 : Int) < y0.length
  · rw [dT c1, cnd_t]
  rw [dF c1, cnd_f]
  by_cases c2 : (6 : Int) < y1.length
  · rw [dT c2, cnd_t]
  rw [dF c2, cnd_f]
  have hM : W_Made N y1 = some (y1, 0) := rfl
  obtain ⟨p, n', e1, hp, _, _⟩ := Path_eq N y1 0 (by omega) (by omega) (by omega) h1
  have hpl := hp.2.1
  obtain ⟨k1, g1, g2⟩ := Grand_same N y0 (by omega)
  obtain ⟨k2, g3, g4⟩ := Grand_same N p (by omega)
  have bb : ∀ b : Bool, (!(b == b)) = false := by decide
  have s0 : ∀ a : List Int, a.length ≤ 20 → W_ref1_SameInts N (a, a) = some true := fun a ha => Same_self N a (by omega) (by omega)
  have t0 : ∀ (q : List Int), q.length ≤ 14 → (if VP (q ++ [y2]) then (q ++ [y2], true) else ([], false) : List Int × Bool).1.length ≤ 20 := fun q hq => by
    split
    · simp; omega
    · simp
  simp only [hM, obind_s, e1, Add_eq N y0 y2 (by omega) (by omega), rAdd_eq N y0 y2 (by omega) (by omega), Add_eq N p y2 (by omega) (by omega), rAdd_eq N p y2 (by omega) (by omega), bb, cnd_f, s0 _ (t0 y0 (by omega)), s0 _ (t0 p (by omega)), Bool.not_true,
    May_eq N _ (show 12 ≤ N by omega), rMay_eq N _ (show 12 ≤ N by omega), Has_eq N y0 y2 (by omega) (by omega), rHas_eq N y0 y2 (by omega) (by omega), Has_eq N p y2 (by omega) (by omega), rHas_eq N p y2 (by omega) (by omega), g1, g2, g3, g4, ne_eq, not_true_eq_false, decide_false, dT hp]
def NN : Nat := 100
theorem law_true (y0 : List Int) (y1 : List Int) (y2 : Int) (h0 : Twf (.list (.int .i64)) y0) (h1 : Twf (.list (.int .u8)) y1) (h2 : Twf (.int .i64) y2) : W_law2_PathAll NN (y0, y1, y2) = some true := law_aux 100 (by omega) y0 y1 y2 h1.2

theorem spec (y0 : List Int) (y1 : List Int) (y2 : Int) (h0 : Twf (.list (.int .i64)) y0) (h1 : Twf (.list (.int .u8)) y1) (h2 : Twf (.int .i64) y2) : Spec2 P0 3 [valW (.list (.int .i64)) y0, valW (.list (.int .u8)) y1, valW (.int .i64) y2] [] (.bs true) [] [] := (con_law2_PathAll_ok NN).2 (y0, y1, y2) true (law_true y0 y1 y2 h0 h1 h2)
theorem lifted (os : Os) (started : os.Started) (H : Type) (enc : TypeId × Value → H) :
    ReturnsInHanded {} Try.checked os 3 .any (Rows.pathAllSpec.pre6 enc Try.prog Try.f3 Rows.pathAllRow.domain false) (Rows.pathAllSpec.post enc Try.prog Try.f3 false true false false) := by
  refine returnsInHanded_of_change (C := Try.checked) own started (by kernel_rfl) Try.func3
    (ChangeSpec.witness6 (enc := enc) (C := Try.checked) false ⟨#[], #[.slice none 0 0, .slice none 0 0, .int .i64 0], []⟩ 8 (by kernel_rfl) (by kernel_rfl) (by kernel_rfl) (by kernel_rfl)) ?_
  intro W base args ds gs before hval0 hW hcnd _
  have hval : ∀ (j : Nat) t v, Try.f3.params[j]? = some t → args[j]? = some v → Value.okWide Try.prog W .any base t v := hval0
  have hW' := hW
  obtain ⟨p, q, hA0, hV, rfl, hfz, hnd⟩ := hW
  have hA : DataW.TrodAll enc Try.prog W 0 (fun _ => true) true Try.f3.params.toList args.toList ds p := hA0
  rw [Try.params3] at hA hval
  obtain ⟨v0, vs0, d0, ds0, p0, q0, hargs, rfl, rfl, h0, r0⟩ := trodAll_cons hA
  obtain ⟨v1, vs1, d1, ds1, p1, q1, rfl, rfl, rfl, h1, r1⟩ := trodAll_cons r0
  obtain ⟨v2, vs2, d2, ds2, p2, q2, rfl, rfl, rfl, h2, r2⟩ := trodAll_cons r1
  obtain ⟨rfl, rfl, rfl⟩ := trodAll_nil r2
  obtain rfl : args = #[v0, v1, v2] := by cases args; simp_all
  obtain ⟨rfl, rfl⟩ := trodVars_none hV
  have k0 := h0
  have lt0 : ∀ x ∈ p0, x.block < W.heap.size := by obtain ⟨m, hm⟩ := k0; exact DataW.trod_lt m _ _ _ hm
  obtain ⟨y0, rp0, wf0⟩ := arg_ok (n := 12) (ty := (.list (.int .i64))) (by kernel_rfl) (hval 0 _ v0 rfl rfl) h0
  have k1 := h1
  have lt1 : ∀ x ∈ p1, x.block < W.heap.size := by obtain ⟨m, hm⟩ := k1; exact DataW.trod_lt m _ _ _ hm
  obtain ⟨y1, rp1, wf1⟩ := arg_ok (n := 12) (ty := (.list (.int .u8))) (by kernel_rfl) (hval 1 _ v1 rfl rfl) h1
  have k2 := h2
  have lt2 : ∀ x ∈ p2, x.block < W.heap.size := by obtain ⟨m, hm⟩ := k2; exact DataW.trod_lt m _ _ _ hm
  obtain ⟨y2, rp2, wf2⟩ := arg_ok (n := 12) (ty := (.int .i64)) (by kernel_rfl) (hval 2 _ v2 rfl rfl) h2
  clear hA0 hval0
  refine (law_of2 (spec y0 y1 y2 wf0 wf1 wf2) W #[v0, v1, v2] (.cons rp0 (.cons rp1 (.cons rp2 .nil)))).mono fun e W' ⟨he, bel⟩ => ?_
  subst he
  exact ⟨_, rfl, _, _, _, [], _, [], hW', trodAll_mk1 (shut_bool Try.underlying4 _), (trodAll_cons_mk (Below.trod laidOut (by kernel_rfl) (of_decide_eq_true (by kernel_rfl)) k0 bel lt0) (trodAll_cons_mk (Below.trod laidOut (by kernel_rfl) (of_decide_eq_true (by kernel_rfl)) k1 bel lt1) (trodAll_cons_mk (Below.trod laidOut (by kernel_rfl) (of_decide_eq_true (by kernel_rfl)) k2 bel lt2) trodAll_mk0))), rfl, bel.frame _, fun h => by cases h⟩

theorem over : Rows.pathAllRow.holds Try.pinned (OpenSpec.ofChange Rows.pathAllSpec) :=
  OpenClaim.holds_of_wide 3 Try.f3 rfl rfl rfl rfl rfl rfl rfl ⟨rfl, rfl, rfl, rfl, rfl⟩ rfl rfl rfl rfl rfl (by kernel_rfl) Try.func3 (by kernel_rfl)
    (of_decide_eq_true (by kernel_rfl)) (by unfold Func.isWrapper; first | (rw [if_pos (by decide +kernel)]; kernel_rfl) | (rw [if_neg (by decide +kernel)]; exact ⟨rfl, rfl⟩))
    (fun os started H enc _ => lifted os started H enc)

theorem holds : Rows.PathAllSaid := over
end Go.Proofs.Ytfiiigeigiaaeaa.pathAllX
