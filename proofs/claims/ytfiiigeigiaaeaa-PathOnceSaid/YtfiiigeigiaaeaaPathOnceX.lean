/- PathOnce: for all arguments the call returns true. The law is brought to a function of Lean's own (W_..) by the machine of the texts beside it, and that is reckoned; no condition. -/
import Derived.Test.YtfiiigeigiaaeaaExtL
import Derived.Test.YtfiiigeigiaaeaaRows
import Derived.WalkKit
import Derived.ProofKit
import Derived.OpenShut
import Derived.ShutString
import Derived.ChangeOld
import Derived.Below
namespace Go.Proofs.Ytfiiigeigiaaeaa.pathOnceX
open Go.Abs Go.RowKit Go.ChangeShapes Go.WideShapes Go.ChangeAt
set_option maxRecDepth 100000
set_option linter.unusedVariables false
set_option linter.unusedSimpArgs false
noncomputable abbrev P0 : Program := Try.prog
noncomputable def bodyOf (fn : Func) : Code := fn.body.getD .skip
def L0 : Lend := fun f => aget [] [] f
def kpL (l : List Bool) : Nat → Bool := fun j => l.getD j true
theorem own : ownKnob Try.prog.godebug = none := by kernel_rfl
theorem laidOut : laidOutB Try.prog = true := by kernel_rfl
theorem mixed : P0.follows .mixedOrders = true := by decide +kernel
theorem progOk_ : progOk P0 = true := by decide +kernel
noncomputable def con_law2_begun (N : Nat) : Con := ⟨15, [], [], Unit, fun _ => some (), fun _ => (.bs true, [], [])⟩
theorem con_law2_begun_ok (N : Nat) : Con.ok P0 (con_law2_begun N) := closed_con2 (nonJ_ok _) mixed progOk_ (noneΞ_ok2 _) (inl := [16,17,41,56,58,64,72,91]) (breath := 100000) (n := 60) (by kernel_rfl)
def as_slices_Index_int : List AS := [.val (.list (.int .i64)), .val (.int .i64)]
def bs_slices_Index_int : List BS := []
def pout_slices_Index_int : Pat := ⟨[(4, .val (.int .i64))], []⟩
noncomputable def G_slices_Index_int  (N : Nat) : OrcT := orcOf []
noncomputable def F_slices_Index_int  (N : Nat) (x : (List Int) × Int) : Option (Int) :=
  (evT (G_slices_Index_int  N) L0 P0 [(2, .loop [] ⟨[(8, .val (.int .i64))], []⟩ [(.exit 0, ⟨[], []⟩), (.ret, ⟨[(4, .val (.int .i64))], []⟩)])]
    [] N 400 (bodyOf Try.f74) ⟨19, slots 0 (argsOf as_slices_Index_int bs_slices_Index_int x), tabU (lbOf as_slices_Index_int bs_slices_Index_int x) [], []⟩).elim (kRet 19 pout_slices_Index_int (kpL []) (lbOf as_slices_Index_int bs_slices_Index_int x))
def out_slices_Index_int (y : Int) : V × List OK × List OK := (valW (.int .i64) y, [], [])
noncomputable def V_slices_Index_int  (N : Nat) (x : (List Int) × Int) : Option (Int) :=
  obind
    (loopN N
      (fun (v : Int) =>
        cnd (decide (v < (↑(List.length (Prod.fst x)) : Int)))
          (cnd (decide ((0 : Int) ≤ v) && decide (v < (↑(List.length (Prod.fst x)) : Int)))
            (cnd (decide (Prod.snd x = List.getD (Prod.fst x) (Int.toNat v) (0 : Int))) (some (Sum.inr (Sum.inr v)))
              (some (Sum.inl (wr IntKind.i64 (v + (1 : Int))))))
            none)
          (some (Sum.inr (Sum.inl ()))))
      (Int.ofNat (0 : Nat)))
    fun (b : PUnit ⊕ Int) => selim (fun (b : PUnit) => some (-1 : Int)) (fun (c : Int) => some c) b
theorem FV_slices_Index_int_eq  (N : Nat) (x : (List Int) × Int) : F_slices_Index_int  N x = V_slices_Index_int  N x := by kernel_rfl
noncomputable def W_slices_Index_int (N : Nat) (x : (List Int) × Int) : Option (Int) :=
  obind
    (loopN N
      (fun (v : Int) =>
        cnd (decide (v < (↑(List.length (Prod.fst x)) : Int)))
          (cnd (decide ((0 : Int) ≤ v) && decide (v < (↑(List.length (Prod.fst x)) : Int)))
            (cnd (decide (Prod.snd x = List.getD (Prod.fst x) (Int.toNat v) (0 : Int))) (some (Sum.inr (Sum.inr v)))
              (some (Sum.inl (wr IntKind.i64 (v + (1 : Int))))))
            none)
          (some (Sum.inr (Sum.inl ()))))
      (Int.ofNat (0 : Nat)))
    fun (b : PUnit ⊕ Int) => selim (fun (b : PUnit) => some (-1 : Int)) (fun (c : Int) => some c) b
theorem F_slices_Index_int_eq (N : Nat) (x : (List Int) × Int) : F_slices_Index_int  N x = W_slices_Index_int N x := (FV_slices_Index_int_eq  N x).trans (by kernel_rfl)
noncomputable def conw_slices_Index_int (w : (List Int) × Int → Option (Int)) : Con := ⟨74, as_slices_Index_int, bs_slices_Index_int, Int, w, out_slices_Index_int⟩
noncomputable def con_slices_Index_int (N : Nat) : Con := conw_slices_Index_int (W_slices_Index_int N)
theorem R_slices_Index_int_eq (x : (List Int) × Int) (y : Int) : retOf2 P0 Try.f74 (kpL []) (lbOf as_slices_Index_int bs_slices_Index_int x) (patS ⟨19, [], [], []⟩ pout_slices_Index_int y) = some (out_slices_Index_int y) := by kernel_rfl
theorem con_slices_Index_int_ok (N : Nat) : Con.ok P0 (con_slices_Index_int N) := ⟨⟨Try.f74, Try.func74, by kernel_rfl, by kernel_rfl⟩, fun (x : (List Int) × Int) (r : Int) (hr : W_slices_Index_int N x = some r) =>
  spec2_evT (Γ := G_slices_Index_int N) (Λ := L0) (pout := pout_slices_Index_int) (kp := kpL []) mixed (orcOf_ok [] (by simp)) Try.func74 (c := bodyOf Try.f74) (by kernel_rfl) (by kernel_rfl) (of_decide_eq_true (by kernel_rfl)) ((F_slices_Index_int_eq N x).trans hr) (R_slices_Index_int_eq x r)⟩
def as_slices_Contains_int : List AS := [.val (.list (.int .i64)), .val (.int .i64)]
def bs_slices_Contains_int : List BS := []
def pout_slices_Contains_int : Pat := ⟨[(4, .val .bool)], []⟩
noncomputable def G_slices_Contains_int (w_slices_Index_int : (List Int) × Int → Option (Int)) (N : Nat) : OrcT := orcOf [conw_slices_Index_int w_slices_Index_int]
noncomputable def F_slices_Contains_int (w_slices_Index_int : (List Int) × Int → Option (Int)) (N : Nat) (x : (List Int) × Int) : Option (Bool) :=
  (evT (G_slices_Contains_int w_slices_Index_int N) L0 P0 []
    [] N 400 (bodyOf Try.f59) ⟨9, slots 0 (argsOf as_slices_Contains_int bs_slices_Contains_int x), tabU (lbOf as_slices_Contains_int bs_slices_Contains_int x) [], []⟩).elim (kRet 9 pout_slices_Contains_int (kpL []) (lbOf as_slices_Contains_int bs_slices_Contains_int x))
def out_slices_Contains_int (y : Bool) : V × List OK × List OK := (valW .bool y, [], [])
noncomputable def V_slices_Contains_int (w_slices_Index_int : (List Int) × Int → Option (Int)) (N : Nat) (x : (List Int) × Int) : Option (Bool) :=
  obind (w_slices_Index_int (Prod.fst x, Prod.snd x)) fun (b : Int) => some (decide ((0 : Int) ≤ b))
theorem FV_slices_Contains_int_eq (w_slices_Index_int : (List Int) × Int → Option (Int)) (N : Nat) (x : (List Int) × Int) : F_slices_Contains_int w_slices_Index_int N x = V_slices_Contains_int w_slices_Index_int N x := by kernel_rfl
noncomputable def W_slices_Contains_int (N : Nat) (x : (List Int) × Int) : Option (Bool) :=
  obind (W_slices_Index_int N (Prod.fst x, Prod.snd x)) fun (b : Int) => some (decide ((0 : Int) ≤ b))
theorem F_slices_Contains_int_eq (N : Nat) (x : (List Int) × Int) : F_slices_Contains_int (W_slices_Index_int N) N x = W_slices_Contains_int N x := (FV_slices_Contains_int_eq (W_slices_Index_int N) N x).trans (by kernel_rfl)
noncomputable def conw_slices_Contains_int (w : (List Int) × Int → Option (Bool)) : Con := ⟨59, as_slices_Contains_int, bs_slices_Contains_int, Bool, w, out_slices_Contains_int⟩
noncomputable def con_slices_Contains_int (N : Nat) : Con := conw_slices_Contains_int (W_slices_Contains_int N)
theorem R_slices_Contains_int_eq (x : (List Int) × Int) (y : Bool) : retOf2 P0 Try.f59 (kpL []) (lbOf as_slices_Contains_int bs_slices_Contains_int x) (patS ⟨9, [], [], []⟩ pout_slices_Contains_int y) = some (out_slices_Contains_int y) := by kernel_rfl
theorem con_slices_Contains_int_ok (N : Nat) : Con.ok P0 (con_slices_Contains_int N) := ⟨⟨Try.f59, Try.func59, by kernel_rfl, by kernel_rfl⟩, fun (x : (List Int) × Int) (r : Bool) (hr : W_slices_Contains_int N x = some r) =>
  spec2_evT (Γ := G_slices_Contains_int (W_slices_Index_int N) N) (Λ := L0) (pout := pout_slices_Contains_int) (kp := kpL []) mixed (orcOf_ok _ (by simp only [List.mem_cons, List.not_mem_nil, or_false, forall_eq_or_imp, forall_eq]; exact con_slices_Index_int_ok N)) Try.func59 (c := bodyOf Try.f59) (by kernel_rfl) (by kernel_rfl) (of_decide_eq_true (by kernel_rfl)) ((F_slices_Contains_int_eq N x).trans hr) (R_slices_Contains_int_eq x r)⟩
def as_path_Has : List AS := [.val (.list (.int .i64)), .val (.int .i64)]
def bs_path_Has : List BS := []
def pout_path_Has : Pat := ⟨[(4, .val .bool)], []⟩
noncomputable def G_path_Has (w_slices_Contains_int : (List Int) × Int → Option (Bool)) (N : Nat) : OrcT := orcOf [conw_slices_Contains_int w_slices_Contains_int]
noncomputable def F_path_Has (w_slices_Contains_int : (List Int) × Int → Option (Bool)) (N : Nat) (x : (List Int) × Int) : Option (Bool) :=
  (evT (G_path_Has w_slices_Contains_int N) L0 P0 []
    [] N 400 (bodyOf Try.f23) ⟨8, slots 0 (argsOf as_path_Has bs_path_Has x), tabU (lbOf as_path_Has bs_path_Has x) [], []⟩).elim (kRet 8 pout_path_Has (kpL []) (lbOf as_path_Has bs_path_Has x))
def out_path_Has (y : Bool) : V × List OK × List OK := (valW .bool y, [], [])
noncomputable def V_path_Has (w_slices_Contains_int : (List Int) × Int → Option (Bool)) (N : Nat) (x : (List Int) × Int) : Option (Bool) :=
  obind (w_slices_Contains_int (Prod.fst x, Prod.snd x)) fun (b : Bool) => some b
theorem FV_path_Has_eq (w_slices_Contains_int : (List Int) × Int → Option (Bool)) (N : Nat) (x : (List Int) × Int) : F_path_Has w_slices_Contains_int N x = V_path_Has w_slices_Contains_int N x := by kernel_rfl
noncomputable def W_path_Has (N : Nat) (x : (List Int) × Int) : Option (Bool) :=
  obind (W_slices_Contains_int N (Prod.fst x, Prod.snd x)) fun (b : Bool) => some b
theorem F_path_Has_eq (N : Nat) (x : (List Int) × Int) : F_path_Has (W_slices_Contains_int N) N x = W_path_Has N x := (FV_path_Has_eq (W_slices_Contains_int N) N x).trans (by kernel_rfl)
noncomputable def conw_path_Has (w : (List Int) × Int → Option (Bool)) : Con := ⟨23, as_path_Has, bs_path_Has, Bool, w, out_path_Has⟩
noncomputable def con_path_Has (N : Nat) : Con := conw_path_Has (W_path_Has N)
theorem R_path_Has_eq (x : (List Int) × Int) (y : Bool) : retOf2 P0 Try.f23 (kpL []) (lbOf as_path_Has bs_path_Has x) (patS ⟨8, [], [], []⟩ pout_path_Has y) = some (out_path_Has y) := by kernel_rfl
theorem con_path_Has_ok (N : Nat) : Con.ok P0 (con_path_Has N) := ⟨⟨Try.f23, Try.func23, by kernel_rfl, by kernel_rfl⟩, fun (x : (List Int) × Int) (r : Bool) (hr : W_path_Has N x = some r) =>
  spec2_evT (Γ := G_path_Has (W_slices_Contains_int N) N) (Λ := L0) (pout := pout_path_Has) (kp := kpL []) mixed (orcOf_ok _ (by simp only [List.mem_cons, List.not_mem_nil, or_false, forall_eq_or_imp, forall_eq]; exact con_slices_Contains_int_ok N)) Try.func23 (c := bodyOf Try.f23) (by kernel_rfl) (by kernel_rfl) (of_decide_eq_true (by kernel_rfl)) ((F_path_Has_eq N x).trans hr) (R_path_Has_eq x r)⟩
def as_slices_Clone_int : List AS := [.val (.list (.int .i64))]
def bs_slices_Clone_int : List BS := []
def pout_slices_Clone_int : Pat := ⟨[(2, .acc 700005)], [(700005, .nrow 3 (.int .i64) false true)]⟩
noncomputable def G_slices_Clone_int  (N : Nat) : OrcT := orcOf []
noncomputable def F_slices_Clone_int  (N : Nat) (x : List Int) : Option (List Int) :=
  (evT (G_slices_Clone_int  N) L0 P0 []
    [] N 400 (bodyOf Try.f58) ⟨8, slots 0 [.nl ⟨(.int .i64), x⟩], tabU (lbOf as_slices_Clone_int bs_slices_Clone_int x) [], []⟩).elim (kRet 8 pout_slices_Clone_int (kpL []) (lbOf as_slices_Clone_int bs_slices_Clone_int x))
def out_slices_Clone_int (y : List Int) : V × List OK × List OK := (.acc 2000000 0, [], [.nrow 3 false true ⟨(.int .i64), y⟩])
noncomputable def V_slices_Clone_int  (N : Nat) (x : List Int) : Option (List Int) :=
  cnd (decide (List.length x * (8 : Nat) ≤ (140737488355328 : Nat))) (some x) none
theorem FV_slices_Clone_int_eq  (N : Nat) (x : List Int) : F_slices_Clone_int  N x = V_slices_Clone_int  N x := by kernel_rfl
noncomputable def W_slices_Clone_int (N : Nat) (x : List Int) : Option (List Int) :=
  cnd (decide (List.length x * (8 : Nat) ≤ (140737488355328 : Nat))) (some x) none
theorem F_slices_Clone_int_eq (N : Nat) (x : List Int) : F_slices_Clone_int  N x = W_slices_Clone_int N x := (FV_slices_Clone_int_eq  N x).trans (by kernel_rfl)
noncomputable def conw_slices_Clone_int (w : List Int → Option (List Int)) : Con := ⟨58, as_slices_Clone_int, bs_slices_Clone_int, List Int, w, out_slices_Clone_int⟩
noncomputable def con_slices_Clone_int (N : Nat) : Con := conw_slices_Clone_int (W_slices_Clone_int N)
theorem R_slices_Clone_int_eq (x : List Int) (y : List Int) : retOf2 P0 Try.f58 (kpL []) (lbOf as_slices_Clone_int bs_slices_Clone_int x) (patS ⟨8, [], [], []⟩ pout_slices_Clone_int y) = some (out_slices_Clone_int y) := by kernel_rfl
noncomputable def FA_slices_Clone_int : Option (List Int) := (evT (G_slices_Clone_int 1) L0 P0 [] [] 1 400 (bodyOf Try.f58) ⟨8, slots 0 [.snil], tabU [] [], []⟩).elim (kRet 8 pout_slices_Clone_int (kpL []) [])
theorem FA_slices_Clone_int_eq : FA_slices_Clone_int = some [] := by kernel_rfl
theorem WN_slices_Clone_int (N : Nat) (r : List Int) (h : W_slices_Clone_int N [] = some r) : r = [] := by
  have e : W_slices_Clone_int N [] = some [] := by kernel_rfl
  rw [e] at h; injection h with h; exact h.symm
theorem con_slices_Clone_int_ok (N : Nat) : Con.ok P0 (con_slices_Clone_int N) := ⟨⟨Try.f58, Try.func58, by kernel_rfl, by kernel_rfl⟩, fun (x : List Int) (r : List Int) (hr : W_slices_Clone_int N x = some r) =>
  clone_split (e := (.int .i64)) (ty := 3) (l := x) (r := r)
    (spec2_evT (Γ := G_slices_Clone_int 1) (Λ := L0) (lb := []) (pout := pout_slices_Clone_int) (kp := kpL []) mixed (orcOf_ok [] (by simp)) Try.func58 (c := bodyOf Try.f58) (by kernel_rfl) (by kernel_rfl) (of_decide_eq_true (by kernel_rfl)) FA_slices_Clone_int_eq (R_slices_Clone_int_eq x []))
    (spec2_evT (Γ := G_slices_Clone_int N) (Λ := L0) (lb := []) (pout := pout_slices_Clone_int) (kp := kpL []) mixed (orcOf_ok [] (by simp)) Try.func58 (c := bodyOf Try.f58) (by kernel_rfl) (by kernel_rfl) (of_decide_eq_true (by kernel_rfl)) ((F_slices_Clone_int_eq N x).trans hr) (R_slices_Clone_int_eq x r))
    (fun h => by subst h; exact WN_slices_Clone_int N r hr)⟩
def as_path_read : List AS := [.val (.list (.int .i64))]
def bs_path_read : List BS := []
def pout_path_read : Pat := ⟨[(2, .val (.alt 78 (.list (.int .i64)) (.alt1 99 (.agg .unit))))], []⟩
noncomputable def G_path_read (w_path_Has : (List Int) × Int → Option (Bool)) (N : Nat) : OrcT := orcOf [conw_path_Has w_path_Has]
noncomputable def F_path_read (w_path_Has : (List Int) × Int → Option (Bool)) (N : Nat) (x : List Int) : Option ((List Int) ⊕ Unit) :=
  (evT (G_path_read w_path_Has N) L0 P0 [(4, .loop [21] ⟨[(23, .val (.int .i64))], []⟩ [(.exit 0, ⟨[], []⟩), (.ret, ⟨[(2, .val (.alt 78 (.list (.int .i64)) (.alt1 99 (.agg .unit))))], []⟩)])]
    [(1000001, .reg [(8, [], ⟨[(12, .val .bool)], []⟩)]),
    (1000006, .reg [(6, [21], ⟨[(33, .val .bool)], []⟩)])] N 400 (bodyOf Try.f57) ⟨46, slots 0 (argsOf as_path_read bs_path_read x), tabU (lbOf as_path_read bs_path_read x) [], []⟩).elim (kRet 46 pout_path_read (kpL []) (lbOf as_path_read bs_path_read x))
def out_path_read (y : (List Int) ⊕ Unit) : V × List OK × List OK := (valW (.alt 78 (.list (.int .i64)) (.alt1 99 (.agg .unit))) y, [], [])
noncomputable def V_path_read (w_path_Has : (List Int) × Int → Option (Bool)) (N : Nat) (x : List Int) : Option ((List Int) ⊕ Unit) :=
  obind (cnd (decide ((↑(List.length x) : Int) < (1 : Int))) (some true) (some (decide ((10 : Int) < (↑(List.length x) : Int)))))
    fun (b : Bool) =>
    cnd b (some (Sum.inr ()))
      (cnd (decide ((0 : Int) ≤ (0 : Int)) && decide ((0 : Int) < (↑(List.length x) : Int)))
        (cnd (decide (List.getD x (0 : Nat) (0 : Int) ≠ (1 : Int))) (some (Sum.inr ()))
          (obind
            (loopN N
              (fun (v : Int) =>
                cnd (decide (v < (↑(List.length x) : Int)))
                  (cnd (decide ((0 : Int) ≤ v) && decide (v < (↑(List.length x) : Int)))
                    (obind
                      (cnd (decide (List.getD x (Int.toNat v) (0 : Int) < (1 : Int))) (some true)
                        (some (decide ((8 : Int) < List.getD x (Int.toNat v) (0 : Int)))))
                      fun (b : Bool) =>
                      cnd b (some (Sum.inr (Sum.inr (Sum.inr ()))))
                        (cnd (decide ((0 : Int) ≤ v) && decide (v ≤ (↑(List.length x) : Int)))
                          (obind
                            (w_path_Has
                              (List.drop (0 : Nat) (List.take (Int.toNat v) x), List.getD x (Int.toNat v) (0 : Int)))
                            fun (b : Bool) =>
                            cnd b (some (Sum.inr (Sum.inr (Sum.inr ()))))
                              (some (Sum.inl (wr IntKind.i64 (v + (1 : Int))))))
                          none))
                    none)
                  (some (Sum.inr (Sum.inl ()))))
              (Int.ofNat (0 : Nat)))
            fun (b : PUnit ⊕ List Int ⊕ PUnit) =>
            selim (fun (b : PUnit) => some (Sum.inl x)) (fun (c : List Int ⊕ PUnit) => some c) b))
        none)
theorem FV_path_read_eq (w_path_Has : (List Int) × Int → Option (Bool)) (N : Nat) (x : List Int) : F_path_read w_path_Has N x = V_path_read w_path_Has N x := by kernel_rfl
noncomputable def W_path_read (N : Nat) (x : List Int) : Option ((List Int) ⊕ Unit) :=
  obind (cnd (decide ((↑(List.length x) : Int) < (1 : Int))) (some true) (some (decide ((10 : Int) < (↑(List.length x) : Int)))))
    fun (b : Bool) =>
    cnd b (some (Sum.inr ()))
      (cnd (decide ((0 : Int) ≤ (0 : Int)) && decide ((0 : Int) < (↑(List.length x) : Int)))
        (cnd (decide (List.getD x (0 : Nat) (0 : Int) ≠ (1 : Int))) (some (Sum.inr ()))
          (obind
            (loopN N
              (fun (v : Int) =>
                cnd (decide (v < (↑(List.length x) : Int)))
                  (cnd (decide ((0 : Int) ≤ v) && decide (v < (↑(List.length x) : Int)))
                    (obind
                      (cnd (decide (List.getD x (Int.toNat v) (0 : Int) < (1 : Int))) (some true)
                        (some (decide ((8 : Int) < List.getD x (Int.toNat v) (0 : Int)))))
                      fun (b : Bool) =>
                      cnd b (some (Sum.inr (Sum.inr (Sum.inr ()))))
                        (cnd (decide ((0 : Int) ≤ v) && decide (v ≤ (↑(List.length x) : Int)))
                          (obind
                            (W_path_Has N
                              (List.drop (0 : Nat) (List.take (Int.toNat v) x), List.getD x (Int.toNat v) (0 : Int)))
                            fun (b : Bool) =>
                            cnd b (some (Sum.inr (Sum.inr (Sum.inr ()))))
                              (some (Sum.inl (wr IntKind.i64 (v + (1 : Int))))))
                          none))
                    none)
                  (some (Sum.inr (Sum.inl ()))))
              (Int.ofNat (0 : Nat)))
            fun (b : PUnit ⊕ List Int ⊕ PUnit) =>
            selim (fun (b : PUnit) => some (Sum.inl x)) (fun (c : List Int ⊕ PUnit) => some c) b))
        none)
theorem F_path_read_eq (N : Nat) (x : List Int) : F_path_read (W_path_Has N) N x = W_path_read N x := (FV_path_read_eq (W_path_Has N) N x).trans (by kernel_rfl)
noncomputable def conw_path_read (w : List Int → Option ((List Int) ⊕ Unit)) : Con := ⟨57, as_path_read, bs_path_read, (List Int) ⊕ Unit, w, out_path_read⟩
noncomputable def con_path_read (N : Nat) : Con := conw_path_read (W_path_read N)
theorem R_path_read_eq (x : List Int) (y : (List Int) ⊕ Unit) : retOf2 P0 Try.f57 (kpL []) (lbOf as_path_read bs_path_read x) (patS ⟨46, [], [], []⟩ pout_path_read y) = some (out_path_read y) := by kernel_rfl
theorem con_path_read_ok (N : Nat) : Con.ok P0 (con_path_read N) := ⟨⟨Try.f57, Try.func57, by kernel_rfl, by kernel_rfl⟩, fun (x : List Int) (r : (List Int) ⊕ Unit) (hr : W_path_read N x = some r) =>
  spec2_evT (Γ := G_path_read (W_path_Has N) N) (Λ := L0) (pout := pout_path_read) (kp := kpL []) mixed (orcOf_ok _ (by simp only [List.mem_cons, List.not_mem_nil, or_false, forall_eq_or_imp, forall_eq]; exact con_path_Has_ok N)) Try.func57 (c := bodyOf Try.f57) (by kernel_rfl) (by kernel_rfl) (of_decide_eq_true (by kernel_rfl)) ((F_path_read_eq N x).trans hr) (R_path_read_eq x r)⟩
def as_path_Add : List AS := [.val (.list (.int .i64)), .val (.int .i64)]
def bs_path_Add : List BS := []
def pout_path_Add : Pat := ⟨[(4, .val (.list (.int .i64))), (5, .val .bool)], []⟩
noncomputable def G_path_Add (w_slices_Clone_int : List Int → Option (List Int)) (w_path_read : List Int → Option ((List Int) ⊕ Unit)) (N : Nat) : OrcT := orcOf [conw_slices_Clone_int w_slices_Clone_int, conw_path_read w_path_read]
noncomputable def F_path_Add (w_slices_Clone_int : List Int → Option (List Int)) (w_path_read : List Int → Option ((List Int) ⊕ Unit)) (N : Nat) (x : (List Int) × Int) : Option ((List Int) × Bool) :=
  (evT (G_path_Add w_slices_Clone_int w_path_read N) L0 P0 []
    [] N 400 (bodyOf Try.f18) ⟨20, slots 0 (argsOf as_path_Add bs_path_Add x), tabU (lbOf as_path_Add bs_path_Add x) [], []⟩).elim (kRet 20 pout_path_Add (kpL []) (lbOf as_path_Add bs_path_Add x))
def out_path_Add (y : (List Int) × Bool) : V × List OK × List OK := (.tup [valW (.list (.int .i64)) y.1, valW .bool y.2], [], [])
noncomputable def V_path_Add (w_slices_Clone_int : List Int → Option (List Int)) (w_path_read : List Int → Option ((List Int) ⊕ Unit)) (N : Nat) (x : (List Int) × Int) : Option ((List Int) × Bool) :=
  obind (w_slices_Clone_int (Prod.fst x)) fun (b : List Int) =>
    cnd (decide ((List.length b + List.length [Prod.snd x]) * (8 : Nat) ≤ (140737488355328 : Nat)))
      (obind (w_path_read (b ++ [Prod.snd x])) fun (b : List Int ⊕ PUnit) =>
        selim (fun (b : List Int) => some (b, true)) (fun (c : PUnit) => some ([], false)) b)
      none
theorem FV_path_Add_eq (w_slices_Clone_int : List Int → Option (List Int)) (w_path_read : List Int → Option ((List Int) ⊕ Unit)) (N : Nat) (x : (List Int) × Int) : F_path_Add w_slices_Clone_int w_path_read N x = V_path_Add w_slices_Clone_int w_path_read N x := by kernel_rfl
noncomputable def W_path_Add (N : Nat) (x : (List Int) × Int) : Option ((List Int) × Bool) :=
  obind (W_slices_Clone_int N (Prod.fst x)) fun (b : List Int) =>
    cnd (decide ((List.length b + List.length [Prod.snd x]) * (8 : Nat) ≤ (140737488355328 : Nat)))
      (obind (W_path_read N (b ++ [Prod.snd x])) fun (b : List Int ⊕ PUnit) =>
        selim (fun (b : List Int) => some (b, true)) (fun (c : PUnit) => some ([], false)) b)
      none
theorem F_path_Add_eq (N : Nat) (x : (List Int) × Int) : F_path_Add (W_slices_Clone_int N) (W_path_read N) N x = W_path_Add N x := (FV_path_Add_eq (W_slices_Clone_int N) (W_path_read N) N x).trans (by kernel_rfl)
noncomputable def conw_path_Add (w : (List Int) × Int → Option ((List Int) × Bool)) : Con := ⟨18, as_path_Add, bs_path_Add, (List Int) × Bool, w, out_path_Add⟩
noncomputable def con_path_Add (N : Nat) : Con := conw_path_Add (W_path_Add N)
theorem R_path_Add_eq (x : (List Int) × Int) (y : (List Int) × Bool) : retOf2 P0 Try.f18 (kpL []) (lbOf as_path_Add bs_path_Add x) (patS ⟨20, [], [], []⟩ pout_path_Add y) = some (out_path_Add y) := by kernel_rfl
theorem con_path_Add_ok (N : Nat) : Con.ok P0 (con_path_Add N) := ⟨⟨Try.f18, Try.func18, by kernel_rfl, by kernel_rfl⟩, fun (x : (List Int) × Int) (r : (List Int) × Bool) (hr : W_path_Add N x = some r) =>
  spec2_evT (Γ := G_path_Add (W_slices_Clone_int N) (W_path_read N) N) (Λ := L0) (pout := pout_path_Add) (kp := kpL []) mixed (orcOf_ok _ (by simp only [List.mem_cons, List.not_mem_nil, or_false, forall_eq_or_imp, forall_eq]; exact ⟨con_slices_Clone_int_ok N, con_path_read_ok N⟩)) Try.func18 (c := bodyOf Try.f18) (by kernel_rfl) (by kernel_rfl) (of_decide_eq_true (by kernel_rfl)) ((F_path_Add_eq N x).trans hr) (R_path_Add_eq x r)⟩
def as_path_Grand : List AS := [.val (.list (.int .i64))]
def bs_path_Grand : List BS := []
def pout_path_Grand : Pat := ⟨[(2, .val (.int .i64))], []⟩
noncomputable def G_path_Grand  (N : Nat) : OrcT := orcOf []
noncomputable def F_path_Grand  (N : Nat) (x : List Int) : Option (Int) :=
  (evT (G_path_Grand  N) L0 P0 []
    [] N 400 (bodyOf Try.f25) ⟨12, slots 0 (argsOf as_path_Grand bs_path_Grand x), tabU (lbOf as_path_Grand bs_path_Grand x) [], []⟩).elim (kRet 12 pout_path_Grand (kpL []) (lbOf as_path_Grand bs_path_Grand x))
def out_path_Grand (y : Int) : V × List OK × List OK := (valW (.int .i64) y, [], [])
noncomputable def V_path_Grand  (N : Nat) (x : List Int) : Option (Int) :=
  cnd (decide ((↑(List.length x) : Int) < (2 : Int))) (some (0 : Int))
    (cnd
      (decide ((0 : Int) ≤ wr IntKind.i64 ((↑(List.length x) : Int) - (2 : Int))) &&
        decide (wr IntKind.i64 ((↑(List.length x) : Int) - (2 : Int)) < (↑(List.length x) : Int)))
      (some (List.getD x (Int.toNat (wr IntKind.i64 ((↑(List.length x) : Int) - (2 : Int)))) (0 : Int))) none)
theorem FV_path_Grand_eq  (N : Nat) (x : List Int) : F_path_Grand  N x = V_path_Grand  N x := by kernel_rfl
noncomputable def W_path_Grand (N : Nat) (x : List Int) : Option (Int) :=
  cnd (decide ((↑(List.length x) : Int) < (2 : Int))) (some (0 : Int))
    (cnd
      (decide ((0 : Int) ≤ wr IntKind.i64 ((↑(List.length x) : Int) - (2 : Int))) &&
        decide (wr IntKind.i64 ((↑(List.length x) : Int) - (2 : Int)) < (↑(List.length x) : Int)))
      (some (List.getD x (Int.toNat (wr IntKind.i64 ((↑(List.length x) : Int) - (2 : Int)))) (0 : Int))) none)
theorem F_path_Grand_eq (N : Nat) (x : List Int) : F_path_Grand  N x = W_path_Grand N x := (FV_path_Grand_eq  N x).trans (by kernel_rfl)
noncomputable def conw_path_Grand (w : List Int → Option (Int)) : Con := ⟨25, as_path_Grand, bs_path_Grand, Int, w, out_path_Grand⟩
noncomputable def con_path_Grand (N : Nat) : Con := conw_path_Grand (W_path_Grand N)
theorem R_path_Grand_eq (x : List Int) (y : Int) : retOf2 P0 Try.f25 (kpL []) (lbOf as_path_Grand bs_path_Grand x) (patS ⟨12, [], [], []⟩ pout_path_Grand y) = some (out_path_Grand y) := by kernel_rfl
theorem con_path_Grand_ok (N : Nat) : Con.ok P0 (con_path_Grand N) := ⟨⟨Try.f25, Try.func25, by kernel_rfl, by kernel_rfl⟩, fun (x : List Int) (r : Int) (hr : W_path_Grand N x = some r) =>
  spec2_evT (Γ := G_path_Grand N) (Λ := L0) (pout := pout_path_Grand) (kp := kpL []) mixed (orcOf_ok [] (by simp)) Try.func25 (c := bodyOf Try.f25) (by kernel_rfl) (by kernel_rfl) (of_decide_eq_true (by kernel_rfl)) ((F_path_Grand_eq N x).trans hr) (R_path_Grand_eq x r)⟩
def as_path_May : List AS := [.val (.list (.int .i64))]
def bs_path_May : List BS := []
def pout_path_May : Pat := ⟨[(2, .val .bool)], []⟩
noncomputable def G_path_May (w_path_read : List Int → Option ((List Int) ⊕ Unit)) (N : Nat) : OrcT := orcOf [conw_path_read w_path_read]
noncomputable def F_path_May (w_path_read : List Int → Option ((List Int) ⊕ Unit)) (N : Nat) (x : List Int) : Option (Bool) :=
  (evT (G_path_May w_path_read N) L0 P0 []
    [] N 400 (bodyOf Try.f21) ⟨12, slots 0 (argsOf as_path_May bs_path_May x), tabU (lbOf as_path_May bs_path_May x) [], []⟩).elim (kRet 12 pout_path_May (kpL []) (lbOf as_path_May bs_path_May x))
def out_path_May (y : Bool) : V × List OK × List OK := (valW .bool y, [], [])
noncomputable def V_path_May (w_path_read : List Int → Option ((List Int) ⊕ Unit)) (N : Nat) (x : List Int) : Option (Bool) :=
  obind (w_path_read x) fun (b : List Int ⊕ PUnit) =>
    selim (fun (b : List Int) => some true) (fun (c : PUnit) => some false) b
theorem FV_path_May_eq (w_path_read : List Int → Option ((List Int) ⊕ Unit)) (N : Nat) (x : List Int) : F_path_May w_path_read N x = V_path_May w_path_read N x := by kernel_rfl
noncomputable def W_path_May (N : Nat) (x : List Int) : Option (Bool) :=
  obind (W_path_read N x) fun (b : List Int ⊕ PUnit) =>
    selim (fun (b : List Int) => some true) (fun (c : PUnit) => some false) b
theorem F_path_May_eq (N : Nat) (x : List Int) : F_path_May (W_path_read N) N x = W_path_May N x := (FV_path_May_eq (W_path_read N) N x).trans (by kernel_rfl)
noncomputable def conw_path_May (w : List Int → Option (Bool)) : Con := ⟨21, as_path_May, bs_path_May, Bool, w, out_path_May⟩
noncomputable def con_path_May (N : Nat) : Con := conw_path_May (W_path_May N)
theorem R_path_May_eq (x : List Int) (y : Bool) : retOf2 P0 Try.f21 (kpL []) (lbOf as_path_May bs_path_May x) (patS ⟨12, [], [], []⟩ pout_path_May y) = some (out_path_May y) := by kernel_rfl
theorem con_path_May_ok (N : Nat) : Con.ok P0 (con_path_May N) := ⟨⟨Try.f21, Try.func21, by kernel_rfl, by kernel_rfl⟩, fun (x : List Int) (r : Bool) (hr : W_path_May N x = some r) =>
  spec2_evT (Γ := G_path_May (W_path_read N) N) (Λ := L0) (pout := pout_path_May) (kp := kpL []) mixed (orcOf_ok _ (by simp only [List.mem_cons, List.not_mem_nil, or_false, forall_eq_or_imp, forall_eq]; exact con_path_read_ok N)) Try.func21 (c := bodyOf Try.f21) (by kernel_rfl) (by kernel_rfl) (of_decide_eq_true (by kernel_rfl)) ((F_path_May_eq N x).trans hr) (R_path_May_eq x r)⟩
def as_law2_PathOnce : List AS := [.val (.list (.int .u8))]
def bs_law2_PathOnce : List BS := []
def pout_law2_PathOnce : Pat := ⟨[(2, .val .bool)], []⟩
noncomputable def G_law2_PathOnce (w_path_Has : (List Int) × Int → Option (Bool)) (w_path_Add : (List Int) × Int → Option ((List Int) × Bool)) (w_path_Grand : List Int → Option (Int)) (w_path_May : List Int → Option (Bool)) (N : Nat) : OrcT := orcOf [con_law2_begun N, conw_path_Has w_path_Has, conw_path_Add w_path_Add, conw_path_Grand w_path_Grand, conw_path_May w_path_May]
noncomputable def F_law2_PathOnce (w_path_Has : (List Int) × Int → Option (Bool)) (w_path_Add : (List Int) × Int → Option ((List Int) × Bool)) (w_path_Grand : List Int → Option (Int)) (w_path_May : List Int → Option (Bool)) (N : Nat) (x : List Int) : Option (Bool) :=
  (evT (G_law2_PathOnce w_path_Has w_path_Add w_path_Grand w_path_May N) L0 P0 [(7, .loop [] ⟨[(3, .val (.list (.int .i64))), (4, .val (.int .i64))], []⟩ [(.exit 0, ⟨[], []⟩), (.ret, ⟨[(2, .val .bool)], []⟩)])]
    [] N 400 (bodyOf Try.f4) ⟨103, slots 0 (argsOf as_law2_PathOnce bs_law2_PathOnce x), tabU (lbOf as_law2_PathOnce bs_law2_PathOnce x) [], []⟩).elim (kRet 103 pout_law2_PathOnce (kpL []) (lbOf as_law2_PathOnce bs_law2_PathOnce x))
def out_law2_PathOnce (y : Bool) : V × List OK × List OK := (valW .bool y, [], [])
noncomputable def V_law2_PathOnce (w_path_Has : (List Int) × Int → Option (Bool)) (w_path_Add : (List Int) × Int → Option ((List Int) × Bool)) (w_path_Grand : List Int → Option (Int)) (w_path_May : List Int → Option (Bool)) (N : Nat) (x : List Int) : Option (Bool) :=
  cnd (decide ((12 : Int) < (↑(List.length x) : Int))) (some true)
    (obind
      (loopN N
        (fun (v : List Int × Int) =>
          cnd (decide (Prod.snd v < (↑(List.length x) : Int)))
            (cnd (decide ((0 : Int) ≤ Prod.snd v) && decide (Prod.snd v < (↑(List.length x) : Int)))
              (obind
                (w_path_Has
                  (Prod.fst v, wr IntKind.i64 (Int.tmod (List.getD x (Int.toNat (Prod.snd v)) (0 : Int)) (10 : Int))))
                fun (b : Bool) =>
                obind
                  (w_path_Add
                    (Prod.fst v, wr IntKind.i64 (Int.tmod (List.getD x (Int.toNat (Prod.snd v)) (0 : Int)) (10 : Int))))
                  fun (b_1 : List Int × Bool) =>
                  cnd b
                    (cnd (Prod.snd b_1 == true) (some (Sum.inr (Sum.inr false)))
                      (cnd (Prod.snd b_1)
                        (cnd
                          (decide
                            ((↑(List.length (Prod.fst b_1)) : Int) ≠ wr IntKind.i64 ((↑(List.length (Prod.fst v)) : Int) + (1 : Int))))
                          (some (Sum.inr (Sum.inr false)))
                          (cnd
                            (decide ((0 : Int) ≤ (↑(List.length (Prod.fst v)) : Int)) &&
                              decide ((↑(List.length (Prod.fst v)) : Int) < (↑(List.length (Prod.fst b_1)) : Int)))
                            (cnd
                              (decide
                                (List.getD (Prod.fst b_1) (Int.toNat (↑(List.length (Prod.fst v)) : Int)) (0 : Int) ≠
                                  wr IntKind.i64 (Int.tmod (List.getD x (Int.toNat (Prod.snd v)) (0 : Int)) (10 : Int))))
                              (some (Sum.inr (Sum.inr false)))
                              (obind
                                (w_path_Has
                                  (Prod.fst b_1,
                                    wr IntKind.i64
                                      (Int.tmod (List.getD x (Int.toNat (Prod.snd v)) (0 : Int)) (10 : Int))))
                                fun (b : Bool) =>
                                cnd (!b) (some (Sum.inr (Sum.inr false)))
                                  (obind (w_path_Grand (Prod.fst b_1)) fun (b : Int) =>
                                    cnd
                                      (decide ((0 : Int) ≤ wr IntKind.i64 ((↑(List.length (Prod.fst v)) : Int) - (1 : Int))) &&
                                        decide
                                          (wr IntKind.i64 ((↑(List.length (Prod.fst v)) : Int) - (1 : Int)) <
                                            (↑(List.length (Prod.fst v)) : Int)))
                                      (cnd
                                        (decide
                                          (b ≠
                                            List.getD (Prod.fst v)
                                              (Int.toNat (wr IntKind.i64 ((↑(List.length (Prod.fst v)) : Int) - (1 : Int))))
                                              (0 : Int)))
                                        (some (Sum.inr (Sum.inr false)))
                                        (cnd (!Prod.snd b_1)
                                          (cnd (decide ((↑(List.length (Prod.fst b_1)) : Int) ≠ (0 : Int)))
                                            (some (Sum.inr (Sum.inr false)))
                                            (cnd (Prod.snd b_1)
                                              (obind (w_path_May (Prod.fst b_1)) fun (b : Bool) =>
                                                cnd (!b) (some (Sum.inr (Sum.inr false)))
                                                  (some
                                                    (Sum.inl (Prod.fst b_1, wr IntKind.i64 (Prod.snd v + (1 : Int))))))
                                              (obind (w_path_May (Prod.fst v)) fun (b : Bool) =>
                                                cnd (!b) (some (Sum.inr (Sum.inr false)))
                                                  (some
                                                    (Sum.inl (Prod.fst v, wr IntKind.i64 (Prod.snd v + (1 : Int))))))))
                                          (cnd (Prod.snd b_1)
                                            (obind (w_path_May (Prod.fst b_1)) fun (b : Bool) =>
                                              cnd (!b) (some (Sum.inr (Sum.inr false)))
                                                (some (Sum.inl (Prod.fst b_1, wr IntKind.i64 (Prod.snd v + (1 : Int))))))
                                            (obind (w_path_May (Prod.fst v)) fun (b : Bool) =>
                                              cnd (!b) (some (Sum.inr (Sum.inr false)))
                                                (some (Sum.inl (Prod.fst v, wr IntKind.i64 (Prod.snd v + (1 : Int)))))))))
                                      none)))
                            none))
                        (cnd (!Prod.snd b_1)
                          (cnd (decide ((↑(List.length (Prod.fst b_1)) : Int) ≠ (0 : Int))) (some (Sum.inr (Sum.inr false)))
                            (cnd (Prod.snd b_1)
                              (obind (w_path_May (Prod.fst b_1)) fun (b : Bool) =>
                                cnd (!b) (some (Sum.inr (Sum.inr false)))
                                  (some (Sum.inl (Prod.fst b_1, wr IntKind.i64 (Prod.snd v + (1 : Int))))))
                              (obind (w_path_May (Prod.fst v)) fun (b : Bool) =>
                                cnd (!b) (some (Sum.inr (Sum.inr false)))
                                  (some (Sum.inl (Prod.fst v, wr IntKind.i64 (Prod.snd v + (1 : Int))))))))
                          (cnd (Prod.snd b_1)
                            (obind (w_path_May (Prod.fst b_1)) fun (b : Bool) =>
                              cnd (!b) (some (Sum.inr (Sum.inr false)))
                                (some (Sum.inl (Prod.fst b_1, wr IntKind.i64 (Prod.snd v + (1 : Int))))))
                            (obind (w_path_May (Prod.fst v)) fun (b : Bool) =>
                              cnd (!b) (some (Sum.inr (Sum.inr false)))
                                (some (Sum.inl (Prod.fst v, wr IntKind.i64 (Prod.snd v + (1 : Int))))))))))
                    (cnd
                      (decide
                        (wr IntKind.i64 (Int.tmod (List.getD x (Int.toNat (Prod.snd v)) (0 : Int)) (10 : Int)) <
                          (1 : Int)))
                      (cnd (Prod.snd b_1 == true) (some (Sum.inr (Sum.inr false)))
                        (cnd (Prod.snd b_1)
                          (cnd
                            (decide
                              ((↑(List.length (Prod.fst b_1)) : Int) ≠ wr IntKind.i64 ((↑(List.length (Prod.fst v)) : Int) + (1 : Int))))
                            (some (Sum.inr (Sum.inr false)))
                            (cnd
                              (decide ((0 : Int) ≤ (↑(List.length (Prod.fst v)) : Int)) &&
                                decide ((↑(List.length (Prod.fst v)) : Int) < (↑(List.length (Prod.fst b_1)) : Int)))
                              (cnd
                                (decide
                                  (List.getD (Prod.fst b_1) (Int.toNat (↑(List.length (Prod.fst v)) : Int)) (0 : Int) ≠
                                    wr IntKind.i64
                                      (Int.tmod (List.getD x (Int.toNat (Prod.snd v)) (0 : Int)) (10 : Int))))
                                (some (Sum.inr (Sum.inr false)))
                                (obind
                                  (w_path_Has
                                    (Prod.fst b_1,
                                      wr IntKind.i64
                                        (Int.tmod (List.getD x (Int.toNat (Prod.snd v)) (0 : Int)) (10 : Int))))
                                  fun (b : Bool) =>
                                  cnd (!b) (some (Sum.inr (Sum.inr false)))
                                    (obind (w_path_Grand (Prod.fst b_1)) fun (b : Int) =>
                                      cnd
                                        (decide ((0 : Int) ≤ wr IntKind.i64 ((↑(List.length (Prod.fst v)) : Int) - (1 : Int))) &&
                                          decide
                                            (wr IntKind.i64 ((↑(List.length (Prod.fst v)) : Int) - (1 : Int)) <
                                              (↑(List.length (Prod.fst v)) : Int)))
                                        (cnd
                                          (decide
                                            (b ≠
                                              List.getD (Prod.fst v)
                                                (Int.toNat (wr IntKind.i64 ((↑(List.length (Prod.fst v)) : Int) - (1 : Int))))
                                                (0 : Int)))
                                          (some (Sum.inr (Sum.inr false)))
                                          (cnd (!Prod.snd b_1)
                                            (cnd (decide ((↑(List.length (Prod.fst b_1)) : Int) ≠ (0 : Int)))
                                              (some (Sum.inr (Sum.inr false)))
                                              (cnd (Prod.snd b_1)
                                                (obind (w_path_May (Prod.fst b_1)) fun (b : Bool) =>
                                                  cnd (!b) (some (Sum.inr (Sum.inr false)))
                                                    (some
                                                      (Sum.inl (Prod.fst b_1, wr IntKind.i64 (Prod.snd v + (1 : Int))))))
                                                (obind (w_path_May (Prod.fst v)) fun (b : Bool) =>
                                                  cnd (!b) (some (Sum.inr (Sum.inr false)))
                                                    (some
                                                      (Sum.inl (Prod.fst v, wr IntKind.i64 (Prod.snd v + (1 : Int))))))))
                                            (cnd (Prod.snd b_1)
                                              (obind (w_path_May (Prod.fst b_1)) fun (b : Bool) =>
                                                cnd (!b) (some (Sum.inr (Sum.inr false)))
                                                  (some
                                                    (Sum.inl (Prod.fst b_1, wr IntKind.i64 (Prod.snd v + (1 : Int))))))
                                              (obind (w_path_May (Prod.fst v)) fun (b : Bool) =>
                                                cnd (!b) (some (Sum.inr (Sum.inr false)))
                                                  (some
                                                    (Sum.inl (Prod.fst v, wr IntKind.i64 (Prod.snd v + (1 : Int)))))))))
                                        none)))
                              none))
                          (cnd (!Prod.snd b_1)
                            (cnd (decide ((↑(List.length (Prod.fst b_1)) : Int) ≠ (0 : Int))) (some (Sum.inr (Sum.inr false)))
                              (cnd (Prod.snd b_1)
                                (obind (w_path_May (Prod.fst b_1)) fun (b : Bool) =>
                                  cnd (!b) (some (Sum.inr (Sum.inr false)))
                                    (some (Sum.inl (Prod.fst b_1, wr IntKind.i64 (Prod.snd v + (1 : Int))))))
                                (obind (w_path_May (Prod.fst v)) fun (b : Bool) =>
                                  cnd (!b) (some (Sum.inr (Sum.inr false)))
                                    (some (Sum.inl (Prod.fst v, wr IntKind.i64 (Prod.snd v + (1 : Int))))))))
                            (cnd (Prod.snd b_1)
                              (obind (w_path_May (Prod.fst b_1)) fun (b : Bool) =>
                                cnd (!b) (some (Sum.inr (Sum.inr false)))
                                  (some (Sum.inl (Prod.fst b_1, wr IntKind.i64 (Prod.snd v + (1 : Int))))))
                              (obind (w_path_May (Prod.fst v)) fun (b : Bool) =>
                                cnd (!b) (some (Sum.inr (Sum.inr false)))
                                  (some (Sum.inl (Prod.fst v, wr IntKind.i64 (Prod.snd v + (1 : Int))))))))))
                      (cnd
                        (decide
                          ((8 : Int) <
                            wr IntKind.i64 (Int.tmod (List.getD x (Int.toNat (Prod.snd v)) (0 : Int)) (10 : Int))))
                        (cnd (Prod.snd b_1 == true) (some (Sum.inr (Sum.inr false)))
                          (cnd (Prod.snd b_1)
                            (cnd
                              (decide
                                ((↑(List.length (Prod.fst b_1)) : Int) ≠
                                  wr IntKind.i64 ((↑(List.length (Prod.fst v)) : Int) + (1 : Int))))
                              (some (Sum.inr (Sum.inr false)))
                              (cnd
                                (decide ((0 : Int) ≤ (↑(List.length (Prod.fst v)) : Int)) &&
                                  decide ((↑(List.length (Prod.fst v)) : Int) < (↑(List.length (Prod.fst b_1)) : Int)))
                                (cnd
                                  (decide
                                    (List.getD (Prod.fst b_1) (Int.toNat (↑(List.length (Prod.fst v)) : Int)) (0 : Int) ≠
                                      wr IntKind.i64
                                        (Int.tmod (List.getD x (Int.toNat (Prod.snd v)) (0 : Int)) (10 : Int))))
                                  (some (Sum.inr (Sum.inr false)))
                                  (obind
                                    (w_path_Has
                                      (Prod.fst b_1,
                                        wr IntKind.i64
                                          (Int.tmod (List.getD x (Int.toNat (Prod.snd v)) (0 : Int)) (10 : Int))))
                                    fun (b : Bool) =>
                                    cnd (!b) (some (Sum.inr (Sum.inr false)))
                                      (obind (w_path_Grand (Prod.fst b_1)) fun (b : Int) =>
                                        cnd
                                          (decide
                                              ((0 : Int) ≤ wr IntKind.i64 ((↑(List.length (Prod.fst v)) : Int) - (1 : Int))) &&
                                            decide
                                              (wr IntKind.i64 ((↑(List.length (Prod.fst v)) : Int) - (1 : Int)) <
                                                (↑(List.length (Prod.fst v)) : Int)))
                                          (cnd
                                            (decide
                                              (b ≠
                                                List.getD (Prod.fst v)
                                                  (Int.toNat (wr IntKind.i64 ((↑(List.length (Prod.fst v)) : Int) - (1 : Int))))
                                                  (0 : Int)))
                                            (some (Sum.inr (Sum.inr false)))
                                            (cnd (!Prod.snd b_1)
                                              (cnd (decide ((↑(List.length (Prod.fst b_1)) : Int) ≠ (0 : Int)))
                                                (some (Sum.inr (Sum.inr false)))
                                                (cnd (Prod.snd b_1)
                                                  (obind (w_path_May (Prod.fst b_1)) fun (b : Bool) =>
                                                    cnd (!b) (some (Sum.inr (Sum.inr false)))
                                                      (some
                                                        (Sum.inl
                                                          (Prod.fst b_1, wr IntKind.i64 (Prod.snd v + (1 : Int))))))
                                                  (obind (w_path_May (Prod.fst v)) fun (b : Bool) =>
                                                    cnd (!b) (some (Sum.inr (Sum.inr false)))
                                                      (some
                                                        (Sum.inl
                                                          (Prod.fst v, wr IntKind.i64 (Prod.snd v + (1 : Int))))))))
                                              (cnd (Prod.snd b_1)
                                                (obind (w_path_May (Prod.fst b_1)) fun (b : Bool) =>
                                                  cnd (!b) (some (Sum.inr (Sum.inr false)))
                                                    (some
                                                      (Sum.inl (Prod.fst b_1, wr IntKind.i64 (Prod.snd v + (1 : Int))))))
                                                (obind (w_path_May (Prod.fst v)) fun (b : Bool) =>
                                                  cnd (!b) (some (Sum.inr (Sum.inr false)))
                                                    (some
                                                      (Sum.inl (Prod.fst v, wr IntKind.i64 (Prod.snd v + (1 : Int)))))))))
                                          none)))
                                none))
                            (cnd (!Prod.snd b_1)
                              (cnd (decide ((↑(List.length (Prod.fst b_1)) : Int) ≠ (0 : Int))) (some (Sum.inr (Sum.inr false)))
                                (cnd (Prod.snd b_1)
                                  (obind (w_path_May (Prod.fst b_1)) fun (b : Bool) =>
                                    cnd (!b) (some (Sum.inr (Sum.inr false)))
                                      (some (Sum.inl (Prod.fst b_1, wr IntKind.i64 (Prod.snd v + (1 : Int))))))
                                  (obind (w_path_May (Prod.fst v)) fun (b : Bool) =>
                                    cnd (!b) (some (Sum.inr (Sum.inr false)))
                                      (some (Sum.inl (Prod.fst v, wr IntKind.i64 (Prod.snd v + (1 : Int))))))))
                              (cnd (Prod.snd b_1)
                                (obind (w_path_May (Prod.fst b_1)) fun (b : Bool) =>
                                  cnd (!b) (some (Sum.inr (Sum.inr false)))
                                    (some (Sum.inl (Prod.fst b_1, wr IntKind.i64 (Prod.snd v + (1 : Int))))))
                                (obind (w_path_May (Prod.fst v)) fun (b : Bool) =>
                                  cnd (!b) (some (Sum.inr (Sum.inr false)))
                                    (some (Sum.inl (Prod.fst v, wr IntKind.i64 (Prod.snd v + (1 : Int))))))))))
                        (cnd (Prod.snd b_1 == decide ((10 : Int) ≤ (↑(List.length (Prod.fst v)) : Int)))
                          (some (Sum.inr (Sum.inr false)))
                          (cnd (Prod.snd b_1)
                            (cnd
                              (decide
                                ((↑(List.length (Prod.fst b_1)) : Int) ≠
                                  wr IntKind.i64 ((↑(List.length (Prod.fst v)) : Int) + (1 : Int))))
                              (some (Sum.inr (Sum.inr false)))
                              (cnd
                                (decide ((0 : Int) ≤ (↑(List.length (Prod.fst v)) : Int)) &&
                                  decide ((↑(List.length (Prod.fst v)) : Int) < (↑(List.length (Prod.fst b_1)) : Int)))
                                (cnd
                                  (decide
                                    (List.getD (Prod.fst b_1) (Int.toNat (↑(List.length (Prod.fst v)) : Int)) (0 : Int) ≠
                                      wr IntKind.i64
                                        (Int.tmod (List.getD x (Int.toNat (Prod.snd v)) (0 : Int)) (10 : Int))))
                                  (some (Sum.inr (Sum.inr false)))
                                  (obind
                                    (w_path_Has
                                      (Prod.fst b_1,
                                        wr IntKind.i64
                                          (Int.tmod (List.getD x (Int.toNat (Prod.snd v)) (0 : Int)) (10 : Int))))
                                    fun (b : Bool) =>
                                    cnd (!b) (some (Sum.inr (Sum.inr false)))
                                      (obind (w_path_Grand (Prod.fst b_1)) fun (b : Int) =>
                                        cnd
                                          (decide
                                              ((0 : Int) ≤ wr IntKind.i64 ((↑(List.length (Prod.fst v)) : Int) - (1 : Int))) &&
                                            decide
                                              (wr IntKind.i64 ((↑(List.length (Prod.fst v)) : Int) - (1 : Int)) <
                                                (↑(List.length (Prod.fst v)) : Int)))
                                          (cnd
                                            (decide
                                              (b ≠
                                                List.getD (Prod.fst v)
                                                  (Int.toNat (wr IntKind.i64 ((↑(List.length (Prod.fst v)) : Int) - (1 : Int))))
                                                  (0 : Int)))
                                            (some (Sum.inr (Sum.inr false)))
                                            (cnd (!Prod.snd b_1)
                                              (cnd (decide ((↑(List.length (Prod.fst b_1)) : Int) ≠ (0 : Int)))
                                                (some (Sum.inr (Sum.inr false)))
                                                (cnd (Prod.snd b_1)
                                                  (obind (w_path_May (Prod.fst b_1)) fun (b : Bool) =>
                                                    cnd (!b) (some (Sum.inr (Sum.inr false)))
                                                      (some
                                                        (Sum.inl
                                                          (Prod.fst b_1, wr IntKind.i64 (Prod.snd v + (1 : Int))))))
                                                  (obind (w_path_May (Prod.fst v)) fun (b : Bool) =>
                                                    cnd (!b) (some (Sum.inr (Sum.inr false)))
                                                      (some
                                                        (Sum.inl
                                                          (Prod.fst v, wr IntKind.i64 (Prod.snd v + (1 : Int))))))))
                                              (cnd (Prod.snd b_1)
                                                (obind (w_path_May (Prod.fst b_1)) fun (b : Bool) =>
                                                  cnd (!b) (some (Sum.inr (Sum.inr false)))
                                                    (some
                                                      (Sum.inl (Prod.fst b_1, wr IntKind.i64 (Prod.snd v + (1 : Int))))))
                                                (obind (w_path_May (Prod.fst v)) fun (b : Bool) =>
                                                  cnd (!b) (some (Sum.inr (Sum.inr false)))
                                                    (some
                                                      (Sum.inl (Prod.fst v, wr IntKind.i64 (Prod.snd v + (1 : Int)))))))))
                                          none)))
                                none))
                            (cnd (!Prod.snd b_1)
                              (cnd (decide ((↑(List.length (Prod.fst b_1)) : Int) ≠ (0 : Int))) (some (Sum.inr (Sum.inr false)))
                                (cnd (Prod.snd b_1)
                                  (obind (w_path_May (Prod.fst b_1)) fun (b : Bool) =>
                                    cnd (!b) (some (Sum.inr (Sum.inr false)))
                                      (some (Sum.inl (Prod.fst b_1, wr IntKind.i64 (Prod.snd v + (1 : Int))))))
                                  (obind (w_path_May (Prod.fst v)) fun (b : Bool) =>
                                    cnd (!b) (some (Sum.inr (Sum.inr false)))
                                      (some (Sum.inl (Prod.fst v, wr IntKind.i64 (Prod.snd v + (1 : Int))))))))
                              (cnd (Prod.snd b_1)
                                (obind (w_path_May (Prod.fst b_1)) fun (b : Bool) =>
                                  cnd (!b) (some (Sum.inr (Sum.inr false)))
                                    (some (Sum.inl (Prod.fst b_1, wr IntKind.i64 (Prod.snd v + (1 : Int))))))
                                (obind (w_path_May (Prod.fst v)) fun (b : Bool) =>
                                  cnd (!b) (some (Sum.inr (Sum.inr false)))
                                    (some (Sum.inl (Prod.fst v, wr IntKind.i64 (Prod.snd v + (1 : Int)))))))))))))
              none)
            (some (Sum.inr (Sum.inl ()))))
        ([(1 : Int)], (0 : Int)))
      fun (b : PUnit ⊕ Bool) => selim (fun (b : PUnit) => some true) (fun (c : Bool) => some c) b)
theorem FV_law2_PathOnce_eq (w_path_Has : (List Int) × Int → Option (Bool)) (w_path_Add : (List Int) × Int → Option ((List Int) × Bool)) (w_path_Grand : List Int → Option (Int)) (w_path_May : List Int → Option (Bool)) (N : Nat) (x : List Int) : F_law2_PathOnce w_path_Has w_path_Add w_path_Grand w_path_May N x = V_law2_PathOnce w_path_Has w_path_Add w_path_Grand w_path_May N x := by kernel_rfl
noncomputable def W_law2_PathOnce (N : Nat) (x : List Int) : Option (Bool) :=
  cnd (decide ((12 : Int) < (↑(List.length x) : Int))) (some true)
    (obind
      (loopN N
        (fun (v : List Int × Int) =>
          cnd (decide (Prod.snd v < (↑(List.length x) : Int)))
            (cnd (decide ((0 : Int) ≤ Prod.snd v) && decide (Prod.snd v < (↑(List.length x) : Int)))
              (obind
                (W_path_Has N
                  (Prod.fst v, wr IntKind.i64 (Int.tmod (List.getD x (Int.toNat (Prod.snd v)) (0 : Int)) (10 : Int))))
                fun (b : Bool) =>
                obind
                  (W_path_Add N
                    (Prod.fst v, wr IntKind.i64 (Int.tmod (List.getD x (Int.toNat (Prod.snd v)) (0 : Int)) (10 : Int))))
                  fun (b_1 : List Int × Bool) =>
                  cnd b
                    (cnd (Prod.snd b_1 == true) (some (Sum.inr (Sum.inr false)))
                      (cnd (Prod.snd b_1)
                        (cnd
                          (decide
                            ((↑(List.length (Prod.fst b_1)) : Int) ≠ wr IntKind.i64 ((↑(List.length (Prod.fst v)) : Int) + (1 : Int))))
                          (some (Sum.inr (Sum.inr false)))
                          (cnd
                            (decide ((0 : Int) ≤ (↑(List.length (Prod.fst v)) : Int)) &&
                              decide ((↑(List.length (Prod.fst v)) : Int) < (↑(List.length (Prod.fst b_1)) : Int)))
                            (cnd
                              (decide
                                (List.getD (Prod.fst b_1) (Int.toNat (↑(List.length (Prod.fst v)) : Int)) (0 : Int) ≠
                                  wr IntKind.i64 (Int.tmod (List.getD x (Int.toNat (Prod.snd v)) (0 : Int)) (10 : Int))))
                              (some (Sum.inr (Sum.inr false)))
                              (obind
                                (W_path_Has N
                                  (Prod.fst b_1,
                                    wr IntKind.i64
                                      (Int.tmod (List.getD x (Int.toNat (Prod.snd v)) (0 : Int)) (10 : Int))))
                                fun (b : Bool) =>
                                cnd (!b) (some (Sum.inr (Sum.inr false)))
                                  (obind (W_path_Grand N (Prod.fst b_1)) fun (b : Int) =>
                                    cnd
                                      (decide ((0 : Int) ≤ wr IntKind.i64 ((↑(List.length (Prod.fst v)) : Int) - (1 : Int))) &&
                                        decide
                                          (wr IntKind.i64 ((↑(List.length (Prod.fst v)) : Int) - (1 : Int)) <
                                            (↑(List.length (Prod.fst v)) : Int)))
                                      (cnd
                                        (decide
                                          (b ≠
                                            List.getD (Prod.fst v)
                                              (Int.toNat (wr IntKind.i64 ((↑(List.length (Prod.fst v)) : Int) - (1 : Int))))
                                              (0 : Int)))
                                        (some (Sum.inr (Sum.inr false)))
                                        (cnd (!Prod.snd b_1)
                                          (cnd (decide ((↑(List.length (Prod.fst b_1)) : Int) ≠ (0 : Int)))
                                            (some (Sum.inr (Sum.inr false)))
                                            (cnd (Prod.snd b_1)
                                              (obind (W_path_May N (Prod.fst b_1)) fun (b : Bool) =>
                                                cnd (!b) (some (Sum.inr (Sum.inr false)))
                                                  (some
                                                    (Sum.inl (Prod.fst b_1, wr IntKind.i64 (Prod.snd v + (1 : Int))))))
                                              (obind (W_path_May N (Prod.fst v)) fun (b : Bool) =>
                                                cnd (!b) (some (Sum.inr (Sum.inr false)))
                                                  (some
                                                    (Sum.inl (Prod.fst v, wr IntKind.i64 (Prod.snd v + (1 : Int))))))))
                                          (cnd (Prod.snd b_1)
                                            (obind (W_path_May N (Prod.fst b_1)) fun (b : Bool) =>
                                              cnd (!b) (some (Sum.inr (Sum.inr false)))
                                                (some (Sum.inl (Prod.fst b_1, wr IntKind.i64 (Prod.snd v + (1 : Int))))))
                                            (obind (W_path_May N (Prod.fst v)) fun (b : Bool) =>
                                              cnd (!b) (some (Sum.inr (Sum.inr false)))
                                                (some (Sum.inl (Prod.fst v, wr IntKind.i64 (Prod.snd v + (1 : Int)))))))))
                                      none)))
                            none))
                        (cnd (!Prod.snd b_1)
                          (cnd (decide ((↑(List.length (Prod.fst b_1)) : Int) ≠ (0 : Int))) (some (Sum.inr (Sum.inr false)))
                            (cnd (Prod.snd b_1)
                              (obind (W_path_May N (Prod.fst b_1)) fun (b : Bool) =>
                                cnd (!b) (some (Sum.inr (Sum.inr false)))
                                  (some (Sum.inl (Prod.fst b_1, wr IntKind.i64 (Prod.snd v + (1 : Int))))))
                              (obind (W_path_May N (Prod.fst v)) fun (b : Bool) =>
                                cnd (!b) (some (Sum.inr (Sum.inr false)))
                                  (some (Sum.inl (Prod.fst v, wr IntKind.i64 (Prod.snd v + (1 : Int))))))))
                          (cnd (Prod.snd b_1)
                            (obind (W_path_May N (Prod.fst b_1)) fun (b : Bool) =>
                              cnd (!b) (some (Sum.inr (Sum.inr false)))
                                (some (Sum.inl (Prod.fst b_1, wr IntKind.i64 (Prod.snd v + (1 : Int))))))
                            (obind (W_path_May N (Prod.fst v)) fun (b : Bool) =>
                              cnd (!b) (some (Sum.inr (Sum.inr false)))
                                (some (Sum.inl (Prod.fst v, wr IntKind.i64 (Prod.snd v + (1 : Int))))))))))
                    (cnd
                      (decide
                        (wr IntKind.i64 (Int.tmod (List.getD x (Int.toNat (Prod.snd v)) (0 : Int)) (10 : Int)) <
                          (1 : Int)))
                      (cnd (Prod.snd b_1 == true) (some (Sum.inr (Sum.inr false)))
                        (cnd (Prod.snd b_1)
                          (cnd
                            (decide
                              ((↑(List.length (Prod.fst b_1)) : Int) ≠ wr IntKind.i64 ((↑(List.length (Prod.fst v)) : Int) + (1 : Int))))
                            (some (Sum.inr (Sum.inr false)))
                            (cnd
                              (decide ((0 : Int) ≤ (↑(List.length (Prod.fst v)) : Int)) &&
                                decide ((↑(List.length (Prod.fst v)) : Int) < (↑(List.length (Prod.fst b_1)) : Int)))
                              (cnd
                                (decide
                                  (List.getD (Prod.fst b_1) (Int.toNat (↑(List.length (Prod.fst v)) : Int)) (0 : Int) ≠
                                    wr IntKind.i64
                                      (Int.tmod (List.getD x (Int.toNat (Prod.snd v)) (0 : Int)) (10 : Int))))
                                (some (Sum.inr (Sum.inr false)))
                                (obind
                                  (W_path_Has N
                                    (Prod.fst b_1,
                                      wr IntKind.i64
                                        (Int.tmod (List.getD x (Int.toNat (Prod.snd v)) (0 : Int)) (10 : Int))))
                                  fun (b : Bool) =>
                                  cnd (!b) (some (Sum.inr (Sum.inr false)))
                                    (obind (W_path_Grand N (Prod.fst b_1)) fun (b : Int) =>
                                      cnd
                                        (decide ((0 : Int) ≤ wr IntKind.i64 ((↑(List.length (Prod.fst v)) : Int) - (1 : Int))) &&
                                          decide
                                            (wr IntKind.i64 ((↑(List.length (Prod.fst v)) : Int) - (1 : Int)) <
                                              (↑(List.length (Prod.fst v)) : Int)))
                                        (cnd
                                          (decide
                                            (b ≠
                                              List.getD (Prod.fst v)
                                                (Int.toNat (wr IntKind.i64 ((↑(List.length (Prod.fst v)) : Int) - (1 : Int))))
                                                (0 : Int)))
                                          (some (Sum.inr (Sum.inr false)))
                                          (cnd (!Prod.snd b_1)
                                            (cnd (decide ((↑(List.length (Prod.fst b_1)) : Int) ≠ (0 : Int)))
                                              (some (Sum.inr (Sum.inr false)))
                                              (cnd (Prod.snd b_1)
                                                (obind (W_path_May N (Prod.fst b_1)) fun (b : Bool) =>
                                                  cnd (!b) (some (Sum.inr (Sum.inr false)))
                                                    (some
                                                      (Sum.inl (Prod.fst b_1, wr IntKind.i64 (Prod.snd v + (1 : Int))))))
                                                (obind (W_path_May N (Prod.fst v)) fun (b : Bool) =>
                                                  cnd (!b) (some (Sum.inr (Sum.inr false)))
                                                    (some
                                                      (Sum.inl (Prod.fst v, wr IntKind.i64 (Prod.snd v + (1 : Int))))))))
                                            (cnd (Prod.snd b_1)
                                              (obind (W_path_May N (Prod.fst b_1)) fun (b : Bool) =>
                                                cnd (!b) (some (Sum.inr (Sum.inr false)))
                                                  (some
                                                    (Sum.inl (Prod.fst b_1, wr IntKind.i64 (Prod.snd v + (1 : Int))))))
                                              (obind (W_path_May N (Prod.fst v)) fun (b : Bool) =>
                                                cnd (!b) (some (Sum.inr (Sum.inr false)))
                                                  (some
                                                    (Sum.inl (Prod.fst v, wr IntKind.i64 (Prod.snd v + (1 : Int)))))))))
                                        none)))
                              none))
                          (cnd (!Prod.snd b_1)
                            (cnd (decide ((↑(List.length (Prod.fst b_1)) : Int) ≠ (0 : Int))) (some (Sum.inr (Sum.inr false)))
                              (cnd (Prod.snd b_1)
                                (obind (W_path_May N (Prod.fst b_1)) fun (b : Bool) =>
                                  cnd (!b) (some (Sum.inr (Sum.inr false)))
                                    (some (Sum.inl (Prod.fst b_1, wr IntKind.i64 (Prod.snd v + (1 : Int))))))
                                (obind (W_path_May N (Prod.fst v)) fun (b : Bool) =>
                                  cnd (!b) (some (Sum.inr (Sum.inr false)))
                                    (some (Sum.inl (Prod.fst v, wr IntKind.i64 (Prod.snd v + (1 : Int))))))))
                            (cnd (Prod.snd b_1)
                              (obind (W_path_May N (Prod.fst b_1)) fun (b : Bool) =>
                                cnd (!b) (some (Sum.inr (Sum.inr false)))
                                  (some (Sum.inl (Prod.fst b_1, wr IntKind.i64 (Prod.snd v + (1 : Int))))))
                              (obind (W_path_May N (Prod.fst v)) fun (b : Bool) =>
                                cnd (!b) (some (Sum.inr (Sum.inr false)))
                                  (some (Sum.inl (Prod.fst v, wr IntKind.i64 (Prod.snd v + (1 : Int))))))))))
                      (cnd
                        (decide
                          ((8 : Int) <
                            wr IntKind.i64 (Int.tmod (List.getD x (Int.toNat (Prod.snd v)) (0 : Int)) (10 : Int))))
                        (cnd (Prod.snd b_1 == true) (some (Sum.inr (Sum.inr false)))
                          (cnd (Prod.snd b_1)
                            (cnd
                              (decide
                                ((↑(List.length (Prod.fst b_1)) : Int) ≠
                                  wr IntKind.i64 ((↑(List.length (Prod.fst v)) : Int) + (1 : Int))))
                              (some (Sum.inr (Sum.inr false)))
                              (cnd
                                (decide ((0 : Int) ≤ (↑(List.length (Prod.fst v)) : Int)) &&
                                  decide ((↑(List.length (Prod.fst v)) : Int) < (↑(List.length (Prod.fst b_1)) : Int)))
                                (cnd
                                  (decide
                                    (List.getD (Prod.fst b_1) (Int.toNat (↑(List.length (Prod.fst v)) : Int)) (0 : Int) ≠
                                      wr IntKind.i64
                                        (Int.tmod (List.getD x (Int.toNat (Prod.snd v)) (0 : Int)) (10 : Int))))
                                  (some (Sum.inr (Sum.inr false)))
                                  (obind
                                    (W_path_Has N
                                      (Prod.fst b_1,
                                        wr IntKind.i64
                                          (Int.tmod (List.getD x (Int.toNat (Prod.snd v)) (0 : Int)) (10 : Int))))
                                    fun (b : Bool) =>
                                    cnd (!b) (some (Sum.inr (Sum.inr false)))
                                      (obind (W_path_Grand N (Prod.fst b_1)) fun (b : Int) =>
                                        cnd
                                          (decide
                                              ((0 : Int) ≤ wr IntKind.i64 ((↑(List.length (Prod.fst v)) : Int) - (1 : Int))) &&
                                            decide
                                              (wr IntKind.i64 ((↑(List.length (Prod.fst v)) : Int) - (1 : Int)) <
                                                (↑(List.length (Prod.fst v)) : Int)))
                                          (cnd
                                            (decide
                                              (b ≠
                                                List.getD (Prod.fst v)
                                                  (Int.toNat (wr IntKind.i64 ((↑(List.length (Prod.fst v)) : Int) - (1 : Int))))
                                                  (0 : Int)))
                                            (some (Sum.inr (Sum.inr false)))
                                            (cnd (!Prod.snd b_1)
                                              (cnd (decide ((↑(List.length (Prod.fst b_1)) : Int) ≠ (0 : Int)))
                                                (some (Sum.inr (Sum.inr false)))
                                                (cnd (Prod.snd b_1)
                                                  (obind (W_path_May N (Prod.fst b_1)) fun (b : Bool) =>
                                                    cnd (!b) (some (Sum.inr (Sum.inr false)))
                                                      (some
                                                        (Sum.inl
                                                          (Prod.fst b_1, wr IntKind.i64 (Prod.snd v + (1 : Int))))))
                                                  (obind (W_path_May N (Prod.fst v)) fun (b : Bool) =>
                                                    cnd (!b) (some (Sum.inr (Sum.inr false)))
                                                      (some
                                                        (Sum.inl
                                                          (Prod.fst v, wr IntKind.i64 (Prod.snd v + (1 : Int))))))))
                                              (cnd (Prod.snd b_1)
                                                (obind (W_path_May N (Prod.fst b_1)) fun (b : Bool) =>
                                                  cnd (!b) (some (Sum.inr (Sum.inr false)))
                                                    (some
                                                      (Sum.inl (Prod.fst b_1, wr IntKind.i64 (Prod.snd v + (1 : Int))))))
                                                (obind (W_path_May N (Prod.fst v)) fun (b : Bool) =>
                                                  cnd (!b) (some (Sum.inr (Sum.inr false)))
                                                    (some
                                                      (Sum.inl (Prod.fst v, wr IntKind.i64 (Prod.snd v + (1 : Int)))))))))
                                          none)))
                                none))
                            (cnd (!Prod.snd b_1)
                              (cnd (decide ((↑(List.length (Prod.fst b_1)) : Int) ≠ (0 : Int))) (some (Sum.inr (Sum.inr false)))
                                (cnd (Prod.snd b_1)
                                  (obind (W_path_May N (Prod.fst b_1)) fun (b : Bool) =>
                                    cnd (!b) (some (Sum.inr (Sum.inr false)))
                                      (some (Sum.inl (Prod.fst b_1, wr IntKind.i64 (Prod.snd v + (1 : Int))))))
                                  (obind (W_path_May N (Prod.fst v)) fun (b : Bool) =>
                                    cnd (!b) (some (Sum.inr (Sum.inr false)))
                                      (some (Sum.inl (Prod.fst v, wr IntKind.i64 (Prod.snd v + (1 : Int))))))))
                              (cnd (Prod.snd b_1)
                                (obind (W_path_May N (Prod.fst b_1)) fun (b : Bool) =>
                                  cnd (!b) (some (Sum.inr (Sum.inr false)))
                                    (some (Sum.inl (Prod.fst b_1, wr IntKind.i64 (Prod.snd v + (1 : Int))))))
                                (obind (W_path_May N (Prod.fst v)) fun (b : Bool) =>
                                  cnd (!b) (some (Sum.inr (Sum.inr false)))
                                    (some (Sum.inl (Prod.fst v, wr IntKind.i64 (Prod.snd v + (1 : Int))))))))))
                        (cnd (Prod.snd b_1 == decide ((10 : Int) ≤ (↑(List.length (Prod.fst v)) : Int)))
                          (some (Sum.inr (Sum.inr false)))
                          (cnd (Prod.snd b_1)
                            (cnd
                              (decide
                                ((↑(List.length (Prod.fst b_1)) : Int) ≠
                                  wr IntKind.i64 ((↑(List.length (Prod.fst v)) : Int) + (1 : Int))))
                              (some (Sum.inr (Sum.inr false)))
                              (cnd
                                (decide ((0 : Int) ≤ (↑(List.length (Prod.fst v)) : Int)) &&
                                  decide ((↑(List.length (Prod.fst v)) : Int) < (↑(List.length (Prod.fst b_1)) : Int)))
                                (cnd
                                  (decide
                                    (List.getD (Prod.fst b_1) (Int.toNat (↑(List.length (Prod.fst v)) : Int)) (0 : Int) ≠
                                      wr IntKind.i64
                                        (Int.tmod (List.getD x (Int.toNat (Prod.snd v)) (0 : Int)) (10 : Int))))
                                  (some (Sum.inr (Sum.inr false)))
                                  (obind
                                    (W_path_Has N
                                      (Prod.fst b_1,
                                        wr IntKind.i64
                                          (Int.tmod (List.getD x (Int.toNat (Prod.snd v)) (0 : Int)) (10 : Int))))
                                    fun (b : Bool) =>
                                    cnd (!b) (some (Sum.inr (Sum.inr false)))
                                      (obind (W_path_Grand N (Prod.fst b_1)) fun (b : Int) =>
                                        cnd
                                          (decide
                                              ((0 : Int) ≤ wr IntKind.i64 ((↑(List.length (Prod.fst v)) : Int) - (1 : Int))) &&
                                            decide
                                              (wr IntKind.i64 ((↑(List.length (Prod.fst v)) : Int) - (1 : Int)) <
                                                (↑(List.length (Prod.fst v)) : Int)))
                                          (cnd
                                            (decide
                                              (b ≠
                                                List.getD (Prod.fst v)
                                                  (Int.toNat (wr IntKind.i64 ((↑(List.length (Prod.fst v)) : Int) - (1 : Int))))
                                                  (0 : Int)))
                                            (some (Sum.inr (Sum.inr false)))
                                            (cnd (!Prod.snd b_1)
                                              (cnd (decide ((↑(List.length (Prod.fst b_1)) : Int) ≠ (0 : Int)))
                                                (some (Sum.inr (Sum.inr false)))
                                                (cnd (Prod.snd b_1)
                                                  (obind (W_path_May N (Prod.fst b_1)) fun (b : Bool) =>
                                                    cnd (!b) (some (Sum.inr (Sum.inr false)))
                                                      (some
                                                        (Sum.inl
                                                          (Prod.fst b_1, wr IntKind.i64 (Prod.snd v + (1 : Int))))))
                                                  (obind (W_path_May N (Prod.fst v)) fun (b : Bool) =>
                                                    cnd (!b) (some (Sum.inr (Sum.inr false)))
                                                      (some
                                                        (Sum.inl
                                                          (Prod.fst v, wr IntKind.i64 (Prod.snd v + (1 : Int))))))))
                                              (cnd (Prod.snd b_1)
                                                (obind (W_path_May N (Prod.fst b_1)) fun (b : Bool) =>
                                                  cnd (!b) (some (Sum.inr (Sum.inr false)))
                                                    (some
                                                      (Sum.inl (Prod.fst b_1, wr IntKind.i64 (Prod.snd v + (1 : Int))))))
                                                (obind (W_path_May N (Prod.fst v)) fun (b : Bool) =>
                                                  cnd (!b) (some (Sum.inr (Sum.inr false)))
                                                    (some
                                                      (Sum.inl (Prod.fst v, wr IntKind.i64 (Prod.snd v + (1 : Int)))))))))
                                          none)))
                                none))
                            (cnd (!Prod.snd b_1)
                              (cnd (decide ((↑(List.length (Prod.fst b_1)) : Int) ≠ (0 : Int))) (some (Sum.inr (Sum.inr false)))
                                (cnd (Prod.snd b_1)
                                  (obind (W_path_May N (Prod.fst b_1)) fun (b : Bool) =>
                                    cnd (!b) (some (Sum.inr (Sum.inr false)))
                                      (some (Sum.inl (Prod.fst b_1, wr IntKind.i64 (Prod.snd v + (1 : Int))))))
                                  (obind (W_path_May N (Prod.fst v)) fun (b : Bool) =>
                                    cnd (!b) (some (Sum.inr (Sum.inr false)))
                                      (some (Sum.inl (Prod.fst v, wr IntKind.i64 (Prod.snd v + (1 : Int))))))))
                              (cnd (Prod.snd b_1)
                                (obind (W_path_May N (Prod.fst b_1)) fun (b : Bool) =>
                                  cnd (!b) (some (Sum.inr (Sum.inr false)))
                                    (some (Sum.inl (Prod.fst b_1, wr IntKind.i64 (Prod.snd v + (1 : Int))))))
                                (obind (W_path_May N (Prod.fst v)) fun (b : Bool) =>
                                  cnd (!b) (some (Sum.inr (Sum.inr false)))
                                    (some (Sum.inl (Prod.fst v, wr IntKind.i64 (Prod.snd v + (1 : Int)))))))))))))
              none)
            (some (Sum.inr (Sum.inl ()))))
        ([(1 : Int)], (0 : Int)))
      fun (b : PUnit ⊕ Bool) => selim (fun (b : PUnit) => some true) (fun (c : Bool) => some c) b)
theorem F_law2_PathOnce_eq (N : Nat) (x : List Int) : F_law2_PathOnce (W_path_Has N) (W_path_Add N) (W_path_Grand N) (W_path_May N) N x = W_law2_PathOnce N x := (FV_law2_PathOnce_eq (W_path_Has N) (W_path_Add N) (W_path_Grand N) (W_path_May N) N x).trans (by kernel_rfl)
noncomputable def conw_law2_PathOnce (w : List Int → Option (Bool)) : Con := ⟨4, as_law2_PathOnce, bs_law2_PathOnce, Bool, w, out_law2_PathOnce⟩
noncomputable def con_law2_PathOnce (N : Nat) : Con := conw_law2_PathOnce (W_law2_PathOnce N)
theorem R_law2_PathOnce_eq (x : List Int) (y : Bool) : retOf2 P0 Try.f4 (kpL []) (lbOf as_law2_PathOnce bs_law2_PathOnce x) (patS ⟨103, [], [], []⟩ pout_law2_PathOnce y) = some (out_law2_PathOnce y) := by kernel_rfl
theorem con_law2_PathOnce_ok (N : Nat) : Con.ok P0 (con_law2_PathOnce N) := ⟨⟨Try.f4, Try.func4, by kernel_rfl, by kernel_rfl⟩, fun (x : List Int) (r : Bool) (hr : W_law2_PathOnce N x = some r) =>
  spec2_evT (Γ := G_law2_PathOnce (W_path_Has N) (W_path_Add N) (W_path_Grand N) (W_path_May N) N) (Λ := L0) (pout := pout_law2_PathOnce) (kp := kpL []) mixed (orcOf_ok _ (by simp only [List.mem_cons, List.not_mem_nil, or_false, forall_eq_or_imp, forall_eq]; exact ⟨con_law2_begun_ok N, con_path_Has_ok N, con_path_Add_ok N, con_path_Grand_ok N, con_path_May_ok N⟩)) Try.func4 (c := bodyOf Try.f4) (by kernel_rfl) (by kernel_rfl) (of_decide_eq_true (by kernel_rfl)) ((F_law2_PathOnce_eq N x).trans hr) (R_law2_PathOnce_eq x r)⟩
/-! What is reckoned. -/
theorem wr_s {z : Int} (h : 0 ≤ z) (h2 : z ≤ 140737488355328) : wr .i64 z = z := wr_i64 (by omega) (by omega)
theorem getD_mem {l : List Int} {j : Nat} (h : j < l.length) : l.getD j 0 ∈ l := by
  rw [List.getD_eq_getElem?_getD, List.getElem?_eq_getElem h]; exact List.getElem_mem h
theorem mem_getD {l : List Int} {x : Int} (h : x ∈ l) : ∃ j, j < l.length ∧ l.getD j 0 = x := by
  obtain ⟨j, hj, e⟩ := List.getElem_of_mem h
  exact ⟨j, hj, by rw [List.getD_eq_getElem?_getD, List.getElem?_eq_getElem hj]; exact e⟩
theorem Index_eq (N : Nat) (l : List Int) (x : Int) (hN : l.length < N) (hl : l.length ≤ 140737488355327) : ∃ r, W_slices_Index_int N (l, x) = some r ∧ (0 ≤ r ↔ x ∈ l) := by
  unfold W_slices_Index_int
  obtain ⟨r, h1, h2⟩ := loopN_run (N := N) (f := fun (v : Int) =>
      cnd (decide (v < ↑(List.length (Prod.fst (l, x)))))
        (cnd (decide ((0 : Int) ≤ v) && decide (v < ↑(List.length (Prod.fst (l, x)))))
          (cnd (decide (Prod.snd (l, x) = List.getD (Prod.fst (l, x)) (Int.toNat v) (0 : Int))) (some (Sum.inr (Sum.inr v)))
            (some (Sum.inl (wr IntKind.i64 (v + (1 : Int))))))
          none)
        (some (Sum.inr (Sum.inl ())))) (x := Int.ofNat 0)
    (fun v => 0 ≤ v ∧ v ≤ l.length ∧ ∀ j : Nat, (j : Int) < v → l.getD j 0 ≠ x) (fun v => l.length - v.toNat) (fun r : PUnit ⊕ Int => match r with | .inl _ => x ∉ l | .inr k => 0 ≤ k ∧ x ∈ l) (fun v ⟨g1, g2, g3⟩ => by
      simp only
      by_cases h : v < l.length
      · simp only [dT h, dT g1, Bool.and_self, cnd_t]
        by_cases he : x = l.getD v.toNat 0
        · right
          rw [dT he, cnd_t]
          exact ⟨_, rfl, g1, by rw [he]; exact getD_mem (by omega)⟩
        · left
          rw [dF he, cnd_f, wr_s (by omega) (by omega)]
          refine ⟨_, rfl, ⟨by omega, by omega, fun j hj => ?_⟩, by omega⟩
          by_cases hjv : (j : Int) < v
          · exact g3 j hjv
          · have : j = v.toNat := by omega
            subst this
            exact fun e => he e.symm
      · right
        rw [dF h, cnd_f]
        refine ⟨_, rfl, fun hm => ?_⟩
        obtain ⟨j, hj, e⟩ := mem_getD hm
        exact g3 j (by omega) e) ⟨by simp, by simp, fun j hj => by simp at hj; omega⟩ (by simp; omega)
  rw [h1, obind_s]
  cases r with
  | inl u => exact ⟨-1, rfl, by simp only at h2; simp [h2]⟩
  | inr k => exact ⟨k, rfl, by simp only at h2; simp [h2.1, h2.2]⟩
theorem Has_eq (N : Nat) (l : List Int) (x : Int) (hN : l.length < N) (hl : l.length ≤ 140737488355327) : W_path_Has N (l, x) = some (decide (x ∈ l)) := by
  obtain ⟨r, h1, h2⟩ := Index_eq N l x hN hl
  unfold W_path_Has W_slices_Contains_int
  simp only [h1, obind_s]
  by_cases h : x ∈ l
  · rw [dT (h2.2 h), dT h]
  · rw [dF (fun e => h (h2.1 e)), dF h]
def VP (x : List Int) : Prop := 1 ≤ x.length ∧ x.length ≤ 10 ∧ x.getD 0 0 = 1 ∧ ∀ j, j < x.length → 1 ≤ x.getD j 0 ∧ x.getD j 0 ≤ 8 ∧ x.getD j 0 ∉ x.take j
open Classical in
theorem read_eq (N : Nat) (x : List Int) (hN : 12 ≤ N) : W_path_read N x = some (if VP x then .inl x else .inr ()) := by
  unfold W_path_read
  by_cases h1 : (x.length : Int) < 1
  · rw [dT h1, cnd_t, obind_s, cnd_t, if_neg (fun h => by have := h.1; omega)]
  rw [dF h1, cnd_f, obind_s]
  by_cases h2 : (10 : Int) < x.length
  · rw [dT h2, cnd_t, if_neg (fun h => by have := h.2.1; omega)]
  rw [dF h2, cnd_f, dT (show (0 : Int) ≤ 0 by omega), dT (show (0 : Int) < x.length by omega), Bool.and_self, cnd_t]
  by_cases h3 : x.getD 0 0 = 1
  case neg => rw [dT h3, cnd_t, if_neg (fun h => h3 h.2.2.1)]
  rw [dF (by simpa using h3), cnd_f]
  refine obind_loop (fun v : Int => 0 ≤ v ∧ v ≤ x.length ∧ ∀ j : Nat, (j : Int) < v → 1 ≤ x.getD j 0 ∧ x.getD j 0 ≤ 8 ∧ x.getD j 0 ∉ x.take j) (fun v => x.length - v.toNat)
    (fun r : PUnit ⊕ List Int ⊕ PUnit => (r = .inl () ∧ VP x) ∨ (r = .inr (.inr ()) ∧ ¬ VP x)) ⟨by simp, by simp, fun j hj => by simp at hj; omega⟩ (by simp; omega) ?_ ?_
  · rintro r (⟨rfl, h⟩ | ⟨rfl, h⟩)
    · rw [selim_l, if_pos h]
    · rw [selim_r, if_neg h]
  · rintro v ⟨g1, g2, g3⟩
    by_cases h : v < x.length
    · simp only [dT h, dT g1, Bool.and_self, cnd_t, dT (show v ≤ x.length by omega), List.drop_zero]
      have bad : ¬ (1 ≤ x.getD v.toNat 0 ∧ x.getD v.toNat 0 ≤ 8 ∧ x.getD v.toNat 0 ∉ x.take v.toNat) → ¬ VP x := fun hb hv => hb (hv.2.2.2 v.toNat (by omega))
      by_cases b1 : x.getD v.toNat 0 < 1
      · right
        rw [dT b1, cnd_t, obind_s, cnd_t]
        exact ⟨_, rfl, .inr ⟨rfl, bad (fun h => by omega)⟩⟩
      rw [dF b1, cnd_f, obind_s]
      by_cases b2 : 8 < x.getD v.toNat 0
      · right
        rw [dT b2, cnd_t]
        exact ⟨_, rfl, .inr ⟨rfl, bad (fun h => by omega)⟩⟩
      rw [dF b2, cnd_f, Has_eq N _ _ (by rw [List.length_take]; omega) (by rw [List.length_take]; omega), obind_s]
      by_cases b3 : x.getD v.toNat 0 ∈ x.take v.toNat
      · right
        rw [dT b3, cnd_t]
        exact ⟨_, rfl, .inr ⟨rfl, bad (fun h => h.2.2 b3)⟩⟩
      left
      rw [dF b3, cnd_f, wr_s (by omega) (by omega)]
      refine ⟨_, rfl, ⟨by omega, by omega, fun j hj => ?_⟩, by omega⟩
      by_cases hjv : (j : Int) < v
      · exact g3 j hjv
      · have : j = v.toNat := by omega
        subst this
        exact ⟨by omega, by omega, b3⟩
    · right
      rw [dF h, cnd_f]
      exact ⟨_, rfl, .inl ⟨rfl, by omega, by omega, h3, fun j hj => g3 j (by omega)⟩⟩
/-- One more. -/
theorem VP_snoc {p : List Int} (hp : VP p) (id : Int) : VP (p ++ [id]) ↔ (p.length < 10 ∧ 1 ≤ id ∧ id ≤ 8 ∧ id ∉ p) := by
  have gl : (p ++ [id]).getD p.length 0 = id := by simp [List.getD_eq_getElem?_getD]
  have go : ∀ j, j < p.length → (p ++ [id]).getD j 0 = p.getD j 0 := fun j hj => by
    rw [List.getD_eq_getElem?_getD, List.getD_eq_getElem?_getD, List.getElem?_append_left hj]
  constructor
  · rintro ⟨h1, h2, h3, h4⟩
    have := h4 p.length (by simp)
    rw [gl, List.take_left'  rfl] at this
    simp at h2
    exact ⟨by omega, this.1, this.2.1, this.2.2⟩
  · rintro ⟨h1, h2, h3, h4⟩
    obtain ⟨a1, a2, a3, a4⟩ := hp
    refine ⟨by simp, by simp; omega, by rw [go 0 (by omega)]; exact a3, fun j hj => ?_⟩
    by_cases hjp : j < p.length
    · rw [go j hjp, List.take_append_of_le_length (by omega)]
      exact a4 j hjp
    · simp at hj
      have : j = p.length := by omega
      subst this
      rw [gl, List.take_left' rfl]
      exact ⟨h2, h3, h4⟩
open Classical in
theorem Add_eq (N : Nat) (p : List Int) (id : Int) (hN : 12 ≤ N) (hl : p.length ≤ 1000) : W_path_Add N (p, id) = some (if VP (p ++ [id]) then (p ++ [id], true) else ([], false)) := by
  unfold W_path_Add W_slices_Clone_int
  simp only
  rw [dT (by omega), cnd_t, obind_s, dT (by simp; omega), cnd_t, read_eq N _ hN, obind_s]
  split
  · rw [selim_l]
  · rw [selim_r]
open Classical in
theorem May_eq (N : Nat) (p : List Int) (hN : 12 ≤ N) : W_path_May N p = some (decide (VP p)) := by
  unfold W_path_May
  rw [read_eq N _ hN, obind_s]
  split
  · rename_i h; rw [selim_l, dT h]
  · rename_i h; rw [selim_r, dF h]
theorem Grand_eq (N : Nat) (p : List Int) (h : 2 ≤ p.length) (hl : p.length ≤ 1000) : W_path_Grand N p = some (p.getD (p.length - 2) 0) := by
  unfold W_path_Grand
  rw [dF (by omega), cnd_f, wr_s (by omega) (by omega), dT (by omega), dT (by omega), Bool.and_self, cnd_t]
  congr 2
  omega
open Classical in
theorem law_aux (N : Nat) (hN : 100 ≤ N) (y0 : List Int) (h0 : Twf (.list (.int .u8)) y0) : W_law2_PathOnce N y0 = some true := by
  have hel : ∀ j, j < y0.length → 0 ≤ y0.getD j 0 ∧ y0.getD j 0 ≤ 255 := fun j hj => h0.2 _ (getD_mem hj)
  unfold W_law2_PathOnce
  by_cases h1 : (12 : Int) < y0.length
  · rw [dT h1, cnd_t]
  rw [dF h1, cnd_f]
  refine obind_loop (fun v : List Int × Int => VP v.1 ∧ 0 ≤ v.2) (fun v => (y0.length - v.2).toNat) (fun r : PUnit ⊕ Bool => r = .inl ()) ⟨⟨by simp, by simp, by simp, fun j hj => by
    have : j = 0 := by simpa using hj
    subst this; simp⟩, by simp⟩ (by simp; omega) ?_ ?_
  · rintro r rfl
    rw [selim_l]
  · rintro ⟨p, i⟩ ⟨hp, hi⟩
    simp only at hp hi ⊢
    by_cases h2 : i < y0.length
    case neg =>
      right
      rw [dF h2, cnd_f]
      exact ⟨_, rfl, rfl⟩
    left
    have hb := hel i.toNat (by omega)
    rw [Int.tmod_eq_emod_of_nonneg hb.1, wr_s (by omega) (by omega)]
    have hid : 0 ≤ y0.getD i.toNat 0 % 10 ∧ y0.getD i.toNat 0 % 10 ≤ 9 := by omega
    generalize y0.getD i.toNat 0 % 10 = id at *
    have hpl := hp.2.1
    have hp1 := hp.1
    simp only [dT h2, dT hi, Bool.and_self, cnd_t, Has_eq N p id (by omega) (by omega), Add_eq N p id (by omega) (by omega), obind_s, wr_s (show 0 ≤ i + 1 by omega) (by omega)]
    have hm := VP_snoc hp id
    by_cases hv : VP (p ++ [id])
    · obtain ⟨a1, a2, a3, a4⟩ := hm.1 hv
      have e1 : W_path_Has N (p ++ [id], id) = some true := by rw [Has_eq _ _ _ (by simp; omega) (by simp; omega), dT (by simp)]
      have e2 : W_path_Grand N (p ++ [id]) = some (p.getD (p.length - 1) 0) := by
        rw [Grand_eq _ _ (by simp; omega) (by simp; omega)]
        congr 1
        simp only [List.length_append, List.length_singleton]
        rw [List.getD_eq_getElem?_getD, List.getD_eq_getElem?_getD, List.getElem?_append_left (by omega)]
        congr 2
      have e3 : W_path_May N (p ++ [id]) = some true := by rw [May_eq _ _ (by omega), dT hv]
      simp only [if_pos hv, dF a4, cnd_f, cnd_t, dF (show ¬ id < 1 by omega), dF (show ¬ 8 < id by omega), dF (show ¬ (10 : Int) ≤ p.length by omega), e1, e2, e3, obind_s, Bool.not_true, Bool.not_false, beq_iff_eq, Bool.true_eq_false]
      have w1 : wr .i64 ((p.length : Int) + 1) = p.length + 1 := wr_s (by omega) (by omega)
      have w2 : wr .i64 ((p.length : Int) - 1) = p.length - 1 := wr_s (by omega) (by omega)
      have w3 : ((p.length : Int) - 1).toNat = p.length - 1 := by omega
      have w4 : (p ++ [id]).getD p.length 0 = id := by simp [List.getD_eq_getElem?_getD]
      have w5 : ((true : Bool) == false) = false := rfl
      have w6 : ((p.length : Int)).toNat = p.length := by omega
      simp only [w1, w2, w3, w4, w5, w6, cnd_f, cnd_t, List.length_append, List.length_singleton, Int.natCast_add, Int.cast_ofNat_Int, ne_eq, not_true_eq_false, decide_false, decide_true, dT (show (0 : Int) ≤ p.length by omega), dT (show (p.length : Int) < p.length + 1 by omega), Bool.and_self, dT (show (0 : Int) ≤ (p.length : Int) - 1 by omega), dT (show (p.length : Int) - 1 < p.length by omega)]
      refine ⟨(p ++ [id], i + 1), ?_, ⟨hv, by simp only; omega⟩, by simp only; omega⟩
      first | rfl | (rw [dT (by omega), Bool.and_self, cnd_t])
    · have e3 : W_path_May N p = some true := by rw [May_eq _ _ (by omega), dT hp]
      have w5 : ((false : Bool) == true) = false := rfl
      simp only [if_neg hv, e3, obind_s, cnd_f, cnd_t, Bool.not_true, Bool.not_false, w5, List.length_nil]
      refine ⟨(p, i + 1), ?_, ⟨hp, by omega⟩, by simp; omega⟩
      have z : (decide ((((0 : Nat) : Int)) ≠ 0)) = false := by simp
      by_cases c1 : id ∈ p
      · simp only [dT c1, cnd_t, z, cnd_f]
      simp only [dF c1, cnd_f]
      by_cases c2 : id < 1
      · simp only [dT c2, cnd_t, z, cnd_f]
      simp only [dF c2, cnd_f]
      by_cases c3 : 8 < id
      · simp only [dT c3, cnd_t, z, cnd_f]
      simp only [dF c3, cnd_f]
      have c4 : (10 : Int) ≤ p.length := by
        by_cases h : (10 : Int) ≤ p.length
        · exact h
        · exact absurd (hm.2 ⟨by omega, by omega, by omega, c1⟩) hv
      simp only [dT c4, w5, z, cnd_f]
def NN : Nat := 100
theorem law_true (y0 : List Int) (h0 : Twf (.list (.int .u8)) y0) : W_law2_PathOnce NN y0 = some true := law_aux 100 (by omega) y0 h0

theorem spec (y0 : List Int) (h0 : Twf (.list (.int .u8)) y0) : Spec2 P0 4 [valW (.list (.int .u8)) y0] [] (.bs true) [] [] := (con_law2_PathOnce_ok NN).2 y0 true (law_true y0 h0)
theorem lifted (os : Os) (started : os.Started) (H : Type) (enc : TypeId × Value → H) :
    ReturnsInHanded {} Try.checked os 4 .any (Rows.pathOnceSpec.pre6 enc Try.prog Try.f4 Rows.pathOnceRow.domain false) (Rows.pathOnceSpec.post enc Try.prog Try.f4 false true false false) := by
  refine returnsInHanded_of_change (C := Try.checked) own started (by kernel_rfl) Try.func4
    (ChangeSpec.witness6 (enc := enc) (C := Try.checked) false ⟨#[], #[.slice none 0 0], []⟩ 8 (by kernel_rfl) (by kernel_rfl) (by kernel_rfl) (by kernel_rfl)) ?_
  intro W base args ds gs before hval0 hW hcnd _
  have hval : ∀ (j : Nat) t v, Try.f4.params[j]? = some t → args[j]? = some v → Value.okWide Try.prog W .any base t v := hval0
  have hW' := hW
  obtain ⟨p, q, hA0, hV, rfl, hfz, hnd⟩ := hW
  have hA : DataW.TrodAll enc Try.prog W 0 (fun _ => true) true Try.f4.params.toList args.toList ds p := hA0
  rw [Try.params4] at hA hval
  obtain ⟨v0, vs0, d0, ds0, p0, q0, hargs, rfl, rfl, h0, r0⟩ := trodAll_cons hA
  obtain ⟨rfl, rfl, rfl⟩ := trodAll_nil r0
  obtain rfl : args = #[v0] := by cases args; simp_all
  obtain ⟨rfl, rfl⟩ := trodVars_none hV
  have k0 := h0
  have lt0 : ∀ x ∈ p0, x.block < W.heap.size := by obtain ⟨m, hm⟩ := k0; exact DataW.trod_lt m _ _ _ hm
  obtain ⟨y0, rp0, wf0⟩ := arg_ok (n := 12) (ty := (.list (.int .u8))) (by kernel_rfl) (hval 0 _ v0 rfl rfl) h0
  clear hA0 hval0
  refine (law_of2 (spec y0 wf0) W #[v0] (.cons rp0 .nil)).mono fun e W' ⟨he, bel⟩ => ?_
  subst he
  exact ⟨_, rfl, _, _, _, [], _, [], hW', trodAll_mk1 (shut_bool Try.underlying4 _), (trodAll_cons_mk (Below.trod laidOut (by kernel_rfl) (of_decide_eq_true (by kernel_rfl)) k0 bel lt0) trodAll_mk0), rfl, bel.frame _, fun h => by cases h⟩

theorem over : Rows.pathOnceRow.holds Try.pinned (OpenSpec.ofChange Rows.pathOnceSpec) :=
  OpenClaim.holds_of_wide 4 Try.f4 rfl rfl rfl rfl rfl rfl rfl ⟨rfl, rfl, rfl, rfl, rfl⟩ rfl rfl rfl rfl rfl (by kernel_rfl) Try.func4 (by kernel_rfl)
    (of_decide_eq_true (by kernel_rfl)) (by unfold Func.isWrapper; first | (rw [if_pos (by decide +kernel)]; kernel_rfl) | (rw [if_neg (by decide +kernel)]; exact ⟨rfl, rfl⟩))
    (fun os started H enc _ => lifted os started H enc)

theorem holds : Rows.PathOnceSaid := over
end Go.Proofs.Ytfiiigeigiaaeaa.pathOnceX
