/- CrcAll: for all arguments the call returns true. The law is brought to a function of Lean's own (W_..) by the machine of the texts beside it, and that is reckoned; no condition. -/
import Derived.Test.YtfiiigeigiaaeaaExtL
import Derived.Test.YtfiiigeigiaaeaaRows
import Derived.WalkKit
import Derived.ProofKit
import Derived.OpenShut
import Derived.ShutString
import Derived.ChangeOld
import Derived.Below
namespace Go.Proofs.Ytfiiigeigiaaeaa.crcAllX
open Go.Abs Go.RowKit Go.ChangeShapes Go.WideShapes Go.ChangeAt
set_option maxRecDepth 100000
set_option linter.unusedVariables false
set_option linter.unusedSimpArgs false
noncomputable abbrev P0 : Program := Try.prog
noncomputable def bodyOf (fn : Func) : Code := fn.body.getD .skip
def L0 : Lend := fun f => aget [] [] f
def kpL (l : List Bool) : Nat → Bool := fun j => l.getD j true
theorem own : ownKnob Try.prog.godebug = none := by kernel_rfl
theorem laidOut : laidOutB Try.prog = true := by kernel_rfl
theorem mixed : P0.follows .mixedOrders = true := by decide +kernel
theorem progOk_ : progOk P0 = true := by decide +kernel
noncomputable def con_law10_begun (N : Nat) : Con := ⟨49, [], [], Unit, fun _ => some (), fun _ => (.bs true, [], [])⟩
theorem con_law10_begun_ok (N : Nat) : Con.ok P0 (con_law10_begun N) := closed_con2 (nonJ_ok _) mixed progOk_ (noneΞ_ok2 _) (inl := [16,17,41,56,58,64,72,91]) (breath := 100000) (n := 60) (by kernel_rfl)
def as_crc_step : List AS := [.val (.int .u32), .val (.int .i32)]
def bs_crc_step : List BS := []
def pout_crc_step : Pat := ⟨[(4, .val (.int .u32))], []⟩
noncomputable def G_crc_step  (N : Nat) : OrcT := orcOf []
noncomputable def F_crc_step  (N : Nat) (x : Int × Int) : Option (Int) :=
  (evT (G_crc_step  N) L0 P0 [(3, .loop [] ⟨[(0, .val (.int .u32)), (10, .val (.int .i64))], []⟩ [(.exit 0, ⟨[(0, .val (.int .u32))], []⟩)])]
    [] N 400 (bodyOf Try.f69) ⟨22, slots 0 (argsOf as_crc_step bs_crc_step x), tabU (lbOf as_crc_step bs_crc_step x) [], []⟩).elim (kRet 22 pout_crc_step (kpL []) (lbOf as_crc_step bs_crc_step x))
def out_crc_step (y : Int) : V × List OK × List OK := (valW (.int .u32) y, [], [])
noncomputable def V_crc_step  (N : Nat) (x : Int × Int) : Option (Int) :=
  obind
    (loopN N
      (fun (v : Int × Int) =>
        cnd (decide (Prod.snd v < (8 : Int)))
          (cnd
            (decide
              (wr IntKind.u32
                  (↑(BitVec.toNat (BitVec.ofInt (32 : Nat) (Prod.fst v) &&& BitVec.ofInt (32 : Nat) (1 : Int))) : Int) =
                (1 : Int)))
            (some
              (Sum.inl
                (wr IntKind.u32
                    (↑(BitVec.toNat
                        (BitVec.ofInt (32 : Nat) (Int.fdiv (Prod.fst v) ((2 : Int) ^ (1 : Nat))) ^^^
                          BitVec.ofInt (32 : Nat) (3988292384 : Int))) : Int),
                  wr IntKind.i64 (Prod.snd v + (1 : Int)))))
            (some (Sum.inl (Int.fdiv (Prod.fst v) ((2 : Int) ^ (1 : Nat)), wr IntKind.i64 (Prod.snd v + (1 : Int))))))
          (some (Sum.inr (Prod.fst v))))
      (wr IntKind.u32
          (↑(BitVec.toNat
              (BitVec.ofInt (32 : Nat) (Prod.fst x) ^^^ BitVec.ofInt (32 : Nat) (wr IntKind.u32 (Prod.snd x)))) : Int),
        (0 : Int)))
    fun (b : Int) => some b
theorem FV_crc_step_eq  (N : Nat) (x : Int × Int) : F_crc_step  N x = V_crc_step  N x := by kernel_rfl
noncomputable def W_crc_step (N : Nat) (x : Int × Int) : Option (Int) :=
  obind
    (loopN N
      (fun (v : Int × Int) =>
        cnd (decide (Prod.snd v < (8 : Int)))
          (cnd
            (decide
              (wr IntKind.u32
                  (↑(BitVec.toNat (BitVec.ofInt (32 : Nat) (Prod.fst v) &&& BitVec.ofInt (32 : Nat) (1 : Int))) : Int) =
                (1 : Int)))
            (some
              (Sum.inl
                (wr IntKind.u32
                    (↑(BitVec.toNat
                        (BitVec.ofInt (32 : Nat) (Int.fdiv (Prod.fst v) ((2 : Int) ^ (1 : Nat))) ^^^
                          BitVec.ofInt (32 : Nat) (3988292384 : Int))) : Int),
                  wr IntKind.i64 (Prod.snd v + (1 : Int)))))
            (some (Sum.inl (Int.fdiv (Prod.fst v) ((2 : Int) ^ (1 : Nat)), wr IntKind.i64 (Prod.snd v + (1 : Int))))))
          (some (Sum.inr (Prod.fst v))))
      (wr IntKind.u32
          (↑(BitVec.toNat
              (BitVec.ofInt (32 : Nat) (Prod.fst x) ^^^ BitVec.ofInt (32 : Nat) (wr IntKind.u32 (Prod.snd x)))) : Int),
        (0 : Int)))
    fun (b : Int) => some b
theorem F_crc_step_eq (N : Nat) (x : Int × Int) : F_crc_step  N x = W_crc_step N x := (FV_crc_step_eq  N x).trans (by kernel_rfl)
noncomputable def conw_crc_step (w : Int × Int → Option (Int)) : Con := ⟨69, as_crc_step, bs_crc_step, Int, w, out_crc_step⟩
noncomputable def con_crc_step (N : Nat) : Con := conw_crc_step (W_crc_step N)
theorem R_crc_step_eq (x : Int × Int) (y : Int) : retOf2 P0 Try.f69 (kpL []) (lbOf as_crc_step bs_crc_step x) (patS ⟨22, [], [], []⟩ pout_crc_step y) = some (out_crc_step y) := by kernel_rfl
theorem con_crc_step_ok (N : Nat) : Con.ok P0 (con_crc_step N) := ⟨⟨Try.f69, Try.func69, by kernel_rfl, by kernel_rfl⟩, fun (x : Int × Int) (r : Int) (hr : W_crc_step N x = some r) =>
  spec2_evT (Γ := G_crc_step N) (Λ := L0) (pout := pout_crc_step) (kp := kpL []) mixed (orcOf_ok [] (by simp)) Try.func69 (c := bodyOf Try.f69) (by kernel_rfl) (by kernel_rfl) (of_decide_eq_true (by kernel_rfl)) ((F_crc_step_eq N x).trans hr) (R_crc_step_eq x r)⟩
def as_crc_Sum : List AS := [.val (.list (.int .u8))]
def bs_crc_Sum : List BS := []
def pout_crc_Sum : Pat := ⟨[(2, .val (.int .u32))], []⟩
noncomputable def G_crc_Sum (w_crc_step : Int × Int → Option (Int)) (N : Nat) : OrcT := orcOf [conw_crc_step w_crc_step]
noncomputable def F_crc_Sum (w_crc_step : Int × Int → Option (Int)) (N : Nat) (x : List Int) : Option (Int) :=
  (evT (G_crc_Sum w_crc_step N) L0 P0 [(3, .loop [6] ⟨[(3, .val (.int .u32)), (8, .val (.int .i64))], []⟩ [(.exit 0, ⟨[(3, .val (.int .u32))], []⟩)])]
    [] N 400 (bodyOf Try.f50) ⟨19, slots 0 (argsOf as_crc_Sum bs_crc_Sum x), tabU (lbOf as_crc_Sum bs_crc_Sum x) [], []⟩).elim (kRet 19 pout_crc_Sum (kpL []) (lbOf as_crc_Sum bs_crc_Sum x))
def out_crc_Sum (y : Int) : V × List OK × List OK := (valW (.int .u32) y, [], [])
noncomputable def V_crc_Sum (w_crc_step : Int × Int → Option (Int)) (N : Nat) (x : List Int) : Option (Int) :=
  obind
    (loopN N
      (fun (v : Int × Int) =>
        cnd (decide (Prod.snd v < (↑(List.length x) : Int)))
          (cnd (decide ((0 : Int) ≤ Prod.snd v) && decide (Prod.snd v < (↑(List.length x) : Int)))
            (obind (w_crc_step (Prod.fst v, wr IntKind.i32 (List.getD x (Int.toNat (Prod.snd v)) (0 : Int))))
              fun (b : Int) => some (Sum.inl (b, wr IntKind.i64 (Prod.snd v + (1 : Int)))))
            none)
          (some (Sum.inr (Prod.fst v))))
      ((4294967295 : Int), (0 : Int)))
    fun (b : Int) =>
    some
      (wr IntKind.u32 (↑(BitVec.toNat (BitVec.ofInt (32 : Nat) (IntKind.max IntKind.u32) ^^^ BitVec.ofInt (32 : Nat) b)) : Int))
theorem FV_crc_Sum_eq (w_crc_step : Int × Int → Option (Int)) (N : Nat) (x : List Int) : F_crc_Sum w_crc_step N x = V_crc_Sum w_crc_step N x := by kernel_rfl
noncomputable def W_crc_Sum (N : Nat) (x : List Int) : Option (Int) :=
  obind
    (loopN N
      (fun (v : Int × Int) =>
        cnd (decide (Prod.snd v < (↑(List.length x) : Int)))
          (cnd (decide ((0 : Int) ≤ Prod.snd v) && decide (Prod.snd v < (↑(List.length x) : Int)))
            (obind (W_crc_step N (Prod.fst v, wr IntKind.i32 (List.getD x (Int.toNat (Prod.snd v)) (0 : Int))))
              fun (b : Int) => some (Sum.inl (b, wr IntKind.i64 (Prod.snd v + (1 : Int)))))
            none)
          (some (Sum.inr (Prod.fst v))))
      ((4294967295 : Int), (0 : Int)))
    fun (b : Int) =>
    some
      (wr IntKind.u32 (↑(BitVec.toNat (BitVec.ofInt (32 : Nat) (IntKind.max IntKind.u32) ^^^ BitVec.ofInt (32 : Nat) b)) : Int))
theorem F_crc_Sum_eq (N : Nat) (x : List Int) : F_crc_Sum (W_crc_step N) N x = W_crc_Sum N x := (FV_crc_Sum_eq (W_crc_step N) N x).trans (by kernel_rfl)
noncomputable def conw_crc_Sum (w : List Int → Option (Int)) : Con := ⟨50, as_crc_Sum, bs_crc_Sum, Int, w, out_crc_Sum⟩
noncomputable def con_crc_Sum (N : Nat) : Con := conw_crc_Sum (W_crc_Sum N)
theorem R_crc_Sum_eq (x : List Int) (y : Int) : retOf2 P0 Try.f50 (kpL []) (lbOf as_crc_Sum bs_crc_Sum x) (patS ⟨19, [], [], []⟩ pout_crc_Sum y) = some (out_crc_Sum y) := by kernel_rfl
theorem con_crc_Sum_ok (N : Nat) : Con.ok P0 (con_crc_Sum N) := ⟨⟨Try.f50, Try.func50, by kernel_rfl, by kernel_rfl⟩, fun (x : List Int) (r : Int) (hr : W_crc_Sum N x = some r) =>
  spec2_evT (Γ := G_crc_Sum (W_crc_step N) N) (Λ := L0) (pout := pout_crc_Sum) (kp := kpL []) mixed (orcOf_ok _ (by simp only [List.mem_cons, List.not_mem_nil, or_false, forall_eq_or_imp, forall_eq]; exact con_crc_step_ok N)) Try.func50 (c := bodyOf Try.f50) (by kernel_rfl) (by kernel_rfl) (of_decide_eq_true (by kernel_rfl)) ((F_crc_Sum_eq N x).trans hr) (R_crc_Sum_eq x r)⟩
def as_ref10_Sum : List AS := [.val (.list (.int .u8))]
def bs_ref10_Sum : List BS := []
def pout_ref10_Sum : Pat := ⟨[(2, .val (.int .u32))], []⟩
noncomputable def G_ref10_Sum  (N : Nat) : OrcT := orcOf []
noncomputable def F_ref10_Sum  (N : Nat) (x : List Int) : Option (Int) :=
  (evT (G_ref10_Sum  N) L0 P0 [(7, .loop [] ⟨[(3, .val (.int .u32)), (5, .val (.int .i64))], []⟩ [(.exit 2, ⟨[(3, .val (.int .u32))], []⟩)]),
    (3, .loop [] ⟨[(3, .val (.int .u32)), (4, .val (.int .i64))], []⟩ [(.exit 0, ⟨[(3, .val (.int .u32))], []⟩)])]
    [] N 400 (bodyOf Try.f51) ⟨33, slots 0 (argsOf as_ref10_Sum bs_ref10_Sum x), tabU (lbOf as_ref10_Sum bs_ref10_Sum x) [], []⟩).elim (kRet 33 pout_ref10_Sum (kpL []) (lbOf as_ref10_Sum bs_ref10_Sum x))
def out_ref10_Sum (y : Int) : V × List OK × List OK := (valW (.int .u32) y, [], [])
noncomputable def V_ref10_Sum  (N : Nat) (x : List Int) : Option (Int) :=
  obind
    (loopN N
      (fun (v : Int × Int) =>
        cnd (decide (Prod.snd v < (↑(List.length x) : Int)))
          (cnd (decide ((0 : Int) ≤ Prod.snd v) && decide (Prod.snd v < (↑(List.length x) : Int)))
            (obind
              (loopN N
                (fun (v : Int × Int) =>
                  cnd (decide (Prod.snd v < (8 : Int)))
                    (cnd (decide (Int.tmod (Prod.fst v) (2 : Int) = (1 : Int)))
                      (some
                        (Sum.inl
                          (wr IntKind.u32
                              (↑(BitVec.toNat
                                  (BitVec.ofInt (32 : Nat) (wr IntKind.u32 (Int.tdiv (Prod.fst v) (2 : Int))) ^^^
                                    BitVec.ofInt (32 : Nat) (3988292384 : Int))) : Int),
                            wr IntKind.i64 (Prod.snd v + (1 : Int)))))
                      (some
                        (Sum.inl
                          (wr IntKind.u32 (Int.tdiv (Prod.fst v) (2 : Int)), wr IntKind.i64 (Prod.snd v + (1 : Int))))))
                    (some (Sum.inr (Prod.fst v))))
                (wr IntKind.u32
                    (↑(BitVec.toNat
                        (BitVec.ofInt (32 : Nat) (Prod.fst v) ^^^
                          BitVec.ofInt (32 : Nat) (wr IntKind.u32 (List.getD x (Int.toNat (Prod.snd v)) (0 : Int))))) : Int),
                  (0 : Int)))
              fun (b : Int) => some (Sum.inl (b, wr IntKind.i64 (Prod.snd v + (1 : Int)))))
            none)
          (some (Sum.inr (Prod.fst v))))
      ((4294967295 : Int), (0 : Int)))
    fun (b : Int) =>
    some
      (wr IntKind.u32 (↑(BitVec.toNat (BitVec.ofInt (32 : Nat) (IntKind.max IntKind.u32) ^^^ BitVec.ofInt (32 : Nat) b)) : Int))
theorem FV_ref10_Sum_eq  (N : Nat) (x : List Int) : F_ref10_Sum  N x = V_ref10_Sum  N x := by kernel_rfl
noncomputable def W_ref10_Sum (N : Nat) (x : List Int) : Option (Int) :=
  obind
    (loopN N
      (fun (v : Int × Int) =>
        cnd (decide (Prod.snd v < (↑(List.length x) : Int)))
          (cnd (decide ((0 : Int) ≤ Prod.snd v) && decide (Prod.snd v < (↑(List.length x) : Int)))
            (obind
              (loopN N
                (fun (v : Int × Int) =>
                  cnd (decide (Prod.snd v < (8 : Int)))
                    (cnd (decide (Int.tmod (Prod.fst v) (2 : Int) = (1 : Int)))
                      (some
                        (Sum.inl
                          (wr IntKind.u32
                              (↑(BitVec.toNat
                                  (BitVec.ofInt (32 : Nat) (wr IntKind.u32 (Int.tdiv (Prod.fst v) (2 : Int))) ^^^
                                    BitVec.ofInt (32 : Nat) (3988292384 : Int))) : Int),
                            wr IntKind.i64 (Prod.snd v + (1 : Int)))))
                      (some
                        (Sum.inl
                          (wr IntKind.u32 (Int.tdiv (Prod.fst v) (2 : Int)), wr IntKind.i64 (Prod.snd v + (1 : Int))))))
                    (some (Sum.inr (Prod.fst v))))
                (wr IntKind.u32
                    (↑(BitVec.toNat
                        (BitVec.ofInt (32 : Nat) (Prod.fst v) ^^^
                          BitVec.ofInt (32 : Nat) (wr IntKind.u32 (List.getD x (Int.toNat (Prod.snd v)) (0 : Int))))) : Int),
                  (0 : Int)))
              fun (b : Int) => some (Sum.inl (b, wr IntKind.i64 (Prod.snd v + (1 : Int)))))
            none)
          (some (Sum.inr (Prod.fst v))))
      ((4294967295 : Int), (0 : Int)))
    fun (b : Int) =>
    some
      (wr IntKind.u32 (↑(BitVec.toNat (BitVec.ofInt (32 : Nat) (IntKind.max IntKind.u32) ^^^ BitVec.ofInt (32 : Nat) b)) : Int))
theorem F_ref10_Sum_eq (N : Nat) (x : List Int) : F_ref10_Sum  N x = W_ref10_Sum N x := (FV_ref10_Sum_eq  N x).trans (by kernel_rfl)
noncomputable def conw_ref10_Sum (w : List Int → Option (Int)) : Con := ⟨51, as_ref10_Sum, bs_ref10_Sum, Int, w, out_ref10_Sum⟩
noncomputable def con_ref10_Sum (N : Nat) : Con := conw_ref10_Sum (W_ref10_Sum N)
theorem R_ref10_Sum_eq (x : List Int) (y : Int) : retOf2 P0 Try.f51 (kpL []) (lbOf as_ref10_Sum bs_ref10_Sum x) (patS ⟨33, [], [], []⟩ pout_ref10_Sum y) = some (out_ref10_Sum y) := by kernel_rfl
theorem con_ref10_Sum_ok (N : Nat) : Con.ok P0 (con_ref10_Sum N) := ⟨⟨Try.f51, Try.func51, by kernel_rfl, by kernel_rfl⟩, fun (x : List Int) (r : Int) (hr : W_ref10_Sum N x = some r) =>
  spec2_evT (Γ := G_ref10_Sum N) (Λ := L0) (pout := pout_ref10_Sum) (kp := kpL []) mixed (orcOf_ok [] (by simp)) Try.func51 (c := bodyOf Try.f51) (by kernel_rfl) (by kernel_rfl) (of_decide_eq_true (by kernel_rfl)) ((F_ref10_Sum_eq N x).trans hr) (R_ref10_Sum_eq x r)⟩
def as_law10_CrcAll : List AS := [.val (.list (.int .u8))]
def bs_law10_CrcAll : List BS := []
def pout_law10_CrcAll : Pat := ⟨[(2, .val .bool)], []⟩
noncomputable def G_law10_CrcAll (w_crc_Sum : List Int → Option (Int)) (w_ref10_Sum : List Int → Option (Int)) (N : Nat) : OrcT := orcOf [con_law10_begun N, conw_crc_Sum w_crc_Sum, conw_ref10_Sum w_ref10_Sum]
noncomputable def F_law10_CrcAll (w_crc_Sum : List Int → Option (Int)) (w_ref10_Sum : List Int → Option (Int)) (N : Nat) (x : List Int) : Option (Bool) :=
  (evT (G_law10_CrcAll w_crc_Sum w_ref10_Sum N) L0 P0 []
    [] N 400 (bodyOf Try.f11) ⟨15, slots 0 (argsOf as_law10_CrcAll bs_law10_CrcAll x), tabU (lbOf as_law10_CrcAll bs_law10_CrcAll x) [], []⟩).elim (kRet 15 pout_law10_CrcAll (kpL []) (lbOf as_law10_CrcAll bs_law10_CrcAll x))
def out_law10_CrcAll (y : Bool) : V × List OK × List OK := (valW .bool y, [], [])
noncomputable def V_law10_CrcAll (w_crc_Sum : List Int → Option (Int)) (w_ref10_Sum : List Int → Option (Int)) (N : Nat) (x : List Int) : Option (Bool) :=
  cnd (decide ((300 : Int) < (↑(List.length x) : Int))) (some true)
    (obind (w_crc_Sum x) fun (b : Int) => obind (w_ref10_Sum x) fun (b_1 : Int) => some (decide (b = b_1)))
theorem FV_law10_CrcAll_eq (w_crc_Sum : List Int → Option (Int)) (w_ref10_Sum : List Int → Option (Int)) (N : Nat) (x : List Int) : F_law10_CrcAll w_crc_Sum w_ref10_Sum N x = V_law10_CrcAll w_crc_Sum w_ref10_Sum N x := by kernel_rfl
noncomputable def W_law10_CrcAll (N : Nat) (x : List Int) : Option (Bool) :=
  cnd (decide ((300 : Int) < (↑(List.length x) : Int))) (some true)
    (obind (W_crc_Sum N x) fun (b : Int) => obind (W_ref10_Sum N x) fun (b_1 : Int) => some (decide (b = b_1)))
theorem F_law10_CrcAll_eq (N : Nat) (x : List Int) : F_law10_CrcAll (W_crc_Sum N) (W_ref10_Sum N) N x = W_law10_CrcAll N x := (FV_law10_CrcAll_eq (W_crc_Sum N) (W_ref10_Sum N) N x).trans (by kernel_rfl)
noncomputable def conw_law10_CrcAll (w : List Int → Option (Bool)) : Con := ⟨11, as_law10_CrcAll, bs_law10_CrcAll, Bool, w, out_law10_CrcAll⟩
noncomputable def con_law10_CrcAll (N : Nat) : Con := conw_law10_CrcAll (W_law10_CrcAll N)
theorem R_law10_CrcAll_eq (x : List Int) (y : Bool) : retOf2 P0 Try.f11 (kpL []) (lbOf as_law10_CrcAll bs_law10_CrcAll x) (patS ⟨15, [], [], []⟩ pout_law10_CrcAll y) = some (out_law10_CrcAll y) := by kernel_rfl
theorem con_law10_CrcAll_ok (N : Nat) : Con.ok P0 (con_law10_CrcAll N) := ⟨⟨Try.f11, Try.func11, by kernel_rfl, by kernel_rfl⟩, fun (x : List Int) (r : Bool) (hr : W_law10_CrcAll N x = some r) =>
  spec2_evT (Γ := G_law10_CrcAll (W_crc_Sum N) (W_ref10_Sum N) N) (Λ := L0) (pout := pout_law10_CrcAll) (kp := kpL []) mixed (orcOf_ok _ (by simp only [List.mem_cons, List.not_mem_nil, or_false, forall_eq_or_imp, forall_eq]; exact ⟨con_law10_begun_ok N, con_crc_Sum_ok N, con_ref10_Sum_ok N⟩)) Try.func11 (c := bodyOf Try.f11) (by kernel_rfl) (by kernel_rfl) (of_decide_eq_true (by kernel_rfl)) ((F_law10_CrcAll_eq N x).trans hr) (R_law10_CrcAll_eq x r)⟩
/-! What is reckoned. -/
theorem wr_s {z : Int} (h : 0 ≤ z) (h2 : z ≤ 140737488355328) : wr .i64 z = z := wr_i64 (by omega) (by omega)
theorem wr_u32 {z : Int} (h : 0 ≤ z) (h2 : z ≤ 4294967295) : wr .u32 z = z := by
  have e1 : lo .u32 = 0 := by rfl
  have e2 : hi .u32 = 4294967295 := by rfl
  unfold wr
  rw [if_pos ⟨by omega, by omega⟩]
theorem wr_i32 {z : Int} (h : -2147483648 ≤ z) (h2 : z ≤ 2147483647) : wr .i32 z = z := by
  have e1 : lo .i32 = -2147483648 := by rfl
  have e2 : hi .i32 = 2147483647 := by rfl
  unfold wr
  rw [if_pos ⟨by omega, by omega⟩]
theorem getD_memI {l : List Int} {j : Nat} (h : j < l.length) : l.getD j 0 ∈ l := by
  rw [List.getD_eq_getElem?_getD, List.getElem?_eq_getElem h]; exact List.getElem_mem h
/-- Exclusive or. -/
def X (a b : Int) : Int := ((BitVec.ofInt 32 a ^^^ BitVec.ofInt 32 b).toNat : Int)
theorem X_rng (a b : Int) : 0 ≤ X a b ∧ X a b ≤ 4294967295 := by
  unfold X
  have := (BitVec.ofInt 32 a ^^^ BitVec.ofInt 32 b).isLt
  omega
theorem X_wr (a b : Int) : wr .u32 ((BitVec.ofInt 32 a ^^^ BitVec.ofInt 32 b).toNat : Int) = X a b := wr_u32 (X_rng a b).1 (X_rng a b).2
theorem and_one (v : Int) (h : 0 ≤ v) (h2 : v ≤ 4294967295) : wr .u32 ((BitVec.ofInt 32 v &&& BitVec.ofInt 32 1).toNat : Int) = v % 2 := by
  have e : (BitVec.ofInt 32 v &&& BitVec.ofInt 32 1).toNat = (v % 2).toNat := by
    rw [BitVec.toNat_and, BitVec.toNat_ofInt, BitVec.toNat_ofInt]
    have e1 : ((1 : Int) % ((2 ^ 32 : Nat) : Int)).toNat = 1 := by decide
    have e2 : (v % ((2 ^ 32 : Nat) : Int)).toNat = v.toNat := by
      have : v % ((2 ^ 32 : Nat) : Int) = v := Int.emod_eq_of_lt h (by omega)
      rw [this]
    rw [e1, e2, Nat.and_one_is_mod]
    omega
  rw [e, wr_u32 (by omega) (by omega)]
  omega
def s1 (c : Int) : Int := if c % 2 = 1 then X (c / 2) 3988292384 else c / 2
theorem s1_rng {c : Int} (h : 0 ≤ c) (h2 : c ≤ 4294967295) : 0 ≤ s1 c ∧ s1 c ≤ 4294967295 := by
  unfold s1
  split
  · exact X_rng _ _
  · omega
def s1n : Nat → Int → Int
  | 0, c => c
  | n + 1, c => s1 (s1n n c)
theorem s1n_rng {c : Int} (h : 0 ≤ c) (h2 : c ≤ 4294967295) : ∀ n, 0 ≤ s1n n c ∧ s1n n c ≤ 4294967295
  | 0 => ⟨h, h2⟩
  | n + 1 => s1_rng (s1n_rng h h2 n).1 (s1n_rng h h2 n).2
/-- Eight times. -/
theorem loop8 {N : Nat} (hN : 9 ≤ N) {f : Int × Int → Option ((Int × Int) ⊕ Int)} {c : Int} (h : 0 ≤ c) (h2 : c ≤ 4294967295) (hf : ∀ v : Int × Int, 0 ≤ v.1 → v.1 ≤ 4294967295 → 0 ≤ v.2 → v.2 < 8 → f v = some (.inl (s1 v.1, v.2 + 1)))
    (he : ∀ v : Int × Int, ¬ v.2 < 8 → f v = some (.inr v.1)) : loopN N f (c, 0) = some (s1n 8 c) := by
  obtain ⟨r, h1, h3⟩ := loopN_run (N := N) (f := f) (x := (c, 0)) (fun v => 0 ≤ v.2 ∧ v.2 ≤ 8 ∧ v.1 = s1n v.2.toNat c) (fun v => 8 - v.2.toNat) (fun r => r = s1n 8 c) (fun v ⟨g1, g2, g3⟩ => by
    by_cases hv : v.2 < 8
    · left
      have hr := s1n_rng h h2 v.2.toNat
      rw [hf v (by omega) (by omega) g1 hv]
      refine ⟨_, rfl, ⟨by simp only; omega, by simp only; omega, ?_⟩, by simp only; omega⟩
      simp only
      rw [show (v.2 + 1).toNat = v.2.toNat + 1 by omega, g3]; rfl
    · right
      rw [he v hv]
      refine ⟨_, rfl, ?_⟩
      rw [g3, show v.2.toNat = 8 by omega]) ⟨by simp, by simp, rfl⟩ (by simp; omega)
  rw [h1, h3]
def fold (c : Int) (l : List Int) : Int := l.foldl (fun c b => s1n 8 (X c b)) c
theorem fold_snoc (c : Int) (l : List Int) (b : Int) : fold c (l ++ [b]) = s1n 8 (X (fold c l) b) := by simp [fold]
theorem fold_rng {c : Int} (h : 0 ≤ c) (h2 : c ≤ 4294967295) : ∀ l : List Int, 0 ≤ fold c l ∧ fold c l ≤ 4294967295 := by
  intro l
  induction l generalizing c with
  | nil => exact ⟨h, h2⟩
  | cons b r ih =>
    have hx := X_rng c b
    have := s1n_rng hx.1 hx.2 8
    exact ih this.1 this.2
/-- All bytes. -/
theorem loopB {N : Nat} {x : List Int} (hN : x.length < N) {f : Int × Int → Option ((Int × Int) ⊕ Int)} (hf : ∀ v : Int × Int, 0 ≤ v.1 → v.1 ≤ 4294967295 → 0 ≤ v.2 → v.2 < x.length → f v = some (.inl (s1n 8 (X v.1 (x.getD v.2.toNat 0)), v.2 + 1)))
    (he : ∀ v : Int × Int, ¬ v.2 < x.length → f v = some (.inr v.1)) : loopN N f (4294967295, 0) = some (fold 4294967295 x) := by
  obtain ⟨r, h1, h3⟩ := loopN_run (N := N) (f := f) (x := (4294967295, 0)) (fun v => 0 ≤ v.2 ∧ v.2 ≤ x.length ∧ v.1 = fold 4294967295 (x.take v.2.toNat)) (fun v => x.length - v.2.toNat) (fun r => r = fold 4294967295 x) (fun v ⟨g1, g2, g3⟩ => by
    by_cases hv : v.2 < x.length
    · left
      have hr := fold_rng (c := 4294967295) (by omega) (by omega) (x.take v.2.toNat)
      rw [hf v (by omega) (by omega) g1 hv]
      refine ⟨_, rfl, ⟨by simp only; omega, by simp only; omega, ?_⟩, by simp only; omega⟩
      simp only
      have hl : v.2.toNat < x.length := by omega
      have e : x.take (v.2.toNat + 1) = x.take v.2.toNat ++ [x.getD v.2.toNat 0] := by
        rw [List.getD_eq_getElem?_getD, List.getElem?_eq_getElem hl]
        simp
      rw [show (v.2 + 1).toNat = v.2.toNat + 1 by omega, e, fold_snoc, g3]
    · right
      rw [he v hv]
      refine ⟨_, rfl, ?_⟩
      rw [g3, List.take_of_length_le (by omega)]) ⟨by simp, by simp, rfl⟩ (by simp; omega)
  rw [h1, h3]
theorem obind_self {α : Type} (m : Option α) : obind m (fun b => some b) = m := by cases m <;> rfl
theorem step_eq (N : Nat) (hN : 9 ≤ N) (c b : Int) (hb : 0 ≤ b ∧ b ≤ 255) : W_crc_step N (c, b) = some (s1n 8 (X c b)) := by
  unfold W_crc_step
  simp only
  rw [obind_self, wr_u32 (z := b) (by omega) (by omega), X_wr]
  refine loop8 hN (X_rng c b).1 (X_rng c b).2 (fun v g1 g2 g3 g4 => ?_) (fun v h => by rw [dF h, cnd_f])
  rw [dT g4, cnd_t, and_one _ g1 g2, X_wr, wr_s (by omega) (by omega)]
  have e : Int.fdiv v.1 ((2 : Int) ^ 1) = v.1 / 2 := Int.fdiv_eq_ediv_of_nonneg _ (by decide)
  rw [e]
  unfold s1
  by_cases h : v.1 % 2 = 1
  · rw [dT h, cnd_t, if_pos h]
  · rw [dF h, cnd_f, if_neg h]
theorem Sum_eq (N : Nat) (x : List Int) (hN : 9 ≤ N) (hx : x.length < N) (hl : x.length ≤ 1000000) (h : ∀ b ∈ x, 0 ≤ b ∧ b ≤ 255) : W_crc_Sum N x = some (X (IntKind.max .u32) (fold 4294967295 x)) := by
  unfold W_crc_Sum
  rw [loopB hx (fun v g1 g2 g3 g4 => ?_) (fun v h => by rw [dF h, cnd_f]), obind_s, X_wr]
  have hb := h _ (getD_memI (l := x) (j := v.2.toNat) (by omega))
  rw [dT g4, cnd_t, dT g3, Bool.and_self, cnd_t, wr_i32 (by omega) (by omega), step_eq N hN _ _ hb, obind_s, wr_s (by omega) (by omega)]
theorem rSum_eq (N : Nat) (x : List Int) (hN : 9 ≤ N) (hx : x.length < N) (hl : x.length ≤ 1000000) (h : ∀ b ∈ x, 0 ≤ b ∧ b ≤ 255) : W_ref10_Sum N x = some (X (IntKind.max .u32) (fold 4294967295 x)) := by
  unfold W_ref10_Sum
  rw [loopB hx (fun v g1 g2 g3 g4 => ?_) (fun v h => by rw [dF h, cnd_f]), obind_s, X_wr]
  have hb := h _ (getD_memI (l := x) (j := v.2.toNat) (by omega))
  rw [dT g4, cnd_t, dT g3, Bool.and_self, cnd_t, wr_u32 (z := x.getD v.2.toNat 0) (by omega) (by omega), X_wr, loop8 hN (X_rng _ _).1 (X_rng _ _).2 (fun w k1 k2 k3 k4 => ?_) (fun v h => by rw [dF h, cnd_f]), obind_s, wr_s (by omega) (by omega)]
  have e : Int.tdiv w.1 2 = w.1 / 2 := Int.tdiv_eq_ediv_of_nonneg k1
  have e2 : Int.tmod w.1 2 = w.1 % 2 := Int.tmod_eq_emod_of_nonneg k1
  rw [dT k4, cnd_t, e, e2, wr_u32 (z := w.1 / 2) (by omega) (by omega), X_wr, wr_s (by omega) (by omega)]
  unfold s1
  by_cases h : w.1 % 2 = 1
  · rw [dT h, cnd_t, if_pos h]
  · rw [dF h, cnd_f, if_neg h]
def NN : Nat := 400
theorem law_aux (N : Nat) (hN : 400 ≤ N) (y0 : List Int) (h0 : ∀ x ∈ y0, 0 ≤ x ∧ x ≤ 255) : W_law10_CrcAll N y0 = some true := by
  unfold W_law10_CrcAll
  by_cases c1 : (300 : Int) < y0.length
  · rw [dT c1, cnd_t]
  rw [dF c1, cnd_f, Sum_eq N y0 (by omega) (by omega) (by omega) h0, rSum_eq N y0 (by omega) (by omega) (by omega) h0, obind_s, obind_s, dT rfl]
theorem law_true (y0 : List Int) (h0 : Twf (.list (.int .u8)) y0) : W_law10_CrcAll NN y0 = some true := law_aux 400 (by omega) y0 h0.2

theorem spec (y0 : List Int) (h0 : Twf (.list (.int .u8)) y0) : Spec2 P0 11 [valW (.list (.int .u8)) y0] [] (.bs true) [] [] := (con_law10_CrcAll_ok NN).2 y0 true (law_true y0 h0)
theorem lifted (os : Os) (started : os.Started) (H : Type) (enc : TypeId × Value → H) :
    ReturnsInHanded {} Try.checked os 11 .any (Rows.crcAllSpec.pre6 enc Try.prog Try.f11 Rows.crcAllRow.domain false) (Rows.crcAllSpec.post enc Try.prog Try.f11 false true false false) := by
  refine returnsInHanded_of_change (C := Try.checked) own started (by kernel_rfl) Try.func11
    (ChangeSpec.witness6 (enc := enc) (C := Try.checked) false ⟨#[], #[.slice none 0 0], []⟩ 8 (by kernel_rfl) (by kernel_rfl) (by kernel_rfl) (by kernel_rfl)) ?_
  intro W base args ds gs before hval0 hW hcnd _
  have hval : ∀ (j : Nat) t v, Try.f11.params[j]? = some t → args[j]? = some v → Value.okWide Try.prog W .any base t v := hval0
  have hW' := hW
  obtain ⟨p, q, hA0, hV, rfl, hfz, hnd⟩ := hW
  have hA : DataW.TrodAll enc Try.prog W 0 (fun _ => true) true Try.f11.params.toList args.toList ds p := hA0
  rw [Try.params11] at hA hval
  obtain ⟨v0, vs0, d0, ds0, p0, q0, hargs, rfl, rfl, h0, r0⟩ := trodAll_cons hA
  obtain ⟨rfl, rfl, rfl⟩ := trodAll_nil r0
  obtain rfl : args = #[v0] := by cases args; simp_all
  obtain ⟨rfl, rfl⟩ := trodVars_none hV
  have k0 := h0
  have lt0 : ∀ x ∈ p0, x.block < W.heap.size := by obtain ⟨m, hm⟩ := k0; exact DataW.trod_lt m _ _ _ hm
  obtain ⟨y0, rp0, wf0⟩ := arg_ok (n := 12) (ty := (.list (.int .u8))) (by kernel_rfl) (hval 0 _ v0 rfl rfl) h0
  clear hA0 hval0
  refine (law_of2 (spec y0 wf0) W #[v0] (.cons rp0 .nil)).mono fun e W' ⟨he, bel⟩ => ?_
  subst he
  exact ⟨_, rfl, _, _, _, [], _, [], hW', trodAll_mk1 (shut_bool Try.underlying4 _), (trodAll_cons_mk (Below.trod laidOut (by kernel_rfl) (of_decide_eq_true (by kernel_rfl)) k0 bel lt0) trodAll_mk0), rfl, bel.frame _, fun h => by cases h⟩

theorem over : Rows.crcAllRow.holds Try.pinned (OpenSpec.ofChange Rows.crcAllSpec) :=
  OpenClaim.holds_of_wide 11 Try.f11 rfl rfl rfl rfl rfl rfl rfl ⟨rfl, rfl, rfl, rfl, rfl⟩ rfl rfl rfl rfl rfl (by kernel_rfl) Try.func11 (by kernel_rfl)
    (of_decide_eq_true (by kernel_rfl)) (by unfold Func.isWrapper; first | (rw [if_pos (by decide +kernel)]; kernel_rfl) | (rw [if_neg (by decide +kernel)]; exact ⟨rfl, rfl⟩))
    (fun os started H enc _ => lifted os started H enc)

theorem holds : Rows.CrcAllSaid := over
end Go.Proofs.Ytfiiigeigiaaeaa.crcAllX
