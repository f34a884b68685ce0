/- CrcJoin: for all arguments the call returns true. The law is brought to a function of Lean's own (W_..) by the machine of the texts beside it, and that is reckoned; no condition. -/
import Derived.Test.YtfiiigeigiaaeaaExtL
import Derived.Test.YtfiiigeigiaaeaaRows
import Derived.WalkKit
import Derived.ProofKit
import Derived.OpenShut
import Derived.ShutString
import Derived.ChangeOld
import Derived.Below
namespace Go.Proofs.Ytfiiigeigiaaeaa.crcJoinX
open Go.Abs Go.RowKit Go.ChangeShapes Go.WideShapes Go.ChangeAt
set_option maxRecDepth 100000
set_option linter.unusedVariables false
set_option linter.unusedSimpArgs false
noncomputable abbrev P0 : Program := Try.prog
noncomputable def bodyOf (fn : Func) : Code := fn.body.getD .skip
def L0 : Lend := fun f => aget [] [(72, [0])] f
def kpL (l : List Bool) : Nat → Bool := fun j => l.getD j true
theorem own : ownKnob Try.prog.godebug = none := by kernel_rfl
theorem laidOut : laidOutB Try.prog = true := by kernel_rfl
theorem mixed : P0.follows .mixedOrders = true := by decide +kernel
theorem progOk_ : progOk P0 = true := by decide +kernel
noncomputable def con_law10_begun (N : Nat) : Con := ⟨49, [], [], Unit, fun _ => some (), fun _ => (.bs true, [], [])⟩
theorem con_law10_begun_ok (N : Nat) : Con.ok P0 (con_law10_begun N) := closed_con2 (nonJ_ok _) mixed progOk_ (noneΞ_ok2 _) (inl := [16,17,41,56,58,64,72,91]) (breath := 100000) (n := 60) (by kernel_rfl)
def as_crc_step : List AS := [.val (.int .u32), .val (.int .i32)]
def bs_crc_step : List BS := []
def pout_crc_step : Pat := ⟨[(4, .val (.int .u32))], []⟩
noncomputable def G_crc_step  (N : Nat) : OrcT := orcOf []
noncomputable def F_crc_step  (N : Nat) (x : Int × Int) : Option (Int) :=
  (evT (G_crc_step  N) L0 P0 [(3, .loop [] ⟨[(0, .val (.int .u32)), (10, .val (.int .i64))], []⟩ [(.exit 0, ⟨[(0, .val (.int .u32))], []⟩)])]
    [] N 400 (bodyOf Try.f69) ⟨22, slots 0 (argsOf as_crc_step bs_crc_step x), tabU (lbOf as_crc_step bs_crc_step x) [], []⟩).elim (kRet 22 pout_crc_step (kpL []) (lbOf as_crc_step bs_crc_step x))
def out_crc_step (y : Int) : V × List OK × List OK := (valW (.int .u32) y, [], [])
noncomputable def V_crc_step  (N : Nat) (x : Int × Int) : Option (Int) :=
  obind
    (loopN N
      (fun (v : Int × Int) =>
        cnd (decide (Prod.snd v < (8 : Int)))
          (cnd
            (decide
              (wr IntKind.u32
                  (↑(BitVec.toNat (BitVec.ofInt (32 : Nat) (Prod.fst v) &&& BitVec.ofInt (32 : Nat) (1 : Int))) : Int) =
                (1 : Int)))
            (some
              (Sum.inl
                (wr IntKind.u32
                    (↑(BitVec.toNat
                        (BitVec.ofInt (32 : Nat) (Int.fdiv (Prod.fst v) ((2 : Int) ^ (1 : Nat))) ^^^
                          BitVec.ofInt (32 : Nat) (3988292384 : Int))) : Int),
                  wr IntKind.i64 (Prod.snd v + (1 : Int)))))
            (some (Sum.inl (Int.fdiv (Prod.fst v) ((2 : Int) ^ (1 : Nat)), wr IntKind.i64 (Prod.snd v + (1 : Int))))))
          (some (Sum.inr (Prod.fst v))))
      (wr IntKind.u32
          (↑(BitVec.toNat
              (BitVec.ofInt (32 : Nat) (Prod.fst x) ^^^ BitVec.ofInt (32 : Nat) (wr IntKind.u32 (Prod.snd x)))) : Int),
        (0 : Int)))
    fun (b : Int) => some b
theorem FV_crc_step_eq  (N : Nat) (x : Int × Int) : F_crc_step  N x = V_crc_step  N x := by kernel_rfl
noncomputable def W_crc_step (N : Nat) (x : Int × Int) : Option (Int) :=
  obind
    (loopN N
      (fun (v : Int × Int) =>
        cnd (decide (Prod.snd v < (8 : Int)))
          (cnd
            (decide
              (wr IntKind.u32
                  (↑(BitVec.toNat (BitVec.ofInt (32 : Nat) (Prod.fst v) &&& BitVec.ofInt (32 : Nat) (1 : Int))) : Int) =
                (1 : Int)))
            (some
              (Sum.inl
                (wr IntKind.u32
                    (↑(BitVec.toNat
                        (BitVec.ofInt (32 : Nat) (Int.fdiv (Prod.fst v) ((2 : Int) ^ (1 : Nat))) ^^^
                          BitVec.ofInt (32 : Nat) (3988292384 : Int))) : Int),
                  wr IntKind.i64 (Prod.snd v + (1 : Int)))))
            (some (Sum.inl (Int.fdiv (Prod.fst v) ((2 : Int) ^ (1 : Nat)), wr IntKind.i64 (Prod.snd v + (1 : Int))))))
          (some (Sum.inr (Prod.fst v))))
      (wr IntKind.u32
          (↑(BitVec.toNat
              (BitVec.ofInt (32 : Nat) (Prod.fst x) ^^^ BitVec.ofInt (32 : Nat) (wr IntKind.u32 (Prod.snd x)))) : Int),
        (0 : Int)))
    fun (b : Int) => some b
theorem F_crc_step_eq (N : Nat) (x : Int × Int) : F_crc_step  N x = W_crc_step N x := (FV_crc_step_eq  N x).trans (by kernel_rfl)
noncomputable def conw_crc_step (w : Int × Int → Option (Int)) : Con := ⟨69, as_crc_step, bs_crc_step, Int, w, out_crc_step⟩
noncomputable def con_crc_step (N : Nat) : Con := conw_crc_step (W_crc_step N)
theorem R_crc_step_eq (x : Int × Int) (y : Int) : retOf2 P0 Try.f69 (kpL []) (lbOf as_crc_step bs_crc_step x) (patS ⟨22, [], [], []⟩ pout_crc_step y) = some (out_crc_step y) := by kernel_rfl
theorem con_crc_step_ok (N : Nat) : Con.ok P0 (con_crc_step N) := ⟨⟨Try.f69, Try.func69, by kernel_rfl, by kernel_rfl⟩, fun (x : Int × Int) (r : Int) (hr : W_crc_step N x = some r) =>
  spec2_evT (Γ := G_crc_step N) (Λ := L0) (pout := pout_crc_step) (kp := kpL []) mixed (orcOf_ok [] (by simp)) Try.func69 (c := bodyOf Try.f69) (by kernel_rfl) (by kernel_rfl) (of_decide_eq_true (by kernel_rfl)) ((F_crc_step_eq N x).trans hr) (R_crc_step_eq x r)⟩
def as_crc_Sum : List AS := [.val (.list (.int .u8))]
def bs_crc_Sum : List BS := []
def pout_crc_Sum : Pat := ⟨[(2, .val (.int .u32))], []⟩
noncomputable def G_crc_Sum (w_crc_step : Int × Int → Option (Int)) (N : Nat) : OrcT := orcOf [conw_crc_step w_crc_step]
noncomputable def F_crc_Sum (w_crc_step : Int × Int → Option (Int)) (N : Nat) (x : List Int) : Option (Int) :=
  (evT (G_crc_Sum w_crc_step N) L0 P0 [(3, .loop [6] ⟨[(3, .val (.int .u32)), (8, .val (.int .i64))], []⟩ [(.exit 0, ⟨[(3, .val (.int .u32))], []⟩)])]
    [] N 400 (bodyOf Try.f50) ⟨19, slots 0 (argsOf as_crc_Sum bs_crc_Sum x), tabU (lbOf as_crc_Sum bs_crc_Sum x) [], []⟩).elim (kRet 19 pout_crc_Sum (kpL []) (lbOf as_crc_Sum bs_crc_Sum x))
def out_crc_Sum (y : Int) : V × List OK × List OK := (valW (.int .u32) y, [], [])
noncomputable def V_crc_Sum (w_crc_step : Int × Int → Option (Int)) (N : Nat) (x : List Int) : Option (Int) :=
  obind
    (loopN N
      (fun (v : Int × Int) =>
        cnd (decide (Prod.snd v < (↑(List.length x) : Int)))
          (cnd (decide ((0 : Int) ≤ Prod.snd v) && decide (Prod.snd v < (↑(List.length x) : Int)))
            (obind (w_crc_step (Prod.fst v, wr IntKind.i32 (List.getD x (Int.toNat (Prod.snd v)) (0 : Int))))
              fun (b : Int) => some (Sum.inl (b, wr IntKind.i64 (Prod.snd v + (1 : Int)))))
            none)
          (some (Sum.inr (Prod.fst v))))
      ((4294967295 : Int), (0 : Int)))
    fun (b : Int) =>
    some
      (wr IntKind.u32 (↑(BitVec.toNat (BitVec.ofInt (32 : Nat) (IntKind.max IntKind.u32) ^^^ BitVec.ofInt (32 : Nat) b)) : Int))
theorem FV_crc_Sum_eq (w_crc_step : Int × Int → Option (Int)) (N : Nat) (x : List Int) : F_crc_Sum w_crc_step N x = V_crc_Sum w_crc_step N x := by kernel_rfl
noncomputable def W_crc_Sum (N : Nat) (x : List Int) : Option (Int) :=
  obind
    (loopN N
      (fun (v : Int × Int) =>
        cnd (decide (Prod.snd v < (↑(List.length x) : Int)))
          (cnd (decide ((0 : Int) ≤ Prod.snd v) && decide (Prod.snd v < (↑(List.length x) : Int)))
            (obind (W_crc_step N (Prod.fst v, wr IntKind.i32 (List.getD x (Int.toNat (Prod.snd v)) (0 : Int))))
              fun (b : Int) => some (Sum.inl (b, wr IntKind.i64 (Prod.snd v + (1 : Int)))))
            none)
          (some (Sum.inr (Prod.fst v))))
      ((4294967295 : Int), (0 : Int)))
    fun (b : Int) =>
    some
      (wr IntKind.u32 (↑(BitVec.toNat (BitVec.ofInt (32 : Nat) (IntKind.max IntKind.u32) ^^^ BitVec.ofInt (32 : Nat) b)) : Int))
theorem F_crc_Sum_eq (N : Nat) (x : List Int) : F_crc_Sum (W_crc_step N) N x = W_crc_Sum N x := (FV_crc_Sum_eq (W_crc_step N) N x).trans (by kernel_rfl)
noncomputable def conw_crc_Sum (w : List Int → Option (Int)) : Con := ⟨50, as_crc_Sum, bs_crc_Sum, Int, w, out_crc_Sum⟩
noncomputable def con_crc_Sum (N : Nat) : Con := conw_crc_Sum (W_crc_Sum N)
theorem R_crc_Sum_eq (x : List Int) (y : Int) : retOf2 P0 Try.f50 (kpL []) (lbOf as_crc_Sum bs_crc_Sum x) (patS ⟨19, [], [], []⟩ pout_crc_Sum y) = some (out_crc_Sum y) := by kernel_rfl
theorem con_crc_Sum_ok (N : Nat) : Con.ok P0 (con_crc_Sum N) := ⟨⟨Try.f50, Try.func50, by kernel_rfl, by kernel_rfl⟩, fun (x : List Int) (r : Int) (hr : W_crc_Sum N x = some r) =>
  spec2_evT (Γ := G_crc_Sum (W_crc_step N) N) (Λ := L0) (pout := pout_crc_Sum) (kp := kpL []) mixed (orcOf_ok _ (by simp only [List.mem_cons, List.not_mem_nil, or_false, forall_eq_or_imp, forall_eq]; exact con_crc_step_ok N)) Try.func50 (c := bodyOf Try.f50) (by kernel_rfl) (by kernel_rfl) (of_decide_eq_true (by kernel_rfl)) ((F_crc_Sum_eq N x).trans hr) (R_crc_Sum_eq x r)⟩
def as_law10_CrcJoin : List AS := [.val (.agg (.pair (.int .u8) (.pair (.int .u8) (.pair (.int .u8) (.pair (.int .u8) (.pair (.int .u8) (.pair (.int .u8) (.pair (.int .u8) (.pair (.int .u8) (.pair (.int .u8) (.pair (.int .u8) (.pair (.int .u8) (.pair (.int .u8) (.pair (.int .u8) (.pair (.int .u8) (.pair (.int .u8) (.pair (.int .u8) (.pair (.int .u8) (.pair (.int .u8) (.pair (.int .u8) (.int .u8))))))))))))))))))))), .val (.agg (.pair (.int .u8) (.pair (.int .u8) (.pair (.int .u8) (.pair (.int .u8) (.pair (.int .u8) (.pair (.int .u8) (.pair (.int .u8) (.pair (.int .u8) (.pair (.int .u8) (.pair (.int .u8) (.pair (.int .u8) (.pair (.int .u8) (.pair (.int .u8) (.pair (.int .u8) (.pair (.int .u8) (.pair (.int .u8) (.pair (.int .u8) (.pair (.int .u8) (.pair (.int .u8) (.int .u8))))))))))))))))))))), .val (.agg (.pair (.int .u8) (.pair (.int .u8) (.pair (.int .u8) (.pair (.int .u8) (.pair (.int .u8) (.pair (.int .u8) (.pair (.int .u8) (.pair (.int .u8) (.pair (.int .u8) (.pair (.int .u8) (.pair (.int .u8) (.pair (.int .u8) (.pair (.int .u8) (.pair (.int .u8) (.pair (.int .u8) (.pair (.int .u8) (.pair (.int .u8) (.pair (.int .u8) (.pair (.int .u8) (.int .u8)))))))))))))))))))))]
def bs_law10_CrcJoin : List BS := []
def pout_law10_CrcJoin : Pat := ⟨[(6, .val .bool)], []⟩
noncomputable def G_law10_CrcJoin (w_crc_Sum : List Int → Option (Int)) (N : Nat) : OrcT := orcOf [con_law10_begun N, conw_crc_Sum w_crc_Sum]
noncomputable def F_law10_CrcJoin (w_crc_Sum : List Int → Option (Int)) (N : Nat) (x : (Int × Int × Int × Int × Int × Int × Int × Int × Int × Int × Int × Int × Int × Int × Int × Int × Int × Int × Int × Int) × (Int × Int × Int × Int × Int × Int × Int × Int × Int × Int × Int × Int × Int × Int × Int × Int × Int × Int × Int × Int) × Int × Int × Int × Int × Int × Int × Int × Int × Int × Int × Int × Int × Int × Int × Int × Int × Int × Int × Int × Int) : Option (Bool) :=
  (evT (G_law10_CrcJoin w_crc_Sum N) L0 P0 [(5, .unroll 21)]
    [] N 400 (bodyOf Try.f12) ⟨39, slots 0 (argsOf as_law10_CrcJoin bs_law10_CrcJoin x), tabU (lbOf as_law10_CrcJoin bs_law10_CrcJoin x) [], []⟩).elim (kRet 39 pout_law10_CrcJoin (kpL []) (lbOf as_law10_CrcJoin bs_law10_CrcJoin x))
def out_law10_CrcJoin (y : Bool) : V × List OK × List OK := (valW .bool y, [], [])
noncomputable def V_law10_CrcJoin (w_crc_Sum : List Int → Option (Int)) (N : Nat) (x : (Int × Int × Int × Int × Int × Int × Int × Int × Int × Int × Int × Int × Int × Int × Int × Int × Int × Int × Int × Int) × (Int × Int × Int × Int × Int × Int × Int × Int × Int × Int × Int × Int × Int × Int × Int × Int × Int × Int × Int × Int) × Int × Int × Int × Int × Int × Int × Int × Int × Int × Int × Int × Int × Int × Int × Int × Int × Int × Int × Int × Int) : Option (Bool) :=
  obind (w_crc_Sum [wr IntKind.u8 (↑(BitVec.toNat (BitVec.ofInt (8 : Nat) (wr IntKind.u8 (↑(BitVec.toNat (BitVec.ofInt (8 : Nat) (Prod.fst (Prod.fst
    x)) ^^^ BitVec.ofInt (8 : Nat) (Prod.fst (Prod.fst (Prod.snd x))))) : Int)) ^^^ BitVec.ofInt (8 : Nat) (Prod.fst (Prod.snd (Prod.snd x))))) : Int),
    wr IntKind.u8 (↑(BitVec.toNat (BitVec.ofInt (8 : Nat) (wr IntKind.u8 (↑(BitVec.toNat (BitVec.ofInt (8 : Nat) (Prod.fst (Prod.snd (Prod.fst x))) ^^^
    BitVec.ofInt (8 : Nat) (Prod.fst (Prod.snd (Prod.fst (Prod.snd x)))))) : Int)) ^^^ BitVec.ofInt (8 : Nat) (Prod.fst (Prod.snd (Prod.snd (Prod.snd
    x)))))) : Int), wr IntKind.u8 (↑(BitVec.toNat (BitVec.ofInt (8 : Nat) (wr IntKind.u8 (↑(BitVec.toNat (BitVec.ofInt (8 : Nat) (Prod.fst (Prod.snd
    (Prod.snd (Prod.fst x)))) ^^^ BitVec.ofInt (8 : Nat) (Prod.fst (Prod.snd (Prod.snd (Prod.fst (Prod.snd x))))))) : Int)) ^^^ BitVec.ofInt (8 : Nat)
    (Prod.fst (Prod.snd (Prod.snd (Prod.snd (Prod.snd x))))))) : Int), wr IntKind.u8 (↑(BitVec.toNat (BitVec.ofInt (8 : Nat) (wr IntKind.u8
    (↑(BitVec.toNat (BitVec.ofInt (8 : Nat) (Prod.fst (Prod.snd (Prod.snd (Prod.snd (Prod.fst x))))) ^^^ BitVec.ofInt (8 : Nat) (Prod.fst (Prod.snd
    (Prod.snd (Prod.snd (Prod.fst (Prod.snd x)))))))) : Int)) ^^^ BitVec.ofInt (8 : Nat) (Prod.fst (Prod.snd (Prod.snd (Prod.snd (Prod.snd (Prod.snd
    x)))))))) : Int), wr IntKind.u8 (↑(BitVec.toNat (BitVec.ofInt (8 : Nat) (wr IntKind.u8 (↑(BitVec.toNat (BitVec.ofInt (8 : Nat) (Prod.fst (Prod.snd
    (Prod.snd (Prod.snd (Prod.snd (Prod.fst x)))))) ^^^ BitVec.ofInt (8 : Nat) (Prod.fst (Prod.snd (Prod.snd (Prod.snd (Prod.snd (Prod.fst (Prod.snd
    x))))))))) : Int)) ^^^ BitVec.ofInt (8 : Nat) (Prod.fst (Prod.snd (Prod.snd (Prod.snd (Prod.snd (Prod.snd (Prod.snd x))))))))) : Int), wr IntKind.u8
    (↑(BitVec.toNat (BitVec.ofInt (8 : Nat) (wr IntKind.u8 (↑(BitVec.toNat (BitVec.ofInt (8 : Nat) (Prod.fst (Prod.snd (Prod.snd (Prod.snd (Prod.snd
    (Prod.snd (Prod.fst x))))))) ^^^ BitVec.ofInt (8 : Nat) (Prod.fst (Prod.snd (Prod.snd (Prod.snd (Prod.snd (Prod.snd (Prod.fst (Prod.snd x))))))))))
    : Int)) ^^^ BitVec.ofInt (8 : Nat) (Prod.fst (Prod.snd (Prod.snd (Prod.snd (Prod.snd (Prod.snd (Prod.snd (Prod.snd x)))))))))) : Int), wr IntKind.u8
    (↑(BitVec.toNat (BitVec.ofInt (8 : Nat) (wr IntKind.u8 (↑(BitVec.toNat (BitVec.ofInt (8 : Nat) (Prod.fst (Prod.snd (Prod.snd (Prod.snd (Prod.snd
    (Prod.snd (Prod.snd (Prod.fst x)))))))) ^^^ BitVec.ofInt (8 : Nat) (Prod.fst (Prod.snd (Prod.snd (Prod.snd (Prod.snd (Prod.snd (Prod.snd (Prod.fst
    (Prod.snd x))))))))))) : Int)) ^^^ BitVec.ofInt (8 : Nat) (Prod.fst (Prod.snd (Prod.snd (Prod.snd (Prod.snd (Prod.snd (Prod.snd (Prod.snd (Prod.snd
    x))))))))))) : Int), wr IntKind.u8 (↑(BitVec.toNat (BitVec.ofInt (8 : Nat) (wr IntKind.u8 (↑(BitVec.toNat (BitVec.ofInt (8 : Nat) (Prod.fst
    (Prod.snd (Prod.snd (Prod.snd (Prod.snd (Prod.snd (Prod.snd (Prod.snd (Prod.fst x))))))))) ^^^ BitVec.ofInt (8 : Nat) (Prod.fst (Prod.snd (Prod.snd
    (Prod.snd (Prod.snd (Prod.snd (Prod.snd (Prod.snd (Prod.fst (Prod.snd x)))))))))))) : Int)) ^^^ BitVec.ofInt (8 : Nat) (Prod.fst (Prod.snd (Prod.snd
    (Prod.snd (Prod.snd (Prod.snd (Prod.snd (Prod.snd (Prod.snd (Prod.snd x)))))))))))) : Int), wr IntKind.u8 (↑(BitVec.toNat (BitVec.ofInt (8 : Nat)
    (wr IntKind.u8 (↑(BitVec.toNat (BitVec.ofInt (8 : Nat) (Prod.fst (Prod.snd (Prod.snd (Prod.snd (Prod.snd (Prod.snd (Prod.snd (Prod.snd (Prod.snd
    (Prod.fst x)))))))))) ^^^ BitVec.ofInt (8 : Nat) (Prod.fst (Prod.snd (Prod.snd (Prod.snd (Prod.snd (Prod.snd (Prod.snd (Prod.snd (Prod.snd (Prod.fst
    (Prod.snd x))))))))))))) : Int)) ^^^ BitVec.ofInt (8 : Nat) (Prod.fst (Prod.snd (Prod.snd (Prod.snd (Prod.snd (Prod.snd (Prod.snd (Prod.snd
    (Prod.snd (Prod.snd (Prod.snd x))))))))))))) : Int), wr IntKind.u8 (↑(BitVec.toNat (BitVec.ofInt (8 : Nat) (wr IntKind.u8 (↑(BitVec.toNat
    (BitVec.ofInt (8 : Nat) (Prod.fst (Prod.snd (Prod.snd (Prod.snd (Prod.snd (Prod.snd (Prod.snd (Prod.snd (Prod.snd (Prod.snd (Prod.fst x)))))))))))
    ^^^ BitVec.ofInt (8 : Nat) (Prod.fst (Prod.snd (Prod.snd (Prod.snd (Prod.snd (Prod.snd (Prod.snd (Prod.snd (Prod.snd (Prod.snd (Prod.fst (Prod.snd
    x)))))))))))))) : Int)) ^^^ BitVec.ofInt (8 : Nat) (Prod.fst (Prod.snd (Prod.snd (Prod.snd (Prod.snd (Prod.snd (Prod.snd (Prod.snd (Prod.snd
    (Prod.snd (Prod.snd (Prod.snd x)))))))))))))) : Int), wr IntKind.u8 (↑(BitVec.toNat (BitVec.ofInt (8 : Nat) (wr IntKind.u8 (↑(BitVec.toNat
    (BitVec.ofInt (8 : Nat) (Prod.fst (Prod.snd (Prod.snd (Prod.snd (Prod.snd (Prod.snd (Prod.snd (Prod.snd (Prod.snd (Prod.snd (Prod.snd (Prod.fst
    x)))))))))))) ^^^ BitVec.ofInt (8 : Nat) (Prod.fst (Prod.snd (Prod.snd (Prod.snd (Prod.snd (Prod.snd (Prod.snd (Prod.snd (Prod.snd (Prod.snd
    (Prod.snd (Prod.fst (Prod.snd x))))))))))))))) : Int)) ^^^ BitVec.ofInt (8 : Nat) (Prod.fst (Prod.snd (Prod.snd (Prod.snd (Prod.snd (Prod.snd
    (Prod.snd (Prod.snd (Prod.snd (Prod.snd (Prod.snd (Prod.snd (Prod.snd x))))))))))))))) : Int), wr IntKind.u8 (↑(BitVec.toNat (BitVec.ofInt (8 : Nat)
    (wr IntKind.u8 (↑(BitVec.toNat (BitVec.ofInt (8 : Nat) (Prod.fst (Prod.snd (Prod.snd (Prod.snd (Prod.snd (Prod.snd (Prod.snd (Prod.snd (Prod.snd
    (Prod.snd (Prod.snd (Prod.snd (Prod.fst x))))))))))))) ^^^ BitVec.ofInt (8 : Nat) (Prod.fst (Prod.snd (Prod.snd (Prod.snd (Prod.snd (Prod.snd
    (Prod.snd (Prod.snd (Prod.snd (Prod.snd (Prod.snd (Prod.snd (Prod.fst (Prod.snd x)))))))))))))))) : Int)) ^^^ BitVec.ofInt (8 : Nat) (Prod.fst
    (Prod.snd (Prod.snd (Prod.snd (Prod.snd (Prod.snd (Prod.snd (Prod.snd (Prod.snd (Prod.snd (Prod.snd (Prod.snd (Prod.snd (Prod.snd x))))))))))))))))
    : Int), wr IntKind.u8 (↑(BitVec.toNat (BitVec.ofInt (8 : Nat) (wr IntKind.u8 (↑(BitVec.toNat (BitVec.ofInt (8 : Nat) (Prod.fst (Prod.snd (Prod.snd
    (Prod.snd (Prod.snd (Prod.snd (Prod.snd (Prod.snd (Prod.snd (Prod.snd (Prod.snd (Prod.snd (Prod.snd (Prod.fst x)))))))))))))) ^^^ BitVec.ofInt (8 :
    Nat) (Prod.fst (Prod.snd (Prod.snd (Prod.snd (Prod.snd (Prod.snd (Prod.snd (Prod.snd (Prod.snd (Prod.snd (Prod.snd (Prod.snd (Prod.snd (Prod.fst
    (Prod.snd x))))))))))))))))) : Int)) ^^^ BitVec.ofInt (8 : Nat) (Prod.fst (Prod.snd (Prod.snd (Prod.snd (Prod.snd (Prod.snd (Prod.snd (Prod.snd
    (Prod.snd (Prod.snd (Prod.snd (Prod.snd (Prod.snd (Prod.snd (Prod.snd x))))))))))))))))) : Int), wr IntKind.u8 (↑(BitVec.toNat (BitVec.ofInt (8 :
    Nat) (wr IntKind.u8 (↑(BitVec.toNat (BitVec.ofInt (8 : Nat) (Prod.fst (Prod.snd (Prod.snd (Prod.snd (Prod.snd (Prod.snd (Prod.snd (Prod.snd
    (Prod.snd (Prod.snd (Prod.snd (Prod.snd (Prod.snd (Prod.snd (Prod.fst x))))))))))))))) ^^^ BitVec.ofInt (8 : Nat) (Prod.fst (Prod.snd (Prod.snd
    (Prod.snd (Prod.snd (Prod.snd (Prod.snd (Prod.snd (Prod.snd (Prod.snd (Prod.snd (Prod.snd (Prod.snd (Prod.snd (Prod.fst (Prod.snd
    x)))))))))))))))))) : Int)) ^^^ BitVec.ofInt (8 : Nat) (Prod.fst (Prod.snd (Prod.snd (Prod.snd (Prod.snd (Prod.snd (Prod.snd (Prod.snd (Prod.snd
    (Prod.snd (Prod.snd (Prod.snd (Prod.snd (Prod.snd (Prod.snd (Prod.snd x)))))))))))))))))) : Int), wr IntKind.u8 (↑(BitVec.toNat (BitVec.ofInt (8 :
    Nat) (wr IntKind.u8 (↑(BitVec.toNat (BitVec.ofInt (8 : Nat) (Prod.fst (Prod.snd (Prod.snd (Prod.snd (Prod.snd (Prod.snd (Prod.snd (Prod.snd
    (Prod.snd (Prod.snd (Prod.snd (Prod.snd (Prod.snd (Prod.snd (Prod.snd (Prod.fst x)))))))))))))))) ^^^ BitVec.ofInt (8 : Nat) (Prod.fst (Prod.snd
    (Prod.snd (Prod.snd (Prod.snd (Prod.snd (Prod.snd (Prod.snd (Prod.snd (Prod.snd (Prod.snd (Prod.snd (Prod.snd (Prod.snd (Prod.snd (Prod.fst
    (Prod.snd x))))))))))))))))))) : Int)) ^^^ BitVec.ofInt (8 : Nat) (Prod.fst (Prod.snd (Prod.snd (Prod.snd (Prod.snd (Prod.snd (Prod.snd (Prod.snd
    (Prod.snd (Prod.snd (Prod.snd (Prod.snd (Prod.snd (Prod.snd (Prod.snd (Prod.snd (Prod.snd x))))))))))))))))))) : Int), wr IntKind.u8 (↑(BitVec.toNat
    (BitVec.ofInt (8 : Nat) (wr IntKind.u8 (↑(BitVec.toNat (BitVec.ofInt (8 : Nat) (Prod.fst (Prod.snd (Prod.snd (Prod.snd (Prod.snd (Prod.snd (Prod.snd
    (Prod.snd (Prod.snd (Prod.snd (Prod.snd (Prod.snd (Prod.snd (Prod.snd (Prod.snd (Prod.snd (Prod.fst x))))))))))))))))) ^^^ BitVec.ofInt (8 : Nat)
    (Prod.fst (Prod.snd (Prod.snd (Prod.snd (Prod.snd (Prod.snd (Prod.snd (Prod.snd (Prod.snd (Prod.snd (Prod.snd (Prod.snd (Prod.snd (Prod.snd
    (Prod.snd (Prod.snd (Prod.fst (Prod.snd x)))))))))))))))))))) : Int)) ^^^ BitVec.ofInt (8 : Nat) (Prod.fst (Prod.snd (Prod.snd (Prod.snd (Prod.snd
    (Prod.snd (Prod.snd (Prod.snd (Prod.snd (Prod.snd (Prod.snd (Prod.snd (Prod.snd (Prod.snd (Prod.snd (Prod.snd (Prod.snd (Prod.snd
    x)))))))))))))))))))) : Int), wr IntKind.u8 (↑(BitVec.toNat (BitVec.ofInt (8 : Nat) (wr IntKind.u8 (↑(BitVec.toNat (BitVec.ofInt (8 : Nat) (Prod.fst
    (Prod.snd (Prod.snd (Prod.snd (Prod.snd (Prod.snd (Prod.snd (Prod.snd (Prod.snd (Prod.snd (Prod.snd (Prod.snd (Prod.snd (Prod.snd (Prod.snd
    (Prod.snd (Prod.snd (Prod.fst x)))))))))))))))))) ^^^ BitVec.ofInt (8 : Nat) (Prod.fst (Prod.snd (Prod.snd (Prod.snd (Prod.snd (Prod.snd (Prod.snd
    (Prod.snd (Prod.snd (Prod.snd (Prod.snd (Prod.snd (Prod.snd (Prod.snd (Prod.snd (Prod.snd (Prod.snd (Prod.fst (Prod.snd x))))))))))))))))))))) :
    Int)) ^^^ BitVec.ofInt (8 : Nat) (Prod.fst (Prod.snd (Prod.snd (Prod.snd (Prod.snd (Prod.snd (Prod.snd (Prod.snd (Prod.snd (Prod.snd (Prod.snd
    (Prod.snd (Prod.snd (Prod.snd (Prod.snd (Prod.snd (Prod.snd (Prod.snd (Prod.snd x))))))))))))))))))))) : Int), wr IntKind.u8 (↑(BitVec.toNat
    (BitVec.ofInt (8 : Nat) (wr IntKind.u8 (↑(BitVec.toNat (BitVec.ofInt (8 : Nat) (Prod.fst (Prod.snd (Prod.snd (Prod.snd (Prod.snd (Prod.snd (Prod.snd
    (Prod.snd (Prod.snd (Prod.snd (Prod.snd (Prod.snd (Prod.snd (Prod.snd (Prod.snd (Prod.snd (Prod.snd (Prod.snd (Prod.fst x))))))))))))))))))) ^^^
    BitVec.ofInt (8 : Nat) (Prod.fst (Prod.snd (Prod.snd (Prod.snd (Prod.snd (Prod.snd (Prod.snd (Prod.snd (Prod.snd (Prod.snd (Prod.snd (Prod.snd
    (Prod.snd (Prod.snd (Prod.snd (Prod.snd (Prod.snd (Prod.snd (Prod.fst (Prod.snd x)))))))))))))))))))))) : Int)) ^^^ BitVec.ofInt (8 : Nat) (Prod.fst
    (Prod.snd (Prod.snd (Prod.snd (Prod.snd (Prod.snd (Prod.snd (Prod.snd (Prod.snd (Prod.snd (Prod.snd (Prod.snd (Prod.snd (Prod.snd (Prod.snd
    (Prod.snd (Prod.snd (Prod.snd (Prod.snd (Prod.snd x)))))))))))))))))))))) : Int), wr IntKind.u8 (↑(BitVec.toNat (BitVec.ofInt (8 : Nat) (wr
    IntKind.u8 (↑(BitVec.toNat (BitVec.ofInt (8 : Nat) (Prod.fst (Prod.snd (Prod.snd (Prod.snd (Prod.snd (Prod.snd (Prod.snd (Prod.snd (Prod.snd
    (Prod.snd (Prod.snd (Prod.snd (Prod.snd (Prod.snd (Prod.snd (Prod.snd (Prod.snd (Prod.snd (Prod.snd (Prod.fst x)))))))))))))))))))) ^^^ BitVec.ofInt
    (8 : Nat) (Prod.fst (Prod.snd (Prod.snd (Prod.snd (Prod.snd (Prod.snd (Prod.snd (Prod.snd (Prod.snd (Prod.snd (Prod.snd (Prod.snd (Prod.snd
    (Prod.snd (Prod.snd (Prod.snd (Prod.snd (Prod.snd (Prod.snd (Prod.fst (Prod.snd x))))))))))))))))))))))) : Int)) ^^^ BitVec.ofInt (8 : Nat)
    (Prod.fst (Prod.snd (Prod.snd (Prod.snd (Prod.snd (Prod.snd (Prod.snd (Prod.snd (Prod.snd (Prod.snd (Prod.snd (Prod.snd (Prod.snd (Prod.snd
    (Prod.snd (Prod.snd (Prod.snd (Prod.snd (Prod.snd (Prod.snd (Prod.snd x))))))))))))))))))))))) : Int), wr IntKind.u8 (↑(BitVec.toNat (BitVec.ofInt
    (8 : Nat) (wr IntKind.u8 (↑(BitVec.toNat (BitVec.ofInt (8 : Nat) (Prod.snd (Prod.snd (Prod.snd (Prod.snd (Prod.snd (Prod.snd (Prod.snd (Prod.snd
    (Prod.snd (Prod.snd (Prod.snd (Prod.snd (Prod.snd (Prod.snd (Prod.snd (Prod.snd (Prod.snd (Prod.snd (Prod.snd (Prod.fst x)))))))))))))))))))) ^^^
    BitVec.ofInt (8 : Nat) (Prod.snd (Prod.snd (Prod.snd (Prod.snd (Prod.snd (Prod.snd (Prod.snd (Prod.snd (Prod.snd (Prod.snd (Prod.snd (Prod.snd
    (Prod.snd (Prod.snd (Prod.snd (Prod.snd (Prod.snd (Prod.snd (Prod.snd (Prod.fst (Prod.snd x))))))))))))))))))))))) : Int)) ^^^ BitVec.ofInt (8 :
    Nat) (Prod.snd (Prod.snd (Prod.snd (Prod.snd (Prod.snd (Prod.snd (Prod.snd (Prod.snd (Prod.snd (Prod.snd (Prod.snd (Prod.snd (Prod.snd (Prod.snd
    (Prod.snd (Prod.snd (Prod.snd (Prod.snd (Prod.snd (Prod.snd (Prod.snd x))))))))))))))))))))))) : Int)]) fun (b : Int) => obind (w_crc_Sum
    [Prod.fst (Prod.fst x), Prod.fst (Prod.snd (Prod.fst x)), Prod.fst (Prod.snd (Prod.snd (Prod.fst x))), Prod.fst (Prod.snd (Prod.snd (Prod.snd
    (Prod.fst x)))), Prod.fst (Prod.snd (Prod.snd (Prod.snd (Prod.snd (Prod.fst x))))), Prod.fst (Prod.snd (Prod.snd (Prod.snd (Prod.snd (Prod.snd
    (Prod.fst x)))))), Prod.fst (Prod.snd (Prod.snd (Prod.snd (Prod.snd (Prod.snd (Prod.snd (Prod.fst x))))))), Prod.fst (Prod.snd (Prod.snd (Prod.snd
    (Prod.snd (Prod.snd (Prod.snd (Prod.snd (Prod.fst x)))))))), Prod.fst (Prod.snd (Prod.snd (Prod.snd (Prod.snd (Prod.snd (Prod.snd (Prod.snd
    (Prod.snd (Prod.fst x))))))))), Prod.fst (Prod.snd (Prod.snd (Prod.snd (Prod.snd (Prod.snd (Prod.snd (Prod.snd (Prod.snd (Prod.snd (Prod.fst
    x)))))))))), Prod.fst (Prod.snd (Prod.snd (Prod.snd (Prod.snd (Prod.snd (Prod.snd (Prod.snd (Prod.snd (Prod.snd (Prod.snd (Prod.fst x))))))))))),
    Prod.fst (Prod.snd (Prod.snd (Prod.snd (Prod.snd (Prod.snd (Prod.snd (Prod.snd (Prod.snd (Prod.snd (Prod.snd (Prod.snd (Prod.fst x)))))))))))),
    Prod.fst (Prod.snd (Prod.snd (Prod.snd (Prod.snd (Prod.snd (Prod.snd (Prod.snd (Prod.snd (Prod.snd (Prod.snd (Prod.snd (Prod.snd (Prod.fst
    x))))))))))))), Prod.fst (Prod.snd (Prod.snd (Prod.snd (Prod.snd (Prod.snd (Prod.snd (Prod.snd (Prod.snd (Prod.snd (Prod.snd (Prod.snd (Prod.snd
    (Prod.snd (Prod.fst x)))))))))))))), Prod.fst (Prod.snd (Prod.snd (Prod.snd (Prod.snd (Prod.snd (Prod.snd (Prod.snd (Prod.snd (Prod.snd (Prod.snd
    (Prod.snd (Prod.snd (Prod.snd (Prod.snd (Prod.fst x))))))))))))))), Prod.fst (Prod.snd (Prod.snd (Prod.snd (Prod.snd (Prod.snd (Prod.snd (Prod.snd
    (Prod.snd (Prod.snd (Prod.snd (Prod.snd (Prod.snd (Prod.snd (Prod.snd (Prod.snd (Prod.fst x)))))))))))))))), Prod.fst (Prod.snd (Prod.snd (Prod.snd
    (Prod.snd (Prod.snd (Prod.snd (Prod.snd (Prod.snd (Prod.snd (Prod.snd (Prod.snd (Prod.snd (Prod.snd (Prod.snd (Prod.snd (Prod.snd (Prod.fst
    x))))))))))))))))), Prod.fst (Prod.snd (Prod.snd (Prod.snd (Prod.snd (Prod.snd (Prod.snd (Prod.snd (Prod.snd (Prod.snd (Prod.snd (Prod.snd (Prod.snd
    (Prod.snd (Prod.snd (Prod.snd (Prod.snd (Prod.snd (Prod.fst x)))))))))))))))))), Prod.fst (Prod.snd (Prod.snd (Prod.snd (Prod.snd (Prod.snd
    (Prod.snd (Prod.snd (Prod.snd (Prod.snd (Prod.snd (Prod.snd (Prod.snd (Prod.snd (Prod.snd (Prod.snd (Prod.snd (Prod.snd (Prod.snd (Prod.fst
    x))))))))))))))))))), Prod.snd (Prod.snd (Prod.snd (Prod.snd (Prod.snd (Prod.snd (Prod.snd (Prod.snd (Prod.snd (Prod.snd (Prod.snd (Prod.snd
    (Prod.snd (Prod.snd (Prod.snd (Prod.snd (Prod.snd (Prod.snd (Prod.snd (Prod.fst x)))))))))))))))))))]) fun (b_1 : Int) => obind (w_crc_Sum
    [Prod.fst (Prod.fst (Prod.snd x)), Prod.fst (Prod.snd (Prod.fst (Prod.snd x))), Prod.fst (Prod.snd (Prod.snd (Prod.fst (Prod.snd x)))), Prod.fst
    (Prod.snd (Prod.snd (Prod.snd (Prod.fst (Prod.snd x))))), Prod.fst (Prod.snd (Prod.snd (Prod.snd (Prod.snd (Prod.fst (Prod.snd x)))))), Prod.fst
    (Prod.snd (Prod.snd (Prod.snd (Prod.snd (Prod.snd (Prod.fst (Prod.snd x))))))), Prod.fst (Prod.snd (Prod.snd (Prod.snd (Prod.snd (Prod.snd (Prod.snd
    (Prod.fst (Prod.snd x)))))))), Prod.fst (Prod.snd (Prod.snd (Prod.snd (Prod.snd (Prod.snd (Prod.snd (Prod.snd (Prod.fst (Prod.snd x))))))))),
    Prod.fst (Prod.snd (Prod.snd (Prod.snd (Prod.snd (Prod.snd (Prod.snd (Prod.snd (Prod.snd (Prod.fst (Prod.snd x)))))))))), Prod.fst (Prod.snd
    (Prod.snd (Prod.snd (Prod.snd (Prod.snd (Prod.snd (Prod.snd (Prod.snd (Prod.snd (Prod.fst (Prod.snd x))))))))))), Prod.fst (Prod.snd (Prod.snd
    (Prod.snd (Prod.snd (Prod.snd (Prod.snd (Prod.snd (Prod.snd (Prod.snd (Prod.snd (Prod.fst (Prod.snd x)))))))))))), Prod.fst (Prod.snd (Prod.snd
    (Prod.snd (Prod.snd (Prod.snd (Prod.snd (Prod.snd (Prod.snd (Prod.snd (Prod.snd (Prod.snd (Prod.fst (Prod.snd x))))))))))))), Prod.fst (Prod.snd
    (Prod.snd (Prod.snd (Prod.snd (Prod.snd (Prod.snd (Prod.snd (Prod.snd (Prod.snd (Prod.snd (Prod.snd (Prod.snd (Prod.fst (Prod.snd x)))))))))))))),
    Prod.fst (Prod.snd (Prod.snd (Prod.snd (Prod.snd (Prod.snd (Prod.snd (Prod.snd (Prod.snd (Prod.snd (Prod.snd (Prod.snd (Prod.snd (Prod.snd (Prod.fst
    (Prod.snd x))))))))))))))), Prod.fst (Prod.snd (Prod.snd (Prod.snd (Prod.snd (Prod.snd (Prod.snd (Prod.snd (Prod.snd (Prod.snd (Prod.snd (Prod.snd
    (Prod.snd (Prod.snd (Prod.snd (Prod.fst (Prod.snd x)))))))))))))))), Prod.fst (Prod.snd (Prod.snd (Prod.snd (Prod.snd (Prod.snd (Prod.snd (Prod.snd
    (Prod.snd (Prod.snd (Prod.snd (Prod.snd (Prod.snd (Prod.snd (Prod.snd (Prod.snd (Prod.fst (Prod.snd x))))))))))))))))), Prod.fst (Prod.snd (Prod.snd
    (Prod.snd (Prod.snd (Prod.snd (Prod.snd (Prod.snd (Prod.snd (Prod.snd (Prod.snd (Prod.snd (Prod.snd (Prod.snd (Prod.snd (Prod.snd (Prod.snd
    (Prod.fst (Prod.snd x)))))))))))))))))), Prod.fst (Prod.snd (Prod.snd (Prod.snd (Prod.snd (Prod.snd (Prod.snd (Prod.snd (Prod.snd (Prod.snd
    (Prod.snd (Prod.snd (Prod.snd (Prod.snd (Prod.snd (Prod.snd (Prod.snd (Prod.snd (Prod.fst (Prod.snd x))))))))))))))))))), Prod.fst (Prod.snd
    (Prod.snd (Prod.snd (Prod.snd (Prod.snd (Prod.snd (Prod.snd (Prod.snd (Prod.snd (Prod.snd (Prod.snd (Prod.snd (Prod.snd (Prod.snd (Prod.snd
    (Prod.snd (Prod.snd (Prod.snd (Prod.fst (Prod.snd x)))))))))))))))))))), Prod.snd (Prod.snd (Prod.snd (Prod.snd (Prod.snd (Prod.snd (Prod.snd
    (Prod.snd (Prod.snd (Prod.snd (Prod.snd (Prod.snd (Prod.snd (Prod.snd (Prod.snd (Prod.snd (Prod.snd (Prod.snd (Prod.snd (Prod.fst (Prod.snd
    x))))))))))))))))))))]) fun (b_2 : Int) => obind (w_crc_Sum [Prod.fst (Prod.snd (Prod.snd x)), Prod.fst (Prod.snd (Prod.snd (Prod.snd x))),
    Prod.fst (Prod.snd (Prod.snd (Prod.snd (Prod.snd x)))), Prod.fst (Prod.snd (Prod.snd (Prod.snd (Prod.snd (Prod.snd x))))), Prod.fst (Prod.snd
    (Prod.snd (Prod.snd (Prod.snd (Prod.snd (Prod.snd x)))))), Prod.fst (Prod.snd (Prod.snd (Prod.snd (Prod.snd (Prod.snd (Prod.snd (Prod.snd x))))))),
    Prod.fst (Prod.snd (Prod.snd (Prod.snd (Prod.snd (Prod.snd (Prod.snd (Prod.snd (Prod.snd x)))))))), Prod.fst (Prod.snd (Prod.snd (Prod.snd (Prod.snd
    (Prod.snd (Prod.snd (Prod.snd (Prod.snd (Prod.snd x))))))))), Prod.fst (Prod.snd (Prod.snd (Prod.snd (Prod.snd (Prod.snd (Prod.snd (Prod.snd
    (Prod.snd (Prod.snd (Prod.snd x)))))))))), Prod.fst (Prod.snd (Prod.snd (Prod.snd (Prod.snd (Prod.snd (Prod.snd (Prod.snd (Prod.snd (Prod.snd
    (Prod.snd (Prod.snd x))))))))))), Prod.fst (Prod.snd (Prod.snd (Prod.snd (Prod.snd (Prod.snd (Prod.snd (Prod.snd (Prod.snd (Prod.snd (Prod.snd
    (Prod.snd (Prod.snd x)))))))))))), Prod.fst (Prod.snd (Prod.snd (Prod.snd (Prod.snd (Prod.snd (Prod.snd (Prod.snd (Prod.snd (Prod.snd (Prod.snd
    (Prod.snd (Prod.snd (Prod.snd x))))))))))))), Prod.fst (Prod.snd (Prod.snd (Prod.snd (Prod.snd (Prod.snd (Prod.snd (Prod.snd (Prod.snd (Prod.snd
    (Prod.snd (Prod.snd (Prod.snd (Prod.snd (Prod.snd x)))))))))))))), Prod.fst (Prod.snd (Prod.snd (Prod.snd (Prod.snd (Prod.snd (Prod.snd (Prod.snd
    (Prod.snd (Prod.snd (Prod.snd (Prod.snd (Prod.snd (Prod.snd (Prod.snd (Prod.snd x))))))))))))))), Prod.fst (Prod.snd (Prod.snd (Prod.snd (Prod.snd
    (Prod.snd (Prod.snd (Prod.snd (Prod.snd (Prod.snd (Prod.snd (Prod.snd (Prod.snd (Prod.snd (Prod.snd (Prod.snd (Prod.snd x)))))))))))))))), Prod.fst
    (Prod.snd (Prod.snd (Prod.snd (Prod.snd (Prod.snd (Prod.snd (Prod.snd (Prod.snd (Prod.snd (Prod.snd (Prod.snd (Prod.snd (Prod.snd (Prod.snd
    (Prod.snd (Prod.snd (Prod.snd x))))))))))))))))), Prod.fst (Prod.snd (Prod.snd (Prod.snd (Prod.snd (Prod.snd (Prod.snd (Prod.snd (Prod.snd (Prod.snd
    (Prod.snd (Prod.snd (Prod.snd (Prod.snd (Prod.snd (Prod.snd (Prod.snd (Prod.snd (Prod.snd x)))))))))))))))))), Prod.fst (Prod.snd (Prod.snd
    (Prod.snd (Prod.snd (Prod.snd (Prod.snd (Prod.snd (Prod.snd (Prod.snd (Prod.snd (Prod.snd (Prod.snd (Prod.snd (Prod.snd (Prod.snd (Prod.snd
    (Prod.snd (Prod.snd (Prod.snd x))))))))))))))))))), Prod.fst (Prod.snd (Prod.snd (Prod.snd (Prod.snd (Prod.snd (Prod.snd (Prod.snd (Prod.snd
    (Prod.snd (Prod.snd (Prod.snd (Prod.snd (Prod.snd (Prod.snd (Prod.snd (Prod.snd (Prod.snd (Prod.snd (Prod.snd (Prod.snd x)))))))))))))))))))),
    Prod.snd (Prod.snd (Prod.snd (Prod.snd (Prod.snd (Prod.snd (Prod.snd (Prod.snd (Prod.snd (Prod.snd (Prod.snd (Prod.snd (Prod.snd (Prod.snd (Prod.snd
    (Prod.snd (Prod.snd (Prod.snd (Prod.snd (Prod.snd (Prod.snd x))))))))))))))))))))]) fun (b_3 : Int) => some (decide (b = wr IntKind.u32
    (↑(BitVec.toNat (BitVec.ofInt (32 : Nat) (wr IntKind.u32 (↑(BitVec.toNat (BitVec.ofInt (32 : Nat) b_1 ^^^ BitVec.ofInt (32 : Nat) b_2)) : Int)) ^^^
    BitVec.ofInt (32 : Nat) b_3)) : Int)))
theorem FV_law10_CrcJoin_eq (w_crc_Sum : List Int → Option (Int)) (N : Nat) (x : (Int × Int × Int × Int × Int × Int × Int × Int × Int × Int × Int × Int × Int × Int × Int × Int × Int × Int × Int × Int) × (Int × Int × Int × Int × Int × Int × Int × Int × Int × Int × Int × Int × Int × Int × Int × Int × Int × Int × Int × Int) × Int × Int × Int × Int × Int × Int × Int × Int × Int × Int × Int × Int × Int × Int × Int × Int × Int × Int × Int × Int) : F_law10_CrcJoin w_crc_Sum N x = V_law10_CrcJoin w_crc_Sum N x := by kernel_rfl
noncomputable def W_law10_CrcJoin (N : Nat) (x : (Int × Int × Int × Int × Int × Int × Int × Int × Int × Int × Int × Int × Int × Int × Int × Int × Int × Int × Int × Int) × (Int × Int × Int × Int × Int × Int × Int × Int × Int × Int × Int × Int × Int × Int × Int × Int × Int × Int × Int × Int) × Int × Int × Int × Int × Int × Int × Int × Int × Int × Int × Int × Int × Int × Int × Int × Int × Int × Int × Int × Int) : Option (Bool) :=
  obind (W_crc_Sum N [wr IntKind.u8 (↑(BitVec.toNat (BitVec.ofInt (8 : Nat) (wr IntKind.u8 (↑(BitVec.toNat (BitVec.ofInt (8 : Nat) (Prod.fst (Prod.fst
    x)) ^^^ BitVec.ofInt (8 : Nat) (Prod.fst (Prod.fst (Prod.snd x))))) : Int)) ^^^ BitVec.ofInt (8 : Nat) (Prod.fst (Prod.snd (Prod.snd x))))) : Int),
    wr IntKind.u8 (↑(BitVec.toNat (BitVec.ofInt (8 : Nat) (wr IntKind.u8 (↑(BitVec.toNat (BitVec.ofInt (8 : Nat) (Prod.fst (Prod.snd (Prod.fst x))) ^^^
    BitVec.ofInt (8 : Nat) (Prod.fst (Prod.snd (Prod.fst (Prod.snd x)))))) : Int)) ^^^ BitVec.ofInt (8 : Nat) (Prod.fst (Prod.snd (Prod.snd (Prod.snd
    x)))))) : Int), wr IntKind.u8 (↑(BitVec.toNat (BitVec.ofInt (8 : Nat) (wr IntKind.u8 (↑(BitVec.toNat (BitVec.ofInt (8 : Nat) (Prod.fst (Prod.snd
    (Prod.snd (Prod.fst x)))) ^^^ BitVec.ofInt (8 : Nat) (Prod.fst (Prod.snd (Prod.snd (Prod.fst (Prod.snd x))))))) : Int)) ^^^ BitVec.ofInt (8 : Nat)
    (Prod.fst (Prod.snd (Prod.snd (Prod.snd (Prod.snd x))))))) : Int), wr IntKind.u8 (↑(BitVec.toNat (BitVec.ofInt (8 : Nat) (wr IntKind.u8
    (↑(BitVec.toNat (BitVec.ofInt (8 : Nat) (Prod.fst (Prod.snd (Prod.snd (Prod.snd (Prod.fst x))))) ^^^ BitVec.ofInt (8 : Nat) (Prod.fst (Prod.snd
    (Prod.snd (Prod.snd (Prod.fst (Prod.snd x)))))))) : Int)) ^^^ BitVec.ofInt (8 : Nat) (Prod.fst (Prod.snd (Prod.snd (Prod.snd (Prod.snd (Prod.snd
    x)))))))) : Int), wr IntKind.u8 (↑(BitVec.toNat (BitVec.ofInt (8 : Nat) (wr IntKind.u8 (↑(BitVec.toNat (BitVec.ofInt (8 : Nat) (Prod.fst (Prod.snd
    (Prod.snd (Prod.snd (Prod.snd (Prod.fst x)))))) ^^^ BitVec.ofInt (8 : Nat) (Prod.fst (Prod.snd (Prod.snd (Prod.snd (Prod.snd (Prod.fst (Prod.snd
    x))))))))) : Int)) ^^^ BitVec.ofInt (8 : Nat) (Prod.fst (Prod.snd (Prod.snd (Prod.snd (Prod.snd (Prod.snd (Prod.snd x))))))))) : Int), wr IntKind.u8
    (↑(BitVec.toNat (BitVec.ofInt (8 : Nat) (wr IntKind.u8 (↑(BitVec.toNat (BitVec.ofInt (8 : Nat) (Prod.fst (Prod.snd (Prod.snd (Prod.snd (Prod.snd
    (Prod.snd (Prod.fst x))))))) ^^^ BitVec.ofInt (8 : Nat) (Prod.fst (Prod.snd (Prod.snd (Prod.snd (Prod.snd (Prod.snd (Prod.fst (Prod.snd x))))))))))
    : Int)) ^^^ BitVec.ofInt (8 : Nat) (Prod.fst (Prod.snd (Prod.snd (Prod.snd (Prod.snd (Prod.snd (Prod.snd (Prod.snd x)))))))))) : Int), wr IntKind.u8
    (↑(BitVec.toNat (BitVec.ofInt (8 : Nat) (wr IntKind.u8 (↑(BitVec.toNat (BitVec.ofInt (8 : Nat) (Prod.fst (Prod.snd (Prod.snd (Prod.snd (Prod.snd
    (Prod.snd (Prod.snd (Prod.fst x)))))))) ^^^ BitVec.ofInt (8 : Nat) (Prod.fst (Prod.snd (Prod.snd (Prod.snd (Prod.snd (Prod.snd (Prod.snd (Prod.fst
    (Prod.snd x))))))))))) : Int)) ^^^ BitVec.ofInt (8 : Nat) (Prod.fst (Prod.snd (Prod.snd (Prod.snd (Prod.snd (Prod.snd (Prod.snd (Prod.snd (Prod.snd
    x))))))))))) : Int), wr IntKind.u8 (↑(BitVec.toNat (BitVec.ofInt (8 : Nat) (wr IntKind.u8 (↑(BitVec.toNat (BitVec.ofInt (8 : Nat) (Prod.fst
    (Prod.snd (Prod.snd (Prod.snd (Prod.snd (Prod.snd (Prod.snd (Prod.snd (Prod.fst x))))))))) ^^^ BitVec.ofInt (8 : Nat) (Prod.fst (Prod.snd (Prod.snd
    (Prod.snd (Prod.snd (Prod.snd (Prod.snd (Prod.snd (Prod.fst (Prod.snd x)))))))))))) : Int)) ^^^ BitVec.ofInt (8 : Nat) (Prod.fst (Prod.snd (Prod.snd
    (Prod.snd (Prod.snd (Prod.snd (Prod.snd (Prod.snd (Prod.snd (Prod.snd x)))))))))))) : Int), wr IntKind.u8 (↑(BitVec.toNat (BitVec.ofInt (8 : Nat)
    (wr IntKind.u8 (↑(BitVec.toNat (BitVec.ofInt (8 : Nat) (Prod.fst (Prod.snd (Prod.snd (Prod.snd (Prod.snd (Prod.snd (Prod.snd (Prod.snd (Prod.snd
    (Prod.fst x)))))))))) ^^^ BitVec.ofInt (8 : Nat) (Prod.fst (Prod.snd (Prod.snd (Prod.snd (Prod.snd (Prod.snd (Prod.snd (Prod.snd (Prod.snd (Prod.fst
    (Prod.snd x))))))))))))) : Int)) ^^^ BitVec.ofInt (8 : Nat) (Prod.fst (Prod.snd (Prod.snd (Prod.snd (Prod.snd (Prod.snd (Prod.snd (Prod.snd
    (Prod.snd (Prod.snd (Prod.snd x))))))))))))) : Int), wr IntKind.u8 (↑(BitVec.toNat (BitVec.ofInt (8 : Nat) (wr IntKind.u8 (↑(BitVec.toNat
    (BitVec.ofInt (8 : Nat) (Prod.fst (Prod.snd (Prod.snd (Prod.snd (Prod.snd (Prod.snd (Prod.snd (Prod.snd (Prod.snd (Prod.snd (Prod.fst x)))))))))))
    ^^^ BitVec.ofInt (8 : Nat) (Prod.fst (Prod.snd (Prod.snd (Prod.snd (Prod.snd (Prod.snd (Prod.snd (Prod.snd (Prod.snd (Prod.snd (Prod.fst (Prod.snd
    x)))))))))))))) : Int)) ^^^ BitVec.ofInt (8 : Nat) (Prod.fst (Prod.snd (Prod.snd (Prod.snd (Prod.snd (Prod.snd (Prod.snd (Prod.snd (Prod.snd
    (Prod.snd (Prod.snd (Prod.snd x)))))))))))))) : Int), wr IntKind.u8 (↑(BitVec.toNat (BitVec.ofInt (8 : Nat) (wr IntKind.u8 (↑(BitVec.toNat
    (BitVec.ofInt (8 : Nat) (Prod.fst (Prod.snd (Prod.snd (Prod.snd (Prod.snd (Prod.snd (Prod.snd (Prod.snd (Prod.snd (Prod.snd (Prod.snd (Prod.fst
    x)))))))))))) ^^^ BitVec.ofInt (8 : Nat) (Prod.fst (Prod.snd (Prod.snd (Prod.snd (Prod.snd (Prod.snd (Prod.snd (Prod.snd (Prod.snd (Prod.snd
    (Prod.snd (Prod.fst (Prod.snd x))))))))))))))) : Int)) ^^^ BitVec.ofInt (8 : Nat) (Prod.fst (Prod.snd (Prod.snd (Prod.snd (Prod.snd (Prod.snd
    (Prod.snd (Prod.snd (Prod.snd (Prod.snd (Prod.snd (Prod.snd (Prod.snd x))))))))))))))) : Int), wr IntKind.u8 (↑(BitVec.toNat (BitVec.ofInt (8 : Nat)
    (wr IntKind.u8 (↑(BitVec.toNat (BitVec.ofInt (8 : Nat) (Prod.fst (Prod.snd (Prod.snd (Prod.snd (Prod.snd (Prod.snd (Prod.snd (Prod.snd (Prod.snd
    (Prod.snd (Prod.snd (Prod.snd (Prod.fst x))))))))))))) ^^^ BitVec.ofInt (8 : Nat) (Prod.fst (Prod.snd (Prod.snd (Prod.snd (Prod.snd (Prod.snd
    (Prod.snd (Prod.snd (Prod.snd (Prod.snd (Prod.snd (Prod.snd (Prod.fst (Prod.snd x)))))))))))))))) : Int)) ^^^ BitVec.ofInt (8 : Nat) (Prod.fst
    (Prod.snd (Prod.snd (Prod.snd (Prod.snd (Prod.snd (Prod.snd (Prod.snd (Prod.snd (Prod.snd (Prod.snd (Prod.snd (Prod.snd (Prod.snd x))))))))))))))))
    : Int), wr IntKind.u8 (↑(BitVec.toNat (BitVec.ofInt (8 : Nat) (wr IntKind.u8 (↑(BitVec.toNat (BitVec.ofInt (8 : Nat) (Prod.fst (Prod.snd (Prod.snd
    (Prod.snd (Prod.snd (Prod.snd (Prod.snd (Prod.snd (Prod.snd (Prod.snd (Prod.snd (Prod.snd (Prod.snd (Prod.fst x)))))))))))))) ^^^ BitVec.ofInt (8 :
    Nat) (Prod.fst (Prod.snd (Prod.snd (Prod.snd (Prod.snd (Prod.snd (Prod.snd (Prod.snd (Prod.snd (Prod.snd (Prod.snd (Prod.snd (Prod.snd (Prod.fst
    (Prod.snd x))))))))))))))))) : Int)) ^^^ BitVec.ofInt (8 : Nat) (Prod.fst (Prod.snd (Prod.snd (Prod.snd (Prod.snd (Prod.snd (Prod.snd (Prod.snd
    (Prod.snd (Prod.snd (Prod.snd (Prod.snd (Prod.snd (Prod.snd (Prod.snd x))))))))))))))))) : Int), wr IntKind.u8 (↑(BitVec.toNat (BitVec.ofInt (8 :
    Nat) (wr IntKind.u8 (↑(BitVec.toNat (BitVec.ofInt (8 : Nat) (Prod.fst (Prod.snd (Prod.snd (Prod.snd (Prod.snd (Prod.snd (Prod.snd (Prod.snd
    (Prod.snd (Prod.snd (Prod.snd (Prod.snd (Prod.snd (Prod.snd (Prod.fst x))))))))))))))) ^^^ BitVec.ofInt (8 : Nat) (Prod.fst (Prod.snd (Prod.snd
    (Prod.snd (Prod.snd (Prod.snd (Prod.snd (Prod.snd (Prod.snd (Prod.snd (Prod.snd (Prod.snd (Prod.snd (Prod.snd (Prod.fst (Prod.snd
    x)))))))))))))))))) : Int)) ^^^ BitVec.ofInt (8 : Nat) (Prod.fst (Prod.snd (Prod.snd (Prod.snd (Prod.snd (Prod.snd (Prod.snd (Prod.snd (Prod.snd
    (Prod.snd (Prod.snd (Prod.snd (Prod.snd (Prod.snd (Prod.snd (Prod.snd x)))))))))))))))))) : Int), wr IntKind.u8 (↑(BitVec.toNat (BitVec.ofInt (8 :
    Nat) (wr IntKind.u8 (↑(BitVec.toNat (BitVec.ofInt (8 : Nat) (Prod.fst (Prod.snd (Prod.snd (Prod.snd (Prod.snd (Prod.snd (Prod.snd (Prod.snd
    (Prod.snd (Prod.snd (Prod.snd (Prod.snd (Prod.snd (Prod.snd (Prod.snd (Prod.fst x)))))))))))))))) ^^^ BitVec.ofInt (8 : Nat) (Prod.fst (Prod.snd
    (Prod.snd (Prod.snd (Prod.snd (Prod.snd (Prod.snd (Prod.snd (Prod.snd (Prod.snd (Prod.snd (Prod.snd (Prod.snd (Prod.snd (Prod.snd (Prod.fst
    (Prod.snd x))))))))))))))))))) : Int)) ^^^ BitVec.ofInt (8 : Nat) (Prod.fst (Prod.snd (Prod.snd (Prod.snd (Prod.snd (Prod.snd (Prod.snd (Prod.snd
    (Prod.snd (Prod.snd (Prod.snd (Prod.snd (Prod.snd (Prod.snd (Prod.snd (Prod.snd (Prod.snd x))))))))))))))))))) : Int), wr IntKind.u8 (↑(BitVec.toNat
    (BitVec.ofInt (8 : Nat) (wr IntKind.u8 (↑(BitVec.toNat (BitVec.ofInt (8 : Nat) (Prod.fst (Prod.snd (Prod.snd (Prod.snd (Prod.snd (Prod.snd (Prod.snd
    (Prod.snd (Prod.snd (Prod.snd (Prod.snd (Prod.snd (Prod.snd (Prod.snd (Prod.snd (Prod.snd (Prod.fst x))))))))))))))))) ^^^ BitVec.ofInt (8 : Nat)
    (Prod.fst (Prod.snd (Prod.snd (Prod.snd (Prod.snd (Prod.snd (Prod.snd (Prod.snd (Prod.snd (Prod.snd (Prod.snd (Prod.snd (Prod.snd (Prod.snd
    (Prod.snd (Prod.snd (Prod.fst (Prod.snd x)))))))))))))))))))) : Int)) ^^^ BitVec.ofInt (8 : Nat) (Prod.fst (Prod.snd (Prod.snd (Prod.snd (Prod.snd
    (Prod.snd (Prod.snd (Prod.snd (Prod.snd (Prod.snd (Prod.snd (Prod.snd (Prod.snd (Prod.snd (Prod.snd (Prod.snd (Prod.snd (Prod.snd
    x)))))))))))))))))))) : Int), wr IntKind.u8 (↑(BitVec.toNat (BitVec.ofInt (8 : Nat) (wr IntKind.u8 (↑(BitVec.toNat (BitVec.ofInt (8 : Nat) (Prod.fst
    (Prod.snd (Prod.snd (Prod.snd (Prod.snd (Prod.snd (Prod.snd (Prod.snd (Prod.snd (Prod.snd (Prod.snd (Prod.snd (Prod.snd (Prod.snd (Prod.snd
    (Prod.snd (Prod.snd (Prod.fst x)))))))))))))))))) ^^^ BitVec.ofInt (8 : Nat) (Prod.fst (Prod.snd (Prod.snd (Prod.snd (Prod.snd (Prod.snd (Prod.snd
    (Prod.snd (Prod.snd (Prod.snd (Prod.snd (Prod.snd (Prod.snd (Prod.snd (Prod.snd (Prod.snd (Prod.snd (Prod.fst (Prod.snd x))))))))))))))))))))) :
    Int)) ^^^ BitVec.ofInt (8 : Nat) (Prod.fst (Prod.snd (Prod.snd (Prod.snd (Prod.snd (Prod.snd (Prod.snd (Prod.snd (Prod.snd (Prod.snd (Prod.snd
    (Prod.snd (Prod.snd (Prod.snd (Prod.snd (Prod.snd (Prod.snd (Prod.snd (Prod.snd x))))))))))))))))))))) : Int), wr IntKind.u8 (↑(BitVec.toNat
    (BitVec.ofInt (8 : Nat) (wr IntKind.u8 (↑(BitVec.toNat (BitVec.ofInt (8 : Nat) (Prod.fst (Prod.snd (Prod.snd (Prod.snd (Prod.snd (Prod.snd (Prod.snd
    (Prod.snd (Prod.snd (Prod.snd (Prod.snd (Prod.snd (Prod.snd (Prod.snd (Prod.snd (Prod.snd (Prod.snd (Prod.snd (Prod.fst x))))))))))))))))))) ^^^
    BitVec.ofInt (8 : Nat) (Prod.fst (Prod.snd (Prod.snd (Prod.snd (Prod.snd (Prod.snd (Prod.snd (Prod.snd (Prod.snd (Prod.snd (Prod.snd (Prod.snd
    (Prod.snd (Prod.snd (Prod.snd (Prod.snd (Prod.snd (Prod.snd (Prod.fst (Prod.snd x)))))))))))))))))))))) : Int)) ^^^ BitVec.ofInt (8 : Nat) (Prod.fst
    (Prod.snd (Prod.snd (Prod.snd (Prod.snd (Prod.snd (Prod.snd (Prod.snd (Prod.snd (Prod.snd (Prod.snd (Prod.snd (Prod.snd (Prod.snd (Prod.snd
    (Prod.snd (Prod.snd (Prod.snd (Prod.snd (Prod.snd x)))))))))))))))))))))) : Int), wr IntKind.u8 (↑(BitVec.toNat (BitVec.ofInt (8 : Nat) (wr
    IntKind.u8 (↑(BitVec.toNat (BitVec.ofInt (8 : Nat) (Prod.fst (Prod.snd (Prod.snd (Prod.snd (Prod.snd (Prod.snd (Prod.snd (Prod.snd (Prod.snd
    (Prod.snd (Prod.snd (Prod.snd (Prod.snd (Prod.snd (Prod.snd (Prod.snd (Prod.snd (Prod.snd (Prod.snd (Prod.fst x)))))))))))))))))))) ^^^ BitVec.ofInt
    (8 : Nat) (Prod.fst (Prod.snd (Prod.snd (Prod.snd (Prod.snd (Prod.snd (Prod.snd (Prod.snd (Prod.snd (Prod.snd (Prod.snd (Prod.snd (Prod.snd
    (Prod.snd (Prod.snd (Prod.snd (Prod.snd (Prod.snd (Prod.snd (Prod.fst (Prod.snd x))))))))))))))))))))))) : Int)) ^^^ BitVec.ofInt (8 : Nat)
    (Prod.fst (Prod.snd (Prod.snd (Prod.snd (Prod.snd (Prod.snd (Prod.snd (Prod.snd (Prod.snd (Prod.snd (Prod.snd (Prod.snd (Prod.snd (Prod.snd
    (Prod.snd (Prod.snd (Prod.snd (Prod.snd (Prod.snd (Prod.snd (Prod.snd x))))))))))))))))))))))) : Int), wr IntKind.u8 (↑(BitVec.toNat (BitVec.ofInt
    (8 : Nat) (wr IntKind.u8 (↑(BitVec.toNat (BitVec.ofInt (8 : Nat) (Prod.snd (Prod.snd (Prod.snd (Prod.snd (Prod.snd (Prod.snd (Prod.snd (Prod.snd
    (Prod.snd (Prod.snd (Prod.snd (Prod.snd (Prod.snd (Prod.snd (Prod.snd (Prod.snd (Prod.snd (Prod.snd (Prod.snd (Prod.fst x)))))))))))))))))))) ^^^
    BitVec.ofInt (8 : Nat) (Prod.snd (Prod.snd (Prod.snd (Prod.snd (Prod.snd (Prod.snd (Prod.snd (Prod.snd (Prod.snd (Prod.snd (Prod.snd (Prod.snd
    (Prod.snd (Prod.snd (Prod.snd (Prod.snd (Prod.snd (Prod.snd (Prod.snd (Prod.fst (Prod.snd x))))))))))))))))))))))) : Int)) ^^^ BitVec.ofInt (8 :
    Nat) (Prod.snd (Prod.snd (Prod.snd (Prod.snd (Prod.snd (Prod.snd (Prod.snd (Prod.snd (Prod.snd (Prod.snd (Prod.snd (Prod.snd (Prod.snd (Prod.snd
    (Prod.snd (Prod.snd (Prod.snd (Prod.snd (Prod.snd (Prod.snd (Prod.snd x))))))))))))))))))))))) : Int)]) fun (b : Int) => obind (W_crc_Sum N
    [Prod.fst (Prod.fst x), Prod.fst (Prod.snd (Prod.fst x)), Prod.fst (Prod.snd (Prod.snd (Prod.fst x))), Prod.fst (Prod.snd (Prod.snd (Prod.snd
    (Prod.fst x)))), Prod.fst (Prod.snd (Prod.snd (Prod.snd (Prod.snd (Prod.fst x))))), Prod.fst (Prod.snd (Prod.snd (Prod.snd (Prod.snd (Prod.snd
    (Prod.fst x)))))), Prod.fst (Prod.snd (Prod.snd (Prod.snd (Prod.snd (Prod.snd (Prod.snd (Prod.fst x))))))), Prod.fst (Prod.snd (Prod.snd (Prod.snd
    (Prod.snd (Prod.snd (Prod.snd (Prod.snd (Prod.fst x)))))))), Prod.fst (Prod.snd (Prod.snd (Prod.snd (Prod.snd (Prod.snd (Prod.snd (Prod.snd
    (Prod.snd (Prod.fst x))))))))), Prod.fst (Prod.snd (Prod.snd (Prod.snd (Prod.snd (Prod.snd (Prod.snd (Prod.snd (Prod.snd (Prod.snd (Prod.fst
    x)))))))))), Prod.fst (Prod.snd (Prod.snd (Prod.snd (Prod.snd (Prod.snd (Prod.snd (Prod.snd (Prod.snd (Prod.snd (Prod.snd (Prod.fst x))))))))))),
    Prod.fst (Prod.snd (Prod.snd (Prod.snd (Prod.snd (Prod.snd (Prod.snd (Prod.snd (Prod.snd (Prod.snd (Prod.snd (Prod.snd (Prod.fst x)))))))))))),
    Prod.fst (Prod.snd (Prod.snd (Prod.snd (Prod.snd (Prod.snd (Prod.snd (Prod.snd (Prod.snd (Prod.snd (Prod.snd (Prod.snd (Prod.snd (Prod.fst
    x))))))))))))), Prod.fst (Prod.snd (Prod.snd (Prod.snd (Prod.snd (Prod.snd (Prod.snd (Prod.snd (Prod.snd (Prod.snd (Prod.snd (Prod.snd (Prod.snd
    (Prod.snd (Prod.fst x)))))))))))))), Prod.fst (Prod.snd (Prod.snd (Prod.snd (Prod.snd (Prod.snd (Prod.snd (Prod.snd (Prod.snd (Prod.snd (Prod.snd
    (Prod.snd (Prod.snd (Prod.snd (Prod.snd (Prod.fst x))))))))))))))), Prod.fst (Prod.snd (Prod.snd (Prod.snd (Prod.snd (Prod.snd (Prod.snd (Prod.snd
    (Prod.snd (Prod.snd (Prod.snd (Prod.snd (Prod.snd (Prod.snd (Prod.snd (Prod.snd (Prod.fst x)))))))))))))))), Prod.fst (Prod.snd (Prod.snd (Prod.snd
    (Prod.snd (Prod.snd (Prod.snd (Prod.snd (Prod.snd (Prod.snd (Prod.snd (Prod.snd (Prod.snd (Prod.snd (Prod.snd (Prod.snd (Prod.snd (Prod.fst
    x))))))))))))))))), Prod.fst (Prod.snd (Prod.snd (Prod.snd (Prod.snd (Prod.snd (Prod.snd (Prod.snd (Prod.snd (Prod.snd (Prod.snd (Prod.snd (Prod.snd
    (Prod.snd (Prod.snd (Prod.snd (Prod.snd (Prod.snd (Prod.fst x)))))))))))))))))), Prod.fst (Prod.snd (Prod.snd (Prod.snd (Prod.snd (Prod.snd
    (Prod.snd (Prod.snd (Prod.snd (Prod.snd (Prod.snd (Prod.snd (Prod.snd (Prod.snd (Prod.snd (Prod.snd (Prod.snd (Prod.snd (Prod.snd (Prod.fst
    x))))))))))))))))))), Prod.snd (Prod.snd (Prod.snd (Prod.snd (Prod.snd (Prod.snd (Prod.snd (Prod.snd (Prod.snd (Prod.snd (Prod.snd (Prod.snd
    (Prod.snd (Prod.snd (Prod.snd (Prod.snd (Prod.snd (Prod.snd (Prod.snd (Prod.fst x)))))))))))))))))))]) fun (b_1 : Int) => obind (W_crc_Sum N
    [Prod.fst (Prod.fst (Prod.snd x)), Prod.fst (Prod.snd (Prod.fst (Prod.snd x))), Prod.fst (Prod.snd (Prod.snd (Prod.fst (Prod.snd x)))), Prod.fst
    (Prod.snd (Prod.snd (Prod.snd (Prod.fst (Prod.snd x))))), Prod.fst (Prod.snd (Prod.snd (Prod.snd (Prod.snd (Prod.fst (Prod.snd x)))))), Prod.fst
    (Prod.snd (Prod.snd (Prod.snd (Prod.snd (Prod.snd (Prod.fst (Prod.snd x))))))), Prod.fst (Prod.snd (Prod.snd (Prod.snd (Prod.snd (Prod.snd (Prod.snd
    (Prod.fst (Prod.snd x)))))))), Prod.fst (Prod.snd (Prod.snd (Prod.snd (Prod.snd (Prod.snd (Prod.snd (Prod.snd (Prod.fst (Prod.snd x))))))))),
    Prod.fst (Prod.snd (Prod.snd (Prod.snd (Prod.snd (Prod.snd (Prod.snd (Prod.snd (Prod.snd (Prod.fst (Prod.snd x)))))))))), Prod.fst (Prod.snd
    (Prod.snd (Prod.snd (Prod.snd (Prod.snd (Prod.snd (Prod.snd (Prod.snd (Prod.snd (Prod.fst (Prod.snd x))))))))))), Prod.fst (Prod.snd (Prod.snd
    (Prod.snd (Prod.snd (Prod.snd (Prod.snd (Prod.snd (Prod.snd (Prod.snd (Prod.snd (Prod.fst (Prod.snd x)))))))))))), Prod.fst (Prod.snd (Prod.snd
    (Prod.snd (Prod.snd (Prod.snd (Prod.snd (Prod.snd (Prod.snd (Prod.snd (Prod.snd (Prod.snd (Prod.fst (Prod.snd x))))))))))))), Prod.fst (Prod.snd
    (Prod.snd (Prod.snd (Prod.snd (Prod.snd (Prod.snd (Prod.snd (Prod.snd (Prod.snd (Prod.snd (Prod.snd (Prod.snd (Prod.fst (Prod.snd x)))))))))))))),
    Prod.fst (Prod.snd (Prod.snd (Prod.snd (Prod.snd (Prod.snd (Prod.snd (Prod.snd (Prod.snd (Prod.snd (Prod.snd (Prod.snd (Prod.snd (Prod.snd (Prod.fst
    (Prod.snd x))))))))))))))), Prod.fst (Prod.snd (Prod.snd (Prod.snd (Prod.snd (Prod.snd (Prod.snd (Prod.snd (Prod.snd (Prod.snd (Prod.snd (Prod.snd
    (Prod.snd (Prod.snd (Prod.snd (Prod.fst (Prod.snd x)))))))))))))))), Prod.fst (Prod.snd (Prod.snd (Prod.snd (Prod.snd (Prod.snd (Prod.snd (Prod.snd
    (Prod.snd (Prod.snd (Prod.snd (Prod.snd (Prod.snd (Prod.snd (Prod.snd (Prod.snd (Prod.fst (Prod.snd x))))))))))))))))), Prod.fst (Prod.snd (Prod.snd
    (Prod.snd (Prod.snd (Prod.snd (Prod.snd (Prod.snd (Prod.snd (Prod.snd (Prod.snd (Prod.snd (Prod.snd (Prod.snd (Prod.snd (Prod.snd (Prod.snd
    (Prod.fst (Prod.snd x)))))))))))))))))), Prod.fst (Prod.snd (Prod.snd (Prod.snd (Prod.snd (Prod.snd (Prod.snd (Prod.snd (Prod.snd (Prod.snd
    (Prod.snd (Prod.snd (Prod.snd (Prod.snd (Prod.snd (Prod.snd (Prod.snd (Prod.snd (Prod.fst (Prod.snd x))))))))))))))))))), Prod.fst (Prod.snd
    (Prod.snd (Prod.snd (Prod.snd (Prod.snd (Prod.snd (Prod.snd (Prod.snd (Prod.snd (Prod.snd (Prod.snd (Prod.snd (Prod.snd (Prod.snd (Prod.snd
    (Prod.snd (Prod.snd (Prod.snd (Prod.fst (Prod.snd x)))))))))))))))))))), Prod.snd (Prod.snd (Prod.snd (Prod.snd (Prod.snd (Prod.snd (Prod.snd
    (Prod.snd (Prod.snd (Prod.snd (Prod.snd (Prod.snd (Prod.snd (Prod.snd (Prod.snd (Prod.snd (Prod.snd (Prod.snd (Prod.snd (Prod.fst (Prod.snd
    x))))))))))))))))))))]) fun (b_2 : Int) => obind (W_crc_Sum N [Prod.fst (Prod.snd (Prod.snd x)), Prod.fst (Prod.snd (Prod.snd (Prod.snd x))),
    Prod.fst (Prod.snd (Prod.snd (Prod.snd (Prod.snd x)))), Prod.fst (Prod.snd (Prod.snd (Prod.snd (Prod.snd (Prod.snd x))))), Prod.fst (Prod.snd
    (Prod.snd (Prod.snd (Prod.snd (Prod.snd (Prod.snd x)))))), Prod.fst (Prod.snd (Prod.snd (Prod.snd (Prod.snd (Prod.snd (Prod.snd (Prod.snd x))))))),
    Prod.fst (Prod.snd (Prod.snd (Prod.snd (Prod.snd (Prod.snd (Prod.snd (Prod.snd (Prod.snd x)))))))), Prod.fst (Prod.snd (Prod.snd (Prod.snd (Prod.snd
    (Prod.snd (Prod.snd (Prod.snd (Prod.snd (Prod.snd x))))))))), Prod.fst (Prod.snd (Prod.snd (Prod.snd (Prod.snd (Prod.snd (Prod.snd (Prod.snd
    (Prod.snd (Prod.snd (Prod.snd x)))))))))), Prod.fst (Prod.snd (Prod.snd (Prod.snd (Prod.snd (Prod.snd (Prod.snd (Prod.snd (Prod.snd (Prod.snd
    (Prod.snd (Prod.snd x))))))))))), Prod.fst (Prod.snd (Prod.snd (Prod.snd (Prod.snd (Prod.snd (Prod.snd (Prod.snd (Prod.snd (Prod.snd (Prod.snd
    (Prod.snd (Prod.snd x)))))))))))), Prod.fst (Prod.snd (Prod.snd (Prod.snd (Prod.snd (Prod.snd (Prod.snd (Prod.snd (Prod.snd (Prod.snd (Prod.snd
    (Prod.snd (Prod.snd (Prod.snd x))))))))))))), Prod.fst (Prod.snd (Prod.snd (Prod.snd (Prod.snd (Prod.snd (Prod.snd (Prod.snd (Prod.snd (Prod.snd
    (Prod.snd (Prod.snd (Prod.snd (Prod.snd (Prod.snd x)))))))))))))), Prod.fst (Prod.snd (Prod.snd (Prod.snd (Prod.snd (Prod.snd (Prod.snd (Prod.snd
    (Prod.snd (Prod.snd (Prod.snd (Prod.snd (Prod.snd (Prod.snd (Prod.snd (Prod.snd x))))))))))))))), Prod.fst (Prod.snd (Prod.snd (Prod.snd (Prod.snd
    (Prod.snd (Prod.snd (Prod.snd (Prod.snd (Prod.snd (Prod.snd (Prod.snd (Prod.snd (Prod.snd (Prod.snd (Prod.snd (Prod.snd x)))))))))))))))), Prod.fst
    (Prod.snd (Prod.snd (Prod.snd (Prod.snd (Prod.snd (Prod.snd (Prod.snd (Prod.snd (Prod.snd (Prod.snd (Prod.snd (Prod.snd (Prod.snd (Prod.snd
    (Prod.snd (Prod.snd (Prod.snd x))))))))))))))))), Prod.fst (Prod.snd (Prod.snd (Prod.snd (Prod.snd (Prod.snd (Prod.snd (Prod.snd (Prod.snd (Prod.snd
    (Prod.snd (Prod.snd (Prod.snd (Prod.snd (Prod.snd (Prod.snd (Prod.snd (Prod.snd (Prod.snd x)))))))))))))))))), Prod.fst (Prod.snd (Prod.snd
    (Prod.snd (Prod.snd (Prod.snd (Prod.snd (Prod.snd (Prod.snd (Prod.snd (Prod.snd (Prod.snd (Prod.snd (Prod.snd (Prod.snd (Prod.snd (Prod.snd
    (Prod.snd (Prod.snd (Prod.snd x))))))))))))))))))), Prod.fst (Prod.snd (Prod.snd (Prod.snd (Prod.snd (Prod.snd (Prod.snd (Prod.snd (Prod.snd
    (Prod.snd (Prod.snd (Prod.snd (Prod.snd (Prod.snd (Prod.snd (Prod.snd (Prod.snd (Prod.snd (Prod.snd (Prod.snd (Prod.snd x)))))))))))))))))))),
    Prod.snd (Prod.snd (Prod.snd (Prod.snd (Prod.snd (Prod.snd (Prod.snd (Prod.snd (Prod.snd (Prod.snd (Prod.snd (Prod.snd (Prod.snd (Prod.snd (Prod.snd
    (Prod.snd (Prod.snd (Prod.snd (Prod.snd (Prod.snd (Prod.snd x))))))))))))))))))))]) fun (b_3 : Int) => some (decide (b = wr IntKind.u32
    (↑(BitVec.toNat (BitVec.ofInt (32 : Nat) (wr IntKind.u32 (↑(BitVec.toNat (BitVec.ofInt (32 : Nat) b_1 ^^^ BitVec.ofInt (32 : Nat) b_2)) : Int)) ^^^
    BitVec.ofInt (32 : Nat) b_3)) : Int)))
theorem F_law10_CrcJoin_eq (N : Nat) (x : (Int × Int × Int × Int × Int × Int × Int × Int × Int × Int × Int × Int × Int × Int × Int × Int × Int × Int × Int × Int) × (Int × Int × Int × Int × Int × Int × Int × Int × Int × Int × Int × Int × Int × Int × Int × Int × Int × Int × Int × Int) × Int × Int × Int × Int × Int × Int × Int × Int × Int × Int × Int × Int × Int × Int × Int × Int × Int × Int × Int × Int) : F_law10_CrcJoin (W_crc_Sum N) N x = W_law10_CrcJoin N x := (FV_law10_CrcJoin_eq (W_crc_Sum N) N x).trans (by kernel_rfl)
noncomputable def conw_law10_CrcJoin (w : (Int × Int × Int × Int × Int × Int × Int × Int × Int × Int × Int × Int × Int × Int × Int × Int × Int × Int × Int × Int) × (Int × Int × Int × Int × Int × Int × Int × Int × Int × Int × Int × Int × Int × Int × Int × Int × Int × Int × Int × Int) × Int × Int × Int × Int × Int × Int × Int × Int × Int × Int × Int × Int × Int × Int × Int × Int × Int × Int × Int × Int → Option (Bool)) : Con := ⟨12, as_law10_CrcJoin, bs_law10_CrcJoin, Bool, w, out_law10_CrcJoin⟩
noncomputable def con_law10_CrcJoin (N : Nat) : Con := conw_law10_CrcJoin (W_law10_CrcJoin N)
theorem R_law10_CrcJoin_eq (x : (Int × Int × Int × Int × Int × Int × Int × Int × Int × Int × Int × Int × Int × Int × Int × Int × Int × Int × Int × Int) × (Int × Int × Int × Int × Int × Int × Int × Int × Int × Int × Int × Int × Int × Int × Int × Int × Int × Int × Int × Int) × Int × Int × Int × Int × Int × Int × Int × Int × Int × Int × Int × Int × Int × Int × Int × Int × Int × Int × Int × Int) (y : Bool) : retOf2 P0 Try.f12 (kpL []) (lbOf as_law10_CrcJoin bs_law10_CrcJoin x) (patS ⟨39, [], [], []⟩ pout_law10_CrcJoin y) = some (out_law10_CrcJoin y) := by kernel_rfl
theorem con_law10_CrcJoin_ok (N : Nat) : Con.ok P0 (con_law10_CrcJoin N) := ⟨⟨Try.f12, Try.func12, by kernel_rfl, by kernel_rfl⟩, fun (x : (Int × Int × Int × Int × Int × Int × Int × Int × Int × Int × Int × Int × Int × Int × Int × Int × Int × Int × Int × Int) × (Int × Int × Int × Int × Int × Int × Int × Int × Int × Int × Int × Int × Int × Int × Int × Int × Int × Int × Int × Int) × Int × Int × Int × Int × Int × Int × Int × Int × Int × Int × Int × Int × Int × Int × Int × Int × Int × Int × Int × Int) (r : Bool) (hr : W_law10_CrcJoin N x = some r) =>
  spec2_evT (Γ := G_law10_CrcJoin (W_crc_Sum N) N) (Λ := L0) (pout := pout_law10_CrcJoin) (kp := kpL []) mixed (orcOf_ok _ (by simp only [List.mem_cons, List.not_mem_nil, or_false, forall_eq_or_imp, forall_eq]; exact ⟨con_law10_begun_ok N, con_crc_Sum_ok N⟩)) Try.func12 (c := bodyOf Try.f12) (by kernel_rfl) (by kernel_rfl) (of_decide_eq_true (by kernel_rfl)) ((F_law10_CrcJoin_eq N x).trans hr) (R_law10_CrcJoin_eq x r)⟩
/-! What is reckoned. -/
-- PURE
theorem wr_s {z : Int} (h : 0 ≤ z) (h2 : z ≤ 140737488355328) : wr .i64 z = z := wr_i64 (by omega) (by omega)
theorem wr_u32 {z : Int} (h : 0 ≤ z) (h2 : z ≤ 4294967295) : wr .u32 z = z := by
  have e1 : lo .u32 = 0 := by rfl
  have e2 : hi .u32 = 4294967295 := by rfl
  unfold wr
  rw [if_pos ⟨by omega, by omega⟩]
theorem wr_i32 {z : Int} (h : -2147483648 ≤ z) (h2 : z ≤ 2147483647) : wr .i32 z = z := by
  have e1 : lo .i32 = -2147483648 := by rfl
  have e2 : hi .i32 = 2147483647 := by rfl
  unfold wr
  rw [if_pos ⟨by omega, by omega⟩]
theorem getD_memI {l : List Int} {j : Nat} (h : j < l.length) : l.getD j 0 ∈ l := by
  rw [List.getD_eq_getElem?_getD, List.getElem?_eq_getElem h]; exact List.getElem_mem h
/-- Exclusive or. -/
def X (a b : Int) : Int := ((BitVec.ofInt 32 a ^^^ BitVec.ofInt 32 b).toNat : Int)
theorem X_rng (a b : Int) : 0 ≤ X a b ∧ X a b ≤ 4294967295 := by
  unfold X
  have := (BitVec.ofInt 32 a ^^^ BitVec.ofInt 32 b).isLt
  omega
theorem X_wr (a b : Int) : wr .u32 ((BitVec.ofInt 32 a ^^^ BitVec.ofInt 32 b).toNat : Int) = X a b := wr_u32 (X_rng a b).1 (X_rng a b).2
theorem and_one (v : Int) (h : 0 ≤ v) (h2 : v ≤ 4294967295) : wr .u32 ((BitVec.ofInt 32 v &&& BitVec.ofInt 32 1).toNat : Int) = v % 2 := by
  have e : (BitVec.ofInt 32 v &&& BitVec.ofInt 32 1).toNat = (v % 2).toNat := by
    rw [BitVec.toNat_and, BitVec.toNat_ofInt, BitVec.toNat_ofInt]
    have e1 : ((1 : Int) % ((2 ^ 32 : Nat) : Int)).toNat = 1 := by decide
    have e2 : (v % ((2 ^ 32 : Nat) : Int)).toNat = v.toNat := by
      have : v % ((2 ^ 32 : Nat) : Int) = v := Int.emod_eq_of_lt h (by omega)
      rw [this]
    rw [e1, e2, Nat.and_one_is_mod]
    omega
  rw [e, wr_u32 (by omega) (by omega)]
  omega
def s1 (c : Int) : Int := if c % 2 = 1 then X (c / 2) 3988292384 else c / 2
theorem s1_rng {c : Int} (h : 0 ≤ c) (h2 : c ≤ 4294967295) : 0 ≤ s1 c ∧ s1 c ≤ 4294967295 := by
  unfold s1
  split
  · exact X_rng _ _
  · omega
def s1n : Nat → Int → Int
  | 0, c => c
  | n + 1, c => s1 (s1n n c)
theorem s1n_rng {c : Int} (h : 0 ≤ c) (h2 : c ≤ 4294967295) : ∀ n, 0 ≤ s1n n c ∧ s1n n c ≤ 4294967295
  | 0 => ⟨h, h2⟩
  | n + 1 => s1_rng (s1n_rng h h2 n).1 (s1n_rng h h2 n).2
/-- Eight times. -/
theorem loop8 {N : Nat} (hN : 9 ≤ N) {f : Int × Int → Option ((Int × Int) ⊕ Int)} {c : Int} (h : 0 ≤ c) (h2 : c ≤ 4294967295) (hf : ∀ v : Int × Int, 0 ≤ v.1 → v.1 ≤ 4294967295 → 0 ≤ v.2 → v.2 < 8 → f v = some (.inl (s1 v.1, v.2 + 1)))
    (he : ∀ v : Int × Int, ¬ v.2 < 8 → f v = some (.inr v.1)) : loopN N f (c, 0) = some (s1n 8 c) := by
  obtain ⟨r, h1, h3⟩ := loopN_run (N := N) (f := f) (x := (c, 0)) (fun v => 0 ≤ v.2 ∧ v.2 ≤ 8 ∧ v.1 = s1n v.2.toNat c) (fun v => 8 - v.2.toNat) (fun r => r = s1n 8 c) (fun v ⟨g1, g2, g3⟩ => by
    by_cases hv : v.2 < 8
    · left
      have hr := s1n_rng h h2 v.2.toNat
      rw [hf v (by omega) (by omega) g1 hv]
      refine ⟨_, rfl, ⟨by simp only; omega, by simp only; omega, ?_⟩, by simp only; omega⟩
      simp only
      rw [show (v.2 + 1).toNat = v.2.toNat + 1 by omega, g3]; rfl
    · right
      rw [he v hv]
      refine ⟨_, rfl, ?_⟩
      rw [g3, show v.2.toNat = 8 by omega]) ⟨by simp, by simp, rfl⟩ (by simp; omega)
  rw [h1, h3]
def fold (c : Int) (l : List Int) : Int := l.foldl (fun c b => s1n 8 (X c b)) c
theorem fold_snoc (c : Int) (l : List Int) (b : Int) : fold c (l ++ [b]) = s1n 8 (X (fold c l) b) := by simp [fold]
theorem fold_rng {c : Int} (h : 0 ≤ c) (h2 : c ≤ 4294967295) : ∀ l : List Int, 0 ≤ fold c l ∧ fold c l ≤ 4294967295 := by
  intro l
  induction l generalizing c with
  | nil => exact ⟨h, h2⟩
  | cons b r ih =>
    have hx := X_rng c b
    have := s1n_rng hx.1 hx.2 8
    exact ih this.1 this.2
/-- All bytes. -/
theorem loopB {N : Nat} {x : List Int} (hN : x.length < N) {f : Int × Int → Option ((Int × Int) ⊕ Int)} (hf : ∀ v : Int × Int, 0 ≤ v.1 → v.1 ≤ 4294967295 → 0 ≤ v.2 → v.2 < x.length → f v = some (.inl (s1n 8 (X v.1 (x.getD v.2.toNat 0)), v.2 + 1)))
    (he : ∀ v : Int × Int, ¬ v.2 < x.length → f v = some (.inr v.1)) : loopN N f (4294967295, 0) = some (fold 4294967295 x) := by
  obtain ⟨r, h1, h3⟩ := loopN_run (N := N) (f := f) (x := (4294967295, 0)) (fun v => 0 ≤ v.2 ∧ v.2 ≤ x.length ∧ v.1 = fold 4294967295 (x.take v.2.toNat)) (fun v => x.length - v.2.toNat) (fun r => r = fold 4294967295 x) (fun v ⟨g1, g2, g3⟩ => by
    by_cases hv : v.2 < x.length
    · left
      have hr := fold_rng (c := 4294967295) (by omega) (by omega) (x.take v.2.toNat)
      rw [hf v (by omega) (by omega) g1 hv]
      refine ⟨_, rfl, ⟨by simp only; omega, by simp only; omega, ?_⟩, by simp only; omega⟩
      simp only
      have hl : v.2.toNat < x.length := by omega
      have e : x.take (v.2.toNat + 1) = x.take v.2.toNat ++ [x.getD v.2.toNat 0] := by
        rw [List.getD_eq_getElem?_getD, List.getElem?_eq_getElem hl]
        simp
      rw [show (v.2 + 1).toNat = v.2.toNat + 1 by omega, e, fold_snoc, g3]
    · right
      rw [he v hv]
      refine ⟨_, rfl, ?_⟩
      rw [g3, List.take_of_length_le (by omega)]) ⟨by simp, by simp, rfl⟩ (by simp; omega)
  rw [h1, h3]
theorem obind_self {α : Type} (m : Option α) : obind m (fun b => some b) = m := by cases m <;> rfl
theorem step_eq (N : Nat) (hN : 9 ≤ N) (c b : Int) (hb : 0 ≤ b ∧ b ≤ 255) : W_crc_step N (c, b) = some (s1n 8 (X c b)) := by
  unfold W_crc_step
  simp only
  rw [obind_self, wr_u32 (z := b) (by omega) (by omega), X_wr]
  refine loop8 hN (X_rng c b).1 (X_rng c b).2 (fun v g1 g2 g3 g4 => ?_) (fun v h => by rw [dF h, cnd_f])
  rw [dT g4, cnd_t, and_one _ g1 g2, X_wr, wr_s (by omega) (by omega)]
  have e : Int.fdiv v.1 ((2 : Int) ^ 1) = v.1 / 2 := Int.fdiv_eq_ediv_of_nonneg _ (by decide)
  rw [e]
  unfold s1
  by_cases h : v.1 % 2 = 1
  · rw [dT h, cnd_t, if_pos h]
  · rw [dF h, cnd_f, if_neg h]
theorem Sum_eq (N : Nat) (x : List Int) (hN : 9 ≤ N) (hx : x.length < N) (hl : x.length ≤ 1000000) (h : ∀ b ∈ x, 0 ≤ b ∧ b ≤ 255) : W_crc_Sum N x = some (X (IntKind.max .u32) (fold 4294967295 x)) := by
  unfold W_crc_Sum
  rw [loopB hx (fun v g1 g2 g3 g4 => ?_) (fun v h => by rw [dF h, cnd_f]), obind_s, X_wr]
  have hb := h _ (getD_memI (l := x) (j := v.2.toNat) (by omega))
  rw [dT g4, cnd_t, dT g3, Bool.and_self, cnd_t, wr_i32 (by omega) (by omega), step_eq N hN _ _ hb, obind_s, wr_s (by omega) (by omega)]
/-! One bit's step on numbers, and what it does to sums. -/
def PP : Nat := 3988292384
def tq (c : Nat) : Nat := (c >>> 1) ^^^ (if c % 2 = 1 then PP else 0)
theorem xor_mod2 (a b : Nat) : (a ^^^ b) % 2 = (a % 2 + b % 2) % 2 := by
  have h : ∀ n : Nat, n % 2 = if n.testBit 0 then 1 else 0 := fun n => by
    rw [Nat.testBit_zero]
    have := Nat.mod_two_eq_zero_or_one n
    by_cases h : n % 2 = 1
    · simp [h]
    · simp [show n % 2 = 0 by omega]
  rw [h (a ^^^ b), h a, h b, Nat.testBit_xor]
  cases a.testBit 0 <;> cases b.testBit 0 <;> rfl
theorem tq_xor (a b : Nat) : tq (a ^^^ b) = tq a ^^^ tq b := by
  unfold tq
  rw [Nat.shiftRight_xor_distrib, xor_mod2]
  have ha := Nat.mod_two_eq_zero_or_one a
  have hb := Nat.mod_two_eq_zero_or_one b
  have e : ∀ p q r s : Nat, (p ^^^ q) ^^^ (r ^^^ s) = (p ^^^ r) ^^^ (q ^^^ s) := fun p q r s => by
    rw [Nat.xor_assoc, Nat.xor_assoc, ← Nat.xor_assoc q r s, Nat.xor_comm q r, Nat.xor_assoc r q s]
  rcases ha with ha | ha <;> rcases hb with hb | hb <;> simp only [ha, hb]
  · simp
  · simp [Nat.xor_assoc]
  · simp only [if_true, show ¬ (0 = 1) by omega, if_false, Nat.xor_zero]
    rw [Nat.xor_assoc, Nat.xor_comm (b >>> 1), ← Nat.xor_assoc]
  · simp only [show (1 + 1) % 2 = 0 from rfl, show ¬ (0 = 1) by omega, if_false, if_true, Nat.xor_zero]
    rw [← e, Nat.xor_self, Nat.xor_zero]
def tqn : Nat → Nat → Nat
  | 0, c => c
  | n + 1, c => tqn n (tq c)
theorem tqn_xor : ∀ (n a b : Nat), tqn n (a ^^^ b) = tqn n a ^^^ tqn n b
  | 0, a, b => rfl
  | n + 1, a, b => by simp only [tqn]; rw [tq_xor, tqn_xor n]
theorem tqn_add : ∀ (m n c : Nat), tqn (m + n) c = tqn n (tqn m c)
  | 0, n, c => by rw [Nat.zero_add]; rfl
  | m + 1, n, c => by rw [show m + 1 + n = (m + n) + 1 by omega]; simp only [tqn]; exact tqn_add m n _
theorem tq_two (x : Nat) : tq (x * 2) = x := by
  unfold tq
  rw [if_neg (by omega), Nat.xor_zero, Nat.shiftRight_eq_div_pow]
  omega
theorem tqn_shl : ∀ (n x : Nat), tqn n (x * 2 ^ n) = x
  | 0, x => by simp [tqn]
  | n + 1, x => by
    simp only [tqn]
    rw [Nat.pow_succ, ← Nat.mul_assoc, tq_two, tqn_shl n x]
theorem tqn_zero (n : Nat) : tqn n 0 = 0 := by
  have := tqn_shl n 0
  rwa [Nat.zero_mul] at this
theorem tq_lt {c : Nat} (h : c < 2 ^ 32) : tq c < 2 ^ 32 := by
  unfold tq
  refine Nat.xor_lt_two_pow ?_ ?_
  · rw [Nat.shiftRight_eq_div_pow]; omega
  · split
    · unfold PP; omega
    · omega
theorem tq_ne {c : Nat} (h : c < 2 ^ 32) (h0 : c ≠ 0) : tq c ≠ 0 := by
  unfold tq
  intro e
  split at e
  · have e2 : c >>> 1 = PP := by
      have := congrArg (· ^^^ PP) e
      simp only [Nat.zero_xor] at this
      rwa [Nat.xor_assoc, Nat.xor_self, Nat.xor_zero] at this
    rw [Nat.shiftRight_eq_div_pow] at e2
    unfold PP at e2
    omega
  · rw [Nat.xor_zero, Nat.shiftRight_eq_div_pow] at e
    omega
theorem tqn_ne : ∀ (n : Nat) {c : Nat}, c < 2 ^ 32 → c ≠ 0 → tqn n c ≠ 0
  | 0, _, _, h0 => h0
  | n + 1, _, h, h0 => tqn_ne n (tq_lt h) (tq_ne h h0)
def fq (c : Nat) (l : List Nat) : Nat := l.foldl (fun c b => tqn 8 (c ^^^ b)) c
theorem fq_append (c : Nat) (a b : List Nat) : fq c (a ++ b) = fq (fq c a) b := by simp [fq]
theorem fq_xor : ∀ (l m : List Nat) (c d : Nat), l.length = m.length → fq (c ^^^ d) (List.zipWith (· ^^^ ·) l m) = fq c l ^^^ fq d m
  | [], [], c, d, _ => rfl
  | x :: l, y :: m, c, d, h => by
    have e : (c ^^^ d) ^^^ (x ^^^ y) = (c ^^^ x) ^^^ (d ^^^ y) := by rw [Nat.xor_assoc, ← Nat.xor_assoc d x y, Nat.xor_comm d x, Nat.xor_assoc x d y, ← Nat.xor_assoc]
    show fq (tqn 8 ((c ^^^ d) ^^^ (x ^^^ y))) (List.zipWith (· ^^^ ·) l m) = _
    rw [e, tqn_xor, fq_xor l m _ _ (by simpa using h)]
    rfl
  | [], _ :: _, _, _, h => by simp at h
  | _ :: _, [], _, _, h => by simp at h
theorem fq_zeros : ∀ (n c : Nat), fq c (List.replicate n 0) = tqn (8 * n) c
  | 0, c => rfl
  | n + 1, c => by
    show fq (tqn 8 (c ^^^ 0)) (List.replicate n 0) = _
    rw [Nat.xor_zero, fq_zeros n, show 8 * (n + 1) = 8 + 8 * n by omega, tqn_add]
/-! The sums of the program, as those on numbers. -/
theorem X_nat {a b : Int} (ha : 0 ≤ a) (ha2 : a ≤ 4294967295) (hb : 0 ≤ b) (hb2 : b ≤ 4294967295) : X a b = ((a.toNat ^^^ b.toNat : Nat) : Int) := by
  unfold X
  rw [BitVec.toNat_xor, BitVec.toNat_ofInt, BitVec.toNat_ofInt]
  have e : ∀ v : Int, 0 ≤ v → v ≤ 4294967295 → (v % ((2 ^ 32 : Nat) : Int)).toNat = v.toNat := fun v h h2 => by
    have : v % ((2 ^ 32 : Nat) : Int) = v := Int.emod_eq_of_lt h (by omega)
    rw [this]
  rw [e a ha ha2, e b hb hb2]
theorem s1_nat {c : Int} (h : 0 ≤ c) (h2 : c ≤ 4294967295) : s1 c = (tq c.toNat : Nat) := by
  unfold s1 tq
  have e : c.toNat >>> 1 = (c / 2).toNat := by rw [Nat.shiftRight_eq_div_pow]; omega
  by_cases hc : c % 2 = 1
  · rw [if_pos hc, if_pos (by omega), X_nat (by omega) (by omega) (by omega) (by omega), e]; rfl
  · rw [if_neg hc, if_neg (by omega), Nat.xor_zero, e]; omega
theorem s1n_nat {c : Int} (h : 0 ≤ c) (h2 : c ≤ 4294967295) : ∀ n, s1n n c = (tqn n c.toNat : Nat)
  | 0 => by simp only [s1n, tqn]; omega
  | n + 1 => by
    have hr := s1n_rng h h2 n
    show s1 (s1n n c) = _
    rw [s1_nat hr.1 hr.2, s1n_nat h h2 n, Int.toNat_natCast, tqn_add n 1]
    rfl
theorem fold_nat : ∀ (l : List Int) (c : Int), 0 ≤ c → c ≤ 4294967295 → (∀ b ∈ l, 0 ≤ b ∧ b ≤ 255) → fold c l = (fq c.toNat (l.map Int.toNat) : Nat)
  | [], c, h, h2, _ => by simp only [fold, fq, List.foldl_nil, List.map_nil]; omega
  | b :: r, c, h, h2, hb => by
    have hb0 := hb b (by simp)
    have hx := X_rng c b
    have hr := s1n_rng hx.1 hx.2 8
    show fold (s1n 8 (X c b)) r = _
    rw [fold_nat r _ hr.1 hr.2 (fun x hx => hb x (by simp [hx])), s1n_nat hx.1 hx.2, Int.toNat_natCast, X_nat h h2 hb0.1 (by omega), Int.toNat_natCast]
    rfl
theorem wr_u8m {z : Int} : wr .u8 z = z % 256 := by rw [wr_eq]; simp [IntKind.wrap, IntKind.bits, IntKind.signed]
theorem xor8 {a b : Int} (ha : 0 ≤ a ∧ a ≤ 255) (hb : 0 ≤ b ∧ b ≤ 255) : wr .u8 ((BitVec.toNat (BitVec.ofInt 8 a ^^^ BitVec.ofInt 8 b) : Nat) : Int) = ((a.toNat ^^^ b.toNat : Nat) : Int) := by
  have hl : a.toNat ^^^ b.toNat < 2 ^ 8 := Nat.xor_lt_two_pow (by omega) (by omega)
  rw [BitVec.toNat_xor, BitVec.toNat_ofInt, BitVec.toNat_ofInt]
  have e : ∀ v : Int, 0 ≤ v ∧ v ≤ 255 → (v % ((2 ^ 8 : Nat) : Int)).toNat = v.toNat := fun v h => by
    have : v % ((2 ^ 8 : Nat) : Int) = v := Int.emod_eq_of_lt h.1 (by omega)
    rw [this]
  rw [e a ha, e b hb, wr_u8 (by omega) (by omega)]

def x8 (a b : Int) : Int := wr .u8 ((BitVec.toNat (BitVec.ofInt 8 a ^^^ BitVec.ofInt 8 b) : Nat) : Int)
def U8l (l : List Int) : Prop := ∀ b ∈ l, 0 ≤ b ∧ b ≤ 255
theorem x8_rng {a b : Int} (ha : 0 ≤ a ∧ a ≤ 255) (hb : 0 ≤ b ∧ b ≤ 255) : 0 ≤ x8 a b ∧ x8 a b ≤ 255 := by
  unfold x8
  rw [xor8 ha hb]
  have hl : a.toNat ^^^ b.toNat < 2 ^ 8 := Nat.xor_lt_two_pow (by omega) (by omega)
  omega
theorem zip_u8 : ∀ (l m : List Int), U8l l → U8l m → U8l (List.zipWith x8 l m) ∧ (List.zipWith x8 l m).map Int.toNat = List.zipWith (· ^^^ ·) (l.map Int.toNat) (m.map Int.toNat)
  | [], m, _, _ => ⟨fun b hb => by simp at hb, by simp⟩
  | x :: l, [], _, _ => ⟨fun b hb => by simp at hb, by simp⟩
  | x :: l, y :: m, hl, hm => by
    obtain ⟨h1, h2⟩ := zip_u8 l m (fun b hb => hl b (by simp [hb])) (fun b hb => hm b (by simp [hb]))
    have hx := hl x (by simp)
    have hy := hm y (by simp)
    refine ⟨fun b hb => ?_, ?_⟩
    · rcases List.mem_cons.1 hb with rfl | hb
      · exact x8_rng hx hy
      · exact h1 b hb
    · simp only [List.zipWith_cons_cons, List.map_cons, h2]
      congr 1
      unfold x8
      rw [xor8 hx hy, Int.toNat_natCast]
theorem join' (M0 : Int) (m0 : 0 ≤ M0) (m1 : M0 ≤ 4294967295) (la lb lc : List Int) (ha : U8l la) (hb : U8l lb) (hc : U8l lc) (h1 : la.length = lb.length) (h2 : la.length = lc.length) :
    X M0 (fold M0 (List.zipWith x8 (List.zipWith x8 la lb) lc)) = X (X (X M0 (fold M0 la)) (X M0 (fold M0 lb))) (X M0 (fold M0 lc)) := by
  obtain ⟨hab, eab⟩ := zip_u8 la lb ha hb
  obtain ⟨habc, eabc⟩ := zip_u8 _ lc hab hc
  have ra := X_rng M0 (fold M0 la)
  have rb := X_rng M0 (fold M0 lb)
  have rc := X_rng M0 (fold M0 lc)
  have rab := X_rng (X M0 (fold M0 la)) (X M0 (fold M0 lb))
  have fa := fold_rng m0 m1 la
  have fb := fold_rng m0 m1 lb
  have fc := fold_rng m0 m1 lc
  have fd := fold_rng m0 m1 (List.zipWith x8 (List.zipWith x8 la lb) lc)
  rw [X_nat rab.1 rab.2 rc.1 rc.2, X_nat ra.1 ra.2 rb.1 rb.2, X_nat m0 m1 fa.1 fa.2, X_nat m0 m1 fb.1 fb.2, X_nat m0 m1 fc.1 fc.2, X_nat m0 m1 fd.1 fd.2, fold_nat la M0 m0 m1 ha, fold_nat lb M0 m0 m1 hb, fold_nat lc M0 m0 m1 hc, fold_nat _ M0 m0 m1 habc, eabc, eab]
  simp only [Int.toNat_natCast]
  generalize M0.toNat = M
  have l1 : (la.map Int.toNat).length = (lb.map Int.toNat).length := by simpa using h1
  have l2 : (List.zipWith (· ^^^ ·) (la.map Int.toNat) (lb.map Int.toNat)).length = (lc.map Int.toNat).length := by simp [← h1, ← h2]
  have k1 := fq_xor (la.map Int.toNat) (lb.map Int.toNat) M M l1
  have k2 := fq_xor _ (lc.map Int.toNat) (M ^^^ M) M l2
  rw [Nat.xor_self, Nat.zero_xor] at k2
  rw [Nat.xor_self] at k1
  rw [k2, k1]
  generalize fq M (la.map Int.toNat) = A
  generalize fq M (lb.map Int.toNat) = B
  generalize fq M (lc.map Int.toNat) = C
  congr 1
  apply Nat.eq_of_testBit_eq
  intro j
  simp only [Nat.testBit_xor]
  cases M.testBit j <;> cases A.testBit j <;> cases B.testBit j <;> cases C.testBit j <;> rfl
theorem max32 : IntKind.max .u32 = 4294967295 := by decide
theorem join (la lb lc : List Int) (ha : U8l la) (hb : U8l lb) (hc : U8l lc) (h1 : la.length = lb.length) (h2 : la.length = lc.length) :
    X (IntKind.max .u32) (fold 4294967295 (List.zipWith x8 (List.zipWith x8 la lb) lc)) = X (X (X (IntKind.max .u32) (fold 4294967295 la)) (X (IntKind.max .u32) (fold 4294967295 lb))) (X (IntKind.max .u32) (fold 4294967295 lc)) := by
  rw [max32]
  exact join' 4294967295 (by decide) (by decide) la lb lc ha hb hc h1 h2
theorem sum3 (N : Nat) (hN : 100 ≤ N) (la lb lc : List Int) (ha : U8l la) (hb : U8l lb) (hc : U8l lc) (h0 : la.length = 20) (h1 : la.length = lb.length) (h2 : la.length = lc.length) :
    (obind (W_crc_Sum N (List.zipWith x8 (List.zipWith x8 la lb) lc)) fun (b : Int) => obind (W_crc_Sum N la) fun (b_1 : Int) => obind (W_crc_Sum N lb) fun (b_2 : Int) => obind (W_crc_Sum N lc) fun (b_3 : Int) => some (decide (b = wr IntKind.u32 (↑(BitVec.toNat (BitVec.ofInt (32 : Nat) (wr IntKind.u32 (↑(BitVec.toNat (BitVec.ofInt (32 : Nat) b_1 ^^^ BitVec.ofInt (32 : Nat) b_2)) : Int)) ^^^ BitVec.ofInt (32 : Nat) b_3)) : Int)))) = some true := by
  obtain ⟨hab, _⟩ := zip_u8 la lb ha hb
  obtain ⟨habc, _⟩ := zip_u8 _ lc hab hc
  have hl : (List.zipWith x8 (List.zipWith x8 la lb) lc).length = 20 := by simp [← h1, ← h2, h0]
  rw [Sum_eq N _ (by omega) (by omega) (by omega) habc, obind_s, Sum_eq N la (by omega) (by omega) (by omega) ha, obind_s, Sum_eq N lb (by omega) (by omega) (by omega) hb, obind_s, Sum_eq N lc (by omega) (by omega) (by omega) hc, obind_s, X_wr, X_wr, dT (join la lb lc ha hb hc h1 h2)]
theorem law_aux (N : Nat) (hN : 100 ≤ N) (a0 a1 a2 a3 a4 a5 a6 a7 a8 a9 a10 a11 a12 a13 a14 a15 a16 a17 a18 a19 b0 b1 b2 b3 b4 b5 b6 b7 b8 b9 b10 b11 b12 b13 b14 b15 b16 b17 b18 b19 c0 c1 c2 c3 c4 c5 c6 c7 c8 c9 c10 c11 c12 c13 c14 c15 c16 c17 c18 c19 : Int) (ha : U8l [a0, a1, a2, a3, a4, a5, a6, a7, a8, a9, a10, a11, a12, a13, a14, a15, a16, a17, a18, a19]) (hb : U8l [b0, b1, b2, b3, b4, b5, b6, b7, b8, b9, b10, b11, b12, b13, b14, b15, b16, b17, b18, b19]) (hc : U8l [c0, c1, c2, c3, c4, c5, c6, c7, c8, c9, c10, c11, c12, c13, c14, c15, c16, c17, c18, c19]) : W_law10_CrcJoin N ((a0, a1, a2, a3, a4, a5, a6, a7, a8, a9, a10, a11, a12, a13, a14, a15, a16, a17, a18, a19), (b0, b1, b2, b3, b4, b5, b6, b7, b8, b9, b10, b11, b12, b13, b14, b15, b16, b17, b18, b19), c0, c1, c2, c3, c4, c5, c6, c7, c8, c9, c10, c11, c12, c13, c14, c15, c16, c17, c18, c19) = some true :=
  sum3 N hN [a0, a1, a2, a3, a4, a5, a6, a7, a8, a9, a10, a11, a12, a13, a14, a15, a16, a17, a18, a19] [b0, b1, b2, b3, b4, b5, b6, b7, b8, b9, b10, b11, b12, b13, b14, b15, b16, b17, b18, b19] [c0, c1, c2, c3, c4, c5, c6, c7, c8, c9, c10, c11, c12, c13, c14, c15, c16, c17, c18, c19] ha hb hc rfl rfl rfl
theorem mk20 (a : Int × Int × Int × Int × Int × Int × Int × Int × Int × Int × Int × Int × Int × Int × Int × Int × Int × Int × Int × Int) (h : Twf (.agg (.pair (.int .u8) (.pair (.int .u8) (.pair (.int .u8) (.pair (.int .u8) (.pair (.int .u8) (.pair (.int .u8) (.pair (.int .u8) (.pair (.int .u8) (.pair (.int .u8) (.pair (.int .u8) (.pair (.int .u8) (.pair (.int .u8) (.pair (.int .u8) (.pair (.int .u8) (.pair (.int .u8) (.pair (.int .u8) (.pair (.int .u8) (.pair (.int .u8) (.pair (.int .u8) (.int .u8))))))))))))))))))))) a) : U8l [a.1, a.2.1, a.2.2.1, a.2.2.2.1, a.2.2.2.2.1, a.2.2.2.2.2.1, a.2.2.2.2.2.2.1, a.2.2.2.2.2.2.2.1, a.2.2.2.2.2.2.2.2.1, a.2.2.2.2.2.2.2.2.2.1, a.2.2.2.2.2.2.2.2.2.2.1, a.2.2.2.2.2.2.2.2.2.2.2.1, a.2.2.2.2.2.2.2.2.2.2.2.2.1, a.2.2.2.2.2.2.2.2.2.2.2.2.2.1, a.2.2.2.2.2.2.2.2.2.2.2.2.2.2.1, a.2.2.2.2.2.2.2.2.2.2.2.2.2.2.2.1, a.2.2.2.2.2.2.2.2.2.2.2.2.2.2.2.2.1, a.2.2.2.2.2.2.2.2.2.2.2.2.2.2.2.2.2.1, a.2.2.2.2.2.2.2.2.2.2.2.2.2.2.2.2.2.2.1, a.2.2.2.2.2.2.2.2.2.2.2.2.2.2.2.2.2.2.2] := by
  obtain ⟨a0, a1, a2, a3, a4, a5, a6, a7, a8, a9, a10, a11, a12, a13, a14, a15, a16, a17, a18, a19⟩ := a
  obtain ⟨q0, q1, q2, q3, q4, q5, q6, q7, q8, q9, q10, q11, q12, q13, q14, q15, q16, q17, q18, q19⟩ := h
  intro b hb
  simp only [List.mem_cons, List.not_mem_nil, or_false] at hb
  rcases hb with rfl | rfl | rfl | rfl | rfl | rfl | rfl | rfl | rfl | rfl | rfl | rfl | rfl | rfl | rfl | rfl | rfl | rfl | rfl | rfl <;> assumption
def NN : Nat := 100
theorem law_true (y0 : Int × Int × Int × Int × Int × Int × Int × Int × Int × Int × Int × Int × Int × Int × Int × Int × Int × Int × Int × Int) (y1 : Int × Int × Int × Int × Int × Int × Int × Int × Int × Int × Int × Int × Int × Int × Int × Int × Int × Int × Int × Int) (y2 : Int × Int × Int × Int × Int × Int × Int × Int × Int × Int × Int × Int × Int × Int × Int × Int × Int × Int × Int × Int) (h0 : Twf (.agg (.pair (.int .u8) (.pair (.int .u8) (.pair (.int .u8) (.pair (.int .u8) (.pair (.int .u8) (.pair (.int .u8) (.pair (.int .u8) (.pair (.int .u8) (.pair (.int .u8) (.pair (.int .u8) (.pair (.int .u8) (.pair (.int .u8) (.pair (.int .u8) (.pair (.int .u8) (.pair (.int .u8) (.pair (.int .u8) (.pair (.int .u8) (.pair (.int .u8) (.pair (.int .u8) (.int .u8))))))))))))))))))))) y0) (h1 : Twf (.agg (.pair (.int .u8) (.pair (.int .u8) (.pair (.int .u8) (.pair (.int .u8) (.pair (.int .u8) (.pair (.int .u8) (.pair (.int .u8) (.pair (.int .u8) (.pair (.int .u8) (.pair (.int .u8) (.pair (.int .u8) (.pair (.int .u8) (.pair (.int .u8) (.pair (.int .u8) (.pair (.int .u8) (.pair (.int .u8) (.pair (.int .u8) (.pair (.int .u8) (.pair (.int .u8) (.int .u8))))))))))))))))))))) y1) (h2 : Twf (.agg (.pair (.int .u8) (.pair (.int .u8) (.pair (.int .u8) (.pair (.int .u8) (.pair (.int .u8) (.pair (.int .u8) (.pair (.int .u8) (.pair (.int .u8) (.pair (.int .u8) (.pair (.int .u8) (.pair (.int .u8) (.pair (.int .u8) (.pair (.int .u8) (.pair (.int .u8) (.pair (.int .u8) (.pair (.int .u8) (.pair (.int .u8) (.pair (.int .u8) (.pair (.int .u8) (.int .u8))))))))))))))))))))) y2) : W_law10_CrcJoin NN (y0, y1, y2) = some true := by
  have k0 := mk20 y0 h0
  have k1 := mk20 y1 h1
  have k2 := mk20 y2 h2
  obtain ⟨a0, a1, a2, a3, a4, a5, a6, a7, a8, a9, a10, a11, a12, a13, a14, a15, a16, a17, a18, a19⟩ := y0
  obtain ⟨b0, b1, b2, b3, b4, b5, b6, b7, b8, b9, b10, b11, b12, b13, b14, b15, b16, b17, b18, b19⟩ := y1
  obtain ⟨c0, c1, c2, c3, c4, c5, c6, c7, c8, c9, c10, c11, c12, c13, c14, c15, c16, c17, c18, c19⟩ := y2
  exact law_aux NN (Nat.le_refl _) a0 a1 a2 a3 a4 a5 a6 a7 a8 a9 a10 a11 a12 a13 a14 a15 a16 a17 a18 a19 b0 b1 b2 b3 b4 b5 b6 b7 b8 b9 b10 b11 b12 b13 b14 b15 b16 b17 b18 b19 c0 c1 c2 c3 c4 c5 c6 c7 c8 c9 c10 c11 c12 c13 c14 c15 c16 c17 c18 c19 k0 k1 k2

theorem spec (y0 : Int × Int × Int × Int × Int × Int × Int × Int × Int × Int × Int × Int × Int × Int × Int × Int × Int × Int × Int × Int) (y1 : Int × Int × Int × Int × Int × Int × Int × Int × Int × Int × Int × Int × Int × Int × Int × Int × Int × Int × Int × Int) (y2 : Int × Int × Int × Int × Int × Int × Int × Int × Int × Int × Int × Int × Int × Int × Int × Int × Int × Int × Int × Int) (h0 : Twf (.agg (.pair (.int .u8) (.pair (.int .u8) (.pair (.int .u8) (.pair (.int .u8) (.pair (.int .u8) (.pair (.int .u8) (.pair (.int .u8) (.pair (.int .u8) (.pair (.int .u8) (.pair (.int .u8) (.pair (.int .u8) (.pair (.int .u8) (.pair (.int .u8) (.pair (.int .u8) (.pair (.int .u8) (.pair (.int .u8) (.pair (.int .u8) (.pair (.int .u8) (.pair (.int .u8) (.int .u8))))))))))))))))))))) y0) (h1 : Twf (.agg (.pair (.int .u8) (.pair (.int .u8) (.pair (.int .u8) (.pair (.int .u8) (.pair (.int .u8) (.pair (.int .u8) (.pair (.int .u8) (.pair (.int .u8) (.pair (.int .u8) (.pair (.int .u8) (.pair (.int .u8) (.pair (.int .u8) (.pair (.int .u8) (.pair (.int .u8) (.pair (.int .u8) (.pair (.int .u8) (.pair (.int .u8) (.pair (.int .u8) (.pair (.int .u8) (.int .u8))))))))))))))))))))) y1) (h2 : Twf (.agg (.pair (.int .u8) (.pair (.int .u8) (.pair (.int .u8) (.pair (.int .u8) (.pair (.int .u8) (.pair (.int .u8) (.pair (.int .u8) (.pair (.int .u8) (.pair (.int .u8) (.pair (.int .u8) (.pair (.int .u8) (.pair (.int .u8) (.pair (.int .u8) (.pair (.int .u8) (.pair (.int .u8) (.pair (.int .u8) (.pair (.int .u8) (.pair (.int .u8) (.pair (.int .u8) (.int .u8))))))))))))))))))))) y2) : Spec2 P0 12 [valW (.agg (.pair (.int .u8) (.pair (.int .u8) (.pair (.int .u8) (.pair (.int .u8) (.pair (.int .u8) (.pair (.int .u8) (.pair (.int .u8) (.pair (.int .u8) (.pair (.int .u8) (.pair (.int .u8) (.pair (.int .u8) (.pair (.int .u8) (.pair (.int .u8) (.pair (.int .u8) (.pair (.int .u8) (.pair (.int .u8) (.pair (.int .u8) (.pair (.int .u8) (.pair (.int .u8) (.int .u8))))))))))))))))))))) y0, valW (.agg (.pair (.int .u8) (.pair (.int .u8) (.pair (.int .u8) (.pair (.int .u8) (.pair (.int .u8) (.pair (.int .u8) (.pair (.int .u8) (.pair (.int .u8) (.pair (.int .u8) (.pair (.int .u8) (.pair (.int .u8) (.pair (.int .u8) (.pair (.int .u8) (.pair (.int .u8) (.pair (.int .u8) (.pair (.int .u8) (.pair (.int .u8) (.pair (.int .u8) (.pair (.int .u8) (.int .u8))))))))))))))))))))) y1, valW (.agg (.pair (.int .u8) (.pair (.int .u8) (.pair (.int .u8) (.pair (.int .u8) (.pair (.int .u8) (.pair (.int .u8) (.pair (.int .u8) (.pair (.int .u8) (.pair (.int .u8) (.pair (.int .u8) (.pair (.int .u8) (.pair (.int .u8) (.pair (.int .u8) (.pair (.int .u8) (.pair (.int .u8) (.pair (.int .u8) (.pair (.int .u8) (.pair (.int .u8) (.pair (.int .u8) (.int .u8))))))))))))))))))))) y2] [] (.bs true) [] [] := (con_law10_CrcJoin_ok NN).2 (y0, y1, y2) true (law_true y0 y1 y2 h0 h1 h2)
theorem lifted (os : Os) (started : os.Started) (H : Type) (enc : TypeId × Value → H) :
    ReturnsInHanded {} Try.checked os 12 .any (Rows.crcJoinSpec.pre6 enc Try.prog Try.f12 Rows.crcJoinRow.domain false) (Rows.crcJoinSpec.post enc Try.prog Try.f12 false true false false) := by
  refine returnsInHanded_of_change (C := Try.checked) own started (by kernel_rfl) Try.func12
    (ChangeSpec.witness6 (enc := enc) (C := Try.checked) false ⟨#[], #[.agg #[.int .u8 0, .int .u8 0, .int .u8 0, .int .u8 0, .int .u8 0, .int .u8 0, .int .u8 0, .int .u8 0, .int .u8 0, .int .u8 0, .int .u8 0, .int .u8 0, .int .u8 0, .int .u8 0, .int .u8 0, .int .u8 0, .int .u8 0, .int .u8 0, .int .u8 0, .int .u8 0], .agg #[.int .u8 0, .int .u8 0, .int .u8 0, .int .u8 0, .int .u8 0, .int .u8 0, .int .u8 0, .int .u8 0, .int .u8 0, .int .u8 0, .int .u8 0, .int .u8 0, .int .u8 0, .int .u8 0, .int .u8 0, .int .u8 0, .int .u8 0, .int .u8 0, .int .u8 0, .int .u8 0], .agg #[.int .u8 0, .int .u8 0, .int .u8 0, .int .u8 0, .int .u8 0, .int .u8 0, .int .u8 0, .int .u8 0, .int .u8 0, .int .u8 0, .int .u8 0, .int .u8 0, .int .u8 0, .int .u8 0, .int .u8 0, .int .u8 0, .int .u8 0, .int .u8 0, .int .u8 0, .int .u8 0]], []⟩ 8 (by kernel_rfl) (by kernel_rfl) (by kernel_rfl) (by kernel_rfl)) ?_
  intro W base args ds gs before hval0 hW hcnd _
  have hval : ∀ (j : Nat) t v, Try.f12.params[j]? = some t → args[j]? = some v → Value.okWide Try.prog W .any base t v := hval0
  have hW' := hW
  obtain ⟨p, q, hA0, hV, rfl, hfz, hnd⟩ := hW
  have hA : DataW.TrodAll enc Try.prog W 0 (fun _ => true) true Try.f12.params.toList args.toList ds p := hA0
  rw [Try.params12] at hA hval
  obtain ⟨v0, vs0, d0, ds0, p0, q0, hargs, rfl, rfl, h0, r0⟩ := trodAll_cons hA
  obtain ⟨v1, vs1, d1, ds1, p1, q1, rfl, rfl, rfl, h1, r1⟩ := trodAll_cons r0
  obtain ⟨v2, vs2, d2, ds2, p2, q2, rfl, rfl, rfl, h2, r2⟩ := trodAll_cons r1
  obtain ⟨rfl, rfl, rfl⟩ := trodAll_nil r2
  obtain rfl : args = #[v0, v1, v2] := by cases args; simp_all
  obtain ⟨rfl, rfl⟩ := trodVars_none hV
  have k0 := h0
  have lt0 : ∀ x ∈ p0, x.block < W.heap.size := by obtain ⟨m, hm⟩ := k0; exact DataW.trod_lt m _ _ _ hm
  obtain ⟨y0, rp0, wf0⟩ := arg_ok (n := 12) (ty := (.agg (.pair (.int .u8) (.pair (.int .u8) (.pair (.int .u8) (.pair (.int .u8) (.pair (.int .u8) (.pair (.int .u8) (.pair (.int .u8) (.pair (.int .u8) (.pair (.int .u8) (.pair (.int .u8) (.pair (.int .u8) (.pair (.int .u8) (.pair (.int .u8) (.pair (.int .u8) (.pair (.int .u8) (.pair (.int .u8) (.pair (.int .u8) (.pair (.int .u8) (.pair (.int .u8) (.int .u8)))))))))))))))))))))) (by kernel_rfl) (hval 0 _ v0 rfl rfl) h0
  have k1 := h1
  have lt1 : ∀ x ∈ p1, x.block < W.heap.size := by obtain ⟨m, hm⟩ := k1; exact DataW.trod_lt m _ _ _ hm
  obtain ⟨y1, rp1, wf1⟩ := arg_ok (n := 12) (ty := (.agg (.pair (.int .u8) (.pair (.int .u8) (.pair (.int .u8) (.pair (.int .u8) (.pair (.int .u8) (.pair (.int .u8) (.pair (.int .u8) (.pair (.int .u8) (.pair (.int .u8) (.pair (.int .u8) (.pair (.int .u8) (.pair (.int .u8) (.pair (.int .u8) (.pair (.int .u8) (.pair (.int .u8) (.pair (.int .u8) (.pair (.int .u8) (.pair (.int .u8) (.pair (.int .u8) (.int .u8)))))))))))))))))))))) (by kernel_rfl) (hval 1 _ v1 rfl rfl) h1
  have k2 := h2
  have lt2 : ∀ x ∈ p2, x.block < W.heap.size := by obtain ⟨m, hm⟩ := k2; exact DataW.trod_lt m _ _ _ hm
  obtain ⟨y2, rp2, wf2⟩ := arg_ok (n := 12) (ty := (.agg (.pair (.int .u8) (.pair (.int .u8) (.pair (.int .u8) (.pair (.int .u8) (.pair (.int .u8) (.pair (.int .u8) (.pair (.int .u8) (.pair (.int .u8) (.pair (.int .u8) (.pair (.int .u8) (.pair (.int .u8) (.pair (.int .u8) (.pair (.int .u8) (.pair (.int .u8) (.pair (.int .u8) (.pair (.int .u8) (.pair (.int .u8) (.pair (.int .u8) (.pair (.int .u8) (.int .u8)))))))))))))))))))))) (by kernel_rfl) (hval 2 _ v2 rfl rfl) h2
  clear hA0 hval0
  refine (law_of2 (spec y0 y1 y2 wf0 wf1 wf2) W #[v0, v1, v2] (.cons rp0 (.cons rp1 (.cons rp2 .nil)))).mono fun e W' ⟨he, bel⟩ => ?_
  subst he
  exact ⟨_, rfl, _, _, _, [], _, [], hW', trodAll_mk1 (shut_bool Try.underlying4 _), (trodAll_cons_mk (Below.trod laidOut (by kernel_rfl) (of_decide_eq_true (by kernel_rfl)) k0 bel lt0) (trodAll_cons_mk (Below.trod laidOut (by kernel_rfl) (of_decide_eq_true (by kernel_rfl)) k1 bel lt1) (trodAll_cons_mk (Below.trod laidOut (by kernel_rfl) (of_decide_eq_true (by kernel_rfl)) k2 bel lt2) trodAll_mk0))), rfl, bel.frame _, fun h => by cases h⟩

theorem over : Rows.crcJoinRow.holds Try.pinned (OpenSpec.ofChange Rows.crcJoinSpec) :=
  OpenClaim.holds_of_wide 12 Try.f12 rfl rfl rfl rfl rfl rfl rfl ⟨rfl, rfl, rfl, rfl, rfl⟩ rfl rfl rfl rfl rfl (by kernel_rfl) Try.func12 (by kernel_rfl)
    (of_decide_eq_true (by kernel_rfl)) (by unfold Func.isWrapper; first | (rw [if_pos (by decide +kernel)]; kernel_rfl) | (rw [if_neg (by decide +kernel)]; exact ⟨rfl, rfl⟩))
    (fun os started H enc _ => lifted os started H enc)

theorem holds : Rows.CrcJoinSaid := over
end Go.Proofs.Ytfiiigeigiaaeaa.crcJoinX
