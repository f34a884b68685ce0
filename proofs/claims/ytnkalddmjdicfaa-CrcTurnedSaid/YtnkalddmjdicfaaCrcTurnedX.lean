/- CrcTurned: for all arguments the call returns true. The law is brought to a function of Lean's own (W_..) by the machine of the texts beside it, and that is reckoned; no condition. -/
import Derived.Test.YtnkalddmjdicfaaExtL
import Derived.Test.YtnkalddmjdicfaaRows
import Derived.WalkKit
import Derived.ProofKit
import Derived.OpenShut
import Derived.ShutString
import Derived.ChangeOld
import Derived.Below
namespace Go.Proofs.Ytnkalddmjdicfaa.crcTurnedX
open Go.Abs Go.RowKit Go.ChangeShapes Go.WideShapes Go.ChangeAt
set_option maxRecDepth 100000
set_option linter.unusedVariables false
set_option linter.unusedSimpArgs false
noncomputable abbrev P0 : Program := Try.prog
noncomputable def bodyOf (fn : Func) : Code := fn.body.getD .skip
def L0 : Lend := fun f => aget [] [(73, [0])] f
def kpL (l : List Bool) : Nat → Bool := fun j => l.getD j true
theorem own : ownKnob Try.prog.godebug = none := by kernel_rfl
theorem laidOut : laidOutB Try.prog = true := by kernel_rfl
theorem mixed : P0.follows .mixedOrders = true := by decide +kernel
theorem progOk_ : progOk P0 = true := by decide +kernel
noncomputable def con_law10_begun (N : Nat) : Con := ⟨20, [], [], Unit, fun _ => some (), fun _ => (.bs true, [], [])⟩
theorem con_law10_begun_ok (N : Nat) : Con.ok P0 (con_law10_begun N) := closed_con2 (nonJ_ok _) mixed progOk_ (noneΞ_ok2 _) (inl := [73]) (breath := 100000) (n := 60) (by kernel_rfl)
def as_crc_step : List AS := [.val (.int .u32), .val (.int .i32)]
def bs_crc_step : List BS := []
def pout_crc_step : Pat := ⟨[(4, .val (.int .u32))], []⟩
noncomputable def G_crc_step  (N : Nat) : OrcT := orcOf []
noncomputable def F_crc_step  (N : Nat) (x : Int × Int) : Option (Int) :=
  (evT (G_crc_step  N) L0 P0 [(3, .loop [] ⟨[(0, .val (.int .u32)), (10, .val (.int .i64))], []⟩ [(.exit 0, ⟨[(0, .val (.int .u32))], []⟩)])]
    [] N 400 (bodyOf Try.f68) ⟨22, slots 0 (argsOf as_crc_step bs_crc_step x), tabU (lbOf as_crc_step bs_crc_step x) [], []⟩).elim (kRet 22 pout_crc_step (kpL []) (lbOf as_crc_step bs_crc_step x))
def out_crc_step (y : Int) : V × List OK × List OK := (valW (.int .u32) y, [], [])
noncomputable def V_crc_step  (N : Nat) (x : Int × Int) : Option (Int) :=
  obind
    (loopN N
      (fun (v : Int × Int) =>
        cnd (decide (Prod.snd v < (8 : Int)))
          (cnd
            (decide
              (wr IntKind.u32
                  (↑(BitVec.toNat (BitVec.ofInt (32 : Nat) (Prod.fst v) &&& BitVec.ofInt (32 : Nat) (1 : Int))) : Int) =
                (1 : Int)))
            (some
              (Sum.inl
                (wr IntKind.u32
                    (↑(BitVec.toNat
                        (BitVec.ofInt (32 : Nat) (Int.fdiv (Prod.fst v) ((2 : Int) ^ (1 : Nat))) ^^^
                          BitVec.ofInt (32 : Nat) (3988292384 : Int))) : Int),
                  wr IntKind.i64 (Prod.snd v + (1 : Int)))))
            (some (Sum.inl (Int.fdiv (Prod.fst v) ((2 : Int) ^ (1 : Nat)), wr IntKind.i64 (Prod.snd v + (1 : Int))))))
          (some (Sum.inr (Prod.fst v))))
      (wr IntKind.u32
          (↑(BitVec.toNat
              (BitVec.ofInt (32 : Nat) (Prod.fst x) ^^^ BitVec.ofInt (32 : Nat) (wr IntKind.u32 (Prod.snd x)))) : Int),
        (0 : Int)))
    fun (b : Int) => some b
theorem FV_crc_step_eq  (N : Nat) (x : Int × Int) : F_crc_step  N x = V_crc_step  N x := by kernel_rfl
noncomputable def W_crc_step (N : Nat) (x : Int × Int) : Option (Int) :=
  obind
    (loopN N
      (fun (v : Int × Int) =>
        cnd (decide (Prod.snd v < (8 : Int)))
          (cnd
            (decide
              (wr IntKind.u32
                  (↑(BitVec.toNat (BitVec.ofInt (32 : Nat) (Prod.fst v) &&& BitVec.ofInt (32 : Nat) (1 : Int))) : Int) =
                (1 : Int)))
            (some
              (Sum.inl
                (wr IntKind.u32
                    (↑(BitVec.toNat
                        (BitVec.ofInt (32 : Nat) (Int.fdiv (Prod.fst v) ((2 : Int) ^ (1 : Nat))) ^^^
                          BitVec.ofInt (32 : Nat) (3988292384 : Int))) : Int),
                  wr IntKind.i64 (Prod.snd v + (1 : Int)))))
            (some (Sum.inl (Int.fdiv (Prod.fst v) ((2 : Int) ^ (1 : Nat)), wr IntKind.i64 (Prod.snd v + (1 : Int))))))
          (some (Sum.inr (Prod.fst v))))
      (wr IntKind.u32
          (↑(BitVec.toNat
              (BitVec.ofInt (32 : Nat) (Prod.fst x) ^^^ BitVec.ofInt (32 : Nat) (wr IntKind.u32 (Prod.snd x)))) : Int),
        (0 : Int)))
    fun (b : Int) => some b
theorem F_crc_step_eq (N : Nat) (x : Int × Int) : F_crc_step  N x = W_crc_step N x := (FV_crc_step_eq  N x).trans (by kernel_rfl)
noncomputable def conw_crc_step (w : Int × Int → Option (Int)) : Con := ⟨68, as_crc_step, bs_crc_step, Int, w, out_crc_step⟩
noncomputable def con_crc_step (N : Nat) : Con := conw_crc_step (W_crc_step N)
theorem R_crc_step_eq (x : Int × Int) (y : Int) : retOf2 P0 Try.f68 (kpL []) (lbOf as_crc_step bs_crc_step x) (patS ⟨22, [], [], []⟩ pout_crc_step y) = some (out_crc_step y) := by kernel_rfl
theorem con_crc_step_ok (N : Nat) : Con.ok P0 (con_crc_step N) := ⟨⟨Try.f68, Try.func68, by kernel_rfl, by kernel_rfl⟩, fun (x : Int × Int) (r : Int) (hr : W_crc_step N x = some r) =>
  spec2_evT (Γ := G_crc_step N) (Λ := L0) (pout := pout_crc_step) (kp := kpL []) mixed (orcOf_ok [] (by simp)) Try.func68 (c := bodyOf Try.f68) (by kernel_rfl) (by kernel_rfl) (of_decide_eq_true (by kernel_rfl)) ((F_crc_step_eq N x).trans hr) (R_crc_step_eq x r)⟩
def as_crc_Sum : List AS := [.val (.list (.int .u8))]
def bs_crc_Sum : List BS := []
def pout_crc_Sum : Pat := ⟨[(2, .val (.int .u32))], []⟩
noncomputable def G_crc_Sum (w_crc_step : Int × Int → Option (Int)) (N : Nat) : OrcT := orcOf [conw_crc_step w_crc_step]
noncomputable def F_crc_Sum (w_crc_step : Int × Int → Option (Int)) (N : Nat) (x : List Int) : Option (Int) :=
  (evT (G_crc_Sum w_crc_step N) L0 P0 [(3, .loop [6] ⟨[(3, .val (.int .u32)), (8, .val (.int .i64))], []⟩ [(.exit 0, ⟨[(3, .val (.int .u32))], []⟩)])]
    [] N 400 (bodyOf Try.f21) ⟨19, slots 0 (argsOf as_crc_Sum bs_crc_Sum x), tabU (lbOf as_crc_Sum bs_crc_Sum x) [], []⟩).elim (kRet 19 pout_crc_Sum (kpL []) (lbOf as_crc_Sum bs_crc_Sum x))
def out_crc_Sum (y : Int) : V × List OK × List OK := (valW (.int .u32) y, [], [])
noncomputable def V_crc_Sum (w_crc_step : Int × Int → Option (Int)) (N : Nat) (x : List Int) : Option (Int) :=
  obind
    (loopN N
      (fun (v : Int × Int) =>
        cnd (decide (Prod.snd v < (↑(List.length x) : Int)))
          (cnd (decide ((0 : Int) ≤ Prod.snd v) && decide (Prod.snd v < (↑(List.length x) : Int)))
            (obind (w_crc_step (Prod.fst v, wr IntKind.i32 (List.getD x (Int.toNat (Prod.snd v)) (0 : Int))))
              fun (b : Int) => some (Sum.inl (b, wr IntKind.i64 (Prod.snd v + (1 : Int)))))
            none)
          (some (Sum.inr (Prod.fst v))))
      ((4294967295 : Int), (0 : Int)))
    fun (b : Int) =>
    some
      (wr IntKind.u32 (↑(BitVec.toNat (BitVec.ofInt (32 : Nat) (IntKind.max IntKind.u32) ^^^ BitVec.ofInt (32 : Nat) b)) : Int))
theorem FV_crc_Sum_eq (w_crc_step : Int × Int → Option (Int)) (N : Nat) (x : List Int) : F_crc_Sum w_crc_step N x = V_crc_Sum w_crc_step N x := by kernel_rfl
noncomputable def W_crc_Sum (N : Nat) (x : List Int) : Option (Int) :=
  obind
    (loopN N
      (fun (v : Int × Int) =>
        cnd (decide (Prod.snd v < (↑(List.length x) : Int)))
          (cnd (decide ((0 : Int) ≤ Prod.snd v) && decide (Prod.snd v < (↑(List.length x) : Int)))
            (obind (W_crc_step N (Prod.fst v, wr IntKind.i32 (List.getD x (Int.toNat (Prod.snd v)) (0 : Int))))
              fun (b : Int) => some (Sum.inl (b, wr IntKind.i64 (Prod.snd v + (1 : Int)))))
            none)
          (some (Sum.inr (Prod.fst v))))
      ((4294967295 : Int), (0 : Int)))
    fun (b : Int) =>
    some
      (wr IntKind.u32 (↑(BitVec.toNat (BitVec.ofInt (32 : Nat) (IntKind.max IntKind.u32) ^^^ BitVec.ofInt (32 : Nat) b)) : Int))
theorem F_crc_Sum_eq (N : Nat) (x : List Int) : F_crc_Sum (W_crc_step N) N x = W_crc_Sum N x := (FV_crc_Sum_eq (W_crc_step N) N x).trans (by kernel_rfl)
noncomputable def conw_crc_Sum (w : List Int → Option (Int)) : Con := ⟨21, as_crc_Sum, bs_crc_Sum, Int, w, out_crc_Sum⟩
noncomputable def con_crc_Sum (N : Nat) : Con := conw_crc_Sum (W_crc_Sum N)
theorem R_crc_Sum_eq (x : List Int) (y : Int) : retOf2 P0 Try.f21 (kpL []) (lbOf as_crc_Sum bs_crc_Sum x) (patS ⟨19, [], [], []⟩ pout_crc_Sum y) = some (out_crc_Sum y) := by kernel_rfl
theorem con_crc_Sum_ok (N : Nat) : Con.ok P0 (con_crc_Sum N) := ⟨⟨Try.f21, Try.func21, by kernel_rfl, by kernel_rfl⟩, fun (x : List Int) (r : Int) (hr : W_crc_Sum N x = some r) =>
  spec2_evT (Γ := G_crc_Sum (W_crc_step N) N) (Λ := L0) (pout := pout_crc_Sum) (kp := kpL []) mixed (orcOf_ok _ (by simp only [List.mem_cons, List.not_mem_nil, or_false, forall_eq_or_imp, forall_eq]; exact con_crc_step_ok N)) Try.func21 (c := bodyOf Try.f21) (by kernel_rfl) (by kernel_rfl) (of_decide_eq_true (by kernel_rfl)) ((F_crc_Sum_eq N x).trans hr) (R_crc_Sum_eq x r)⟩
def as_law10_CrcTurned : List AS := [.val (.list (.int .u8)), .val (.int .u16), .val (.int .u32)]
def bs_law10_CrcTurned : List BS := []
def pout_law10_CrcTurned : Pat := ⟨[(6, .val .bool)], []⟩
noncomputable def G_law10_CrcTurned (w_crc_Sum : List Int → Option (Int)) (N : Nat) : OrcT := orcOf [con_law10_begun N, conw_crc_Sum w_crc_Sum]
noncomputable def F_law10_CrcTurned (w_crc_Sum : List Int → Option (Int)) (N : Nat) (x : (List Int) × Int × Int) : Option (Bool) :=
  (evT (G_law10_CrcTurned w_crc_Sum N) L0 P0 [(9, .loop [] ⟨[(7, .acc 700025), (10, .val (.int .i64))], [(700025, .nrow 5 (.int .u8) false true)]⟩ [(.exit 0, ⟨[(7, .val (.list (.int .u8)))], []⟩)])]
    [(1000003, .reg [(8, [], ⟨[(20, .val .bool)], []⟩)])] N 400 (bodyOf Try.f4) ⟨61, slots 0 (argsOf as_law10_CrcTurned bs_law10_CrcTurned x), tabU (lbOf as_law10_CrcTurned bs_law10_CrcTurned x) [], []⟩).elim (kRet 61 pout_law10_CrcTurned (kpL []) (lbOf as_law10_CrcTurned bs_law10_CrcTurned x))
def out_law10_CrcTurned (y : Bool) : V × List OK × List OK := (valW .bool y, [], [])
noncomputable def V_law10_CrcTurned (w_crc_Sum : List Int → Option (Int)) (N : Nat) (x : (List Int) × Int × Int) : Option (Bool) :=
  obind
    (cnd (decide ((200 : Int) < (↑(List.length (Prod.fst x)) : Int))) (some true)
      (some (decide ((↑(List.length (Prod.fst x)) : Int) < (5 : Int)))))
    fun (b : Bool) =>
    cnd b (some true)
      (cnd (decide (Prod.snd (Prod.snd x) = (0 : Int))) (some true)
        (cnd (decide (List.length (Prod.fst x) * (1 : Nat) ≤ (140737488355328 : Nat)))
          (cnd (!decide (wr IntKind.i64 ((↑(List.length (Prod.fst x)) : Int) - (4 : Int)) = (0 : Int)))
            (cnd (!decide (Int.tmod (Prod.fst (Prod.snd x)) (8 : Int) < (0 : Int)))
              (obind
                (loopN N
                  (fun (v : Int × List Int) =>
                    cnd (decide (Prod.fst v < (5 : Int)))
                      (cnd
                        (decide
                            ((0 : Int) ≤
                              wr IntKind.i64
                                (Int.tmod (wr IntKind.i64 (Prod.fst (Prod.snd x)))
                                    (wr IntKind.i64 ((↑(List.length (Prod.fst x)) : Int) - (4 : Int))) +
                                  Prod.fst v)) &&
                          decide
                            (wr IntKind.i64
                                (Int.tmod (wr IntKind.i64 (Prod.fst (Prod.snd x)))
                                    (wr IntKind.i64 ((↑(List.length (Prod.fst x)) : Int) - (4 : Int))) +
                                  Prod.fst v) <
                              (↑(List.length (Prod.snd v)) : Int)))
                        (cnd (!decide (wr IntKind.i64 ((8 : Int) * Prod.fst v) < (0 : Int)))
                          (cnd
                            (decide
                                ((0 : Int) ≤
                                  wr IntKind.i64
                                    (Int.tmod (wr IntKind.i64 (Prod.fst (Prod.snd x)))
                                        (wr IntKind.i64 ((↑(List.length (Prod.fst x)) : Int) - (4 : Int))) +
                                      Prod.fst v)) &&
                              decide
                                (wr IntKind.i64
                                    (Int.tmod (wr IntKind.i64 (Prod.fst (Prod.snd x)))
                                        (wr IntKind.i64 ((↑(List.length (Prod.fst x)) : Int) - (4 : Int))) +
                                      Prod.fst v) <
                                  (↑(List.length (Prod.snd v)) : Int)))
                            (some
                              (Sum.inl
                                (wr IntKind.i64 (Prod.fst v + (1 : Int)),
                                  putL (Prod.snd v)
                                    [wr IntKind.u8
                                        (↑(BitVec.toNat
                                            (BitVec.ofInt (8 : Nat)
                                                (List.getD (Prod.snd v)
                                                  (Int.toNat
                                                    (wr IntKind.i64
                                                      (Int.tmod (wr IntKind.i64 (Prod.fst (Prod.snd x)))
                                                          (wr IntKind.i64 ((↑(List.length (Prod.fst x)) : Int) - (4 : Int))) +
                                                        Prod.fst v)))
                                                  (0 : Int)) ^^^
                                              BitVec.ofInt (8 : Nat)
                                                (wr IntKind.u8
                                                  (Int.fdiv
                                                    (wr IntKind.u64
                                                      (wr IntKind.u64 (Prod.snd (Prod.snd x)) *
                                                        (2 : Int) ^
                                                          min (Int.toNat (Int.tmod (Prod.fst (Prod.snd x)) (8 : Int)))
                                                            (64 : Nat)))
                                                    ((2 : Int) ^
                                                      min (Int.toNat (wr IntKind.i64 ((8 : Int) * Prod.fst v)))
                                                        (64 : Nat)))))) : Int)]
                                    (Int.toNat
                                      (wr IntKind.i64
                                        (Int.tmod (wr IntKind.i64 (Prod.fst (Prod.snd x)))
                                            (wr IntKind.i64 ((↑(List.length (Prod.fst x)) : Int) - (4 : Int))) +
                                          Prod.fst v))))))
                            none)
                          none)
                        none)
                      (some (Sum.inr (Prod.snd v))))
                  ((0 : Int), Prod.fst x))
                fun (b : List Int) =>
                obind (w_crc_Sum b) fun (b : Int) =>
                  obind (w_crc_Sum (Prod.fst x)) fun (b_1 : Int) => some (decide (b ≠ b_1)))
              none)
            none)
          none))
theorem FV_law10_CrcTurned_eq (w_crc_Sum : List Int → Option (Int)) (N : Nat) (x : (List Int) × Int × Int) : F_law10_CrcTurned w_crc_Sum N x = V_law10_CrcTurned w_crc_Sum N x := by kernel_rfl
noncomputable def W_law10_CrcTurned (N : Nat) (x : (List Int) × Int × Int) : Option (Bool) :=
  obind
    (cnd (decide ((200 : Int) < (↑(List.length (Prod.fst x)) : Int))) (some true)
      (some (decide ((↑(List.length (Prod.fst x)) : Int) < (5 : Int)))))
    fun (b : Bool) =>
    cnd b (some true)
      (cnd (decide (Prod.snd (Prod.snd x) = (0 : Int))) (some true)
        (cnd (decide (List.length (Prod.fst x) * (1 : Nat) ≤ (140737488355328 : Nat)))
          (cnd (!decide (wr IntKind.i64 ((↑(List.length (Prod.fst x)) : Int) - (4 : Int)) = (0 : Int)))
            (cnd (!decide (Int.tmod (Prod.fst (Prod.snd x)) (8 : Int) < (0 : Int)))
              (obind
                (loopN N
                  (fun (v : Int × List Int) =>
                    cnd (decide (Prod.fst v < (5 : Int)))
                      (cnd
                        (decide
                            ((0 : Int) ≤
                              wr IntKind.i64
                                (Int.tmod (wr IntKind.i64 (Prod.fst (Prod.snd x)))
                                    (wr IntKind.i64 ((↑(List.length (Prod.fst x)) : Int) - (4 : Int))) +
                                  Prod.fst v)) &&
                          decide
                            (wr IntKind.i64
                                (Int.tmod (wr IntKind.i64 (Prod.fst (Prod.snd x)))
                                    (wr IntKind.i64 ((↑(List.length (Prod.fst x)) : Int) - (4 : Int))) +
                                  Prod.fst v) <
                              (↑(List.length (Prod.snd v)) : Int)))
                        (cnd (!decide (wr IntKind.i64 ((8 : Int) * Prod.fst v) < (0 : Int)))
                          (cnd
                            (decide
                                ((0 : Int) ≤
                                  wr IntKind.i64
                                    (Int.tmod (wr IntKind.i64 (Prod.fst (Prod.snd x)))
                                        (wr IntKind.i64 ((↑(List.length (Prod.fst x)) : Int) - (4 : Int))) +
                                      Prod.fst v)) &&
                              decide
                                (wr IntKind.i64
                                    (Int.tmod (wr IntKind.i64 (Prod.fst (Prod.snd x)))
                                        (wr IntKind.i64 ((↑(List.length (Prod.fst x)) : Int) - (4 : Int))) +
                                      Prod.fst v) <
                                  (↑(List.length (Prod.snd v)) : Int)))
                            (some
                              (Sum.inl
                                (wr IntKind.i64 (Prod.fst v + (1 : Int)),
                                  putL (Prod.snd v)
                                    [wr IntKind.u8
                                        (↑(BitVec.toNat
                                            (BitVec.ofInt (8 : Nat)
                                                (List.getD (Prod.snd v)
                                                  (Int.toNat
                                                    (wr IntKind.i64
                                                      (Int.tmod (wr IntKind.i64 (Prod.fst (Prod.snd x)))
                                                          (wr IntKind.i64 ((↑(List.length (Prod.fst x)) : Int) - (4 : Int))) +
                                                        Prod.fst v)))
                                                  (0 : Int)) ^^^
                                              BitVec.ofInt (8 : Nat)
                                                (wr IntKind.u8
                                                  (Int.fdiv
                                                    (wr IntKind.u64
                                                      (wr IntKind.u64 (Prod.snd (Prod.snd x)) *
                                                        (2 : Int) ^
                                                          min (Int.toNat (Int.tmod (Prod.fst (Prod.snd x)) (8 : Int)))
                                                            (64 : Nat)))
                                                    ((2 : Int) ^
                                                      min (Int.toNat (wr IntKind.i64 ((8 : Int) * Prod.fst v)))
                                                        (64 : Nat)))))) : Int)]
                                    (Int.toNat
                                      (wr IntKind.i64
                                        (Int.tmod (wr IntKind.i64 (Prod.fst (Prod.snd x)))
                                            (wr IntKind.i64 ((↑(List.length (Prod.fst x)) : Int) - (4 : Int))) +
                                          Prod.fst v))))))
                            none)
                          none)
                        none)
                      (some (Sum.inr (Prod.snd v))))
                  ((0 : Int), Prod.fst x))
                fun (b : List Int) =>
                obind (W_crc_Sum N b) fun (b : Int) =>
                  obind (W_crc_Sum N (Prod.fst x)) fun (b_1 : Int) => some (decide (b ≠ b_1)))
              none)
            none)
          none))
theorem F_law10_CrcTurned_eq (N : Nat) (x : (List Int) × Int × Int) : F_law10_CrcTurned (W_crc_Sum N) N x = W_law10_CrcTurned N x := (FV_law10_CrcTurned_eq (W_crc_Sum N) N x).trans (by kernel_rfl)
noncomputable def conw_law10_CrcTurned (w : (List Int) × Int × Int → Option (Bool)) : Con := ⟨4, as_law10_CrcTurned, bs_law10_CrcTurned, Bool, w, out_law10_CrcTurned⟩
noncomputable def con_law10_CrcTurned (N : Nat) : Con := conw_law10_CrcTurned (W_law10_CrcTurned N)
theorem R_law10_CrcTurned_eq (x : (List Int) × Int × Int) (y : Bool) : retOf2 P0 Try.f4 (kpL []) (lbOf as_law10_CrcTurned bs_law10_CrcTurned x) (patS ⟨61, [], [], []⟩ pout_law10_CrcTurned y) = some (out_law10_CrcTurned y) := by kernel_rfl
theorem con_law10_CrcTurned_ok (N : Nat) : Con.ok P0 (con_law10_CrcTurned N) := ⟨⟨Try.f4, Try.func4, by kernel_rfl, by kernel_rfl⟩, fun (x : (List Int) × Int × Int) (r : Bool) (hr : W_law10_CrcTurned N x = some r) =>
  spec2_evT (Γ := G_law10_CrcTurned (W_crc_Sum N) N) (Λ := L0) (pout := pout_law10_CrcTurned) (kp := kpL []) mixed (orcOf_ok _ (by simp only [List.mem_cons, List.not_mem_nil, or_false, forall_eq_or_imp, forall_eq]; exact ⟨con_law10_begun_ok N, con_crc_Sum_ok N⟩)) Try.func4 (c := bodyOf Try.f4) (by kernel_rfl) (by kernel_rfl) (of_decide_eq_true (by kernel_rfl)) ((F_law10_CrcTurned_eq N x).trans hr) (R_law10_CrcTurned_eq x r)⟩
/-! What is reckoned. -/
-- PURE
theorem wr_s {z : Int} (h : 0 ≤ z) (h2 : z ≤ 140737488355328) : wr .i64 z = z := wr_i64 (by omega) (by omega)
theorem wr_u32 {z : Int} (h : 0 ≤ z) (h2 : z ≤ 4294967295) : wr .u32 z = z := by
  have e1 : lo .u32 = 0 := by rfl
  have e2 : hi .u32 = 4294967295 := by rfl
  unfold wr
  rw [if_pos ⟨by omega, by omega⟩]
theorem wr_i32 {z : Int} (h : -2147483648 ≤ z) (h2 : z ≤ 2147483647) : wr .i32 z = z := by
  have e1 : lo .i32 = -2147483648 := by rfl
  have e2 : hi .i32 = 2147483647 := by rfl
  unfold wr
  rw [if_pos ⟨by omega, by omega⟩]
theorem getD_memI {l : List Int} {j : Nat} (h : j < l.length) : l.getD j 0 ∈ l := by
  rw [List.getD_eq_getElem?_getD, List.getElem?_eq_getElem h]; exact List.getElem_mem h
/-- Exclusive or. -/
def X (a b : Int) : Int := ((BitVec.ofInt 32 a ^^^ BitVec.ofInt 32 b).toNat : Int)
theorem X_rng (a b : Int) : 0 ≤ X a b ∧ X a b ≤ 4294967295 := by
  unfold X
  have := (BitVec.ofInt 32 a ^^^ BitVec.ofInt 32 b).isLt
  omega
theorem X_wr (a b : Int) : wr .u32 ((BitVec.ofInt 32 a ^^^ BitVec.ofInt 32 b).toNat : Int) = X a b := wr_u32 (X_rng a b).1 (X_rng a b).2
theorem and_one (v : Int) (h : 0 ≤ v) (h2 : v ≤ 4294967295) : wr .u32 ((BitVec.ofInt 32 v &&& BitVec.ofInt 32 1).toNat : Int) = v % 2 := by
  have e : (BitVec.ofInt 32 v &&& BitVec.ofInt 32 1).toNat = (v % 2).toNat := by
    rw [BitVec.toNat_and, BitVec.toNat_ofInt, BitVec.toNat_ofInt]
    have e1 : ((1 : Int) % ((2 ^ 32 : Nat) : Int)).toNat = 1 := by decide
    have e2 : (v % ((2 ^ 32 : Nat) : Int)).toNat = v.toNat := by
      have : v % ((2 ^ 32 : Nat) : Int) = v := Int.emod_eq_of_lt h (by omega)
      rw [this]
    rw [e1, e2, Nat.and_one_is_mod]
    omega
  rw [e, wr_u32 (by omega) (by omega)]
  omega
def s1 (c : Int) : Int := if c % 2 = 1 then X (c / 2) 3988292384 else c / 2
theorem s1_rng {c : Int} (h : 0 ≤ c) (h2 : c ≤ 4294967295) : 0 ≤ s1 c ∧ s1 c ≤ 4294967295 := by
  unfold s1
  split
  · exact X_rng _ _
  · omega
def s1n : Nat → Int → Int
  | 0, c => c
  | n + 1, c => s1 (s1n n c)
theorem s1n_rng {c : Int} (h : 0 ≤ c) (h2 : c ≤ 4294967295) : ∀ n, 0 ≤ s1n n c ∧ s1n n c ≤ 4294967295
  | 0 => ⟨h, h2⟩
  | n + 1 => s1_rng (s1n_rng h h2 n).1 (s1n_rng h h2 n).2
/-- Eight times. -/
theorem loop8 {N : Nat} (hN : 9 ≤ N) {f : Int × Int → Option ((Int × Int) ⊕ Int)} {c : Int} (h : 0 ≤ c) (h2 : c ≤ 4294967295) (hf : ∀ v : Int × Int, 0 ≤ v.1 → v.1 ≤ 4294967295 → 0 ≤ v.2 → v.2 < 8 → f v = some (.inl (s1 v.1, v.2 + 1)))
    (he : ∀ v : Int × Int, ¬ v.2 < 8 → f v = some (.inr v.1)) : loopN N f (c, 0) = some (s1n 8 c) := by
  obtain ⟨r, h1, h3⟩ := loopN_run (N := N) (f := f) (x := (c, 0)) (fun v => 0 ≤ v.2 ∧ v.2 ≤ 8 ∧ v.1 = s1n v.2.toNat c) (fun v => 8 - v.2.toNat) (fun r => r = s1n 8 c) (fun v ⟨g1, g2, g3⟩ => by
    by_cases hv : v.2 < 8
    · left
      have hr := s1n_rng h h2 v.2.toNat
      rw [hf v (by omega) (by omega) g1 hv]
      refine ⟨_, rfl, ⟨by simp only; omega, by simp only; omega, ?_⟩, by simp only; omega⟩
      simp only
      rw [show (v.2 + 1).toNat = v.2.toNat + 1 by omega, g3]; rfl
    · right
      rw [he v hv]
      refine ⟨_, rfl, ?_⟩
      rw [g3, show v.2.toNat = 8 by omega]) ⟨by simp, by simp, rfl⟩ (by simp; omega)
  rw [h1, h3]
def fold (c : Int) (l : List Int) : Int := l.foldl (fun c b => s1n 8 (X c b)) c
theorem fold_snoc (c : Int) (l : List Int) (b : Int) : fold c (l ++ [b]) = s1n 8 (X (fold c l) b) := by simp [fold]
theorem fold_rng {c : Int} (h : 0 ≤ c) (h2 : c ≤ 4294967295) : ∀ l : List Int, 0 ≤ fold c l ∧ fold c l ≤ 4294967295 := by
  intro l
  induction l generalizing c with
  | nil => exact ⟨h, h2⟩
  | cons b r ih =>
    have hx := X_rng c b
    have := s1n_rng hx.1 hx.2 8
    exact ih this.1 this.2
/-- All bytes. -/
theorem loopB {N : Nat} {x : List Int} (hN : x.length < N) {f : Int × Int → Option ((Int × Int) ⊕ Int)} (hf : ∀ v : Int × Int, 0 ≤ v.1 → v.1 ≤ 4294967295 → 0 ≤ v.2 → v.2 < x.length → f v = some (.inl (s1n 8 (X v.1 (x.getD v.2.toNat 0)), v.2 + 1)))
    (he : ∀ v : Int × Int, ¬ v.2 < x.length → f v = some (.inr v.1)) : loopN N f (4294967295, 0) = some (fold 4294967295 x) := by
  obtain ⟨r, h1, h3⟩ := loopN_run (N := N) (f := f) (x := (4294967295, 0)) (fun v => 0 ≤ v.2 ∧ v.2 ≤ x.length ∧ v.1 = fold 4294967295 (x.take v.2.toNat)) (fun v => x.length - v.2.toNat) (fun r => r = fold 4294967295 x) (fun v ⟨g1, g2, g3⟩ => by
    by_cases hv : v.2 < x.length
    · left
      have hr := fold_rng (c := 4294967295) (by omega) (by omega) (x.take v.2.toNat)
      rw [hf v (by omega) (by omega) g1 hv]
      refine ⟨_, rfl, ⟨by simp only; omega, by simp only; omega, ?_⟩, by simp only; omega⟩
      simp only
      have hl : v.2.toNat < x.length := by omega
      have e : x.take (v.2.toNat + 1) = x.take v.2.toNat ++ [x.getD v.2.toNat 0] := by
        rw [List.getD_eq_getElem?_getD, List.getElem?_eq_getElem hl]
        simp
      rw [show (v.2 + 1).toNat = v.2.toNat + 1 by omega, e, fold_snoc, g3]
    · right
      rw [he v hv]
      refine ⟨_, rfl, ?_⟩
      rw [g3, List.take_of_length_le (by omega)]) ⟨by simp, by simp, rfl⟩ (by simp; omega)
  rw [h1, h3]
theorem obind_self {α : Type} (m : Option α) : obind m (fun b => some b) = m := by cases m <;> rfl
theorem step_eq (N : Nat) (hN : 9 ≤ N) (c b : Int) (hb : 0 ≤ b ∧ b ≤ 255) : W_crc_step N (c, b) = some (s1n 8 (X c b)) := by
  unfold W_crc_step
  simp only
  rw [obind_self, wr_u32 (z := b) (by omega) (by omega), X_wr]
  refine loop8 hN (X_rng c b).1 (X_rng c b).2 (fun v g1 g2 g3 g4 => ?_) (fun v h => by rw [dF h, cnd_f])
  rw [dT g4, cnd_t, and_one _ g1 g2, X_wr, wr_s (by omega) (by omega)]
  have e : Int.fdiv v.1 ((2 : Int) ^ 1) = v.1 / 2 := Int.fdiv_eq_ediv_of_nonneg _ (by decide)
  rw [e]
  unfold s1
  by_cases h : v.1 % 2 = 1
  · rw [dT h, cnd_t, if_pos h]
  · rw [dF h, cnd_f, if_neg h]
theorem Sum_eq (N : Nat) (x : List Int) (hN : 9 ≤ N) (hx : x.length < N) (hl : x.length ≤ 1000000) (h : ∀ b ∈ x, 0 ≤ b ∧ b ≤ 255) : W_crc_Sum N x = some (X (IntKind.max .u32) (fold 4294967295 x)) := by
  unfold W_crc_Sum
  rw [loopB hx (fun v g1 g2 g3 g4 => ?_) (fun v h => by rw [dF h, cnd_f]), obind_s, X_wr]
  have hb := h _ (getD_memI (l := x) (j := v.2.toNat) (by omega))
  rw [dT g4, cnd_t, dT g3, Bool.and_self, cnd_t, wr_i32 (by omega) (by omega), step_eq N hN _ _ hb, obind_s, wr_s (by omega) (by omega)]
/-! One bit's step on numbers, and what it does to sums. -/
def PP : Nat := 3988292384
def tq (c : Nat) : Nat := (c >>> 1) ^^^ (if c % 2 = 1 then PP else 0)
theorem xor_mod2 (a b : Nat) : (a ^^^ b) % 2 = (a % 2 + b % 2) % 2 := by
  have h : ∀ n : Nat, n % 2 = if n.testBit 0 then 1 else 0 := fun n => by
    rw [Nat.testBit_zero]
    have := Nat.mod_two_eq_zero_or_one n
    by_cases h : n % 2 = 1
    · simp [h]
    · simp [show n % 2 = 0 by omega]
  rw [h (a ^^^ b), h a, h b, Nat.testBit_xor]
  cases a.testBit 0 <;> cases b.testBit 0 <;> rfl
theorem tq_xor (a b : Nat) : tq (a ^^^ b) = tq a ^^^ tq b := by
  unfold tq
  rw [Nat.shiftRight_xor_distrib, xor_mod2]
  have ha := Nat.mod_two_eq_zero_or_one a
  have hb := Nat.mod_two_eq_zero_or_one b
  have e : ∀ p q r s : Nat, (p ^^^ q) ^^^ (r ^^^ s) = (p ^^^ r) ^^^ (q ^^^ s) := fun p q r s => by
    rw [Nat.xor_assoc, Nat.xor_assoc, ← Nat.xor_assoc q r s, Nat.xor_comm q r, Nat.xor_assoc r q s]
  rcases ha with ha | ha <;> rcases hb with hb | hb <;> simp only [ha, hb]
  · simp
  · simp [Nat.xor_assoc]
  · simp only [if_true, show ¬ (0 = 1) by omega, if_false, Nat.xor_zero]
    rw [Nat.xor_assoc, Nat.xor_comm (b >>> 1), ← Nat.xor_assoc]
  · simp only [show (1 + 1) % 2 = 0 from rfl, show ¬ (0 = 1) by omega, if_false, if_true, Nat.xor_zero]
    rw [← e, Nat.xor_self, Nat.xor_zero]
def tqn : Nat → Nat → Nat
  | 0, c => c
  | n + 1, c => tqn n (tq c)
theorem tqn_xor : ∀ (n a b : Nat), tqn n (a ^^^ b) = tqn n a ^^^ tqn n b
  | 0, a, b => rfl
  | n + 1, a, b => by simp only [tqn]; rw [tq_xor, tqn_xor n]
theorem tqn_add : ∀ (m n c : Nat), tqn (m + n) c = tqn n (tqn m c)
  | 0, n, c => by rw [Nat.zero_add]; rfl
  | m + 1, n, c => by rw [show m + 1 + n = (m + n) + 1 by omega]; simp only [tqn]; exact tqn_add m n _
theorem tq_two (x : Nat) : tq (x * 2) = x := by
  unfold tq
  rw [if_neg (by omega), Nat.xor_zero, Nat.shiftRight_eq_div_pow]
  omega
theorem tqn_shl : ∀ (n x : Nat), tqn n (x * 2 ^ n) = x
  | 0, x => by simp [tqn]
  | n + 1, x => by
    simp only [tqn]
    rw [Nat.pow_succ, ← Nat.mul_assoc, tq_two, tqn_shl n x]
theorem tqn_zero (n : Nat) : tqn n 0 = 0 := by
  have := tqn_shl n 0
  rwa [Nat.zero_mul] at this
theorem tq_lt {c : Nat} (h : c < 2 ^ 32) : tq c < 2 ^ 32 := by
  unfold tq
  refine Nat.xor_lt_two_pow ?_ ?_
  · rw [Nat.shiftRight_eq_div_pow]; omega
  · split
    · unfold PP; omega
    · omega
theorem tq_ne {c : Nat} (h : c < 2 ^ 32) (h0 : c ≠ 0) : tq c ≠ 0 := by
  unfold tq
  intro e
  split at e
  · have e2 : c >>> 1 = PP := by
      have := congrArg (· ^^^ PP) e
      simp only [Nat.zero_xor] at this
      rwa [Nat.xor_assoc, Nat.xor_self, Nat.xor_zero] at this
    rw [Nat.shiftRight_eq_div_pow] at e2
    unfold PP at e2
    omega
  · rw [Nat.xor_zero, Nat.shiftRight_eq_div_pow] at e
    omega
theorem tqn_ne : ∀ (n : Nat) {c : Nat}, c < 2 ^ 32 → c ≠ 0 → tqn n c ≠ 0
  | 0, _, _, h0 => h0
  | n + 1, _, h, h0 => tqn_ne n (tq_lt h) (tq_ne h h0)
def fq (c : Nat) (l : List Nat) : Nat := l.foldl (fun c b => tqn 8 (c ^^^ b)) c
theorem fq_append (c : Nat) (a b : List Nat) : fq c (a ++ b) = fq (fq c a) b := by simp [fq]
theorem fq_xor : ∀ (l m : List Nat) (c d : Nat), l.length = m.length → fq (c ^^^ d) (List.zipWith (· ^^^ ·) l m) = fq c l ^^^ fq d m
  | [], [], c, d, _ => rfl
  | x :: l, y :: m, c, d, h => by
    have e : (c ^^^ d) ^^^ (x ^^^ y) = (c ^^^ x) ^^^ (d ^^^ y) := by rw [Nat.xor_assoc, ← Nat.xor_assoc d x y, Nat.xor_comm d x, Nat.xor_assoc x d y, ← Nat.xor_assoc]
    show fq (tqn 8 ((c ^^^ d) ^^^ (x ^^^ y))) (List.zipWith (· ^^^ ·) l m) = _
    rw [e, tqn_xor, fq_xor l m _ _ (by simpa using h)]
    rfl
  | [], _ :: _, _, _, h => by simp at h
  | _ :: _, [], _, _, h => by simp at h
theorem fq_zeros : ∀ (n c : Nat), fq c (List.replicate n 0) = tqn (8 * n) c
  | 0, c => rfl
  | n + 1, c => by
    show fq (tqn 8 (c ^^^ 0)) (List.replicate n 0) = _
    rw [Nat.xor_zero, fq_zeros n, show 8 * (n + 1) = 8 + 8 * n by omega, tqn_add]
def bts : Nat → Nat → List Nat
  | 0, _ => []
  | n + 1, v => v % 256 :: bts n (v / 256)
theorem fq_bts : ∀ (n d v : Nat), fq d (bts n v) ^^^ (v / 256 ^ n) = tqn (8 * n) (d ^^^ v)
  | 0, d, v => by simp [fq, bts, tqn]
  | n + 1, d, v => by
    show fq (tqn 8 (d ^^^ v % 256)) (bts n (v / 256)) ^^^ (v / 256 ^ (n + 1)) = _
    have h1 : v / 256 ^ (n + 1) = v / 256 / 256 ^ n := by rw [Nat.pow_succ, Nat.mul_comm, Nat.div_div_eq_div_mul]
    have h2 : v = v % 256 ^^^ v / 256 * 2 ^ 8 := by
      have e1 : v / 256 * 2 ^ 8 = v >>> 8 <<< 8 := by rw [Nat.shiftLeft_eq, Nat.shiftRight_eq_div_pow]
      apply Nat.eq_of_testBit_eq
      intro j
      rw [Nat.testBit_xor, e1, Nat.testBit_shiftLeft, Nat.testBit_shiftRight, show (256 : Nat) = 2 ^ 8 from rfl, Nat.testBit_mod_two_pow]
      by_cases h : j < 8
      · simp [h, show ¬ 8 ≤ j by omega]
      · simp [h, show 8 ≤ j by omega, show 8 + (j - 8) = j by omega]
    have h3 : tqn 8 (d ^^^ v) = tqn 8 (d ^^^ v % 256) ^^^ v / 256 := by
      conv => lhs; rw [h2]
      rw [← Nat.xor_assoc, tqn_xor, tqn_shl]
    rw [h1, fq_bts n, ← h3, ← tqn_add]
    congr 1
    omega
theorem burst (by_ s m n : Nat) (h0 : by_ ≠ 0) (h1 : by_ < 2 ^ 32) (hs : s ≤ 7) : fq 0 (List.replicate m 0 ++ (bts 5 (by_ * 2 ^ s) ++ List.replicate n 0)) ≠ 0 := by
  rw [fq_append, fq_append, fq_zeros m, tqn_zero, fq_zeros n]
  have hv : by_ * 2 ^ s < 2 ^ 40 := by
    have : 2 ^ s ≤ 2 ^ 7 := Nat.pow_le_pow_right (by omega) hs
    calc by_ * 2 ^ s ≤ by_ * 2 ^ 7 := Nat.mul_le_mul_left _ this
      _ < 2 ^ 40 := by omega
  have h2 := fq_bts 5 0 (by_ * 2 ^ s)
  rw [Nat.div_eq_of_lt (by omega), Nat.xor_zero, Nat.zero_xor] at h2
  rw [h2, ← tqn_add]
  have e : 8 * 5 + 8 * n = s + (40 - s + 8 * n) := by omega
  rw [e, tqn_add, tqn_shl]
  exact tqn_ne _ h1 h0
/-! The sums of the program, as those on numbers. -/
theorem X_nat {a b : Int} (ha : 0 ≤ a) (ha2 : a ≤ 4294967295) (hb : 0 ≤ b) (hb2 : b ≤ 4294967295) : X a b = ((a.toNat ^^^ b.toNat : Nat) : Int) := by
  unfold X
  rw [BitVec.toNat_xor, BitVec.toNat_ofInt, BitVec.toNat_ofInt]
  have e : ∀ v : Int, 0 ≤ v → v ≤ 4294967295 → (v % ((2 ^ 32 : Nat) : Int)).toNat = v.toNat := fun v h h2 => by
    have : v % ((2 ^ 32 : Nat) : Int) = v := Int.emod_eq_of_lt h (by omega)
    rw [this]
  rw [e a ha ha2, e b hb hb2]
theorem s1_nat {c : Int} (h : 0 ≤ c) (h2 : c ≤ 4294967295) : s1 c = (tq c.toNat : Nat) := by
  unfold s1 tq
  have e : c.toNat >>> 1 = (c / 2).toNat := by rw [Nat.shiftRight_eq_div_pow]; omega
  by_cases hc : c % 2 = 1
  · rw [if_pos hc, if_pos (by omega), X_nat (by omega) (by omega) (by omega) (by omega), e]; rfl
  · rw [if_neg hc, if_neg (by omega), Nat.xor_zero, e]; omega
theorem s1n_nat {c : Int} (h : 0 ≤ c) (h2 : c ≤ 4294967295) : ∀ n, s1n n c = (tqn n c.toNat : Nat)
  | 0 => by simp only [s1n, tqn]; omega
  | n + 1 => by
    have hr := s1n_rng h h2 n
    show s1 (s1n n c) = _
    rw [s1_nat hr.1 hr.2, s1n_nat h h2 n, Int.toNat_natCast, tqn_add n 1]
    rfl
theorem fold_nat : ∀ (l : List Int) (c : Int), 0 ≤ c → c ≤ 4294967295 → (∀ b ∈ l, 0 ≤ b ∧ b ≤ 255) → fold c l = (fq c.toNat (l.map Int.toNat) : Nat)
  | [], c, h, h2, _ => by simp only [fold, fq, List.foldl_nil, List.map_nil]; omega
  | b :: r, c, h, h2, hb => by
    have hb0 := hb b (by simp)
    have hx := X_rng c b
    have hr := s1n_rng hx.1 hx.2 8
    show fold (s1n 8 (X c b)) r = _
    rw [fold_nat r _ hr.1 hr.2 (fun x hx => hb x (by simp [hx])), s1n_nat hx.1 hx.2, Int.toNat_natCast, X_nat h h2 hb0.1 (by omega), Int.toNat_natCast]
    rfl
theorem wr_u8m {z : Int} : wr .u8 z = z % 256 := by rw [wr_eq]; simp [IntKind.wrap, IntKind.bits, IntKind.signed]
theorem xor8 {a b : Int} (ha : 0 ≤ a ∧ a ≤ 255) (hb : 0 ≤ b ∧ b ≤ 255) : wr .u8 ((BitVec.toNat (BitVec.ofInt 8 a ^^^ BitVec.ofInt 8 b) : Nat) : Int) = ((a.toNat ^^^ b.toNat : Nat) : Int) := by
  have hl : a.toNat ^^^ b.toNat < 2 ^ 8 := Nat.xor_lt_two_pow (by omega) (by omega)
  rw [BitVec.toNat_xor, BitVec.toNat_ofInt, BitVec.toNat_ofInt]
  have e : ∀ v : Int, 0 ≤ v ∧ v ≤ 255 → (v % ((2 ^ 8 : Nat) : Int)).toNat = v.toNat := fun v h => by
    have : v % ((2 ^ 8 : Nat) : Int) = v := Int.emod_eq_of_lt h.1 (by omega)
    rw [this]
  rw [e a ha, e b hb, wr_u8 (by omega) (by omega)]
theorem bts_get : ∀ (n v j : Nat), j < n → (bts n v)[j]? = some (v / 256 ^ j % 256)
  | 0, v, j, h => by omega
  | n + 1, v, 0, h => by simp [bts]
  | n + 1, v, j + 1, h => by
    show (bts n (v / 256))[j]? = _
    rw [bts_get n (v / 256) j (by omega), Nat.pow_succ, Nat.mul_comm (256 ^ j), Nat.div_div_eq_div_mul]
theorem bts_len : ∀ (n v : Nat), (bts n v).length = n
  | 0, v => rfl
  | n + 1, v => by simp [bts, bts_len n]
/-- The list with i bytes of V turned in from k on. -/
def Tn (x : List Int) (k V i : Nat) (y : List Int) : Prop := y.length = x.length ∧ (∀ j : Nat, y.getD j 0 = if k ≤ j ∧ j < k + i then (((x.getD j 0).toNat ^^^ (V / 256 ^ (j - k) % 256) : Nat) : Int) else x.getD j 0)
theorem getD_set {l : List Int} {p j : Nat} {v : Int} (hp : p < l.length) : (putL l [v] p).getD j 0 = if j = p then v else l.getD j 0 := by
  have e : putL l [v] p = l.set p v := by
    unfold putL
    rw [List.set_eq_take_append_cons_drop, if_pos hp]
    rfl
  rw [e, List.getD_eq_getElem?_getD, List.getElem?_set, List.getD_eq_getElem?_getD]
  by_cases h : j = p
  · subst h; simp [hp]
  · rw [if_neg (fun e => h e.symm), if_neg h]
theorem Tn_next {x y : List Int} {k V i : Nat} (h : Tn x k V i y) (hk : k + i < x.length) : Tn x k V (i + 1) (putL y [(((y.getD (k + i) 0).toNat ^^^ (V / 256 ^ i % 256) : Nat) : Int)] (k + i)) := by
  obtain ⟨h1, h2⟩ := h
  refine ⟨by rw [putL_length (by simp; omega)]; exact h1, fun j => ?_⟩
  rw [getD_set (by omega)]
  by_cases hj : j = k + i
  · subst hj
    rw [if_pos rfl, if_pos (by omega), h2, if_neg (by omega), show k + i - k = i by omega]
  · rw [if_neg hj, h2]
    by_cases hc : k ≤ j ∧ j < k + i
    · rw [if_pos hc, if_pos (by omega)]
    · rw [if_neg hc, if_neg (by omega)]
theorem Tn_u8 {x y : List Int} {k V i : Nat} (h : Tn x k V i y) (hx : ∀ j : Nat, 0 ≤ x.getD j 0 ∧ x.getD j 0 ≤ 255) : ∀ j : Nat, 0 ≤ y.getD j 0 ∧ y.getD j 0 ≤ 255 := by
  intro j
  rw [h.2 j]
  have := hx j
  split
  · have hl : (x.getD j 0).toNat ^^^ (V / 256 ^ (j - k) % 256) < 2 ^ 8 := Nat.xor_lt_two_pow (by omega) (Nat.mod_lt _ (by omega))
    omega
  · exact this
theorem mem_u8 {y : List Int} (h : ∀ j : Nat, 0 ≤ y.getD j 0 ∧ y.getD j 0 ≤ 255) : ∀ b ∈ y, 0 ≤ b ∧ b ≤ 255 := by
  intro b hb
  obtain ⟨j, hj, e⟩ := List.getElem_of_mem hb
  have := h j
  rw [List.getD_eq_getElem?_getD, List.getElem?_eq_getElem hj] at this
  simp only [Option.getD_some, e] at this
  exact this
theorem Tn_zip {x y : List Int} {k V : Nat} (h : Tn x k V 5 y) (hx : ∀ j : Nat, 0 ≤ x.getD j 0 ∧ x.getD j 0 ≤ 255) (hk : k + 5 ≤ x.length) : y.map Int.toNat = List.zipWith (· ^^^ ·) (x.map Int.toNat) (List.replicate k 0 ++ (bts 5 V ++ List.replicate (x.length - k - 5) 0)) := by
  have hb := bts_len 5 V
  apply List.ext_getElem?
  intro j
  rw [List.getElem?_zipWith]
  by_cases hj : j < x.length
  · have hyj : y[j]? = some (y.getD j 0) := by rw [List.getD_eq_getElem?_getD, List.getElem?_eq_getElem (by rw [h.1]; exact hj)]; rfl
    have hxj : x[j]? = some (x.getD j 0) := by rw [List.getD_eq_getElem?_getD, List.getElem?_eq_getElem hj]; rfl
    rw [List.getElem?_map, List.getElem?_map, hyj, hxj, h.2 j]
    simp only [Option.map_some]
    by_cases h1 : j < k
    · rw [List.getElem?_append_left (by simp; omega), List.getElem?_replicate, if_pos h1, if_neg (show ¬ (k ≤ j ∧ j < k + 5) by omega)]
      simp
    · rw [List.getElem?_append_right (by simp; omega), List.length_replicate]
      by_cases h2 : j < k + 5
      · rw [List.getElem?_append_left (by rw [hb]; omega), bts_get 5 V (j - k) (by omega), if_pos (show k ≤ j ∧ j < k + 5 by omega)]
        simp
      · rw [List.getElem?_append_right (by rw [hb]; omega), hb, List.getElem?_replicate, if_neg (show ¬ (k ≤ j ∧ j < k + 5) by omega), if_pos (show j - k - 5 < x.length - k - 5 by omega)]
        simp
  · rw [List.getElem?_eq_none (by rw [List.length_map, h.1]; omega), List.getElem?_eq_none (by rw [List.length_map]; omega)]
theorem sums_differ {x y : List Int} {k by_ s : Nat} (h : Tn x k (by_ * 2 ^ s) 5 y) (hx : ∀ j : Nat, 0 ≤ x.getD j 0 ∧ x.getD j 0 ≤ 255) (hk : k + 5 ≤ x.length) (h0 : by_ ≠ 0) (h1 : by_ < 2 ^ 32) (hs : s ≤ 7) :
    X (IntKind.max .u32) (fold 4294967295 y) ≠ X (IntKind.max .u32) (fold 4294967295 x) := by
  have hy := Tn_u8 h hx
  have ey := fold_nat y 4294967295 (by omega) (by omega) (mem_u8 hy)
  have ex := fold_nat x 4294967295 (by omega) (by omega) (mem_u8 hx)
  have hry := fold_rng (c := 4294967295) (by omega) (by omega) y
  have hrx := fold_rng (c := 4294967295) (by omega) (by omega) x
  have hm : IntKind.max .u32 = 4294967295 := by decide
  rw [hm, X_nat (by omega) (by omega) hry.1 hry.2, X_nat (by omega) (by omega) hrx.1 hrx.2]
  intro e
  have e1 := Int.ofNat_inj.1 e
  have e2 : (fold 4294967295 y).toNat = (fold 4294967295 x).toNat := by
    have := congrArg (((4294967295 : Int).toNat) ^^^ ·) e1
    simp only [← Nat.xor_assoc, Nat.xor_self, Nat.zero_xor] at this
    exact this
  rw [ey, ex, Int.toNat_natCast, Int.toNat_natCast, Tn_zip h hx hk] at e2
  have hb := bts_len 5 (by_ * 2 ^ s)
  have e3 := fq_xor (x.map Int.toNat) (List.replicate k 0 ++ (bts 5 (by_ * 2 ^ s) ++ List.replicate (x.length - k - 5) 0)) (4294967295 : Int).toNat 0 (by simp only [List.length_map, List.length_append, List.length_replicate, hb]; omega)
  rw [Nat.xor_zero] at e3
  rw [e3] at e2
  have hne := burst by_ s k (x.length - k - 5) h0 h1 hs
  apply hne
  have := congrArg (fq (4294967295 : Int).toNat (x.map Int.toNat) ^^^ ·) e2
  simp only [← Nat.xor_assoc, Nat.xor_self, Nat.zero_xor] at this
  exact this
theorem wr_u64 {z : Int} (h : 0 ≤ z) (h2 : z ≤ 18446744073709551615) : wr .u64 z = z := by
  have e1 : lo .u64 = 0 := by rfl
  have e2 : hi .u64 = 18446744073709551615 := by rfl
  unfold wr
  rw [if_pos ⟨by omega, by omega⟩]
theorem Twf_u8 {l : List Int} (h : Twf (.list (.int .u8)) l) : ∀ j : Nat, 0 ≤ l.getD j 0 ∧ l.getD j 0 ≤ 255 := by
  intro j
  rw [List.getD_eq_getElem?_getD]
  by_cases hj : j < l.length
  · rw [List.getElem?_eq_getElem hj]
    have := h.2 _ (List.getElem_mem hj)
    exact this
  · rw [List.getElem?_eq_none (by omega)]; simp
theorem byte_eq (by_ s i : Nat) (h1 : by_ < 2 ^ 32) (hs : s ≤ 7) (hi : i < 5) : wr .u8 (Int.fdiv ((by_ : Int) * 2 ^ s) ((2 : Int) ^ min (8 * i) 64)) = ((by_ * 2 ^ s / 256 ^ i % 256 : Nat) : Int) := by
  have e1 : ((2 : Int) ^ min (8 * i) 64) = ((256 ^ i : Nat) : Int) := by
    rw [Nat.min_eq_left (by omega), Int.pow_mul]
    push_cast
    rfl
  have e2 : (by_ : Int) * 2 ^ s = ((by_ * 2 ^ s : Nat) : Int) := by push_cast; rfl
  rw [wr_u8m, e1, e2, Int.fdiv_eq_ediv_of_nonneg _ (Int.natCast_nonneg _)]
  norm_cast
theorem law_aux (N : Nat) (hN : 1000 ≤ N) (x : List Int) (at_ by_ : Nat) (hx : ∀ j : Nat, 0 ≤ x.getD j 0 ∧ x.getD j 0 ≤ 255) (ha : at_ ≤ 65535) (hb : by_ ≤ 4294967295) : W_law10_CrcTurned N (x, (at_ : Int), (by_ : Int)) = some true := by
  unfold W_law10_CrcTurned
  simp only
  by_cases c1 : (200 : Int) < x.length
  · rw [dT c1, cnd_t, obind_s, cnd_t]
  rw [dF c1, cnd_f, obind_s]
  by_cases c2 : (x.length : Int) < 5
  · rw [dT c2, cnd_t]
  rw [dF c2, cnd_f]
  by_cases c3 : (by_ : Int) = 0
  · rw [dT c3, cnd_t]
  have hs : at_ % 8 ≤ 7 := by omega
  have w0 : wr .i64 ((x.length : Int) - 4) = ((x.length - 4 : Nat) : Int) := by rw [wr_s (by omega) (by omega)]; omega
  have w1 : wr .i64 (at_ : Int) = at_ := wr_s (by omega) (by omega)
  have w2 : Int.tmod (at_ : Int) ((x.length - 4 : Nat) : Int) = ((at_ % (x.length - 4) : Nat) : Int) := by rw [Int.tmod_eq_emod_of_nonneg (by omega)]; norm_cast
  have w3 : Int.tmod (at_ : Int) 8 = ((at_ % 8 : Nat) : Int) := by rw [Int.tmod_eq_emod_of_nonneg (by omega)]; norm_cast
  have w4 : wr .u64 (by_ : Int) = by_ := wr_u64 (by omega) (by omega)
  have w5 : min (at_ % 8) 64 = at_ % 8 := by omega
  have w6 : wr .u64 ((by_ : Int) * 2 ^ (at_ % 8)) = (by_ : Int) * 2 ^ (at_ % 8) := by
    have h2 : (2 : Nat) ^ (at_ % 8) ≤ 2 ^ 7 := Nat.pow_le_pow_right (by omega) hs
    have h3 : by_ * 2 ^ (at_ % 8) ≤ 4294967295 * 2 ^ 7 := Nat.mul_le_mul hb h2
    have e2 : (by_ : Int) * 2 ^ (at_ % 8) = ((by_ * 2 ^ (at_ % 8) : Nat) : Int) := by push_cast; rfl
    rw [e2]
    exact wr_u64 (by omega) (by omega)
  rw [dF c3, cnd_f, dT (by omega), cnd_t, w0, dF (show ¬ ((x.length - 4 : Nat) : Int) = 0 by omega), Bool.not_false, cnd_t, w3, dF (show ¬ ((at_ % 8 : Nat) : Int) < 0 by omega), Bool.not_false, cnd_t, w1, w2, w4]
  simp only [Int.toNat_natCast, w5, w6]
  clear w0 w1 w2 w3 w4 w5 w6
  have hk : at_ % (x.length - 4) + 5 ≤ x.length := by have := Nat.mod_lt at_ (show 0 < x.length - 4 by omega); omega
  generalize at_ % (x.length - 4) = k at *
  generalize at_ % 8 = s at *
  refine obind_loop (fun v : Int × List Int => ∃ i : Nat, v.1 = i ∧ i ≤ 5 ∧ Tn x k (by_ * 2 ^ s) i v.2) (fun v => 5 - v.1.toNat) (fun r => Tn x k (by_ * 2 ^ s) 5 r) ⟨0, rfl, by omega, rfl, fun j => by rw [if_neg (by omega)]⟩ (by show 5 - Int.toNat 0 < N; omega) ?_ ?_
  · intro y hy
    have hy8 := Tn_u8 hy hx
    rw [Sum_eq N y (by omega) (by rw [hy.1]; omega) (by rw [hy.1]; omega) (mem_u8 hy8), obind_s, Sum_eq N x (by omega) (by omega) (by omega) (mem_u8 hx), obind_s]
    rw [dT (sums_differ hy hx hk (by omega) (by omega) hs)]
  · rintro ⟨v, y⟩ ⟨i, hi, hi5, hT⟩
    simp only at hi hT ⊢
    subst hi
    by_cases hlt : (i : Int) < 5
    case neg =>
      right
      have : i = 5 := by omega
      subst this
      rw [dF hlt, cnd_f]
      exact ⟨_, rfl, hT⟩
    left
    have hy8 := Tn_u8 hT hx (k + i)
    have hyl := hT.1
    have d1 : ((k + i : Nat) : Int) < y.length := by omega
    have d2 : ¬ ((8 * i : Nat) : Int) < 0 := by omega
    have w1 : wr .i64 ((k : Int) + i) = ((k + i : Nat) : Int) := by rw [wr_s (by omega) (by omega)]; omega
    have w2 : wr .i64 ((8 : Int) * i) = ((8 * i : Nat) : Int) := by rw [wr_s (by omega) (by omega)]; omega
    have w3 : wr .i64 ((i : Int) + 1) = ((i + 1 : Nat) : Int) := by rw [wr_s (by omega) (by omega)]; omega
    rw [dT hlt, cnd_t, w1, w2, w3, dT (Int.natCast_nonneg _), dT d1, Bool.and_self, cnd_t, dF d2, Bool.not_false, cnd_t, cnd_t, Int.toNat_natCast, Int.toNat_natCast]
    clear w1 w2 w3
    rw [byte_eq by_ s i (by omega) hs (by omega)]
    have hbl : by_ * 2 ^ s / 256 ^ i % 256 < 256 := Nat.mod_lt _ (by omega)
    rw [xor8 hy8 (by omega), Int.toNat_natCast]
    exact ⟨_, rfl, ⟨i + 1, rfl, by omega, Tn_next hT (by omega)⟩, by show 5 - Int.toNat ((i + 1 : Nat) : Int) < 5 - Int.toNat (i : Int); omega⟩
def NN : Nat := 1000
theorem law_true (y0 : List Int) (y1 : Int) (y2 : Int) (h0 : Twf (.list (.int .u8)) y0) (h1 : Twf (.int .u16) y1) (h2 : Twf (.int .u32) y2) : W_law10_CrcTurned NN (y0, y1, y2) = some true := by
  obtain ⟨a, rfl⟩ : ∃ a : Nat, y1 = a := ⟨y1.toNat, by have : 0 ≤ y1 := h1.1; omega⟩
  obtain ⟨b, rfl⟩ : ∃ b : Nat, y2 = b := ⟨y2.toNat, by have : 0 ≤ y2 := h2.1; omega⟩
  exact law_aux NN (Nat.le_refl _) y0 a b (Twf_u8 h0) (by have : (a : Int) ≤ 65535 := h1.2; omega) (by have : (b : Int) ≤ 4294967295 := h2.2; omega)

theorem spec (y0 : List Int) (y1 : Int) (y2 : Int) (h0 : Twf (.list (.int .u8)) y0) (h1 : Twf (.int .u16) y1) (h2 : Twf (.int .u32) y2) : Spec2 P0 4 [valW (.list (.int .u8)) y0, valW (.int .u16) y1, valW (.int .u32) y2] [] (.bs true) [] [] := (con_law10_CrcTurned_ok NN).2 (y0, y1, y2) true (law_true y0 y1 y2 h0 h1 h2)
theorem lifted (os : Os) (started : os.Started) (H : Type) (enc : TypeId × Value → H) :
    ReturnsInHanded {} Try.checked os 4 .any (Rows.crcTurnedSpec.pre6 enc Try.prog Try.f4 Rows.crcTurnedRow.domain false) (Rows.crcTurnedSpec.post enc Try.prog Try.f4 false true false false) := by
  refine returnsInHanded_of_change (C := Try.checked) own started (by kernel_rfl) Try.func4
    (ChangeSpec.witness6 (enc := enc) (C := Try.checked) false ⟨#[], #[.slice none 0 0, .int .u16 0, .int .u32 0], []⟩ 8 (by kernel_rfl) (by kernel_rfl) (by kernel_rfl) (by kernel_rfl)) ?_
  intro W base args ds gs before hval0 hW hcnd _
  have hval : ∀ (j : Nat) t v, Try.f4.params[j]? = some t → args[j]? = some v → Value.okWide Try.prog W .any base t v := hval0
  have hW' := hW
  obtain ⟨p, q, hA0, hV, rfl, hfz, hnd⟩ := hW
  have hA : DataW.TrodAll enc Try.prog W 0 (fun _ => true) true Try.f4.params.toList args.toList ds p := hA0
  rw [Try.params4] at hA hval
  obtain ⟨v0, vs0, d0, ds0, p0, q0, hargs, rfl, rfl, h0, r0⟩ := trodAll_cons hA
  obtain ⟨v1, vs1, d1, ds1, p1, q1, rfl, rfl, rfl, h1, r1⟩ := trodAll_cons r0
  obtain ⟨v2, vs2, d2, ds2, p2, q2, rfl, rfl, rfl, h2, r2⟩ := trodAll_cons r1
  obtain ⟨rfl, rfl, rfl⟩ := trodAll_nil r2
  obtain rfl : args = #[v0, v1, v2] := by cases args; simp_all
  obtain ⟨rfl, rfl⟩ := trodVars_none hV
  have k0 := h0
  have lt0 : ∀ x ∈ p0, x.block < W.heap.size := by obtain ⟨m, hm⟩ := k0; exact DataW.trod_lt m _ _ _ hm
  obtain ⟨y0, rp0, wf0⟩ := arg_ok (n := 12) (ty := (.list (.int .u8))) (by kernel_rfl) (hval 0 _ v0 rfl rfl) h0
  have k1 := h1
  have lt1 : ∀ x ∈ p1, x.block < W.heap.size := by obtain ⟨m, hm⟩ := k1; exact DataW.trod_lt m _ _ _ hm
  obtain ⟨y1, rp1, wf1⟩ := arg_ok (n := 12) (ty := (.int .u16)) (by kernel_rfl) (hval 1 _ v1 rfl rfl) h1
  have k2 := h2
  have lt2 : ∀ x ∈ p2, x.block < W.heap.size := by obtain ⟨m, hm⟩ := k2; exact DataW.trod_lt m _ _ _ hm
  obtain ⟨y2, rp2, wf2⟩ := arg_ok (n := 12) (ty := (.int .u32)) (by kernel_rfl) (hval 2 _ v2 rfl rfl) h2
  clear hA0 hval0
  refine (law_of2 (spec y0 y1 y2 wf0 wf1 wf2) W #[v0, v1, v2] (.cons rp0 (.cons rp1 (.cons rp2 .nil)))).mono fun e W' ⟨he, bel⟩ => ?_
  subst he
  exact ⟨_, rfl, _, _, _, [], _, [], hW', trodAll_mk1 (shut_bool Try.underlying4 _), (trodAll_cons_mk (Below.trod laidOut (by kernel_rfl) (of_decide_eq_true (by kernel_rfl)) k0 bel lt0) (trodAll_cons_mk (Below.trod laidOut (by kernel_rfl) (of_decide_eq_true (by kernel_rfl)) k1 bel lt1) (trodAll_cons_mk (Below.trod laidOut (by kernel_rfl) (of_decide_eq_true (by kernel_rfl)) k2 bel lt2) trodAll_mk0))), rfl, bel.frame _, fun h => by cases h⟩

theorem over : Rows.crcTurnedRow.holds Try.pinned (OpenSpec.ofChange Rows.crcTurnedSpec) :=
  OpenClaim.holds_of_wide 4 Try.f4 rfl rfl rfl rfl rfl rfl rfl ⟨rfl, rfl, rfl, rfl, rfl⟩ rfl rfl rfl rfl rfl (by kernel_rfl) Try.func4 (by kernel_rfl)
    (of_decide_eq_true (by kernel_rfl)) (by unfold Func.isWrapper; first | (rw [if_pos (by decide +kernel)]; kernel_rfl) | (rw [if_neg (by decide +kernel)]; exact ⟨rfl, rfl⟩))
    (fun os started H enc _ => lifted os started H enc)

theorem holds : Rows.CrcTurnedSaid := over
end Go.Proofs.Ytnkalddmjdicfaa.crcTurnedX
