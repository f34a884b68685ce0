/- OpsJoins: for all arguments the call returns true. The law is brought to a function of Lean's own (W_..) by the machine of the texts beside it, and that is reckoned; no condition. -/
import Derived.Test.YtfgceflanjeejaaExtL
import Derived.Test.YtfgceflanjeejaaRows
import Derived.WalkKit
import Derived.ProofKit
import Derived.OpenShut
import Derived.ShutString
import Derived.ChangeOld
import Derived.Below
namespace Go.Proofs.Ytfgceflanjeejaa.opsJoinsX
open Go.Abs Go.RowKit Go.ChangeShapes Go.WideShapes Go.ChangeAt
set_option maxRecDepth 100000
set_option linter.unusedVariables false
set_option linter.unusedSimpArgs false
noncomputable abbrev P0 : Program := Try.prog
noncomputable def bodyOf (fn : Func) : Code := fn.body.getD .skip
def L0 : Lend := fun f => aget [] [(56, [2])] f
def kpL (l : List Bool) : Nat → Bool := fun j => l.getD j true
theorem own : ownKnob Try.prog.godebug = none := by kernel_rfl
theorem laidOut : laidOutB Try.prog = true := by kernel_rfl
theorem mixed : P0.follows .mixedOrders = true := by decide +kernel
theorem progOk_ : progOk P0 = true := by decide +kernel
noncomputable def con_law25_begun (N : Nat) : Con := ⟨24, [], [], Unit, fun _ => some (), fun _ => (.bs true, [], [])⟩
theorem con_law25_begun_ok (N : Nat) : Con.ok P0 (con_law25_begun N) := closed_con2 (nonJ_ok _) mixed progOk_ (noneΞ_ok2 _) (inl := [14,15,33,34,35,93]) (breath := 100000) (n := 60) (by kernel_rfl)
def as_bits_read : List AS := [.val (.list (.int .u8))]
def bs_bits_read : List BS := []
def pout_bits_read : Pat := ⟨[(2, .val (.alt 115 (.agg (.pair (.int .i64) (.int .i64))) (.alt1 118 (.agg .unit))))], []⟩
noncomputable def G_bits_read  (N : Nat) : OrcT := orcOf []
noncomputable def F_bits_read  (N : Nat) (x : List Int) : Option ((Int × Int) ⊕ Unit) :=
  (evT (G_bits_read  N) L0 P0 [(3, .loop [7] ⟨[(3, .val (.int .i64)), (4, .val (.int .i64)), (9, .val (.int .i64))], []⟩ [(.exit 0, ⟨[], []⟩), (.ret, ⟨[(2, .val (.alt 115 (.agg (.pair (.int .i64) (.int .i64))) (.alt1 118 (.agg .unit))))], []⟩)])]
    [(1000007, .reg [(6, [7], ⟨[(28, .val .bool)], []⟩)])] N 400 (bodyOf Try.f75) ⟨47, slots 0 (argsOf as_bits_read bs_bits_read x), tabU (lbOf as_bits_read bs_bits_read x) [], []⟩).elim (kRet 47 pout_bits_read (kpL []) (lbOf as_bits_read bs_bits_read x))
def out_bits_read (y : (Int × Int) ⊕ Unit) : V × List OK × List OK := (valW (.alt 115 (.agg (.pair (.int .i64) (.int .i64))) (.alt1 118 (.agg .unit))) y, [], [])
noncomputable def V_bits_read  (N : Nat) (x : List Int) : Option ((Int × Int) ⊕ Unit) :=
  obind
    (loopN N
      (fun (v : Int × Int × Int) =>
        cnd (decide (Prod.snd (Prod.snd v) < (↑(List.length x) : Int)))
          (cnd (decide ((0 : Int) ≤ Prod.snd (Prod.snd v)) && decide (Prod.snd (Prod.snd v) < (↑(List.length x) : Int)))
            (obind
              (cnd (decide (Prod.snd (Prod.snd v) = (5 : Int))) (some true)
                (some
                  (decide
                    ((1073741824 : Int) <
                      wr IntKind.i64
                        (Prod.fst v +
                          wr IntKind.i64
                            (wr IntKind.i64
                                (Int.tmod (List.getD x (Int.toNat (Prod.snd (Prod.snd v))) (0 : Int)) (128 : Int)) *
                              Prod.fst (Prod.snd v)))))))
              fun (b : Bool) =>
              cnd b (some (Sum.inr (Sum.inl ())))
                (cnd (decide (List.getD x (Int.toNat (Prod.snd (Prod.snd v))) (0 : Int) = (0 : Int)))
                  (cnd (decide ((0 : Int) < Prod.snd (Prod.snd v))) (some (Sum.inr (Sum.inl ())))
                    (cnd (decide (List.getD x (Int.toNat (Prod.snd (Prod.snd v))) (0 : Int) < (128 : Int)))
                      (some
                        (Sum.inr
                          (Sum.inr
                            (Sum.inl
                              (wr IntKind.i64
                                  (Prod.fst v +
                                    wr IntKind.i64
                                      (wr IntKind.i64
                                          (Int.tmod (List.getD x (Int.toNat (Prod.snd (Prod.snd v))) (0 : Int))
                                            (128 : Int)) *
                                        Prod.fst (Prod.snd v))),
                                wr IntKind.i64 (Prod.snd (Prod.snd v) + (1 : Int)))))))
                      (some
                        (Sum.inl
                          (wr IntKind.i64
                              (Prod.fst v +
                                wr IntKind.i64
                                  (wr IntKind.i64
                                      (Int.tmod (List.getD x (Int.toNat (Prod.snd (Prod.snd v))) (0 : Int)) (128 : Int)) *
                                    Prod.fst (Prod.snd v))),
                            wr IntKind.i64 (Prod.fst (Prod.snd v) * (128 : Int)),
                            wr IntKind.i64 (Prod.snd (Prod.snd v) + (1 : Int)))))))
                  (cnd (decide (List.getD x (Int.toNat (Prod.snd (Prod.snd v))) (0 : Int) < (128 : Int)))
                    (some
                      (Sum.inr
                        (Sum.inr
                          (Sum.inl
                            (wr IntKind.i64
                                (Prod.fst v +
                                  wr IntKind.i64
                                    (wr IntKind.i64
                                        (Int.tmod (List.getD x (Int.toNat (Prod.snd (Prod.snd v))) (0 : Int))
                                          (128 : Int)) *
                                      Prod.fst (Prod.snd v))),
                              wr IntKind.i64 (Prod.snd (Prod.snd v) + (1 : Int)))))))
                    (some
                      (Sum.inl
                        (wr IntKind.i64
                            (Prod.fst v +
                              wr IntKind.i64
                                (wr IntKind.i64
                                    (Int.tmod (List.getD x (Int.toNat (Prod.snd (Prod.snd v))) (0 : Int)) (128 : Int)) *
                                  Prod.fst (Prod.snd v))),
                          wr IntKind.i64 (Prod.fst (Prod.snd v) * (128 : Int)),
                          wr IntKind.i64 (Prod.snd (Prod.snd v) + (1 : Int))))))))
            none)
          (some (Sum.inr (Sum.inl ()))))
      ((0 : Int), (1 : Int), (0 : Int)))
    fun (b : PUnit ⊕ Int × Int ⊕ PUnit) =>
    selim (fun (b : PUnit) => some (Sum.inr ())) (fun (c : Int × Int ⊕ PUnit) => some c) b
theorem FV_bits_read_eq  (N : Nat) (x : List Int) : F_bits_read  N x = V_bits_read  N x := by kernel_rfl
noncomputable def W_bits_read (N : Nat) (x : List Int) : Option ((Int × Int) ⊕ Unit) :=
  obind
    (loopN N
      (fun (v : Int × Int × Int) =>
        cnd (decide (Prod.snd (Prod.snd v) < (↑(List.length x) : Int)))
          (cnd (decide ((0 : Int) ≤ Prod.snd (Prod.snd v)) && decide (Prod.snd (Prod.snd v) < (↑(List.length x) : Int)))
            (obind
              (cnd (decide (Prod.snd (Prod.snd v) = (5 : Int))) (some true)
                (some
                  (decide
                    ((1073741824 : Int) <
                      wr IntKind.i64
                        (Prod.fst v +
                          wr IntKind.i64
                            (wr IntKind.i64
                                (Int.tmod (List.getD x (Int.toNat (Prod.snd (Prod.snd v))) (0 : Int)) (128 : Int)) *
                              Prod.fst (Prod.snd v)))))))
              fun (b : Bool) =>
              cnd b (some (Sum.inr (Sum.inl ())))
                (cnd (decide (List.getD x (Int.toNat (Prod.snd (Prod.snd v))) (0 : Int) = (0 : Int)))
                  (cnd (decide ((0 : Int) < Prod.snd (Prod.snd v))) (some (Sum.inr (Sum.inl ())))
                    (cnd (decide (List.getD x (Int.toNat (Prod.snd (Prod.snd v))) (0 : Int) < (128 : Int)))
                      (some
                        (Sum.inr
                          (Sum.inr
                            (Sum.inl
                              (wr IntKind.i64
                                  (Prod.fst v +
                                    wr IntKind.i64
                                      (wr IntKind.i64
                                          (Int.tmod (List.getD x (Int.toNat (Prod.snd (Prod.snd v))) (0 : Int))
                                            (128 : Int)) *
                                        Prod.fst (Prod.snd v))),
                                wr IntKind.i64 (Prod.snd (Prod.snd v) + (1 : Int)))))))
                      (some
                        (Sum.inl
                          (wr IntKind.i64
                              (Prod.fst v +
                                wr IntKind.i64
                                  (wr IntKind.i64
                                      (Int.tmod (List.getD x (Int.toNat (Prod.snd (Prod.snd v))) (0 : Int)) (128 : Int)) *
                                    Prod.fst (Prod.snd v))),
                            wr IntKind.i64 (Prod.fst (Prod.snd v) * (128 : Int)),
                            wr IntKind.i64 (Prod.snd (Prod.snd v) + (1 : Int)))))))
                  (cnd (decide (List.getD x (Int.toNat (Prod.snd (Prod.snd v))) (0 : Int) < (128 : Int)))
                    (some
                      (Sum.inr
                        (Sum.inr
                          (Sum.inl
                            (wr IntKind.i64
                                (Prod.fst v +
                                  wr IntKind.i64
                                    (wr IntKind.i64
                                        (Int.tmod (List.getD x (Int.toNat (Prod.snd (Prod.snd v))) (0 : Int))
                                          (128 : Int)) *
                                      Prod.fst (Prod.snd v))),
                              wr IntKind.i64 (Prod.snd (Prod.snd v) + (1 : Int)))))))
                    (some
                      (Sum.inl
                        (wr IntKind.i64
                            (Prod.fst v +
                              wr IntKind.i64
                                (wr IntKind.i64
                                    (Int.tmod (List.getD x (Int.toNat (Prod.snd (Prod.snd v))) (0 : Int)) (128 : Int)) *
                                  Prod.fst (Prod.snd v))),
                          wr IntKind.i64 (Prod.fst (Prod.snd v) * (128 : Int)),
                          wr IntKind.i64 (Prod.snd (Prod.snd v) + (1 : Int))))))))
            none)
          (some (Sum.inr (Sum.inl ()))))
      ((0 : Int), (1 : Int), (0 : Int)))
    fun (b : PUnit ⊕ Int × Int ⊕ PUnit) =>
    selim (fun (b : PUnit) => some (Sum.inr ())) (fun (c : Int × Int ⊕ PUnit) => some c) b
theorem F_bits_read_eq (N : Nat) (x : List Int) : F_bits_read  N x = W_bits_read N x := (FV_bits_read_eq  N x).trans (by kernel_rfl)
noncomputable def conw_bits_read (w : List Int → Option ((Int × Int) ⊕ Unit)) : Con := ⟨75, as_bits_read, bs_bits_read, (Int × Int) ⊕ Unit, w, out_bits_read⟩
noncomputable def con_bits_read (N : Nat) : Con := conw_bits_read (W_bits_read N)
theorem R_bits_read_eq (x : List Int) (y : (Int × Int) ⊕ Unit) : retOf2 P0 Try.f75 (kpL []) (lbOf as_bits_read bs_bits_read x) (patS ⟨47, [], [], []⟩ pout_bits_read y) = some (out_bits_read y) := by kernel_rfl
theorem con_bits_read_ok (N : Nat) : Con.ok P0 (con_bits_read N) := ⟨⟨Try.f75, Try.func75, by kernel_rfl, by kernel_rfl⟩, fun (x : List Int) (r : (Int × Int) ⊕ Unit) (hr : W_bits_read N x = some r) =>
  spec2_evT (Γ := G_bits_read N) (Λ := L0) (pout := pout_bits_read) (kp := kpL []) mixed (orcOf_ok [] (by simp)) Try.func75 (c := bodyOf Try.f75) (by kernel_rfl) (by kernel_rfl) (of_decide_eq_true (by kernel_rfl)) ((F_bits_read_eq N x).trans hr) (R_bits_read_eq x r)⟩
def as_bits_Take : List AS := [.val (.list (.int .u8))]
def bs_bits_Take : List BS := []
def pout_bits_Take : Pat := ⟨[(2, .val (.int .i64)), (3, .val (.int .i64)), (4, .val .bool)], []⟩
noncomputable def G_bits_Take (w_bits_read : List Int → Option ((Int × Int) ⊕ Unit)) (N : Nat) : OrcT := orcOf [conw_bits_read w_bits_read]
noncomputable def F_bits_Take (w_bits_read : List Int → Option ((Int × Int) ⊕ Unit)) (N : Nat) (x : List Int) : Option (Int × Int × Bool) :=
  (evT (G_bits_Take w_bits_read N) L0 P0 []
    [] N 400 (bodyOf Try.f72) ⟨17, slots 0 (argsOf as_bits_Take bs_bits_Take x), tabU (lbOf as_bits_Take bs_bits_Take x) [], []⟩).elim (kRet 17 pout_bits_Take (kpL []) (lbOf as_bits_Take bs_bits_Take x))
def out_bits_Take (y : Int × Int × Bool) : V × List OK × List OK := (.tup [valW (.int .i64) y.1, valW (.int .i64) y.2.1, valW .bool y.2.2], [], [])
noncomputable def V_bits_Take (w_bits_read : List Int → Option ((Int × Int) ⊕ Unit)) (N : Nat) (x : List Int) : Option (Int × Int × Bool) :=
  obind (w_bits_read x) fun (b : Int × Int ⊕ PUnit) =>
    selim (fun (b : Int × Int) => some (Prod.fst b, Prod.snd b, true))
      (fun (c : PUnit) => some ((0 : Int), (0 : Int), false)) b
theorem FV_bits_Take_eq (w_bits_read : List Int → Option ((Int × Int) ⊕ Unit)) (N : Nat) (x : List Int) : F_bits_Take w_bits_read N x = V_bits_Take w_bits_read N x := by kernel_rfl
noncomputable def W_bits_Take (N : Nat) (x : List Int) : Option (Int × Int × Bool) :=
  obind (W_bits_read N x) fun (b : Int × Int ⊕ PUnit) =>
    selim (fun (b : Int × Int) => some (Prod.fst b, Prod.snd b, true))
      (fun (c : PUnit) => some ((0 : Int), (0 : Int), false)) b
theorem F_bits_Take_eq (N : Nat) (x : List Int) : F_bits_Take (W_bits_read N) N x = W_bits_Take N x := (FV_bits_Take_eq (W_bits_read N) N x).trans (by kernel_rfl)
noncomputable def conw_bits_Take (w : List Int → Option (Int × Int × Bool)) : Con := ⟨72, as_bits_Take, bs_bits_Take, Int × Int × Bool, w, out_bits_Take⟩
noncomputable def con_bits_Take (N : Nat) : Con := conw_bits_Take (W_bits_Take N)
theorem R_bits_Take_eq (x : List Int) (y : Int × Int × Bool) : retOf2 P0 Try.f72 (kpL []) (lbOf as_bits_Take bs_bits_Take x) (patS ⟨17, [], [], []⟩ pout_bits_Take y) = some (out_bits_Take y) := by kernel_rfl
theorem con_bits_Take_ok (N : Nat) : Con.ok P0 (con_bits_Take N) := ⟨⟨Try.f72, Try.func72, by kernel_rfl, by kernel_rfl⟩, fun (x : List Int) (r : Int × Int × Bool) (hr : W_bits_Take N x = some r) =>
  spec2_evT (Γ := G_bits_Take (W_bits_read N) N) (Λ := L0) (pout := pout_bits_Take) (kp := kpL []) mixed (orcOf_ok _ (by simp only [List.mem_cons, List.not_mem_nil, or_false, forall_eq_or_imp, forall_eq]; exact con_bits_read_ok N)) Try.func72 (c := bodyOf Try.f72) (by kernel_rfl) (by kernel_rfl) (of_decide_eq_true (by kernel_rfl)) ((F_bits_Take_eq N x).trans hr) (R_bits_Take_eq x r)⟩
def as_ops_reader_number : List AS := [.ptr 0 0]
def bs_ops_reader_number : List BS := [.box 88 (.pair (.list (.int .u8)) .bool)]
def pout_ops_reader_number : Pat := ⟨[(0, .ptr 1000000 0), (2, .val (.int .i64))], [(1000000, .box 88 (.val (.pair (.list (.int .u8)) .bool)))]⟩
noncomputable def G_ops_reader_number (w_bits_Take : List Int → Option (Int × Int × Bool)) (N : Nat) : OrcT := orcOf [conw_bits_Take w_bits_Take]
noncomputable def F_ops_reader_number (w_bits_Take : List Int → Option (Int × Int × Bool)) (N : Nat) (x : (List Int) × Bool) : Option (Int × (List Int) × Bool) :=
  (evT (G_ops_reader_number w_bits_Take N) L0 P0 []
    [] N 400 (bodyOf Try.f68) ⟨36, slots 0 (argsOf as_ops_reader_number bs_ops_reader_number x), tabU (lbOf as_ops_reader_number bs_ops_reader_number x) [], []⟩).elim (kRet 36 pout_ops_reader_number (kpL [true]) (lbOf as_ops_reader_number bs_ops_reader_number x))
def out_ops_reader_number (y : Int × (List Int) × Bool) : V × List OK × List OK := (valW (.int .i64) y.1, [.box 88 (cellsW (.pair (.list (.int .u8)) .bool) y.2)], [])
noncomputable def V_ops_reader_number (w_bits_Take : List Int → Option (Int × Int × Bool)) (N : Nat) (x : (List Int) × Bool) : Option (Int × (List Int) × Bool) :=
  obind (w_bits_Take (Prod.fst x)) fun (b : Int × Int × Bool) =>
    cnd (decide ((0 : Int) ≤ Prod.fst (Prod.snd b)) && decide (Prod.fst (Prod.snd b) ≤ (↑(List.length (Prod.fst x)) : Int)))
      (cnd (Prod.snd x)
        (some
          (Prod.fst b, List.drop (Int.toNat (Prod.fst (Prod.snd b))) (List.take (List.length (Prod.fst x)) (Prod.fst x)),
            true))
        (some
          (Prod.fst b, List.drop (Int.toNat (Prod.fst (Prod.snd b))) (List.take (List.length (Prod.fst x)) (Prod.fst x)),
            !Prod.snd (Prod.snd b))))
      none
theorem FV_ops_reader_number_eq (w_bits_Take : List Int → Option (Int × Int × Bool)) (N : Nat) (x : (List Int) × Bool) : F_ops_reader_number w_bits_Take N x = V_ops_reader_number w_bits_Take N x := by kernel_rfl
noncomputable def W_ops_reader_number (N : Nat) (x : (List Int) × Bool) : Option (Int × (List Int) × Bool) :=
  obind (W_bits_Take N (Prod.fst x)) fun (b : Int × Int × Bool) =>
    cnd (decide ((0 : Int) ≤ Prod.fst (Prod.snd b)) && decide (Prod.fst (Prod.snd b) ≤ (↑(List.length (Prod.fst x)) : Int)))
      (cnd (Prod.snd x)
        (some
          (Prod.fst b, List.drop (Int.toNat (Prod.fst (Prod.snd b))) (List.take (List.length (Prod.fst x)) (Prod.fst x)),
            true))
        (some
          (Prod.fst b, List.drop (Int.toNat (Prod.fst (Prod.snd b))) (List.take (List.length (Prod.fst x)) (Prod.fst x)),
            !Prod.snd (Prod.snd b))))
      none
theorem F_ops_reader_number_eq (N : Nat) (x : (List Int) × Bool) : F_ops_reader_number (W_bits_Take N) N x = W_ops_reader_number N x := (FV_ops_reader_number_eq (W_bits_Take N) N x).trans (by kernel_rfl)
noncomputable def conw_ops_reader_number (w : (List Int) × Bool → Option (Int × (List Int) × Bool)) : Con := ⟨68, as_ops_reader_number, bs_ops_reader_number, Int × (List Int) × Bool, w, out_ops_reader_number⟩
noncomputable def con_ops_reader_number (N : Nat) : Con := conw_ops_reader_number (W_ops_reader_number N)
theorem R_ops_reader_number_eq (x : (List Int) × Bool) (y : Int × (List Int) × Bool) : retOf2 P0 Try.f68 (kpL [true]) (lbOf as_ops_reader_number bs_ops_reader_number x) (patS ⟨36, [], [], []⟩ pout_ops_reader_number y) = some (out_ops_reader_number y) := by kernel_rfl
theorem con_ops_reader_number_ok (N : Nat) : Con.ok P0 (con_ops_reader_number N) := ⟨⟨Try.f68, Try.func68, by kernel_rfl, by kernel_rfl⟩, fun (x : (List Int) × Bool) (r : Int × (List Int) × Bool) (hr : W_ops_reader_number N x = some r) =>
  spec2_evT (Γ := G_ops_reader_number (W_bits_Take N) N) (Λ := L0) (pout := pout_ops_reader_number) (kp := kpL [true]) mixed (orcOf_ok _ (by simp only [List.mem_cons, List.not_mem_nil, or_false, forall_eq_or_imp, forall_eq]; exact con_bits_Take_ok N)) Try.func68 (c := bodyOf Try.f68) (by kernel_rfl) (by kernel_rfl) (of_decide_eq_true (by kernel_rfl)) ((F_ops_reader_number_eq N x).trans hr) (R_ops_reader_number_eq x r)⟩
def as_bits_TakeText : List AS := [.val (.list (.int .u8))]
def bs_bits_TakeText : List BS := []
def pout_bits_TakeText : Pat := ⟨[(2, .val .str), (3, .val (.int .i64)), (4, .val .bool)], []⟩
noncomputable def G_bits_TakeText (w_bits_read : List Int → Option ((Int × Int) ⊕ Unit)) (N : Nat) : OrcT := orcOf [conw_bits_read w_bits_read]
noncomputable def F_bits_TakeText (w_bits_read : List Int → Option ((Int × Int) ⊕ Unit)) (N : Nat) (x : List Int) : Option ((List UInt8) × Int × Bool) :=
  (evT (G_bits_TakeText w_bits_read N) L0 P0 []
    [] N 400 (bodyOf Try.f73) ⟨39, slots 0 (argsOf as_bits_TakeText bs_bits_TakeText x), tabU (lbOf as_bits_TakeText bs_bits_TakeText x) [], []⟩).elim (kRet 39 pout_bits_TakeText (kpL []) (lbOf as_bits_TakeText bs_bits_TakeText x))
def out_bits_TakeText (y : (List UInt8) × Int × Bool) : V × List OK × List OK := (.tup [valW .str y.1, valW (.int .i64) y.2.1, valW .bool y.2.2], [], [])
noncomputable def V_bits_TakeText (w_bits_read : List Int → Option ((Int × Int) ⊕ Unit)) (N : Nat) (x : List Int) : Option ((List UInt8) × Int × Bool) :=
  obind (w_bits_read x) fun (b : Int × Int ⊕ PUnit) =>
    selim
      (fun (b : Int × Int) =>
        cnd (decide (wr IntKind.i64 ((↑(List.length x) : Int) - Prod.snd b) < Prod.fst b)) (some ([], (0 : Int), false))
          (cnd
            (decide ((0 : Int) ≤ Prod.snd b) && decide (Prod.snd b ≤ wr IntKind.i64 (Prod.snd b + Prod.fst b)) &&
              decide (wr IntKind.i64 (Prod.snd b + Prod.fst b) ≤ (↑(List.length x) : Int)))
            (cnd
              (List.all
                (List.drop (Int.toNat (Prod.snd b)) (List.take (Int.toNat (wr IntKind.i64 (Prod.snd b + Prod.fst b))) x))
                fun (n : Int) => decide ((0 : Int) ≤ n) && decide (n < (256 : Int)))
              (some
                (bytesI
                    (List.drop (Int.toNat (Prod.snd b))
                      (List.take (Int.toNat (wr IntKind.i64 (Prod.snd b + Prod.fst b))) x)),
                  wr IntKind.i64 (Prod.snd b + Prod.fst b), true))
              none)
            none))
      (fun (c : PUnit) => some ([], (0 : Int), false)) b
theorem FV_bits_TakeText_eq (w_bits_read : List Int → Option ((Int × Int) ⊕ Unit)) (N : Nat) (x : List Int) : F_bits_TakeText w_bits_read N x = V_bits_TakeText w_bits_read N x := by kernel_rfl
noncomputable def W_bits_TakeText (N : Nat) (x : List Int) : Option ((List UInt8) × Int × Bool) :=
  obind (W_bits_read N x) fun (b : Int × Int ⊕ PUnit) =>
    selim
      (fun (b : Int × Int) =>
        cnd (decide (wr IntKind.i64 ((↑(List.length x) : Int) - Prod.snd b) < Prod.fst b)) (some ([], (0 : Int), false))
          (cnd
            (decide ((0 : Int) ≤ Prod.snd b) && decide (Prod.snd b ≤ wr IntKind.i64 (Prod.snd b + Prod.fst b)) &&
              decide (wr IntKind.i64 (Prod.snd b + Prod.fst b) ≤ (↑(List.length x) : Int)))
            (cnd
              (List.all
                (List.drop (Int.toNat (Prod.snd b)) (List.take (Int.toNat (wr IntKind.i64 (Prod.snd b + Prod.fst b))) x))
                fun (n : Int) => decide ((0 : Int) ≤ n) && decide (n < (256 : Int)))
              (some
                (bytesI
                    (List.drop (Int.toNat (Prod.snd b))
                      (List.take (Int.toNat (wr IntKind.i64 (Prod.snd b + Prod.fst b))) x)),
                  wr IntKind.i64 (Prod.snd b + Prod.fst b), true))
              none)
            none))
      (fun (c : PUnit) => some ([], (0 : Int), false)) b
theorem F_bits_TakeText_eq (N : Nat) (x : List Int) : F_bits_TakeText (W_bits_read N) N x = W_bits_TakeText N x := (FV_bits_TakeText_eq (W_bits_read N) N x).trans (by kernel_rfl)
noncomputable def conw_bits_TakeText (w : List Int → Option ((List UInt8) × Int × Bool)) : Con := ⟨73, as_bits_TakeText, bs_bits_TakeText, (List UInt8) × Int × Bool, w, out_bits_TakeText⟩
noncomputable def con_bits_TakeText (N : Nat) : Con := conw_bits_TakeText (W_bits_TakeText N)
theorem R_bits_TakeText_eq (x : List Int) (y : (List UInt8) × Int × Bool) : retOf2 P0 Try.f73 (kpL []) (lbOf as_bits_TakeText bs_bits_TakeText x) (patS ⟨39, [], [], []⟩ pout_bits_TakeText y) = some (out_bits_TakeText y) := by kernel_rfl
theorem con_bits_TakeText_ok (N : Nat) : Con.ok P0 (con_bits_TakeText N) := ⟨⟨Try.f73, Try.func73, by kernel_rfl, by kernel_rfl⟩, fun (x : List Int) (r : (List UInt8) × Int × Bool) (hr : W_bits_TakeText N x = some r) =>
  spec2_evT (Γ := G_bits_TakeText (W_bits_read N) N) (Λ := L0) (pout := pout_bits_TakeText) (kp := kpL []) mixed (orcOf_ok _ (by simp only [List.mem_cons, List.not_mem_nil, or_false, forall_eq_or_imp, forall_eq]; exact con_bits_read_ok N)) Try.func73 (c := bodyOf Try.f73) (by kernel_rfl) (by kernel_rfl) (of_decide_eq_true (by kernel_rfl)) ((F_bits_TakeText_eq N x).trans hr) (R_bits_TakeText_eq x r)⟩
def as_ops_reader_text : List AS := [.ptr 0 0]
def bs_ops_reader_text : List BS := [.box 88 (.pair (.list (.int .u8)) .bool)]
def pout_ops_reader_text : Pat := ⟨[(0, .ptr 1000000 0), (2, .val .str)], [(1000000, .box 88 (.val (.pair (.list (.int .u8)) .bool)))]⟩
noncomputable def G_ops_reader_text (w_bits_TakeText : List Int → Option ((List UInt8) × Int × Bool)) (N : Nat) : OrcT := orcOf [conw_bits_TakeText w_bits_TakeText]
noncomputable def F_ops_reader_text (w_bits_TakeText : List Int → Option ((List UInt8) × Int × Bool)) (N : Nat) (x : (List Int) × Bool) : Option ((List UInt8) × (List Int) × Bool) :=
  (evT (G_ops_reader_text w_bits_TakeText N) L0 P0 []
    [] N 400 (bodyOf Try.f69) ⟨36, slots 0 (argsOf as_ops_reader_text bs_ops_reader_text x), tabU (lbOf as_ops_reader_text bs_ops_reader_text x) [], []⟩).elim (kRet 36 pout_ops_reader_text (kpL [true]) (lbOf as_ops_reader_text bs_ops_reader_text x))
def out_ops_reader_text (y : (List UInt8) × (List Int) × Bool) : V × List OK × List OK := (valW .str y.1, [.box 88 (cellsW (.pair (.list (.int .u8)) .bool) y.2)], [])
noncomputable def V_ops_reader_text (w_bits_TakeText : List Int → Option ((List UInt8) × Int × Bool)) (N : Nat) (x : (List Int) × Bool) : Option ((List UInt8) × (List Int) × Bool) :=
  obind (w_bits_TakeText (Prod.fst x)) fun (b : List UInt8 × Int × Bool) =>
    cnd (decide ((0 : Int) ≤ Prod.fst (Prod.snd b)) && decide (Prod.fst (Prod.snd b) ≤ (↑(List.length (Prod.fst x)) : Int)))
      (cnd (Prod.snd x)
        (some
          (Prod.fst b, List.drop (Int.toNat (Prod.fst (Prod.snd b))) (List.take (List.length (Prod.fst x)) (Prod.fst x)),
            true))
        (some
          (Prod.fst b, List.drop (Int.toNat (Prod.fst (Prod.snd b))) (List.take (List.length (Prod.fst x)) (Prod.fst x)),
            !Prod.snd (Prod.snd b))))
      none
theorem FV_ops_reader_text_eq (w_bits_TakeText : List Int → Option ((List UInt8) × Int × Bool)) (N : Nat) (x : (List Int) × Bool) : F_ops_reader_text w_bits_TakeText N x = V_ops_reader_text w_bits_TakeText N x := by kernel_rfl
noncomputable def W_ops_reader_text (N : Nat) (x : (List Int) × Bool) : Option ((List UInt8) × (List Int) × Bool) :=
  obind (W_bits_TakeText N (Prod.fst x)) fun (b : List UInt8 × Int × Bool) =>
    cnd (decide ((0 : Int) ≤ Prod.fst (Prod.snd b)) && decide (Prod.fst (Prod.snd b) ≤ (↑(List.length (Prod.fst x)) : Int)))
      (cnd (Prod.snd x)
        (some
          (Prod.fst b, List.drop (Int.toNat (Prod.fst (Prod.snd b))) (List.take (List.length (Prod.fst x)) (Prod.fst x)),
            true))
        (some
          (Prod.fst b, List.drop (Int.toNat (Prod.fst (Prod.snd b))) (List.take (List.length (Prod.fst x)) (Prod.fst x)),
            !Prod.snd (Prod.snd b))))
      none
theorem F_ops_reader_text_eq (N : Nat) (x : (List Int) × Bool) : F_ops_reader_text (W_bits_TakeText N) N x = W_ops_reader_text N x := (FV_ops_reader_text_eq (W_bits_TakeText N) N x).trans (by kernel_rfl)
noncomputable def conw_ops_reader_text (w : (List Int) × Bool → Option ((List UInt8) × (List Int) × Bool)) : Con := ⟨69, as_ops_reader_text, bs_ops_reader_text, (List UInt8) × (List Int) × Bool, w, out_ops_reader_text⟩
noncomputable def con_ops_reader_text (N : Nat) : Con := conw_ops_reader_text (W_ops_reader_text N)
theorem R_ops_reader_text_eq (x : (List Int) × Bool) (y : (List UInt8) × (List Int) × Bool) : retOf2 P0 Try.f69 (kpL [true]) (lbOf as_ops_reader_text bs_ops_reader_text x) (patS ⟨36, [], [], []⟩ pout_ops_reader_text y) = some (out_ops_reader_text y) := by kernel_rfl
theorem con_ops_reader_text_ok (N : Nat) : Con.ok P0 (con_ops_reader_text N) := ⟨⟨Try.f69, Try.func69, by kernel_rfl, by kernel_rfl⟩, fun (x : (List Int) × Bool) (r : (List UInt8) × (List Int) × Bool) (hr : W_ops_reader_text N x = some r) =>
  spec2_evT (Γ := G_ops_reader_text (W_bits_TakeText N) N) (Λ := L0) (pout := pout_ops_reader_text) (kp := kpL [true]) mixed (orcOf_ok _ (by simp only [List.mem_cons, List.not_mem_nil, or_false, forall_eq_or_imp, forall_eq]; exact con_bits_TakeText_ok N)) Try.func69 (c := bodyOf Try.f69) (by kernel_rfl) (by kernel_rfl) (of_decide_eq_true (by kernel_rfl)) ((F_ops_reader_text_eq N x).trans hr) (R_ops_reader_text_eq x r)⟩
def as_ops_reader_step : List AS := [.ptr 0 0, .val (.int .i32)]
def bs_ops_reader_step : List BS := [.box 88 (.pair (.list (.int .u8)) .bool)]
def pout_ops_reader_step : Pat := ⟨[(0, .ptr 1000000 0), (4, .ptr 600004 0)], [(1000000, .box 88 (.val (.pair (.list (.int .u8)) .bool))), (600004, .box 47 (.val (.pair (.int .i64) (.pair (.int .i64) (.pair (.int .i64) (.pair (.int .i64) .str))))))]⟩
noncomputable def G_ops_reader_step (w_ops_reader_number : (List Int) × Bool → Option (Int × (List Int) × Bool)) (w_ops_reader_text : (List Int) × Bool → Option ((List UInt8) × (List Int) × Bool)) (N : Nat) : OrcT := orcOf [conw_ops_reader_number w_ops_reader_number, conw_ops_reader_text w_ops_reader_text]
noncomputable def F_ops_reader_step (w_ops_reader_number : (List Int) × Bool → Option (Int × (List Int) × Bool)) (w_ops_reader_text : (List Int) × Bool → Option ((List UInt8) × (List Int) × Bool)) (N : Nat) (x : Int × (List Int) × Bool) : Option (((List Int) × Bool) × Int × Int × Int × Int × List UInt8) :=
  (evT (G_ops_reader_step w_ops_reader_number w_ops_reader_text N) L0 P0 []
    [(14, .cut [] [(.normal, ⟨[(0, .ptr 1000000 0), (4, .ptr 600004 0), (5, .ptr 600005 0), (30, .val .bool)], [(1000000, .box 88 (.val (.pair (.list (.int .u8)) .bool))), (600004, .box 47 (.val (.pair (.int .i64) (.pair (.int .i64) (.pair (.int .i64) (.pair (.int .i64) .str)))))), (600005, .box 47 (.val (.pair (.int .i64) (.pair (.int .i64) (.pair (.int .i64) (.pair (.int .i64) .str))))))]⟩)]),
    (8, .cut [] [(.normal, ⟨[(0, .ptr 1000000 0), (4, .ptr 600004 0), (5, .ptr 600005 0), (18, .val .bool)], [(1000000, .box 88 (.val (.pair (.list (.int .u8)) .bool))), (600004, .box 47 (.val (.pair (.int .i64) (.pair (.int .i64) (.pair (.int .i64) (.pair (.int .i64) .str)))))), (600005, .box 47 (.val (.pair (.int .i64) (.pair (.int .i64) (.pair (.int .i64) (.pair (.int .i64) .str))))))]⟩)])] N 400 (bodyOf Try.f54) ⟨46, slots 0 (argsOf as_ops_reader_step bs_ops_reader_step x), tabU (lbOf as_ops_reader_step bs_ops_reader_step x) [], []⟩).elim (kRet 46 pout_ops_reader_step (kpL [true]) (lbOf as_ops_reader_step bs_ops_reader_step x))
def out_ops_reader_step (y : ((List Int) × Bool) × Int × Int × Int × Int × List UInt8) : V × List OK × List OK := (valW (.agg (.pair (.int .i64) (.pair (.int .i64) (.pair (.int .i64) (.pair (.int .i64) .str))))) y.2, [.box 88 (cellsW (.pair (.list (.int .u8)) .bool) y.1)], [])
noncomputable def V_ops_reader_step (w_ops_reader_number : (List Int) × Bool → Option (Int × (List Int) × Bool)) (w_ops_reader_text : (List Int) × Bool → Option ((List UInt8) × (List Int) × Bool)) (N : Nat) (x : Int × (List Int) × Bool) : Option (((List Int) × Bool) × Int × Int × Int × Int × List UInt8) :=
  cnd (decide (Prod.fst x = (1 : Int)))
    (obind (w_ops_reader_number (Prod.fst (Prod.snd x), Prod.snd (Prod.snd x))) fun (b : Int × List Int × Bool) =>
      obind (w_ops_reader_text (Prod.fst (Prod.snd b), Prod.snd (Prod.snd b)))
        fun (b_1 : List UInt8 × List Int × Bool) =>
        some
          ((Prod.fst (Prod.snd b_1), Prod.snd (Prod.snd b_1)), wr IntKind.i64 (Prod.fst x), Prod.fst b, (0 : Int),
            (0 : Int), Prod.fst b_1))
    (obind
      (cnd (decide (Prod.fst x = (2 : Int)))
        (some
          (decide (Prod.fst x = (2 : Int)), (Prod.fst (Prod.snd x), Prod.snd (Prod.snd x)),
            ((0 : Int), (0 : Int), (0 : Int), (0 : Int), []), wr IntKind.i64 (Prod.fst x), (0 : Int), (0 : Int),
            (0 : Int), []))
        (cnd (decide (Prod.fst x = (3 : Int)))
          (some
            (decide (Prod.fst x = (3 : Int)), (Prod.fst (Prod.snd x), Prod.snd (Prod.snd x)),
              ((0 : Int), (0 : Int), (0 : Int), (0 : Int), []), wr IntKind.i64 (Prod.fst x), (0 : Int), (0 : Int),
              (0 : Int), []))
          (some
            (decide (Prod.fst x = (5 : Int)), (Prod.fst (Prod.snd x), Prod.snd (Prod.snd x)),
              ((0 : Int), (0 : Int), (0 : Int), (0 : Int), []), wr IntKind.i64 (Prod.fst x), (0 : Int), (0 : Int),
              (0 : Int), []))))
      fun (b : Bool × (List Int × Bool) × (Int × Int × Int × Int × List UInt8) × Int × Int × Int × Int × List UInt8) =>
      cnd (Prod.fst b)
        (obind (w_ops_reader_number (Prod.fst (Prod.fst (Prod.snd b)), Prod.snd (Prod.fst (Prod.snd b))))
          fun (b_1 : Int × List Int × Bool) =>
          some
            ((Prod.fst (Prod.snd b_1), Prod.snd (Prod.snd b_1)), Prod.fst (Prod.snd (Prod.snd (Prod.snd b))),
              Prod.fst b_1, Prod.fst (Prod.snd (Prod.snd (Prod.snd (Prod.snd (Prod.snd b))))),
              Prod.fst (Prod.snd (Prod.snd (Prod.snd (Prod.snd (Prod.snd (Prod.snd b)))))),
              Prod.snd (Prod.snd (Prod.snd (Prod.snd (Prod.snd (Prod.snd (Prod.snd b))))))))
        (cnd (decide (Prod.fst x = (4 : Int)))
          (obind (w_ops_reader_text (Prod.fst (Prod.fst (Prod.snd b)), Prod.snd (Prod.fst (Prod.snd b))))
            fun (b_1 : List UInt8 × List Int × Bool) =>
            some
              ((Prod.fst (Prod.snd b_1), Prod.snd (Prod.snd b_1)), Prod.fst (Prod.snd (Prod.snd (Prod.snd b))),
                Prod.fst (Prod.snd (Prod.snd (Prod.snd (Prod.snd b)))),
                Prod.fst (Prod.snd (Prod.snd (Prod.snd (Prod.snd (Prod.snd b))))),
                Prod.fst (Prod.snd (Prod.snd (Prod.snd (Prod.snd (Prod.snd (Prod.snd b)))))), Prod.fst b_1))
          (obind
            (cnd (decide (Prod.fst x = (6 : Int)))
              (some
                (decide (Prod.fst x = (6 : Int)), (Prod.fst (Prod.fst (Prod.snd b)), Prod.snd (Prod.fst (Prod.snd b))),
                  (Prod.fst (Prod.fst (Prod.snd (Prod.snd b))), Prod.fst (Prod.snd (Prod.fst (Prod.snd (Prod.snd b)))),
                    Prod.fst (Prod.snd (Prod.snd (Prod.fst (Prod.snd (Prod.snd b))))),
                    Prod.fst (Prod.snd (Prod.snd (Prod.snd (Prod.fst (Prod.snd (Prod.snd b)))))),
                    Prod.snd (Prod.snd (Prod.snd (Prod.snd (Prod.fst (Prod.snd (Prod.snd b))))))),
                  Prod.fst (Prod.snd (Prod.snd (Prod.snd b))), Prod.fst (Prod.snd (Prod.snd (Prod.snd (Prod.snd b)))),
                  Prod.fst (Prod.snd (Prod.snd (Prod.snd (Prod.snd (Prod.snd b))))),
                  Prod.fst (Prod.snd (Prod.snd (Prod.snd (Prod.snd (Prod.snd (Prod.snd b)))))),
                  Prod.snd (Prod.snd (Prod.snd (Prod.snd (Prod.snd (Prod.snd (Prod.snd b))))))))
              (cnd (decide (Prod.fst x = (7 : Int)))
                (some
                  (decide (Prod.fst x = (7 : Int)), (Prod.fst (Prod.fst (Prod.snd b)), Prod.snd (Prod.fst (Prod.snd b))),
                    (Prod.fst (Prod.fst (Prod.snd (Prod.snd b))), Prod.fst (Prod.snd (Prod.fst (Prod.snd (Prod.snd b)))),
                      Prod.fst (Prod.snd (Prod.snd (Prod.fst (Prod.snd (Prod.snd b))))),
                      Prod.fst (Prod.snd (Prod.snd (Prod.snd (Prod.fst (Prod.snd (Prod.snd b)))))),
                      Prod.snd (Prod.snd (Prod.snd (Prod.snd (Prod.fst (Prod.snd (Prod.snd b))))))),
                    Prod.fst (Prod.snd (Prod.snd (Prod.snd b))), Prod.fst (Prod.snd (Prod.snd (Prod.snd (Prod.snd b)))),
                    Prod.fst (Prod.snd (Prod.snd (Prod.snd (Prod.snd (Prod.snd b))))),
                    Prod.fst (Prod.snd (Prod.snd (Prod.snd (Prod.snd (Prod.snd (Prod.snd b)))))),
                    Prod.snd (Prod.snd (Prod.snd (Prod.snd (Prod.snd (Prod.snd (Prod.snd b))))))))
                (some
                  (decide (Prod.fst x = (8 : Int)), (Prod.fst (Prod.fst (Prod.snd b)), Prod.snd (Prod.fst (Prod.snd b))),
                    (Prod.fst (Prod.fst (Prod.snd (Prod.snd b))), Prod.fst (Prod.snd (Prod.fst (Prod.snd (Prod.snd b)))),
                      Prod.fst (Prod.snd (Prod.snd (Prod.fst (Prod.snd (Prod.snd b))))),
                      Prod.fst (Prod.snd (Prod.snd (Prod.snd (Prod.fst (Prod.snd (Prod.snd b)))))),
                      Prod.snd (Prod.snd (Prod.snd (Prod.snd (Prod.fst (Prod.snd (Prod.snd b))))))),
                    Prod.fst (Prod.snd (Prod.snd (Prod.snd b))), Prod.fst (Prod.snd (Prod.snd (Prod.snd (Prod.snd b)))),
                    Prod.fst (Prod.snd (Prod.snd (Prod.snd (Prod.snd (Prod.snd b))))),
                    Prod.fst (Prod.snd (Prod.snd (Prod.snd (Prod.snd (Prod.snd (Prod.snd b)))))),
                    Prod.snd (Prod.snd (Prod.snd (Prod.snd (Prod.snd (Prod.snd (Prod.snd b))))))))))
            fun
              (b :
                Bool × (List Int × Bool) × (Int × Int × Int × Int × List UInt8) × Int × Int × Int × Int × List UInt8) =>
            cnd (Prod.fst b)
              (obind (w_ops_reader_number (Prod.fst (Prod.fst (Prod.snd b)), Prod.snd (Prod.fst (Prod.snd b))))
                fun (b_1 : Int × List Int × Bool) =>
                some
                  ((Prod.fst (Prod.snd b_1), Prod.snd (Prod.snd b_1)), Prod.fst (Prod.snd (Prod.snd (Prod.snd b))),
                    Prod.fst (Prod.snd (Prod.snd (Prod.snd (Prod.snd b)))), Prod.fst b_1,
                    Prod.fst (Prod.snd (Prod.snd (Prod.snd (Prod.snd (Prod.snd (Prod.snd b)))))),
                    Prod.snd (Prod.snd (Prod.snd (Prod.snd (Prod.snd (Prod.snd (Prod.snd b))))))))
              (cnd (decide (Prod.fst x = (9 : Int)))
                (obind (w_ops_reader_number (Prod.fst (Prod.fst (Prod.snd b)), Prod.snd (Prod.fst (Prod.snd b))))
                  fun (b_1 : Int × List Int × Bool) =>
                  obind (w_ops_reader_number (Prod.fst (Prod.snd b_1), Prod.snd (Prod.snd b_1)))
                    fun (b_2 : Int × List Int × Bool) =>
                    some
                      ((Prod.fst (Prod.snd b_2), Prod.snd (Prod.snd b_2)), Prod.fst (Prod.snd (Prod.snd (Prod.snd b))),
                        Prod.fst (Prod.snd (Prod.snd (Prod.snd (Prod.snd b)))), Prod.fst b_1, Prod.fst b_2,
                        Prod.snd (Prod.snd (Prod.snd (Prod.snd (Prod.snd (Prod.snd (Prod.snd b))))))))
                (some
                  ((Prod.fst (Prod.fst (Prod.snd b)), Prod.snd (Prod.fst (Prod.snd b))),
                    Prod.fst (Prod.snd (Prod.snd (Prod.snd b))), Prod.fst (Prod.snd (Prod.snd (Prod.snd (Prod.snd b)))),
                    Prod.fst (Prod.snd (Prod.snd (Prod.snd (Prod.snd (Prod.snd b))))),
                    Prod.fst (Prod.snd (Prod.snd (Prod.snd (Prod.snd (Prod.snd (Prod.snd b)))))),
                    Prod.snd (Prod.snd (Prod.snd (Prod.snd (Prod.snd (Prod.snd (Prod.snd b))))))))))))
theorem FV_ops_reader_step_eq (w_ops_reader_number : (List Int) × Bool → Option (Int × (List Int) × Bool)) (w_ops_reader_text : (List Int) × Bool → Option ((List UInt8) × (List Int) × Bool)) (N : Nat) (x : Int × (List Int) × Bool) : F_ops_reader_step w_ops_reader_number w_ops_reader_text N x = V_ops_reader_step w_ops_reader_number w_ops_reader_text N x := by kernel_rfl
noncomputable def W_ops_reader_step (N : Nat) (x : Int × (List Int) × Bool) : Option (((List Int) × Bool) × Int × Int × Int × Int × List UInt8) :=
  cnd (decide (Prod.fst x = (1 : Int)))
    (obind (W_ops_reader_number N (Prod.fst (Prod.snd x), Prod.snd (Prod.snd x))) fun (b : Int × List Int × Bool) =>
      obind (W_ops_reader_text N (Prod.fst (Prod.snd b), Prod.snd (Prod.snd b)))
        fun (b_1 : List UInt8 × List Int × Bool) =>
        some
          ((Prod.fst (Prod.snd b_1), Prod.snd (Prod.snd b_1)), wr IntKind.i64 (Prod.fst x), Prod.fst b, (0 : Int),
            (0 : Int), Prod.fst b_1))
    (obind
      (cnd (decide (Prod.fst x = (2 : Int)))
        (some
          (decide (Prod.fst x = (2 : Int)), (Prod.fst (Prod.snd x), Prod.snd (Prod.snd x)),
            ((0 : Int), (0 : Int), (0 : Int), (0 : Int), []), wr IntKind.i64 (Prod.fst x), (0 : Int), (0 : Int),
            (0 : Int), []))
        (cnd (decide (Prod.fst x = (3 : Int)))
          (some
            (decide (Prod.fst x = (3 : Int)), (Prod.fst (Prod.snd x), Prod.snd (Prod.snd x)),
              ((0 : Int), (0 : Int), (0 : Int), (0 : Int), []), wr IntKind.i64 (Prod.fst x), (0 : Int), (0 : Int),
              (0 : Int), []))
          (some
            (decide (Prod.fst x = (5 : Int)), (Prod.fst (Prod.snd x), Prod.snd (Prod.snd x)),
              ((0 : Int), (0 : Int), (0 : Int), (0 : Int), []), wr IntKind.i64 (Prod.fst x), (0 : Int), (0 : Int),
              (0 : Int), []))))
      fun (b : Bool × (List Int × Bool) × (Int × Int × Int × Int × List UInt8) × Int × Int × Int × Int × List UInt8) =>
      cnd (Prod.fst b)
        (obind (W_ops_reader_number N (Prod.fst (Prod.fst (Prod.snd b)), Prod.snd (Prod.fst (Prod.snd b))))
          fun (b_1 : Int × List Int × Bool) =>
          some
            ((Prod.fst (Prod.snd b_1), Prod.snd (Prod.snd b_1)), Prod.fst (Prod.snd (Prod.snd (Prod.snd b))),
              Prod.fst b_1, Prod.fst (Prod.snd (Prod.snd (Prod.snd (Prod.snd (Prod.snd b))))),
              Prod.fst (Prod.snd (Prod.snd (Prod.snd (Prod.snd (Prod.snd (Prod.snd b)))))),
              Prod.snd (Prod.snd (Prod.snd (Prod.snd (Prod.snd (Prod.snd (Prod.snd b))))))))
        (cnd (decide (Prod.fst x = (4 : Int)))
          (obind (W_ops_reader_text N (Prod.fst (Prod.fst (Prod.snd b)), Prod.snd (Prod.fst (Prod.snd b))))
            fun (b_1 : List UInt8 × List Int × Bool) =>
            some
              ((Prod.fst (Prod.snd b_1), Prod.snd (Prod.snd b_1)), Prod.fst (Prod.snd (Prod.snd (Prod.snd b))),
                Prod.fst (Prod.snd (Prod.snd (Prod.snd (Prod.snd b)))),
                Prod.fst (Prod.snd (Prod.snd (Prod.snd (Prod.snd (Prod.snd b))))),
                Prod.fst (Prod.snd (Prod.snd (Prod.snd (Prod.snd (Prod.snd (Prod.snd b)))))), Prod.fst b_1))
          (obind
            (cnd (decide (Prod.fst x = (6 : Int)))
              (some
                (decide (Prod.fst x = (6 : Int)), (Prod.fst (Prod.fst (Prod.snd b)), Prod.snd (Prod.fst (Prod.snd b))),
                  (Prod.fst (Prod.fst (Prod.snd (Prod.snd b))), Prod.fst (Prod.snd (Prod.fst (Prod.snd (Prod.snd b)))),
                    Prod.fst (Prod.snd (Prod.snd (Prod.fst (Prod.snd (Prod.snd b))))),
                    Prod.fst (Prod.snd (Prod.snd (Prod.snd (Prod.fst (Prod.snd (Prod.snd b)))))),
                    Prod.snd (Prod.snd (Prod.snd (Prod.snd (Prod.fst (Prod.snd (Prod.snd b))))))),
                  Prod.fst (Prod.snd (Prod.snd (Prod.snd b))), Prod.fst (Prod.snd (Prod.snd (Prod.snd (Prod.snd b)))),
                  Prod.fst (Prod.snd (Prod.snd (Prod.snd (Prod.snd (Prod.snd b))))),
                  Prod.fst (Prod.snd (Prod.snd (Prod.snd (Prod.snd (Prod.snd (Prod.snd b)))))),
                  Prod.snd (Prod.snd (Prod.snd (Prod.snd (Prod.snd (Prod.snd (Prod.snd b))))))))
              (cnd (decide (Prod.fst x = (7 : Int)))
                (some
                  (decide (Prod.fst x = (7 : Int)), (Prod.fst (Prod.fst (Prod.snd b)), Prod.snd (Prod.fst (Prod.snd b))),
                    (Prod.fst (Prod.fst (Prod.snd (Prod.snd b))), Prod.fst (Prod.snd (Prod.fst (Prod.snd (Prod.snd b)))),
                      Prod.fst (Prod.snd (Prod.snd (Prod.fst (Prod.snd (Prod.snd b))))),
                      Prod.fst (Prod.snd (Prod.snd (Prod.snd (Prod.fst (Prod.snd (Prod.snd b)))))),
                      Prod.snd (Prod.snd (Prod.snd (Prod.snd (Prod.fst (Prod.snd (Prod.snd b))))))),
                    Prod.fst (Prod.snd (Prod.snd (Prod.snd b))), Prod.fst (Prod.snd (Prod.snd (Prod.snd (Prod.snd b)))),
                    Prod.fst (Prod.snd (Prod.snd (Prod.snd (Prod.snd (Prod.snd b))))),
                    Prod.fst (Prod.snd (Prod.snd (Prod.snd (Prod.snd (Prod.snd (Prod.snd b)))))),
                    Prod.snd (Prod.snd (Prod.snd (Prod.snd (Prod.snd (Prod.snd (Prod.snd b))))))))
                (some
                  (decide (Prod.fst x = (8 : Int)), (Prod.fst (Prod.fst (Prod.snd b)), Prod.snd (Prod.fst (Prod.snd b))),
                    (Prod.fst (Prod.fst (Prod.snd (Prod.snd b))), Prod.fst (Prod.snd (Prod.fst (Prod.snd (Prod.snd b)))),
                      Prod.fst (Prod.snd (Prod.snd (Prod.fst (Prod.snd (Prod.snd b))))),
                      Prod.fst (Prod.snd (Prod.snd (Prod.snd (Prod.fst (Prod.snd (Prod.snd b)))))),
                      Prod.snd (Prod.snd (Prod.snd (Prod.snd (Prod.fst (Prod.snd (Prod.snd b))))))),
                    Prod.fst (Prod.snd (Prod.snd (Prod.snd b))), Prod.fst (Prod.snd (Prod.snd (Prod.snd (Prod.snd b)))),
                    Prod.fst (Prod.snd (Prod.snd (Prod.snd (Prod.snd (Prod.snd b))))),
                    Prod.fst (Prod.snd (Prod.snd (Prod.snd (Prod.snd (Prod.snd (Prod.snd b)))))),
                    Prod.snd (Prod.snd (Prod.snd (Prod.snd (Prod.snd (Prod.snd (Prod.snd b))))))))))
            fun
              (b :
                Bool × (List Int × Bool) × (Int × Int × Int × Int × List UInt8) × Int × Int × Int × Int × List UInt8) =>
            cnd (Prod.fst b)
              (obind (W_ops_reader_number N (Prod.fst (Prod.fst (Prod.snd b)), Prod.snd (Prod.fst (Prod.snd b))))
                fun (b_1 : Int × List Int × Bool) =>
                some
                  ((Prod.fst (Prod.snd b_1), Prod.snd (Prod.snd b_1)), Prod.fst (Prod.snd (Prod.snd (Prod.snd b))),
                    Prod.fst (Prod.snd (Prod.snd (Prod.snd (Prod.snd b)))), Prod.fst b_1,
                    Prod.fst (Prod.snd (Prod.snd (Prod.snd (Prod.snd (Prod.snd (Prod.snd b)))))),
                    Prod.snd (Prod.snd (Prod.snd (Prod.snd (Prod.snd (Prod.snd (Prod.snd b))))))))
              (cnd (decide (Prod.fst x = (9 : Int)))
                (obind (W_ops_reader_number N (Prod.fst (Prod.fst (Prod.snd b)), Prod.snd (Prod.fst (Prod.snd b))))
                  fun (b_1 : Int × List Int × Bool) =>
                  obind (W_ops_reader_number N (Prod.fst (Prod.snd b_1), Prod.snd (Prod.snd b_1)))
                    fun (b_2 : Int × List Int × Bool) =>
                    some
                      ((Prod.fst (Prod.snd b_2), Prod.snd (Prod.snd b_2)), Prod.fst (Prod.snd (Prod.snd (Prod.snd b))),
                        Prod.fst (Prod.snd (Prod.snd (Prod.snd (Prod.snd b)))), Prod.fst b_1, Prod.fst b_2,
                        Prod.snd (Prod.snd (Prod.snd (Prod.snd (Prod.snd (Prod.snd (Prod.snd b))))))))
                (some
                  ((Prod.fst (Prod.fst (Prod.snd b)), Prod.snd (Prod.fst (Prod.snd b))),
                    Prod.fst (Prod.snd (Prod.snd (Prod.snd b))), Prod.fst (Prod.snd (Prod.snd (Prod.snd (Prod.snd b)))),
                    Prod.fst (Prod.snd (Prod.snd (Prod.snd (Prod.snd (Prod.snd b))))),
                    Prod.fst (Prod.snd (Prod.snd (Prod.snd (Prod.snd (Prod.snd (Prod.snd b)))))),
                    Prod.snd (Prod.snd (Prod.snd (Prod.snd (Prod.snd (Prod.snd (Prod.snd b))))))))))))
theorem F_ops_reader_step_eq (N : Nat) (x : Int × (List Int) × Bool) : F_ops_reader_step (W_ops_reader_number N) (W_ops_reader_text N) N x = W_ops_reader_step N x := (FV_ops_reader_step_eq (W_ops_reader_number N) (W_ops_reader_text N) N x).trans (by kernel_rfl)
noncomputable def conw_ops_reader_step (w : Int × (List Int) × Bool → Option (((List Int) × Bool) × Int × Int × Int × Int × List UInt8)) : Con := ⟨54, as_ops_reader_step, bs_ops_reader_step, ((List Int) × Bool) × Int × Int × Int × Int × List UInt8, w, out_ops_reader_step⟩
noncomputable def con_ops_reader_step (N : Nat) : Con := conw_ops_reader_step (W_ops_reader_step N)
theorem R_ops_reader_step_eq (x : Int × (List Int) × Bool) (y : ((List Int) × Bool) × Int × Int × Int × Int × List UInt8) : retOf2 P0 Try.f54 (kpL [true]) (lbOf as_ops_reader_step bs_ops_reader_step x) (patS ⟨46, [], [], []⟩ pout_ops_reader_step y) = some (out_ops_reader_step y) := by kernel_rfl
theorem con_ops_reader_step_ok (N : Nat) : Con.ok P0 (con_ops_reader_step N) := ⟨⟨Try.f54, Try.func54, by kernel_rfl, by kernel_rfl⟩, fun (x : Int × (List Int) × Bool) (r : ((List Int) × Bool) × Int × Int × Int × Int × List UInt8) (hr : W_ops_reader_step N x = some r) =>
  spec2_evT (Γ := G_ops_reader_step (W_ops_reader_number N) (W_ops_reader_text N) N) (Λ := L0) (pout := pout_ops_reader_step) (kp := kpL [true]) mixed (orcOf_ok _ (by simp only [List.mem_cons, List.not_mem_nil, or_false, forall_eq_or_imp, forall_eq]; exact ⟨con_ops_reader_number_ok N, con_ops_reader_text_ok N⟩)) Try.func54 (c := bodyOf Try.f54) (by kernel_rfl) (by kernel_rfl) (of_decide_eq_true (by kernel_rfl)) ((F_ops_reader_step_eq N x).trans hr) (R_ops_reader_step_eq x r)⟩
def as_ops_Take : List AS := [.val (.list (.int .u8))]
def bs_ops_Take : List BS := []
def pout_ops_Take : Pat := ⟨[(2, .val (.list (.agg (.pair (.int .i64) (.pair (.int .i64) (.pair (.int .i64) (.pair (.int .i64) .str)))))))], []⟩
noncomputable def G_ops_Take (w_ops_reader_step : Int × (List Int) × Bool → Option (((List Int) × Bool) × Int × Int × Int × Int × List UInt8)) (N : Nat) : OrcT := orcOf [conw_ops_reader_step w_ops_reader_step]
noncomputable def F_ops_Take (w_ops_reader_step : Int × (List Int) × Bool → Option (((List Int) × Bool) × Int × Int × Int × Int × List UInt8)) (N : Nat) (x : List Int) : Option (List (Int × Int × Int × Int × List UInt8)) :=
  (evT (G_ops_Take w_ops_reader_step N) L0 P0 [(3, .loop [] ⟨[(3, .acc 700003), (4, .ptr 600004 0)], [(700003, .nrow 47 (.agg (.pair (.int .i64) (.pair (.int .i64) (.pair (.int .i64) (.pair (.int .i64) .str))))) true true), (600004, .box 88 (.val (.pair (.list (.int .u8)) .bool)))]⟩ [(.exit 0, ⟨[(3, .val (.list (.agg (.pair (.int .i64) (.pair (.int .i64) (.pair (.int .i64) (.pair (.int .i64) .str)))))))], []⟩)])]
    [] N 400 (bodyOf Try.f25) ⟨40, slots 0 (argsOf as_ops_Take bs_ops_Take x), tabU (lbOf as_ops_Take bs_ops_Take x) [], []⟩).elim (kRet 40 pout_ops_Take (kpL []) (lbOf as_ops_Take bs_ops_Take x))
def out_ops_Take (y : List (Int × Int × Int × Int × List UInt8)) : V × List OK × List OK := (valW (.list (.agg (.pair (.int .i64) (.pair (.int .i64) (.pair (.int .i64) (.pair (.int .i64) .str)))))) y, [], [])
noncomputable def V_ops_Take (w_ops_reader_step : Int × (List Int) × Bool → Option (((List Int) × Bool) × Int × Int × Int × Int × List UInt8)) (N : Nat) (x : List Int) : Option (List (Int × Int × Int × Int × List UInt8)) :=
  obind
    (loopN N
      (fun (v : List (Int × Int × Int × Int × List UInt8) × List Int × Bool) =>
        cnd (decide ((0 : Int) < (↑(List.length (Prod.fst (Prod.snd v))) : Int)))
          (cnd (!Prod.snd (Prod.snd v))
            (cnd (decide ((0 : Int) ≤ (0 : Int)) && decide ((0 : Int) < (↑(List.length (Prod.fst (Prod.snd v))) : Int)))
              (cnd (decide ((0 : Int) ≤ (1 : Int)) && decide ((1 : Int) ≤ (↑(List.length (Prod.fst (Prod.snd v))) : Int)))
                (cnd
                  (decide
                    (Int.tmod (wr IntKind.i32 (List.getD (Prod.fst (Prod.snd v)) (0 : Nat) (0 : Int))) (10 : Int) =
                      (0 : Int)))
                  (some
                    (Sum.inl
                      (Prod.fst v,
                        List.drop (1 : Nat) (List.take (List.length (Prod.fst (Prod.snd v))) (Prod.fst (Prod.snd v))),
                        Prod.snd (Prod.snd v))))
                  (obind
                    (w_ops_reader_step
                      (Int.tmod (wr IntKind.i32 (List.getD (Prod.fst (Prod.snd v)) (0 : Nat) (0 : Int))) (10 : Int),
                        List.drop (1 : Nat) (List.take (List.length (Prod.fst (Prod.snd v))) (Prod.fst (Prod.snd v))),
                        Prod.snd (Prod.snd v)))
                    fun (b : (List Int × Bool) × Int × Int × Int × Int × List UInt8) =>
                    cnd (!Prod.snd (Prod.fst b))
                      (cnd
                        (decide
                          ((List.length (Prod.fst v) +
                                List.length
                                  [(Prod.fst (Prod.snd b), Prod.fst (Prod.snd (Prod.snd b)),
                                      Prod.fst (Prod.snd (Prod.snd (Prod.snd b))),
                                      Prod.fst (Prod.snd (Prod.snd (Prod.snd (Prod.snd b)))),
                                      Prod.snd (Prod.snd (Prod.snd (Prod.snd (Prod.snd b)))))]) *
                              (48 : Nat) ≤
                            (140737488355328 : Nat)))
                        (some
                          (Sum.inl
                            (Prod.fst v ++
                                [(Prod.fst (Prod.snd b), Prod.fst (Prod.snd (Prod.snd b)),
                                    Prod.fst (Prod.snd (Prod.snd (Prod.snd b))),
                                    Prod.fst (Prod.snd (Prod.snd (Prod.snd (Prod.snd b)))),
                                    Prod.snd (Prod.snd (Prod.snd (Prod.snd (Prod.snd b)))))],
                              Prod.fst (Prod.fst b), Prod.snd (Prod.fst b))))
                        none)
                      (some (Sum.inl (Prod.fst v, Prod.fst (Prod.fst b), Prod.snd (Prod.fst b))))))
                none)
              none)
            (some (Sum.inr (Prod.fst v))))
          (some (Sum.inr (Prod.fst v))))
      ([], x, false))
    fun (b : List (Int × Int × Int × Int × List UInt8)) => some b
theorem FV_ops_Take_eq (w_ops_reader_step : Int × (List Int) × Bool → Option (((List Int) × Bool) × Int × Int × Int × Int × List UInt8)) (N : Nat) (x : List Int) : F_ops_Take w_ops_reader_step N x = V_ops_Take w_ops_reader_step N x := by kernel_rfl
noncomputable def W_ops_Take (N : Nat) (x : List Int) : Option (List (Int × Int × Int × Int × List UInt8)) :=
  obind
    (loopN N
      (fun (v : List (Int × Int × Int × Int × List UInt8) × List Int × Bool) =>
        cnd (decide ((0 : Int) < (↑(List.length (Prod.fst (Prod.snd v))) : Int)))
          (cnd (!Prod.snd (Prod.snd v))
            (cnd (decide ((0 : Int) ≤ (0 : Int)) && decide ((0 : Int) < (↑(List.length (Prod.fst (Prod.snd v))) : Int)))
              (cnd (decide ((0 : Int) ≤ (1 : Int)) && decide ((1 : Int) ≤ (↑(List.length (Prod.fst (Prod.snd v))) : Int)))
                (cnd
                  (decide
                    (Int.tmod (wr IntKind.i32 (List.getD (Prod.fst (Prod.snd v)) (0 : Nat) (0 : Int))) (10 : Int) =
                      (0 : Int)))
                  (some
                    (Sum.inl
                      (Prod.fst v,
                        List.drop (1 : Nat) (List.take (List.length (Prod.fst (Prod.snd v))) (Prod.fst (Prod.snd v))),
                        Prod.snd (Prod.snd v))))
                  (obind
                    (W_ops_reader_step N
                      (Int.tmod (wr IntKind.i32 (List.getD (Prod.fst (Prod.snd v)) (0 : Nat) (0 : Int))) (10 : Int),
                        List.drop (1 : Nat) (List.take (List.length (Prod.fst (Prod.snd v))) (Prod.fst (Prod.snd v))),
                        Prod.snd (Prod.snd v)))
                    fun (b : (List Int × Bool) × Int × Int × Int × Int × List UInt8) =>
                    cnd (!Prod.snd (Prod.fst b))
                      (cnd
                        (decide
                          ((List.length (Prod.fst v) +
                                List.length
                                  [(Prod.fst (Prod.snd b), Prod.fst (Prod.snd (Prod.snd b)),
                                      Prod.fst (Prod.snd (Prod.snd (Prod.snd b))),
                                      Prod.fst (Prod.snd (Prod.snd (Prod.snd (Prod.snd b)))),
                                      Prod.snd (Prod.snd (Prod.snd (Prod.snd (Prod.snd b)))))]) *
                              (48 : Nat) ≤
                            (140737488355328 : Nat)))
                        (some
                          (Sum.inl
                            (Prod.fst v ++
                                [(Prod.fst (Prod.snd b), Prod.fst (Prod.snd (Prod.snd b)),
                                    Prod.fst (Prod.snd (Prod.snd (Prod.snd b))),
                                    Prod.fst (Prod.snd (Prod.snd (Prod.snd (Prod.snd b)))),
                                    Prod.snd (Prod.snd (Prod.snd (Prod.snd (Prod.snd b)))))],
                              Prod.fst (Prod.fst b), Prod.snd (Prod.fst b))))
                        none)
                      (some (Sum.inl (Prod.fst v, Prod.fst (Prod.fst b), Prod.snd (Prod.fst b))))))
                none)
              none)
            (some (Sum.inr (Prod.fst v))))
          (some (Sum.inr (Prod.fst v))))
      ([], x, false))
    fun (b : List (Int × Int × Int × Int × List UInt8)) => some b
theorem F_ops_Take_eq (N : Nat) (x : List Int) : F_ops_Take (W_ops_reader_step N) N x = W_ops_Take N x := (FV_ops_Take_eq (W_ops_reader_step N) N x).trans (by kernel_rfl)
noncomputable def conw_ops_Take (w : List Int → Option (List (Int × Int × Int × Int × List UInt8))) : Con := ⟨25, as_ops_Take, bs_ops_Take, List (Int × Int × Int × Int × List UInt8), w, out_ops_Take⟩
noncomputable def con_ops_Take (N : Nat) : Con := conw_ops_Take (W_ops_Take N)
theorem R_ops_Take_eq (x : List Int) (y : List (Int × Int × Int × Int × List UInt8)) : retOf2 P0 Try.f25 (kpL []) (lbOf as_ops_Take bs_ops_Take x) (patS ⟨40, [], [], []⟩ pout_ops_Take y) = some (out_ops_Take y) := by kernel_rfl
theorem con_ops_Take_ok (N : Nat) : Con.ok P0 (con_ops_Take N) := ⟨⟨Try.f25, Try.func25, by kernel_rfl, by kernel_rfl⟩, fun (x : List Int) (r : List (Int × Int × Int × Int × List UInt8)) (hr : W_ops_Take N x = some r) =>
  spec2_evT (Γ := G_ops_Take (W_ops_reader_step N) N) (Λ := L0) (pout := pout_ops_Take) (kp := kpL []) mixed (orcOf_ok _ (by simp only [List.mem_cons, List.not_mem_nil, or_false, forall_eq_or_imp, forall_eq]; exact con_ops_reader_step_ok N)) Try.func25 (c := bodyOf Try.f25) (by kernel_rfl) (by kernel_rfl) (of_decide_eq_true (by kernel_rfl)) ((F_ops_Take_eq N x).trans hr) (R_ops_Take_eq x r)⟩
def as_bytes_Clone : List AS := [.val (.list (.int .u8))]
def bs_bytes_Clone : List BS := []
def pout_bytes_Clone : Pat := ⟨[(2, .acc 700005)], [(700005, .nrow 5 (.int .u8) false true)]⟩
noncomputable def G_bytes_Clone  (N : Nat) : OrcT := orcOf []
noncomputable def F_bytes_Clone  (N : Nat) (x : List Int) : Option (List Int) :=
  (evT (G_bytes_Clone  N) L0 P0 []
    [] N 400 (bodyOf Try.f62) ⟨8, slots 0 [.nl ⟨(.int .u8), x⟩], tabU (lbOf as_bytes_Clone bs_bytes_Clone x) [], []⟩).elim (kRet 8 pout_bytes_Clone (kpL []) (lbOf as_bytes_Clone bs_bytes_Clone x))
def out_bytes_Clone (y : List Int) : V × List OK × List OK := (.acc 2000000 0, [], [.nrow 5 false true ⟨(.int .u8), y⟩])
noncomputable def V_bytes_Clone  (N : Nat) (x : List Int) : Option (List Int) :=
  cnd (decide (List.length x * (1 : Nat) ≤ (140737488355328 : Nat))) (some x) none
theorem FV_bytes_Clone_eq  (N : Nat) (x : List Int) : F_bytes_Clone  N x = V_bytes_Clone  N x := by kernel_rfl
noncomputable def W_bytes_Clone (N : Nat) (x : List Int) : Option (List Int) :=
  cnd (decide (List.length x * (1 : Nat) ≤ (140737488355328 : Nat))) (some x) none
theorem F_bytes_Clone_eq (N : Nat) (x : List Int) : F_bytes_Clone  N x = W_bytes_Clone N x := (FV_bytes_Clone_eq  N x).trans (by kernel_rfl)
noncomputable def conw_bytes_Clone (w : List Int → Option (List Int)) : Con := ⟨62, as_bytes_Clone, bs_bytes_Clone, List Int, w, out_bytes_Clone⟩
noncomputable def con_bytes_Clone (N : Nat) : Con := conw_bytes_Clone (W_bytes_Clone N)
theorem R_bytes_Clone_eq (x : List Int) (y : List Int) : retOf2 P0 Try.f62 (kpL []) (lbOf as_bytes_Clone bs_bytes_Clone x) (patS ⟨8, [], [], []⟩ pout_bytes_Clone y) = some (out_bytes_Clone y) := by kernel_rfl
noncomputable def FA_bytes_Clone : Option (List Int) := (evT (G_bytes_Clone 1) L0 P0 [] [] 1 400 (bodyOf Try.f62) ⟨8, slots 0 [.snil], tabU [] [], []⟩).elim (kRet 8 pout_bytes_Clone (kpL []) [])
theorem FA_bytes_Clone_eq : FA_bytes_Clone = some [] := by kernel_rfl
theorem WN_bytes_Clone (N : Nat) (r : List Int) (h : W_bytes_Clone N [] = some r) : r = [] := by
  have e : W_bytes_Clone N [] = some [] := by kernel_rfl
  rw [e] at h; injection h with h; exact h.symm
theorem con_bytes_Clone_ok (N : Nat) : Con.ok P0 (con_bytes_Clone N) := ⟨⟨Try.f62, Try.func62, by kernel_rfl, by kernel_rfl⟩, fun (x : List Int) (r : List Int) (hr : W_bytes_Clone N x = some r) =>
  clone_split (e := (.int .u8)) (ty := 5) (l := x) (r := r)
    (spec2_evT (Γ := G_bytes_Clone 1) (Λ := L0) (lb := []) (pout := pout_bytes_Clone) (kp := kpL []) mixed (orcOf_ok [] (by simp)) Try.func62 (c := bodyOf Try.f62) (by kernel_rfl) (by kernel_rfl) (of_decide_eq_true (by kernel_rfl)) FA_bytes_Clone_eq (R_bytes_Clone_eq x []))
    (spec2_evT (Γ := G_bytes_Clone N) (Λ := L0) (lb := []) (pout := pout_bytes_Clone) (kp := kpL []) mixed (orcOf_ok [] (by simp)) Try.func62 (c := bodyOf Try.f62) (by kernel_rfl) (by kernel_rfl) (of_decide_eq_true (by kernel_rfl)) ((F_bytes_Clone_eq N x).trans hr) (R_bytes_Clone_eq x r))
    (fun h => by subst h; exact WN_bytes_Clone N r hr)⟩
def as_bits_Put : List AS := [.val (.list (.int .u8)), .val (.int .i64)]
def bs_bits_Put : List BS := []
def pout_bits_Put : Pat := ⟨[(4, .acc 700007)], [(700007, .nrow 5 (.int .u8) false true)]⟩
noncomputable def G_bits_Put (w_bytes_Clone : List Int → Option (List Int)) (N : Nat) : OrcT := orcOf [conw_bytes_Clone w_bytes_Clone]
noncomputable def F_bits_Put (w_bytes_Clone : List Int → Option (List Int)) (N : Nat) (x : (List Int) × Int) : Option (List Int) :=
  (evT (G_bits_Put w_bytes_Clone N) L0 P0 [(4, .loop [] ⟨[(1, .val (.int .i64)), (5, .acc 700007)], [(700007, .nrow 5 (.int .u8) false true)]⟩ [(.exit 0, ⟨[(1, .val (.int .i64)), (5, .acc 700007)], [(700007, .nrow 5 (.int .u8) false true)]⟩)])]
    [] N 400 (bodyOf Try.f61) ⟨31, slots 0 (argsOf as_bits_Put bs_bits_Put x), tabU (lbOf as_bits_Put bs_bits_Put x) [], []⟩).elim (kRet 31 pout_bits_Put (kpL []) (lbOf as_bits_Put bs_bits_Put x))
def out_bits_Put (y : List Int) : V × List OK × List OK := (.acc 2000000 0, [], [.nrow 5 false true ⟨(.int .u8), y⟩])
noncomputable def V_bits_Put (w_bytes_Clone : List Int → Option (List Int)) (N : Nat) (x : (List Int) × Int) : Option (List Int) :=
  obind (w_bytes_Clone (Prod.fst x)) fun (b : List Int) =>
    cnd (decide (Prod.snd x < (0 : Int))) (some b)
      (cnd (decide ((1073741824 : Int) < Prod.snd x)) (some b)
        (obind
          (loopN N
            (fun (v : Int × List Int) =>
              cnd (decide ((128 : Int) ≤ Prod.fst v))
                (cnd
                  (decide
                    ((List.length (Prod.snd v) +
                          List.length
                            [wr IntKind.u8 (wr IntKind.i64 (Int.tmod (Prod.fst v) (128 : Int) + (128 : Int)))]) *
                        (1 : Nat) ≤
                      (140737488355328 : Nat)))
                  (some
                    (Sum.inl
                      (wr IntKind.i64 (Int.tdiv (Prod.fst v) (128 : Int)),
                        Prod.snd v ++
                          [wr IntKind.u8 (wr IntKind.i64 (Int.tmod (Prod.fst v) (128 : Int) + (128 : Int)))])))
                  none)
                (some (Sum.inr (Prod.fst v, Prod.snd v))))
            (Prod.snd x, b))
          fun (b : Int × List Int) =>
          cnd
            (decide
              ((List.length (Prod.snd b) + List.length [wr IntKind.u8 (Prod.fst b)]) * (1 : Nat) ≤
                (140737488355328 : Nat)))
            (some (Prod.snd b ++ [wr IntKind.u8 (Prod.fst b)])) none))
theorem FV_bits_Put_eq (w_bytes_Clone : List Int → Option (List Int)) (N : Nat) (x : (List Int) × Int) : F_bits_Put w_bytes_Clone N x = V_bits_Put w_bytes_Clone N x := by kernel_rfl
noncomputable def W_bits_Put (N : Nat) (x : (List Int) × Int) : Option (List Int) :=
  obind (W_bytes_Clone N (Prod.fst x)) fun (b : List Int) =>
    cnd (decide (Prod.snd x < (0 : Int))) (some b)
      (cnd (decide ((1073741824 : Int) < Prod.snd x)) (some b)
        (obind
          (loopN N
            (fun (v : Int × List Int) =>
              cnd (decide ((128 : Int) ≤ Prod.fst v))
                (cnd
                  (decide
                    ((List.length (Prod.snd v) +
                          List.length
                            [wr IntKind.u8 (wr IntKind.i64 (Int.tmod (Prod.fst v) (128 : Int) + (128 : Int)))]) *
                        (1 : Nat) ≤
                      (140737488355328 : Nat)))
                  (some
                    (Sum.inl
                      (wr IntKind.i64 (Int.tdiv (Prod.fst v) (128 : Int)),
                        Prod.snd v ++
                          [wr IntKind.u8 (wr IntKind.i64 (Int.tmod (Prod.fst v) (128 : Int) + (128 : Int)))])))
                  none)
                (some (Sum.inr (Prod.fst v, Prod.snd v))))
            (Prod.snd x, b))
          fun (b : Int × List Int) =>
          cnd
            (decide
              ((List.length (Prod.snd b) + List.length [wr IntKind.u8 (Prod.fst b)]) * (1 : Nat) ≤
                (140737488355328 : Nat)))
            (some (Prod.snd b ++ [wr IntKind.u8 (Prod.fst b)])) none))
theorem F_bits_Put_eq (N : Nat) (x : (List Int) × Int) : F_bits_Put (W_bytes_Clone N) N x = W_bits_Put N x := (FV_bits_Put_eq (W_bytes_Clone N) N x).trans (by kernel_rfl)
noncomputable def conw_bits_Put (w : (List Int) × Int → Option (List Int)) : Con := ⟨61, as_bits_Put, bs_bits_Put, List Int, w, out_bits_Put⟩
noncomputable def con_bits_Put (N : Nat) : Con := conw_bits_Put (W_bits_Put N)
theorem R_bits_Put_eq (x : (List Int) × Int) (y : List Int) : retOf2 P0 Try.f61 (kpL []) (lbOf as_bits_Put bs_bits_Put x) (patS ⟨31, [], [], []⟩ pout_bits_Put y) = some (out_bits_Put y) := by kernel_rfl
theorem con_bits_Put_ok (N : Nat) : Con.ok P0 (con_bits_Put N) := ⟨⟨Try.f61, Try.func61, by kernel_rfl, by kernel_rfl⟩, fun (x : (List Int) × Int) (r : List Int) (hr : W_bits_Put N x = some r) =>
  spec2_evT (Γ := G_bits_Put (W_bytes_Clone N) N) (Λ := L0) (pout := pout_bits_Put) (kp := kpL []) mixed (orcOf_ok _ (by simp only [List.mem_cons, List.not_mem_nil, or_false, forall_eq_or_imp, forall_eq]; exact con_bytes_Clone_ok N)) Try.func61 (c := bodyOf Try.f61) (by kernel_rfl) (by kernel_rfl) (of_decide_eq_true (by kernel_rfl)) ((F_bits_Put_eq N x).trans hr) (R_bits_Put_eq x r)⟩
def as_bits_PutText : List AS := [.val (.list (.int .u8)), .val .str]
def bs_bits_PutText : List BS := []
def pout_bits_PutText : Pat := ⟨[(4, .val (.list (.int .u8)))], []⟩
noncomputable def G_bits_PutText (w_bytes_Clone : List Int → Option (List Int)) (w_bits_Put : (List Int) × Int → Option (List Int)) (N : Nat) : OrcT := orcOf [conw_bytes_Clone w_bytes_Clone, conw_bits_Put w_bits_Put]
noncomputable def F_bits_PutText (w_bytes_Clone : List Int → Option (List Int)) (w_bits_Put : (List Int) × Int → Option (List Int)) (N : Nat) (x : (List Int) × List UInt8) : Option (List Int) :=
  (evT (G_bits_PutText w_bytes_Clone w_bits_Put N) L0 P0 []
    [] N 400 (bodyOf Try.f43) ⟨16, slots 0 (argsOf as_bits_PutText bs_bits_PutText x), tabU (lbOf as_bits_PutText bs_bits_PutText x) [], []⟩).elim (kRet 16 pout_bits_PutText (kpL []) (lbOf as_bits_PutText bs_bits_PutText x))
def out_bits_PutText (y : List Int) : V × List OK × List OK := (valW (.list (.int .u8)) y, [], [])
noncomputable def V_bits_PutText (w_bytes_Clone : List Int → Option (List Int)) (w_bits_Put : (List Int) × Int → Option (List Int)) (N : Nat) (x : (List Int) × List UInt8) : Option (List Int) :=
  cnd (decide ((1073741824 : Int) < (↑(List.length (Prod.snd x)) : Int)))
    (obind (w_bytes_Clone (Prod.fst x)) fun (b : List Int) => some b)
    (obind (w_bits_Put (Prod.fst x, (↑(List.length (Prod.snd x)) : Int))) fun (b : List Int) =>
      cnd
        (decide
          ((List.length b + List.length (List.map (fun (b : UInt8) => (↑(UInt8.toNat b) : Int)) (Prod.snd x))) * (1 : Nat) ≤
            (140737488355328 : Nat)))
        (some (b ++ List.map (fun (b : UInt8) => (↑(UInt8.toNat b) : Int)) (Prod.snd x))) none)
theorem FV_bits_PutText_eq (w_bytes_Clone : List Int → Option (List Int)) (w_bits_Put : (List Int) × Int → Option (List Int)) (N : Nat) (x : (List Int) × List UInt8) : F_bits_PutText w_bytes_Clone w_bits_Put N x = V_bits_PutText w_bytes_Clone w_bits_Put N x := by kernel_rfl
noncomputable def W_bits_PutText (N : Nat) (x : (List Int) × List UInt8) : Option (List Int) :=
  cnd (decide ((1073741824 : Int) < (↑(List.length (Prod.snd x)) : Int)))
    (obind (W_bytes_Clone N (Prod.fst x)) fun (b : List Int) => some b)
    (obind (W_bits_Put N (Prod.fst x, (↑(List.length (Prod.snd x)) : Int))) fun (b : List Int) =>
      cnd
        (decide
          ((List.length b + List.length (List.map (fun (b : UInt8) => (↑(UInt8.toNat b) : Int)) (Prod.snd x))) * (1 : Nat) ≤
            (140737488355328 : Nat)))
        (some (b ++ List.map (fun (b : UInt8) => (↑(UInt8.toNat b) : Int)) (Prod.snd x))) none)
theorem F_bits_PutText_eq (N : Nat) (x : (List Int) × List UInt8) : F_bits_PutText (W_bytes_Clone N) (W_bits_Put N) N x = W_bits_PutText N x := (FV_bits_PutText_eq (W_bytes_Clone N) (W_bits_Put N) N x).trans (by kernel_rfl)
noncomputable def conw_bits_PutText (w : (List Int) × List UInt8 → Option (List Int)) : Con := ⟨43, as_bits_PutText, bs_bits_PutText, List Int, w, out_bits_PutText⟩
noncomputable def con_bits_PutText (N : Nat) : Con := conw_bits_PutText (W_bits_PutText N)
theorem R_bits_PutText_eq (x : (List Int) × List UInt8) (y : List Int) : retOf2 P0 Try.f43 (kpL []) (lbOf as_bits_PutText bs_bits_PutText x) (patS ⟨16, [], [], []⟩ pout_bits_PutText y) = some (out_bits_PutText y) := by kernel_rfl
theorem con_bits_PutText_ok (N : Nat) : Con.ok P0 (con_bits_PutText N) := ⟨⟨Try.f43, Try.func43, by kernel_rfl, by kernel_rfl⟩, fun (x : (List Int) × List UInt8) (r : List Int) (hr : W_bits_PutText N x = some r) =>
  spec2_evT (Γ := G_bits_PutText (W_bytes_Clone N) (W_bits_Put N) N) (Λ := L0) (pout := pout_bits_PutText) (kp := kpL []) mixed (orcOf_ok _ (by simp only [List.mem_cons, List.not_mem_nil, or_false, forall_eq_or_imp, forall_eq]; exact ⟨con_bytes_Clone_ok N, con_bits_Put_ok N⟩)) Try.func43 (c := bodyOf Try.f43) (by kernel_rfl) (by kernel_rfl) (of_decide_eq_true (by kernel_rfl)) ((F_bits_PutText_eq N x).trans hr) (R_bits_PutText_eq x r)⟩
def as_ops_bytesOf : List AS := [.val (.agg (.pair (.int .i64) (.pair (.int .i64) (.pair (.int .i64) (.pair (.int .i64) .str)))))]
def bs_ops_bytesOf : List BS := []
def pout_ops_bytesOf : Pat := ⟨[(2, .val (.list (.int .u8)))], []⟩
noncomputable def G_ops_bytesOf (w_bits_Put : (List Int) × Int → Option (List Int)) (w_bits_PutText : (List Int) × List UInt8 → Option (List Int)) (w_ops_Take : List Int → Option (List (Int × Int × Int × Int × List UInt8))) (N : Nat) : OrcT := orcOf [conw_bits_Put w_bits_Put, conw_bits_PutText w_bits_PutText, conw_ops_Take w_ops_Take]
noncomputable def F_ops_bytesOf (w_bits_Put : (List Int) × Int → Option (List Int)) (w_bits_PutText : (List Int) × List UInt8 → Option (List Int)) (w_ops_Take : List Int → Option (List (Int × Int × Int × Int × List UInt8))) (N : Nat) (x : Int × Int × Int × Int × List UInt8) : Option (List Int) :=
  (evT (G_ops_bytesOf w_bits_Put w_bits_PutText w_ops_Take N) L0 P0 []
    [(14, .cut [3] [(.normal, ⟨[(1, .ptr 600001 0), (35, .val .bool)], [(600001, .box 47 (.val (.pair (.int .i64) (.pair (.int .i64) (.pair (.int .i64) (.pair (.int .i64) .str))))))]⟩)]),
    (8, .cut [3] [(.normal, ⟨[(1, .ptr 600001 0), (21, .val .bool)], [(600001, .box 47 (.val (.pair (.int .i64) (.pair (.int .i64) (.pair (.int .i64) (.pair (.int .i64) .str))))))]⟩)]),
    (17, .cut [] [(.normal, ⟨[(1, .ptr 600001 0), (3, .val (.list (.int .u8)))], [(600001, .box 47 (.val (.pair (.int .i64) (.pair (.int .i64) (.pair (.int .i64) (.pair (.int .i64) .str))))))]⟩)])] N 400 (bodyOf Try.f55) ⟨65, slots 0 (argsOf as_ops_bytesOf bs_ops_bytesOf x), tabU (lbOf as_ops_bytesOf bs_ops_bytesOf x) [], []⟩).elim (kRet 65 pout_ops_bytesOf (kpL []) (lbOf as_ops_bytesOf bs_ops_bytesOf x))
def out_ops_bytesOf (y : List Int) : V × List OK × List OK := (valW (.list (.int .u8)) y, [], [])
noncomputable def V_ops_bytesOf (w_bits_Put : (List Int) × Int → Option (List Int)) (w_bits_PutText : (List Int) × List UInt8 → Option (List Int)) (w_ops_Take : List Int → Option (List (Int × Int × Int × Int × List UInt8))) (N : Nat) (x : Int × Int × Int × Int × List UInt8) : Option (List Int) :=
  obind
    (cnd (decide (wr IntKind.i32 (Prod.fst x) = (1 : Int)))
      (obind (w_bits_Put ([wr IntKind.u8 (Prod.fst x)], Prod.fst (Prod.snd x))) fun (b : List Int) =>
        obind (w_bits_PutText (b, Prod.snd (Prod.snd (Prod.snd (Prod.snd x))))) fun (b : List Int) =>
          some
            (b, Prod.fst x, Prod.fst (Prod.snd x), Prod.fst (Prod.snd (Prod.snd x)),
              Prod.fst (Prod.snd (Prod.snd (Prod.snd x))), Prod.snd (Prod.snd (Prod.snd (Prod.snd x)))))
      (obind
        (cnd (decide (wr IntKind.i32 (Prod.fst x) = (2 : Int)))
          (some
            (decide (wr IntKind.i32 (Prod.fst x) = (2 : Int)), Prod.fst x, Prod.fst (Prod.snd x),
              Prod.fst (Prod.snd (Prod.snd x)), Prod.fst (Prod.snd (Prod.snd (Prod.snd x))),
              Prod.snd (Prod.snd (Prod.snd (Prod.snd x)))))
          (cnd (decide (wr IntKind.i32 (Prod.fst x) = (3 : Int)))
            (some
              (decide (wr IntKind.i32 (Prod.fst x) = (3 : Int)), Prod.fst x, Prod.fst (Prod.snd x),
                Prod.fst (Prod.snd (Prod.snd x)), Prod.fst (Prod.snd (Prod.snd (Prod.snd x))),
                Prod.snd (Prod.snd (Prod.snd (Prod.snd x)))))
            (some
              (decide (wr IntKind.i32 (Prod.fst x) = (5 : Int)), Prod.fst x, Prod.fst (Prod.snd x),
                Prod.fst (Prod.snd (Prod.snd x)), Prod.fst (Prod.snd (Prod.snd (Prod.snd x))),
                Prod.snd (Prod.snd (Prod.snd (Prod.snd x)))))))
        fun (b : Bool × Int × Int × Int × Int × List UInt8) =>
        cnd (Prod.fst b)
          (obind (w_bits_Put ([wr IntKind.u8 (Prod.fst x)], Prod.fst (Prod.snd (Prod.snd b)))) fun (b_1 : List Int) =>
            some
              (b_1, Prod.fst (Prod.snd b), Prod.fst (Prod.snd (Prod.snd b)), Prod.fst (Prod.snd (Prod.snd (Prod.snd b))),
                Prod.fst (Prod.snd (Prod.snd (Prod.snd (Prod.snd b)))),
                Prod.snd (Prod.snd (Prod.snd (Prod.snd (Prod.snd b))))))
          (cnd (decide (wr IntKind.i32 (Prod.fst x) = (4 : Int)))
            (obind
              (w_bits_PutText ([wr IntKind.u8 (Prod.fst x)], Prod.snd (Prod.snd (Prod.snd (Prod.snd (Prod.snd b))))))
              fun (b_1 : List Int) =>
              some
                (b_1, Prod.fst (Prod.snd b), Prod.fst (Prod.snd (Prod.snd b)),
                  Prod.fst (Prod.snd (Prod.snd (Prod.snd b))), Prod.fst (Prod.snd (Prod.snd (Prod.snd (Prod.snd b)))),
                  Prod.snd (Prod.snd (Prod.snd (Prod.snd (Prod.snd b))))))
            (obind
              (cnd (decide (wr IntKind.i32 (Prod.fst x) = (6 : Int)))
                (some
                  (decide (wr IntKind.i32 (Prod.fst x) = (6 : Int)), Prod.fst (Prod.snd b),
                    Prod.fst (Prod.snd (Prod.snd b)), Prod.fst (Prod.snd (Prod.snd (Prod.snd b))),
                    Prod.fst (Prod.snd (Prod.snd (Prod.snd (Prod.snd b)))),
                    Prod.snd (Prod.snd (Prod.snd (Prod.snd (Prod.snd b))))))
                (cnd (decide (wr IntKind.i32 (Prod.fst x) = (7 : Int)))
                  (some
                    (decide (wr IntKind.i32 (Prod.fst x) = (7 : Int)), Prod.fst (Prod.snd b),
                      Prod.fst (Prod.snd (Prod.snd b)), Prod.fst (Prod.snd (Prod.snd (Prod.snd b))),
                      Prod.fst (Prod.snd (Prod.snd (Prod.snd (Prod.snd b)))),
                      Prod.snd (Prod.snd (Prod.snd (Prod.snd (Prod.snd b))))))
                  (some
                    (decide (wr IntKind.i32 (Prod.fst x) = (8 : Int)), Prod.fst (Prod.snd b),
                      Prod.fst (Prod.snd (Prod.snd b)), Prod.fst (Prod.snd (Prod.snd (Prod.snd b))),
                      Prod.fst (Prod.snd (Prod.snd (Prod.snd (Prod.snd b)))),
                      Prod.snd (Prod.snd (Prod.snd (Prod.snd (Prod.snd b))))))))
              fun (b : Bool × Int × Int × Int × Int × List UInt8) =>
              cnd (Prod.fst b)
                (obind (w_bits_Put ([wr IntKind.u8 (Prod.fst x)], Prod.fst (Prod.snd (Prod.snd (Prod.snd b)))))
                  fun (b_1 : List Int) =>
                  some
                    (b_1, Prod.fst (Prod.snd b), Prod.fst (Prod.snd (Prod.snd b)),
                      Prod.fst (Prod.snd (Prod.snd (Prod.snd b))), Prod.fst (Prod.snd (Prod.snd (Prod.snd (Prod.snd b)))),
                      Prod.snd (Prod.snd (Prod.snd (Prod.snd (Prod.snd b))))))
                (cnd (decide (wr IntKind.i32 (Prod.fst x) = (9 : Int)))
                  (obind (w_bits_Put ([wr IntKind.u8 (Prod.fst x)], Prod.fst (Prod.snd (Prod.snd (Prod.snd b)))))
                    fun (b_1 : List Int) =>
                    obind (w_bits_Put (b_1, Prod.fst (Prod.snd (Prod.snd (Prod.snd (Prod.snd b))))))
                      fun (b_2 : List Int) =>
                      some
                        (b_2, Prod.fst (Prod.snd b), Prod.fst (Prod.snd (Prod.snd b)),
                          Prod.fst (Prod.snd (Prod.snd (Prod.snd b))),
                          Prod.fst (Prod.snd (Prod.snd (Prod.snd (Prod.snd b)))),
                          Prod.snd (Prod.snd (Prod.snd (Prod.snd (Prod.snd b))))))
                  (some
                    ([wr IntKind.u8 (Prod.fst x)], Prod.fst (Prod.snd b), Prod.fst (Prod.snd (Prod.snd b)),
                      Prod.fst (Prod.snd (Prod.snd (Prod.snd b))), Prod.fst (Prod.snd (Prod.snd (Prod.snd (Prod.snd b)))),
                      Prod.snd (Prod.snd (Prod.snd (Prod.snd (Prod.snd b)))))))))))
    fun (b : List Int × Int × Int × Int × Int × List UInt8) =>
    obind (w_ops_Take (Prod.fst b)) fun (b_1 : List (Int × Int × Int × Int × List UInt8)) =>
      cnd (decide ((↑(List.length b_1) : Int) ≠ (1 : Int))) (some [])
        (cnd (decide ((0 : Int) ≤ (0 : Int)) && decide ((0 : Int) < (↑(List.length b_1) : Int)))
          (cnd
            (!(decide
                  (Prod.fst (List.getD b_1 (0 : Nat) ((0 : Int), (0 : Int), (0 : Int), (0 : Int), [])) =
                    Prod.fst (Prod.snd b)) &&
                (decide
                    (Prod.fst (Prod.snd (List.getD b_1 (0 : Nat) ((0 : Int), (0 : Int), (0 : Int), (0 : Int), []))) =
                      Prod.fst (Prod.snd (Prod.snd b))) &&
                  (decide
                      (Prod.fst
                          (Prod.snd
                            (Prod.snd (List.getD b_1 (0 : Nat) ((0 : Int), (0 : Int), (0 : Int), (0 : Int), [])))) =
                        Prod.fst (Prod.snd (Prod.snd (Prod.snd b)))) &&
                    (decide
                        (Prod.fst
                            (Prod.snd
                              (Prod.snd
                                (Prod.snd (List.getD b_1 (0 : Nat) ((0 : Int), (0 : Int), (0 : Int), (0 : Int), []))))) =
                          Prod.fst (Prod.snd (Prod.snd (Prod.snd (Prod.snd b))))) &&
                      Prod.snd
                          (Prod.snd
                            (Prod.snd
                              (Prod.snd (List.getD b_1 (0 : Nat) ((0 : Int), (0 : Int), (0 : Int), (0 : Int), []))))) ==
                        Prod.snd (Prod.snd (Prod.snd (Prod.snd (Prod.snd b)))))))))
            (some []) (some (Prod.fst b)))
          none)
theorem FV_ops_bytesOf_eq (w_bits_Put : (List Int) × Int → Option (List Int)) (w_bits_PutText : (List Int) × List UInt8 → Option (List Int)) (w_ops_Take : List Int → Option (List (Int × Int × Int × Int × List UInt8))) (N : Nat) (x : Int × Int × Int × Int × List UInt8) : F_ops_bytesOf w_bits_Put w_bits_PutText w_ops_Take N x = V_ops_bytesOf w_bits_Put w_bits_PutText w_ops_Take N x := by kernel_rfl
noncomputable def W_ops_bytesOf (N : Nat) (x : Int × Int × Int × Int × List UInt8) : Option (List Int) :=
  obind
    (cnd (decide (wr IntKind.i32 (Prod.fst x) = (1 : Int)))
      (obind (W_bits_Put N ([wr IntKind.u8 (Prod.fst x)], Prod.fst (Prod.snd x))) fun (b : List Int) =>
        obind (W_bits_PutText N (b, Prod.snd (Prod.snd (Prod.snd (Prod.snd x))))) fun (b : List Int) =>
          some
            (b, Prod.fst x, Prod.fst (Prod.snd x), Prod.fst (Prod.snd (Prod.snd x)),
              Prod.fst (Prod.snd (Prod.snd (Prod.snd x))), Prod.snd (Prod.snd (Prod.snd (Prod.snd x)))))
      (obind
        (cnd (decide (wr IntKind.i32 (Prod.fst x) = (2 : Int)))
          (some
            (decide (wr IntKind.i32 (Prod.fst x) = (2 : Int)), Prod.fst x, Prod.fst (Prod.snd x),
              Prod.fst (Prod.snd (Prod.snd x)), Prod.fst (Prod.snd (Prod.snd (Prod.snd x))),
              Prod.snd (Prod.snd (Prod.snd (Prod.snd x)))))
          (cnd (decide (wr IntKind.i32 (Prod.fst x) = (3 : Int)))
            (some
              (decide (wr IntKind.i32 (Prod.fst x) = (3 : Int)), Prod.fst x, Prod.fst (Prod.snd x),
                Prod.fst (Prod.snd (Prod.snd x)), Prod.fst (Prod.snd (Prod.snd (Prod.snd x))),
                Prod.snd (Prod.snd (Prod.snd (Prod.snd x)))))
            (some
              (decide (wr IntKind.i32 (Prod.fst x) = (5 : Int)), Prod.fst x, Prod.fst (Prod.snd x),
                Prod.fst (Prod.snd (Prod.snd x)), Prod.fst (Prod.snd (Prod.snd (Prod.snd x))),
                Prod.snd (Prod.snd (Prod.snd (Prod.snd x)))))))
        fun (b : Bool × Int × Int × Int × Int × List UInt8) =>
        cnd (Prod.fst b)
          (obind (W_bits_Put N ([wr IntKind.u8 (Prod.fst x)], Prod.fst (Prod.snd (Prod.snd b)))) fun (b_1 : List Int) =>
            some
              (b_1, Prod.fst (Prod.snd b), Prod.fst (Prod.snd (Prod.snd b)), Prod.fst (Prod.snd (Prod.snd (Prod.snd b))),
                Prod.fst (Prod.snd (Prod.snd (Prod.snd (Prod.snd b)))),
                Prod.snd (Prod.snd (Prod.snd (Prod.snd (Prod.snd b))))))
          (cnd (decide (wr IntKind.i32 (Prod.fst x) = (4 : Int)))
            (obind
              (W_bits_PutText N ([wr IntKind.u8 (Prod.fst x)], Prod.snd (Prod.snd (Prod.snd (Prod.snd (Prod.snd b))))))
              fun (b_1 : List Int) =>
              some
                (b_1, Prod.fst (Prod.snd b), Prod.fst (Prod.snd (Prod.snd b)),
                  Prod.fst (Prod.snd (Prod.snd (Prod.snd b))), Prod.fst (Prod.snd (Prod.snd (Prod.snd (Prod.snd b)))),
                  Prod.snd (Prod.snd (Prod.snd (Prod.snd (Prod.snd b))))))
            (obind
              (cnd (decide (wr IntKind.i32 (Prod.fst x) = (6 : Int)))
                (some
                  (decide (wr IntKind.i32 (Prod.fst x) = (6 : Int)), Prod.fst (Prod.snd b),
                    Prod.fst (Prod.snd (Prod.snd b)), Prod.fst (Prod.snd (Prod.snd (Prod.snd b))),
                    Prod.fst (Prod.snd (Prod.snd (Prod.snd (Prod.snd b)))),
                    Prod.snd (Prod.snd (Prod.snd (Prod.snd (Prod.snd b))))))
                (cnd (decide (wr IntKind.i32 (Prod.fst x) = (7 : Int)))
                  (some
                    (decide (wr IntKind.i32 (Prod.fst x) = (7 : Int)), Prod.fst (Prod.snd b),
                      Prod.fst (Prod.snd (Prod.snd b)), Prod.fst (Prod.snd (Prod.snd (Prod.snd b))),
                      Prod.fst (Prod.snd (Prod.snd (Prod.snd (Prod.snd b)))),
                      Prod.snd (Prod.snd (Prod.snd (Prod.snd (Prod.snd b))))))
                  (some
                    (decide (wr IntKind.i32 (Prod.fst x) = (8 : Int)), Prod.fst (Prod.snd b),
                      Prod.fst (Prod.snd (Prod.snd b)), Prod.fst (Prod.snd (Prod.snd (Prod.snd b))),
                      Prod.fst (Prod.snd (Prod.snd (Prod.snd (Prod.snd b)))),
                      Prod.snd (Prod.snd (Prod.snd (Prod.snd (Prod.snd b))))))))
              fun (b : Bool × Int × Int × Int × Int × List UInt8) =>
              cnd (Prod.fst b)
                (obind (W_bits_Put N ([wr IntKind.u8 (Prod.fst x)], Prod.fst (Prod.snd (Prod.snd (Prod.snd b)))))
                  fun (b_1 : List Int) =>
                  some
                    (b_1, Prod.fst (Prod.snd b), Prod.fst (Prod.snd (Prod.snd b)),
                      Prod.fst (Prod.snd (Prod.snd (Prod.snd b))), Prod.fst (Prod.snd (Prod.snd (Prod.snd (Prod.snd b)))),
                      Prod.snd (Prod.snd (Prod.snd (Prod.snd (Prod.snd b))))))
                (cnd (decide (wr IntKind.i32 (Prod.fst x) = (9 : Int)))
                  (obind (W_bits_Put N ([wr IntKind.u8 (Prod.fst x)], Prod.fst (Prod.snd (Prod.snd (Prod.snd b)))))
                    fun (b_1 : List Int) =>
                    obind (W_bits_Put N (b_1, Prod.fst (Prod.snd (Prod.snd (Prod.snd (Prod.snd b))))))
                      fun (b_2 : List Int) =>
                      some
                        (b_2, Prod.fst (Prod.snd b), Prod.fst (Prod.snd (Prod.snd b)),
                          Prod.fst (Prod.snd (Prod.snd (Prod.snd b))),
                          Prod.fst (Prod.snd (Prod.snd (Prod.snd (Prod.snd b)))),
                          Prod.snd (Prod.snd (Prod.snd (Prod.snd (Prod.snd b))))))
                  (some
                    ([wr IntKind.u8 (Prod.fst x)], Prod.fst (Prod.snd b), Prod.fst (Prod.snd (Prod.snd b)),
                      Prod.fst (Prod.snd (Prod.snd (Prod.snd b))), Prod.fst (Prod.snd (Prod.snd (Prod.snd (Prod.snd b)))),
                      Prod.snd (Prod.snd (Prod.snd (Prod.snd (Prod.snd b)))))))))))
    fun (b : List Int × Int × Int × Int × Int × List UInt8) =>
    obind (W_ops_Take N (Prod.fst b)) fun (b_1 : List (Int × Int × Int × Int × List UInt8)) =>
      cnd (decide ((↑(List.length b_1) : Int) ≠ (1 : Int))) (some [])
        (cnd (decide ((0 : Int) ≤ (0 : Int)) && decide ((0 : Int) < (↑(List.length b_1) : Int)))
          (cnd
            (!(decide
                  (Prod.fst (List.getD b_1 (0 : Nat) ((0 : Int), (0 : Int), (0 : Int), (0 : Int), [])) =
                    Prod.fst (Prod.snd b)) &&
                (decide
                    (Prod.fst (Prod.snd (List.getD b_1 (0 : Nat) ((0 : Int), (0 : Int), (0 : Int), (0 : Int), []))) =
                      Prod.fst (Prod.snd (Prod.snd b))) &&
                  (decide
                      (Prod.fst
                          (Prod.snd
                            (Prod.snd (List.getD b_1 (0 : Nat) ((0 : Int), (0 : Int), (0 : Int), (0 : Int), [])))) =
                        Prod.fst (Prod.snd (Prod.snd (Prod.snd b)))) &&
                    (decide
                        (Prod.fst
                            (Prod.snd
                              (Prod.snd
                                (Prod.snd (List.getD b_1 (0 : Nat) ((0 : Int), (0 : Int), (0 : Int), (0 : Int), []))))) =
                          Prod.fst (Prod.snd (Prod.snd (Prod.snd (Prod.snd b))))) &&
                      Prod.snd
                          (Prod.snd
                            (Prod.snd
                              (Prod.snd (List.getD b_1 (0 : Nat) ((0 : Int), (0 : Int), (0 : Int), (0 : Int), []))))) ==
                        Prod.snd (Prod.snd (Prod.snd (Prod.snd (Prod.snd b)))))))))
            (some []) (some (Prod.fst b)))
          none)
theorem F_ops_bytesOf_eq (N : Nat) (x : Int × Int × Int × Int × List UInt8) : F_ops_bytesOf (W_bits_Put N) (W_bits_PutText N) (W_ops_Take N) N x = W_ops_bytesOf N x := (FV_ops_bytesOf_eq (W_bits_Put N) (W_bits_PutText N) (W_ops_Take N) N x).trans (by kernel_rfl)
noncomputable def conw_ops_bytesOf (w : Int × Int × Int × Int × List UInt8 → Option (List Int)) : Con := ⟨55, as_ops_bytesOf, bs_ops_bytesOf, List Int, w, out_ops_bytesOf⟩
noncomputable def con_ops_bytesOf (N : Nat) : Con := conw_ops_bytesOf (W_ops_bytesOf N)
theorem R_ops_bytesOf_eq (x : Int × Int × Int × Int × List UInt8) (y : List Int) : retOf2 P0 Try.f55 (kpL []) (lbOf as_ops_bytesOf bs_ops_bytesOf x) (patS ⟨65, [], [], []⟩ pout_ops_bytesOf y) = some (out_ops_bytesOf y) := by kernel_rfl
theorem con_ops_bytesOf_ok (N : Nat) : Con.ok P0 (con_ops_bytesOf N) := ⟨⟨Try.f55, Try.func55, by kernel_rfl, by kernel_rfl⟩, fun (x : Int × Int × Int × Int × List UInt8) (r : List Int) (hr : W_ops_bytesOf N x = some r) =>
  spec2_evT (Γ := G_ops_bytesOf (W_bits_Put N) (W_bits_PutText N) (W_ops_Take N) N) (Λ := L0) (pout := pout_ops_bytesOf) (kp := kpL []) mixed (orcOf_ok _ (by simp only [List.mem_cons, List.not_mem_nil, or_false, forall_eq_or_imp, forall_eq]; exact ⟨con_bits_Put_ok N, con_bits_PutText_ok N, con_ops_Take_ok N⟩)) Try.func55 (c := bodyOf Try.f55) (by kernel_rfl) (by kernel_rfl) (of_decide_eq_true (by kernel_rfl)) ((F_ops_bytesOf_eq N x).trans hr) (R_ops_bytesOf_eq x r)⟩
def as_ops_Put : List AS := [.val (.list (.agg (.pair (.int .i64) (.pair (.int .i64) (.pair (.int .i64) (.pair (.int .i64) .str))))))]
def bs_ops_Put : List BS := []
def pout_ops_Put : Pat := ⟨[(2, .val (.list (.int .u8)))], []⟩
noncomputable def G_ops_Put (w_ops_bytesOf : Int × Int × Int × Int × List UInt8 → Option (List Int)) (N : Nat) : OrcT := orcOf [conw_ops_bytesOf w_ops_bytesOf]
noncomputable def F_ops_Put (w_ops_bytesOf : Int × Int × Int × Int × List UInt8 → Option (List Int)) (N : Nat) (x : List (Int × Int × Int × Int × List UInt8)) : Option (List Int) :=
  (evT (G_ops_Put w_ops_bytesOf N) L0 P0 [(3, .loop [6] ⟨[(3, .acc 700003), (8, .val (.int .i64))], [(700003, .nrow 5 (.int .u8) true true)]⟩ [(.exit 0, ⟨[(3, .val (.list (.int .u8)))], []⟩)])]
    [] N 400 (bodyOf Try.f26) ⟨18, slots 0 (argsOf as_ops_Put bs_ops_Put x), tabU (lbOf as_ops_Put bs_ops_Put x) [], []⟩).elim (kRet 18 pout_ops_Put (kpL []) (lbOf as_ops_Put bs_ops_Put x))
def out_ops_Put (y : List Int) : V × List OK × List OK := (valW (.list (.int .u8)) y, [], [])
noncomputable def V_ops_Put (w_ops_bytesOf : Int × Int × Int × Int × List UInt8 → Option (List Int)) (N : Nat) (x : List (Int × Int × Int × Int × List UInt8)) : Option (List Int) :=
  obind
    (loopN N
      (fun (v : Int × List Int) =>
        cnd (decide (Prod.fst v < (↑(List.length x) : Int)))
          (cnd (decide ((0 : Int) ≤ Prod.fst v) && decide (Prod.fst v < (↑(List.length x) : Int)))
            (obind
              (w_ops_bytesOf
                (Prod.fst (List.getD x (Int.toNat (Prod.fst v)) ((0 : Int), (0 : Int), (0 : Int), (0 : Int), [])),
                  Prod.fst
                    (Prod.snd (List.getD x (Int.toNat (Prod.fst v)) ((0 : Int), (0 : Int), (0 : Int), (0 : Int), []))),
                  Prod.fst
                    (Prod.snd
                      (Prod.snd (List.getD x (Int.toNat (Prod.fst v)) ((0 : Int), (0 : Int), (0 : Int), (0 : Int), [])))),
                  Prod.fst
                    (Prod.snd
                      (Prod.snd
                        (Prod.snd
                          (List.getD x (Int.toNat (Prod.fst v)) ((0 : Int), (0 : Int), (0 : Int), (0 : Int), []))))),
                  Prod.snd
                    (Prod.snd
                      (Prod.snd
                        (Prod.snd
                          (List.getD x (Int.toNat (Prod.fst v)) ((0 : Int), (0 : Int), (0 : Int), (0 : Int), [])))))))
              fun (b : List Int) =>
              cnd (decide ((List.length (Prod.snd v) + List.length b) * (1 : Nat) ≤ (140737488355328 : Nat)))
                (some (Sum.inl (wr IntKind.i64 (Prod.fst v + (1 : Int)), Prod.snd v ++ b))) none)
            none)
          (some (Sum.inr (Prod.snd v))))
      ((0 : Int), []))
    fun (b : List Int) => some b
theorem FV_ops_Put_eq (w_ops_bytesOf : Int × Int × Int × Int × List UInt8 → Option (List Int)) (N : Nat) (x : List (Int × Int × Int × Int × List UInt8)) : F_ops_Put w_ops_bytesOf N x = V_ops_Put w_ops_bytesOf N x := by kernel_rfl
noncomputable def W_ops_Put (N : Nat) (x : List (Int × Int × Int × Int × List UInt8)) : Option (List Int) :=
  obind
    (loopN N
      (fun (v : Int × List Int) =>
        cnd (decide (Prod.fst v < (↑(List.length x) : Int)))
          (cnd (decide ((0 : Int) ≤ Prod.fst v) && decide (Prod.fst v < (↑(List.length x) : Int)))
            (obind
              (W_ops_bytesOf N
                (Prod.fst (List.getD x (Int.toNat (Prod.fst v)) ((0 : Int), (0 : Int), (0 : Int), (0 : Int), [])),
                  Prod.fst
                    (Prod.snd (List.getD x (Int.toNat (Prod.fst v)) ((0 : Int), (0 : Int), (0 : Int), (0 : Int), []))),
                  Prod.fst
                    (Prod.snd
                      (Prod.snd (List.getD x (Int.toNat (Prod.fst v)) ((0 : Int), (0 : Int), (0 : Int), (0 : Int), [])))),
                  Prod.fst
                    (Prod.snd
                      (Prod.snd
                        (Prod.snd
                          (List.getD x (Int.toNat (Prod.fst v)) ((0 : Int), (0 : Int), (0 : Int), (0 : Int), []))))),
                  Prod.snd
                    (Prod.snd
                      (Prod.snd
                        (Prod.snd
                          (List.getD x (Int.toNat (Prod.fst v)) ((0 : Int), (0 : Int), (0 : Int), (0 : Int), [])))))))
              fun (b : List Int) =>
              cnd (decide ((List.length (Prod.snd v) + List.length b) * (1 : Nat) ≤ (140737488355328 : Nat)))
                (some (Sum.inl (wr IntKind.i64 (Prod.fst v + (1 : Int)), Prod.snd v ++ b))) none)
            none)
          (some (Sum.inr (Prod.snd v))))
      ((0 : Int), []))
    fun (b : List Int) => some b
theorem F_ops_Put_eq (N : Nat) (x : List (Int × Int × Int × Int × List UInt8)) : F_ops_Put (W_ops_bytesOf N) N x = W_ops_Put N x := (FV_ops_Put_eq (W_ops_bytesOf N) N x).trans (by kernel_rfl)
noncomputable def conw_ops_Put (w : List (Int × Int × Int × Int × List UInt8) → Option (List Int)) : Con := ⟨26, as_ops_Put, bs_ops_Put, List Int, w, out_ops_Put⟩
noncomputable def con_ops_Put (N : Nat) : Con := conw_ops_Put (W_ops_Put N)
theorem R_ops_Put_eq (x : List (Int × Int × Int × Int × List UInt8)) (y : List Int) : retOf2 P0 Try.f26 (kpL []) (lbOf as_ops_Put bs_ops_Put x) (patS ⟨18, [], [], []⟩ pout_ops_Put y) = some (out_ops_Put y) := by kernel_rfl
theorem con_ops_Put_ok (N : Nat) : Con.ok P0 (con_ops_Put N) := ⟨⟨Try.f26, Try.func26, by kernel_rfl, by kernel_rfl⟩, fun (x : List (Int × Int × Int × Int × List UInt8)) (r : List Int) (hr : W_ops_Put N x = some r) =>
  spec2_evT (Γ := G_ops_Put (W_ops_bytesOf N) N) (Λ := L0) (pout := pout_ops_Put) (kp := kpL []) mixed (orcOf_ok _ (by simp only [List.mem_cons, List.not_mem_nil, or_false, forall_eq_or_imp, forall_eq]; exact con_ops_bytesOf_ok N)) Try.func26 (c := bodyOf Try.f26) (by kernel_rfl) (by kernel_rfl) (of_decide_eq_true (by kernel_rfl)) ((F_ops_Put_eq N x).trans hr) (R_ops_Put_eq x r)⟩
def as_ref10_SameSteps : List AS := [.val (.list (.agg (.pair (.int .i64) (.pair (.int .i64) (.pair (.int .i64) (.pair (.int .i64) .str)))))), .val (.list (.agg (.pair (.int .i64) (.pair (.int .i64) (.pair (.int .i64) (.pair (.int .i64) .str))))))]
def bs_ref10_SameSteps : List BS := []
def pout_ref10_SameSteps : Pat := ⟨[(4, .val .bool)], []⟩
noncomputable def G_ref10_SameSteps  (N : Nat) : OrcT := orcOf []
noncomputable def F_ref10_SameSteps  (N : Nat) (x : (List (Int × Int × Int × Int × List UInt8)) × List (Int × Int × Int × Int × List UInt8)) : Option (Bool) :=
  (evT (G_ref10_SameSteps  N) L0 P0 [(4, .loop [] ⟨[(5, .val (.int .i64))], []⟩ [(.exit 0, ⟨[], []⟩), (.ret, ⟨[(4, .val .bool)], []⟩)])]
    [] N 400 (bodyOf Try.f27) ⟨26, slots 0 (argsOf as_ref10_SameSteps bs_ref10_SameSteps x), tabU (lbOf as_ref10_SameSteps bs_ref10_SameSteps x) [], []⟩).elim (kRet 26 pout_ref10_SameSteps (kpL []) (lbOf as_ref10_SameSteps bs_ref10_SameSteps x))
def out_ref10_SameSteps (y : Bool) : V × List OK × List OK := (valW .bool y, [], [])
noncomputable def V_ref10_SameSteps  (N : Nat) (x : (List (Int × Int × Int × Int × List UInt8)) × List (Int × Int × Int × Int × List UInt8)) : Option (Bool) :=
  cnd (decide ((↑(List.length (Prod.fst x)) : Int) ≠ (↑(List.length (Prod.snd x)) : Int))) (some false)
    (obind
      (loopN N
        (fun (v : Int) =>
          cnd (decide (v < (↑(List.length (Prod.fst x)) : Int)))
            (cnd (decide ((0 : Int) ≤ v) && decide (v < (↑(List.length (Prod.fst x)) : Int)))
              (cnd (decide ((0 : Int) ≤ v) && decide (v < (↑(List.length (Prod.snd x)) : Int)))
                (cnd
                  (!(decide
                        (Prod.fst
                            (List.getD (Prod.fst x) (Int.toNat v) ((0 : Int), (0 : Int), (0 : Int), (0 : Int), [])) =
                          Prod.fst
                            (List.getD (Prod.snd x) (Int.toNat v) ((0 : Int), (0 : Int), (0 : Int), (0 : Int), []))) &&
                      (decide
                          (Prod.fst
                              (Prod.snd
                                (List.getD (Prod.fst x) (Int.toNat v) ((0 : Int), (0 : Int), (0 : Int), (0 : Int), []))) =
                            Prod.fst
                              (Prod.snd
                                (List.getD (Prod.snd x) (Int.toNat v)
                                  ((0 : Int), (0 : Int), (0 : Int), (0 : Int), [])))) &&
                        (decide
                            (Prod.fst
                                (Prod.snd
                                  (Prod.snd
                                    (List.getD (Prod.fst x) (Int.toNat v)
                                      ((0 : Int), (0 : Int), (0 : Int), (0 : Int), [])))) =
                              Prod.fst
                                (Prod.snd
                                  (Prod.snd
                                    (List.getD (Prod.snd x) (Int.toNat v)
                                      ((0 : Int), (0 : Int), (0 : Int), (0 : Int), []))))) &&
                          (decide
                              (Prod.fst
                                  (Prod.snd
                                    (Prod.snd
                                      (Prod.snd
                                        (List.getD (Prod.fst x) (Int.toNat v)
                                          ((0 : Int), (0 : Int), (0 : Int), (0 : Int), []))))) =
                                Prod.fst
                                  (Prod.snd
                                    (Prod.snd
                                      (Prod.snd
                                        (List.getD (Prod.snd x) (Int.toNat v)
                                          ((0 : Int), (0 : Int), (0 : Int), (0 : Int), [])))))) &&
                            Prod.snd
                                (Prod.snd
                                  (Prod.snd
                                    (Prod.snd
                                      (List.getD (Prod.fst x) (Int.toNat v)
                                        ((0 : Int), (0 : Int), (0 : Int), (0 : Int), []))))) ==
                              Prod.snd
                                (Prod.snd
                                  (Prod.snd
                                    (Prod.snd
                                      (List.getD (Prod.snd x) (Int.toNat v)
                                        ((0 : Int), (0 : Int), (0 : Int), (0 : Int), []))))))))))
                  (some (Sum.inr (Sum.inr false))) (some (Sum.inl (wr IntKind.i64 (v + (1 : Int))))))
                none)
              none)
            (some (Sum.inr (Sum.inl ()))))
        (Int.ofNat (0 : Nat)))
      fun (b : PUnit ⊕ Bool) => selim (fun (b : PUnit) => some true) (fun (c : Bool) => some c) b)
theorem FV_ref10_SameSteps_eq  (N : Nat) (x : (List (Int × Int × Int × Int × List UInt8)) × List (Int × Int × Int × Int × List UInt8)) : F_ref10_SameSteps  N x = V_ref10_SameSteps  N x := by kernel_rfl
noncomputable def W_ref10_SameSteps (N : Nat) (x : (List (Int × Int × Int × Int × List UInt8)) × List (Int × Int × Int × Int × List UInt8)) : Option (Bool) :=
  cnd (decide ((↑(List.length (Prod.fst x)) : Int) ≠ (↑(List.length (Prod.snd x)) : Int))) (some false)
    (obind
      (loopN N
        (fun (v : Int) =>
          cnd (decide (v < (↑(List.length (Prod.fst x)) : Int)))
            (cnd (decide ((0 : Int) ≤ v) && decide (v < (↑(List.length (Prod.fst x)) : Int)))
              (cnd (decide ((0 : Int) ≤ v) && decide (v < (↑(List.length (Prod.snd x)) : Int)))
                (cnd
                  (!(decide
                        (Prod.fst
                            (List.getD (Prod.fst x) (Int.toNat v) ((0 : Int), (0 : Int), (0 : Int), (0 : Int), [])) =
                          Prod.fst
                            (List.getD (Prod.snd x) (Int.toNat v) ((0 : Int), (0 : Int), (0 : Int), (0 : Int), []))) &&
                      (decide
                          (Prod.fst
                              (Prod.snd
                                (List.getD (Prod.fst x) (Int.toNat v) ((0 : Int), (0 : Int), (0 : Int), (0 : Int), []))) =
                            Prod.fst
                              (Prod.snd
                                (List.getD (Prod.snd x) (Int.toNat v)
                                  ((0 : Int), (0 : Int), (0 : Int), (0 : Int), [])))) &&
                        (decide
                            (Prod.fst
                                (Prod.snd
                                  (Prod.snd
                                    (List.getD (Prod.fst x) (Int.toNat v)
                                      ((0 : Int), (0 : Int), (0 : Int), (0 : Int), [])))) =
                              Prod.fst
                                (Prod.snd
                                  (Prod.snd
                                    (List.getD (Prod.snd x) (Int.toNat v)
                                      ((0 : Int), (0 : Int), (0 : Int), (0 : Int), []))))) &&
                          (decide
                              (Prod.fst
                                  (Prod.snd
                                    (Prod.snd
                                      (Prod.snd
                                        (List.getD (Prod.fst x) (Int.toNat v)
                                          ((0 : Int), (0 : Int), (0 : Int), (0 : Int), []))))) =
                                Prod.fst
                                  (Prod.snd
                                    (Prod.snd
                                      (Prod.snd
                                        (List.getD (Prod.snd x) (Int.toNat v)
                                          ((0 : Int), (0 : Int), (0 : Int), (0 : Int), [])))))) &&
                            Prod.snd
                                (Prod.snd
                                  (Prod.snd
                                    (Prod.snd
                                      (List.getD (Prod.fst x) (Int.toNat v)
                                        ((0 : Int), (0 : Int), (0 : Int), (0 : Int), []))))) ==
                              Prod.snd
                                (Prod.snd
                                  (Prod.snd
                                    (Prod.snd
                                      (List.getD (Prod.snd x) (Int.toNat v)
                                        ((0 : Int), (0 : Int), (0 : Int), (0 : Int), []))))))))))
                  (some (Sum.inr (Sum.inr false))) (some (Sum.inl (wr IntKind.i64 (v + (1 : Int))))))
                none)
              none)
            (some (Sum.inr (Sum.inl ()))))
        (Int.ofNat (0 : Nat)))
      fun (b : PUnit ⊕ Bool) => selim (fun (b : PUnit) => some true) (fun (c : Bool) => some c) b)
theorem F_ref10_SameSteps_eq (N : Nat) (x : (List (Int × Int × Int × Int × List UInt8)) × List (Int × Int × Int × Int × List UInt8)) : F_ref10_SameSteps  N x = W_ref10_SameSteps N x := (FV_ref10_SameSteps_eq  N x).trans (by kernel_rfl)
noncomputable def conw_ref10_SameSteps (w : (List (Int × Int × Int × Int × List UInt8)) × List (Int × Int × Int × Int × List UInt8) → Option (Bool)) : Con := ⟨27, as_ref10_SameSteps, bs_ref10_SameSteps, Bool, w, out_ref10_SameSteps⟩
noncomputable def con_ref10_SameSteps (N : Nat) : Con := conw_ref10_SameSteps (W_ref10_SameSteps N)
theorem R_ref10_SameSteps_eq (x : (List (Int × Int × Int × Int × List UInt8)) × List (Int × Int × Int × Int × List UInt8)) (y : Bool) : retOf2 P0 Try.f27 (kpL []) (lbOf as_ref10_SameSteps bs_ref10_SameSteps x) (patS ⟨26, [], [], []⟩ pout_ref10_SameSteps y) = some (out_ref10_SameSteps y) := by kernel_rfl
theorem con_ref10_SameSteps_ok (N : Nat) : Con.ok P0 (con_ref10_SameSteps N) := ⟨⟨Try.f27, Try.func27, by kernel_rfl, by kernel_rfl⟩, fun (x : (List (Int × Int × Int × Int × List UInt8)) × List (Int × Int × Int × Int × List UInt8)) (r : Bool) (hr : W_ref10_SameSteps N x = some r) =>
  spec2_evT (Γ := G_ref10_SameSteps N) (Λ := L0) (pout := pout_ref10_SameSteps) (kp := kpL []) mixed (orcOf_ok [] (by simp)) Try.func27 (c := bodyOf Try.f27) (by kernel_rfl) (by kernel_rfl) (of_decide_eq_true (by kernel_rfl)) ((F_ref10_SameSteps_eq N x).trans hr) (R_ref10_SameSteps_eq x r)⟩
def as_law25_OpsJoins : List AS := [.val (.list (.int .u8)), .val (.list (.int .u8)), .val (.int .u8)]
def bs_law25_OpsJoins : List BS := []
def pout_law25_OpsJoins : Pat := ⟨[(6, .val .bool)], []⟩
noncomputable def G_law25_OpsJoins (w_ops_Take : List Int → Option (List (Int × Int × Int × Int × List UInt8))) (w_ops_Put : List (Int × Int × Int × Int × List UInt8) → Option (List Int)) (w_ref10_SameSteps : (List (Int × Int × Int × Int × List UInt8)) × List (Int × Int × Int × Int × List UInt8) → Option (Bool)) (N : Nat) : OrcT := orcOf [con_law25_begun N, conw_ops_Take w_ops_Take, conw_ops_Put w_ops_Put, conw_ref10_SameSteps w_ref10_SameSteps]
noncomputable def F_law25_OpsJoins (w_ops_Take : List Int → Option (List (Int × Int × Int × Int × List UInt8))) (w_ops_Put : List (Int × Int × Int × Int × List UInt8) → Option (List Int)) (w_ref10_SameSteps : (List (Int × Int × Int × Int × List UInt8)) × List (Int × Int × Int × Int × List UInt8) → Option (Bool)) (N : Nat) (x : (List Int) × (List Int) × Int) : Option (Bool) :=
  (evT (G_law25_OpsJoins w_ops_Take w_ops_Put w_ref10_SameSteps N) L0 P0 [(10, .loop [9, 10, 11] ⟨[(12, .acc 700037), (13, .val (.int .i64))], [(700037, .nrow 5 (.int .u8) true true)]⟩ [(.exit 0, ⟨[(12, .acc 700037)], [(700037, .nrow 5 (.int .u8) true true)]⟩)])]
    [] N 400 (bodyOf Try.f9) ⟨70, slots 0 (argsOf as_law25_OpsJoins bs_law25_OpsJoins x), tabU (lbOf as_law25_OpsJoins bs_law25_OpsJoins x) [], []⟩).elim (kRet 70 pout_law25_OpsJoins (kpL []) (lbOf as_law25_OpsJoins bs_law25_OpsJoins x))
def out_law25_OpsJoins (y : Bool) : V × List OK × List OK := (valW .bool y, [], [])
noncomputable def V_law25_OpsJoins (w_ops_Take : List Int → Option (List (Int × Int × Int × Int × List UInt8))) (w_ops_Put : List (Int × Int × Int × Int × List UInt8) → Option (List Int)) (w_ref10_SameSteps : (List (Int × Int × Int × Int × List UInt8)) × List (Int × Int × Int × Int × List UInt8) → Option (Bool)) (N : Nat) (x : (List Int) × (List Int) × Int) : Option (Bool) :=
  cnd (decide ((100 : Int) < (↑(List.length (Prod.fst x)) : Int))) (some true)
    (cnd (decide ((100 : Int) < (↑(List.length (Prod.fst (Prod.snd x))) : Int))) (some true)
      (obind (w_ops_Take (Prod.fst x)) fun (b : List (Int × Int × Int × Int × List UInt8)) =>
        obind (w_ops_Take (Prod.fst (Prod.snd x))) fun (b_1 : List (Int × Int × Int × Int × List UInt8)) =>
          cnd (decide (List.length b * (48 : Nat) ≤ (140737488355328 : Nat)))
            (cnd (decide ((List.length b + List.length b_1) * (48 : Nat) ≤ (140737488355328 : Nat)))
              (obind (w_ops_Put b) fun (b_2 : List Int) =>
                obind (w_ops_Put b_1) fun (b_3 : List Int) =>
                  cnd (decide (List.length b_2 * (1 : Nat) ≤ (140737488355328 : Nat)))
                    (obind
                      (loopN N
                        (fun (v : Int × List Int) =>
                          cnd (decide (Prod.fst v < wr IntKind.i64 (Int.tmod (Prod.snd (Prod.snd x)) (9 : Int))))
                            (cnd
                              (decide
                                ((List.length (Prod.snd v) +
                                      List.length [wr IntKind.u8 (wr IntKind.i64 ((10 : Int) * Prod.fst v))]) *
                                    (1 : Nat) ≤
                                  (140737488355328 : Nat)))
                              (some
                                (Sum.inl
                                  (wr IntKind.i64 (Prod.fst v + (1 : Int)),
                                    Prod.snd v ++ [wr IntKind.u8 (wr IntKind.i64 ((10 : Int) * Prod.fst v))])))
                              none)
                            (some (Sum.inr (Prod.snd v))))
                        ((0 : Int), b_2))
                      fun (b_4 : List Int) =>
                      cnd (decide ((List.length b_4 + List.length b_3) * (1 : Nat) ≤ (140737488355328 : Nat)))
                        (obind (w_ops_Take (b_4 ++ b_3)) fun (b_5 : List (Int × Int × Int × Int × List UInt8)) =>
                          obind (w_ref10_SameSteps (b_5, b ++ b_1)) fun (b_6 : Bool) =>
                            cnd b_6
                              (obind (w_ops_Put (b ++ b_1)) fun (b : List Int) =>
                                cnd (List.all b fun (n : Int) => decide ((0 : Int) ≤ n) && decide (n < (256 : Int)))
                                  (cnd (List.all b_2 fun (n : Int) => decide ((0 : Int) ≤ n) && decide (n < (256 : Int)))
                                    (cnd
                                      (List.all b_3 fun (n : Int) => decide ((0 : Int) ≤ n) && decide (n < (256 : Int)))
                                      (cnd
                                        (decide
                                          (List.length (bytesI b_2) + List.length (bytesI b_3) ≤
                                            (9223372036854775807 : Nat)))
                                        (some (bytesI b == bytesI b_2 ++ bytesI b_3)) none)
                                      none)
                                    none)
                                  none)
                              (some false))
                        none)
                    none)
              none)
            none))
theorem FV_law25_OpsJoins_eq (w_ops_Take : List Int → Option (List (Int × Int × Int × Int × List UInt8))) (w_ops_Put : List (Int × Int × Int × Int × List UInt8) → Option (List Int)) (w_ref10_SameSteps : (List (Int × Int × Int × Int × List UInt8)) × List (Int × Int × Int × Int × List UInt8) → Option (Bool)) (N : Nat) (x : (List Int) × (List Int) × Int) : F_law25_OpsJoins w_ops_Take w_ops_Put w_ref10_SameSteps N x = V_law25_OpsJoins w_ops_Take w_ops_Put w_ref10_SameSteps N x := by kernel_rfl
noncomputable def W_law25_OpsJoins (N : Nat) (x : (List Int) × (List Int) × Int) : Option (Bool) :=
  cnd (decide ((100 : Int) < (↑(List.length (Prod.fst x)) : Int))) (some true)
    (cnd (decide ((100 : Int) < (↑(List.length (Prod.fst (Prod.snd x))) : Int))) (some true)
      (obind (W_ops_Take N (Prod.fst x)) fun (b : List (Int × Int × Int × Int × List UInt8)) =>
        obind (W_ops_Take N (Prod.fst (Prod.snd x))) fun (b_1 : List (Int × Int × Int × Int × List UInt8)) =>
          cnd (decide (List.length b * (48 : Nat) ≤ (140737488355328 : Nat)))
            (cnd (decide ((List.length b + List.length b_1) * (48 : Nat) ≤ (140737488355328 : Nat)))
              (obind (W_ops_Put N b) fun (b_2 : List Int) =>
                obind (W_ops_Put N b_1) fun (b_3 : List Int) =>
                  cnd (decide (List.length b_2 * (1 : Nat) ≤ (140737488355328 : Nat)))
                    (obind
                      (loopN N
                        (fun (v : Int × List Int) =>
                          cnd (decide (Prod.fst v < wr IntKind.i64 (Int.tmod (Prod.snd (Prod.snd x)) (9 : Int))))
                            (cnd
                              (decide
                                ((List.length (Prod.snd v) +
                                      List.length [wr IntKind.u8 (wr IntKind.i64 ((10 : Int) * Prod.fst v))]) *
                                    (1 : Nat) ≤
                                  (140737488355328 : Nat)))
                              (some
                                (Sum.inl
                                  (wr IntKind.i64 (Prod.fst v + (1 : Int)),
                                    Prod.snd v ++ [wr IntKind.u8 (wr IntKind.i64 ((10 : Int) * Prod.fst v))])))
                              none)
                            (some (Sum.inr (Prod.snd v))))
                        ((0 : Int), b_2))
                      fun (b_4 : List Int) =>
                      cnd (decide ((List.length b_4 + List.length b_3) * (1 : Nat) ≤ (140737488355328 : Nat)))
                        (obind (W_ops_Take N (b_4 ++ b_3)) fun (b_5 : List (Int × Int × Int × Int × List UInt8)) =>
                          obind (W_ref10_SameSteps N (b_5, b ++ b_1)) fun (b_6 : Bool) =>
                            cnd b_6
                              (obind (W_ops_Put N (b ++ b_1)) fun (b : List Int) =>
                                cnd (List.all b fun (n : Int) => decide ((0 : Int) ≤ n) && decide (n < (256 : Int)))
                                  (cnd (List.all b_2 fun (n : Int) => decide ((0 : Int) ≤ n) && decide (n < (256 : Int)))
                                    (cnd
                                      (List.all b_3 fun (n : Int) => decide ((0 : Int) ≤ n) && decide (n < (256 : Int)))
                                      (cnd
                                        (decide
                                          (List.length (bytesI b_2) + List.length (bytesI b_3) ≤
                                            (9223372036854775807 : Nat)))
                                        (some (bytesI b == bytesI b_2 ++ bytesI b_3)) none)
                                      none)
                                    none)
                                  none)
                              (some false))
                        none)
                    none)
              none)
            none))
theorem F_law25_OpsJoins_eq (N : Nat) (x : (List Int) × (List Int) × Int) : F_law25_OpsJoins (W_ops_Take N) (W_ops_Put N) (W_ref10_SameSteps N) N x = W_law25_OpsJoins N x := (FV_law25_OpsJoins_eq (W_ops_Take N) (W_ops_Put N) (W_ref10_SameSteps N) N x).trans (by kernel_rfl)
noncomputable def conw_law25_OpsJoins (w : (List Int) × (List Int) × Int → Option (Bool)) : Con := ⟨9, as_law25_OpsJoins, bs_law25_OpsJoins, Bool, w, out_law25_OpsJoins⟩
noncomputable def con_law25_OpsJoins (N : Nat) : Con := conw_law25_OpsJoins (W_law25_OpsJoins N)
theorem R_law25_OpsJoins_eq (x : (List Int) × (List Int) × Int) (y : Bool) : retOf2 P0 Try.f9 (kpL []) (lbOf as_law25_OpsJoins bs_law25_OpsJoins x) (patS ⟨70, [], [], []⟩ pout_law25_OpsJoins y) = some (out_law25_OpsJoins y) := by kernel_rfl
theorem con_law25_OpsJoins_ok (N : Nat) : Con.ok P0 (con_law25_OpsJoins N) := ⟨⟨Try.f9, Try.func9, by kernel_rfl, by kernel_rfl⟩, fun (x : (List Int) × (List Int) × Int) (r : Bool) (hr : W_law25_OpsJoins N x = some r) =>
  spec2_evT (Γ := G_law25_OpsJoins (W_ops_Take N) (W_ops_Put N) (W_ref10_SameSteps N) N) (Λ := L0) (pout := pout_law25_OpsJoins) (kp := kpL []) mixed (orcOf_ok _ (by simp only [List.mem_cons, List.not_mem_nil, or_false, forall_eq_or_imp, forall_eq]; exact ⟨con_law25_begun_ok N, con_ops_Take_ok N, con_ops_Put_ok N, con_ref10_SameSteps_ok N⟩)) Try.func9 (c := bodyOf Try.f9) (by kernel_rfl) (by kernel_rfl) (of_decide_eq_true (by kernel_rfl)) ((F_law25_OpsJoins_eq N x).trans hr) (R_law25_OpsJoins_eq x r)⟩
/-! What is reckoned. -/
-- PURE
theorem wr_m {z : Int} (h : -140737488355328 ≤ z) (h2 : z ≤ 140737488355328) : wr .i64 z = z := wr_i64 (by omega) (by omega)
theorem cnd_T {α : Type} {p : Prop} {i : Decidable p} {x y : α} (h : p) : cnd (@decide p i) x y = x := by rw [decide_eq_true h]; rfl
theorem cnd_F {α : Type} {p : Prop} {i : Decidable p} {x y : α} (h : ¬ p) : cnd (@decide p i) x y = y := by rw [decide_eq_false h]; rfl
def U8 (l : List Int) : Prop := ∀ n ∈ l, 0 ≤ n ∧ n ≤ 255
theorem U8_all {l : List Int} (h : U8 l) : (List.all l fun (n : Int) => decide ((0 : Int) ≤ n) && decide (n < (256 : Int))) = true := by
  rw [List.all_eq_true]
  intro n hn
  have := h n hn
  simp only [Bool.and_eq_true, decide_eq_true_eq]; omega
theorem U8_app {a b : List Int} (ha : U8 a) (hb : U8 b) : U8 (a ++ b) := fun n hn => (List.mem_append.1 hn).elim (ha n) (hb n)
theorem U8_take {a : List Int} (ha : U8 a) (k : Nat) : U8 (a.take k) := fun n hn => ha n (List.mem_of_mem_take hn)
theorem U8_drop {a : List Int} (ha : U8 a) (k : Nat) : U8 (a.drop k) := fun n hn => ha n (List.mem_of_mem_drop hn)
theorem U8_get {a : List Int} (ha : U8 a) (j : Nat) (hj : j < a.length) : 0 ≤ a.getD j 0 ∧ a.getD j 0 ≤ 255 := by
  rw [List.getD_eq_getElem?_getD, List.getElem?_eq_getElem hj]
  exact ha _ (List.getElem_mem hj)
def encF : Nat → Int → List Int
  | 0, v => [v]
  | k + 1, v => if v < 128 then [v] else (v % 128 + 128) :: encF k (v / 128)
theorem encF_U8 : ∀ (k : Nat) (v : Int), 0 ≤ v → v < 128 * 128 ^ k → U8 (encF k v) ∧ (encF k v).length ≤ k + 1 ∧ 0 < (encF k v).length
  | 0, v, h, h2 => by
    refine ⟨fun n hn => ?_, by simp [encF], by simp [encF]⟩
    simp only [encF, List.mem_singleton] at hn
    subst hn
    simp at h2
    omega
  | k + 1, v, h, h2 => by
    simp only [encF]
    split
    · refine ⟨fun n hn => ?_, by simp, by simp⟩
      simp only [List.mem_singleton] at hn
      subst hn; omega
    · have h3 : v < 128 * 128 ^ k * 128 := by rw [Int.pow_succ] at h2; omega
      obtain ⟨a, b, _⟩ := encF_U8 k (v / 128) (by omega) (by omega)
      refine ⟨fun n hn => ?_, by simp only [List.length_cons]; omega, by simp⟩
      rcases List.mem_cons.1 hn with rfl | hn
      · omega
      · exact a n hn
theorem putLoop {f : Int × List Int → Option ((Int × List Int) ⊕ (Int × List Int))} (h1 : ∀ v l, 0 ≤ v → v < 128 → f (v, l) = some (.inr (v, l)))
    (h2 : ∀ v l, 128 ≤ v → v ≤ 1073741824 → l.length ≤ 2000 → f (v, l) = some (.inl (v / 128, l ++ [v % 128 + 128]))) :
    ∀ (k N : Nat) (v : Int) (l : List Int), k < N → 0 ≤ v → v ≤ 1073741824 → v < 128 * 128 ^ k → l.length + k ≤ 2000 → ∃ v' l', loopN N f (v, l) = some (v', l') ∧ l' ++ [v'] = l ++ encF k v ∧ 0 ≤ v' ∧ v' < 128
  | k, 0, v, l, hN, _, _, _, _ => by omega
  | 0, N + 1, v, l, hN, hv, hm, hk, hl => by
    simp at hk
    exact ⟨v, l, by simp only [loopN, h1 v l hv hk], rfl, hv, hk⟩
  | k + 1, N + 1, v, l, hN, hv, hm, hk, hl => by
    by_cases c : v < 128
    · exact ⟨v, l, by simp only [loopN, h1 v l hv c], by simp only [encF, if_pos c], hv, c⟩
    · have h3 : v < 128 * 128 ^ k * 128 := by rw [Int.pow_succ] at hk; omega
      obtain ⟨v', l', e1, e2, e3, e4⟩ := putLoop h1 h2 k N (v / 128) (l ++ [v % 128 + 128]) (by omega) (by omega) (by omega) (by omega) (by simp only [List.length_append, List.length_singleton]; omega)
      refine ⟨v', l', by simp only [loopN, h2 v l (by omega) hm (by omega)]; exact e1, ?_, e3, e4⟩
      rw [e2]
      simp only [encF, if_neg c, List.append_assoc, List.singleton_append]
def enc (v : Int) : List Int := encF 4 v
theorem Clone_b (N : Nat) (l : List Int) (hl : l.length ≤ 1000) : W_bytes_Clone N l = some l := by
  unfold W_bytes_Clone
  rw [dT (by omega), cnd_t]
theorem stepP1 (v : Int) (l : List Int) (h : v < 128) : cnd (decide ((128 : Int) ≤ v))
              (cnd (decide ((List.length l + List.length [wr IntKind.u8 (wr IntKind.i64 (Int.tmod v (128 : Int) + (128 : Int)))]) * (1 : Nat) ≤ (140737488355328 : Nat)))
                (some (Sum.inl (wr IntKind.i64 (Int.tdiv v (128 : Int)), l ++ [wr IntKind.u8 (wr IntKind.i64 (Int.tmod v (128 : Int) + (128 : Int)))])))
                none)
              (some (Sum.inr (v, l) : (Int × List Int) ⊕ (Int × List Int))) = some (Sum.inr (v, l)) := by rw [dF (by omega), cnd_f]
theorem stepP2 (v : Int) (l : List Int) (h : 128 ≤ v) (h2 : v ≤ 1073741824) (hl : l.length ≤ 2000) : cnd (decide ((128 : Int) ≤ v))
              (cnd (decide ((List.length l + List.length [wr IntKind.u8 (wr IntKind.i64 (Int.tmod v (128 : Int) + (128 : Int)))]) * (1 : Nat) ≤ (140737488355328 : Nat)))
                (some (Sum.inl (wr IntKind.i64 (Int.tdiv v (128 : Int)), l ++ [wr IntKind.u8 (wr IntKind.i64 (Int.tmod v (128 : Int) + (128 : Int)))])))
                none)
              (some (Sum.inr (v, l) : (Int × List Int) ⊕ (Int × List Int))) = some (Sum.inl (v / 128, l ++ [v % 128 + 128])) := by
  rw [dT h, cnd_t, Int.tmod_eq_emod_of_nonneg (by omega), Int.tdiv_eq_ediv_of_nonneg (by omega), wr_m (by omega) (by omega), wr_m (by omega) (by omega), wr_u8 (by omega) (by omega), dT (by simp only [List.length_singleton]; omega), cnd_t]
theorem Put_eq (N : Nat) (hN : 100 ≤ N) (l : List Int) (v : Int) (hl : l.length ≤ 1000) (h0 : 0 ≤ v) (h1 : v ≤ 1073741824) : W_bits_Put N (l, v) = some (l ++ enc v) := by
  unfold W_bits_Put
  simp only [Clone_b N l hl, obind_s]
  rw [dF (by omega), cnd_f, dF (by omega), cnd_f]
  obtain ⟨v', l', e1, e2, e3, e4⟩ := putLoop (f := fun (v : Int × List Int) => cnd (decide ((128 : Int) ≤ Prod.fst v))
              (cnd (decide ((List.length (Prod.snd v) + List.length [wr IntKind.u8 (wr IntKind.i64 (Int.tmod (Prod.fst v) (128 : Int) + (128 : Int)))]) * (1 : Nat) ≤ (140737488355328 : Nat)))
                (some (Sum.inl (wr IntKind.i64 (Int.tdiv (Prod.fst v) (128 : Int)), Prod.snd v ++ [wr IntKind.u8 (wr IntKind.i64 (Int.tmod (Prod.fst v) (128 : Int) + (128 : Int)))])))
                none)
              (some (Sum.inr (Prod.fst v, Prod.snd v)))) (fun v l h h2 => stepP1 v l h2) (fun v l h h2 hl => stepP2 v l h h2 hl) 4 N v l (by omega) h0 h1 (by omega) (by omega)
  rw [e1, obind_s]
  simp only
  have hlen : l'.length ≤ 1010 := by
    have := congrArg List.length e2
    have h3 := (encF_U8 4 v h0 (by omega)).2.1
    simp only [List.length_append, List.length_singleton] at this
    omega
  rw [wr_u8 e3 (by omega), dT (by simp only [List.length_singleton]; omega), cnd_t, e2]
  rfl
theorem enc_U8 {v : Int} (h0 : 0 ≤ v) (h1 : v ≤ 1073741824) : U8 (enc v) ∧ (enc v).length ≤ 5 ∧ 0 < (enc v).length := encF_U8 4 v h0 (by omega)
def by8 (s : List UInt8) : List Int := List.map (fun (b : UInt8) => (↑(UInt8.toNat b) : Int)) s
theorem by8_U8 (s : List UInt8) : U8 (by8 s) := by
  intro n hn
  obtain ⟨b, _, rfl⟩ := List.mem_map.1 hn
  have := b.toNat_lt
  omega
theorem PutText_eq (N : Nat) (hN : 100 ≤ N) (l : List Int) (s : List UInt8) (hl : l.length ≤ 1000) (hs : s.length ≤ 200) : W_bits_PutText N (l, s) = some (l ++ enc s.length ++ by8 s) := by
  have h3 := (enc_U8 (v := (s.length : Int)) (by omega) (by omega)).2.1
  unfold W_bits_PutText
  simp only
  rw [dF (by omega), cnd_f, Put_eq N hN l _ hl (by omega) (by omega), obind_s, dT (by simp only [List.length_append, List.length_map]; omega), cnd_t]
  rfl
/-- The number that bytes begin with. -/
def rd : List Int → Nat → Int → Int → Option (Int × Int)
  | [], _, _, _ => none
  | c :: r, i, v, u => if 5 ≤ i then none else if c < 128 then (if (0 < i ∧ c = 0) ∨ 1073741824 < v + c % 128 * u then none else some (v + c % 128 * u, (i : Int) + 1)) else rd r (i + 1) (v + c % 128 * u) (u * 128)
theorem rd_big : ∀ (l : List Int) (i : Nat) (v u : Int), U8 l → 1073741824 < v → 0 ≤ u → rd l i v u = none
  | [], _, _, _, _, _, _ => rfl
  | c :: r, i, v, u, hU, hv, hu => by
    have hc := hU c (by simp)
    have hm : 0 ≤ c % 128 * u := Int.mul_nonneg (by omega) hu
    simp only [rd]
    split
    · rfl
    · split
      · rw [if_pos (.inr (by omega))]
      · exact rd_big r _ _ _ (fun n hn => hU n (by simp [hn])) (by omega) (by omega)
theorem rd_rng : ∀ (l : List Int) (i : Nat) (v u : Int) (x n : Int), U8 l → 0 ≤ v → 0 ≤ u → rd l i v u = some (x, n) → 0 ≤ x ∧ x ≤ 1073741824 ∧ (i : Int) + 1 ≤ n ∧ n ≤ i + l.length ∧ n ≤ 5
  | [], _, _, _, _, _, _, _, _, h => by cases h
  | c :: r, i, v, u, x, n, hU, hv, hu, h => by
    have hc := hU c (by simp)
    have hm : 0 ≤ c % 128 * u := Int.mul_nonneg (by omega) hu
    simp only [rd] at h
    split at h
    · cases h
    · split at h
      · split at h
        · cases h
        · rename_i h5 _ hn
          have hn2 : ¬ 1073741824 < v + c % 128 * u := fun q => hn (.inr q)
          injection h with h
          injection h with h1 h2
          subst h1 h2
          simp only [List.length_cons]
          omega
      · have := rd_rng r (i + 1) _ _ x n (fun n hn => hU n (by simp [hn])) (by omega) (by omega) h
        simp only [List.length_cons]
        omega
theorem drop_cons {l : List Int} {i : Nat} (h : i < l.length) : l.drop i = l.getD i 0 :: l.drop (i + 1) := by
  rw [List.drop_eq_getElem_cons h, List.getD_eq_getElem?_getD, List.getElem?_eq_getElem h]; rfl
def pw (i : Nat) : Int := 128 ^ i
theorem pw_succ (i : Nat) : pw (i + 1) = pw i * 128 := Int.pow_succ _ _
theorem pw_pos (i : Nat) : 0 < pw i := Int.pow_pos (by omega)
theorem pw_le {i : Nat} (h : i ≤ 5) : pw i ≤ 34359738368 := by
  have : i = 0 ∨ i = 1 ∨ i = 2 ∨ i = 3 ∨ i = 4 ∨ i = 5 := by omega
  rcases this with rfl | rfl | rfl | rfl | rfl | rfl <;> decide
/-- What a round of either loop knows. -/
structure RdI (x : List Int) (v u : Int) (i : Nat) : Prop where
  le : i ≤ x.length
  i5 : i ≤ 5
  eu : u = pw i
  v0 : 0 ≤ v
  v1 : v < pw i
  same : rd (x.drop i) i v u = rd x 0 0 1
theorem RdI.zero (x : List Int) : RdI x 0 1 0 := ⟨by omega, by omega, rfl, by omega, by decide, rfl⟩
theorem RdI.bnd {x : List Int} {v u : Int} {i : Nat} (h : RdI x v u i) (hU : U8 x) (hi : i < x.length) : 0 ≤ v + x.getD i 0 % 128 * u ∧ v + x.getD i 0 % 128 * u < pw (i + 1) ∧ 0 ≤ x.getD i 0 % 128 * u ∧ x.getD i 0 % 128 * u ≤ 127 * pw i := by
  have hc := U8_get hU i hi
  have hp := pw_pos i
  have e := h.eu
  have v0 := h.v0
  have v1 := h.v1
  have h1 : 0 ≤ x.getD i 0 % 128 * u := Int.mul_nonneg (by omega) (by omega)
  have h2 : x.getD i 0 % 128 * u ≤ 127 * u := Int.mul_le_mul_of_nonneg_right (by omega) (by omega)
  rw [pw_succ]
  refine ⟨by omega, by omega, h1, by omega⟩
theorem RdI.next {x : List Int} {v u : Int} {i : Nat} (h : RdI x v u i) (hU : U8 x) (hi : i < x.length) (h5 : i < 5) (hc : ¬ x.getD i 0 < 128) : RdI x (v + x.getD i 0 % 128 * u) (u * 128) (i + 1) := by
  obtain ⟨b1, b2, _⟩ := h.bnd hU hi
  refine ⟨by omega, by omega, by rw [h.eu, pw_succ], b1, b2, ?_⟩
  rw [← h.same, drop_cons hi]
  simp only [rd]
  rw [if_neg (by omega), if_neg hc]
theorem RdI.at_ {x : List Int} {v u : Int} {i : Nat} (h : RdI x v u i) (hi : i < x.length) : rd x 0 0 1 = if 5 ≤ i then none else if x.getD i 0 < 128 then (if (0 < i ∧ x.getD i 0 = 0) ∨ 1073741824 < v + x.getD i 0 % 128 * u then none else some (v + x.getD i 0 % 128 * u, (i : Int) + 1)) else rd (x.drop (i + 1)) (i + 1) (v + x.getD i 0 % 128 * u) (u * 128) := by
  rw [← h.same, drop_cons hi]
  rfl
theorem RdI.stop {x : List Int} {v u : Int} {i : Nat} (h : RdI x v u i) (hi : x.length ≤ i) : rd x 0 0 1 = none := by
  rw [← h.same, List.drop_eq_nil_of_le hi]; rfl
def tk (o : Option (Int × Int)) : Int × Int × Bool := match o with
  | some (v, n) => (v, n, true)
  | none => (0, 0, false)
theorem read_eq (N : Nat) (hN : 100 ≤ N) (x : List Int) (hx : x.length ≤ 1000) (hU : U8 x) : W_bits_read N x = some (match rd x 0 0 1 with | some p => .inl p | none => .inr ()) := by
  unfold W_bits_read
  refine obind_loop (fun v : Int × Int × Int => ∃ i : Nat, v.2.2 = i ∧ RdI x v.1 v.2.1 i) (fun v => 6 - v.2.2.toNat) (fun r : PUnit ⊕ Int × Int ⊕ PUnit => (r = .inl () ∧ rd x 0 0 1 = none) ∨ ∃ p, r = .inr (.inl p) ∧ rd x 0 0 1 = some p) ⟨0, rfl, RdI.zero x⟩ (by show 6 - Int.toNat 0 < N; omega) ?_ ?_
  · rintro r (⟨rfl, h⟩ | ⟨p, rfl, h⟩)
    · rw [selim_l, h]
    · rw [selim_r, h]
  · rintro ⟨v, u, w⟩ ⟨i, hi, hI⟩
    simp only at hi hI ⊢
    subst hi
    by_cases hlt : (i : Int) < x.length
    case neg => right; rw [dF hlt, cnd_f]; exact ⟨_, rfl, .inl ⟨rfl, hI.stop (by omega)⟩⟩
    have hix : i < x.length := by omega
    rw [dT hlt, cnd_t, Int.toNat_natCast]
    have hat := hI.at_ hix
    rw [dT (Int.natCast_nonneg i), Bool.and_self, cnd_t]
    by_cases h5 : (i : Int) = 5
    · right; rw [dT h5, cnd_t, obind_s, cnd_t]; rw [if_pos (by omega)] at hat
      exact ⟨_, rfl, .inl ⟨rfl, hat⟩⟩
    have hi5 := hI.i5
    rw [if_neg (by omega)] at hat
    have hp := pw_le (i := i) (by omega)
    have hp1 := pw_le (i := i + 1) (by omega)
    have hp0 := pw_pos i
    obtain ⟨b1, b2, b3, b4⟩ := hI.bnd hU hix
    have hc := U8_get hU i hix
    have hu := hI.eu
    have w1 : wr .i64 (Int.tmod (x.getD i 0) 128) = x.getD i 0 % 128 := by rw [Int.tmod_eq_emod_of_nonneg hc.1, wr_m (by omega) (by omega)]
    have w2 : wr .i64 (x.getD i 0 % 128 * u) = x.getD i 0 % 128 * u := wr_m (by omega) (by omega)
    have w3 : wr .i64 (v + x.getD i 0 % 128 * u) = v + x.getD i 0 % 128 * u := wr_m (by omega) (by omega)
    have w4 : wr .i64 (u * 128) = u * 128 := wr_m (by omega) (by omega)
    have w5 : wr .i64 ((i : Int) + 1) = (i : Int) + 1 := wr_m (by omega) (by omega)
    rw [dF h5, cnd_f, obind_s, w1, w2, w3, w4, w5]
    clear w1 w2 w3 w4 w5
    by_cases hm : 1073741824 < v + x.getD i 0 % 128 * u
    · right
      rw [dT hm, cnd_t]
      refine ⟨_, rfl, .inl ⟨rfl, ?_⟩⟩
      rw [hat]
      split
      · rw [if_pos (.inr hm)]
      · exact rd_big _ _ _ _ (U8_drop hU _) hm (by omega)
    rw [dF hm, cnd_f]
    have go : ¬ (0 < i ∧ x.getD i 0 = 0) → (∃ y : Int × Int × Int, cnd (decide (x.getD i 0 < (128 : Int))) (some (Sum.inr (Sum.inr (Sum.inl (v + x.getD i 0 % 128 * u, (i : Int) + 1))))) (some (Sum.inl (v + x.getD i 0 % 128 * u, u * 128, (i : Int) + 1))) = some (.inl y : (Int × Int × Int) ⊕ (PUnit ⊕ Int × Int ⊕ PUnit)) ∧ (∃ i : Nat, y.2.2 = i ∧ RdI x y.1 y.2.1 i) ∧ 6 - y.2.2.toNat < 6 - (i : Int).toNat) ∨
        ∃ r, cnd (decide (x.getD i 0 < (128 : Int))) (some (Sum.inr (Sum.inr (Sum.inl (v + x.getD i 0 % 128 * u, (i : Int) + 1))))) (some (Sum.inl (v + x.getD i 0 % 128 * u, u * 128, (i : Int) + 1))) = some (.inr r : (Int × Int × Int) ⊕ (PUnit ⊕ Int × Int ⊕ PUnit)) ∧ ((r = .inl () ∧ rd x 0 0 1 = none) ∨ ∃ p, r = .inr (.inl p) ∧ rd x 0 0 1 = some p) := by
      intro hz
      by_cases hs : x.getD i 0 < 128
      · right
        rw [dT hs, cnd_t]
        rw [if_pos hs, if_neg (fun q => q.elim hz hm)] at hat
        exact ⟨_, rfl, .inr ⟨_, rfl, hat⟩⟩
      · left
        rw [dF hs, cnd_f]
        refine ⟨(v + x.getD i 0 % 128 * u, u * 128, (i : Int) + 1), rfl, ⟨i + 1, (Int.natCast_succ i).symm, hI.next hU hix (by omega) hs⟩, ?_⟩
        show 6 - ((i : Int) + 1).toNat < 6 - (i : Int).toNat
        omega
    by_cases hz0 : x.getD i 0 = 0
    · rw [dT hz0, cnd_t]
      by_cases hi0 : (0 : Int) < (i : Int)
      · right
        rw [dT hi0, cnd_t]
        rw [if_pos (show x.getD i 0 < 128 by omega), if_pos (.inl ⟨by omega, hz0⟩)] at hat
        exact ⟨_, rfl, .inl ⟨rfl, hat⟩⟩
      · rw [dF hi0, cnd_f]
        exact go (fun q => hi0 (by omega))
    · rw [dF hz0, cnd_f]
      exact go (fun q => hz0 q.2)
theorem Take_eq (N : Nat) (hN : 100 ≤ N) (x : List Int) (hx : x.length ≤ 1000) (hU : U8 x) : W_bits_Take N x = some (tk (rd x 0 0 1)) := by
  unfold W_bits_Take
  rw [read_eq N hN x hx hU, obind_s]
  cases rd x 0 0 1 with
  | none => rfl
  | some p => rfl
/-- The text that bytes begin with. -/
def tt (x : List Int) : List UInt8 × Int × Bool := match rd x 0 0 1 with
  | some (v, n) => if (x.length : Int) - n < v then ([], 0, false) else (bytesI ((x.take (n + v).toNat).drop n.toNat), n + v, true)
  | none => ([], 0, false)
theorem TakeText_eq (N : Nat) (hN : 100 ≤ N) (x : List Int) (hx : x.length ≤ 1000) (hU : U8 x) : W_bits_TakeText N x = some (tt x) := by
  unfold W_bits_TakeText tt
  rw [read_eq N hN x hx hU, obind_s]
  cases hr : rd x 0 0 1 with
  | none => rfl
  | some p =>
    obtain ⟨v, n⟩ := p
    obtain ⟨h1, h2, h3, h4, h5⟩ := rd_rng x 0 0 1 v n hU (by omega) (by omega) hr
    simp only [selim_l]
    have w1 : wr .i64 ((x.length : Int) - n) = (x.length : Int) - n := wr_m (by omega) (by omega)
    have w2 : wr .i64 (n + v) = n + v := wr_m (by omega) (by omega)
    rw [w1, w2]
    clear w1 w2
    by_cases hc : (x.length : Int) - n < v
    · rw [dT hc, cnd_t, if_pos hc]
    · rw [dF hc, cnd_f, if_neg hc, dT (by omega), dT (by omega), dT (by omega), Bool.and_self, Bool.and_self, cnd_t, U8_all (U8_drop (U8_take hU _) _), cnd_t]
theorem mul_split (v u : Int) : v % 128 * u + v / 128 * (u * 128) = v * u := by
  have h := Int.emod_add_mul_ediv v 128
  have e : v / 128 * (u * 128) = 128 * (v / 128) * u := by rw [Int.mul_comm u 128, ← Int.mul_assoc, Int.mul_comm (v / 128) 128]
  rw [e, ← Int.add_mul, h]
theorem rd_enc : ∀ (k : Nat) (v : Int) (r : List Int) (i : Nat) (acc u : Int), 0 ≤ v → v < 128 * 128 ^ k → i + k ≤ 4 → (0 < i → 0 < v) → acc + v * u ≤ 1073741824 → 0 ≤ u → rd (encF k v ++ r) i acc u = some (acc + v * u, (i : Int) + ((encF k v).length : Int))
  | 0, v, r, i, acc, u, h0, h1, hi, hp, hm, hu => by
    simp at h1
    simp only [encF, List.singleton_append, rd]
    rw [if_neg (by omega), if_pos h1, if_neg (by
      rintro (⟨a, b⟩ | a)
      · have := hp a; omega
      · rw [Int.emod_eq_of_lt h0 h1] at a; omega), Int.emod_eq_of_lt h0 h1]
    rfl
  | k + 1, v, r, i, acc, u, h0, h1, hi, hp, hm, hu => by
    simp only [encF]
    split
    · rename_i hv
      simp only [List.singleton_append, rd]
      rw [if_neg (by omega), if_pos hv, if_neg (by
        rintro (⟨a, b⟩ | a)
        · have := hp a; omega
        · rw [Int.emod_eq_of_lt h0 hv] at a; omega), Int.emod_eq_of_lt h0 hv]
      rfl
    · rename_i hv
      have h3 : v < 128 * 128 ^ k * 128 := by rw [Int.pow_succ] at h1; omega
      have e1 : (v % 128 + 128) % 128 = v % 128 := by omega
      have e2 : acc + v % 128 * u + v / 128 * (u * 128) = acc + v * u := by rw [Int.add_assoc, mul_split]
      simp only [List.cons_append, rd]
      rw [if_neg (by omega), if_neg (by omega), e1, rd_enc k (v / 128) r (i + 1) (acc + v % 128 * u) (u * 128) (by omega) (by omega) (by omega) (fun _ => by omega) (by rw [e2]; exact hm) (by omega), e2]
      simp only [List.length_cons]
      congr 2
      omega
theorem rd_big8 : ∀ (l : List Int) (i : Nat) (v u : Int), (∀ n ∈ l, 128 ≤ n) → rd l i v u = none
  | [], _, _, _, _ => rfl
  | c :: r, i, v, u, h => by
    have hc := h c (by simp)
    simp only [rd]
    split
    · rfl
    · rw [if_neg (by omega)]
      exact rd_big8 r _ _ _ (fun n hn => h n (by simp [hn]))
theorem enc_front : ∀ (k : Nat) (v : Int) (j : Nat), 0 ≤ v → j < (encF k v).length → ∀ n ∈ (encF k v).take j, 128 ≤ n
  | 0, v, j, h, hj => by
    simp only [encF, List.length_singleton] at hj
    have : j = 0 := by omega
    subst this
    simp
  | k + 1, v, j, h, hj => by
    simp only [encF] at hj ⊢
    split at hj
    · simp only [List.length_singleton] at hj
      have : j = 0 := by omega
      subst this
      simp
    · rename_i hv
      rw [if_neg hv]
      cases j with
      | zero => simp
      | succ j =>
        simp only [List.length_cons] at hj
        intro n hn
        rw [List.take_succ_cons] at hn
        rcases List.mem_cons.1 hn with rfl | hn
        · omega
        · exact enc_front k (v / 128) j (by omega) (by omega) n hn
theorem rd_back : ∀ (l : List Int) (i : Nat) (acc u x n : Int), U8 l → 0 ≤ u → rd l i acc u = some (x, n) → ∃ d : Int, ∃ m : Nat, x = acc + d * u ∧ 0 ≤ d ∧ (0 < i → 0 < d) ∧ n = (i : Int) + m ∧ i ≤ 4 ∧ encF (4 - i) d = l.take m
  | [], _, _, _, _, _, _, _, h => by cases h
  | c :: r, i, acc, u, x, n, hU, hu, h => by
    have hc := hU c (by simp)
    simp only [rd] at h
    split at h
    · cases h
    · rename_i h5
      split at h
      · rename_i hs
        split at h
        · cases h
        · rename_i hno
          injection h with h
          injection h with h1 h2
          have e1 : c % 128 = c := Int.emod_eq_of_lt hc.1 hs
          refine ⟨c, 1, by rw [← h1, e1], hc.1, fun hi => ?_, by omega, by omega, ?_⟩
          · have : ¬ c = 0 := fun e => hno (.inl ⟨hi, e⟩)
            omega
          · rw [List.take_succ_cons, List.take_zero]
            cases 4 - i with
            | zero => rfl
            | succ k => simp only [encF, if_pos hs]
      · rename_i hs
        obtain ⟨d, m, e1, e2, e3, e4, e5, e6⟩ := rd_back r (i + 1) _ _ x n (fun n hn => hU n (by simp [hn])) (by omega) h
        have hd := e3 (by omega)
        refine ⟨c % 128 + 128 * d, m + 1, ?_, by omega, fun _ => by omega, by omega, by omega, ?_⟩
        · rw [e1, Int.add_mul, ← Int.add_assoc, Int.mul_comm u 128, ← Int.mul_assoc, Int.mul_comm d 128]
        · have e7 : 4 - i = 4 - (i + 1) + 1 := by omega
          rw [e7]
          simp only [encF]
          rw [if_neg (by omega), show (c % 128 + 128 * d) % 128 + 128 = c by omega, show (c % 128 + 128 * d) / 128 = d by omega, e6, List.take_succ_cons]
theorem bytes_by8 (s : List UInt8) : bytesI (by8 s) = s := by
  unfold bytesI by8
  rw [List.map_map]
  conv => rhs; rw [← List.map_id s]
  apply List.map_congr_left
  intro b _
  simp
theorem rd_put {v : Int} (h0 : 0 ≤ v) (h1 : v ≤ 1073741824) (r : List Int) : rd (enc v ++ r) 0 0 1 = some (v, ((enc v).length : Int)) := by
  have := rd_enc 4 v r 0 0 1 h0 (by omega) (by omega) (fun h => by omega) (by omega) (by omega)
  unfold enc
  rw [this]
  congr 2 <;> omega
theorem rd_cut {v : Int} (h0 : 0 ≤ v) {j : Nat} (hj : j < (enc v).length) : rd ((enc v).take j) 0 0 1 = none := rd_big8 _ _ _ _ (enc_front 4 v j h0 hj)
theorem tt_put (s : List UInt8) (r : List Int) (hs : s.length ≤ 200) : tt (enc s.length ++ by8 s ++ r) = (s, (((enc s.length ++ by8 s).length : Nat) : Int), true) := by
  have hb : (by8 s).length = s.length := by simp [by8]
  unfold tt
  rw [List.append_assoc, rd_put (by omega) (by omega)]
  simp only
  rw [if_neg (by simp only [List.length_append, hb]; omega)]
  have e1 : (((enc s.length).length : Int) + (s.length : Int)).toNat = (enc s.length ++ by8 s).length := by rw [List.length_append, hb]; omega
  rw [e1, ← List.append_assoc, List.take_left, Int.toNat_natCast, List.drop_left, bytes_by8]
  rw [List.length_append, hb]
  congr 2
theorem tt_cut (s : List UInt8) (j : Nat) (hs : s.length ≤ 200) (hj : j < (enc s.length ++ by8 s).length) : (tt ((enc s.length ++ by8 s).take j)).2.2 = false := by
  have hb : (by8 s).length = s.length := by simp [by8]
  rw [List.length_append, hb] at hj
  unfold tt
  by_cases c : j < (enc s.length).length
  · rw [List.take_append_of_le_length (by omega), rd_cut (by omega) c]
  · have e : (enc s.length ++ by8 s).take j = enc s.length ++ (by8 s).take (j - (enc s.length).length) := by
      rw [List.take_append, List.take_of_length_le (by omega)]
    rw [e, rd_put (by omega) (by omega)]
    simp only
    rw [if_pos (by simp only [List.length_append, List.length_take, hb]; omega)]
theorem cut_eq (b : List Int) (h : Int) : List.drop ((0 : Nat) + (cutT (0 : Nat) (List.length b) (List.length b) none (some h)).2.1) (List.take ((0 : Nat) + (cutT (0 : Nat) (List.length b) (List.length b) none (some h)).2.1 + ((cutT (0 : Nat) (List.length b) (List.length b) none (some h)).2.2 - (cutT (0 : Nat) (List.length b) (List.length b) none (some h)).2.1)) b) = b.take h.toNat := by
  simp [cutT]
theorem wr_i32 {z : Int} (h : -2147483648 ≤ z) (h2 : z ≤ 2147483647) : wr .i32 z = z := by
  rw [wr_eq]; simp only [IntKind.wrap, IntKind.bits, IntKind.signed]; simp; omega
abbrev St := Int × Int × Int × Int × List UInt8
def nu (b : List Int) : Option (Int × List Int) := match rd b 0 0 1 with
  | some (v, n) => some (v, b.drop n.toNat)
  | none => none
def tx (b : List Int) : Option (List UInt8 × List Int) := match rd b 0 0 1 with
  | some (v, n) => if (b.length : Int) - n < v then none else some (bytesI ((b.take (n + v).toNat).drop n.toNat), b.drop (n + v).toNat)
  | none => none
theorem number_some (N : Nat) (hN : 100 ≤ N) {b r : List Int} {v : Int} (e : Bool) (hb : b.length ≤ 1000) (hU : U8 b) (h : nu b = some (v, r)) : W_ops_reader_number N (b, e) = some (v, r, e) := by
  unfold W_ops_reader_number
  unfold nu at h
  have ht := Take_eq N hN b hb hU
  cases hr : rd b 0 0 1 with
  | none => rw [hr] at h; cases h
  | some p =>
    obtain ⟨w, n⟩ := p
    rw [hr] at h ht
    replace ht : W_bits_Take N b = some (w, n, true) := ht
    obtain ⟨h1, h2, h3, h4, h5⟩ := rd_rng b 0 0 1 w n hU (by omega) (by omega) hr
    injection h with h
    injection h with q1 q2
    subst q1 q2
    rw [ht, obind_s]
    simp only
    rw [dT (by omega), dT (by omega), Bool.and_self, cnd_t, List.take_length]
    cases e <;> rfl
theorem number_none (N : Nat) (hN : 100 ≤ N) {b : List Int} (e : Bool) (hb : b.length ≤ 1000) (hU : U8 b) (h : nu b = none) : W_ops_reader_number N (b, e) = some (0, b, true) := by
  unfold W_ops_reader_number
  unfold nu at h
  have ht := Take_eq N hN b hb hU
  cases hr : rd b 0 0 1 with
  | some p => rw [hr] at h; cases h
  | none =>
    rw [hr] at ht
    replace ht : W_bits_Take N b = some (0, 0, false) := ht
    rw [ht, obind_s]
    simp only
    rw [dT (by omega), dT (by omega), Bool.and_self, cnd_t, List.take_length]
    cases e <;> rfl
theorem text_some (N : Nat) (hN : 100 ≤ N) {b r : List Int} {s : List UInt8} (e : Bool) (hb : b.length ≤ 1000) (hU : U8 b) (h : tx b = some (s, r)) : W_ops_reader_text N (b, e) = some (s, r, e) := by
  unfold W_ops_reader_text
  unfold tx at h
  have ht := TakeText_eq N hN b hb hU
  unfold tt at ht
  cases hr : rd b 0 0 1 with
  | none => rw [hr] at h; cases h
  | some p =>
    obtain ⟨w, n⟩ := p
    rw [hr] at h ht
    obtain ⟨h1, h2, h3, h4, h5⟩ := rd_rng b 0 0 1 w n hU (by omega) (by omega) hr
    simp only at h ht
    by_cases c : (b.length : Int) - n < w
    · rw [if_pos c] at h; cases h
    rw [if_neg c] at h ht
    injection h with h
    injection h with q1 q2
    subst q1 q2
    rw [ht, obind_s]
    simp only
    rw [dT (by omega), dT (by omega), Bool.and_self, cnd_t, List.take_length]
    cases e <;> rfl
theorem text_none (N : Nat) (hN : 100 ≤ N) {b : List Int} (e : Bool) (hb : b.length ≤ 1000) (hU : U8 b) (h : tx b = none) : W_ops_reader_text N (b, e) = some ([], b, true) := by
  unfold W_ops_reader_text
  unfold tx at h
  have hT := TakeText_eq N hN b hb hU
  have ht : tt b = ([], 0, false) := by
    unfold tt
    cases hr : rd b 0 0 1 with
    | none => rfl
    | some p =>
      obtain ⟨w, n⟩ := p
      rw [hr] at h
      simp only at h ⊢
      by_cases c : (b.length : Int) - n < w
      · rw [if_pos c]
      · rw [if_neg c] at h; cases h
  rw [ht] at hT
  rw [hT, obind_s]
  simp only
  rw [dT (by omega), dT (by omega), Bool.and_self, cnd_t, List.take_length]
  cases e <;> rfl
theorem nu_len {b r : List Int} {v : Int} (h : nu b = some (v, r)) : r.length ≤ b.length := by
  unfold nu at h
  cases hr : rd b 0 0 1 with
  | none => rw [hr] at h; cases h
  | some p => rw [hr] at h; injection h with h; injection h with _ h; rw [← h, List.length_drop]; omega
theorem tx_len {b r : List Int} {v : List UInt8} (h : tx b = some (v, r)) : r.length ≤ b.length := by
  unfold tx at h
  cases hr : rd b 0 0 1 with
  | none => rw [hr] at h; cases h
  | some p =>
    rw [hr] at h
    simp only at h
    split at h
    · cases h
    injection h with h; injection h with _ h; rw [← h, List.length_drop]; omega
theorem nu_back {b r : List Int} {v : Int} (hU : U8 b) (h : nu b = some (v, r)) : 0 ≤ v ∧ v ≤ 1073741824 ∧ enc v ++ r = b := by
  unfold nu at h
  cases hr : rd b 0 0 1 with
  | none => rw [hr] at h; cases h
  | some p =>
    obtain ⟨w, n⟩ := p
    rw [hr] at h; injection h with h; injection h with q h
    subst q
    obtain ⟨h1, h2, h3, h4, h5⟩ := rd_rng b 0 0 1 w n hU (by omega) (by omega) hr
    obtain ⟨d, m, e1, e2, e3, e4, e5, e6⟩ := rd_back b 0 0 1 w n hU (by omega) hr
    have hd : d = w := by omega
    subst hd
    have hm : n.toNat = m := by omega
    rw [hm] at h
    refine ⟨h1, h2, ?_⟩
    rw [← h]
    show encF (4 - 0) d ++ _ = _
    rw [e6, List.take_append_drop]
theorem by8_bytes {l : List Int} (h : U8 l) : by8 (bytesI l) = l := by
  unfold bytesI by8
  rw [List.map_map]
  conv => rhs; rw [← List.map_id l]
  apply List.map_congr_left
  intro n hn
  have := h n hn
  simp
  omega
theorem tx_back {b r : List Int} {s : List UInt8} (hU : U8 b) (h : tx b = some (s, r)) : s.length ≤ b.length ∧ enc s.length ++ by8 s ++ r = b := by
  unfold tx at h
  cases hr : rd b 0 0 1 with
  | none => rw [hr] at h; cases h
  | some p =>
    obtain ⟨w, n⟩ := p
    rw [hr] at h
    simp only at h
    split at h
    · cases h
    rename_i hc
    injection h with h; injection h with q h
    obtain ⟨h1, h2, h3, h4, h5⟩ := rd_rng b 0 0 1 w n hU (by omega) (by omega) hr
    obtain ⟨d, m, e1, e2, e3, e4, e5, e6⟩ := rd_back b 0 0 1 w n hU (by omega) hr
    have hd : d = w := by omega
    subst hd
    have hm : n.toNat = m := by omega
    have hl : s.length = d.toNat := by
      rw [← q]; simp only [bytesI, List.length_map, List.length_drop, List.length_take]; omega
    have hld : (s.length : Int) = d := by omega
    refine ⟨by omega, ?_⟩
    rw [hld, ← q, ← h, by8_bytes (U8_drop (U8_take hU _) _), hm]
    have e7 : enc d = b.take m := e6
    have hk : (n + d).toNat = m + d.toNat := by omega
    rw [e7, hk]
    have e8 : List.take m b = List.take m (List.take (m + d.toNat) b) := by rw [List.take_take]; congr 1; omega
    rw [e8, List.take_append_drop, List.take_append_drop]
/-- What is said behind a step's byte. -/
def body (k : Int) (b : List Int) : Option (St × List Int) :=
  if k = 1 then (nu b).bind fun p => (tx p.2).bind fun q => some ((1, p.1, 0, 0, q.1), q.2)
  else if k = 4 then (tx b).bind fun q => some ((4, 0, 0, 0, q.1), q.2)
  else if k = 9 then (nu b).bind fun p => (nu p.2).bind fun q => some ((9, 0, p.1, q.1, []), q.2)
  else if k = 6 ∨ k = 7 ∨ k = 8 then (nu b).bind fun p => some ((k, 0, p.1, 0, []), p.2)
  else (nu b).bind fun p => some ((k, p.1, 0, 0, []), p.2)
def rng (v : Int) : Prop := 0 ≤ v ∧ v ≤ 1073741824
inductive Good : St → Prop
  | join (r t) : rng r → t.length ≤ 200 → Good (1, r, 0, 0, t)
  | pub (t) : t.length ≤ 200 → Good (4, 0, 0, 0, t)
  | turned (i o) : rng i → rng o → Good (9, 0, i, o, [])
  | fly (k i) : k = 6 ∨ k = 7 ∨ k = 8 → rng i → Good (k, 0, i, 0, [])
  | one (k r) : k = 2 ∨ k = 3 ∨ k = 5 → rng r → Good (k, r, 0, 0, [])
def pay (s : St) : List Int :=
  if s.1 = 1 then enc s.2.1 ++ (enc s.2.2.2.2.length ++ by8 s.2.2.2.2)
  else if s.1 = 4 then enc s.2.2.2.2.length ++ by8 s.2.2.2.2
  else if s.1 = 9 then enc s.2.2.1 ++ enc s.2.2.2.1
  else if s.1 = 6 ∨ s.1 = 7 ∨ s.1 = 8 then enc s.2.2.1
  else enc s.2.1
theorem Good.kind {s : St} (h : Good s) : 1 ≤ s.1 ∧ s.1 ≤ 9 := by cases h <;> simp only <;> omega
theorem nu_enc {v : Int} (h : rng v) (r : List Int) : nu (enc v ++ r) = some (v, r) := by
  unfold nu
  rw [rd_put h.1 h.2]
  simp only [Int.toNat_natCast, List.drop_left]
theorem nu_enc0 {v : Int} (h : rng v) : nu (enc v) = some (v, []) := by have := nu_enc h []; rwa [List.append_nil] at this
theorem tx_put (s : List UInt8) (r : List Int) (hs : s.length ≤ 200) : tx (enc s.length ++ by8 s ++ r) = some (s, r) := by
  have h := tt_put s r hs
  unfold tt at h
  unfold tx
  rw [List.append_assoc, rd_put (by omega) (by omega)] at h ⊢
  simp only at h ⊢
  split at h
  · cases h
  rename_i hc
  rw [if_neg hc]
  injection h with h1 h2
  injection h2 with h2 _
  rw [h1, h2, Int.toNat_natCast, ← List.append_assoc, List.drop_left]
theorem tx_cut (s : List UInt8) (j : Nat) (hs : s.length ≤ 200) (hj : j < (enc s.length ++ by8 s).length) : tx ((enc s.length ++ by8 s).take j) = none := by
  have h := tt_cut s j hs hj
  unfold tt at h
  unfold tx
  cases hr : rd ((enc s.length ++ by8 s).take j) 0 0 1 with
  | none => rfl
  | some p =>
    rw [hr] at h
    simp only at h ⊢
    split at h
    · rename_i hc; rw [if_pos hc]
    · cases h
theorem nu_cut {v : Int} (h : rng v) {j : Nat} (hj : j < (enc v).length) : nu ((enc v).take j) = none := by
  unfold nu; rw [rd_cut h.1 hj]
theorem take_over {a b : List Int} {j : Nat} (h : a.length ≤ j) : (a ++ b).take j = a ++ b.take (j - a.length) := by
  rw [List.take_append, List.take_of_length_le h]
theorem body_pay {s : St} (h : Good s) (r : List Int) : body s.1 (pay s ++ r) = some (s, r) := by
  cases h with
  | join a t h1 h2 =>
    simp only [body, pay, if_true, List.append_assoc]
    rw [nu_enc h1]
    simp only [Option.bind_some]
    rw [← List.append_assoc, tx_put t r h2]
    rfl
  | pub t h2 =>
    simp only [body, pay, if_true]
    rw [if_neg (by omega), if_neg (by omega), tx_put t r h2]
    rfl
  | turned i o h1 h2 =>
    simp only [body, pay]
    rw [if_neg (by omega), if_neg (by omega), if_pos trivial, if_neg (by omega), if_neg (by omega), if_pos trivial, List.append_assoc, nu_enc h1]
    simp only [Option.bind_some]
    rw [nu_enc h2]
    rfl
  | fly k i hk h1 =>
    simp only [body, pay]
    rw [if_neg (by omega), if_neg (by omega), if_neg (by omega), if_pos hk, if_neg (by omega), if_neg (by omega), if_neg (by omega), if_pos hk, nu_enc h1]
    rfl
  | one k i hk h1 =>
    simp only [body, pay]
    rw [if_neg (by omega), if_neg (by omega), if_neg (by omega), if_neg (by omega), if_neg (by omega), if_neg (by omega), if_neg (by omega), if_neg (by omega), nu_enc h1]
    rfl
theorem body_cut {s : St} (h : Good s) {j : Nat} (hj : j < (pay s).length) : body s.1 ((pay s).take j) = none := by
  cases h with
  | join a t h1 h2 =>
    simp only [body, pay, if_true] at hj ⊢
    by_cases c : j < (enc a).length
    · rw [List.take_append_of_le_length (by omega), nu_cut h1 c]; rfl
    · rw [take_over (by omega), nu_enc h1]
      simp only [Option.bind_some]
      rw [tx_cut t _ h2 (by rw [List.length_append] at hj; omega)]
      rfl
  | pub t h2 =>
    simp only [body, pay, if_true] at hj ⊢
    rw [if_neg (by omega)] at hj
    rw [if_neg (by omega), if_neg (by omega), tx_cut t _ h2 hj]
    rfl
  | turned i o h1 h2 =>
    simp only [body, pay] at hj ⊢
    rw [if_neg (by omega), if_neg (by omega), if_pos trivial] at hj
    rw [if_neg (by omega), if_neg (by omega), if_pos trivial, if_neg (by omega), if_neg (by omega), if_pos trivial]
    by_cases c : j < (enc i).length
    · rw [List.take_append_of_le_length (by omega), nu_cut h1 c]; rfl
    · rw [take_over (by omega), nu_enc h1]
      simp only [Option.bind_some]
      rw [nu_cut h2 (by rw [List.length_append] at hj; omega)]
      rfl
  | fly k i hk h1 =>
    simp only [body, pay] at hj ⊢
    rw [if_neg (by omega), if_neg (by omega), if_neg (by omega), if_pos hk] at hj
    rw [if_neg (by omega), if_neg (by omega), if_neg (by omega), if_pos hk, if_neg (by omega), if_neg (by omega), if_neg (by omega), if_pos hk, nu_cut h1 hj]
    rfl
  | one k i hk h1 =>
    simp only [body, pay] at hj ⊢
    rw [if_neg (by omega), if_neg (by omega), if_neg (by omega), if_neg (by omega)] at hj
    rw [if_neg (by omega), if_neg (by omega), if_neg (by omega), if_neg (by omega), if_neg (by omega), if_neg (by omega), if_neg (by omega), if_neg (by omega), nu_cut h1 hj]
    rfl
theorem bind_ex {α β : Type} {o : Option α} {f : α → Option β} {b : β} (h : o.bind f = some b) : ∃ a, o = some a ∧ f a = some b := by
  cases o with
  | none => cases h
  | some a => exact ⟨a, rfl, h⟩
theorem body_back {k : Int} {b r : List Int} {s : St} (hk : 1 ≤ k ∧ k ≤ 9) (hU : U8 b) (hb : b.length ≤ 200) (h : body k b = some (s, r)) : Good s ∧ s.1 = k ∧ pay s ++ r = b := by
  unfold body at h
  split at h
  · subst k
    obtain ⟨⟨v, b1⟩, e1, h⟩ := bind_ex h
    obtain ⟨⟨t, b2⟩, e2, h⟩ := bind_ex h
    injection h with h; injection h with h h2
    subst h h2
    obtain ⟨g1, g2, g3⟩ := nu_back hU e1
    have hU1 : U8 b1 := fun n hn => hU n (by rw [← g3]; simp [hn])
    obtain ⟨g4, g5⟩ := tx_back hU1 e2
    have := nu_len e1
    refine ⟨.join v t ⟨g1, g2⟩ (by simp only at *; omega), rfl, ?_⟩
    simp only [pay, if_true]
    rw [List.append_assoc, g5, g3]
  split at h
  · subst k
    obtain ⟨⟨t, b2⟩, e2, h⟩ := bind_ex h
    injection h with h; injection h with h h2
    subst h h2
    obtain ⟨g4, g5⟩ := tx_back hU e2
    exact ⟨.pub t (by omega), rfl, g5⟩
  split at h
  · subst k
    obtain ⟨⟨v, b1⟩, e1, h⟩ := bind_ex h
    obtain ⟨⟨t, b2⟩, e2, h⟩ := bind_ex h
    injection h with h; injection h with h h2
    subst h h2
    obtain ⟨g1, g2, g3⟩ := nu_back hU e1
    have hU1 : U8 b1 := fun n hn => hU n (by rw [← g3]; simp [hn])
    obtain ⟨g4, g5, g6⟩ := nu_back hU1 e2
    refine ⟨.turned v t ⟨g1, g2⟩ ⟨g4, g5⟩, rfl, ?_⟩
    show enc v ++ enc t ++ b2 = b
    rw [List.append_assoc, g6, g3]
  split at h
  · rename_i c1 c2 c3 c4
    obtain ⟨⟨v, b1⟩, e1, h⟩ := bind_ex h
    injection h with h; injection h with h h2
    subst h h2
    obtain ⟨g1, g2, g3⟩ := nu_back hU e1
    refine ⟨.fly k v c4 ⟨g1, g2⟩, rfl, ?_⟩
    simp only [pay]
    rw [if_neg c1, if_neg c2, if_neg c3, if_pos c4, g3]
  · rename_i c1 c2 c3 c4
    obtain ⟨⟨v, b1⟩, e1, h⟩ := bind_ex h
    injection h with h; injection h with h h2
    subst h h2
    obtain ⟨g1, g2, g3⟩ := nu_back hU e1
    refine ⟨.one k v (by omega) ⟨g1, g2⟩, rfl, ?_⟩
    simp only [pay]
    rw [if_neg c1, if_neg c2, if_neg c3, if_neg c4, g3]
theorem body_len {k : Int} {b r : List Int} {s : St} (h : body k b = some (s, r)) : r.length ≤ b.length := by
  unfold body at h
  split at h
  · obtain ⟨⟨v, b1⟩, e1, h⟩ := bind_ex h
    obtain ⟨⟨t, b2⟩, e2, h⟩ := bind_ex h
    injection h with h; injection h with h h2
    have := nu_len e1; have := tx_len e2; simp only at *; rw [← h2]; omega
  split at h
  · obtain ⟨⟨t, b2⟩, e2, h⟩ := bind_ex h
    injection h with h; injection h with h h2
    have := tx_len e2; simp only at *; rw [← h2]; omega
  split at h
  · obtain ⟨⟨v, b1⟩, e1, h⟩ := bind_ex h
    obtain ⟨⟨t, b2⟩, e2, h⟩ := bind_ex h
    injection h with h; injection h with h h2
    have := nu_len e1; have := nu_len e2; simp only at *; rw [← h2]; omega
  split at h <;>
  · obtain ⟨⟨v, b1⟩, e1, h⟩ := bind_ex h
    injection h with h; injection h with h h2
    have := nu_len e1; simp only at *; rw [← h2]; omega
theorem step_some (N : Nat) (hN : 100 ≤ N) {k : Int} {b r : List Int} {s : St} (hk : 1 ≤ k ∧ k ≤ 9) (hb : b.length ≤ 1000) (hU : U8 b) (h : body k b = some (s, r)) : W_ops_reader_step N (k, b, false) = some ((r, false), s) := by
  unfold W_ops_reader_step
  have w : wr .i64 k = k := wr_m (by omega) (by omega)
  simp only [w]
  unfold body at h
  split at h
  · subst k
    obtain ⟨⟨v, b1⟩, e1, h⟩ := bind_ex h
    obtain ⟨⟨t, b2⟩, e2, h⟩ := bind_ex h
    injection h with h; injection h with h h2
    subst h h2
    obtain ⟨g1, g2, g3⟩ := nu_back hU e1
    have hU1 : U8 b1 := fun n hn => hU n (by rw [← g3]; simp [hn])
    have := nu_len e1
    simp only [Int.reduceEq, decide_true, decide_false, cnd_t, cnd_f, obind_s]
    rw [number_some N hN false hb hU e1, obind_s]
    simp only
    rw [text_some N hN false (by omega) hU1 e2, obind_s]
  split at h
  · subst k
    obtain ⟨⟨t, b2⟩, e2, h⟩ := bind_ex h
    injection h with h; injection h with h h2
    subst h h2
    simp only [Int.reduceEq, decide_true, decide_false, cnd_t, cnd_f, obind_s]
    rw [text_some N hN false hb hU e2, obind_s]
  split at h
  · subst k
    obtain ⟨⟨v, b1⟩, e1, h⟩ := bind_ex h
    obtain ⟨⟨t, b2⟩, e2, h⟩ := bind_ex h
    injection h with h; injection h with h h2
    subst h h2
    obtain ⟨g1, g2, g3⟩ := nu_back hU e1
    have hU1 : U8 b1 := fun n hn => hU n (by rw [← g3]; simp [hn])
    have := nu_len e1
    simp only [Int.reduceEq, decide_true, decide_false, cnd_t, cnd_f, obind_s]
    rw [number_some N hN false hb hU e1, obind_s]
    simp only
    rw [number_some N hN false (by omega) hU1 e2, obind_s]
  split at h
  · rename_i c1 c2 c3 c4
    obtain ⟨⟨v, b1⟩, e1, h⟩ := bind_ex h
    injection h with h; injection h with h h2
    subst h h2
    have nn := number_some N hN false hb hU e1
    rcases c4 with c4 | c4 | c4 <;> subst c4
    · simp only [Int.reduceEq, decide_true, decide_false, cnd_t, cnd_f, obind_s]
      rw [nn, obind_s]
    · simp only [Int.reduceEq, decide_true, decide_false, cnd_t, cnd_f, obind_s]
      rw [nn, obind_s]
    · simp only [Int.reduceEq, decide_true, decide_false, cnd_t, cnd_f, obind_s]
      rw [nn, obind_s]
  · rename_i c1 c2 c3 c4
    obtain ⟨⟨v, b1⟩, e1, h⟩ := bind_ex h
    injection h with h; injection h with h h2
    subst h h2
    have nn := number_some N hN false hb hU e1
    have : k = 2 ∨ k = 3 ∨ k = 5 := by omega
    rcases this with c | c | c <;> subst c
    · simp only [Int.reduceEq, decide_true, decide_false, cnd_t, cnd_f, obind_s]
      rw [nn, obind_s]
    · simp only [Int.reduceEq, decide_true, decide_false, cnd_t, cnd_f, obind_s]
      rw [nn, obind_s]
    · simp only [Int.reduceEq, decide_true, decide_false, cnd_t, cnd_f, obind_s]
      rw [nn, obind_s]
theorem bind_no {α β : Type} {o : Option α} {f : α → Option β} (h : o.bind f = none) : o = none ∨ ∃ a, o = some a ∧ f a = none := by
  cases o with
  | none => exact .inl rfl
  | some a => exact .inr ⟨a, rfl, h⟩
theorem number_end (N : Nat) (hN : 100 ≤ N) {b : List Int} (hb : b.length ≤ 1000) (hU : U8 b) : ∃ v b', W_ops_reader_number N (b, true) = some (v, b', true) := by
  cases h : nu b with
  | none => exact ⟨_, _, number_none N hN true hb hU h⟩
  | some p => exact ⟨_, _, number_some N hN true hb hU h⟩
theorem text_end (N : Nat) (hN : 100 ≤ N) {b : List Int} (hb : b.length ≤ 1000) (hU : U8 b) : ∃ v b', W_ops_reader_text N (b, true) = some (v, b', true) := by
  cases h : tx b with
  | none => exact ⟨_, _, text_none N hN true hb hU h⟩
  | some p => exact ⟨_, _, text_some N hN true hb hU h⟩
theorem step_none (N : Nat) (hN : 100 ≤ N) {k : Int} {b : List Int} (hk : 1 ≤ k ∧ k ≤ 9) (hb : b.length ≤ 1000) (hU : U8 b) (h : body k b = none) : ∃ b' s, W_ops_reader_step N (k, b, false) = some ((b', true), s) := by
  unfold W_ops_reader_step
  have w : wr .i64 k = k := wr_m (by omega) (by omega)
  simp only [w]
  unfold body at h
  split at h
  · subst k
    simp only [Int.reduceEq, decide_true, decide_false, cnd_t, cnd_f, obind_s]
    rcases bind_no h with e1 | ⟨⟨v, b1⟩, e1, h⟩
    · rw [number_none N hN false hb hU e1, obind_s]
      simp only
      obtain ⟨t, b2, e2⟩ := text_end N hN hb hU
      rw [e2, obind_s]
      exact ⟨_, _, rfl⟩
    · obtain ⟨g1, g2, g3⟩ := nu_back hU e1
      have hU1 : U8 b1 := fun n hn => hU n (by rw [← g3]; simp [hn])
      have := nu_len e1
      rcases bind_no h with e2 | ⟨_, _, h⟩
      · rw [number_some N hN false hb hU e1, obind_s]
        simp only at e2 ⊢
        rw [text_none N hN false (by omega) hU1 e2, obind_s]
        exact ⟨_, _, rfl⟩
      · cases h
  split at h
  · subst k
    rcases bind_no h with e2 | ⟨_, _, h⟩
    · simp only [Int.reduceEq, decide_true, decide_false, cnd_t, cnd_f, obind_s]
      rw [text_none N hN false hb hU e2, obind_s]
      exact ⟨_, _, rfl⟩
    · cases h
  split at h
  · subst k
    simp only [Int.reduceEq, decide_true, decide_false, cnd_t, cnd_f, obind_s]
    rcases bind_no h with e1 | ⟨⟨v, b1⟩, e1, h⟩
    · rw [number_none N hN false hb hU e1, obind_s]
      simp only
      obtain ⟨t, b2, e2⟩ := number_end N hN hb hU
      rw [e2, obind_s]
      exact ⟨_, _, rfl⟩
    · obtain ⟨g1, g2, g3⟩ := nu_back hU e1
      have hU1 : U8 b1 := fun n hn => hU n (by rw [← g3]; simp [hn])
      have := nu_len e1
      rcases bind_no h with e2 | ⟨_, _, h⟩
      · rw [number_some N hN false hb hU e1, obind_s]
        simp only at e2 ⊢
        rw [number_none N hN false (by omega) hU1 e2, obind_s]
        exact ⟨_, _, rfl⟩
      · cases h
  split at h
  · rename_i c1 c2 c3 c4
    rcases bind_no h with e1 | ⟨⟨v, b1⟩, e1, h⟩
    case inr => cases h
    have nn := number_none N hN false hb hU e1
    rcases c4 with c4 | c4 | c4 <;> subst c4
    · simp only [Int.reduceEq, decide_true, decide_false, cnd_t, cnd_f, obind_s]
      rw [nn, obind_s]
      exact ⟨_, _, rfl⟩
    · simp only [Int.reduceEq, decide_true, decide_false, cnd_t, cnd_f, obind_s]
      rw [nn, obind_s]
      exact ⟨_, _, rfl⟩
    · simp only [Int.reduceEq, decide_true, decide_false, cnd_t, cnd_f, obind_s]
      rw [nn, obind_s]
      exact ⟨_, _, rfl⟩
  · rename_i c1 c2 c3 c4
    rcases bind_no h with e1 | ⟨⟨v, b1⟩, e1, h⟩
    case inr => cases h
    have nn := number_none N hN false hb hU e1
    have : k = 2 ∨ k = 3 ∨ k = 5 := by omega
    rcases this with c | c | c <;> subst c
    · simp only [Int.reduceEq, decide_true, decide_false, cnd_t, cnd_f, obind_s]
      rw [nn, obind_s]
      exact ⟨_, _, rfl⟩
    · simp only [Int.reduceEq, decide_true, decide_false, cnd_t, cnd_f, obind_s]
      rw [nn, obind_s]
      exact ⟨_, _, rfl⟩
    · simp only [Int.reduceEq, decide_true, decide_false, cnd_t, cnd_f, obind_s]
      rw [nn, obind_s]
      exact ⟨_, _, rfl⟩
/-- The steps that bytes say. -/
def TF : Nat → List Int → List St
  | 0, _ => []
  | _ + 1, [] => []
  | f + 1, c :: r => if c % 10 = 0 then TF f r else match body (c % 10) r with
    | none => []
    | some (s, r') => s :: TF f r'
theorem TF_more : ∀ (f g : Nat) (b : List Int), b.length ≤ f → b.length ≤ g → TF f b = TF g b
  | 0, 0, _, _, _ => rfl
  | 0, g + 1, [], _, _ => rfl
  | 0, _ + 1, c :: r, h, _ => by simp at h
  | f + 1, 0, [], _, _ => rfl
  | _ + 1, 0, c :: r, _, h => by simp at h
  | f + 1, g + 1, [], _, _ => rfl
  | f + 1, g + 1, c :: r, h1, h2 => by
    simp only [List.length_cons] at h1 h2
    simp only [TF]
    split
    · exact TF_more f g r (by omega) (by omega)
    · split
      · rfl
      · rename_i s r' hb
        have := body_len hb
        rw [TF_more f g r' (by omega) (by omega)]
def Tk (b : List Int) : List St := TF b.length b
theorem Tk_nil : Tk [] = [] := rfl
theorem Tk_cons (c : Int) (r : List Int) : Tk (c :: r) = if c % 10 = 0 then Tk r else match body (c % 10) r with
    | none => []
    | some (s, r') => s :: Tk r' := by
  show TF (r.length + 1) (c :: r) = _
  simp only [TF]
  split
  · rfl
  · split
    · rename_i hb; rfl
    · rename_i s r' hb
      have := body_len hb
      unfold Tk
      rw [TF_more r.length r'.length r' (by omega) (Nat.le_refl _)]
theorem takeLoop {f : List St × List Int × Bool → Option ((List St × List Int × Bool) ⊕ List St)}
    (h0 : ∀ l e, f (l, [], e) = some (.inr l)) (h1 : ∀ l b, f (l, b, true) = some (.inr l))
    (h2 : ∀ l c r, c % 10 = 0 → 0 ≤ c → c ≤ 255 → f (l, c :: r, false) = some (.inl (l, r, false)))
    (h3 : ∀ l c r s r', l.length ≤ 2000 → r.length ≤ 1000 → U8 (c :: r) → ¬ c % 10 = 0 → body (c % 10) r = some (s, r') → f (l, c :: r, false) = some (.inl (l ++ [s], r', false)))
    (h4 : ∀ l c r, r.length ≤ 1000 → U8 (c :: r) → ¬ c % 10 = 0 → body (c % 10) r = none → ∃ b', f (l, c :: r, false) = some (.inl (l, b', true))) :
    ∀ (k N : Nat) (l : List St) (b : List Int), k + 1 < N → b.length ≤ k → b.length ≤ 1000 → l.length + k ≤ 2000 → U8 b → loopN N f (l, b, false) = some (l ++ TF k b)
  | k, 0, l, b, hN, _, _, _, _ => by omega
  | 0, N + 1, l, [], _, _, _, _, _ => by simp only [loopN, h0, TF, List.append_nil]
  | 0, N + 1, l, c :: r, _, h, _, _, _ => by simp at h
  | k + 1, N + 1, l, [], _, _, _, _, _ => by simp only [loopN, h0, TF, List.append_nil]
  | k + 1, N + 1, l, c :: r, hN, hk, hb, hl, hU => by
    simp only [List.length_cons] at hk hb
    have hc := hU c (by simp)
    have hUr : U8 r := fun n hn => hU n (by simp [hn])
    simp only [TF]
    by_cases e : c % 10 = 0
    · rw [if_pos e]
      simp only [loopN, h2 l c r e hc.1 hc.2]
      exact takeLoop h0 h1 h2 h3 h4 k N l r (by omega) (by omega) (by omega) (by omega) hUr
    · rw [if_neg e]
      cases hb2 : body (c % 10) r with
      | none =>
        obtain ⟨b', h5⟩ := h4 l c r (by omega) hU e hb2
        obtain ⟨N', rfl⟩ : ∃ N', N = N' + 1 := ⟨N - 1, by omega⟩
        simp only [loopN, h5, h1 l b', List.append_nil]
      | some p =>
        obtain ⟨s, r'⟩ := p
        have h5 := h3 l c r s r' (by omega) (by omega) hU e hb2
        have h6 := body_len hb2
        have hU' : U8 r' := fun n hn => hUr n (by
          have hk9 : 1 ≤ c % 10 ∧ c % 10 ≤ 9 := by omega
          unfold body at hb2
          have suf : ∀ {v : Int} {a b : List Int}, nu a = some (v, b) → ∀ n ∈ b, n ∈ a := by
            intro v a b h n hn
            unfold nu at h
            split at h
            · injection h with h; injection h with _ h; rw [← h] at hn; exact List.mem_of_mem_drop hn
            · cases h
          have sut : ∀ {v : List UInt8} {a b : List Int}, tx a = some (v, b) → ∀ n ∈ b, n ∈ a := by
            intro v a b h n hn
            unfold tx at h
            split at h
            · split at h
              · cases h
              · injection h with h; injection h with _ h; rw [← h] at hn; exact List.mem_of_mem_drop hn
            · cases h
          split at hb2
          · obtain ⟨⟨v, b1⟩, e1, h⟩ := bind_ex hb2
            obtain ⟨⟨t, b2⟩, e2, h⟩ := bind_ex h
            injection h with h; injection h with h h2
            rw [← h2] at hn
            exact suf e1 n (sut e2 n hn)
          split at hb2
          · obtain ⟨⟨t, b2⟩, e2, h⟩ := bind_ex hb2
            injection h with h; injection h with h h2
            rw [← h2] at hn
            exact sut e2 n hn
          split at hb2
          · obtain ⟨⟨v, b1⟩, e1, h⟩ := bind_ex hb2
            obtain ⟨⟨t, b2⟩, e2, h⟩ := bind_ex h
            injection h with h; injection h with h h2
            rw [← h2] at hn
            exact suf e1 n (suf e2 n hn)
          split at hb2 <;>
          · obtain ⟨⟨v, b1⟩, e1, h⟩ := bind_ex hb2
            injection h with h; injection h with h h2
            rw [← h2] at hn
            exact suf e1 n hn)
        simp only [loopN, h5]
        rw [takeLoop h0 h1 h2 h3 h4 k N (l ++ [s]) r' (by omega) (by omega) (by omega) (by simp only [List.length_append, List.length_singleton]; omega) hU', List.append_assoc, List.singleton_append]
theorem Take_spec (N : Nat) (hN : 2000 ≤ N) (b : List Int) (hb : b.length ≤ 1000) (hU : U8 b) : W_ops_Take N b = some (Tk b) := by
  unfold W_ops_Take
  rw [takeLoop (k := b.length) (l := []) (b := b)]
  · rw [List.nil_append, obind_s]; rfl
  · intro l e
    simp only [List.length_nil]
    rw [dF (by omega), cnd_f]
  · intro l b
    simp only [Bool.not_true, cnd_f]
    cases decide ((0 : Int) < (b.length : Int)) <;> rfl
  · intro l c r h hc hc2
    simp only [List.length_cons, Bool.not_false, cnd_t]
    rw [dT (by omega), cnd_t, dT (by omega), Bool.and_self, cnd_t, dT (by omega), dT (by omega), Bool.and_self, cnd_t]
    rw [show (c :: r).getD 0 0 = c from rfl, wr_i32 (by omega) (by omega), Int.tmod_eq_emod_of_nonneg hc, dT h, cnd_t]
    simp
  · intro l c r s r' hl hr hU2 h hb2
    have hc := hU2 c (by simp)
    simp only [List.length_cons, Bool.not_false, cnd_t]
    rw [dT (by omega), cnd_t, dT (by omega), Bool.and_self, cnd_t, dT (by omega), dT (by omega), Bool.and_self, cnd_t]
    rw [show (c :: r).getD 0 0 = c from rfl, wr_i32 (by omega) (by omega), Int.tmod_eq_emod_of_nonneg hc.1, dF h, cnd_f]
    have e : List.drop 1 (List.take (r.length + 1) (c :: r)) = r := by simp
    rw [e, step_some N (by omega) (by omega) hr (fun n hn => hU2 n (by simp [hn])) hb2, obind_s]
    simp only [Bool.not_false, cnd_t, List.length_cons, List.length_nil]
    rw [dT (by omega), cnd_t]
  · intro l c r hr hU2 h hb2
    have hc := hU2 c (by simp)
    have hUr : U8 r := fun n hn => hU2 n (by simp [hn])
    simp only [List.length_cons, Bool.not_false, cnd_t]
    rw [dT (by omega), cnd_t, dT (by omega), Bool.and_self, cnd_t, dT (by omega), dT (by omega), Bool.and_self, cnd_t]
    rw [show (c :: r).getD 0 0 = c from rfl, wr_i32 (by omega) (by omega), Int.tmod_eq_emod_of_nonneg hc.1, dF h, cnd_f]
    have e : List.drop 1 (List.take (r.length + 1) (c :: r)) = r := by simp
    obtain ⟨b', s, h5⟩ := step_none N (by omega) (k := c % 10) (by omega) hr hUr hb2
    rw [e, h5, obind_s]
    simp only [Bool.not_true, cnd_f]
    exact ⟨_, rfl⟩
  · omega
  · exact Nat.le_refl _
  · exact hb
  · simp only [List.length_nil]; omega
  · exact hU
/-- A step as bytes. -/
def es (s : St) : List Int := s.1 :: pay s
theorem es_pos (s : St) : 0 < (es s).length := by simp [es]
theorem pay_U8 {s : St} (h : Good s) : U8 (pay s) := by
  cases h with
  | join a t h1 h2 => exact U8_app (enc_U8 h1.1 h1.2).1 (U8_app (enc_U8 (by omega) (by simp only; omega)).1 (by8_U8 t))
  | pub t h2 => exact U8_app (enc_U8 (by omega) (by simp only; omega)).1 (by8_U8 t)
  | turned i o h1 h2 => exact U8_app (enc_U8 h1.1 h1.2).1 (enc_U8 h2.1 h2.2).1
  | fly k i hk h1 =>
    simp only [pay]
    rw [if_neg (by omega), if_neg (by omega), if_neg (by omega), if_pos hk]
    exact (enc_U8 h1.1 h1.2).1
  | one k i hk h1 =>
    simp only [pay]
    rw [if_neg (by omega), if_neg (by omega), if_neg (by omega), if_neg (by omega)]
    exact (enc_U8 h1.1 h1.2).1
theorem es_U8 {s : St} (h : Good s) : U8 (es s) := by
  intro n hn
  rcases List.mem_cons.1 hn with rfl | hn
  · have := h.kind; omega
  · exact pay_U8 h n hn
theorem pay_len {s : St} (h : Good s) : (pay s).length ≤ 300 := by
  cases h with
  | join a t h1 h2 =>
    have q1 := (enc_U8 h1.1 h1.2).2.1
    have q2 := (enc_U8 (v := (t.length : Int)) (by omega) (by omega)).2.1
    show (enc a ++ (enc t.length ++ by8 t)).length ≤ 300
    simp only [List.length_append, by8, List.length_map]; omega
  | pub t h2 =>
    have q2 := (enc_U8 (v := (t.length : Int)) (by omega) (by omega)).2.1
    show (enc t.length ++ by8 t).length ≤ 300
    simp only [List.length_append, by8, List.length_map]; omega
  | turned i o h1 h2 =>
    have q1 := (enc_U8 h1.1 h1.2).2.1
    have q2 := (enc_U8 h2.1 h2.2).2.1
    show (enc i ++ enc o).length ≤ 300
    simp only [List.length_append]; omega
  | fly k i hk h1 =>
    have q1 := (enc_U8 h1.1 h1.2).2.1
    simp only [pay]
    rw [if_neg (by omega), if_neg (by omega), if_neg (by omega), if_pos hk]
    omega
  | one k i hk h1 =>
    have q1 := (enc_U8 h1.1 h1.2).2.1
    simp only [pay]
    rw [if_neg (by omega), if_neg (by omega), if_neg (by omega), if_neg (by omega)]
    omega
theorem Tk_es {s : St} (h : Good s) (r : List Int) : Tk (es s ++ r) = s :: Tk r := by
  have hk := h.kind
  show Tk (s.1 :: (pay s ++ r)) = _
  have e : s.1 % 10 = s.1 := by omega
  rw [Tk_cons, if_neg (by omega), e, body_pay h]
theorem Tk_flat : ∀ (l : List St) (r : List Int), (∀ s ∈ l, Good s) → Tk (l.flatMap es ++ r) = l ++ Tk r
  | [], r, _ => rfl
  | s :: l, r, h => by
    rw [List.flatMap_cons, List.append_assoc, Tk_es (h s (by simp)), Tk_flat l r (fun s hs => h s (by simp [hs]))]
    rfl
theorem Tk_flat0 (l : List St) (h : ∀ s ∈ l, Good s) : Tk (l.flatMap es) = l := by
  have := Tk_flat l [] h
  rwa [List.append_nil, Tk_nil, List.append_nil] at this
theorem Tk_cut : ∀ (l : List St) (j : Nat), (∀ s ∈ l, Good s) → j < (l.flatMap es).length → ∃ m, m < l.length ∧ Tk ((l.flatMap es).take j) = l.take m
  | [], j, _, hj => by simp at hj
  | s :: l, j, h, hj => by
    rw [List.flatMap_cons] at hj ⊢
    have hs := h s (by simp)
    have hk := hs.kind
    by_cases c : j < (es s).length
    · refine ⟨0, by simp, ?_⟩
      rw [List.take_append_of_le_length (by omega), List.take_zero]
      cases j with
      | zero => rfl
      | succ j =>
        show Tk ((s.1 :: pay s).take (j + 1)) = []
        have e : s.1 % 10 = s.1 := by omega
        rw [List.take_succ_cons, Tk_cons, if_neg (by omega), e, body_cut hs (by simp only [es, List.length_cons] at c; omega)]
    · obtain ⟨m, h1, h2⟩ := Tk_cut l (j - (es s).length) (fun s hs => h s (by simp [hs])) (by rw [List.length_append] at hj; omega)
      refine ⟨m + 1, by simp only [List.length_cons]; omega, ?_⟩
      rw [take_over (by omega), Tk_es hs, h2, List.take_succ_cons]
theorem Tk_good : ∀ (n : Nat) (b : List Int), b.length ≤ n → b.length ≤ 200 → U8 b → (∀ s ∈ Tk b, Good s) ∧ ((Tk b).flatMap es).length ≤ b.length
  | 0, [], _, _, _ => ⟨fun s hs => by simp [Tk_nil] at hs, by simp [Tk_nil]⟩
  | _ + 1, [], _, _, _ => ⟨fun s hs => by simp [Tk_nil] at hs, by simp [Tk_nil]⟩
  | 0, c :: r, h, _, _ => by simp at h
  | n + 1, c :: r, h, h2, hU => by
    simp only [List.length_cons] at h h2
    have hc := hU c (by simp)
    have hUr : U8 r := fun n hn => hU n (by simp [hn])
    rw [Tk_cons]
    split
    · obtain ⟨g1, g2⟩ := Tk_good n r (by omega) (by omega) hUr
      exact ⟨g1, by simp only [List.length_cons]; omega⟩
    · cases hb : body (c % 10) r with
      | none => exact ⟨fun s hs => by simp at hs, by simp⟩
      | some p =>
        obtain ⟨s, r'⟩ := p
        obtain ⟨g1, g2, g3⟩ := body_back (by omega) hUr (by omega) hb
        have hU' : U8 r' := fun n hn => hUr n (by rw [← g3]; simp [hn])
        have hl := congrArg List.length g3
        rw [List.length_append] at hl
        obtain ⟨g4, g5⟩ := Tk_good n r' (by omega) (by omega) hU'
        simp only
        refine ⟨fun x hx => ?_, ?_⟩
        · rcases List.mem_cons.1 hx with rfl | hx
          · exact g1
          · exact g4 x hx
        · simp only [List.flatMap_cons, List.length_append, es, List.length_cons] at g5 ⊢
          omega
theorem stEq_refl (s : St) : (decide (s.1 = s.1) && (decide (s.2.1 = s.2.1) && (decide (s.2.2.1 = s.2.2.1) && (decide (s.2.2.2.1 = s.2.2.2.1) && s.2.2.2.2 == s.2.2.2.2)))) = true := by simp
theorem bytesOf_tail (N : Nat) (hN : 2000 ≤ N) {s : St} (h : Good s) (d : St) : (obind (W_ops_Take N (es s)) fun (b_1 : List St) =>
    cnd (decide ((↑(List.length b_1) : Int) ≠ (1 : Int))) (some ([] : List Int))
      (cnd (decide ((0 : Int) ≤ (0 : Int)) && decide ((0 : Int) < (↑(List.length b_1) : Int)))
        (cnd
          (!(decide ((List.getD b_1 (0 : Nat) d).1 = s.1) && (decide ((List.getD b_1 (0 : Nat) d).2.1 = s.2.1) && (decide ((List.getD b_1 (0 : Nat) d).2.2.1 = s.2.2.1) && (decide ((List.getD b_1 (0 : Nat) d).2.2.2.1 = s.2.2.2.1) && (List.getD b_1 (0 : Nat) d).2.2.2.2 == s.2.2.2.2)))))
          (some []) (some (es s)))
        none)) = some (es s) := by
  have hl := pay_len h
  have e : Tk (es s) = [s] := by
    have := Tk_es h []
    rwa [List.append_nil, Tk_nil] at this
  rw [Take_spec N hN _ (by simp only [es, List.length_cons]; omega) (es_U8 h), obind_s, e]
  have g : List.getD [s] 0 d = s := rfl
  rw [g, stEq_refl]
  simp only [List.length_singleton, Bool.not_true, cnd_f]
  rw [dF (by omega), cnd_f, dT (by omega), dT (by omega), Bool.and_self, cnd_t]
theorem bytesOf_spec (N : Nat) (hN : 2000 ≤ N) {s : St} (h : Good s) : W_ops_bytesOf N s = some (es s) := by
  have tl := bytesOf_tail N hN h ((0 : Int), (0 : Int), (0 : Int), (0 : Int), [])
  have hk := h.kind
  unfold W_ops_bytesOf
  have w1 : wr .i32 s.1 = s.1 := wr_i32 (by omega) (by omega)
  have w2 : wr .u8 s.1 = s.1 := wr_u8 (by omega) (by omega)
  rw [w1, w2]
  clear w1 w2
  cases h with
  | join a t h1 h2 =>
    have q1 := (enc_U8 h1.1 h1.2).2.1
    simp only [Int.reduceEq, decide_true, decide_false, cnd_t, cnd_f, obind_s] at tl ⊢
    rw [Put_eq N (by omega) [1] a (by simp) h1.1 h1.2, obind_s, PutText_eq N (by omega) _ t (by simp only [List.length_append, List.length_cons, List.length_nil]; omega) h2, obind_s, obind_s]
    have e : es (1, a, 0, 0, t) = [1] ++ enc a ++ enc t.length ++ by8 t := by simp only [es, pay, if_true, List.append_assoc, List.cons_append, List.nil_append]
    rw [← e]
    exact tl
  | pub t h2 =>
    simp only [Int.reduceEq, decide_true, decide_false, cnd_t, cnd_f, obind_s] at tl ⊢
    rw [PutText_eq N (by omega) [4] t (by simp) h2, obind_s, obind_s]
    have e : es (4, 0, 0, 0, t) = [4] ++ enc t.length ++ by8 t := by simp only [es, pay, if_true, List.append_assoc, List.cons_append, List.nil_append]; rfl
    rw [← e]
    exact tl
  | turned i o h1 h2 =>
    have q1 := (enc_U8 h1.1 h1.2).2.1
    simp only [Int.reduceEq, decide_true, decide_false, cnd_t, cnd_f, obind_s] at tl ⊢
    rw [Put_eq N (by omega) [9] i (by simp) h1.1 h1.2, obind_s, Put_eq N (by omega) _ o (by simp only [List.length_append, List.length_cons, List.length_nil]; omega) h2.1 h2.2, obind_s, obind_s]
    have e : es (9, 0, i, o, []) = [9] ++ enc i ++ enc o := by simp only [es, pay, if_true, List.append_assoc, List.cons_append, List.nil_append]; rfl
    rw [← e]
    exact tl
  | fly k i hk2 h1 =>
    have e : es (k, 0, i, 0, []) = [k] ++ enc i := by
      simp only [es, pay]
      rw [if_neg (by omega), if_neg (by omega), if_neg (by omega), if_pos hk2]; rfl
    rcases hk2 with hk2 | hk2 | hk2 <;> subst hk2 <;>
    · simp only [Int.reduceEq, decide_true, decide_false, cnd_t, cnd_f, obind_s] at tl ⊢
      rw [Put_eq N (by omega) _ i (by simp) h1.1 h1.2, obind_s]
      rw [← e]
      exact tl
  | one k i hk2 h1 =>
    have e : es (k, i, 0, 0, []) = [k] ++ enc i := by
      simp only [es, pay]
      rw [if_neg (by omega), if_neg (by omega), if_neg (by omega), if_neg (by omega)]; rfl
    rcases hk2 with hk2 | hk2 | hk2 <;> subst hk2 <;>
    · simp only [Int.reduceEq, decide_true, decide_false, cnd_t, cnd_f, obind_s] at tl ⊢
      rw [Put_eq N (by omega) _ i (by simp) h1.1 h1.2, obind_s]
      rw [← e]
      exact tl
theorem putLoopS (N : Nat) (x : List St) (F : List St → Option (List Int)) {f : Int × List Int → Option ((Int × List Int) ⊕ List Int)} (hx : x.length ≤ 1000)
    (h0 : ∀ b, f ((x.length : Int), b) = some (.inr b)) (h1 : ∀ (i : Nat) b, i < x.length → b.length ≤ 400000 → f ((i : Int), b) = some (.inl ((i : Int) + 1, b ++ es (x.getD i ((0 : Int), (0 : Int), (0 : Int), (0 : Int), [])))))
    (hb : ∀ s ∈ x, (es s).length ≤ 301) : ∀ (k i M : Nat) (b : List Int), i + k = x.length → k < M → b.length ≤ i * 301 → loopN M f ((i : Int), b) = some (b ++ (x.drop i).flatMap es)
  | 0, i, 0, b, _, hM, _ => by omega
  | 0, i, M + 1, b, hi, _, _ => by
    have : i = x.length := by omega
    subst this
    simp only [loopN, h0, List.drop_length, List.flatMap_nil, List.append_nil]
  | k + 1, i, 0, b, _, hM, _ => by omega
  | k + 1, i, M + 1, b, hi, hM, hbl => by
    have hix : i < x.length := by omega
    have e : x.getD i ((0 : Int), (0 : Int), (0 : Int), (0 : Int), []) = x[i] := by rw [List.getD_eq_getElem?_getD, List.getElem?_eq_getElem hix]; rfl
    have hl := hb x[i] (List.getElem_mem hix)
    simp only [loopN, h1 i b hix (by omega)]
    rw [show (i : Int) + 1 = ((i + 1 : Nat) : Int) by omega, e, putLoopS N x F hx h0 h1 hb k (i + 1) M _ (by omega) (by omega) (by rw [List.length_append]; omega), List.append_assoc, List.drop_eq_getElem_cons hix, List.flatMap_cons]
theorem Put_spec (N : Nat) (hN : 2000 ≤ N) (x : List St) (hx : x.length ≤ 1000) (h : ∀ s ∈ x, Good s) : W_ops_Put N x = some (x.flatMap es) := by
  unfold W_ops_Put
  rw [show ((0 : Int), ([] : List Int)) = (((0 : Nat) : Int), []) from rfl, putLoopS N x (fun _ => none) hx _ _ (fun s hs => by have := pay_len (h s hs); simp only [es, List.length_cons]; omega) x.length 0 N [] (by omega) (by omega) (by simp), obind_s, List.drop_zero, List.nil_append]
  · intro b
    simp only
    rw [dF (by omega), cnd_f]
  · intro i b hi hb
    simp only [Int.toNat_natCast]
    have e : x.getD i ((0 : Int), (0 : Int), (0 : Int), (0 : Int), []) = x[i] := by rw [List.getD_eq_getElem?_getD, List.getElem?_eq_getElem hi]; rfl
    have hg := h x[i] (List.getElem_mem hi)
    have hl := pay_len hg
    rw [dT (by omega), cnd_t, dT (by omega), Bool.true_and, cnd_t]
    have hs := bytesOf_spec N hN hg
    rw [← e] at hs hl
    rw [show (Prod.fst (x.getD i ((0 : Int), (0 : Int), (0 : Int), (0 : Int), [])), Prod.fst (Prod.snd (x.getD i ((0 : Int), (0 : Int), (0 : Int), (0 : Int), []))), Prod.fst (Prod.snd (Prod.snd (x.getD i ((0 : Int), (0 : Int), (0 : Int), (0 : Int), [])))), Prod.fst (Prod.snd (Prod.snd (Prod.snd (x.getD i ((0 : Int), (0 : Int), (0 : Int), (0 : Int), []))))), Prod.snd (Prod.snd (Prod.snd (Prod.snd (x.getD i ((0 : Int), (0 : Int), (0 : Int), (0 : Int), [])))))) = x.getD i ((0 : Int), (0 : Int), (0 : Int), (0 : Int), []) from rfl, hs, obind_s]
    rw [dT (by simp only [es, List.length_cons]; omega), cnd_t, wr_m (by omega) (by omega)]
theorem Same_refl (N : Nat) (hN : 2000 ≤ N) (l : List St) (hl : l.length ≤ 1000) : W_ref10_SameSteps N (l, l) = some true := by
  unfold W_ref10_SameSteps
  simp only [ne_eq, not_true_eq_false, decide_false, cnd_f]
  refine obind_loop (fun v : Int => ∃ i : Nat, v = i ∧ i ≤ l.length) (fun v => l.length - v.toNat) (fun r : PUnit ⊕ Bool => r = .inl ()) ⟨0, rfl, Nat.zero_le _⟩ (by show l.length - (Int.ofNat 0).toNat < N; omega) ?_ ?_
  · rintro r rfl
    rw [selim_l]
  · rintro v ⟨i, rfl, hi⟩
    by_cases h : i < l.length
    · left
      rw [dT (by omega), cnd_t, dT (by omega), Bool.and_self, cnd_t, cnd_t]
      simp only [decide_true, beq_self_eq_true, Bool.and_self, Bool.not_true, cnd_f]
      rw [wr_m (by omega) (by omega)]
      exact ⟨_, rfl, ⟨i + 1, by omega, by omega⟩, by omega⟩
    · right
      rw [dF (by omega), cnd_f]
      exact ⟨_, rfl, rfl⟩
theorem flat_U8 {l : List St} (h : ∀ s ∈ l, Good s) : U8 (l.flatMap es) := by
  intro n hn
  obtain ⟨s, hs, hn⟩ := List.mem_flatMap.1 hn
  exact es_U8 (h s hs) n hn
theorem flat_len : ∀ (l : List St), l.length ≤ (l.flatMap es).length
  | [] => by simp
  | s :: l => by have := flat_len l; simp only [List.flatMap_cons, List.length_append, List.length_cons, es]; omega
def zs (n i : Nat) : List Int := (List.range n).map fun j : Nat => 10 * ((i : Int) + (j : Int))
theorem zs_succ (n i : Nat) : zs (n + 1) i = 10 * (i : Int) :: zs n (i + 1) := by
  unfold zs
  rw [List.range_succ_eq_map, List.map_cons, List.map_map]
  simp only [Int.natCast_zero, Int.add_zero]
  congr 1
  apply List.map_congr_left
  intro j _
  show 10 * ((i : Int) + ((j + 1 : Nat) : Int)) = 10 * (((i + 1 : Nat) : Int) + (j : Int))
  omega
theorem Tk_zs : ∀ (n i : Nat) (r : List Int), Tk (zs n i ++ r) = Tk r
  | 0, i, r => rfl
  | n + 1, i, r => by rw [zs_succ, List.cons_append, Tk_cons, if_pos (by omega), Tk_zs n (i + 1) r]
theorem zLoop {f : Int × List Int → Option ((Int × List Int) ⊕ List Int)} (n : Nat) (hn : n ≤ 8) (h0 : ∀ b, f ((n : Int), b) = some (.inr b)) (h1 : ∀ (i : Nat) b, i < n → b.length ≤ 1000 → f ((i : Int), b) = some (.inl ((i : Int) + 1, b ++ [10 * (i : Int)]))) :
    ∀ (k i M : Nat) (b : List Int), i + k = n → k < M → b.length + k ≤ 1000 → loopN M f ((i : Int), b) = some (b ++ zs k i)
  | 0, i, 0, b, _, hM, _ => by omega
  | 0, i, M + 1, b, hi, _, _ => by
    have : i = n := by omega
    subst this
    simp only [loopN, h0, zs, List.range_zero, List.map_nil, List.append_nil]
  | k + 1, i, 0, b, _, hM, _ => by omega
  | k + 1, i, M + 1, b, hi, hM, hb => by
    simp only [loopN, h1 i b (by omega) (by omega)]
    rw [show (i : Int) + 1 = ((i + 1 : Nat) : Int) by omega, zLoop n hn h0 h1 k (i + 1) M _ (by omega) (by omega) (by simp only [List.length_append, List.length_singleton]; omega), List.append_assoc, zs_succ]
    rfl
theorem zs_U8 (n i : Nat) (h : n + i ≤ 9) : U8 (zs n i) := by
  intro x hx
  obtain ⟨j, hj, rfl⟩ := List.mem_map.1 hx
  have := List.mem_range.1 hj
  omega
theorem bytesI_app (a b : List Int) : bytesI (a ++ b) = bytesI a ++ bytesI b := by simp [bytesI]
theorem law_aux (N : Nat) (hN : 2000 ≤ N) (a b : List Int) (n : Int) (ha : U8 a) (hb : U8 b) (hn : 0 ≤ n ∧ n ≤ 255) : W_law25_OpsJoins N (a, b, n) = some true := by
  unfold W_law25_OpsJoins
  simp only
  by_cases c1 : (100 : Int) < a.length
  · rw [dT c1, cnd_t]
  rw [dF c1, cnd_f]
  by_cases c2 : (100 : Int) < b.length
  · rw [dT c2, cnd_t]
  rw [dF c2, cnd_f, Take_spec N hN a (by omega) ha, obind_s, Take_spec N hN b (by omega) hb, obind_s]
  obtain ⟨g1, g2⟩ := Tk_good a.length a (Nat.le_refl _) (by omega) ha
  have g3 := flat_len (Tk a)
  obtain ⟨k1, k2⟩ := Tk_good b.length b (Nat.le_refl _) (by omega) hb
  have k3 := flat_len (Tk b)
  generalize Tk a = l at *
  generalize Tk b = m at *
  have hg : ∀ s ∈ l ++ m, Good s := fun s hs => (List.mem_append.1 hs).elim (g1 s) (k1 s)
  have hU1 := flat_U8 g1
  have hU2 := flat_U8 k1
  rw [dT (by omega), cnd_t, dT (by omega), cnd_t, Put_spec N hN l (by omega) g1, obind_s, Put_spec N hN m (by omega) k1, obind_s, dT (by omega), cnd_t]
  rw [Int.tmod_eq_emod_of_nonneg hn.1]
  have q0 : 0 ≤ n % 9 ∧ n % 9 < 9 := by omega
  have w1 : wr .i64 (n % 9) = n % 9 := wr_m (by omega) (by omega)
  rw [w1]
  obtain ⟨z, hz⟩ : ∃ z : Nat, n % 9 = z := ⟨(n % 9).toNat, by omega⟩
  rw [hz] at q0 ⊢
  clear hz w1
  rw [show ((0 : Int), List.flatMap es l) = (((0 : Nat) : Int), List.flatMap es l) from rfl, zLoop z (by omega) _ _ z 0 N _ (by omega) (by omega) (by omega), obind_s]
  rotate_left
  · intro b
    simp only
    rw [dF (by omega), cnd_f]
  · intro i b hi hb
    simp only
    have w2 : wr .i64 (10 * (i : Int)) = 10 * (i : Int) := wr_m (by omega) (by omega)
    have w3 : wr .u8 (10 * (i : Int)) = 10 * (i : Int) := wr_u8 (by omega) (by omega)
    rw [dT (by omega), cnd_t, w2, w3, dT (by simp only [List.length_cons, List.length_nil]; omega), cnd_t, wr_m (by omega) (by omega)]
  have hzl : (zs z 0).length = z := by simp [zs]
  have hzU := zs_U8 z 0 (by omega)
  rw [dT (by simp only [List.length_append, hzl]; omega), cnd_t, Take_spec N hN _ (by simp only [List.length_append, hzl]; omega) (U8_app (U8_app hU1 hzU) hU2), obind_s, List.append_assoc, Tk_flat l _ g1, Tk_zs, Tk_flat0 m k1]
  rw [Same_refl N hN _ (by simp only [List.length_append]; omega), obind_s, cnd_t, Put_spec N hN _ (by simp only [List.length_append]; omega) hg, obind_s, U8_all (flat_U8 hg), cnd_t, U8_all hU1, cnd_t, U8_all hU2, cnd_t, dT (by simp only [bytesI, List.length_map]; omega), cnd_t, List.flatMap_append, bytesI_app, BEq.rfl]
def NN : Nat := 2000
theorem law_true (y0 : List Int) (y1 : List Int) (y2 : Int) (h0 : Twf (.list (.int .u8)) y0) (h1 : Twf (.list (.int .u8)) y1) (h2 : Twf (.int .u8) y2) : W_law25_OpsJoins NN (y0, y1, y2) = some true :=
  law_aux NN (Nat.le_refl _) y0 y1 y2 h0.2 h1.2 h2

theorem spec (y0 : List Int) (y1 : List Int) (y2 : Int) (h0 : Twf (.list (.int .u8)) y0) (h1 : Twf (.list (.int .u8)) y1) (h2 : Twf (.int .u8) y2) : Spec2 P0 9 [valW (.list (.int .u8)) y0, valW (.list (.int .u8)) y1, valW (.int .u8) y2] [] (.bs true) [] [] := (con_law25_OpsJoins_ok NN).2 (y0, y1, y2) true (law_true y0 y1 y2 h0 h1 h2)
theorem lifted (os : Os) (started : os.Started) (H : Type) (enc : TypeId × Value → H) :
    ReturnsInHanded {} Try.checked os 9 .any (Rows.opsJoinsSpec.pre6 enc Try.prog Try.f9 Rows.opsJoinsRow.domain false) (Rows.opsJoinsSpec.post enc Try.prog Try.f9 false true false false) := by
  refine returnsInHanded_of_change (C := Try.checked) own started (by kernel_rfl) Try.func9
    (ChangeSpec.witness6 (enc := enc) (C := Try.checked) false ⟨#[], #[.slice none 0 0, .slice none 0 0, .int .u8 0], []⟩ 8 (by kernel_rfl) (by kernel_rfl) (by kernel_rfl) (by kernel_rfl)) ?_
  intro W base args ds gs before hval0 hW hcnd _
  have hval : ∀ (j : Nat) t v, Try.f9.params[j]? = some t → args[j]? = some v → Value.okWide Try.prog W .any base t v := hval0
  have hW' := hW
  obtain ⟨p, q, hA0, hV, rfl, hfz, hnd⟩ := hW
  have hA : DataW.TrodAll enc Try.prog W 0 (fun _ => true) true Try.f9.params.toList args.toList ds p := hA0
  rw [Try.params9] at hA hval
  obtain ⟨v0, vs0, d0, ds0, p0, q0, hargs, rfl, rfl, h0, r0⟩ := trodAll_cons hA
  obtain ⟨v1, vs1, d1, ds1, p1, q1, rfl, rfl, rfl, h1, r1⟩ := trodAll_cons r0
  obtain ⟨v2, vs2, d2, ds2, p2, q2, rfl, rfl, rfl, h2, r2⟩ := trodAll_cons r1
  obtain ⟨rfl, rfl, rfl⟩ := trodAll_nil r2
  obtain rfl : args = #[v0, v1, v2] := by cases args; simp_all
  obtain ⟨rfl, rfl⟩ := trodVars_none hV
  have k0 := h0
  have lt0 : ∀ x ∈ p0, x.block < W.heap.size := by obtain ⟨m, hm⟩ := k0; exact DataW.trod_lt m _ _ _ hm
  obtain ⟨y0, rp0, wf0⟩ := arg_ok (n := 12) (ty := (.list (.int .u8))) (by kernel_rfl) (hval 0 _ v0 rfl rfl) h0
  have k1 := h1
  have lt1 : ∀ x ∈ p1, x.block < W.heap.size := by obtain ⟨m, hm⟩ := k1; exact DataW.trod_lt m _ _ _ hm
  obtain ⟨y1, rp1, wf1⟩ := arg_ok (n := 12) (ty := (.list (.int .u8))) (by kernel_rfl) (hval 1 _ v1 rfl rfl) h1
  have k2 := h2
  have lt2 : ∀ x ∈ p2, x.block < W.heap.size := by obtain ⟨m, hm⟩ := k2; exact DataW.trod_lt m _ _ _ hm
  obtain ⟨y2, rp2, wf2⟩ := arg_ok (n := 12) (ty := (.int .u8)) (by kernel_rfl) (hval 2 _ v2 rfl rfl) h2
  clear hA0 hval0
  refine (law_of2 (spec y0 y1 y2 wf0 wf1 wf2) W #[v0, v1, v2] (.cons rp0 (.cons rp1 (.cons rp2 .nil)))).mono fun e W' ⟨he, bel⟩ => ?_
  subst he
  exact ⟨_, rfl, _, _, _, [], _, [], hW', trodAll_mk1 (shut_bool Try.underlying4 _), (trodAll_cons_mk (Below.trod laidOut (by kernel_rfl) (of_decide_eq_true (by kernel_rfl)) k0 bel lt0) (trodAll_cons_mk (Below.trod laidOut (by kernel_rfl) (of_decide_eq_true (by kernel_rfl)) k1 bel lt1) (trodAll_cons_mk (Below.trod laidOut (by kernel_rfl) (of_decide_eq_true (by kernel_rfl)) k2 bel lt2) trodAll_mk0))), rfl, bel.frame _, fun h => by cases h⟩

theorem over : Rows.opsJoinsRow.holds Try.pinned (OpenSpec.ofChange Rows.opsJoinsSpec) :=
  OpenClaim.holds_of_wide 9 Try.f9 rfl rfl rfl rfl rfl rfl rfl ⟨rfl, rfl, rfl, rfl, rfl⟩ rfl rfl rfl rfl rfl (by kernel_rfl) Try.func9 (by kernel_rfl)
    (of_decide_eq_true (by kernel_rfl)) (by unfold Func.isWrapper; first | (rw [if_pos (by decide +kernel)]; kernel_rfl) | (rw [if_neg (by decide +kernel)]; exact ⟨rfl, rfl⟩))
    (fun os started H enc _ => lifted os started H enc)

theorem holds : Rows.OpsJoinsSaid := over
end Go.Proofs.Ytfgceflanjeejaa.opsJoinsX
