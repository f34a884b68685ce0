/- BitsBack: for all arguments the call returns true. The law is brought to a function of Lean's own (W_..) by the machine of the texts beside it, and that is reckoned; no condition. -/
import Derived.Test.YtnkalddmjdicfaaExtL
import Derived.Test.YtnkalddmjdicfaaRows
import Derived.WalkKit
import Derived.ProofKit
import Derived.OpenShut
import Derived.ShutString
import Derived.ChangeOld
import Derived.Below
namespace Go.Proofs.Ytnkalddmjdicfaa.bitsBackX
open Go.Abs Go.RowKit Go.ChangeShapes Go.WideShapes Go.ChangeAt
set_option maxRecDepth 100000
set_option linter.unusedVariables false
set_option linter.unusedSimpArgs false
noncomputable abbrev P0 : Program := Try.prog
noncomputable def bodyOf (fn : Func) : Code := fn.body.getD .skip
def L0 : Lend := fun f => aget [] [(73, [0])] f
def kpL (l : List Bool) : Nat → Bool := fun j => l.getD j true
theorem own : ownKnob Try.prog.godebug = none := by kernel_rfl
theorem laidOut : laidOutB Try.prog = true := by kernel_rfl
theorem mixed : P0.follows .mixedOrders = true := by decide +kernel
theorem progOk_ : progOk P0 = true := by decide +kernel
noncomputable def con_law11_begun (N : Nat) : Con := ⟨22, [], [], Unit, fun _ => some (), fun _ => (.bs true, [], [])⟩
theorem con_law11_begun_ok (N : Nat) : Con.ok P0 (con_law11_begun N) := closed_con2 (nonJ_ok _) mixed progOk_ (noneΞ_ok2 _) (inl := [73]) (breath := 100000) (n := 60) (by kernel_rfl)
def as_bytes_Clone : List AS := [.val (.list (.int .u8))]
def bs_bytes_Clone : List BS := []
def pout_bytes_Clone : Pat := ⟨[(2, .acc 700005)], [(700005, .nrow 5 (.int .u8) false true)]⟩
noncomputable def G_bytes_Clone  (N : Nat) : OrcT := orcOf []
noncomputable def F_bytes_Clone  (N : Nat) (x : List Int) : Option (List Int) :=
  (evT (G_bytes_Clone  N) L0 P0 []
    [] N 400 (bodyOf Try.f69) ⟨8, slots 0 [.nl ⟨(.int .u8), x⟩], tabU (lbOf as_bytes_Clone bs_bytes_Clone x) [], []⟩).elim (kRet 8 pout_bytes_Clone (kpL []) (lbOf as_bytes_Clone bs_bytes_Clone x))
def out_bytes_Clone (y : List Int) : V × List OK × List OK := (.acc 2000000 0, [], [.nrow 5 false true ⟨(.int .u8), y⟩])
noncomputable def V_bytes_Clone  (N : Nat) (x : List Int) : Option (List Int) :=
  cnd (decide (List.length x * (1 : Nat) ≤ (140737488355328 : Nat))) (some x) none
theorem FV_bytes_Clone_eq  (N : Nat) (x : List Int) : F_bytes_Clone  N x = V_bytes_Clone  N x := by kernel_rfl
noncomputable def W_bytes_Clone (N : Nat) (x : List Int) : Option (List Int) :=
  cnd (decide (List.length x * (1 : Nat) ≤ (140737488355328 : Nat))) (some x) none
theorem F_bytes_Clone_eq (N : Nat) (x : List Int) : F_bytes_Clone  N x = W_bytes_Clone N x := (FV_bytes_Clone_eq  N x).trans (by kernel_rfl)
noncomputable def conw_bytes_Clone (w : List Int → Option (List Int)) : Con := ⟨69, as_bytes_Clone, bs_bytes_Clone, List Int, w, out_bytes_Clone⟩
noncomputable def con_bytes_Clone (N : Nat) : Con := conw_bytes_Clone (W_bytes_Clone N)
theorem R_bytes_Clone_eq (x : List Int) (y : List Int) : retOf2 P0 Try.f69 (kpL []) (lbOf as_bytes_Clone bs_bytes_Clone x) (patS ⟨8, [], [], []⟩ pout_bytes_Clone y) = some (out_bytes_Clone y) := by kernel_rfl
noncomputable def FA_bytes_Clone : Option (List Int) := (evT (G_bytes_Clone 1) L0 P0 [] [] 1 400 (bodyOf Try.f69) ⟨8, slots 0 [.snil], tabU [] [], []⟩).elim (kRet 8 pout_bytes_Clone (kpL []) [])
theorem FA_bytes_Clone_eq : FA_bytes_Clone = some [] := by kernel_rfl
theorem WN_bytes_Clone (N : Nat) (r : List Int) (h : W_bytes_Clone N [] = some r) : r = [] := by
  have e : W_bytes_Clone N [] = some [] := by kernel_rfl
  rw [e] at h; injection h with h; exact h.symm
theorem con_bytes_Clone_ok (N : Nat) : Con.ok P0 (con_bytes_Clone N) := ⟨⟨Try.f69, Try.func69, by kernel_rfl, by kernel_rfl⟩, fun (x : List Int) (r : List Int) (hr : W_bytes_Clone N x = some r) =>
  clone_split (e := (.int .u8)) (ty := 5) (l := x) (r := r)
    (spec2_evT (Γ := G_bytes_Clone 1) (Λ := L0) (lb := []) (pout := pout_bytes_Clone) (kp := kpL []) mixed (orcOf_ok [] (by simp)) Try.func69 (c := bodyOf Try.f69) (by kernel_rfl) (by kernel_rfl) (of_decide_eq_true (by kernel_rfl)) FA_bytes_Clone_eq (R_bytes_Clone_eq x []))
    (spec2_evT (Γ := G_bytes_Clone N) (Λ := L0) (lb := []) (pout := pout_bytes_Clone) (kp := kpL []) mixed (orcOf_ok [] (by simp)) Try.func69 (c := bodyOf Try.f69) (by kernel_rfl) (by kernel_rfl) (of_decide_eq_true (by kernel_rfl)) ((F_bytes_Clone_eq N x).trans hr) (R_bytes_Clone_eq x r))
    (fun h => by subst h; exact WN_bytes_Clone N r hr)⟩
def as_bits_Put : List AS := [.val (.list (.int .u8)), .val (.int .i64)]
def bs_bits_Put : List BS := []
def pout_bits_Put : Pat := ⟨[(4, .acc 700007)], [(700007, .nrow 5 (.int .u8) false true)]⟩
noncomputable def G_bits_Put (w_bytes_Clone : List Int → Option (List Int)) (N : Nat) : OrcT := orcOf [conw_bytes_Clone w_bytes_Clone]
noncomputable def F_bits_Put (w_bytes_Clone : List Int → Option (List Int)) (N : Nat) (x : (List Int) × Int) : Option (List Int) :=
  (evT (G_bits_Put w_bytes_Clone N) L0 P0 [(4, .loop [] ⟨[(1, .val (.int .i64)), (5, .acc 700007)], [(700007, .nrow 5 (.int .u8) false true)]⟩ [(.exit 0, ⟨[(1, .val (.int .i64)), (5, .acc 700007)], [(700007, .nrow 5 (.int .u8) false true)]⟩)])]
    [] N 400 (bodyOf Try.f23) ⟨31, slots 0 (argsOf as_bits_Put bs_bits_Put x), tabU (lbOf as_bits_Put bs_bits_Put x) [], []⟩).elim (kRet 31 pout_bits_Put (kpL []) (lbOf as_bits_Put bs_bits_Put x))
def out_bits_Put (y : List Int) : V × List OK × List OK := (.acc 2000000 0, [], [.nrow 5 false true ⟨(.int .u8), y⟩])
noncomputable def V_bits_Put (w_bytes_Clone : List Int → Option (List Int)) (N : Nat) (x : (List Int) × Int) : Option (List Int) :=
  obind (w_bytes_Clone (Prod.fst x)) fun (b : List Int) =>
    cnd (decide (Prod.snd x < (0 : Int))) (some b)
      (cnd (decide ((1073741824 : Int) < Prod.snd x)) (some b)
        (obind
          (loopN N
            (fun (v : Int × List Int) =>
              cnd (decide ((128 : Int) ≤ Prod.fst v))
                (cnd
                  (decide
                    ((List.length (Prod.snd v) +
                          List.length
                            [wr IntKind.u8 (wr IntKind.i64 (Int.tmod (Prod.fst v) (128 : Int) + (128 : Int)))]) *
                        (1 : Nat) ≤
                      (140737488355328 : Nat)))
                  (some
                    (Sum.inl
                      (wr IntKind.i64 (Int.tdiv (Prod.fst v) (128 : Int)),
                        Prod.snd v ++
                          [wr IntKind.u8 (wr IntKind.i64 (Int.tmod (Prod.fst v) (128 : Int) + (128 : Int)))])))
                  none)
                (some (Sum.inr (Prod.fst v, Prod.snd v))))
            (Prod.snd x, b))
          fun (b : Int × List Int) =>
          cnd
            (decide
              ((List.length (Prod.snd b) + List.length [wr IntKind.u8 (Prod.fst b)]) * (1 : Nat) ≤
                (140737488355328 : Nat)))
            (some (Prod.snd b ++ [wr IntKind.u8 (Prod.fst b)])) none))
theorem FV_bits_Put_eq (w_bytes_Clone : List Int → Option (List Int)) (N : Nat) (x : (List Int) × Int) : F_bits_Put w_bytes_Clone N x = V_bits_Put w_bytes_Clone N x := by kernel_rfl
noncomputable def W_bits_Put (N : Nat) (x : (List Int) × Int) : Option (List Int) :=
  obind (W_bytes_Clone N (Prod.fst x)) fun (b : List Int) =>
    cnd (decide (Prod.snd x < (0 : Int))) (some b)
      (cnd (decide ((1073741824 : Int) < Prod.snd x)) (some b)
        (obind
          (loopN N
            (fun (v : Int × List Int) =>
              cnd (decide ((128 : Int) ≤ Prod.fst v))
                (cnd
                  (decide
                    ((List.length (Prod.snd v) +
                          List.length
                            [wr IntKind.u8 (wr IntKind.i64 (Int.tmod (Prod.fst v) (128 : Int) + (128 : Int)))]) *
                        (1 : Nat) ≤
                      (140737488355328 : Nat)))
                  (some
                    (Sum.inl
                      (wr IntKind.i64 (Int.tdiv (Prod.fst v) (128 : Int)),
                        Prod.snd v ++
                          [wr IntKind.u8 (wr IntKind.i64 (Int.tmod (Prod.fst v) (128 : Int) + (128 : Int)))])))
                  none)
                (some (Sum.inr (Prod.fst v, Prod.snd v))))
            (Prod.snd x, b))
          fun (b : Int × List Int) =>
          cnd
            (decide
              ((List.length (Prod.snd b) + List.length [wr IntKind.u8 (Prod.fst b)]) * (1 : Nat) ≤
                (140737488355328 : Nat)))
            (some (Prod.snd b ++ [wr IntKind.u8 (Prod.fst b)])) none))
theorem F_bits_Put_eq (N : Nat) (x : (List Int) × Int) : F_bits_Put (W_bytes_Clone N) N x = W_bits_Put N x := (FV_bits_Put_eq (W_bytes_Clone N) N x).trans (by kernel_rfl)
noncomputable def conw_bits_Put (w : (List Int) × Int → Option (List Int)) : Con := ⟨23, as_bits_Put, bs_bits_Put, List Int, w, out_bits_Put⟩
noncomputable def con_bits_Put (N : Nat) : Con := conw_bits_Put (W_bits_Put N)
theorem R_bits_Put_eq (x : (List Int) × Int) (y : List Int) : retOf2 P0 Try.f23 (kpL []) (lbOf as_bits_Put bs_bits_Put x) (patS ⟨31, [], [], []⟩ pout_bits_Put y) = some (out_bits_Put y) := by kernel_rfl
theorem con_bits_Put_ok (N : Nat) : Con.ok P0 (con_bits_Put N) := ⟨⟨Try.f23, Try.func23, by kernel_rfl, by kernel_rfl⟩, fun (x : (List Int) × Int) (r : List Int) (hr : W_bits_Put N x = some r) =>
  spec2_evT (Γ := G_bits_Put (W_bytes_Clone N) N) (Λ := L0) (pout := pout_bits_Put) (kp := kpL []) mixed (orcOf_ok _ (by simp only [List.mem_cons, List.not_mem_nil, or_false, forall_eq_or_imp, forall_eq]; exact con_bytes_Clone_ok N)) Try.func23 (c := bodyOf Try.f23) (by kernel_rfl) (by kernel_rfl) (of_decide_eq_true (by kernel_rfl)) ((F_bits_Put_eq N x).trans hr) (R_bits_Put_eq x r)⟩
def as_bits_PutText : List AS := [.val (.list (.int .u8)), .val .str]
def bs_bits_PutText : List BS := []
def pout_bits_PutText : Pat := ⟨[(4, .val (.list (.int .u8)))], []⟩
noncomputable def G_bits_PutText (w_bytes_Clone : List Int → Option (List Int)) (w_bits_Put : (List Int) × Int → Option (List Int)) (N : Nat) : OrcT := orcOf [conw_bytes_Clone w_bytes_Clone, conw_bits_Put w_bits_Put]
noncomputable def F_bits_PutText (w_bytes_Clone : List Int → Option (List Int)) (w_bits_Put : (List Int) × Int → Option (List Int)) (N : Nat) (x : (List Int) × List UInt8) : Option (List Int) :=
  (evT (G_bits_PutText w_bytes_Clone w_bits_Put N) L0 P0 []
    [] N 400 (bodyOf Try.f25) ⟨16, slots 0 (argsOf as_bits_PutText bs_bits_PutText x), tabU (lbOf as_bits_PutText bs_bits_PutText x) [], []⟩).elim (kRet 16 pout_bits_PutText (kpL []) (lbOf as_bits_PutText bs_bits_PutText x))
def out_bits_PutText (y : List Int) : V × List OK × List OK := (valW (.list (.int .u8)) y, [], [])
noncomputable def V_bits_PutText (w_bytes_Clone : List Int → Option (List Int)) (w_bits_Put : (List Int) × Int → Option (List Int)) (N : Nat) (x : (List Int) × List UInt8) : Option (List Int) :=
  cnd (decide ((1073741824 : Int) < (↑(List.length (Prod.snd x)) : Int)))
    (obind (w_bytes_Clone (Prod.fst x)) fun (b : List Int) => some b)
    (obind (w_bits_Put (Prod.fst x, (↑(List.length (Prod.snd x)) : Int))) fun (b : List Int) =>
      cnd
        (decide
          ((List.length b + List.length (List.map (fun (b : UInt8) => (↑(UInt8.toNat b) : Int)) (Prod.snd x))) * (1 : Nat) ≤
            (140737488355328 : Nat)))
        (some (b ++ List.map (fun (b : UInt8) => (↑(UInt8.toNat b) : Int)) (Prod.snd x))) none)
theorem FV_bits_PutText_eq (w_bytes_Clone : List Int → Option (List Int)) (w_bits_Put : (List Int) × Int → Option (List Int)) (N : Nat) (x : (List Int) × List UInt8) : F_bits_PutText w_bytes_Clone w_bits_Put N x = V_bits_PutText w_bytes_Clone w_bits_Put N x := by kernel_rfl
noncomputable def W_bits_PutText (N : Nat) (x : (List Int) × List UInt8) : Option (List Int) :=
  cnd (decide ((1073741824 : Int) < (↑(List.length (Prod.snd x)) : Int)))
    (obind (W_bytes_Clone N (Prod.fst x)) fun (b : List Int) => some b)
    (obind (W_bits_Put N (Prod.fst x, (↑(List.length (Prod.snd x)) : Int))) fun (b : List Int) =>
      cnd
        (decide
          ((List.length b + List.length (List.map (fun (b : UInt8) => (↑(UInt8.toNat b) : Int)) (Prod.snd x))) * (1 : Nat) ≤
            (140737488355328 : Nat)))
        (some (b ++ List.map (fun (b : UInt8) => (↑(UInt8.toNat b) : Int)) (Prod.snd x))) none)
theorem F_bits_PutText_eq (N : Nat) (x : (List Int) × List UInt8) : F_bits_PutText (W_bytes_Clone N) (W_bits_Put N) N x = W_bits_PutText N x := (FV_bits_PutText_eq (W_bytes_Clone N) (W_bits_Put N) N x).trans (by kernel_rfl)
noncomputable def conw_bits_PutText (w : (List Int) × List UInt8 → Option (List Int)) : Con := ⟨25, as_bits_PutText, bs_bits_PutText, List Int, w, out_bits_PutText⟩
noncomputable def con_bits_PutText (N : Nat) : Con := conw_bits_PutText (W_bits_PutText N)
theorem R_bits_PutText_eq (x : (List Int) × List UInt8) (y : List Int) : retOf2 P0 Try.f25 (kpL []) (lbOf as_bits_PutText bs_bits_PutText x) (patS ⟨16, [], [], []⟩ pout_bits_PutText y) = some (out_bits_PutText y) := by kernel_rfl
theorem con_bits_PutText_ok (N : Nat) : Con.ok P0 (con_bits_PutText N) := ⟨⟨Try.f25, Try.func25, by kernel_rfl, by kernel_rfl⟩, fun (x : (List Int) × List UInt8) (r : List Int) (hr : W_bits_PutText N x = some r) =>
  spec2_evT (Γ := G_bits_PutText (W_bytes_Clone N) (W_bits_Put N) N) (Λ := L0) (pout := pout_bits_PutText) (kp := kpL []) mixed (orcOf_ok _ (by simp only [List.mem_cons, List.not_mem_nil, or_false, forall_eq_or_imp, forall_eq]; exact ⟨con_bytes_Clone_ok N, con_bits_Put_ok N⟩)) Try.func25 (c := bodyOf Try.f25) (by kernel_rfl) (by kernel_rfl) (of_decide_eq_true (by kernel_rfl)) ((F_bits_PutText_eq N x).trans hr) (R_bits_PutText_eq x r)⟩
def as_bits_read : List AS := [.val (.list (.int .u8))]
def bs_bits_read : List BS := []
def pout_bits_read : Pat := ⟨[(2, .val (.alt 99 (.agg (.pair (.int .i64) (.int .i64))) (.alt1 131 (.agg .unit))))], []⟩
noncomputable def G_bits_read  (N : Nat) : OrcT := orcOf []
noncomputable def F_bits_read  (N : Nat) (x : List Int) : Option ((Int × Int) ⊕ Unit) :=
  (evT (G_bits_read  N) L0 P0 [(3, .loop [7] ⟨[(3, .val (.int .i64)), (4, .val (.int .i64)), (9, .val (.int .i64))], []⟩ [(.exit 0, ⟨[], []⟩), (.ret, ⟨[(2, .val (.alt 99 (.agg (.pair (.int .i64) (.int .i64))) (.alt1 131 (.agg .unit))))], []⟩)])]
    [(1000007, .reg [(6, [7], ⟨[(28, .val .bool)], []⟩)])] N 400 (bodyOf Try.f70) ⟨47, slots 0 (argsOf as_bits_read bs_bits_read x), tabU (lbOf as_bits_read bs_bits_read x) [], []⟩).elim (kRet 47 pout_bits_read (kpL []) (lbOf as_bits_read bs_bits_read x))
def out_bits_read (y : (Int × Int) ⊕ Unit) : V × List OK × List OK := (valW (.alt 99 (.agg (.pair (.int .i64) (.int .i64))) (.alt1 131 (.agg .unit))) y, [], [])
noncomputable def V_bits_read  (N : Nat) (x : List Int) : Option ((Int × Int) ⊕ Unit) :=
  obind
    (loopN N
      (fun (v : Int × Int × Int) =>
        cnd (decide (Prod.snd (Prod.snd v) < (↑(List.length x) : Int)))
          (cnd (decide ((0 : Int) ≤ Prod.snd (Prod.snd v)) && decide (Prod.snd (Prod.snd v) < (↑(List.length x) : Int)))
            (obind
              (cnd (decide (Prod.snd (Prod.snd v) = (5 : Int))) (some true)
                (some
                  (decide
                    ((1073741824 : Int) <
                      wr IntKind.i64
                        (Prod.fst v +
                          wr IntKind.i64
                            (wr IntKind.i64
                                (Int.tmod (List.getD x (Int.toNat (Prod.snd (Prod.snd v))) (0 : Int)) (128 : Int)) *
                              Prod.fst (Prod.snd v)))))))
              fun (b : Bool) =>
              cnd b (some (Sum.inr (Sum.inl ())))
                (cnd (decide (List.getD x (Int.toNat (Prod.snd (Prod.snd v))) (0 : Int) = (0 : Int)))
                  (cnd (decide ((0 : Int) < Prod.snd (Prod.snd v))) (some (Sum.inr (Sum.inl ())))
                    (cnd (decide (List.getD x (Int.toNat (Prod.snd (Prod.snd v))) (0 : Int) < (128 : Int)))
                      (some
                        (Sum.inr
                          (Sum.inr
                            (Sum.inl
                              (wr IntKind.i64
                                  (Prod.fst v +
                                    wr IntKind.i64
                                      (wr IntKind.i64
                                          (Int.tmod (List.getD x (Int.toNat (Prod.snd (Prod.snd v))) (0 : Int))
                                            (128 : Int)) *
                                        Prod.fst (Prod.snd v))),
                                wr IntKind.i64 (Prod.snd (Prod.snd v) + (1 : Int)))))))
                      (some
                        (Sum.inl
                          (wr IntKind.i64
                              (Prod.fst v +
                                wr IntKind.i64
                                  (wr IntKind.i64
                                      (Int.tmod (List.getD x (Int.toNat (Prod.snd (Prod.snd v))) (0 : Int)) (128 : Int)) *
                                    Prod.fst (Prod.snd v))),
                            wr IntKind.i64 (Prod.fst (Prod.snd v) * (128 : Int)),
                            wr IntKind.i64 (Prod.snd (Prod.snd v) + (1 : Int)))))))
                  (cnd (decide (List.getD x (Int.toNat (Prod.snd (Prod.snd v))) (0 : Int) < (128 : Int)))
                    (some
                      (Sum.inr
                        (Sum.inr
                          (Sum.inl
                            (wr IntKind.i64
                                (Prod.fst v +
                                  wr IntKind.i64
                                    (wr IntKind.i64
                                        (Int.tmod (List.getD x (Int.toNat (Prod.snd (Prod.snd v))) (0 : Int))
                                          (128 : Int)) *
                                      Prod.fst (Prod.snd v))),
                              wr IntKind.i64 (Prod.snd (Prod.snd v) + (1 : Int)))))))
                    (some
                      (Sum.inl
                        (wr IntKind.i64
                            (Prod.fst v +
                              wr IntKind.i64
                                (wr IntKind.i64
                                    (Int.tmod (List.getD x (Int.toNat (Prod.snd (Prod.snd v))) (0 : Int)) (128 : Int)) *
                                  Prod.fst (Prod.snd v))),
                          wr IntKind.i64 (Prod.fst (Prod.snd v) * (128 : Int)),
                          wr IntKind.i64 (Prod.snd (Prod.snd v) + (1 : Int))))))))
            none)
          (some (Sum.inr (Sum.inl ()))))
      ((0 : Int), (1 : Int), (0 : Int)))
    fun (b : PUnit ⊕ Int × Int ⊕ PUnit) =>
    selim (fun (b : PUnit) => some (Sum.inr ())) (fun (c : Int × Int ⊕ PUnit) => some c) b
theorem FV_bits_read_eq  (N : Nat) (x : List Int) : F_bits_read  N x = V_bits_read  N x := by kernel_rfl
noncomputable def W_bits_read (N : Nat) (x : List Int) : Option ((Int × Int) ⊕ Unit) :=
  obind
    (loopN N
      (fun (v : Int × Int × Int) =>
        cnd (decide (Prod.snd (Prod.snd v) < (↑(List.length x) : Int)))
          (cnd (decide ((0 : Int) ≤ Prod.snd (Prod.snd v)) && decide (Prod.snd (Prod.snd v) < (↑(List.length x) : Int)))
            (obind
              (cnd (decide (Prod.snd (Prod.snd v) = (5 : Int))) (some true)
                (some
                  (decide
                    ((1073741824 : Int) <
                      wr IntKind.i64
                        (Prod.fst v +
                          wr IntKind.i64
                            (wr IntKind.i64
                                (Int.tmod (List.getD x (Int.toNat (Prod.snd (Prod.snd v))) (0 : Int)) (128 : Int)) *
                              Prod.fst (Prod.snd v)))))))
              fun (b : Bool) =>
              cnd b (some (Sum.inr (Sum.inl ())))
                (cnd (decide (List.getD x (Int.toNat (Prod.snd (Prod.snd v))) (0 : Int) = (0 : Int)))
                  (cnd (decide ((0 : Int) < Prod.snd (Prod.snd v))) (some (Sum.inr (Sum.inl ())))
                    (cnd (decide (List.getD x (Int.toNat (Prod.snd (Prod.snd v))) (0 : Int) < (128 : Int)))
                      (some
                        (Sum.inr
                          (Sum.inr
                            (Sum.inl
                              (wr IntKind.i64
                                  (Prod.fst v +
                                    wr IntKind.i64
                                      (wr IntKind.i64
                                          (Int.tmod (List.getD x (Int.toNat (Prod.snd (Prod.snd v))) (0 : Int))
                                            (128 : Int)) *
                                        Prod.fst (Prod.snd v))),
                                wr IntKind.i64 (Prod.snd (Prod.snd v) + (1 : Int)))))))
                      (some
                        (Sum.inl
                          (wr IntKind.i64
                              (Prod.fst v +
                                wr IntKind.i64
                                  (wr IntKind.i64
                                      (Int.tmod (List.getD x (Int.toNat (Prod.snd (Prod.snd v))) (0 : Int)) (128 : Int)) *
                                    Prod.fst (Prod.snd v))),
                            wr IntKind.i64 (Prod.fst (Prod.snd v) * (128 : Int)),
                            wr IntKind.i64 (Prod.snd (Prod.snd v) + (1 : Int)))))))
                  (cnd (decide (List.getD x (Int.toNat (Prod.snd (Prod.snd v))) (0 : Int) < (128 : Int)))
                    (some
                      (Sum.inr
                        (Sum.inr
                          (Sum.inl
                            (wr IntKind.i64
                                (Prod.fst v +
                                  wr IntKind.i64
                                    (wr IntKind.i64
                                        (Int.tmod (List.getD x (Int.toNat (Prod.snd (Prod.snd v))) (0 : Int))
                                          (128 : Int)) *
                                      Prod.fst (Prod.snd v))),
                              wr IntKind.i64 (Prod.snd (Prod.snd v) + (1 : Int)))))))
                    (some
                      (Sum.inl
                        (wr IntKind.i64
                            (Prod.fst v +
                              wr IntKind.i64
                                (wr IntKind.i64
                                    (Int.tmod (List.getD x (Int.toNat (Prod.snd (Prod.snd v))) (0 : Int)) (128 : Int)) *
                                  Prod.fst (Prod.snd v))),
                          wr IntKind.i64 (Prod.fst (Prod.snd v) * (128 : Int)),
                          wr IntKind.i64 (Prod.snd (Prod.snd v) + (1 : Int))))))))
            none)
          (some (Sum.inr (Sum.inl ()))))
      ((0 : Int), (1 : Int), (0 : Int)))
    fun (b : PUnit ⊕ Int × Int ⊕ PUnit) =>
    selim (fun (b : PUnit) => some (Sum.inr ())) (fun (c : Int × Int ⊕ PUnit) => some c) b
theorem F_bits_read_eq (N : Nat) (x : List Int) : F_bits_read  N x = W_bits_read N x := (FV_bits_read_eq  N x).trans (by kernel_rfl)
noncomputable def conw_bits_read (w : List Int → Option ((Int × Int) ⊕ Unit)) : Con := ⟨70, as_bits_read, bs_bits_read, (Int × Int) ⊕ Unit, w, out_bits_read⟩
noncomputable def con_bits_read (N : Nat) : Con := conw_bits_read (W_bits_read N)
theorem R_bits_read_eq (x : List Int) (y : (Int × Int) ⊕ Unit) : retOf2 P0 Try.f70 (kpL []) (lbOf as_bits_read bs_bits_read x) (patS ⟨47, [], [], []⟩ pout_bits_read y) = some (out_bits_read y) := by kernel_rfl
theorem con_bits_read_ok (N : Nat) : Con.ok P0 (con_bits_read N) := ⟨⟨Try.f70, Try.func70, by kernel_rfl, by kernel_rfl⟩, fun (x : List Int) (r : (Int × Int) ⊕ Unit) (hr : W_bits_read N x = some r) =>
  spec2_evT (Γ := G_bits_read N) (Λ := L0) (pout := pout_bits_read) (kp := kpL []) mixed (orcOf_ok [] (by simp)) Try.func70 (c := bodyOf Try.f70) (by kernel_rfl) (by kernel_rfl) (of_decide_eq_true (by kernel_rfl)) ((F_bits_read_eq N x).trans hr) (R_bits_read_eq x r)⟩
def as_bits_Take : List AS := [.val (.list (.int .u8))]
def bs_bits_Take : List BS := []
def pout_bits_Take : Pat := ⟨[(2, .val (.int .i64)), (3, .val (.int .i64)), (4, .val .bool)], []⟩
noncomputable def G_bits_Take (w_bits_read : List Int → Option ((Int × Int) ⊕ Unit)) (N : Nat) : OrcT := orcOf [conw_bits_read w_bits_read]
noncomputable def F_bits_Take (w_bits_read : List Int → Option ((Int × Int) ⊕ Unit)) (N : Nat) (x : List Int) : Option (Int × Int × Bool) :=
  (evT (G_bits_Take w_bits_read N) L0 P0 []
    [] N 400 (bodyOf Try.f27) ⟨17, slots 0 (argsOf as_bits_Take bs_bits_Take x), tabU (lbOf as_bits_Take bs_bits_Take x) [], []⟩).elim (kRet 17 pout_bits_Take (kpL []) (lbOf as_bits_Take bs_bits_Take x))
def out_bits_Take (y : Int × Int × Bool) : V × List OK × List OK := (.tup [valW (.int .i64) y.1, valW (.int .i64) y.2.1, valW .bool y.2.2], [], [])
noncomputable def V_bits_Take (w_bits_read : List Int → Option ((Int × Int) ⊕ Unit)) (N : Nat) (x : List Int) : Option (Int × Int × Bool) :=
  obind (w_bits_read x) fun (b : Int × Int ⊕ PUnit) =>
    selim (fun (b : Int × Int) => some (Prod.fst b, Prod.snd b, true))
      (fun (c : PUnit) => some ((0 : Int), (0 : Int), false)) b
theorem FV_bits_Take_eq (w_bits_read : List Int → Option ((Int × Int) ⊕ Unit)) (N : Nat) (x : List Int) : F_bits_Take w_bits_read N x = V_bits_Take w_bits_read N x := by kernel_rfl
noncomputable def W_bits_Take (N : Nat) (x : List Int) : Option (Int × Int × Bool) :=
  obind (W_bits_read N x) fun (b : Int × Int ⊕ PUnit) =>
    selim (fun (b : Int × Int) => some (Prod.fst b, Prod.snd b, true))
      (fun (c : PUnit) => some ((0 : Int), (0 : Int), false)) b
theorem F_bits_Take_eq (N : Nat) (x : List Int) : F_bits_Take (W_bits_read N) N x = W_bits_Take N x := (FV_bits_Take_eq (W_bits_read N) N x).trans (by kernel_rfl)
noncomputable def conw_bits_Take (w : List Int → Option (Int × Int × Bool)) : Con := ⟨27, as_bits_Take, bs_bits_Take, Int × Int × Bool, w, out_bits_Take⟩
noncomputable def con_bits_Take (N : Nat) : Con := conw_bits_Take (W_bits_Take N)
theorem R_bits_Take_eq (x : List Int) (y : Int × Int × Bool) : retOf2 P0 Try.f27 (kpL []) (lbOf as_bits_Take bs_bits_Take x) (patS ⟨17, [], [], []⟩ pout_bits_Take y) = some (out_bits_Take y) := by kernel_rfl
theorem con_bits_Take_ok (N : Nat) : Con.ok P0 (con_bits_Take N) := ⟨⟨Try.f27, Try.func27, by kernel_rfl, by kernel_rfl⟩, fun (x : List Int) (r : Int × Int × Bool) (hr : W_bits_Take N x = some r) =>
  spec2_evT (Γ := G_bits_Take (W_bits_read N) N) (Λ := L0) (pout := pout_bits_Take) (kp := kpL []) mixed (orcOf_ok _ (by simp only [List.mem_cons, List.not_mem_nil, or_false, forall_eq_or_imp, forall_eq]; exact con_bits_read_ok N)) Try.func27 (c := bodyOf Try.f27) (by kernel_rfl) (by kernel_rfl) (of_decide_eq_true (by kernel_rfl)) ((F_bits_Take_eq N x).trans hr) (R_bits_Take_eq x r)⟩
def as_bits_TakeText : List AS := [.val (.list (.int .u8))]
def bs_bits_TakeText : List BS := []
def pout_bits_TakeText : Pat := ⟨[(2, .val .str), (3, .val (.int .i64)), (4, .val .bool)], []⟩
noncomputable def G_bits_TakeText (w_bits_read : List Int → Option ((Int × Int) ⊕ Unit)) (N : Nat) : OrcT := orcOf [conw_bits_read w_bits_read]
noncomputable def F_bits_TakeText (w_bits_read : List Int → Option ((Int × Int) ⊕ Unit)) (N : Nat) (x : List Int) : Option ((List UInt8) × Int × Bool) :=
  (evT (G_bits_TakeText w_bits_read N) L0 P0 []
    [] N 400 (bodyOf Try.f29) ⟨39, slots 0 (argsOf as_bits_TakeText bs_bits_TakeText x), tabU (lbOf as_bits_TakeText bs_bits_TakeText x) [], []⟩).elim (kRet 39 pout_bits_TakeText (kpL []) (lbOf as_bits_TakeText bs_bits_TakeText x))
def out_bits_TakeText (y : (List UInt8) × Int × Bool) : V × List OK × List OK := (.tup [valW .str y.1, valW (.int .i64) y.2.1, valW .bool y.2.2], [], [])
noncomputable def V_bits_TakeText (w_bits_read : List Int → Option ((Int × Int) ⊕ Unit)) (N : Nat) (x : List Int) : Option ((List UInt8) × Int × Bool) :=
  obind (w_bits_read x) fun (b : Int × Int ⊕ PUnit) =>
    selim
      (fun (b : Int × Int) =>
        cnd (decide (wr IntKind.i64 ((↑(List.length x) : Int) - Prod.snd b) < Prod.fst b)) (some ([], (0 : Int), false))
          (cnd
            (decide ((0 : Int) ≤ Prod.snd b) && decide (Prod.snd b ≤ wr IntKind.i64 (Prod.snd b + Prod.fst b)) &&
              decide (wr IntKind.i64 (Prod.snd b + Prod.fst b) ≤ (↑(List.length x) : Int)))
            (cnd
              (List.all
                (List.drop (Int.toNat (Prod.snd b)) (List.take (Int.toNat (wr IntKind.i64 (Prod.snd b + Prod.fst b))) x))
                fun (n : Int) => decide ((0 : Int) ≤ n) && decide (n < (256 : Int)))
              (some
                (bytesI
                    (List.drop (Int.toNat (Prod.snd b))
                      (List.take (Int.toNat (wr IntKind.i64 (Prod.snd b + Prod.fst b))) x)),
                  wr IntKind.i64 (Prod.snd b + Prod.fst b), true))
              none)
            none))
      (fun (c : PUnit) => some ([], (0 : Int), false)) b
theorem FV_bits_TakeText_eq (w_bits_read : List Int → Option ((Int × Int) ⊕ Unit)) (N : Nat) (x : List Int) : F_bits_TakeText w_bits_read N x = V_bits_TakeText w_bits_read N x := by kernel_rfl
noncomputable def W_bits_TakeText (N : Nat) (x : List Int) : Option ((List UInt8) × Int × Bool) :=
  obind (W_bits_read N x) fun (b : Int × Int ⊕ PUnit) =>
    selim
      (fun (b : Int × Int) =>
        cnd (decide (wr IntKind.i64 ((↑(List.length x) : Int) - Prod.snd b) < Prod.fst b)) (some ([], (0 : Int), false))
          (cnd
            (decide ((0 : Int) ≤ Prod.snd b) && decide (Prod.snd b ≤ wr IntKind.i64 (Prod.snd b + Prod.fst b)) &&
              decide (wr IntKind.i64 (Prod.snd b + Prod.fst b) ≤ (↑(List.length x) : Int)))
            (cnd
              (List.all
                (List.drop (Int.toNat (Prod.snd b)) (List.take (Int.toNat (wr IntKind.i64 (Prod.snd b + Prod.fst b))) x))
                fun (n : Int) => decide ((0 : Int) ≤ n) && decide (n < (256 : Int)))
              (some
                (bytesI
                    (List.drop (Int.toNat (Prod.snd b))
                      (List.take (Int.toNat (wr IntKind.i64 (Prod.snd b + Prod.fst b))) x)),
                  wr IntKind.i64 (Prod.snd b + Prod.fst b), true))
              none)
            none))
      (fun (c : PUnit) => some ([], (0 : Int), false)) b
theorem F_bits_TakeText_eq (N : Nat) (x : List Int) : F_bits_TakeText (W_bits_read N) N x = W_bits_TakeText N x := (FV_bits_TakeText_eq (W_bits_read N) N x).trans (by kernel_rfl)
noncomputable def conw_bits_TakeText (w : List Int → Option ((List UInt8) × Int × Bool)) : Con := ⟨29, as_bits_TakeText, bs_bits_TakeText, (List UInt8) × Int × Bool, w, out_bits_TakeText⟩
noncomputable def con_bits_TakeText (N : Nat) : Con := conw_bits_TakeText (W_bits_TakeText N)
theorem R_bits_TakeText_eq (x : List Int) (y : (List UInt8) × Int × Bool) : retOf2 P0 Try.f29 (kpL []) (lbOf as_bits_TakeText bs_bits_TakeText x) (patS ⟨39, [], [], []⟩ pout_bits_TakeText y) = some (out_bits_TakeText y) := by kernel_rfl
theorem con_bits_TakeText_ok (N : Nat) : Con.ok P0 (con_bits_TakeText N) := ⟨⟨Try.f29, Try.func29, by kernel_rfl, by kernel_rfl⟩, fun (x : List Int) (r : (List UInt8) × Int × Bool) (hr : W_bits_TakeText N x = some r) =>
  spec2_evT (Γ := G_bits_TakeText (W_bits_read N) N) (Λ := L0) (pout := pout_bits_TakeText) (kp := kpL []) mixed (orcOf_ok _ (by simp only [List.mem_cons, List.not_mem_nil, or_false, forall_eq_or_imp, forall_eq]; exact con_bits_read_ok N)) Try.func29 (c := bodyOf Try.f29) (by kernel_rfl) (by kernel_rfl) (of_decide_eq_true (by kernel_rfl)) ((F_bits_TakeText_eq N x).trans hr) (R_bits_TakeText_eq x r)⟩
def as_law11_BitsBack : List AS := [.val (.int .u32), .val .str, .val (.list (.int .u8)), .val (.int .u8), .val (.list (.int .u8))]
def bs_law11_BitsBack : List BS := []
def pout_law11_BitsBack : Pat := ⟨[(10, .val .bool)], []⟩
noncomputable def G_law11_BitsBack (w_bits_Put : (List Int) × Int → Option (List Int)) (w_bits_PutText : (List Int) × List UInt8 → Option (List Int)) (w_bits_Take : List Int → Option (Int × Int × Bool)) (w_bits_TakeText : List Int → Option ((List UInt8) × Int × Bool)) (N : Nat) : OrcT := orcOf [con_law11_begun N, conw_bits_Put w_bits_Put, conw_bits_PutText w_bits_PutText, conw_bits_Take w_bits_Take, conw_bits_TakeText w_bits_TakeText]
noncomputable def F_law11_BitsBack (w_bits_Put : (List Int) × Int → Option (List Int)) (w_bits_PutText : (List Int) × List UInt8 → Option (List Int)) (w_bits_Take : List Int → Option (Int × Int × Bool)) (w_bits_TakeText : List Int → Option ((List UInt8) × Int × Bool)) (N : Nat) (x : Int × (List UInt8) × (List Int) × Int × List Int) : Option (Bool) :=
  (evT (G_law11_BitsBack w_bits_Put w_bits_PutText w_bits_Take w_bits_TakeText N) L0 P0 []
    [(1000003, .reg [(8, [], ⟨[(38, .val .bool)], []⟩)]),
    (1000014, .reg [(7, [12, 13], ⟨[(115, .val .bool)], []⟩), (6, [13], ⟨[(121, .val .bool)], []⟩), (4, [13], ⟨[(125, .val .bool)], []⟩), (5, [13], ⟨[(130, .val .bool)], []⟩), (6, [], ⟨[(136, .val .bool)], []⟩), (3, [], ⟨[(139, .val .bool)], []⟩), (3, [], ⟨[(142, .val .bool)], []⟩)])] N 400 (bodyOf Try.f6) ⟨185, slots 0 (argsOf as_law11_BitsBack bs_law11_BitsBack x), tabU (lbOf as_law11_BitsBack bs_law11_BitsBack x) [], []⟩).elim (kRet 185 pout_law11_BitsBack (kpL []) (lbOf as_law11_BitsBack bs_law11_BitsBack x))
def out_law11_BitsBack (y : Bool) : V × List OK × List OK := (valW .bool y, [], [])
noncomputable def V_law11_BitsBack (w_bits_Put : (List Int) × Int → Option (List Int)) (w_bits_PutText : (List Int) × List UInt8 → Option (List Int)) (w_bits_Take : List Int → Option (Int × Int × Bool)) (w_bits_TakeText : List Int → Option ((List UInt8) × Int × Bool)) (N : Nat) (x : Int × (List UInt8) × (List Int) × Int × List Int) : Option (Bool) :=
  obind
    (cnd (decide ((200 : Int) < (↑(List.length (Prod.fst (Prod.snd x))) : Int))) (some true)
      (some (decide ((20 : Int) < (↑(List.length (Prod.fst (Prod.snd (Prod.snd x)))) : Int)))))
    fun (b : Bool) =>
    cnd b (some true)
      (cnd (decide ((10 : Int) < (↑(List.length (Prod.snd (Prod.snd (Prod.snd (Prod.snd x))))) : Int))) (some true)
        (obind (w_bits_Put ([], Int.tmod (wr IntKind.i64 (Prod.fst x)) (1073741825 : Int))) fun (b : List Int) =>
          obind (w_bits_PutText ([], Prod.fst (Prod.snd x))) fun (b_1 : List Int) =>
            cnd (decide ((↑(List.length b) : Int) = (0 : Int))) (some false)
              (cnd (decide ((↑(List.length b_1) : Int) = (0 : Int))) (some false)
                (cnd (decide (List.length b * (1 : Nat) ≤ (140737488355328 : Nat)))
                  (cnd
                    (decide
                      ((List.length b + List.length (Prod.fst (Prod.snd (Prod.snd x)))) * (1 : Nat) ≤
                        (140737488355328 : Nat)))
                    (obind (w_bits_Take (b ++ Prod.fst (Prod.snd (Prod.snd x)))) fun (b_2 : Int × Int × Bool) =>
                      cnd (decide (List.length b_1 * (1 : Nat) ≤ (140737488355328 : Nat)))
                        (cnd
                          (decide
                            ((List.length b_1 + List.length (Prod.fst (Prod.snd (Prod.snd x)))) * (1 : Nat) ≤
                              (140737488355328 : Nat)))
                          (obind (w_bits_TakeText (b_1 ++ Prod.fst (Prod.snd (Prod.snd x))))
                            fun (b_3 : List UInt8 × Int × Bool) =>
                            cnd (!decide ((↑(List.length b) : Int) = (0 : Int)))
                              (cnd
                                (decide
                                  (Option.getD none (0 : Int) ≤
                                    Int.tmod (wr IntKind.i64 (Prod.fst (Prod.snd (Prod.snd (Prod.snd x)))))
                                      (↑(List.length b) : Int)))
                                (cnd
                                  (decide
                                    ((↑(0 : Nat) : Int) +
                                        Int.tmod (wr IntKind.i64 (Prod.fst (Prod.snd (Prod.snd (Prod.snd x)))))
                                          (↑(List.length b) : Int) ≤
                                      (↑(List.length b) : Int)))
                                  (obind
                                    (w_bits_Take
                                      (List.drop
                                        ((0 : Nat) +
                                          Prod.fst
                                            (Prod.snd
                                              (cutT (0 : Nat) (List.length b) (List.length b) none
                                                (some
                                                  (Int.tmod (wr IntKind.i64 (Prod.fst (Prod.snd (Prod.snd (Prod.snd x)))))
                                                    (↑(List.length b) : Int))))))
                                        (List.take
                                          ((0 : Nat) +
                                              Prod.fst
                                                (Prod.snd
                                                  (cutT (0 : Nat) (List.length b) (List.length b) none
                                                    (some
                                                      (Int.tmod
                                                        (wr IntKind.i64 (Prod.fst (Prod.snd (Prod.snd (Prod.snd x)))))
                                                        (↑(List.length b) : Int))))) +
                                            (Prod.snd
                                                (Prod.snd
                                                  (cutT (0 : Nat) (List.length b) (List.length b) none
                                                    (some
                                                      (Int.tmod
                                                        (wr IntKind.i64 (Prod.fst (Prod.snd (Prod.snd (Prod.snd x)))))
                                                        (↑(List.length b) : Int))))) -
                                              Prod.fst
                                                (Prod.snd
                                                  (cutT (0 : Nat) (List.length b) (List.length b) none
                                                    (some
                                                      (Int.tmod
                                                        (wr IntKind.i64 (Prod.fst (Prod.snd (Prod.snd (Prod.snd x)))))
                                                        (↑(List.length b) : Int)))))))
                                          b)))
                                    fun (b_4 : Int × Int × Bool) =>
                                    cnd (!decide ((↑(List.length b_1) : Int) = (0 : Int)))
                                      (cnd
                                        (decide
                                            ((0 : Int) ≤
                                              Int.tmod (wr IntKind.i64 (Prod.fst (Prod.snd (Prod.snd (Prod.snd x)))))
                                                (↑(List.length b_1) : Int)) &&
                                          decide
                                            (Int.tmod (wr IntKind.i64 (Prod.fst (Prod.snd (Prod.snd (Prod.snd x)))))
                                                (↑(List.length b_1) : Int) ≤
                                              (↑(List.length b_1) : Int)))
                                        (obind
                                          (w_bits_TakeText
                                            (List.drop (0 : Nat)
                                              (List.take
                                                (Int.toNat
                                                  (Int.tmod (wr IntKind.i64 (Prod.fst (Prod.snd (Prod.snd (Prod.snd x)))))
                                                    (↑(List.length b_1) : Int)))
                                                b_1)))
                                          fun (b_5 : List UInt8 × Int × Bool) =>
                                          obind (w_bits_Take (Prod.snd (Prod.snd (Prod.snd (Prod.snd x)))))
                                            fun (b_6 : Int × Int × Bool) =>
                                            obind
                                              (cnd (!Prod.snd (Prod.snd b_2)) (some true)
                                                (some
                                                  (decide
                                                    (Prod.fst b_2 ≠
                                                      Int.tmod (wr IntKind.i64 (Prod.fst x)) (1073741825 : Int)))))
                                              fun (b_7 : Bool) =>
                                              obind
                                                (cnd b_7 (some true)
                                                  (some (decide (Prod.fst (Prod.snd b_2) ≠ (↑(List.length b) : Int)))))
                                                fun (b : Bool) =>
                                                obind (cnd b (some true) (some !Prod.snd (Prod.snd b_3)))
                                                  fun (b : Bool) =>
                                                  obind (cnd b (some true) (some !Prod.fst b_3 == Prod.fst (Prod.snd x)))
                                                    fun (b : Bool) =>
                                                    obind
                                                      (cnd b (some true)
                                                        (some (decide (Prod.fst (Prod.snd b_3) ≠ (↑(List.length b_1) : Int)))))
                                                      fun (b : Bool) =>
                                                      obind (cnd b (some true) (some (Prod.snd (Prod.snd b_4))))
                                                        fun (b : Bool) =>
                                                        obind (cnd b (some true) (some (Prod.snd (Prod.snd b_5))))
                                                          fun (b : Bool) =>
                                                          cnd b (some false)
                                                            (cnd (!Prod.snd (Prod.snd b_6))
                                                              (cnd (decide (Prod.fst b_6 ≠ (0 : Int))) (some false)
                                                                (cnd (decide (Prod.fst (Prod.snd b_6) ≠ (0 : Int)))
                                                                  (some false)
                                                                  (cnd (!Prod.snd (Prod.snd b_6)) (some true)
                                                                    (cnd (decide ((1 : Int) ≤ Prod.fst (Prod.snd b_6)))
                                                                      (cnd
                                                                        (decide
                                                                          (Prod.fst (Prod.snd b_6) ≤
                                                                            (↑(List.length
                                                                                (Prod.snd
                                                                                  (Prod.snd (Prod.snd (Prod.snd x))))) : Int)))
                                                                        (cnd (decide ((0 : Int) ≤ Prod.fst b_6))
                                                                          (cnd
                                                                            (decide (Prod.fst b_6 ≤ (1073741824 : Int)))
                                                                            (obind (w_bits_Put ([], Prod.fst b_6))
                                                                              fun (b : List Int) =>
                                                                              cnd
                                                                                (List.all b fun (n : Int) =>
                                                                                  decide ((0 : Int) ≤ n) &&
                                                                                    decide (n < (256 : Int)))
                                                                                (cnd
                                                                                  (decide
                                                                                      ((0 : Int) ≤
                                                                                        Prod.fst (Prod.snd b_6)) &&
                                                                                    decide
                                                                                      (Prod.fst (Prod.snd b_6) ≤
                                                                                        (↑(List.length
                                                                                            (Prod.snd
                                                                                              (Prod.snd
                                                                                                (Prod.snd
                                                                                                  (Prod.snd x))))) : Int)))
                                                                                  (cnd
                                                                                    (List.all
                                                                                      (List.drop (0 : Nat)
                                                                                        (List.take
                                                                                          (Int.toNat
                                                                                            (Prod.fst (Prod.snd b_6)))
                                                                                          (Prod.snd
                                                                                            (Prod.snd
                                                                                              (Prod.snd (Prod.snd x))))))
                                                                                      fun (n : Int) =>
                                                                                      decide ((0 : Int) ≤ n) &&
                                                                                        decide (n < (256 : Int)))
                                                                                    (some
                                                                                      (bytesI b ==
                                                                                        bytesI
                                                                                          (List.drop (0 : Nat)
                                                                                            (List.take
                                                                                              (Int.toNat
                                                                                                (Prod.fst (Prod.snd b_6)))
                                                                                              (Prod.snd
                                                                                                (Prod.snd
                                                                                                  (Prod.snd
                                                                                                    (Prod.snd x))))))))
                                                                                    none)
                                                                                  none)
                                                                                none)
                                                                            (some false))
                                                                          (some false))
                                                                        (some false))
                                                                      (some false)))))
                                                              (cnd (!Prod.snd (Prod.snd b_6)) (some true)
                                                                (cnd (decide ((1 : Int) ≤ Prod.fst (Prod.snd b_6)))
                                                                  (cnd
                                                                    (decide
                                                                      (Prod.fst (Prod.snd b_6) ≤
                                                                        (↑(List.length
                                                                            (Prod.snd
                                                                              (Prod.snd (Prod.snd (Prod.snd x))))) : Int)))
                                                                    (cnd (decide ((0 : Int) ≤ Prod.fst b_6))
                                                                      (cnd (decide (Prod.fst b_6 ≤ (1073741824 : Int)))
                                                                        (obind (w_bits_Put ([], Prod.fst b_6))
                                                                          fun (b : List Int) =>
                                                                          cnd
                                                                            (List.all b fun (n : Int) =>
                                                                              decide ((0 : Int) ≤ n) &&
                                                                                decide (n < (256 : Int)))
                                                                            (cnd
                                                                              (decide
                                                                                  ((0 : Int) ≤ Prod.fst (Prod.snd b_6)) &&
                                                                                decide
                                                                                  (Prod.fst (Prod.snd b_6) ≤
                                                                                    (↑(List.length
                                                                                        (Prod.snd
                                                                                          (Prod.snd
                                                                                            (Prod.snd (Prod.snd x))))) : Int)))
                                                                              (cnd
                                                                                (List.all
                                                                                  (List.drop (0 : Nat)
                                                                                    (List.take
                                                                                      (Int.toNat
                                                                                        (Prod.fst (Prod.snd b_6)))
                                                                                      (Prod.snd
                                                                                        (Prod.snd
                                                                                          (Prod.snd (Prod.snd x))))))
                                                                                  fun (n : Int) =>
                                                                                  decide ((0 : Int) ≤ n) &&
                                                                                    decide (n < (256 : Int)))
                                                                                (some
                                                                                  (bytesI b ==
                                                                                    bytesI
                                                                                      (List.drop (0 : Nat)
                                                                                        (List.take
                                                                                          (Int.toNat
                                                                                            (Prod.fst (Prod.snd b_6)))
                                                                                          (Prod.snd
                                                                                            (Prod.snd
                                                                                              (Prod.snd
                                                                                                (Prod.snd x))))))))
                                                                                none)
                                                                              none)
                                                                            none)
                                                                        (some false))
                                                                      (some false))
                                                                    (some false))
                                                                  (some false)))))
                                        none)
                                      none)
                                  none)
                                none)
                              none)
                          none)
                        none)
                    none)
                  none))))
theorem FV_law11_BitsBack_eq (w_bits_Put : (List Int) × Int → Option (List Int)) (w_bits_PutText : (List Int) × List UInt8 → Option (List Int)) (w_bits_Take : List Int → Option (Int × Int × Bool)) (w_bits_TakeText : List Int → Option ((List UInt8) × Int × Bool)) (N : Nat) (x : Int × (List UInt8) × (List Int) × Int × List Int) : F_law11_BitsBack w_bits_Put w_bits_PutText w_bits_Take w_bits_TakeText N x = V_law11_BitsBack w_bits_Put w_bits_PutText w_bits_Take w_bits_TakeText N x := by kernel_rfl
noncomputable def W_law11_BitsBack (N : Nat) (x : Int × (List UInt8) × (List Int) × Int × List Int) : Option (Bool) :=
  obind
    (cnd (decide ((200 : Int) < (↑(List.length (Prod.fst (Prod.snd x))) : Int))) (some true)
      (some (decide ((20 : Int) < (↑(List.length (Prod.fst (Prod.snd (Prod.snd x)))) : Int)))))
    fun (b : Bool) =>
    cnd b (some true)
      (cnd (decide ((10 : Int) < (↑(List.length (Prod.snd (Prod.snd (Prod.snd (Prod.snd x))))) : Int))) (some true)
        (obind (W_bits_Put N ([], Int.tmod (wr IntKind.i64 (Prod.fst x)) (1073741825 : Int))) fun (b : List Int) =>
          obind (W_bits_PutText N ([], Prod.fst (Prod.snd x))) fun (b_1 : List Int) =>
            cnd (decide ((↑(List.length b) : Int) = (0 : Int))) (some false)
              (cnd (decide ((↑(List.length b_1) : Int) = (0 : Int))) (some false)
                (cnd (decide (List.length b * (1 : Nat) ≤ (140737488355328 : Nat)))
                  (cnd
                    (decide
                      ((List.length b + List.length (Prod.fst (Prod.snd (Prod.snd x)))) * (1 : Nat) ≤
                        (140737488355328 : Nat)))
                    (obind (W_bits_Take N (b ++ Prod.fst (Prod.snd (Prod.snd x)))) fun (b_2 : Int × Int × Bool) =>
                      cnd (decide (List.length b_1 * (1 : Nat) ≤ (140737488355328 : Nat)))
                        (cnd
                          (decide
                            ((List.length b_1 + List.length (Prod.fst (Prod.snd (Prod.snd x)))) * (1 : Nat) ≤
                              (140737488355328 : Nat)))
                          (obind (W_bits_TakeText N (b_1 ++ Prod.fst (Prod.snd (Prod.snd x))))
                            fun (b_3 : List UInt8 × Int × Bool) =>
                            cnd (!decide ((↑(List.length b) : Int) = (0 : Int)))
                              (cnd
                                (decide
                                  (Option.getD none (0 : Int) ≤
                                    Int.tmod (wr IntKind.i64 (Prod.fst (Prod.snd (Prod.snd (Prod.snd x)))))
                                      (↑(List.length b) : Int)))
                                (cnd
                                  (decide
                                    ((↑(0 : Nat) : Int) +
                                        Int.tmod (wr IntKind.i64 (Prod.fst (Prod.snd (Prod.snd (Prod.snd x)))))
                                          (↑(List.length b) : Int) ≤
                                      (↑(List.length b) : Int)))
                                  (obind
                                    (W_bits_Take N
                                      (List.drop
                                        ((0 : Nat) +
                                          Prod.fst
                                            (Prod.snd
                                              (cutT (0 : Nat) (List.length b) (List.length b) none
                                                (some
                                                  (Int.tmod (wr IntKind.i64 (Prod.fst (Prod.snd (Prod.snd (Prod.snd x)))))
                                                    (↑(List.length b) : Int))))))
                                        (List.take
                                          ((0 : Nat) +
                                              Prod.fst
                                                (Prod.snd
                                                  (cutT (0 : Nat) (List.length b) (List.length b) none
                                                    (some
                                                      (Int.tmod
                                                        (wr IntKind.i64 (Prod.fst (Prod.snd (Prod.snd (Prod.snd x)))))
                                                        (↑(List.length b) : Int))))) +
                                            (Prod.snd
                                                (Prod.snd
                                                  (cutT (0 : Nat) (List.length b) (List.length b) none
                                                    (some
                                                      (Int.tmod
                                                        (wr IntKind.i64 (Prod.fst (Prod.snd (Prod.snd (Prod.snd x)))))
                                                        (↑(List.length b) : Int))))) -
                                              Prod.fst
                                                (Prod.snd
                                                  (cutT (0 : Nat) (List.length b) (List.length b) none
                                                    (some
                                                      (Int.tmod
                                                        (wr IntKind.i64 (Prod.fst (Prod.snd (Prod.snd (Prod.snd x)))))
                                                        (↑(List.length b) : Int)))))))
                                          b)))
                                    fun (b_4 : Int × Int × Bool) =>
                                    cnd (!decide ((↑(List.length b_1) : Int) = (0 : Int)))
                                      (cnd
                                        (decide
                                            ((0 : Int) ≤
                                              Int.tmod (wr IntKind.i64 (Prod.fst (Prod.snd (Prod.snd (Prod.snd x)))))
                                                (↑(List.length b_1) : Int)) &&
                                          decide
                                            (Int.tmod (wr IntKind.i64 (Prod.fst (Prod.snd (Prod.snd (Prod.snd x)))))
                                                (↑(List.length b_1) : Int) ≤
                                              (↑(List.length b_1) : Int)))
                                        (obind
                                          (W_bits_TakeText N
                                            (List.drop (0 : Nat)
                                              (List.take
                                                (Int.toNat
                                                  (Int.tmod (wr IntKind.i64 (Prod.fst (Prod.snd (Prod.snd (Prod.snd x)))))
                                                    (↑(List.length b_1) : Int)))
                                                b_1)))
                                          fun (b_5 : List UInt8 × Int × Bool) =>
                                          obind (W_bits_Take N (Prod.snd (Prod.snd (Prod.snd (Prod.snd x)))))
                                            fun (b_6 : Int × Int × Bool) =>
                                            obind
                                              (cnd (!Prod.snd (Prod.snd b_2)) (some true)
                                                (some
                                                  (decide
                                                    (Prod.fst b_2 ≠
                                                      Int.tmod (wr IntKind.i64 (Prod.fst x)) (1073741825 : Int)))))
                                              fun (b_7 : Bool) =>
                                              obind
                                                (cnd b_7 (some true)
                                                  (some (decide (Prod.fst (Prod.snd b_2) ≠ (↑(List.length b) : Int)))))
                                                fun (b : Bool) =>
                                                obind (cnd b (some true) (some !Prod.snd (Prod.snd b_3)))
                                                  fun (b : Bool) =>
                                                  obind (cnd b (some true) (some !Prod.fst b_3 == Prod.fst (Prod.snd x)))
                                                    fun (b : Bool) =>
                                                    obind
                                                      (cnd b (some true)
                                                        (some (decide (Prod.fst (Prod.snd b_3) ≠ (↑(List.length b_1) : Int)))))
                                                      fun (b : Bool) =>
                                                      obind (cnd b (some true) (some (Prod.snd (Prod.snd b_4))))
                                                        fun (b : Bool) =>
                                                        obind (cnd b (some true) (some (Prod.snd (Prod.snd b_5))))
                                                          fun (b : Bool) =>
                                                          cnd b (some false)
                                                            (cnd (!Prod.snd (Prod.snd b_6))
                                                              (cnd (decide (Prod.fst b_6 ≠ (0 : Int))) (some false)
                                                                (cnd (decide (Prod.fst (Prod.snd b_6) ≠ (0 : Int)))
                                                                  (some false)
                                                                  (cnd (!Prod.snd (Prod.snd b_6)) (some true)
                                                                    (cnd (decide ((1 : Int) ≤ Prod.fst (Prod.snd b_6)))
                                                                      (cnd
                                                                        (decide
                                                                          (Prod.fst (Prod.snd b_6) ≤
                                                                            (↑(List.length
                                                                                (Prod.snd
                                                                                  (Prod.snd (Prod.snd (Prod.snd x))))) : Int)))
                                                                        (cnd (decide ((0 : Int) ≤ Prod.fst b_6))
                                                                          (cnd
                                                                            (decide (Prod.fst b_6 ≤ (1073741824 : Int)))
                                                                            (obind (W_bits_Put N ([], Prod.fst b_6))
                                                                              fun (b : List Int) =>
                                                                              cnd
                                                                                (List.all b fun (n : Int) =>
                                                                                  decide ((0 : Int) ≤ n) &&
                                                                                    decide (n < (256 : Int)))
                                                                                (cnd
                                                                                  (decide
                                                                                      ((0 : Int) ≤
                                                                                        Prod.fst (Prod.snd b_6)) &&
                                                                                    decide
                                                                                      (Prod.fst (Prod.snd b_6) ≤
                                                                                        (↑(List.length
                                                                                            (Prod.snd
                                                                                              (Prod.snd
                                                                                                (Prod.snd
                                                                                                  (Prod.snd x))))) : Int)))
                                                                                  (cnd
                                                                                    (List.all
                                                                                      (List.drop (0 : Nat)
                                                                                        (List.take
                                                                                          (Int.toNat
                                                                                            (Prod.fst (Prod.snd b_6)))
                                                                                          (Prod.snd
                                                                                            (Prod.snd
                                                                                              (Prod.snd (Prod.snd x))))))
                                                                                      fun (n : Int) =>
                                                                                      decide ((0 : Int) ≤ n) &&
                                                                                        decide (n < (256 : Int)))
                                                                                    (some
                                                                                      (bytesI b ==
                                                                                        bytesI
                                                                                          (List.drop (0 : Nat)
                                                                                            (List.take
                                                                                              (Int.toNat
                                                                                                (Prod.fst (Prod.snd b_6)))
                                                                                              (Prod.snd
                                                                                                (Prod.snd
                                                                                                  (Prod.snd
                                                                                                    (Prod.snd x))))))))
                                                                                    none)
                                                                                  none)
                                                                                none)
                                                                            (some false))
                                                                          (some false))
                                                                        (some false))
                                                                      (some false)))))
                                                              (cnd (!Prod.snd (Prod.snd b_6)) (some true)
                                                                (cnd (decide ((1 : Int) ≤ Prod.fst (Prod.snd b_6)))
                                                                  (cnd
                                                                    (decide
                                                                      (Prod.fst (Prod.snd b_6) ≤
                                                                        (↑(List.length
                                                                            (Prod.snd
                                                                              (Prod.snd (Prod.snd (Prod.snd x))))) : Int)))
                                                                    (cnd (decide ((0 : Int) ≤ Prod.fst b_6))
                                                                      (cnd (decide (Prod.fst b_6 ≤ (1073741824 : Int)))
                                                                        (obind (W_bits_Put N ([], Prod.fst b_6))
                                                                          fun (b : List Int) =>
                                                                          cnd
                                                                            (List.all b fun (n : Int) =>
                                                                              decide ((0 : Int) ≤ n) &&
                                                                                decide (n < (256 : Int)))
                                                                            (cnd
                                                                              (decide
                                                                                  ((0 : Int) ≤ Prod.fst (Prod.snd b_6)) &&
                                                                                decide
                                                                                  (Prod.fst (Prod.snd b_6) ≤
                                                                                    (↑(List.length
                                                                                        (Prod.snd
                                                                                          (Prod.snd
                                                                                            (Prod.snd (Prod.snd x))))) : Int)))
                                                                              (cnd
                                                                                (List.all
                                                                                  (List.drop (0 : Nat)
                                                                                    (List.take
                                                                                      (Int.toNat
                                                                                        (Prod.fst (Prod.snd b_6)))
                                                                                      (Prod.snd
                                                                                        (Prod.snd
                                                                                          (Prod.snd (Prod.snd x))))))
                                                                                  fun (n : Int) =>
                                                                                  decide ((0 : Int) ≤ n) &&
                                                                                    decide (n < (256 : Int)))
                                                                                (some
                                                                                  (bytesI b ==
                                                                                    bytesI
                                                                                      (List.drop (0 : Nat)
                                                                                        (List.take
                                                                                          (Int.toNat
                                                                                            (Prod.fst (Prod.snd b_6)))
                                                                                          (Prod.snd
                                                                                            (Prod.snd
                                                                                              (Prod.snd
                                                                                                (Prod.snd x))))))))
                                                                                none)
                                                                              none)
                                                                            none)
                                                                        (some false))
                                                                      (some false))
                                                                    (some false))
                                                                  (some false)))))
                                        none)
                                      none)
                                  none)
                                none)
                              none)
                          none)
                        none)
                    none)
                  none))))
theorem F_law11_BitsBack_eq (N : Nat) (x : Int × (List UInt8) × (List Int) × Int × List Int) : F_law11_BitsBack (W_bits_Put N) (W_bits_PutText N) (W_bits_Take N) (W_bits_TakeText N) N x = W_law11_BitsBack N x := (FV_law11_BitsBack_eq (W_bits_Put N) (W_bits_PutText N) (W_bits_Take N) (W_bits_TakeText N) N x).trans (by kernel_rfl)
noncomputable def conw_law11_BitsBack (w : Int × (List UInt8) × (List Int) × Int × List Int → Option (Bool)) : Con := ⟨6, as_law11_BitsBack, bs_law11_BitsBack, Bool, w, out_law11_BitsBack⟩
noncomputable def con_law11_BitsBack (N : Nat) : Con := conw_law11_BitsBack (W_law11_BitsBack N)
theorem R_law11_BitsBack_eq (x : Int × (List UInt8) × (List Int) × Int × List Int) (y : Bool) : retOf2 P0 Try.f6 (kpL []) (lbOf as_law11_BitsBack bs_law11_BitsBack x) (patS ⟨185, [], [], []⟩ pout_law11_BitsBack y) = some (out_law11_BitsBack y) := by kernel_rfl
theorem con_law11_BitsBack_ok (N : Nat) : Con.ok P0 (con_law11_BitsBack N) := ⟨⟨Try.f6, Try.func6, by kernel_rfl, by kernel_rfl⟩, fun (x : Int × (List UInt8) × (List Int) × Int × List Int) (r : Bool) (hr : W_law11_BitsBack N x = some r) =>
  spec2_evT (Γ := G_law11_BitsBack (W_bits_Put N) (W_bits_PutText N) (W_bits_Take N) (W_bits_TakeText N) N) (Λ := L0) (pout := pout_law11_BitsBack) (kp := kpL []) mixed (orcOf_ok _ (by simp only [List.mem_cons, List.not_mem_nil, or_false, forall_eq_or_imp, forall_eq]; exact ⟨con_law11_begun_ok N, con_bits_Put_ok N, con_bits_PutText_ok N, con_bits_Take_ok N, con_bits_TakeText_ok N⟩)) Try.func6 (c := bodyOf Try.f6) (by kernel_rfl) (by kernel_rfl) (of_decide_eq_true (by kernel_rfl)) ((F_law11_BitsBack_eq N x).trans hr) (R_law11_BitsBack_eq x r)⟩
/-! What is reckoned. -/
-- PURE
theorem wr_m {z : Int} (h : -140737488355328 ≤ z) (h2 : z ≤ 140737488355328) : wr .i64 z = z := wr_i64 (by omega) (by omega)
theorem cnd_T {α : Type} {p : Prop} {i : Decidable p} {x y : α} (h : p) : cnd (@decide p i) x y = x := by rw [decide_eq_true h]; rfl
theorem cnd_F {α : Type} {p : Prop} {i : Decidable p} {x y : α} (h : ¬ p) : cnd (@decide p i) x y = y := by rw [decide_eq_false h]; rfl
def U8 (l : List Int) : Prop := ∀ n ∈ l, 0 ≤ n ∧ n ≤ 255
theorem U8_all {l : List Int} (h : U8 l) : (List.all l fun (n : Int) => decide ((0 : Int) ≤ n) && decide (n < (256 : Int))) = true := by
  rw [List.all_eq_true]
  intro n hn
  have := h n hn
  simp only [Bool.and_eq_true, decide_eq_true_eq]; omega
theorem U8_app {a b : List Int} (ha : U8 a) (hb : U8 b) : U8 (a ++ b) := fun n hn => (List.mem_append.1 hn).elim (ha n) (hb n)
theorem U8_take {a : List Int} (ha : U8 a) (k : Nat) : U8 (a.take k) := fun n hn => ha n (List.mem_of_mem_take hn)
theorem U8_drop {a : List Int} (ha : U8 a) (k : Nat) : U8 (a.drop k) := fun n hn => ha n (List.mem_of_mem_drop hn)
theorem U8_get {a : List Int} (ha : U8 a) (j : Nat) (hj : j < a.length) : 0 ≤ a.getD j 0 ∧ a.getD j 0 ≤ 255 := by
  rw [List.getD_eq_getElem?_getD, List.getElem?_eq_getElem hj]
  exact ha _ (List.getElem_mem hj)
def encF : Nat → Int → List Int
  | 0, v => [v]
  | k + 1, v => if v < 128 then [v] else (v % 128 + 128) :: encF k (v / 128)
theorem encF_U8 : ∀ (k : Nat) (v : Int), 0 ≤ v → v < 128 * 128 ^ k → U8 (encF k v) ∧ (encF k v).length ≤ k + 1 ∧ 0 < (encF k v).length
  | 0, v, h, h2 => by
    refine ⟨fun n hn => ?_, by simp [encF], by simp [encF]⟩
    simp only [encF, List.mem_singleton] at hn
    subst hn
    simp at h2
    omega
  | k + 1, v, h, h2 => by
    simp only [encF]
    split
    · refine ⟨fun n hn => ?_, by simp, by simp⟩
      simp only [List.mem_singleton] at hn
      subst hn; omega
    · have h3 : v < 128 * 128 ^ k * 128 := by rw [Int.pow_succ] at h2; omega
      obtain ⟨a, b, _⟩ := encF_U8 k (v / 128) (by omega) (by omega)
      refine ⟨fun n hn => ?_, by simp only [List.length_cons]; omega, by simp⟩
      rcases List.mem_cons.1 hn with rfl | hn
      · omega
      · exact a n hn
theorem putLoop {f : Int × List Int → Option ((Int × List Int) ⊕ (Int × List Int))} (h1 : ∀ v l, 0 ≤ v → v < 128 → f (v, l) = some (.inr (v, l)))
    (h2 : ∀ v l, 128 ≤ v → v ≤ 1073741824 → l.length ≤ 2000 → f (v, l) = some (.inl (v / 128, l ++ [v % 128 + 128]))) :
    ∀ (k N : Nat) (v : Int) (l : List Int), k < N → 0 ≤ v → v ≤ 1073741824 → v < 128 * 128 ^ k → l.length + k ≤ 2000 → ∃ v' l', loopN N f (v, l) = some (v', l') ∧ l' ++ [v'] = l ++ encF k v ∧ 0 ≤ v' ∧ v' < 128
  | k, 0, v, l, hN, _, _, _, _ => by omega
  | 0, N + 1, v, l, hN, hv, hm, hk, hl => by
    simp at hk
    exact ⟨v, l, by simp only [loopN, h1 v l hv hk], rfl, hv, hk⟩
  | k + 1, N + 1, v, l, hN, hv, hm, hk, hl => by
    by_cases c : v < 128
    · exact ⟨v, l, by simp only [loopN, h1 v l hv c], by simp only [encF, if_pos c], hv, c⟩
    · have h3 : v < 128 * 128 ^ k * 128 := by rw [Int.pow_succ] at hk; omega
      obtain ⟨v', l', e1, e2, e3, e4⟩ := putLoop h1 h2 k N (v / 128) (l ++ [v % 128 + 128]) (by omega) (by omega) (by omega) (by omega) (by simp only [List.length_append, List.length_singleton]; omega)
      refine ⟨v', l', by simp only [loopN, h2 v l (by omega) hm (by omega)]; exact e1, ?_, e3, e4⟩
      rw [e2]
      simp only [encF, if_neg c, List.append_assoc, List.singleton_append]
def enc (v : Int) : List Int := encF 4 v
theorem Clone_b (N : Nat) (l : List Int) (hl : l.length ≤ 1000) : W_bytes_Clone N l = some l := by
  unfold W_bytes_Clone
  rw [dT (by omega), cnd_t]
theorem stepP1 (v : Int) (l : List Int) (h : v < 128) : cnd (decide ((128 : Int) ≤ v))
              (cnd (decide ((List.length l + List.length [wr IntKind.u8 (wr IntKind.i64 (Int.tmod v (128 : Int) + (128 : Int)))]) * (1 : Nat) ≤ (140737488355328 : Nat)))
                (some (Sum.inl (wr IntKind.i64 (Int.tdiv v (128 : Int)), l ++ [wr IntKind.u8 (wr IntKind.i64 (Int.tmod v (128 : Int) + (128 : Int)))])))
                none)
              (some (Sum.inr (v, l) : (Int × List Int) ⊕ (Int × List Int))) = some (Sum.inr (v, l)) := by rw [dF (by omega), cnd_f]
theorem stepP2 (v : Int) (l : List Int) (h : 128 ≤ v) (h2 : v ≤ 1073741824) (hl : l.length ≤ 2000) : cnd (decide ((128 : Int) ≤ v))
              (cnd (decide ((List.length l + List.length [wr IntKind.u8 (wr IntKind.i64 (Int.tmod v (128 : Int) + (128 : Int)))]) * (1 : Nat) ≤ (140737488355328 : Nat)))
                (some (Sum.inl (wr IntKind.i64 (Int.tdiv v (128 : Int)), l ++ [wr IntKind.u8 (wr IntKind.i64 (Int.tmod v (128 : Int) + (128 : Int)))])))
                none)
              (some (Sum.inr (v, l) : (Int × List Int) ⊕ (Int × List Int))) = some (Sum.inl (v / 128, l ++ [v % 128 + 128])) := by
  rw [dT h, cnd_t, Int.tmod_eq_emod_of_nonneg (by omega), Int.tdiv_eq_ediv_of_nonneg (by omega), wr_m (by omega) (by omega), wr_m (by omega) (by omega), wr_u8 (by omega) (by omega), dT (by simp only [List.length_singleton]; omega), cnd_t]
theorem Put_eq (N : Nat) (hN : 100 ≤ N) (l : List Int) (v : Int) (hl : l.length ≤ 1000) (h0 : 0 ≤ v) (h1 : v ≤ 1073741824) : W_bits_Put N (l, v) = some (l ++ enc v) := by
  unfold W_bits_Put
  simp only [Clone_b N l hl, obind_s]
  rw [dF (by omega), cnd_f, dF (by omega), cnd_f]
  obtain ⟨v', l', e1, e2, e3, e4⟩ := putLoop (f := fun (v : Int × List Int) => cnd (decide ((128 : Int) ≤ Prod.fst v))
              (cnd (decide ((List.length (Prod.snd v) + List.length [wr IntKind.u8 (wr IntKind.i64 (Int.tmod (Prod.fst v) (128 : Int) + (128 : Int)))]) * (1 : Nat) ≤ (140737488355328 : Nat)))
                (some (Sum.inl (wr IntKind.i64 (Int.tdiv (Prod.fst v) (128 : Int)), Prod.snd v ++ [wr IntKind.u8 (wr IntKind.i64 (Int.tmod (Prod.fst v) (128 : Int) + (128 : Int)))])))
                none)
              (some (Sum.inr (Prod.fst v, Prod.snd v)))) (fun v l h h2 => stepP1 v l h2) (fun v l h h2 hl => stepP2 v l h h2 hl) 4 N v l (by omega) h0 h1 (by omega) (by omega)
  rw [e1, obind_s]
  simp only
  have hlen : l'.length ≤ 1010 := by
    have := congrArg List.length e2
    have h3 := (encF_U8 4 v h0 (by omega)).2.1
    simp only [List.length_append, List.length_singleton] at this
    omega
  rw [wr_u8 e3 (by omega), dT (by simp only [List.length_singleton]; omega), cnd_t, e2]
  rfl
theorem enc_U8 {v : Int} (h0 : 0 ≤ v) (h1 : v ≤ 1073741824) : U8 (enc v) ∧ (enc v).length ≤ 5 ∧ 0 < (enc v).length := encF_U8 4 v h0 (by omega)
def by8 (s : List UInt8) : List Int := List.map (fun (b : UInt8) => (↑(UInt8.toNat b) : Int)) s
theorem by8_U8 (s : List UInt8) : U8 (by8 s) := by
  intro n hn
  obtain ⟨b, _, rfl⟩ := List.mem_map.1 hn
  have := b.toNat_lt
  omega
theorem PutText_eq (N : Nat) (hN : 100 ≤ N) (l : List Int) (s : List UInt8) (hl : l.length ≤ 1000) (hs : s.length ≤ 200) : W_bits_PutText N (l, s) = some (l ++ enc s.length ++ by8 s) := by
  have h3 := (enc_U8 (v := (s.length : Int)) (by omega) (by omega)).2.1
  unfold W_bits_PutText
  simp only
  rw [dF (by omega), cnd_f, Put_eq N hN l _ hl (by omega) (by omega), obind_s, dT (by simp only [List.length_append, List.length_map]; omega), cnd_t]
  rfl
/-- The number that bytes begin with. -/
def rd : List Int → Nat → Int → Int → Option (Int × Int)
  | [], _, _, _ => none
  | c :: r, i, v, u => if 5 ≤ i then none else if c < 128 then (if (0 < i ∧ c = 0) ∨ 1073741824 < v + c % 128 * u then none else some (v + c % 128 * u, (i : Int) + 1)) else rd r (i + 1) (v + c % 128 * u) (u * 128)
theorem rd_big : ∀ (l : List Int) (i : Nat) (v u : Int), U8 l → 1073741824 < v → 0 ≤ u → rd l i v u = none
  | [], _, _, _, _, _, _ => rfl
  | c :: r, i, v, u, hU, hv, hu => by
    have hc := hU c (by simp)
    have hm : 0 ≤ c % 128 * u := Int.mul_nonneg (by omega) hu
    simp only [rd]
    split
    · rfl
    · split
      · rw [if_pos (.inr (by omega))]
      · exact rd_big r _ _ _ (fun n hn => hU n (by simp [hn])) (by omega) (by omega)
theorem rd_rng : ∀ (l : List Int) (i : Nat) (v u : Int) (x n : Int), U8 l → 0 ≤ v → 0 ≤ u → rd l i v u = some (x, n) → 0 ≤ x ∧ x ≤ 1073741824 ∧ (i : Int) + 1 ≤ n ∧ n ≤ i + l.length ∧ n ≤ 5
  | [], _, _, _, _, _, _, _, _, h => by cases h
  | c :: r, i, v, u, x, n, hU, hv, hu, h => by
    have hc := hU c (by simp)
    have hm : 0 ≤ c % 128 * u := Int.mul_nonneg (by omega) hu
    simp only [rd] at h
    split at h
    · cases h
    · split at h
      · split at h
        · cases h
        · rename_i h5 _ hn
          have hn2 : ¬ 1073741824 < v + c % 128 * u := fun q => hn (.inr q)
          injection h with h
          injection h with h1 h2
          subst h1 h2
          simp only [List.length_cons]
          omega
      · have := rd_rng r (i + 1) _ _ x n (fun n hn => hU n (by simp [hn])) (by omega) (by omega) h
        simp only [List.length_cons]
        omega
theorem drop_cons {l : List Int} {i : Nat} (h : i < l.length) : l.drop i = l.getD i 0 :: l.drop (i + 1) := by
  rw [List.drop_eq_getElem_cons h, List.getD_eq_getElem?_getD, List.getElem?_eq_getElem h]; rfl
def pw (i : Nat) : Int := 128 ^ i
theorem pw_succ (i : Nat) : pw (i + 1) = pw i * 128 := Int.pow_succ _ _
theorem pw_pos (i : Nat) : 0 < pw i := Int.pow_pos (by omega)
theorem pw_le {i : Nat} (h : i ≤ 5) : pw i ≤ 34359738368 := by
  have : i = 0 ∨ i = 1 ∨ i = 2 ∨ i = 3 ∨ i = 4 ∨ i = 5 := by omega
  rcases this with rfl | rfl | rfl | rfl | rfl | rfl <;> decide
/-- What a round of either loop knows. -/
structure RdI (x : List Int) (v u : Int) (i : Nat) : Prop where
  le : i ≤ x.length
  i5 : i ≤ 5
  eu : u = pw i
  v0 : 0 ≤ v
  v1 : v < pw i
  same : rd (x.drop i) i v u = rd x 0 0 1
theorem RdI.zero (x : List Int) : RdI x 0 1 0 := ⟨by omega, by omega, rfl, by omega, by decide, rfl⟩
theorem RdI.bnd {x : List Int} {v u : Int} {i : Nat} (h : RdI x v u i) (hU : U8 x) (hi : i < x.length) : 0 ≤ v + x.getD i 0 % 128 * u ∧ v + x.getD i 0 % 128 * u < pw (i + 1) ∧ 0 ≤ x.getD i 0 % 128 * u ∧ x.getD i 0 % 128 * u ≤ 127 * pw i := by
  have hc := U8_get hU i hi
  have hp := pw_pos i
  have e := h.eu
  have v0 := h.v0
  have v1 := h.v1
  have h1 : 0 ≤ x.getD i 0 % 128 * u := Int.mul_nonneg (by omega) (by omega)
  have h2 : x.getD i 0 % 128 * u ≤ 127 * u := Int.mul_le_mul_of_nonneg_right (by omega) (by omega)
  rw [pw_succ]
  refine ⟨by omega, by omega, h1, by omega⟩
theorem RdI.next {x : List Int} {v u : Int} {i : Nat} (h : RdI x v u i) (hU : U8 x) (hi : i < x.length) (h5 : i < 5) (hc : ¬ x.getD i 0 < 128) : RdI x (v + x.getD i 0 % 128 * u) (u * 128) (i + 1) := by
  obtain ⟨b1, b2, _⟩ := h.bnd hU hi
  refine ⟨by omega, by omega, by rw [h.eu, pw_succ], b1, b2, ?_⟩
  rw [← h.same, drop_cons hi]
  simp only [rd]
  rw [if_neg (by omega), if_neg hc]
theorem RdI.at_ {x : List Int} {v u : Int} {i : Nat} (h : RdI x v u i) (hi : i < x.length) : rd x 0 0 1 = if 5 ≤ i then none else if x.getD i 0 < 128 then (if (0 < i ∧ x.getD i 0 = 0) ∨ 1073741824 < v + x.getD i 0 % 128 * u then none else some (v + x.getD i 0 % 128 * u, (i : Int) + 1)) else rd (x.drop (i + 1)) (i + 1) (v + x.getD i 0 % 128 * u) (u * 128) := by
  rw [← h.same, drop_cons hi]
  rfl
theorem RdI.stop {x : List Int} {v u : Int} {i : Nat} (h : RdI x v u i) (hi : x.length ≤ i) : rd x 0 0 1 = none := by
  rw [← h.same, List.drop_eq_nil_of_le hi]; rfl
def tk (o : Option (Int × Int)) : Int × Int × Bool := match o with
  | some (v, n) => (v, n, true)
  | none => (0, 0, false)
theorem read_eq (N : Nat) (hN : 100 ≤ N) (x : List Int) (hx : x.length ≤ 1000) (hU : U8 x) : W_bits_read N x = some (match rd x 0 0 1 with | some p => .inl p | none => .inr ()) := by
  unfold W_bits_read
  refine obind_loop (fun v : Int × Int × Int => ∃ i : Nat, v.2.2 = i ∧ RdI x v.1 v.2.1 i) (fun v => 6 - v.2.2.toNat) (fun r : PUnit ⊕ Int × Int ⊕ PUnit => (r = .inl () ∧ rd x 0 0 1 = none) ∨ ∃ p, r = .inr (.inl p) ∧ rd x 0 0 1 = some p) ⟨0, rfl, RdI.zero x⟩ (by show 6 - Int.toNat 0 < N; omega) ?_ ?_
  · rintro r (⟨rfl, h⟩ | ⟨p, rfl, h⟩)
    · rw [selim_l, h]
    · rw [selim_r, h]
  · rintro ⟨v, u, w⟩ ⟨i, hi, hI⟩
    simp only at hi hI ⊢
    subst hi
    by_cases hlt : (i : Int) < x.length
    case neg => right; rw [dF hlt, cnd_f]; exact ⟨_, rfl, .inl ⟨rfl, hI.stop (by omega)⟩⟩
    have hix : i < x.length := by omega
    rw [dT hlt, cnd_t, Int.toNat_natCast]
    have hat := hI.at_ hix
    rw [dT (Int.natCast_nonneg i), Bool.and_self, cnd_t]
    by_cases h5 : (i : Int) = 5
    · right; rw [dT h5, cnd_t, obind_s, cnd_t]; rw [if_pos (by omega)] at hat
      exact ⟨_, rfl, .inl ⟨rfl, hat⟩⟩
    have hi5 := hI.i5
    rw [if_neg (by omega)] at hat
    have hp := pw_le (i := i) (by omega)
    have hp1 := pw_le (i := i + 1) (by omega)
    have hp0 := pw_pos i
    obtain ⟨b1, b2, b3, b4⟩ := hI.bnd hU hix
    have hc := U8_get hU i hix
    have hu := hI.eu
    have w1 : wr .i64 (Int.tmod (x.getD i 0) 128) = x.getD i 0 % 128 := by rw [Int.tmod_eq_emod_of_nonneg hc.1, wr_m (by omega) (by omega)]
    have w2 : wr .i64 (x.getD i 0 % 128 * u) = x.getD i 0 % 128 * u := wr_m (by omega) (by omega)
    have w3 : wr .i64 (v + x.getD i 0 % 128 * u) = v + x.getD i 0 % 128 * u := wr_m (by omega) (by omega)
    have w4 : wr .i64 (u * 128) = u * 128 := wr_m (by omega) (by omega)
    have w5 : wr .i64 ((i : Int) + 1) = (i : Int) + 1 := wr_m (by omega) (by omega)
    rw [dF h5, cnd_f, obind_s, w1, w2, w3, w4, w5]
    clear w1 w2 w3 w4 w5
    by_cases hm : 1073741824 < v + x.getD i 0 % 128 * u
    · right
      rw [dT hm, cnd_t]
      refine ⟨_, rfl, .inl ⟨rfl, ?_⟩⟩
      rw [hat]
      split
      · rw [if_pos (.inr hm)]
      · exact rd_big _ _ _ _ (U8_drop hU _) hm (by omega)
    rw [dF hm, cnd_f]
    have go : ¬ (0 < i ∧ x.getD i 0 = 0) → (∃ y : Int × Int × Int, cnd (decide (x.getD i 0 < (128 : Int))) (some (Sum.inr (Sum.inr (Sum.inl (v + x.getD i 0 % 128 * u, (i : Int) + 1))))) (some (Sum.inl (v + x.getD i 0 % 128 * u, u * 128, (i : Int) + 1))) = some (.inl y : (Int × Int × Int) ⊕ (PUnit ⊕ Int × Int ⊕ PUnit)) ∧ (∃ i : Nat, y.2.2 = i ∧ RdI x y.1 y.2.1 i) ∧ 6 - y.2.2.toNat < 6 - (i : Int).toNat) ∨
        ∃ r, cnd (decide (x.getD i 0 < (128 : Int))) (some (Sum.inr (Sum.inr (Sum.inl (v + x.getD i 0 % 128 * u, (i : Int) + 1))))) (some (Sum.inl (v + x.getD i 0 % 128 * u, u * 128, (i : Int) + 1))) = some (.inr r : (Int × Int × Int) ⊕ (PUnit ⊕ Int × Int ⊕ PUnit)) ∧ ((r = .inl () ∧ rd x 0 0 1 = none) ∨ ∃ p, r = .inr (.inl p) ∧ rd x 0 0 1 = some p) := by
      intro hz
      by_cases hs : x.getD i 0 < 128
      · right
        rw [dT hs, cnd_t]
        rw [if_pos hs, if_neg (fun q => q.elim hz hm)] at hat
        exact ⟨_, rfl, .inr ⟨_, rfl, hat⟩⟩
      · left
        rw [dF hs, cnd_f]
        refine ⟨(v + x.getD i 0 % 128 * u, u * 128, (i : Int) + 1), rfl, ⟨i + 1, (Int.natCast_succ i).symm, hI.next hU hix (by omega) hs⟩, ?_⟩
        show 6 - ((i : Int) + 1).toNat < 6 - (i : Int).toNat
        omega
    by_cases hz0 : x.getD i 0 = 0
    · rw [dT hz0, cnd_t]
      by_cases hi0 : (0 : Int) < (i : Int)
      · right
        rw [dT hi0, cnd_t]
        rw [if_pos (show x.getD i 0 < 128 by omega), if_pos (.inl ⟨by omega, hz0⟩)] at hat
        exact ⟨_, rfl, .inl ⟨rfl, hat⟩⟩
      · rw [dF hi0, cnd_f]
        exact go (fun q => hi0 (by omega))
    · rw [dF hz0, cnd_f]
      exact go (fun q => hz0 q.2)
theorem Take_eq (N : Nat) (hN : 100 ≤ N) (x : List Int) (hx : x.length ≤ 1000) (hU : U8 x) : W_bits_Take N x = some (tk (rd x 0 0 1)) := by
  unfold W_bits_Take
  rw [read_eq N hN x hx hU, obind_s]
  cases rd x 0 0 1 with
  | none => rfl
  | some p => rfl
/-- The text that bytes begin with. -/
def tt (x : List Int) : List UInt8 × Int × Bool := match rd x 0 0 1 with
  | some (v, n) => if (x.length : Int) - n < v then ([], 0, false) else (bytesI ((x.take (n + v).toNat).drop n.toNat), n + v, true)
  | none => ([], 0, false)
theorem TakeText_eq (N : Nat) (hN : 100 ≤ N) (x : List Int) (hx : x.length ≤ 1000) (hU : U8 x) : W_bits_TakeText N x = some (tt x) := by
  unfold W_bits_TakeText tt
  rw [read_eq N hN x hx hU, obind_s]
  cases hr : rd x 0 0 1 with
  | none => rfl
  | some p =>
    obtain ⟨v, n⟩ := p
    obtain ⟨h1, h2, h3, h4, h5⟩ := rd_rng x 0 0 1 v n hU (by omega) (by omega) hr
    simp only [selim_l]
    have w1 : wr .i64 ((x.length : Int) - n) = (x.length : Int) - n := wr_m (by omega) (by omega)
    have w2 : wr .i64 (n + v) = n + v := wr_m (by omega) (by omega)
    rw [w1, w2]
    clear w1 w2
    by_cases hc : (x.length : Int) - n < v
    · rw [dT hc, cnd_t, if_pos hc]
    · rw [dF hc, cnd_f, if_neg hc, dT (by omega), dT (by omega), dT (by omega), Bool.and_self, Bool.and_self, cnd_t, U8_all (U8_drop (U8_take hU _) _), cnd_t]
theorem mul_split (v u : Int) : v % 128 * u + v / 128 * (u * 128) = v * u := by
  have h := Int.emod_add_mul_ediv v 128
  have e : v / 128 * (u * 128) = 128 * (v / 128) * u := by rw [Int.mul_comm u 128, ← Int.mul_assoc, Int.mul_comm (v / 128) 128]
  rw [e, ← Int.add_mul, h]
theorem rd_enc : ∀ (k : Nat) (v : Int) (r : List Int) (i : Nat) (acc u : Int), 0 ≤ v → v < 128 * 128 ^ k → i + k ≤ 4 → (0 < i → 0 < v) → acc + v * u ≤ 1073741824 → 0 ≤ u → rd (encF k v ++ r) i acc u = some (acc + v * u, (i : Int) + ((encF k v).length : Int))
  | 0, v, r, i, acc, u, h0, h1, hi, hp, hm, hu => by
    simp at h1
    simp only [encF, List.singleton_append, rd]
    rw [if_neg (by omega), if_pos h1, if_neg (by
      rintro (⟨a, b⟩ | a)
      · have := hp a; omega
      · rw [Int.emod_eq_of_lt h0 h1] at a; omega), Int.emod_eq_of_lt h0 h1]
    rfl
  | k + 1, v, r, i, acc, u, h0, h1, hi, hp, hm, hu => by
    simp only [encF]
    split
    · rename_i hv
      simp only [List.singleton_append, rd]
      rw [if_neg (by omega), if_pos hv, if_neg (by
        rintro (⟨a, b⟩ | a)
        · have := hp a; omega
        · rw [Int.emod_eq_of_lt h0 hv] at a; omega), Int.emod_eq_of_lt h0 hv]
      rfl
    · rename_i hv
      have h3 : v < 128 * 128 ^ k * 128 := by rw [Int.pow_succ] at h1; omega
      have e1 : (v % 128 + 128) % 128 = v % 128 := by omega
      have e2 : acc + v % 128 * u + v / 128 * (u * 128) = acc + v * u := by rw [Int.add_assoc, mul_split]
      simp only [List.cons_append, rd]
      rw [if_neg (by omega), if_neg (by omega), e1, rd_enc k (v / 128) r (i + 1) (acc + v % 128 * u) (u * 128) (by omega) (by omega) (by omega) (fun _ => by omega) (by rw [e2]; exact hm) (by omega), e2]
      simp only [List.length_cons]
      congr 2
      omega
theorem rd_big8 : ∀ (l : List Int) (i : Nat) (v u : Int), (∀ n ∈ l, 128 ≤ n) → rd l i v u = none
  | [], _, _, _, _ => rfl
  | c :: r, i, v, u, h => by
    have hc := h c (by simp)
    simp only [rd]
    split
    · rfl
    · rw [if_neg (by omega)]
      exact rd_big8 r _ _ _ (fun n hn => h n (by simp [hn]))
theorem enc_front : ∀ (k : Nat) (v : Int) (j : Nat), 0 ≤ v → j < (encF k v).length → ∀ n ∈ (encF k v).take j, 128 ≤ n
  | 0, v, j, h, hj => by
    simp only [encF, List.length_singleton] at hj
    have : j = 0 := by omega
    subst this
    simp
  | k + 1, v, j, h, hj => by
    simp only [encF] at hj ⊢
    split at hj
    · simp only [List.length_singleton] at hj
      have : j = 0 := by omega
      subst this
      simp
    · rename_i hv
      rw [if_neg hv]
      cases j with
      | zero => simp
      | succ j =>
        simp only [List.length_cons] at hj
        intro n hn
        rw [List.take_succ_cons] at hn
        rcases List.mem_cons.1 hn with rfl | hn
        · omega
        · exact enc_front k (v / 128) j (by omega) (by omega) n hn
theorem rd_back : ∀ (l : List Int) (i : Nat) (acc u x n : Int), U8 l → 0 ≤ u → rd l i acc u = some (x, n) → ∃ d : Int, ∃ m : Nat, x = acc + d * u ∧ 0 ≤ d ∧ (0 < i → 0 < d) ∧ n = (i : Int) + m ∧ i ≤ 4 ∧ encF (4 - i) d = l.take m
  | [], _, _, _, _, _, _, _, h => by cases h
  | c :: r, i, acc, u, x, n, hU, hu, h => by
    have hc := hU c (by simp)
    simp only [rd] at h
    split at h
    · cases h
    · rename_i h5
      split at h
      · rename_i hs
        split at h
        · cases h
        · rename_i hno
          injection h with h
          injection h with h1 h2
          have e1 : c % 128 = c := Int.emod_eq_of_lt hc.1 hs
          refine ⟨c, 1, by rw [← h1, e1], hc.1, fun hi => ?_, by omega, by omega, ?_⟩
          · have : ¬ c = 0 := fun e => hno (.inl ⟨hi, e⟩)
            omega
          · rw [List.take_succ_cons, List.take_zero]
            cases 4 - i with
            | zero => rfl
            | succ k => simp only [encF, if_pos hs]
      · rename_i hs
        obtain ⟨d, m, e1, e2, e3, e4, e5, e6⟩ := rd_back r (i + 1) _ _ x n (fun n hn => hU n (by simp [hn])) (by omega) h
        have hd := e3 (by omega)
        refine ⟨c % 128 + 128 * d, m + 1, ?_, by omega, fun _ => by omega, by omega, by omega, ?_⟩
        · rw [e1, Int.add_mul, ← Int.add_assoc, Int.mul_comm u 128, ← Int.mul_assoc, Int.mul_comm d 128]
        · have e7 : 4 - i = 4 - (i + 1) + 1 := by omega
          rw [e7]
          simp only [encF]
          rw [if_neg (by omega), show (c % 128 + 128 * d) % 128 + 128 = c by omega, show (c % 128 + 128 * d) / 128 = d by omega, e6, List.take_succ_cons]
theorem bytes_by8 (s : List UInt8) : bytesI (by8 s) = s := by
  unfold bytesI by8
  rw [List.map_map]
  conv => rhs; rw [← List.map_id s]
  apply List.map_congr_left
  intro b _
  simp
theorem rd_put {v : Int} (h0 : 0 ≤ v) (h1 : v ≤ 1073741824) (r : List Int) : rd (enc v ++ r) 0 0 1 = some (v, ((enc v).length : Int)) := by
  have := rd_enc 4 v r 0 0 1 h0 (by omega) (by omega) (fun h => by omega) (by omega) (by omega)
  unfold enc
  rw [this]
  congr 2 <;> omega
theorem rd_cut {v : Int} (h0 : 0 ≤ v) {j : Nat} (hj : j < (enc v).length) : rd ((enc v).take j) 0 0 1 = none := rd_big8 _ _ _ _ (enc_front 4 v j h0 hj)
theorem tt_put (s : List UInt8) (r : List Int) (hs : s.length ≤ 200) : tt (enc s.length ++ by8 s ++ r) = (s, (((enc s.length ++ by8 s).length : Nat) : Int), true) := by
  have hb : (by8 s).length = s.length := by simp [by8]
  unfold tt
  rw [List.append_assoc, rd_put (by omega) (by omega)]
  simp only
  rw [if_neg (by simp only [List.length_append, hb]; omega)]
  have e1 : (((enc s.length).length : Int) + (s.length : Int)).toNat = (enc s.length ++ by8 s).length := by rw [List.length_append, hb]; omega
  rw [e1, ← List.append_assoc, List.take_left, Int.toNat_natCast, List.drop_left, bytes_by8]
  rw [List.length_append, hb]
  congr 2
theorem tt_cut (s : List UInt8) (j : Nat) (hs : s.length ≤ 200) (hj : j < (enc s.length ++ by8 s).length) : (tt ((enc s.length ++ by8 s).take j)).2.2 = false := by
  have hb : (by8 s).length = s.length := by simp [by8]
  rw [List.length_append, hb] at hj
  unfold tt
  by_cases c : j < (enc s.length).length
  · rw [List.take_append_of_le_length (by omega), rd_cut (by omega) c]
  · have e : (enc s.length ++ by8 s).take j = enc s.length ++ (by8 s).take (j - (enc s.length).length) := by
      rw [List.take_append, List.take_of_length_le (by omega)]
    rw [e, rd_put (by omega) (by omega)]
    simp only
    rw [if_pos (by simp only [List.length_append, List.length_take, hb]; omega)]
theorem cut_eq (b : List Int) (h : Int) : List.drop ((0 : Nat) + (cutT (0 : Nat) (List.length b) (List.length b) none (some h)).2.1) (List.take ((0 : Nat) + (cutT (0 : Nat) (List.length b) (List.length b) none (some h)).2.1 + ((cutT (0 : Nat) (List.length b) (List.length b) none (some h)).2.2 - (cutT (0 : Nat) (List.length b) (List.length b) none (some h)).2.1)) b) = b.take h.toNat := by
  simp [cutT]
theorem Put0 (N : Nat) (hN : 100 ≤ N) (v : Int) (h0 : 0 ≤ v) (h1 : v ≤ 1073741824) : W_bits_Put N ([], v) = some (enc v) := by rw [Put_eq N hN [] v (by simp) h0 h1, List.nil_append]
theorem PutText0 (N : Nat) (hN : 100 ≤ N) (s : List UInt8) (hs : s.length ≤ 200) : W_bits_PutText N ([], s) = some (enc s.length ++ by8 s) := by rw [PutText_eq N hN [] s (by simp) hs, List.nil_append]
theorem tail_eq (N : Nat) (hN : 100 ≤ N) (b : List Int) (w e : Int) (hb : U8 b) (hl : b.length ≤ 10) (hr : rd b 0 0 1 = some (w, e)) : (cnd (decide ((1 : Int) ≤ e))
                                                                (cnd
                                                                  (decide (e ≤ (↑(List.length b) : Int)))
                                                                  (cnd (decide ((0 : Int) ≤ w))
                                                                    (cnd (decide (w ≤ (1073741824 : Int)))
                                                                      (obind (W_bits_Put N ([], w))
                                                                        fun (q : List Int) =>
                                                                        cnd
                                                                          (List.all q fun (n : Int) =>
                                                                            decide ((0 : Int) ≤ n) &&
                                                                              decide (n < (256 : Int)))
                                                                          (cnd
                                                                            (decide ((0 : Int) ≤ e) &&
                                                                              decide (e ≤ (↑(List.length b) : Int)))
                                                                            (cnd
                                                                              (List.all
                                                                                (List.drop (0 : Nat) (List.take (Int.toNat e) b))
                                                                                fun (n : Int) =>
                                                                                decide ((0 : Int) ≤ n) &&
                                                                                  decide (n < (256 : Int)))
                                                                              (some (bytesI q == bytesI (List.drop (0 : Nat) (List.take (Int.toNat e) b))))
                                                                              none)
                                                                            none)
                                                                          none)
                                                                      (some false))
                                                                    (some false))
                                                                  (some false))
                                                                (some false)) = some true := by
  obtain ⟨h1, h2, h3, h4, h5⟩ := rd_rng b 0 0 1 w e hb (by omega) (by omega) hr
  obtain ⟨d, m, e1, e2, e3, e4, e5, e6⟩ := rd_back b 0 0 1 w e hb (by omega) hr
  have hd : d = w := by omega
  subst hd
  have hm : e.toNat = m := by omega
  have e7 : enc d = b.take m := e6
  rw [dT (by omega), cnd_t, dT (by omega), cnd_t, dT h1, cnd_t, dT h2, cnd_t, Put_eq N hN [] d (by simp) h1 h2, obind_s, List.nil_append, U8_all (enc_U8 h1 h2).1, cnd_t, dT (by omega), Bool.true_and, cnd_t, U8_all (U8_drop (U8_take hb _) _), cnd_t, hm, List.drop_zero, e7, BEq.rfl]
theorem law_aux (N : Nat) (hN : 100 ≤ N) (v : Int) (s : List UInt8) (behind : List Int) (cut : Int) (b : List Int) (hv : 0 ≤ v ∧ v ≤ 4294967295) (hbe : U8 behind) (hc : 0 ≤ cut ∧ cut ≤ 255) (hb : U8 b) : W_law11_BitsBack N (v, s, behind, cut, b) = some true := by
  unfold W_law11_BitsBack
  simp only
  by_cases c1 : (200 : Int) < s.length
  · rw [dT c1, cnd_t, obind_s, cnd_t]
  rw [dF c1, cnd_f, obind_s]
  by_cases c2 : (20 : Int) < behind.length
  · rw [dT c2, cnd_t]
  rw [dF c2, cnd_f]
  by_cases c3 : (10 : Int) < b.length
  · rw [dT c3, cnd_t]
  rw [dF c3, cnd_f, wr_m (z := v) (by omega) (by omega), wr_m (z := cut) (by omega) (by omega), Int.tmod_eq_emod_of_nonneg hv.1]
  have hn0 : 0 ≤ v % 1073741825 := Int.emod_nonneg _ (by omega)
  have hn1 : v % 1073741825 ≤ 1073741824 := by have := Int.emod_lt_of_pos v (show (0 : Int) < 1073741825 by omega); omega
  generalize v % 1073741825 = n at *
  have he := enc_U8 hn0 hn1
  have hes := enc_U8 (v := (s.length : Int)) (by omega) (by omega)
  have hyl : (enc s.length ++ by8 s).length ≤ 300 := by rw [List.length_append]; simp only [by8, List.length_map]; omega
  have hyp : 0 < (enc s.length ++ by8 s).length := by rw [List.length_append]; omega
  have hyU : U8 (enc s.length ++ by8 s) := U8_app hes.1 (by8_U8 s)
  rw [Put0 N hN n hn0 hn1, obind_s, PutText0 N hN s (by omega), obind_s]
  have q1 := rd_put hn0 hn1 behind
  have q2 : ∀ j : Nat, j < (enc n).length → rd ((enc n).take j) 0 0 1 = none := fun j hj => rd_cut hn0 hj
  have q3 := tt_put s behind (by omega)
  have q4 := fun j => tt_cut s j (by omega)
  generalize enc n = x at *
  generalize enc s.length ++ by8 s = y at *
  rw [dF (show ¬ (x.length : Int) = 0 by omega), dF (show ¬ (y.length : Int) = 0 by omega)]
  simp only [Bool.not_false, cnd_f, cnd_t]
  have hx1 : Int.tmod cut (x.length : Int) = cut % x.length := Int.tmod_eq_emod_of_nonneg hc.1
  have hy1 : Int.tmod cut (y.length : Int) = cut % y.length := Int.tmod_eq_emod_of_nonneg hc.1
  rw [hx1, hy1]
  have hx2 : 0 ≤ cut % (x.length : Int) := Int.emod_nonneg _ (by omega)
  have hx3 : cut % (x.length : Int) < x.length := Int.emod_lt_of_pos _ (by omega)
  have hy2 : 0 ≤ cut % (y.length : Int) := Int.emod_nonneg _ (by omega)
  have hy3 : cut % (y.length : Int) < y.length := Int.emod_lt_of_pos _ (by omega)
  rw [cut_eq]
  generalize cut % (x.length : Int) = p at *
  generalize cut % (y.length : Int) = q at *
  have p1 := q2 p.toNat (by omega)
  have p2 := q4 q.toNat (by omega)
  have t1 := Take_eq N hN (x ++ behind) (by simp only [List.length_append]; omega) (U8_app he.1 hbe)
  have t2 := TakeText_eq N hN (y ++ behind) (by simp only [List.length_append]; omega) (U8_app hyU hbe)
  have t3 := Take_eq N hN (x.take p.toNat) (by rw [List.length_take]; omega) (U8_take he.1 _)
  have t4 := TakeText_eq N hN (y.take q.toNat) (by rw [List.length_take]; omega) (U8_take hyU _)
  have t5 := Take_eq N hN b (by omega) hb
  rw [q1] at t1
  replace t1 : W_bits_Take N (x ++ behind) = some (n, (x.length : Int), true) := t1
  rw [q3] at t2
  rw [p1] at t3
  replace t3 : W_bits_Take N (x.take p.toNat) = some ((0 : Int), (0 : Int), false) := t3
  obtain ⟨⟨z1, z2, z3⟩, hz⟩ : ∃ z, z = tt (y.take q.toNat) := ⟨_, rfl⟩
  rw [← hz] at t4 p2
  simp only at p2
  subst p2
  have g0 : Option.getD (none : Option Int) (0 : Int) = 0 := rfl
  rw [dT (show List.length x * 1 ≤ 140737488355328 by omega), cnd_t, dT (show (List.length x + List.length behind) * 1 ≤ 140737488355328 by omega), cnd_t, t1, obind_s, dT (show List.length y * 1 ≤ 140737488355328 by omega), cnd_t, dT (show (List.length y + List.length behind) * 1 ≤ 140737488355328 by omega), cnd_t, t2, obind_s, g0, dT hx2, cnd_t, dT (show ((0 : Nat) : Int) + p ≤ x.length by omega), cnd_t, t3, obind_s, dT hy2, dT (show q ≤ (y.length : Int) by omega), Bool.and_self, cnd_t, List.drop_zero, t4, obind_s]
  cases hr : rd b 0 0 1 with
  | none =>
    rw [hr] at t5
    replace t5 : W_bits_Take N b = some ((0 : Int), (0 : Int), false) := t5
    rw [t5, obind_s]
    simp only [Bool.not_true, Bool.not_false, cnd_t, cnd_f, obind_s, ne_eq, not_true_eq_false, decide_false, BEq.rfl]
  | some pr =>
    obtain ⟨w, e⟩ := pr
    rw [hr] at t5
    replace t5 : W_bits_Take N b = some (w, e, true) := t5
    rw [t5, obind_s]
    simp only [Bool.not_true, Bool.not_false, cnd_t, cnd_f, obind_s, ne_eq, not_true_eq_false, decide_false, BEq.rfl]
    exact tail_eq N hN b w e hb (by omega) hr
def NN : Nat := 100
theorem law_true (y0 : Int) (y1 : List UInt8) (y2 : List Int) (y3 : Int) (y4 : List Int) (h0 : Twf (.int .u32) y0) (h1 : Twf .str y1) (h2 : Twf (.list (.int .u8)) y2) (h3 : Twf (.int .u8) y3) (h4 : Twf (.list (.int .u8)) y4) : W_law11_BitsBack NN (y0, y1, y2, y3, y4) = some true :=
  law_aux NN (Nat.le_refl _) y0 y1 y2 y3 y4 h0 h2.2 h3 h4.2

theorem spec (y0 : Int) (y1 : List UInt8) (y2 : List Int) (y3 : Int) (y4 : List Int) (h0 : Twf (.int .u32) y0) (h1 : Twf .str y1) (h2 : Twf (.list (.int .u8)) y2) (h3 : Twf (.int .u8) y3) (h4 : Twf (.list (.int .u8)) y4) : Spec2 P0 6 [valW (.int .u32) y0, valW .str y1, valW (.list (.int .u8)) y2, valW (.int .u8) y3, valW (.list (.int .u8)) y4] [] (.bs true) [] [] := (con_law11_BitsBack_ok NN).2 (y0, y1, y2, y3, y4) true (law_true y0 y1 y2 y3 y4 h0 h1 h2 h3 h4)
theorem lifted (os : Os) (started : os.Started) (H : Type) (enc : TypeId × Value → H) :
    ReturnsInHanded {} Try.checked os 6 .any (Rows.bitsBackSpec.pre6 enc Try.prog Try.f6 Rows.bitsBackRow.domain false) (Rows.bitsBackSpec.post enc Try.prog Try.f6 false true false false) := by
  refine returnsInHanded_of_change (C := Try.checked) own started (by kernel_rfl) Try.func6
    (ChangeSpec.witness6 (enc := enc) (C := Try.checked) false ⟨#[], #[.int .u32 0, .string ⟨#[]⟩, .slice none 0 0, .int .u8 0, .slice none 0 0], []⟩ 8 (by kernel_rfl) (by kernel_rfl) (by kernel_rfl) (by kernel_rfl)) ?_
  intro W base args ds gs before hval0 hW hcnd _
  have hval : ∀ (j : Nat) t v, Try.f6.params[j]? = some t → args[j]? = some v → Value.okWide Try.prog W .any base t v := hval0
  have hW' := hW
  obtain ⟨p, q, hA0, hV, rfl, hfz, hnd⟩ := hW
  have hA : DataW.TrodAll enc Try.prog W 0 (fun _ => true) true Try.f6.params.toList args.toList ds p := hA0
  rw [Try.params6] at hA hval
  obtain ⟨v0, vs0, d0, ds0, p0, q0, hargs, rfl, rfl, h0, r0⟩ := trodAll_cons hA
  obtain ⟨v1, vs1, d1, ds1, p1, q1, rfl, rfl, rfl, h1, r1⟩ := trodAll_cons r0
  obtain ⟨v2, vs2, d2, ds2, p2, q2, rfl, rfl, rfl, h2, r2⟩ := trodAll_cons r1
  obtain ⟨v3, vs3, d3, ds3, p3, q3, rfl, rfl, rfl, h3, r3⟩ := trodAll_cons r2
  obtain ⟨v4, vs4, d4, ds4, p4, q4, rfl, rfl, rfl, h4, r4⟩ := trodAll_cons r3
  obtain ⟨rfl, rfl, rfl⟩ := trodAll_nil r4
  obtain rfl : args = #[v0, v1, v2, v3, v4] := by cases args; simp_all
  obtain ⟨rfl, rfl⟩ := trodVars_none hV
  have k0 := h0
  have lt0 : ∀ x ∈ p0, x.block < W.heap.size := by obtain ⟨m, hm⟩ := k0; exact DataW.trod_lt m _ _ _ hm
  obtain ⟨y0, rp0, wf0⟩ := arg_ok (n := 12) (ty := (.int .u32)) (by kernel_rfl) (hval 0 _ v0 rfl rfl) h0
  have k1 := h1
  have lt1 : ∀ x ∈ p1, x.block < W.heap.size := by obtain ⟨m, hm⟩ := k1; exact DataW.trod_lt m _ _ _ hm
  obtain ⟨y1, rp1, wf1⟩ := arg_ok (n := 12) (ty := .str) (by kernel_rfl) (hval 1 _ v1 rfl rfl) h1
  have k2 := h2
  have lt2 : ∀ x ∈ p2, x.block < W.heap.size := by obtain ⟨m, hm⟩ := k2; exact DataW.trod_lt m _ _ _ hm
  obtain ⟨y2, rp2, wf2⟩ := arg_ok (n := 12) (ty := (.list (.int .u8))) (by kernel_rfl) (hval 2 _ v2 rfl rfl) h2
  have k3 := h3
  have lt3 : ∀ x ∈ p3, x.block < W.heap.size := by obtain ⟨m, hm⟩ := k3; exact DataW.trod_lt m _ _ _ hm
  obtain ⟨y3, rp3, wf3⟩ := arg_ok (n := 12) (ty := (.int .u8)) (by kernel_rfl) (hval 3 _ v3 rfl rfl) h3
  have k4 := h4
  have lt4 : ∀ x ∈ p4, x.block < W.heap.size := by obtain ⟨m, hm⟩ := k4; exact DataW.trod_lt m _ _ _ hm
  obtain ⟨y4, rp4, wf4⟩ := arg_ok (n := 12) (ty := (.list (.int .u8))) (by kernel_rfl) (hval 4 _ v4 rfl rfl) h4
  clear hA0 hval0
  refine (law_of2 (spec y0 y1 y2 y3 y4 wf0 wf1 wf2 wf3 wf4) W #[v0, v1, v2, v3, v4] (.cons rp0 (.cons rp1 (.cons rp2 (.cons rp3 (.cons rp4 .nil)))))).mono fun e W' ⟨he, bel⟩ => ?_
  subst he
  exact ⟨_, rfl, _, _, _, [], _, [], hW', trodAll_mk1 (shut_bool Try.underlying4 _), (trodAll_cons_mk (Below.trod laidOut (by kernel_rfl) (of_decide_eq_true (by kernel_rfl)) k0 bel lt0) (trodAll_cons_mk (Below.trod laidOut (by kernel_rfl) (of_decide_eq_true (by kernel_rfl)) k1 bel lt1) (trodAll_cons_mk (Below.trod laidOut (by kernel_rfl) (of_decide_eq_true (by kernel_rfl)) k2 bel lt2) (trodAll_cons_mk (Below.trod laidOut (by kernel_rfl) (of_decide_eq_true (by kernel_rfl)) k3 bel lt3) (trodAll_cons_mk (Below.trod laidOut (by kernel_rfl) (of_decide_eq_true (by kernel_rfl)) k4 bel lt4) trodAll_mk0))))), rfl, bel.frame _, fun h => by cases h⟩

theorem over : Rows.bitsBackRow.holds Try.pinned (OpenSpec.ofChange Rows.bitsBackSpec) :=
  OpenClaim.holds_of_wide 6 Try.f6 rfl rfl rfl rfl rfl rfl rfl ⟨rfl, rfl, rfl, rfl, rfl⟩ rfl rfl rfl rfl rfl (by kernel_rfl) Try.func6 (by kernel_rfl)
    (of_decide_eq_true (by kernel_rfl)) (by unfold Func.isWrapper; first | (rw [if_pos (by decide +kernel)]; kernel_rfl) | (rw [if_neg (by decide +kernel)]; exact ⟨rfl, rfl⟩))
    (fun os started H enc _ => lifted os started H enc)

theorem holds : Rows.BitsBackSaid := over
end Go.Proofs.Ytnkalddmjdicfaa.bitsBackX
