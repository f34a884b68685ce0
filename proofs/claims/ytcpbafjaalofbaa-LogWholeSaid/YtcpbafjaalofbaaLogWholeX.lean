/- LogWhole: for all arguments the call returns true. The law is brought to a function of Lean's own (W_..) by the machine of the texts beside it, and that is reckoned; no condition. -/
import Derived.Test.YtcpbafjaalofbaaExtCm
import Derived.Test.YtcpbafjaalofbaaRows
import Derived.WalkKit
import Derived.ProofKit
import Derived.OpenShut
import Derived.ShutString
import Derived.ChangeOld
import Derived.Below
namespace Go.Proofs.Ytcpbafjaalofbaa.logWholeX
open Go.Abs Go.RowKit Go.ChangeShapes Go.WideShapes Go.ChangeAt
set_option maxRecDepth 100000
set_option linter.unusedVariables false
set_option linter.unusedSimpArgs false
noncomputable abbrev P0 : Program := Try.prog
noncomputable def bodyOf (fn : Func) : Code := fn.body.getD .skip
def L0 : Lend := fun f => aget [] [(34, [0]), (36, [0]), (40, [0]), (84, [0])] f
def kpL (l : List Bool) : Nat → Bool := fun j => l.getD j true
theorem own : ownKnob Try.prog.godebug = none := by kernel_rfl
theorem laidOut : laidOutB Try.prog = true := by kernel_rfl
theorem mixed : P0.follows .mixedOrders = true := by decide +kernel
theorem progOk_ : progOk P0 = true := by decide +kernel
def as_slices_Clone_api_Event : List AS := [.val (.list (.agg (.pair (.int .i64) (.pair (.int .i64) (.pair (.int .i64) (.pair .str (.int .i64)))))))]
def bs_slices_Clone_api_Event : List BS := []
def pout_slices_Clone_api_Event : Pat := ⟨[(2, .acc 700005)], [(700005, .nrow 69 (.agg (.pair (.int .i64) (.pair (.int .i64) (.pair (.int .i64) (.pair .str (.int .i64)))))) false true)]⟩
noncomputable def G_slices_Clone_api_Event  (N : Nat) : OrcT := orcOf []
noncomputable def F_slices_Clone_api_Event  (N : Nat) (x : List (Int × Int × Int × (List UInt8) × Int)) : Option (List (Int × Int × Int × (List UInt8) × Int)) :=
  (evT (G_slices_Clone_api_Event  N) L0 P0 []
    [] N 400 (bodyOf Try.f41) ⟨8, slots 0 [.nl ⟨(.agg (.pair (.int .i64) (.pair (.int .i64) (.pair (.int .i64) (.pair .str (.int .i64)))))), x⟩], tabU (lbOf as_slices_Clone_api_Event bs_slices_Clone_api_Event x) [], []⟩).elim (kRet 8 pout_slices_Clone_api_Event (kpL []) (lbOf as_slices_Clone_api_Event bs_slices_Clone_api_Event x))
def out_slices_Clone_api_Event (y : List (Int × Int × Int × (List UInt8) × Int)) : V × List OK × List OK := (.acc 2000000 0, [], [.nrow 69 false true ⟨(.agg (.pair (.int .i64) (.pair (.int .i64) (.pair (.int .i64) (.pair .str (.int .i64)))))), y⟩])
noncomputable def V_slices_Clone_api_Event  (N : Nat) (x : List (Int × Int × Int × (List UInt8) × Int)) : Option (List (Int × Int × Int × (List UInt8) × Int)) :=
  cnd (decide (List.length x * (48:Nat) ≤ (140737488355328:Nat))) (some x) none
theorem FV_slices_Clone_api_Event_eq  (N : Nat) (x : List (Int × Int × Int × (List UInt8) × Int)) : F_slices_Clone_api_Event  N x = V_slices_Clone_api_Event  N x := by kernel_rfl
noncomputable def W_slices_Clone_api_Event (N : Nat) (x : List (Int × Int × Int × (List UInt8) × Int)) : Option (List (Int × Int × Int × (List UInt8) × Int)) := V_slices_Clone_api_Event  N x
theorem F_slices_Clone_api_Event_eq (N : Nat) (x : List (Int × Int × Int × (List UInt8) × Int)) : F_slices_Clone_api_Event  N x = W_slices_Clone_api_Event N x := (FV_slices_Clone_api_Event_eq  N x).trans (by kernel_rfl)
noncomputable def conw_slices_Clone_api_Event (w : List (Int × Int × Int × (List UInt8) × Int) → Option (List (Int × Int × Int × (List UInt8) × Int))) : Con := ⟨41, as_slices_Clone_api_Event, bs_slices_Clone_api_Event, List (Int × Int × Int × (List UInt8) × Int), w, out_slices_Clone_api_Event⟩
noncomputable def con_slices_Clone_api_Event (N : Nat) : Con := conw_slices_Clone_api_Event (W_slices_Clone_api_Event N)
theorem R_slices_Clone_api_Event_eq (x : List (Int × Int × Int × (List UInt8) × Int)) (y : List (Int × Int × Int × (List UInt8) × Int)) : retOf2 P0 Try.f41 (kpL []) (lbOf as_slices_Clone_api_Event bs_slices_Clone_api_Event x) (patS ⟨8, [], [], []⟩ pout_slices_Clone_api_Event y) = some (out_slices_Clone_api_Event y) := by kernel_rfl
noncomputable def FA_slices_Clone_api_Event : Option (List (Int × Int × Int × (List UInt8) × Int)) := (evT (G_slices_Clone_api_Event 1) L0 P0 [] [] 1 400 (bodyOf Try.f41) ⟨8, slots 0 [.snil], tabU [] [], []⟩).elim (kRet 8 pout_slices_Clone_api_Event (kpL []) [])
theorem FA_slices_Clone_api_Event_eq : FA_slices_Clone_api_Event = some [] := by kernel_rfl
theorem WN_slices_Clone_api_Event (N : Nat) (r : List (Int × Int × Int × (List UInt8) × Int)) (h : W_slices_Clone_api_Event N [] = some r) : r = [] := by
  have e : W_slices_Clone_api_Event N [] = some [] := by kernel_rfl
  rw [e] at h; injection h with h; exact h.symm
theorem con_slices_Clone_api_Event_ok (N : Nat) : Con.ok P0 (con_slices_Clone_api_Event N) := ⟨⟨Try.f41, Try.func41, by kernel_rfl, by kernel_rfl⟩, fun (x : List (Int × Int × Int × (List UInt8) × Int)) (r : List (Int × Int × Int × (List UInt8) × Int)) (hr : W_slices_Clone_api_Event N x = some r) =>
  clone_split (e := (.agg (.pair (.int .i64) (.pair (.int .i64) (.pair (.int .i64) (.pair .str (.int .i64))))))) (ty := 69) (l := x) (r := r)
    (spec2_evT (Γ := G_slices_Clone_api_Event 1) (Λ := L0) (lb := []) (pout := pout_slices_Clone_api_Event) (kp := kpL []) mixed (orcOf_ok [] (by simp)) Try.func41 (c := bodyOf Try.f41) (by kernel_rfl) (by kernel_rfl) (of_decide_eq_true (by kernel_rfl)) FA_slices_Clone_api_Event_eq (R_slices_Clone_api_Event_eq x []))
    (spec2_evT (Γ := G_slices_Clone_api_Event N) (Λ := L0) (lb := []) (pout := pout_slices_Clone_api_Event) (kp := kpL []) mixed (orcOf_ok [] (by simp)) Try.func41 (c := bodyOf Try.f41) (by kernel_rfl) (by kernel_rfl) (of_decide_eq_true (by kernel_rfl)) ((F_slices_Clone_api_Event_eq N x).trans hr) (R_slices_Clone_api_Event_eq x r))
    (fun h => by subst h; exact WN_slices_Clone_api_Event N r hr)⟩
noncomputable def u_log_Tell : Uf := ⟨18, 15, Try.f18, [.val (.list (.agg (.pair (.int .i64) (.pair (.int .i64) (.pair (.int .i64) (.pair .str (.int .i64))))))), .val (.int .i64), .val .str], [],
⟨[(6, .val (.list (.agg (.pair (.int .i64) (.pair (.int .i64) (.pair (.int .i64) (.pair .str (.int .i64))))))))], []⟩, [],
[],
[], fun y => (valW (.list (.agg (.pair (.int .i64) (.pair (.int .i64) (.pair (.int .i64) (.pair .str (.int .i64))))))) y, [], [])⟩
noncomputable def V_log_Tell (w_slices_Clone_api_Event : List (Int × Int × Int × (List UInt8) × Int) → Option (List (Int × Int × Int × (List UInt8) × Int))) (N : Nat) (x : (List (Int × Int × Int × (List UInt8) × Int)) × Int × List UInt8) : Option (List (Int × Int × Int × (List UInt8) × Int)) :=
  obind (w_slices_Clone_api_Event x.1) fun b => cnd (decide ((List.length b + List.length [((1:Int), x.2.1, x.2.1, x.2.2, (0:Int))]) * (48:Nat) ≤ (140737488355328:Nat))) (some (b ++ [((1:Int), x.2.1, x.2.1, x.2.2, (0:Int))])) none
theorem q_log_Tell : ∀ w_slices_Clone_api_Event N x, u_log_Tell.F L0 P0 (orcOf [conw_slices_Clone_api_Event w_slices_Clone_api_Event]) N x = V_log_Tell w_slices_Clone_api_Event N x := by intros; kernel_rfl
noncomputable def W_log_Tell (N : Nat) := V_log_Tell (W_slices_Clone_api_Event N) N
theorem con_log_Tell_ok (N : Nat) : (u_log_Tell.con (W_log_Tell N)).ok P0 := Uf.ok mixed (q_log_Tell (W_slices_Clone_api_Event N) N) ⟨con_slices_Clone_api_Event_ok N, trivial⟩ Try.func18 (by kernel_rfl) fun x y => by kernel_rfl
noncomputable def u_log_Skip : Uf := ⟨19, 17, Try.f19, [.val (.list (.agg (.pair (.int .i64) (.pair (.int .i64) (.pair (.int .i64) (.pair .str (.int .i64))))))), .val (.int .i64), .val (.int .i64), .val (.int .i64)], [],
⟨[(8, .val (.list (.agg (.pair (.int .i64) (.pair (.int .i64) (.pair (.int .i64) (.pair .str (.int .i64))))))))], []⟩, [],
[],
[], fun y => (valW (.list (.agg (.pair (.int .i64) (.pair (.int .i64) (.pair (.int .i64) (.pair .str (.int .i64))))))) y, [], [])⟩
noncomputable def V_log_Skip (w_slices_Clone_api_Event : List (Int × Int × Int × (List UInt8) × Int) → Option (List (Int × Int × Int × (List UInt8) × Int))) (N : Nat) (x : (List (Int × Int × Int × (List UInt8) × Int)) × Int × Int × Int) : Option (List (Int × Int × Int × (List UInt8) × Int)) :=
  obind (w_slices_Clone_api_Event x.1) fun b => cnd (decide ((List.length b + (1:Nat)) * (48:Nat) ≤ (140737488355328:Nat))) (some (b ++ [((2:Int), x.2.1, x.2.2.1, [], x.2.2.2)])) none
theorem q_log_Skip : ∀ w_slices_Clone_api_Event N x, u_log_Skip.F L0 P0 (orcOf [conw_slices_Clone_api_Event w_slices_Clone_api_Event]) N x = V_log_Skip w_slices_Clone_api_Event N x := by intros; kernel_rfl
noncomputable def W_log_Skip (N : Nat) := V_log_Skip (W_slices_Clone_api_Event N) N
theorem con_log_Skip_ok (N : Nat) : (u_log_Skip.con (W_log_Skip N)).ok P0 := Uf.ok mixed (q_log_Skip (W_slices_Clone_api_Event N) N) ⟨con_slices_Clone_api_Event_ok N, trivial⟩ Try.func19 (by kernel_rfl) fun x y => by kernel_rfl
noncomputable def u_log_read : Uf := ⟨43, 15, Try.f43, [.val (.agg (.pair (.int .i64) (.pair (.int .i64) (.pair (.int .i64) (.pair .str (.int .i64))))))], [],
⟨[(2, .val (.alt 97 (.agg (.pair (.int .i64) (.pair (.int .i64) (.pair (.int .i64) (.pair .str (.int .i64)))))) (.alt 124 (.agg (.pair (.int .i64) (.pair (.int .i64) (.pair (.int .i64) (.pair .str (.int .i64)))))) (.alt1 126 (.agg .unit)))))], []⟩, [],
[],
[], fun y => (valW (.alt 97 (.agg (.pair (.int .i64) (.pair (.int .i64) (.pair (.int .i64) (.pair .str (.int .i64)))))) (.alt 124 (.agg (.pair (.int .i64) (.pair (.int .i64) (.pair (.int .i64) (.pair .str (.int .i64)))))) (.alt1 126 (.agg .unit)))) y, [], [])⟩
noncomputable def V_log_read (N : Nat) (x : Int × Int × Int × (List UInt8) × Int) : Option ((Int × Int × Int × (List UInt8) × Int) ⊕ ((Int × Int × Int × (List UInt8) × Int) ⊕ Unit)) :=
  cnd (decide (x.1 = (1:Int))) (some (Sum.inr (Sum.inl x))) (cnd (decide (x.1 = (2:Int))) (some (Sum.inl x)) (some (Sum.inr (Sum.inr ()))))
theorem q_log_read : ∀ N x, u_log_read.F L0 P0 (orcOf []) N x = V_log_read N x := by intros; kernel_rfl
noncomputable def W_log_read (N : Nat) := V_log_read N
theorem con_log_read_ok (N : Nat) : (u_log_read.con (W_log_read N)).ok P0 := Uf.ok mixed (q_log_read N) trivial Try.func43 (by kernel_rfl) fun x y => by kernel_rfl
noncomputable def u_log_Gaps : Uf := ⟨22, 56, Try.f22, [.val (.list (.agg (.pair (.int .i64) (.pair (.int .i64) (.pair (.int .i64) (.pair .str (.int .i64)))))))], [],
⟨[(2, .val (.list (.agg (.pair (.int .i64) (.int .i64)))))], []⟩, [],
[(3, .loop [9] ⟨[(3, .acc 700003), (11, .val (.int .i64))], [(700003, .nrow 94 (.agg (.pair (.int .i64) (.int .i64))) false true)]⟩ [(.exit 0, ⟨[(3, .val (.list (.agg (.pair (.int .i64) (.int .i64)))))], []⟩)])],
[], fun y => (valW (.list (.agg (.pair (.int .i64) (.int .i64)))) y, [], [])⟩
noncomputable def V_log_Gaps (w_log_read : Int × Int × Int × (List UInt8) × Int → Option ((Int × Int × Int × (List UInt8) × Int) ⊕ ((Int × Int × Int × (List UInt8) × Int) ⊕ Unit))) (N : Nat) (x : List (Int × Int × Int × (List UInt8) × Int)) : Option (List (Int × Int)) :=
  obind (loopN N (fun (v : Int × List (Int × Int)) => cnd (decide (v.1 < (↑(List.length x) : Int))) (cnd (decide ((0:Int) ≤ v.1) && decide (v.1 <
    (↑(List.length x) : Int))) (obind (w_log_read (Prod.fst (List.getD x (Int.toNat v.1) ((0:Int), (0:Int), (0:Int), [], (0:Int))), Prod.fst (Prod.snd
    (List.getD x (Int.toNat v.1) ((0:Int), (0:Int), (0:Int), [], (0:Int)))), Prod.fst (Prod.snd (Prod.snd (List.getD x (Int.toNat v.1) ((0:Int),
    (0:Int), (0:Int), [], (0:Int))))), Prod.fst (Prod.snd (Prod.snd (Prod.snd (List.getD x (Int.toNat v.1) ((0:Int), (0:Int), (0:Int), [], (0:Int)))))),
    Prod.snd (Prod.snd (Prod.snd (Prod.snd (List.getD x (Int.toNat v.1) ((0:Int), (0:Int), (0:Int), [], (0:Int)))))))) fun b => selim (fun (b : Int ×
    Int × Int × List UInt8 × Int) => cnd (decide ((0:Int) < (↑(List.length v.2) : Int))) (cnd (decide ((0:Int) ≤ wr .i64 ((↑(List.length v.2) : Int) -
    (1:Int))) && decide (wr .i64 ((↑(List.length v.2) : Int) - (1:Int)) < (↑(List.length v.2) : Int))) (cnd (decide (wr .i64 (Prod.snd (List.getD v.2
    (Int.toNat (wr .i64 ((↑(List.length v.2) : Int) - (1:Int)))) ((0:Int), (0:Int))) + (1:Int)) = b.2.1)) (cnd (decide ((0:Int) ≤ wr .i64
    ((↑(List.length v.2) : Int) - (1:Int))) && decide (wr .i64 ((↑(List.length v.2) : Int) - (1:Int)) < (↑(List.length v.2) : Int))) (some (Sum.inl (wr
    .i64 (v.1 + (1:Int)), putL v.2 [(Prod.fst (List.getD v.2 (Int.toNat (wr .i64 ((↑(List.length v.2) : Int) - (1:Int)))) ((0:Int), (0:Int))), b.2.2.1)]
    (Int.toNat (wr .i64 ((↑(List.length v.2) : Int) - (1:Int))))))) none) (cnd (decide ((List.length v.2 + List.length [(b.2.1, b.2.2.1)]) * (16:Nat) ≤
    (140737488355328:Nat))) (some (Sum.inl (wr .i64 (v.1 + (1:Int)), v.2 ++ [(b.2.1, b.2.2.1)]))) none)) none) (cnd (decide ((List.length v.2 +
    List.length [(b.2.1, b.2.2.1)]) * (16:Nat) ≤ (140737488355328:Nat))) (some (Sum.inl (wr .i64 (v.1 + (1:Int)), v.2 ++ [(b.2.1, b.2.2.1)]))) none))
    (fun (c : Int × Int × Int × List UInt8 × Int ⊕ PUnit) => selim (fun (b : Int × Int × Int × List UInt8 × Int) => some (Sum.inl (wr .i64 (v.1 +
    (1:Int)), v.2))) (fun (c : PUnit) => some (Sum.inl (wr .i64 (v.1 + (1:Int)), v.2))) c) b) none) (some (Sum.inr v.2))) ((0:Int), [])) fun (b : List
    (Int × Int)) => some b
theorem q_log_Gaps : ∀ w_log_read N x, u_log_Gaps.F L0 P0 (orcOf [u_log_read.con w_log_read]) N x = V_log_Gaps w_log_read N x := by intros; kernel_rfl
noncomputable def W_log_Gaps (N : Nat) := V_log_Gaps (W_log_read N) N
theorem con_log_Gaps_ok (N : Nat) : (u_log_Gaps.con (W_log_Gaps N)).ok P0 := Uf.ok mixed (q_log_Gaps (W_log_read N) N) ⟨con_log_read_ok N, trivial⟩ Try.func22 (by kernel_rfl) fun x y => by kernel_rfl
noncomputable def u_log_may : Uf := ⟨42, 66, Try.f42, [.val (.agg (.pair (.int .i64) (.pair (.int .i64) (.pair (.int .i64) (.pair .str (.int .i64))))))], [],
⟨[(2, .val .bool)], []⟩, [],
[],
[(1000001, .reg [(10, [], ⟨[(1, .ptr 600001 0), (17, .val .bool)], [(600001, .box 69 (.val (.pair (.int .i64) (.pair (.int .i64) (.pair (.int .i64) (.pair .str (.int .i64)))))))]⟩)]),
(1000006, .reg [(11, [], ⟨[(4, .ptr 600004 0), (41, .val .bool)], [(600004, .box 124 (.val (.pair (.int .i64) (.pair (.int .i64) (.pair (.int .i64) (.pair .str (.int .i64)))))))]⟩)])], fun y => (valW .bool y, [], [])⟩
noncomputable def V_log_may (w_log_read : Int × Int × Int × (List UInt8) × Int → Option ((Int × Int × Int × (List UInt8) × Int) ⊕ ((Int × Int × Int × (List UInt8) × Int) ⊕ Unit))) (N : Nat) (x : Int × Int × Int × (List UInt8) × Int) : Option (Bool) :=
  obind (cnd (decide (x.2.1 < (1:Int))) (some (true, x)) (some (decide (x.2.2.1 < x.2.1), x))) fun (b : Bool × Int × Int × Int × List UInt8 × Int) =>
    cnd b.1 (some false) (cnd (decide ((1000000:Int) < b.2.2.2.1)) (some false) (obind (w_log_read b.2) fun b => selim (fun (b_1 : Int × Int × Int ×
    List UInt8 × Int) => selim (fun (b : Int × Int × Int × List UInt8 × Int) => cnd (b.2.2.2.1 == []) (cnd (decide (b.2.2.2.2 = (1:Int))) (some true)
    (some (decide (b.2.2.2.2 = (2:Int))))) (some false)) (fun (c : Int × Int × Int × List UInt8 × Int ⊕ PUnit) => selim (fun (b : Int × Int × Int × List
    UInt8 × Int) => some false) (fun (c : PUnit) => some false) c) b) (fun (c : Int × Int × Int × List UInt8 × Int ⊕ PUnit) => selim (fun (b : Int × Int
    × Int × List UInt8 × Int) => obind (cnd (decide (b.2.2.1 = b.2.1)) (some (decide ((↑(List.length b.2.2.2.1) : Int) ≤ (12:Int)), b)) (some (false,
    b))) fun (b : Bool × Int × Int × Int × List UInt8 × Int) => cnd b.1 (some (decide (b.2.2.2.2.2 = (0:Int)))) (some false)) (fun (c : PUnit) => selim
    (fun (b : Int × Int × Int × List UInt8 × Int) => cnd (b.2.2.2.1 == []) (cnd (decide (b.2.2.2.2 = (1:Int))) (some true) (some (decide (b.2.2.2.2 =
    (2:Int))))) (some false)) (fun (c : Int × Int × Int × List UInt8 × Int ⊕ PUnit) => selim (fun (b : Int × Int × Int × List UInt8 × Int) => some
    false) (fun (c : PUnit) => some false) c) b) c) b))
theorem q_log_may : ∀ w_log_read N x, u_log_may.F L0 P0 (orcOf [u_log_read.con w_log_read]) N x = V_log_may w_log_read N x := by intros; kernel_rfl
noncomputable def W_log_may (N : Nat) := V_log_may (W_log_read N) N
theorem con_log_may_ok (N : Nat) : (u_log_may.con (W_log_may N)).ok P0 := Uf.ok mixed (q_log_may (W_log_read N) N) ⟨con_log_read_ok N, trivial⟩ Try.func42 (by kernel_rfl) fun x y => by kernel_rfl
noncomputable def u_log_May : Uf := ⟨20, 30, Try.f20, [.val (.list (.agg (.pair (.int .i64) (.pair (.int .i64) (.pair (.int .i64) (.pair .str (.int .i64))))))), .val (.int .i64)], [],
⟨[(4, .val .bool)], []⟩, [],
[(5, .loop [11] ⟨[(5, .val (.int .i64)), (13, .val (.int .i64))], []⟩ [(.exit 0, ⟨[], []⟩), (.ret, ⟨[(4, .val .bool)], []⟩)])],
[], fun y => (valW .bool y, [], [])⟩
noncomputable def V_log_May (w_log_may : Int × Int × Int × (List UInt8) × Int → Option (Bool)) (N : Nat) (x : (List (Int × Int × Int × (List UInt8) × Int)) × Int) : Option (Bool) :=
  cnd (decide (x.2 < (1:Int))) (some false) (obind (loopN N (fun (v : Int × Int) => cnd (decide (v.2 < (↑(List.length x.1) : Int))) (cnd (decide
    ((0:Int) ≤ v.2) && decide (v.2 < (↑(List.length x.1) : Int))) (obind (w_log_may (Prod.fst (List.getD x.1 (Int.toNat v.2) ((0:Int), (0:Int),
    (0:Int), [], (0:Int))), Prod.fst (Prod.snd (List.getD x.1 (Int.toNat v.2) ((0:Int), (0:Int), (0:Int), [], (0:Int)))), Prod.fst (Prod.snd (Prod.snd
    (List.getD x.1 (Int.toNat v.2) ((0:Int), (0:Int), (0:Int), [], (0:Int))))), Prod.fst (Prod.snd (Prod.snd (Prod.snd (List.getD x.1 (Int.toNat v.2)
    ((0:Int), (0:Int), (0:Int), [], (0:Int)))))), Prod.snd (Prod.snd (Prod.snd (Prod.snd (List.getD x.1 (Int.toNat v.2) ((0:Int), (0:Int), (0:Int), [],
    (0:Int)))))))) fun b => cnd (!b) (some (Sum.inr (Sum.inr false))) (cnd (decide (Prod.fst (Prod.snd (List.getD x.1 (Int.toNat v.2) ((0:Int), (0:Int),
    (0:Int), [], (0:Int)))) ≠ v.1)) (some (Sum.inr (Sum.inr false))) (some (Sum.inl (wr .i64 (Prod.fst (Prod.snd (Prod.snd (List.getD x.1 (Int.toNat
    v.2) ((0:Int), (0:Int), (0:Int), [], (0:Int))))) + (1:Int)), wr .i64 (v.2 + (1:Int))))))) none) (some (Sum.inr (Sum.inl ())))) (x.2, (0:Int))) fun
    (b : PUnit ⊕ Bool) => selim (fun (b : PUnit) => some true) (fun (c : Bool) => some c) b)
theorem q_log_May : ∀ w_log_may N x, u_log_May.F L0 P0 (orcOf [u_log_may.con w_log_may]) N x = V_log_May w_log_may N x := by intros; kernel_rfl
noncomputable def W_log_May (N : Nat) := V_log_May (W_log_may N) N
theorem con_log_May_ok (N : Nat) : (u_log_May.con (W_log_May N)).ok P0 := Uf.ok mixed (q_log_May (W_log_may N) N) ⟨con_log_may_ok N, trivial⟩ Try.func20 (by kernel_rfl) fun x y => by kernel_rfl
noncomputable def u_log_Next : Uf := ⟨21, 17, Try.f21, [.val (.list (.agg (.pair (.int .i64) (.pair (.int .i64) (.pair (.int .i64) (.pair .str (.int .i64))))))), .val (.int .i64)], [],
⟨[(4, .val (.int .i64))], []⟩, [],
[],
[], fun y => (valW (.int .i64) y, [], [])⟩
noncomputable def V_log_Next (N : Nat) (x : (List (Int × Int × Int × (List UInt8) × Int)) × Int) : Option (Int) :=
  cnd (decide ((↑(List.length x.1) : Int) = (0:Int))) (some x.2) (cnd (decide ((0:Int) ≤ wr .i64 ((↑(List.length x.1) : Int) - (1:Int))) && decide (wr
    .i64 ((↑(List.length x.1) : Int) - (1:Int)) < (↑(List.length x.1) : Int))) (some (wr .i64 (Prod.fst (Prod.snd (Prod.snd (List.getD x.1 (Int.toNat
    (wr .i64 ((↑(List.length x.1) : Int) - (1:Int)))) ((0:Int), (0:Int), (0:Int), [], (0:Int))))) + (1:Int)))) none)
theorem q_log_Next : ∀ N x, u_log_Next.F L0 P0 (orcOf []) N x = V_log_Next N x := by intros; kernel_rfl
noncomputable def W_log_Next (N : Nat) := V_log_Next N
theorem con_log_Next_ok (N : Nat) : (u_log_Next.con (W_log_Next N)).ok P0 := Uf.ok mixed (q_log_Next N) trivial Try.func21 (by kernel_rfl) fun x y => by kernel_rfl
noncomputable def u_law16_begun : Uf := ⟨17, 40, Try.f17, [], [],
⟨[(0, .val .bool)], []⟩, [],
[],
[(1000003, .reg [(7, [1, 2], ⟨[(13, .val .bool)], []⟩), (5, [1, 2], ⟨[(18, .val .bool)], []⟩), (5, [2], ⟨[(23, .val .bool)], []⟩), (4, [2], ⟨[(27, .val .bool)], []⟩), (5, [2], ⟨[(32, .val .bool)], []⟩)])], fun y => (valW .bool y, [], [])⟩
noncomputable def V_law16_begun (w_log_Tell : (List (Int × Int × Int × (List UInt8) × Int)) × Int × List UInt8 → Option (List (Int × Int × Int × (List UInt8) × Int))) (w_log_Skip : (List (Int × Int × Int × (List UInt8) × Int)) × Int × Int × Int → Option (List (Int × Int × Int × (List UInt8) × Int))) (w_log_Gaps : List (Int × Int × Int × (List UInt8) × Int) → Option (List (Int × Int))) (w_log_May : (List (Int × Int × Int × (List UInt8) × Int)) × Int → Option (Bool)) (w_log_Next : (List (Int × Int × Int × (List UInt8) × Int)) × Int → Option (Int)) (N : Nat) (x : Unit) : Option (Bool) :=
  obind (w_log_Tell ([], (1:Int), [(97 : UInt8)])) fun b => obind (w_log_Skip (b, (2:Int), (3:Int), (1:Int))) fun b => obind (w_log_Gaps b) fun
    b_1 => obind (cnd (decide ((↑(List.length b) : Int) = (2:Int))) (obind (w_log_May (b, (1:Int))) fun b => some b) (some false)) fun (b_2 : Bool) =>
    obind (cnd b_2 (obind (w_log_May (b, (2:Int))) fun b => some !b) (some false)) fun (b_3 : Bool) => obind (cnd b_3 (obind (w_log_Next (b,
    (1:Int))) fun b => some (decide (b = (4:Int)))) (some false)) fun (b : Bool) => obind (cnd b (obind (w_log_Next ([], (7:Int))) fun b => some
    (decide (b = (7:Int)))) (some false)) fun (b : Bool) => obind (cnd b (some (decide ((↑(List.length b_1) : Int) = (1:Int)))) (some false)) fun (b :
    Bool) => cnd b (cnd (decide ((0:Int) ≤ (0:Int)) && decide ((0:Int) < (↑(List.length b_1) : Int))) (some (decide (Prod.fst (List.getD b_1 (0:Nat)
    ((0:Int), (0:Int))) = (2:Int)) && decide (Prod.snd (List.getD b_1 (0:Nat) ((0:Int), (0:Int))) = (3:Int)))) none) (some false)
theorem q_law16_begun : ∀ w_log_Tell w_log_Skip w_log_Gaps w_log_May w_log_Next N x, u_law16_begun.F L0 P0 (orcOf [u_log_Tell.con w_log_Tell, u_log_Skip.con w_log_Skip, u_log_Gaps.con w_log_Gaps, u_log_May.con w_log_May, u_log_Next.con w_log_Next]) N x = V_law16_begun w_log_Tell w_log_Skip w_log_Gaps w_log_May w_log_Next N x := by intros; kernel_rfl
noncomputable def W_law16_begun (N : Nat) := V_law16_begun (W_log_Tell N) (W_log_Skip N) (W_log_Gaps N) (W_log_May N) (W_log_Next N) N
theorem con_law16_begun_ok (N : Nat) : (u_law16_begun.con (W_law16_begun N)).ok P0 := Uf.ok mixed (q_law16_begun (W_log_Tell N) (W_log_Skip N) (W_log_Gaps N) (W_log_May N) (W_log_Next N) N) ⟨con_log_Tell_ok N, con_log_Skip_ok N, con_log_Gaps_ok N, con_log_May_ok N, con_log_Next_ok N, trivial⟩ Try.func17 (by kernel_rfl) fun x y => by kernel_rfl
noncomputable def u_ref1_HasSpan : Uf := ⟨23, 28, Try.f23, [.val (.list (.agg (.pair (.int .i64) (.int .i64)))), .val (.int .i64)], [],
⟨[(4, .val .bool)], []⟩, [],
[(2, .loop [] ⟨[(5, .val (.int .i64))], []⟩ [(.exit 0, ⟨[], []⟩), (.ret, ⟨[(4, .val .bool)], []⟩)])],
[], fun y => (valW .bool y, [], [])⟩
noncomputable def V_ref1_HasSpan (N : Nat) (x : (List (Int × Int)) × Int) : Option (Bool) :=
  obind (loopN N (fun (v : Int) => cnd (decide (v < (↑(List.length x.1) : Int))) (cnd (decide ((0:Int) ≤ v) && decide (v < (↑(List.length x.1) : Int)))
    (cnd (decide (Prod.fst (List.getD x.1 (Int.toNat v) ((0:Int), (0:Int))) ≤ x.2)) (cnd (decide ((0:Int) ≤ v) && decide (v < (↑(List.length x.1) :
    Int))) (cnd (decide (x.2 ≤ Prod.snd (List.getD x.1 (Int.toNat v) ((0:Int), (0:Int))))) (some (Sum.inr (Sum.inr true))) (some (Sum.inl (wr .i64 (v +
    (1:Int)))))) none) (some (Sum.inl (wr .i64 (v + (1:Int)))))) none) (some (Sum.inr (Sum.inl ())))) (Int.ofNat (0:Nat))) fun (b : PUnit ⊕ Bool) =>
    selim (fun (b : PUnit) => some false) (fun (c : Bool) => some c) b
theorem q_ref1_HasSpan : ∀ N x, u_ref1_HasSpan.F L0 P0 (orcOf []) N x = V_ref1_HasSpan N x := by intros; kernel_rfl
noncomputable def W_ref1_HasSpan (N : Nat) := V_ref1_HasSpan N
theorem con_ref1_HasSpan_ok (N : Nat) : (u_ref1_HasSpan.con (W_ref1_HasSpan N)).ok P0 := Uf.ok mixed (q_ref1_HasSpan N) trivial Try.func23 (by kernel_rfl) fun x y => by kernel_rfl
noncomputable def u_ref1_MaySpan : Uf := ⟨44, 18, Try.f44, [.val (.agg (.pair (.int .i64) (.int .i64)))], [],
⟨[(2, .val .bool)], []⟩, [],
[],
[(1000001, .reg [(10, [], ⟨[(1, .ptr 600001 0), (12, .val .bool)], [(600001, .box 94 (.val (.pair (.int .i64) (.int .i64))))]⟩)])], fun y => (valW .bool y, [], [])⟩
noncomputable def V_ref1_MaySpan (N : Nat) (x : Int × Int) : Option (Bool) :=
  obind (cnd (decide ((1:Int) ≤ x.1)) (some (decide (x.1 ≤ x.2), x)) (some (false, x))) fun (b : Bool × Int × Int) => cnd b.1 (some (decide (b.2.2 ≤ (1000000:Int)))) (some false)
theorem q_ref1_MaySpan : ∀ N x, u_ref1_MaySpan.F L0 P0 (orcOf []) N x = V_ref1_MaySpan N x := by intros; kernel_rfl
noncomputable def W_ref1_MaySpan (N : Nat) := V_ref1_MaySpan N
theorem con_ref1_MaySpan_ok (N : Nat) : (u_ref1_MaySpan.con (W_ref1_MaySpan N)).ok P0 := Uf.ok mixed (q_ref1_MaySpan N) trivial Try.func44 (by kernel_rfl) fun x y => by kernel_rfl
noncomputable def u_ref1_MaySpans : Uf := ⟨24, 35, Try.f24, [.val (.list (.agg (.pair (.int .i64) (.int .i64))))], [],
⟨[(2, .val .bool)], []⟩, [],
[(2, .loop [] ⟨[(3, .val (.int .i64))], []⟩ [(.exit 0, ⟨[], []⟩), (.ret, ⟨[(2, .val .bool)], []⟩)])],
[], fun y => (valW .bool y, [], [])⟩
noncomputable def V_ref1_MaySpans (w_ref1_MaySpan : Int × Int → Option (Bool)) (N : Nat) (x : List (Int × Int)) : Option (Bool) :=
  obind (loopN N (fun (v : Int) => cnd (decide (v < (↑(List.length x) : Int))) (cnd (decide ((0:Int) ≤ v) && decide (v < (↑(List.length x) : Int)))
    (obind (w_ref1_MaySpan (Prod.fst (List.getD x (Int.toNat v) ((0:Int), (0:Int))), Prod.snd (List.getD x (Int.toNat v) ((0:Int), (0:Int))))) fun b
    => cnd (!b) (some (Sum.inr (Sum.inr false))) (cnd (decide ((0:Int) < v)) (cnd (decide ((0:Int) ≤ v) && decide (v < (↑(List.length x) : Int))) (cnd
    (decide ((0:Int) ≤ wr .i64 (v - (1:Int))) && decide (wr .i64 (v - (1:Int)) < (↑(List.length x) : Int))) (cnd (decide (Prod.fst (List.getD x
    (Int.toNat v) ((0:Int), (0:Int))) ≤ wr .i64 (Prod.snd (List.getD x (Int.toNat (wr .i64 (v - (1:Int)))) ((0:Int), (0:Int))) + (1:Int)))) (some
    (Sum.inr (Sum.inr false))) (some (Sum.inl (wr .i64 (v + (1:Int)))))) none) none) (some (Sum.inl (wr .i64 (v + (1:Int))))))) none) (some (Sum.inr
    (Sum.inl ())))) (Int.ofNat (0:Nat))) fun (b : PUnit ⊕ Bool) => selim (fun (b : PUnit) => some true) (fun (c : Bool) => some c) b
theorem q_ref1_MaySpans : ∀ w_ref1_MaySpan N x, u_ref1_MaySpans.F L0 P0 (orcOf [u_ref1_MaySpan.con w_ref1_MaySpan]) N x = V_ref1_MaySpans w_ref1_MaySpan N x := by intros; kernel_rfl
noncomputable def W_ref1_MaySpans (N : Nat) := V_ref1_MaySpans (W_ref1_MaySpan N) N
theorem con_ref1_MaySpans_ok (N : Nat) : (u_ref1_MaySpans.con (W_ref1_MaySpans N)).ok P0 := Uf.ok mixed (q_ref1_MaySpans (W_ref1_MaySpan N) N) ⟨con_ref1_MaySpan_ok N, trivial⟩ Try.func24 (by kernel_rfl) fun x y => by kernel_rfl
noncomputable def u_law16_LogWhole : Uf := ⟨5, 122, Try.f5, [.val (.list (.agg (.pair (.int .u8) (.int .u8)))), .val (.int .u8), .val (.int .u8)], [],
⟨[(6, .val .bool)], []⟩, [],
[(10, .loop [] ⟨[(8, .val (.list (.agg (.pair (.int .i64) (.pair (.int .i64) (.pair (.int .i64) (.pair .str (.int .i64)))))))), (9, .val (.int .i64)), (10, .mp 800025), (11, .val (.int .i64))], [(800025, .mp .bool)]⟩ [(.exit 0, ⟨[(8, .val (.list (.agg (.pair (.int .i64) (.pair (.int .i64) (.pair (.int .i64) (.pair .str (.int .i64)))))))), (9, .val (.int .i64)), (10, .mp 800025)], [(800025, .mp .bool)]⟩), (.ret, ⟨[(6, .val .bool)], []⟩)]),
(23, .loop [8, 13] ⟨[(10, .mp 800025), (14, .val (.int .i64))], [(800025, .mp .bool)]⟩ [(.exit 2, ⟨[], []⟩), (.ret, ⟨[(6, .val .bool)], []⟩)])],
[(19, .cut [] [(.normal, ⟨[(8, .val (.list (.agg (.pair (.int .i64) (.pair (.int .i64) (.pair (.int .i64) (.pair .str (.int .i64)))))))), (9, .val (.int .i64)), (10, .mp 800025)], [(800025, .mp .bool)]⟩)]),
(1000025, .reg [(11, [8, 13], ⟨[(10, .mp 800025), (80, .val .bool), (88, .val .bool)], [(800025, .mp .bool)]⟩)]),
(1000027, .reg [(15, [8], ⟨[(110, .val .bool)], []⟩)])], fun y => (valW .bool y, [], [])⟩
noncomputable def V_law16_LogWhole (w_law16_begun : Unit → Option (Bool)) (w_log_Tell : (List (Int × Int × Int × (List UInt8) × Int)) × Int × List UInt8 → Option (List (Int × Int × Int × (List UInt8) × Int))) (w_log_Skip : (List (Int × Int × Int × (List UInt8) × Int)) × Int × Int × Int → Option (List (Int × Int × Int × (List UInt8) × Int))) (w_log_May : (List (Int × Int × Int × (List UInt8) × Int)) × Int → Option (Bool)) (w_log_Next : (List (Int × Int × Int × (List UInt8) × Int)) × Int → Option (Int)) (w_log_Gaps : List (Int × Int × Int × (List UInt8) × Int) → Option (List (Int × Int))) (w_ref1_HasSpan : (List (Int × Int)) × Int → Option (Bool)) (w_ref1_MaySpans : List (Int × Int) → Option (Bool)) (N : Nat) (x : (List (Int × Int)) × Int × Int) : Option (Bool) :=
  obind (w_law16_begun ()) fun b => cnd (!b) (some false) (cnd (decide ((15:Int) < (↑(List.length x.1) : Int))) (some true) (obind (loopN N (fun (v :
    List (Int × Int × Int × List UInt8 × Int) × Int × Int × List (Int × Bool)) => cnd (decide (v.2.2.1 < (↑(List.length x.1) : Int))) (obind (cnd
    (decide ((0:Int) ≤ v.2.2.1) && decide (v.2.2.1 < (↑(List.length x.1) : Int))) (cnd (decide ((0:Int) < Int.tmod (Prod.fst (List.getD x.1 (Int.toNat
    v.2.2.1) ((0:Int), (0:Int)))) (3:Int))) (obind (w_log_Tell (v.1, v.2.1, [(116 : UInt8)])) fun b => some (b, wr .i64 (v.2.1 + (1:Int)), mput v.2.1
    true v.2.2.2)) (cnd (decide ((0:Int) ≤ v.2.2.1) && decide (v.2.2.1 < (↑(List.length x.1) : Int))) (obind (w_log_Skip (v.1, v.2.1, wr .i64 (v.2.1 +
    wr .i64 (Int.tmod (Prod.snd (List.getD x.1 (Int.toNat v.2.2.1) ((0:Int), (0:Int)))) (4:Int))), (2:Int))) fun b => some (b, wr .i64 (wr .i64 (v.2.1 +
    wr .i64 (Int.tmod (Prod.snd (List.getD x.1 (Int.toNat v.2.2.1) ((0:Int), (0:Int)))) (4:Int))) + (1:Int)), v.2.2.2)) none)) none) fun (b : List (Int
    × Int × Int × List UInt8 × Int) × Int × List (Int × Bool)) => obind (w_log_May (b.1, wr .i64 ((1:Int) + wr .i64 (Int.tmod x.2.1 (9:Int))))) fun
    b_1 => cnd (!b_1) (some (Sum.inr (Sum.inr false))) (obind (w_log_Next (b.1, wr .i64 ((1:Int) + wr .i64 (Int.tmod x.2.1 (9:Int))))) fun b_2 => cnd
    (decide (b_2 ≠ b.2.1)) (some (Sum.inr (Sum.inr false))) (some (Sum.inl (b.1, b.2.1, wr .i64 (v.2.2.1 + (1:Int)), b.2.2))))) (some (Sum.inr (Sum.inl
    (v.1, v.2.1, v.2.2.2))))) ([], wr .i64 ((1:Int) + wr .i64 (Int.tmod x.2.1 (9:Int))), (0:Int), [])) fun (b : List (Int × Int × Int × List UInt8 ×
    Int) × Int × List (Int × Bool) ⊕ Bool) => selim (fun (b : List (Int × Int × Int × List UInt8 × Int) × Int × List (Int × Bool)) => obind (w_log_Gaps b.1) fun b_1 => obind (loopN N (fun (v : Int × List (Int × Bool)) => cnd (decide (v.1 < (80:Int))) (obind (obind (w_ref1_HasSpan (b_1, v.1)) fun
    b_2 => cnd (decide (wr .i64 ((1:Int) + wr .i64 (Int.tmod x.2.1 (9:Int))) ≤ v.1)) (some (b_2, decide (v.1 < b.2.1), v.2)) (some (b_2, false, v.2)))
    fun (b : Bool × Bool × List (Int × Bool)) => cnd b.2.1 (cnd (!b.1 == !mget false v.1 b.2.2) (some (Sum.inr (Sum.inr false))) (some (Sum.inl (wr .i64
    (v.1 + (1:Int)), b.2.2)))) (cnd (!b.1 == false) (some (Sum.inr (Sum.inr false))) (some (Sum.inl (wr .i64 (v.1 + (1:Int)), b.2.2))))) (some (Sum.inr
    (Sum.inl ())))) ((0:Int), b.2.2)) fun (b_2 : PUnit ⊕ Bool) => selim (fun (b_3 : PUnit) => obind (obind (w_ref1_MaySpans b_1) fun b_4 => cnd b_4
    (obind (w_log_Tell (b.1, wr .i64 (wr .i64 (b.2.1 + (1:Int)) + wr .i64 (Int.tmod x.2.2 (5:Int))), [(116 : UInt8)])) fun b => obind (w_log_May (b,
    wr .i64 ((1:Int) + wr .i64 (Int.tmod x.2.1 (9:Int))))) fun b => some !b) (some false)) fun (b_4 : Bool) => cnd b_4 (obind (w_log_May (b.1, wr .i64
    (wr .i64 ((1:Int) + wr .i64 (Int.tmod x.2.1 (9:Int))) + (1:Int)))) fun b_5 => some ((!b_5) == decide ((0:Int) < (↑(List.length b.1) : Int)))) (some
    false)) (fun (c : Bool) => some c) b_2) (fun (c : Bool) => some c) b))
theorem q_law16_LogWhole : ∀ w_law16_begun w_log_Tell w_log_Skip w_log_May w_log_Next w_log_Gaps w_ref1_HasSpan w_ref1_MaySpans N x, u_law16_LogWhole.F L0 P0 (orcOf [u_law16_begun.con w_law16_begun, u_log_Tell.con w_log_Tell, u_log_Skip.con w_log_Skip, u_log_May.con w_log_May, u_log_Next.con w_log_Next, u_log_Gaps.con w_log_Gaps, u_ref1_HasSpan.con w_ref1_HasSpan, u_ref1_MaySpans.con w_ref1_MaySpans]) N x = V_law16_LogWhole w_law16_begun w_log_Tell w_log_Skip w_log_May w_log_Next w_log_Gaps w_ref1_HasSpan w_ref1_MaySpans N x := by intros; kernel_rfl
noncomputable def W_law16_LogWhole (N : Nat) := V_law16_LogWhole (W_law16_begun N) (W_log_Tell N) (W_log_Skip N) (W_log_May N) (W_log_Next N) (W_log_Gaps N) (W_ref1_HasSpan N) (W_ref1_MaySpans N) N
theorem con_law16_LogWhole_ok (N : Nat) : (u_law16_LogWhole.con (W_law16_LogWhole N)).ok P0 := Uf.ok mixed (q_law16_LogWhole (W_law16_begun N) (W_log_Tell N) (W_log_Skip N) (W_log_May N) (W_log_Next N) (W_log_Gaps N) (W_ref1_HasSpan N) (W_ref1_MaySpans N) N) ⟨con_law16_begun_ok N, con_log_Tell_ok N, con_log_Skip_ok N, con_log_May_ok N, con_log_Next_ok N, con_log_Gaps_ok N, con_ref1_HasSpan_ok N, con_ref1_MaySpans_ok N, trivial⟩ Try.func5 (by kernel_rfl) fun x y => by kernel_rfl
/-! What is reckoned. -/
-- PURE
theorem wr_m {z : Int} (h : -140737488355328 ≤ z) (h2 : z ≤ 140737488355328) : wr .i64 z = z := wr_i64 (by omega) (by omega)
theorem cnd_T {α : Type} {p : Prop} {i : Decidable p} {x y : α} (h : p) : cnd (@decide p i) x y = x := by rw [decide_eq_true h]; rfl
theorem cnd_F {α : Type} {p : Prop} {i : Decidable p} {x y : α} (h : ¬ p) : cnd (@decide p i) x y = y := by rw [decide_eq_false h]; rfl
theorem loopG {σ ρ : Type} {f : σ → Option (σ ⊕ ρ)} (I : Nat → σ → Prop) (B : Nat) (J : ρ → Prop) (hb : ∀ k x, I k x → k ≤ B) (hs : ∀ k x, I k x → (∃ y, f x = some (.inl y) ∧ I (k + 1) y) ∨ ∃ r, f x = some (.inr r) ∧ J r) :
    ∀ (M k : Nat) (x : σ), I k x → B < M + k → ∃ r, loopN M f x = some r ∧ J r
  | 0, k, x, h, hm => by have := hb k x h; omega
  | M + 1, k, x, h, hm => by
    rcases hs k x h with ⟨y, h1, h2⟩ | ⟨r, h1, h2⟩
    · obtain ⟨r, h4, h5⟩ := loopG I B J hb hs M (k + 1) y h2 (by omega)
      exact ⟨r, by simp only [loopN, h1]; exact h4, h5⟩
    · exact ⟨r, by simp only [loopN, h1], h2⟩
theorem loop_G {σ ρ β : Type} {f : σ → Option (σ ⊕ ρ)} {g : ρ → Option β} {x : σ} {N : Nat} (Q : Option β → Prop) (I : Nat → σ → Prop) (B : Nat) (J : ρ → Prop) (hx : I 0 x) (hm : B < N) (hk : ∀ r, J r → Q (g r)) (hb : ∀ k x, I k x → k ≤ B)
    (hs : ∀ k x, I k x → (∃ y, f x = some (.inl y) ∧ I (k + 1) y) ∨ ∃ r, f x = some (.inr r) ∧ J r) : Q (obind (loopN N f x) g) := by
  obtain ⟨r, h1, h2⟩ := loopG I B J hb hs N 0 x hx (by omega)
  rw [h1]; exact hk r h2
abbrev Kd := Int × Int × Int
/-- Kids that rise from n on. -/
def Kw (n : Int) : List Kd → Prop
  | [] => True
  | w :: r => n ≤ w.1 ∧ w.1 ≤ 8 ∧ Kw (w.1 + 1) r
/-- A kid in its place. -/
def putK (k : Kd) : List Kd → List Kd
  | [] => [k]
  | w :: r => if w.1 = k.1 then k :: r else if k.1 < w.1 then k :: w :: r else w :: putK k r
theorem Kw.put : ∀ {l : List Kd} {n : Int} {k : Kd}, Kw n l → n ≤ k.1 → k.1 ≤ 8 → Kw n (putK k l)
  | [], _, _, _, h1, h2 => ⟨h1, h2, trivial⟩
  | w :: r, n, k, h, h1, h2 => by
    simp only [putK]
    by_cases c : w.1 = k.1
    · rw [if_pos c]; exact ⟨h1, h2, by rw [← c]; exact h.2.2⟩
    · rw [if_neg c]
      by_cases c2 : k.1 < w.1
      · rw [if_pos c2]; exact ⟨h1, h2, by omega, h.2.1, h.2.2⟩
      · rw [if_neg c2]; exact ⟨h.1, h.2.1, h.2.2.put (by omega) h2⟩
/-- A loop over a list, by a function of Lean's own. -/
theorem loop_rec {σ τ ρ α : Type} (d : α) (l : List α) (mk : Int → σ → τ) (R : List α → σ → ρ) (Inv : σ → List α → Prop) {f : τ → Option (τ ⊕ ρ)}
    (hend : ∀ s, Inv s [] → f (mk l.length s) = some (.inr (R [] s)))
    (hstep : ∀ (i : Nat) (h : α) (r : List α) (s : σ), i < l.length → l.getD i d = h → Inv s (h :: r) → (∃ s', f (mk i s) = some (.inl (mk ((i : Int) + 1) s')) ∧ R (h :: r) s = R r s' ∧ Inv s' r) ∨ f (mk i s) = some (.inr (R (h :: r) s)))
    {N : Nat} {s : σ} (hN : l.length < N) (h0 : Inv s l) : loopN N f (mk 0 s) = some (R l s) := by
  have key : ∀ (rest pre : List α) (N : Nat) (s : σ), l = pre ++ rest → rest.length < N → Inv s rest → loopN N f (mk pre.length s) = some (R rest s) := by
    intro rest
    induction rest with
    | nil =>
      intro pre N s e hN hI
      obtain ⟨M, rfl⟩ : ∃ M, N = M + 1 := ⟨N - 1, by simp at hN; omega⟩
      rw [List.append_nil] at e
      subst e
      simp only [loopN, hend s hI]
    | cons h r ih =>
      intro pre N s e hN hI
      obtain ⟨M, rfl⟩ : ∃ M, N = M + 1 := ⟨N - 1, by simp at hN; omega⟩
      have hg : l.getD pre.length d = h := by rw [e, List.getD_eq_getElem?_getD, List.getElem?_append_right (Nat.le_refl _)]; simp
      have hi : pre.length < l.length := by rw [e]; simp
      rcases hstep pre.length h r s hi hg hI with ⟨s', h1, h2, h3⟩ | h1
      · simp only [loopN, h1]
        rw [h2]
        have := ih (pre ++ [h]) M s' (by rw [e]; simp) (by simp at hN; omega) h3
        simpa using this
      · simp only [loopN, h1]
  have := key l [] N s rfl hN h0
  simpa using this
theorem obind_rec {σ τ ρ α β : Type} (d : α) (l : List α) (mk : Int → σ → τ) (R : List α → σ → ρ) (Inv : σ → List α → Prop) {f : τ → Option (τ ⊕ ρ)} {N : Nat} (s : σ) {x : τ} {k : ρ → Option β} {res : Option β} (hx : x = mk 0 s) (hN : l.length < N) (h0 : Inv s l) (hk : k (R l s) = res)
    (hend : ∀ s, Inv s [] → f (mk l.length s) = some (.inr (R [] s)))
    (hstep : ∀ (i : Nat) (h : α) (r : List α) (s : σ), i < l.length → l.getD i d = h → Inv s (h :: r) → (∃ s', f (mk i s) = some (.inl (mk ((i : Int) + 1) s')) ∧ R (h :: r) s = R r s' ∧ Inv s' r) ∨ f (mk i s) = some (.inr (R (h :: r) s))) : obind (loopN N f x) k = res := by
  subst hx
  rw [loop_rec d l mk R Inv hend hstep hN h0]
  exact hk
abbrev Sp := Int × Int
def okS (s : Sp) : Prop := 1 ≤ s.1 ∧ s.1 ≤ s.2 ∧ s.2 ≤ 1000000
open Classical in
theorem rOk (N : Nat) (a b : Int) : W_ref1_MaySpan N (a, b) = some (decide (okS (a, b))) := by
  unfold W_ref1_MaySpan V_ref1_MaySpan
  try simp only
  by_cases h1 : 1 ≤ a
  · rw [dT h1, cnd_t, obind_s]
    try simp only
    by_cases h2 : a ≤ b
    · rw [dT h2, cnd_t]
      by_cases h3 : b ≤ 1000000
      · rw [dT h3, dT (show okS (a, b) from ⟨h1, h2, h3⟩)]
      · rw [dF h3, dF (fun h : okS (a, b) => h3 h.2.2)]
    · rw [dF h2, cnd_f, dF (fun h : okS (a, b) => h2 h.2.1)]
  · rw [dF h1, cnd_f, obind_s]
    try simp only
    rw [cnd_f, dF (fun h : okS (a, b) => h1 h.1)]
def B (h : Sp) : Prop := 0 ≤ h.1 ∧ h.1 ≤ 1000001 ∧ 0 ≤ h.2 ∧ h.2 ≤ 1000001
theorem okS.B {s : Sp} (h : okS s) : B s := ⟨by have := h.1; omega, by have := h.2.1; have := h.2.2; omega, by have := h.1; have := h.2.1; omega, by have := h.2.2; omega⟩
abbrev AS3 := Sp × List Sp × List Sp
def ad (s : AS3) (h : Sp) : AS3 := if h.2 + 1 < s.1.1 then (s.1, s.2.1 ++ [h], s.2.2) else if s.1.2 + 1 < h.1 then (s.1, s.2.1, s.2.2 ++ [h]) else ((min s.1.1 h.1, max s.1.2 h.2), s.2.1, s.2.2)
open Classical in
noncomputable def addP (l : List Sp) (s : Sp) : List Sp := if okS s then (l.foldl ad (s, [], [])).2.1 ++ [(l.foldl ad (s, [], [])).1] ++ (l.foldl ad (s, [], [])).2.2 else l
theorem ad_len (l : List Sp) : ∀ s : AS3, (l.foldl ad s).2.1.length + (l.foldl ad s).2.2.length ≤ s.2.1.length + s.2.2.length + l.length := by
  induction l with
  | nil => intro s; simp
  | cons h r ih =>
    intro s
    have := ih (ad s h)
    have h2 : (ad s h).2.1.length + (ad s h).2.2.length ≤ s.2.1.length + s.2.2.length + 1 := by unfold ad; split; · simp; omega
                                                                                                split <;> simp <;> omega
    simp only [List.foldl_cons, List.length_cons]; omega
open Classical in
def Rr (a b : Sp) : Prop := a.2 + 1 < b.1
def VS (l : List Sp) : Prop := (∀ a ∈ l, okS a) ∧ l.Pairwise Rr
structure J (s : AS3) (rest : List Sp) : Prop where
  f1 : ∀ a ∈ s.2.1, okS a
  f2 : s.2.1.Pairwise Rr
  m : okS s.1
  fm : ∀ a ∈ s.2.1, a.2 + 1 < s.1.1
  b1 : ∀ a ∈ s.2.2, okS a
  b2 : s.2.2.Pairwise Rr
  bm : ∀ a ∈ s.2.2, s.1.2 + 1 < a.1
  br : ∀ a ∈ s.2.2, ∀ h ∈ rest, a.2 + 1 < h.1
  fr : ∀ a ∈ s.2.1, ∀ h ∈ rest, a.2 + 1 < h.1
  r1 : ∀ h ∈ rest, okS h
  r2 : rest.Pairwise Rr
theorem J_step {s : AS3} {h : Sp} {r : List Sp} (j : J s (h :: r)) : J (ad s h) r := by
  obtain ⟨f1, f2, m, fm, b1, b2, bm, br, fr, r1, r2⟩ := j
  have hh := r1 h (by simp)
  rw [List.pairwise_cons] at r2
  have r1' : ∀ x ∈ r, okS x := fun x hx => r1 x (by simp [hx])
  have br' : ∀ a ∈ s.2.2, ∀ x ∈ r, a.2 + 1 < x.1 := fun a ha x hx => br a ha x (by simp [hx])
  have fr' : ∀ a ∈ s.2.1, ∀ x ∈ r, a.2 + 1 < x.1 := fun a ha x hx => fr a ha x (by simp [hx])
  have bh : ∀ a ∈ s.2.2, a.2 + 1 < h.1 := fun a ha => br a ha h (by simp)
  have fh : ∀ a ∈ s.2.1, a.2 + 1 < h.1 := fun a ha => fr a ha h (by simp)
  obtain ⟨m1, m2, m3⟩ := m
  obtain ⟨g1, g2, g3⟩ := hh
  unfold ad
  split
  · rename_i k
    refine ⟨?_, ?_, ⟨m1, m2, m3⟩, ?_, b1, b2, bm, br', ?_, r1', r2.2⟩
    · intro a ha
      simp only [List.mem_append, List.mem_singleton] at ha
      rcases ha with ha | rfl
      · exact f1 a ha
      · exact ⟨g1, g2, g3⟩
    · rw [List.pairwise_append]
      exact ⟨f2, by simp, fun a ha b hb => by simp at hb; subst hb; exact fh a ha⟩
    · intro a ha
      simp only [List.mem_append, List.mem_singleton] at ha
      rcases ha with ha | rfl
      · exact fm a ha
      · exact k
    · intro a ha x hx
      simp only [List.mem_append, List.mem_singleton] at ha
      rcases ha with ha | rfl
      · exact fr' a ha x hx
      · exact r2.1 x hx
  · rename_i k
    split
    · rename_i k2
      refine ⟨f1, f2, ⟨m1, m2, m3⟩, fm, ?_, ?_, ?_, ?_, fr', r1', r2.2⟩
      · intro a ha
        simp only [List.mem_append, List.mem_singleton] at ha
        rcases ha with ha | rfl
        · exact b1 a ha
        · exact ⟨g1, g2, g3⟩
      · rw [List.pairwise_append]
        exact ⟨b2, by simp, fun a ha b hb => by simp at hb; subst hb; exact bh a ha⟩
      · intro a ha
        simp only [List.mem_append, List.mem_singleton] at ha
        rcases ha with ha | rfl
        · exact bm a ha
        · exact k2
      · intro a ha x hx
        simp only [List.mem_append, List.mem_singleton] at ha
        rcases ha with ha | rfl
        · exact br' a ha x hx
        · exact r2.1 x hx
    · rename_i k2
      have hb : ∀ a ∈ s.2.2, False := fun a ha => by
        have q1 := bm a ha
        have q2 := bh a ha
        have q3 := (b1 a ha).2.1
        omega
      refine ⟨f1, f2, ⟨by simp only; omega, by simp only; omega, by simp only; omega⟩, fun a ha => ?_, b1, b2, fun a ha => (hb a ha).elim, br', fr', r1', r2.2⟩
      have q1 := fm a ha
      have q2 := fh a ha
      try simp only
      omega
theorem J_fold : ∀ (l : List Sp) (s : AS3), J s l → J (l.foldl ad s) []
  | [], s, h => h
  | x :: r, s, h => J_fold r _ (J_step h)
theorem VS_add {l : List Sp} {s : Sp} (hl : VS l) (hs : okS s) : VS (addP l s) ∧ (addP l s).length ≤ l.length + 1 := by
  have j := J_fold l (s, [], []) ⟨by simp, by simp, hs, by simp, by simp, by simp, by simp, by simp, by simp, hl.1, hl.2⟩
  have hlen := ad_len l (s, [], [])
  simp only [List.length_nil] at hlen
  unfold addP
  rw [if_pos hs]
  generalize l.foldl ad (s, [], []) = q at *
  obtain ⟨f1, f2, m, fm, b1, b2, bm, _, _, _, _⟩ := j
  refine ⟨⟨?_, ?_⟩, by simp only [List.length_append, List.length_singleton]; omega⟩
  · intro a ha
    simp only [List.mem_append, List.mem_singleton] at ha
    rcases ha with (ha | rfl) | ha
    · exact f1 a ha
    · exact m
    · exact b1 a ha
  · rw [List.pairwise_append, List.pairwise_append]
    refine ⟨⟨f2, by simp, fun a ha b hb => by simp at hb; subst hb; exact fm a ha⟩, b2, fun a ha b hb => ?_⟩
    have q2 := bm b hb
    have q3 := m.2.1
    simp only [List.mem_append, List.mem_singleton] at ha
    show a.2 + 1 < b.1
    rcases ha with ha | rfl
    · have := fm a ha; omega
    · omega
theorem sgetD_mem {l : List Sp} {j : Nat} (h : j < l.length) : l.getD j (0, 0) ∈ l := by
  rw [List.getD_eq_getElem?_getD, List.getElem?_eq_getElem h]; exact List.getElem_mem h
abbrev Ev := Int × Int × Int × List UInt8 × Int
abbrev eD : Ev := ((0 : Int), (0 : Int), (0 : Int), [], (0 : Int))
def vE (e : Ev) : Prop := 1 ≤ e.2.1 ∧ e.2.1 ≤ e.2.2.1 ∧ e.2.2.1 ≤ 1000000 ∧ ((e.1 = 1 ∧ e.2.2.1 = e.2.1 ∧ e.2.2.2.1.length ≤ 12 ∧ e.2.2.2.2 = 0) ∨ (e.1 = 2 ∧ e.2.2.2.1 = [] ∧ (e.2.2.2.2 = 1 ∨ e.2.2.2.2 = 2)))
theorem lread1 (N : Nat) (lo hi : Int) (t : List UInt8) (w : Int) : W_log_read N (1, lo, hi, t, w) = some (.inr (.inl (1, lo, hi, t, w))) := by
  unfold W_log_read V_log_read
  rfl
theorem lread2 (N : Nat) (lo hi : Int) (t : List UInt8) (w : Int) : W_log_read N (2, lo, hi, t, w) = some (.inl (2, lo, hi, t, w)) := by
  unfold W_log_read V_log_read
  rfl
theorem lmay_eq (N : Nat) (e : Ev) (h : vE e) : W_log_may N e = some true := by
  obtain ⟨k, lo, hi, t, w⟩ := e
  obtain ⟨h1, h2, h3, h4⟩ := h
  simp only at h1 h2 h3 h4
  unfold W_log_may V_log_may
  try simp only
  rw [dF (by omega), cnd_f, obind_s]
  try simp only
  rw [dF (by omega), cnd_f, dF (by omega), cnd_f]
  rcases h4 with ⟨rfl, q1, q2, q3⟩ | ⟨rfl, q1, q2⟩
  · rw [lread1, obind_s, selim_r, selim_l]
    try simp only
    rw [dT q1, cnd_t, obind_s]
    try simp only
    rw [dT (by omega), cnd_t, dT q3]
  · rw [lread2, obind_s, selim_l, selim_l]
    subst q1
    try simp only
    rw [show (([] : List UInt8) == []) = true from rfl, cnd_t]
    rcases q2 with rfl | rfl
    · rw [dT rfl, cnd_t]
    · rw [dF (by decide), cnd_f, dT rfl]
def Ch : Int → List Ev → Prop
  | _, [] => True
  | f, e :: r => vE e ∧ e.2.1 = f ∧ Ch (e.2.2.1 + 1) r
def nx : Int → List Ev → Int
  | f, [] => f
  | f, e :: r => nx (e.2.2.1 + 1) r
theorem nx_append : ∀ (a b : List Ev) (f : Int), nx f (a ++ b) = nx (nx f a) b
  | [], b, f => rfl
  | e :: r, b, f => nx_append r b _
theorem Ch_append : ∀ (a b : List Ev) (f : Int), Ch f (a ++ b) ↔ Ch f a ∧ Ch (nx f a) b
  | [], b, f => by simp [Ch, nx]
  | e :: r, b, f => by simp only [List.cons_append, Ch, nx, Ch_append r b, and_assoc]
theorem Ch_v : ∀ (l : List Ev) (f : Int), Ch f l → ∀ e ∈ l, vE e
  | [], _, _, e, he => by simp at he
  | x :: r, f, h, e, he => by
    rcases List.mem_cons.1 he with rfl | he
    · exact h.1
    · exact Ch_v r _ h.2.2 e he
theorem Ch_nx : ∀ (l : List Ev) (f : Int), Ch f l → 1 ≤ f → f ≤ 2000000 → 1 ≤ nx f l ∧ nx f l ≤ 2000000
  | [], f, _, h1, h2 => ⟨h1, h2⟩
  | e :: r, f, h, h1, h2 => by
    obtain ⟨⟨a1, a2, a3, _⟩, a4, a5⟩ := h
    exact Ch_nx r _ a5 (by omega) (by omega)
theorem lNext_eq (N : Nat) (l : List Ev) (f : Int) (hl : l.length ≤ 1000) (h : ∀ e ∈ l, vE e) : W_log_Next N (l, f) = some (nx f l) := by
  unfold W_log_Next V_log_Next
  try simp only
  rcases List.eq_nil_or_concat l with rfl | ⟨p, e, rfl⟩
  · rw [dT (by simp), cnd_t]; rfl
  · rw [List.concat_eq_append] at *
    have hv := h e (by simp)
    obtain ⟨a1, a2, a3, _⟩ := hv
    simp only [List.length_append, List.length_singleton] at hl ⊢
    have w : wr .i64 (((p.length + 1 : Nat) : Int) - 1) = p.length := by rw [wr_m (by omega) (by omega)]; omega
    have hg : (p ++ [e]).getD p.length eD = e := by rw [List.getD_eq_getElem?_getD]; simp
    rw [dF (by omega), cnd_f, w, dT (by omega), dT (by omega), Bool.and_self, cnd_t, Int.toNat_natCast, hg, wr_m (by omega) (by omega), nx_append]
    rfl
/-! Gaps. -/
def push (o : List Sp) (lo hi : Int) : List Sp := if 0 < o.length ∧ (o.getD (o.length - 1) (0, 0)).2 + 1 = lo then putL o [((o.getD (o.length - 1) (0, 0)).1, hi)] (o.length - 1) else o ++ [(lo, hi)]
theorem push_nil (lo hi : Int) : push [] lo hi = [(lo, hi)] := by unfold push; rw [if_neg (by simp)]; rfl
theorem push_snoc (o : List Sp) (t : Sp) (lo hi : Int) : push (o ++ [t]) lo hi = if t.2 + 1 = lo then o ++ [(t.1, hi)] else o ++ [t] ++ [(lo, hi)] := by
  have hl : (o ++ [t]).length - 1 = o.length := by simp
  have hg : (o ++ [t]).getD o.length (0, 0) = t := by rw [List.getD_eq_getElem?_getD]; simp
  unfold push
  rw [hl, hg]
  by_cases h : t.2 + 1 = lo
  · rw [if_pos ⟨by simp, h⟩, if_pos h]
    unfold putL
    simp
  · rw [if_neg (fun q => h q.2), if_neg h]
theorem snoc_cases (o : List Sp) : o = [] ∨ ∃ p t, o = p ++ [t] := by
  rcases List.eq_nil_or_concat o with h | ⟨p, t, h⟩
  · exact .inl h
  · exact .inr ⟨p, t, by rw [h, List.concat_eq_append]⟩
theorem push_ok {o : List Sp} {lo hi : Int} (ho : ∀ s ∈ o, okS s) (hs : okS (lo, hi)) : (∀ s ∈ push o lo hi, okS s) ∧ (push o lo hi).length ≤ o.length + 1 := by
  rcases snoc_cases o with rfl | ⟨p, t, rfl⟩
  · rw [push_nil]; exact ⟨by simpa using hs, by simp⟩
  · rw [push_snoc]
    split
    · rename_i e
      refine ⟨fun s hm => ?_, by simp⟩
      simp only [List.mem_append, List.mem_singleton] at hm
      rcases hm with hm | rfl
      · exact ho s (by simp [hm])
      · have ht := ho t (by simp)
        obtain ⟨a1, a2, a3⟩ := ht
        obtain ⟨b1, b2, b3⟩ := hs
        exact ⟨a1, by simp only at *; omega, b3⟩
    · refine ⟨fun s hm => ?_, by simp⟩
      simp only [List.mem_append, List.mem_singleton] at hm
      rcases hm with (hm | rfl) | rfl
      · exact ho s (by simp [hm])
      · exact ho s (by simp)
      · exact hs
theorem push_hi {o : List Sp} {lo hi m : Int} (ho : ∀ s ∈ o, s.2 + 1 ≤ m) (hm : hi + 1 ≤ m) : ∀ s ∈ push o lo hi, s.2 + 1 ≤ m := by
  rcases snoc_cases o with rfl | ⟨p, t, rfl⟩
  · rw [push_nil]; intro s hs; simp at hs; subst hs; exact hm
  · rw [push_snoc]
    intro s hs
    split at hs
    · simp only [List.mem_append, List.mem_singleton] at hs
      rcases hs with hs | rfl
      · exact ho s (by simp [hs])
      · exact hm
    · simp only [List.mem_append, List.mem_singleton] at hs
      rcases hs with (hs | rfl) | rfl
      · exact ho s (by simp [hs])
      · exact ho s (by simp)
      · exact hm
def gp : List Sp → List Ev → List Sp
  | o, [] => o
  | o, e :: r => gp (if e.1 = 2 then push o e.2.1 e.2.2.1 else o) r
theorem gp_append : ∀ (a b : List Ev) (o : List Sp), gp o (a ++ b) = gp (gp o a) b
  | [], b, o => rfl
  | e :: r, b, o => gp_append r b _
theorem lGaps_eq (N : Nat) (l : List Ev) (hN : l.length < N) (hl : l.length ≤ 800) (h : ∀ e ∈ l, vE e) : W_log_Gaps N l = some (gp [] l) := by
  unfold W_log_Gaps V_log_Gaps
  refine obind_rec eD l (fun i (o : List Sp) => (i, o)) (fun l o => gp o l) (fun o r => (∀ e ∈ r, vE e) ∧ (∀ s ∈ o, okS s) ∧ o.length + r.length ≤ 900) [] rfl hN ⟨h, by simp, by simp; omega⟩ rfl ?_ ?_
  · rintro o _
    try simp only
    rw [dF (by omega), cnd_f]
    rfl
  · rintro i ⟨k, lo, hi, t, w⟩ r o hi' hg ⟨g1, g2, g3⟩
    left
    have hv := g1 _ (by simp : (k, lo, hi, t, w) ∈ (k, lo, hi, t, w) :: r)
    obtain ⟨a1, a2, a3, a4⟩ := hv
    simp only [List.length_cons] at a1 a2 a3 a4 g3
    have d1 : decide ((i : Int) < l.length) = true := dT (by omega)
    have d2 : decide ((0 : Int) ≤ i) = true := dT (by omega)
    have g1' : ∀ e ∈ r, vE e := fun e he => g1 e (by simp [he])
    rcases a4 with ⟨rfl, _⟩ | ⟨rfl, _⟩
    · refine ⟨o, ?_, by simp only [gp]; rw [if_neg (by decide)], g1', g2, by omega⟩
      simp only [Int.toNat_natCast, hg, d1, d2, Bool.and_self, cnd_t]
      rw [lread1, obind_s, selim_r, selim_l, wr_m (z := (i : Int) + 1) (by omega) (by omega)]
    · have hp := push_ok g2 (show okS (lo, hi) from ⟨a1, a2, a3⟩)
      refine ⟨push o lo hi, ?_, by simp only [gp]; rw [if_pos trivial], g1', hp.1, by omega⟩
      simp only [Int.toNat_natCast, hg, d1, d2, Bool.and_self, cnd_t]
      rw [lread2, obind_s, selim_l, wr_m (z := (i : Int) + 1) (by omega) (by omega)]
      try simp only
      unfold push
      by_cases h0 : 0 < o.length
      · have w1 : wr .i64 ((o.length : Int) - 1) = ((o.length - 1 : Nat) : Int) := by rw [wr_m (by omega) (by omega)]; omega
        have hl := g2 _ (sgetD_mem (l := o) (j := o.length - 1) (by omega))
        obtain ⟨b1, b2, b3⟩ := hl
        rw [dT (by omega), cnd_t, w1, dT (by omega), dT (by omega), Bool.and_self, cnd_t, Int.toNat_natCast, wr_m (z := (o.getD (o.length - 1) (0, 0)).2 + 1) (by omega) (by omega)]
        by_cases h1 : (o.getD (o.length - 1) (0, 0)).2 + 1 = lo
        · rw [dT h1, cnd_t, cnd_t, if_pos ⟨h0, h1⟩]
        · rw [dF h1, cnd_f, dT (by simp only [List.length_singleton]; omega), cnd_t, if_neg (fun q => h1 q.2)]
      · rw [dF (by omega), cnd_f, dT (by simp only [List.length_singleton]; omega), cnd_t, if_neg (fun q => h0 q.1)]
/-! One more behind. -/
theorem fold_front (s : Sp) : ∀ (l fr : List Sp), (∀ t ∈ l, t.2 + 1 < s.1) → l.foldl ad (s, fr, []) = (s, fr ++ l, [])
  | [], fr, _ => by simp
  | t :: r, fr, h => by
    have e : ad (s, fr, []) t = (s, fr ++ [t], []) := by unfold ad; rw [if_pos (h t (by simp))]
    rw [List.foldl_cons, e, fold_front s r (fr ++ [t]) fun x hx => h x (by simp [hx])]
    simp
theorem addP_push {a : List Sp} {s : Sp} (ha : VS a) (hs : okS s) (hb : ∀ t ∈ a, t.2 + 1 ≤ s.1) : addP a s = push a s.1 s.2 := by
  unfold addP
  rw [if_pos hs]
  rcases snoc_cases a with rfl | ⟨p, t, rfl⟩
  · rw [push_nil]; simp
  · have hp : ∀ x ∈ p, x.2 + 1 < s.1 := fun x hx => by
      have h1 : Rr x t := (List.pairwise_append.1 ha.2).2.2 x hx t (by simp)
      have h2 := hb t (by simp)
      have h3 := (ha.1 t (by simp)).2.1
      unfold Rr at h1
      omega
    have ht := hb t (by simp)
    have ht2 := (ha.1 t (by simp)).2.1
    have hs2 := hs.2.1
    rw [List.foldl_append, fold_front s p [] hp, List.nil_append, push_snoc]
    simp only [List.foldl_cons, List.foldl_nil]
    unfold ad
    try simp only
    by_cases h : t.2 + 1 = s.1
    · rw [if_neg (by omega), if_neg (by omega), if_pos h]
      simp only [List.append_nil]
      rw [show min s.1 t.1 = t.1 by omega, show max s.2 t.2 = s.2 by omega]
    · rw [if_pos (by omega), if_neg h]
      simp
/-- All of one's gaps put behind another one's. -/
theorem gp_inv : ∀ (d : List Ev) (o : List Sp) (m : Int), Ch m d → VS o → (∀ s ∈ o, s.2 + 1 ≤ m) → VS (gp o d) ∧ (∀ s ∈ gp o d, s.2 + 1 ≤ nx m d) ∧ (gp o d).length ≤ o.length + d.length
  | [], o, m, _, ho, h => ⟨ho, h, by simp [gp]⟩
  | e :: r, o, m, hc, ho, h => by
    obtain ⟨hv, hm, hc'⟩ := hc
    obtain ⟨v1, v2, v3, _⟩ := hv
    simp only [gp, nx, List.length_cons]
    by_cases hk : e.1 = 2
    · rw [if_pos hk]
      have hs : okS (e.2.1, e.2.2.1) := ⟨v1, v2, v3⟩
      have eo := addP_push ho hs (fun t ht => by have := h t ht; simp only; omega)
      have hl := (push_ok ho.1 hs).2
      have := gp_inv r (push o e.2.1 e.2.2.1) _ hc' (by simp only at eo; rw [← eo]; exact (VS_add ho hs).1) (push_hi (fun s hs' => by have := h s hs'; omega) (by omega))
      exact ⟨this.1, this.2.1, by have := this.2.2; omega⟩
    · rw [if_neg hk]
      have := gp_inv r o _ hc' ho fun s hs => by have := h s hs; omega
      exact ⟨this.1, this.2.1, by have := this.2.2; omega⟩
open Classical in
theorem lmay_dec (N : Nat) (e : Ev) : W_log_may N e = some (decide (vE e)) := by
  by_cases hv : vE e
  · rw [lmay_eq N e hv, dT hv]
  rw [dF hv]
  obtain ⟨k, lo, hi, t, w⟩ := e
  unfold W_log_may V_log_may
  try simp only
  unfold vE at hv
  simp only at hv
  by_cases h1 : lo < 1
  · rw [dT h1, cnd_t, obind_s]
    try simp only
    rw [cnd_t]
  rw [dF h1, cnd_f, obind_s]
  try simp only
  by_cases h2 : hi < lo
  · rw [dT h2, cnd_t]
  rw [dF h2, cnd_f]
  by_cases h3 : 1000000 < hi
  · rw [dT h3, cnd_t]
  rw [dF h3, cnd_f]
  by_cases k1 : k = 1
  · subst k1
    rw [lread1, obind_s, selim_r, selim_l]
    try simp only
    by_cases q1 : hi = lo
    · rw [dT q1, cnd_t, obind_s]
      try simp only
      by_cases q2 : (t.length : Int) ≤ 12
      · rw [dT q2, cnd_t]
        by_cases q3 : w = 0
        · exact (hv ⟨by omega, by omega, by omega, .inl ⟨rfl, q1, by omega, q3⟩⟩).elim
        · rw [dF q3]
      · rw [dF q2, cnd_f]
    · rw [dF q1, cnd_f, obind_s]
      try simp only
      rw [cnd_f]
  by_cases k2 : k = 2
  · subst k2
    rw [lread2, obind_s, selim_l, selim_l]
    try simp only
    by_cases q1 : t = []
    · subst q1
      rw [show (([] : List UInt8) == []) = true from rfl, cnd_t]
      by_cases q2 : w = 1
      · exact (hv ⟨by omega, by omega, by omega, .inr ⟨rfl, rfl, .inl q2⟩⟩).elim
      · rw [dF q2, cnd_f]
        by_cases q3 : w = 2
        · exact (hv ⟨by omega, by omega, by omega, .inr ⟨rfl, rfl, .inr q3⟩⟩).elim
        · rw [dF q3]
    · rw [show (t == []) = false by cases t with | nil => exact (q1 rfl).elim | cons => rfl, cnd_f]
  · have hr : W_log_read N (k, lo, hi, t, w) = some (.inr (.inr ())) := by
      unfold W_log_read V_log_read
      try simp only
      rw [dF k1, cnd_f, dF k2, cnd_f]
    rw [hr, obind_s, selim_r, selim_r, selim_r, selim_r]
theorem Ch_cons (f : Int) (e : Ev) (r : List Ev) : Ch f (e :: r) ↔ vE e ∧ e.2.1 = f ∧ Ch (e.2.2.1 + 1) r := Iff.rfl
open Classical in
theorem lMayD (N : Nat) (l : List Ev) (f : Int) (hN : l.length < N) (hl : l.length ≤ 1000) : W_log_May N (l, f) = some (decide (1 ≤ f ∧ Ch f l)) := by
  unfold W_log_May V_log_May
  try simp only
  by_cases h1 : f < 1
  · rw [dT h1, cnd_t, dF (by omega)]
  rw [dF h1, cnd_f]
  refine obind_rec eD l (fun i (s : Int) => (s, i)) (fun l f => if Ch f l then (.inl () : PUnit ⊕ Bool) else .inr false) (fun f r => True) f rfl hN trivial ?_ ?_ ?_
  · by_cases h : Ch f l
    · rw [if_pos h, selim_l, dT ⟨by omega, h⟩]
    · rw [if_neg h, selim_r, dF (fun q => h q.2)]
  · rintro s _
    try simp only
    rw [dF (by omega), cnd_f, if_pos (show Ch s [] from trivial)]
  · rintro i e r s hi hg _
    have d1 : decide ((i : Int) < l.length) = true := dT (by omega)
    have d2 : decide ((0 : Int) ≤ i) = true := dT (by omega)
    by_cases hv : vE e ∧ e.2.1 = s
    · left
      refine ⟨e.2.2.1 + 1, ?_, ?_, trivial⟩
      · have hb := hv.1.2.2.1
        have hb2 := hv.1.1
        have hb3 := hv.1.2.1
        simp only [Int.toNat_natCast, hg, d1, d2, Bool.and_self, cnd_t]
        rw [lmay_dec N (e.1, e.2.1, e.2.2.1, e.2.2.2.1, e.2.2.2.2), obind_s, dT (show vE (e.1, e.2.1, e.2.2.1, e.2.2.2.1, e.2.2.2.2) from hv.1), Bool.not_true, cnd_f, dF (by simpa using hv.2), cnd_f, wr_m (z := (i : Int) + 1) (by omega) (by omega), wr_m (z := e.2.2.1 + 1) (by omega) (by omega)]
      · have : Ch s (e :: r) ↔ Ch (e.2.2.1 + 1) r := by rw [Ch_cons]; exact ⟨fun q => q.2.2, fun q => ⟨hv.1, hv.2, q⟩⟩
        simp only [this]
    · right
      have hn : ¬ Ch s (e :: r) := fun q => hv ⟨q.1, q.2.1⟩
      rw [if_neg hn]
      simp only [Int.toNat_natCast, hg, d1, d2, Bool.and_self, cnd_t]
      rw [lmay_dec N (e.1, e.2.1, e.2.2.1, e.2.2.2.1, e.2.2.2.2), obind_s]
      by_cases hv1 : vE e
      · rw [dT (show vE (e.1, e.2.1, e.2.2.1, e.2.2.2.1, e.2.2.2.2) from hv1), Bool.not_true, cnd_f, dT (show e.2.1 ≠ s from fun q => hv ⟨hv1, q⟩), cnd_t]
      · rw [dF (show ¬ vE (e.1, e.2.1, e.2.2.1, e.2.2.2.1, e.2.2.2.2) from hv1), Bool.not_false, cnd_t]
open Classical in
theorem Clone_eq (N : Nat) (a : List Ev) (hl : a.length ≤ 1000) : W_slices_Clone_api_Event N a = some a := by
  unfold W_slices_Clone_api_Event V_slices_Clone_api_Event
  rw [dT (by omega), cnd_t]
theorem lTell (N : Nat) (a : List Ev) (n : Int) (t : List UInt8) (hl : a.length ≤ 1000) : W_log_Tell N (a, n, t) = some (a ++ [(1, n, n, t, 0)]) := by
  unfold W_log_Tell V_log_Tell
  try simp only
  rw [Clone_eq N a hl, obind_s, dT (by simp only [List.length_singleton]; omega), cnd_t]
theorem lSkip (N : Nat) (a : List Ev) (n m w : Int) (hl : a.length ≤ 1000) : W_log_Skip N (a, n, m, w) = some (a ++ [(2, n, m, [], w)]) := by
  unfold W_log_Skip V_log_Skip
  try simp only
  rw [Clone_eq N a hl, obind_s, dT (by first | omega | (simp only [List.length_singleton]; omega)), cnd_t]
open Classical in
theorem loop_rec2 {σ τ ρ α : Type} (l : List α) (mk : Int → σ → τ) (R : List α → σ → ρ) (Inv : σ → List α → List α → Prop) {f : τ → Option (τ ⊕ ρ)}
    (hend : ∀ s, Inv s l [] → f (mk l.length s) = some (.inr (R [] s)))
    (hstep : ∀ (pre : List α) (h : α) (r : List α) (s : σ), l = pre ++ h :: r → Inv s pre (h :: r) → (∃ s', f (mk pre.length s) = some (.inl (mk ((pre.length : Int) + 1) s')) ∧ R (h :: r) s = R r s' ∧ Inv s' (pre ++ [h]) r) ∨ f (mk pre.length s) = some (.inr (R (h :: r) s)))
    {N : Nat} {s : σ} (hN : l.length < N) (h0 : Inv s [] l) : loopN N f (mk 0 s) = some (R l s) := by
  have key : ∀ (rest pre : List α) (N : Nat) (s : σ), l = pre ++ rest → rest.length < N → Inv s pre rest → loopN N f (mk pre.length s) = some (R rest s) := by
    intro rest
    induction rest with
    | nil =>
      intro pre N s e hN hI
      obtain ⟨M, rfl⟩ : ∃ M, N = M + 1 := ⟨N - 1, by simp at hN; omega⟩
      rw [List.append_nil] at e
      subst e
      simp only [loopN, hend s hI]
    | cons h r ih =>
      intro pre N s e hN hI
      obtain ⟨M, rfl⟩ : ∃ M, N = M + 1 := ⟨N - 1, by simp at hN; omega⟩
      rcases hstep pre h r s e hI with ⟨s', h1, h2, h3⟩ | h1
      · simp only [loopN, h1]
        rw [h2]
        have := ih (pre ++ [h]) M s' (by rw [e]; simp) (by simp at hN; omega) h3
        simpa using this
      · simp only [loopN, h1]
  have := key l [] N s rfl hN h0
  simpa using this
open Classical in
theorem rHasS_eq (N : Nat) (l : List Sp) (n : Int) (hN : l.length < N) (hl : l.length ≤ 1000) : W_ref1_HasSpan N (l, n) = some (decide (∃ h ∈ l, h.1 ≤ n ∧ n ≤ h.2)) := by
  unfold W_ref1_HasSpan V_ref1_HasSpan
  try simp only
  refine obind_rec (0, 0) l (fun i (s : Unit) => i) (fun l s => if ∃ h ∈ l, h.1 ≤ n ∧ n ≤ h.2 then (.inr true : PUnit ⊕ Bool) else .inl ()) (fun _ _ => True) () rfl hN trivial ?_ ?_ ?_
  · by_cases h : ∃ h ∈ l, h.1 ≤ n ∧ n ≤ h.2
    · rw [if_pos h, selim_r, dT h]
    · rw [if_neg h, selim_l, dF h]
  · rintro s _
    rw [dF (by omega), cnd_f, if_neg (by simp)]
  · rintro i ⟨p, q⟩ r s hi hg _
    have d1 : decide ((i : Int) < l.length) = true := dT (by omega)
    have d2 : decide ((0 : Int) ≤ i) = true := dT (by omega)
    simp only [Int.toNat_natCast, hg, d1, d2, Bool.and_self, cnd_t]
    rw [wr_m (z := (i : Int) + 1) (by omega) (by omega)]
    by_cases h1 : p ≤ n
    · rw [dT h1, cnd_t]
      by_cases h2 : n ≤ q
      · right
        rw [dT h2, cnd_t, if_pos ⟨(p, q), by simp, h1, h2⟩]
      · left
        refine ⟨(), by rw [dF h2, cnd_f], ?_, trivial⟩
        congr 1
        simp only [List.mem_cons, eq_iff_iff]
        exact ⟨fun ⟨x, hx, hc⟩ => by
          rcases hx with rfl | hx
          · exact absurd hc.2 h2
          · exact ⟨x, hx, hc⟩, fun ⟨x, hx, hc⟩ => ⟨x, .inr hx, hc⟩⟩
    · left
      refine ⟨(), by rw [dF h1, cnd_f], ?_, trivial⟩
      congr 1
      simp only [List.mem_cons, eq_iff_iff]
      exact ⟨fun ⟨x, hx, hc⟩ => by
        rcases hx with rfl | hx
        · exact absurd hc.1 h1
        · exact ⟨x, hx, hc⟩, fun ⟨x, hx, hc⟩ => ⟨x, .inr hx, hc⟩⟩
def G : Int → List Sp → Prop
  | _, [] => True
  | f, h :: r => okS h ∧ f ≤ h.1 ∧ G (h.2 + 2) r
open Classical in
theorem rMayS_eq (N : Nat) (l : List Sp) (hN : l.length < N) (hl : l.length ≤ 1000) : W_ref1_MaySpans N l = some (decide (G 1 l)) := by
  unfold W_ref1_MaySpans V_ref1_MaySpans
  have e := loop_rec2 (N := N) (f := fun (v : Int) =>
      cnd (decide (v < (↑(List.length l) : Int)))
        (cnd (decide ((0 : Int) ≤ v) && decide (v < (↑(List.length l) : Int)))
          (obind
            (W_ref1_MaySpan N
              (Prod.fst (List.getD l (Int.toNat v) ((0 : Int), (0 : Int))),
                Prod.snd (List.getD l (Int.toNat v) ((0 : Int), (0 : Int)))))
            fun (b : Bool) =>
            cnd (!b) (some (Sum.inr (Sum.inr false)))
              (cnd (decide ((0 : Int) < v))
                (cnd (decide ((0 : Int) ≤ v) && decide (v < (↑(List.length l) : Int)))
                  (cnd
                    (decide ((0 : Int) ≤ wr IntKind.i64 (v - (1 : Int))) &&
                      decide (wr IntKind.i64 (v - (1 : Int)) < (↑(List.length l) : Int)))
                    (cnd
                      (decide
                        (Prod.fst (List.getD l (Int.toNat v) ((0 : Int), (0 : Int))) ≤
                          wr IntKind.i64
                            (Prod.snd
                                (List.getD l (Int.toNat (wr IntKind.i64 (v - (1 : Int)))) ((0 : Int), (0 : Int))) +
                              (1 : Int))))
                      (some (Sum.inr (Sum.inr false))) (some (Sum.inl (wr IntKind.i64 (v + (1 : Int))))))
                    none)
                  none)
                (some (Sum.inl (wr IntKind.i64 (v + (1 : Int)))))))
          none)
        (some (Sum.inr (Sum.inl ())))) l (fun i (s : Int) => i) (fun l f => if G f l then (.inl () : PUnit ⊕ Bool) else .inr false)
    (fun s pre _ => (pre = [] ∧ s = 1) ∨ ∃ pp p, pre = pp ++ [p] ∧ okS p ∧ s = p.2 + 2) (fun s _ => by
      rw [dF (by omega), cnd_f, if_pos (show G s [] from trivial)]) (fun pre h r s e hI => ?_) (s := 1) hN (.inl ⟨rfl, rfl⟩)
  · refine (congrArg (fun x => obind x _) e).trans ?_
    rw [obind_s]
    by_cases h : G 1 l
    · rw [if_pos h, selim_l, dT h]
    · rw [if_neg h, selim_r, dF h]
  · obtain ⟨p, q⟩ := h
    have hlen : l.length = pre.length + (r.length + 1) := by rw [e]; simp
    have hg : l.getD pre.length (0, 0) = (p, q) := by rw [e, List.getD_eq_getElem?_getD, List.getElem?_append_right (Nat.le_refl _)]; simp
    have d1 : decide ((pre.length : Int) < l.length) = true := dT (by omega)
    have d2 : decide ((0 : Int) ≤ pre.length) = true := dT (by omega)
    simp only [Int.toNat_natCast, hg, d1, d2, Bool.and_self, cnd_t, rOk, obind_s]
    rw [wr_m (z := (pre.length : Int) + 1) (by omega) (by omega)]
    by_cases ho : okS (p, q)
    case neg =>
      right
      rw [dF ho, Bool.not_false, cnd_t, if_neg (fun h : G s ((p, q) :: r) => ho h.1)]
    rw [dT ho, Bool.not_true, cnd_f]
    rcases hI with ⟨rfl, rfl⟩ | ⟨pp, ⟨p0, q0⟩, rfl, ho2, rfl⟩
    · left
      refine ⟨q + 2, by simp only [List.length_nil]; rw [dF (by omega), cnd_f], ?_, .inr ⟨[], (p, q), rfl, ho, rfl⟩⟩
      congr 1
      simp only [G, eq_iff_iff]
      exact ⟨fun h => h.2.2, fun h => ⟨ho, ho.1, h⟩⟩
    · have hg2 : l.getD pp.length (0, 0) = (p0, q0) := by
        rw [e, List.getD_eq_getElem?_getD, List.append_assoc, List.getElem?_append_right (Nat.le_refl _)]; simp
      obtain ⟨k1, k2, k3⟩ := ho2
      simp only [List.length_append, List.length_singleton] at k1 k2 k3 hlen ⊢
      have w : wr .i64 (((pp.length + 1 : Nat) : Int) - 1) = pp.length := by rw [wr_m (by omega) (by omega)]; omega
      rw [dT (by omega), cnd_t, w, dT (by omega), dT (by omega), Bool.and_self, cnd_t, Int.toNat_natCast, hg2]
      try simp only
      rw [wr_m (z := q0 + 1) (by omega) (by omega)]
      by_cases hf : p ≤ q0 + 1
      · right
        rw [dT hf, cnd_t, if_neg (fun h : G (q0 + 2) ((p, q) :: r) => by have := h.2.1; simp only at this; omega)]
      · left
        refine ⟨q + 2, by rw [dF hf, cnd_f], ?_, .inr ⟨pp ++ [(p0, q0)], (p, q), rfl, ho, rfl⟩⟩
        congr 1
        simp only [G, eq_iff_iff]
        exact ⟨fun h => h.2.2, fun h => ⟨ho, by omega, h⟩⟩
theorem bifI {α : Type} (a b : Int) (x y : α) : (bif a == b then x else y) = if a = b then x else y := by
  by_cases h : a = b
  · subst h; simp
  · rw [if_neg h, beq_false_of_ne h]; rfl
theorem mget_c {α : Type} (d : α) (k : Int) (p : Int × α) (r : List (Int × α)) : mget d k (p :: r) = if p.1 = k then p.2 else mget d k r := bifI _ _ _ _
theorem mput_c {α : Type} (k : Int) (x : α) (p : Int × α) (r : List (Int × α)) : mput k x (p :: r) = if p.1 = k then (k, x) :: r else p :: mput k x r := bifI _ _ _ _
theorem mget_mput {α : Type} (d : α) (k k' : Int) (x : α) : ∀ l : List (Int × α), mget d k (mput k' x l) = if k = k' then x else mget d k l
  | [] => by
    show mget d k [(k', x)] = _
    rw [mget_c]
    by_cases h : k = k'
    · rw [if_pos h, if_pos h.symm]
    · rw [if_neg (fun e => h (Eq.symm e)), if_neg h]
  | p :: r => by
    have ih := mget_mput d k k' x r
    rw [mput_c, mget_c d k p r]
    by_cases h1 : p.1 = k'
    · rw [if_pos h1, mget_c]
      by_cases h2 : k = k'
      · rw [if_pos h2, if_pos h2.symm]
      · rw [if_neg (fun e => h2 (Eq.symm e)), if_neg h2, if_neg (by omega)]
    · rw [if_neg h1, mget_c, ih]
      by_cases h4 : p.1 = k
      · rw [if_pos h4, if_neg (by omega), if_pos h4]
      · rw [if_neg h4, if_neg h4]
def Inn (l : List Sp) (k : Int) : Prop := ∃ h ∈ l, h.1 ≤ k ∧ k ≤ h.2
theorem Inn_app (a b : List Sp) (k : Int) : Inn (a ++ b) k ↔ Inn a k ∨ Inn b k := by
  unfold Inn
  constructor
  · rintro ⟨h, hm, hk⟩
    rcases List.mem_append.1 hm with q | q
    · exact .inl ⟨h, q, hk⟩
    · exact .inr ⟨h, q, hk⟩
  · rintro (⟨h, hm, hk⟩ | ⟨h, hm, hk⟩)
    · exact ⟨h, List.mem_append.2 (.inl hm), hk⟩
    · exact ⟨h, List.mem_append.2 (.inr hm), hk⟩
theorem Inn_one (s : Sp) (k : Int) : Inn [s] k ↔ s.1 ≤ k ∧ k ≤ s.2 := by simp [Inn]
theorem Inn_push {o : List Sp} {lo hi : Int} (ho : ∀ s ∈ o, okS s) (hl : lo ≤ hi) (k : Int) : Inn (push o lo hi) k ↔ Inn o k ∨ (lo ≤ k ∧ k ≤ hi) := by
  rcases snoc_cases o with rfl | ⟨p, t, rfl⟩
  · rw [push_nil, Inn_one]
    have : ¬ Inn [] k := by simp [Inn]
    simp [this]
  · rw [push_snoc]
    have ht := ho t (by simp)
    have h1 := ht.2.1
    split
    · rename_i e
      rw [Inn_app, Inn_app, Inn_one, Inn_one]
      constructor
      · rintro (q | q)
        · exact .inl (.inl q)
        · simp only at q
          by_cases c : k ≤ t.2
          · exact .inl (.inr ⟨q.1, c⟩)
          · exact .inr ⟨by omega, q.2⟩
      · rintro ((q | q) | q)
        · exact .inl q
        · exact .inr ⟨q.1, by simp only; omega⟩
        · exact .inr ⟨by simp only; omega, q.2⟩
    · rw [Inn_app, Inn_one]
theorem VS_G : ∀ {l : List Sp} {f : Int}, VS l → (∀ a ∈ l, f ≤ a.1) → G f l
  | [], _, _, _ => trivial
  | h :: r, f, ⟨ho, hp⟩, hf => by
    rw [List.pairwise_cons] at hp
    refine ⟨ho h (by simp), hf h (by simp), VS_G ⟨fun a ha => ho a (by simp [ha]), hp.2⟩ fun a ha => ?_⟩
    have : h.2 + 1 < a.1 := hp.1 a ha
    omega
structure LW (f : Int) (x : List Ev) (next : Int) (m : List (Int × Bool)) : Prop where
  c : Ch f x
  n : nx f x = next
  le : f ≤ next
  g : ∀ k, Inn (gp [] x) k ↔ f ≤ k ∧ k < next ∧ mget false k m = false
theorem LW.told {f next : Int} {x : List Ev} {m : List (Int × Bool)} (h : LW f x next m) (h1 : 1 ≤ next) (h2 : next ≤ 1000000) : LW f (x ++ [(1, next, next, [116], 0)]) (next + 1) (mput next true m) := by
  obtain ⟨c, n, le, g⟩ := h
  refine ⟨?_, ?_, by omega, fun k => ?_⟩
  · rw [Ch_append, n]
    exact ⟨c, ⟨h1, Int.le_refl _, h2, .inl ⟨rfl, rfl, by show ([116] : List UInt8).length ≤ 12; decide, rfl⟩⟩, rfl, trivial⟩
  · rw [nx_append, n]; rfl
  · rw [gp_append]
    have e : gp (gp [] x) [((1 : Int), next, next, [(116 : UInt8)], (0 : Int))] = gp [] x := by
      simp only [gp]; rw [if_neg (by omega)]
    rw [e, g k, mget_mput]
    by_cases q : k = next
    · rw [if_pos q]; simp; omega
    · rw [if_neg q]; constructor
      · rintro ⟨a, b, d⟩; exact ⟨a, by omega, d⟩
      · rintro ⟨a, b, d⟩; exact ⟨a, by omega, d⟩
theorem LW.gap {f next hi : Int} {x : List Ev} {m : List (Int × Bool)} (h : LW f x next m) (hm : ∀ k, next ≤ k → mget false k m = false) (h1 : 1 ≤ f) (hh : next ≤ hi) (h2 : hi ≤ 1000000) : LW f (x ++ [(2, next, hi, [], 2)]) (hi + 1) m := by
  obtain ⟨c, n, le, g⟩ := h
  have hv := gp_inv x [] f c ⟨by simp, List.Pairwise.nil⟩ (by simp)
  refine ⟨?_, ?_, by omega, fun k => ?_⟩
  · rw [Ch_append, n]
    exact ⟨c, ⟨by show (1 : Int) ≤ next; omega, hh, h2, .inr ⟨rfl, rfl, .inr rfl⟩⟩, rfl, trivial⟩
  · rw [nx_append, n]; rfl
  · rw [gp_append]
    have e : gp (gp [] x) [((2 : Int), next, hi, [], (2 : Int))] = push (gp [] x) next hi := by
      simp only [gp]; rw [if_pos trivial]
    rw [e, Inn_push hv.1.1 hh, g k]
    constructor
    · rintro (⟨a, b, d⟩ | ⟨a, b⟩)
      · exact ⟨a, by omega, d⟩
      · exact ⟨by omega, by omega, hm k a⟩
    · rintro ⟨a, b, d⟩
      by_cases q : k < next
      · exact .inl ⟨a, q, d⟩
      · exact .inr ⟨by omega, by omega⟩
open Classical in
theorem law_aux (N : Nat) (hN : 2000 ≤ N) (hbeg : W_law16_begun N () = some true) (l : List (Int × Int)) (hl : ∀ w ∈ l, (0 ≤ w.1 ∧ w.1 ≤ 255) ∧ 0 ≤ w.2 ∧ w.2 ≤ 255) (fr n : Int) (hf : 0 ≤ fr ∧ fr ≤ 255) (hn : 0 ≤ n ∧ n ≤ 255) :
    W_law16_LogWhole N (l, fr, n) = some true := by
  unfold W_law16_LogWhole V_law16_LogWhole
  try simp only
  rw [hbeg, obind_s, Bool.not_true, cnd_f]
  by_cases c1 : (15 : Int) < l.length
  · rw [cnd_T c1]
  rw [cnd_F c1]
  have t1 := Int.tmod_nonneg 9 hf.1
  have t2 := Int.tmod_lt_of_pos fr (show (0 : Int) < 9 by omega)
  rw [wr_m (z := Int.tmod fr 9) (by omega) (by omega), wr_m (z := 1 + Int.tmod fr 9) (by omega) (by omega)]
  obtain ⟨f, hfe⟩ : ∃ f : Int, f = 1 + Int.tmod fr 9 := ⟨_, rfl⟩
  rw [← hfe]
  have f1 : 1 ≤ f := by omega
  have f2 : f ≤ 9 := by omega
  clear hfe
  refine loop_G (σ := List Ev × Int × Int × List (Int × Bool)) (ρ := (List Ev × Int × List (Int × Bool)) ⊕ Bool) (β := Bool) (· = some true) (fun i v => v.2.2.1 = i ∧ i ≤ l.length ∧ LW f v.1 v.2.1 v.2.2.2 ∧ v.1.length = i ∧ v.2.1 ≤ 9 + 4 * i ∧ ∀ k, v.2.1 ≤ k → mget false k v.2.2.2 = false) l.length
    (fun r => ∃ b : List Ev × Int × List (Int × Bool), r = .inl b ∧ LW f b.1 b.2.1 b.2.2 ∧ b.1.length ≤ 15 ∧ b.2.1 ≤ 100 ∧ ∀ k, b.2.1 ≤ k → mget false k b.2.2 = false) ⟨rfl, Nat.zero_le _, ⟨trivial, rfl, Int.le_refl _, fun k => ?_⟩, rfl, by simp only; omega, fun k _ => rfl⟩ (by omega) ?_ (fun k v h => h.2.1) ?_
  · have : ¬ Inn (gp [] []) k := by simp [gp, Inn]
    simp only [this, false_iff]
    intro q; omega
  · rintro r ⟨⟨x, next, m⟩, rfl, hw, hx, hnx, hm⟩
    simp only at hw hx hnx hm
    simp only [selim]
    have hv := gp_inv x [] f hw.c ⟨by simp, List.Pairwise.nil⟩ (by simp)
    have hgl : (gp [] x).length ≤ 15 := by have := hv.2.2; simp only [List.length_nil] at this; omega
    have hle := hw.le
    rw [lGaps_eq N x (by omega) (by omega) (Ch_v x f hw.c), obind_s]
    refine loop_G (σ := Int × List (Int × Bool)) (ρ := PUnit ⊕ Bool) (β := Bool) (· = some true) (fun i v => v.1 = i ∧ i ≤ 80 ∧ v.2 = m) 80 (fun r => r = .inl ()) ⟨rfl, by omega, rfl⟩ (by omega) ?_ (fun k v h => h.2.1) ?_
    · rintro r rfl
      simp only [selim]
      have hG : G 1 (gp [] x) := VS_G hv.1 fun a ha => (hv.1.1 a ha).1
      have s1 := Int.tmod_nonneg 5 hn.1
      have s2 := Int.tmod_lt_of_pos n (show (0 : Int) < 5 by omega)
      rw [rMayS_eq N _ (by omega) (by omega), obind_s, decide_eq_true hG, cnd_t, wr_m (z := next + 1) (by omega) (by omega), wr_m (z := Int.tmod n 5) (by omega) (by omega), wr_m (z := next + 1 + Int.tmod n 5) (by omega) (by omega), lTell N x _ _ (by omega), obind_s,
        lMayD N _ f (by simp; omega) (by simp; omega), obind_s]
      have hno : ¬ (1 ≤ f ∧ Ch f (x ++ [((1 : Int), next + 1 + Int.tmod n 5, next + 1 + Int.tmod n 5, [(116 : UInt8)], (0 : Int))])) := by
        rintro ⟨_, hc⟩
        rw [Ch_append, hw.n] at hc
        have := hc.2.2.1
        simp only at this
        omega
      rw [decide_eq_false hno, Bool.not_false, obind_s, cnd_t, wr_m (z := f + 1) (by omega) (by omega), lMayD N x (f + 1) (by omega) (by omega), obind_s]
      cases x with
      | nil => rw [decide_eq_true ⟨by omega, trivial⟩]; rfl
      | cons e r =>
        have h0 : ¬ (1 ≤ f + 1 ∧ Ch (f + 1) (e :: r)) := by
          rintro ⟨_, hc⟩
          have a1 := hc.2.1
          have a2 := hw.c.2.1
          omega
        rw [decide_eq_false h0, dT (show (0 : Int) < ((e :: r).length : Int) by simp)]; rfl
    · rintro i ⟨k, M⟩ ⟨hk, hi, hM⟩
      simp only at hk hi hM ⊢
      subst hM
      by_cases hc : k < 80
      · left
        rw [cnd_T hc, rHasS_eq N _ k (by omega) (by omega), obind_s, wr_m (z := k + 1) (by omega) (by omega)]
        have hg := hw.g k
        have hd : ∀ b : Bool, ((∃ h ∈ gp [] x, h.1 ≤ k ∧ k ≤ h.2) ↔ b = true) → ∀ (ins : Decidable (∃ h ∈ gp [] x, h.1 ≤ k ∧ k ≤ h.2)), @decide _ ins = b := fun b hb ins => by
          cases b with
          | true => exact decide_eq_true (hb.2 rfl)
          | false => exact decide_eq_false (fun q => by have := hb.1 q; cases this)
        have fin : ∃ y : Int × List (Int × Bool), some (Sum.inl (k + 1, M) : (Int × List (Int × Bool)) ⊕ (PUnit ⊕ Bool)) = some (.inl y) ∧ y.1 = (((i + 1 : Nat)) : Int) ∧ i + 1 ≤ 80 ∧ y.2 = M := ⟨_, rfl, by simp only; omega, by omega, rfl⟩
        by_cases q1 : f ≤ k
        · rw [cnd_T q1, obind_s]
          try simp only
          by_cases q2 : k < next
          · rw [cnd_T q2, hd (!mget false k M) (by
              show Inn (gp [] x) k ↔ _
              rw [hg]
              cases mget false k M <;> simp [q1, q2])]
            simp only [beq_self_eq_true, Bool.not_true, cnd_f]
            exact fin
          · rw [cnd_F q2, hd false (by
              show Inn (gp [] x) k ↔ _
              rw [hg]
              simp [q2])]
            simp only [beq_self_eq_true, Bool.not_true, cnd_f]
            exact fin
        · rw [cnd_F q1, obind_s]
          try simp only
          rw [cnd_f, hd false (by
              show Inn (gp [] x) k ↔ _
              rw [hg]
              simp [q1])]
          simp only [beq_self_eq_true, Bool.not_true, cnd_f]
          exact fin
      · right
        rw [cnd_F hc]
        exact ⟨_, rfl, rfl⟩
  · rintro i ⟨x, next, q, m⟩ ⟨hq, hi, hw, hx, hnx, hm⟩
    simp only at hq hi hw hx hnx hm ⊢
    subst hq
    have hle := hw.le
    by_cases hc : i < l.length
    · left
      have e : (decide ((0 : Int) ≤ (i : Int)) && decide ((i : Int) < (l.length : Int))) = true := by rw [dT (show (0 : Int) ≤ (i : Int) by omega), dT (show (i : Int) < (l.length : Int) by omega)]; rfl
      have hmem : l.getD i (0, 0) ∈ l := by rw [List.getD_eq_getElem?_getD, List.getElem?_eq_getElem hc]; exact List.getElem_mem hc
      rw [cnd_T (show (i : Int) < (l.length : Int) by omega), Int.toNat_natCast, e, cnd_t, cnd_t, wr_m (z := (i : Int) + 1) (by omega) (by omega)]
      obtain ⟨⟨a0, a1⟩, b0, b1⟩ := hl _ hmem
      generalize l.getD i (0, 0) = u at a0 a1 b0 b1 ⊢
      obtain ⟨ua, ub⟩ := u
      simp only at a0 a1 b0 b1 ⊢
      have t5 := Int.tmod_nonneg 4 b0
      have t6 := Int.tmod_lt_of_pos ub (show (0 : Int) < 4 by omega)
      by_cases c2 : 0 < Int.tmod ua 3
      · rw [cnd_T c2, lTell N x _ _ (by omega), obind_s, obind_s, wr_m (z := next + 1) (by omega) (by omega)]
        have hw' := hw.told (by omega) (by omega)
        have hv' := Ch_nx _ f hw'.c f1 (by omega)
        rw [lMayD N _ f (by simp; omega) (by simp; omega), obind_s, decide_eq_true ⟨f1, hw'.c⟩, Bool.not_true, cnd_f, lNext_eq N _ f (by simp; omega) (Ch_v _ f hw'.c), obind_s, hw'.n]
        try simp only
        rw [cnd_F (by simp)]
        refine ⟨_, rfl, by simp only; omega, by omega, hw', by simp; omega, by simp only; omega, fun k hk => ?_⟩
        simp only at hk ⊢
        rw [mget_mput, if_neg (by omega)]
        exact hm k (by omega)
      · rw [cnd_F c2, wr_m (z := Int.tmod ub 4) (by omega) (by omega), wr_m (z := next + Int.tmod ub 4) (by omega) (by omega), lSkip N x _ _ _ (by omega), obind_s, obind_s, wr_m (z := next + Int.tmod ub 4 + 1) (by omega) (by omega)]
        have hw' := hw.gap (hi := next + Int.tmod ub 4) hm f1 (by omega) (by omega)
        rw [lMayD N _ f (by simp; omega) (by simp; omega), obind_s, decide_eq_true ⟨f1, hw'.c⟩, Bool.not_true, cnd_f, lNext_eq N _ f (by simp; omega) (Ch_v _ f hw'.c), obind_s, hw'.n]
        try simp only
        rw [cnd_F (by simp)]
        exact ⟨_, rfl, by simp only; omega, by omega, hw', by simp; omega, by simp only; omega, fun k hk => hm k (by simp only at hk; omega)⟩
    · right
      rw [cnd_F (show ¬ (i : Int) < (l.length : Int) by omega)]
      exact ⟨_, rfl, _, rfl, hw, by simp only; omega, by simp only; omega, hm⟩
def NN : Nat := 2000
theorem begun_ok : W_law16_begun NN () = some true := by decide +kernel
theorem law_true (y0 : List (Int × Int)) (y1 : Int) (y2 : Int) (h0 : Twf (.list (.agg (.pair (.int .u8) (.int .u8)))) y0) (h1 : Twf (.int .u8) y1) (h2 : Twf (.int .u8) y2) : W_law16_LogWhole NN (y0, y1, y2) = some true :=
  law_aux NN (Nat.le_refl _) begun_ok y0 (fun w hw => h0.2 w hw) y1 y2 h1 h2

theorem spec (y0 : List (Int × Int)) (y1 : Int) (y2 : Int) (h0 : Twf (.list (.agg (.pair (.int .u8) (.int .u8)))) y0) (h1 : Twf (.int .u8) y1) (h2 : Twf (.int .u8) y2) : Spec2 P0 5 [valW (.list (.agg (.pair (.int .u8) (.int .u8)))) y0, valW (.int .u8) y1, valW (.int .u8) y2] [] (.bs true) [] [] := (con_law16_LogWhole_ok NN).2 (y0, y1, y2) true (law_true y0 y1 y2 h0 h1 h2)
theorem lifted (os : Os) (started : os.Started) (H : Type) (enc : TypeId × Value → H) :
    ReturnsInHanded {} Try.checked os 5 .any (Rows.logWholeSpec.pre6 enc Try.prog Try.f5 Rows.logWholeRow.domain false) (Rows.logWholeSpec.post enc Try.prog Try.f5 false true false false) := by
  refine returnsInHanded_of_change (C := Try.checked) own started (by kernel_rfl) Try.func5
    (ChangeSpec.witness6 (enc := enc) (C := Try.checked) false ⟨#[], #[.slice none 0 0, .int .u8 0, .int .u8 0], []⟩ 8 (by kernel_rfl) (by kernel_rfl) (by kernel_rfl) (by kernel_rfl)) ?_
  intro W base args ds gs before hval0 hW hcnd _
  have hval : ∀ (j : Nat) t v, Try.f5.params[j]? = some t → args[j]? = some v → Value.okWide Try.prog W .any base t v := hval0
  have hW' := hW
  obtain ⟨p, q, hA0, hV, rfl, hfz, hnd⟩ := hW
  have hA : DataW.TrodAll enc Try.prog W 0 (fun _ => true) true Try.f5.params.toList args.toList ds p := hA0
  rw [Try.params5] at hA hval
  obtain ⟨v0, vs0, d0, ds0, p0, q0, hargs, rfl, rfl, h0, r0⟩ := trodAll_cons hA
  obtain ⟨v1, vs1, d1, ds1, p1, q1, rfl, rfl, rfl, h1, r1⟩ := trodAll_cons r0
  obtain ⟨v2, vs2, d2, ds2, p2, q2, rfl, rfl, rfl, h2, r2⟩ := trodAll_cons r1
  obtain ⟨rfl, rfl, rfl⟩ := trodAll_nil r2
  obtain rfl : args = #[v0, v1, v2] := by cases args; simp_all
  obtain ⟨rfl, rfl⟩ := trodVars_none hV
  have k0 := h0
  have lt0 : ∀ x ∈ p0, x.block < W.heap.size := by obtain ⟨m, hm⟩ := k0; exact DataW.trod_lt m _ _ _ hm
  obtain ⟨y0, rp0, wf0⟩ := arg_ok (n := 12) (ty := (.list (.agg (.pair (.int .u8) (.int .u8))))) (by kernel_rfl) (hval 0 _ v0 rfl rfl) h0
  have k1 := h1
  have lt1 : ∀ x ∈ p1, x.block < W.heap.size := by obtain ⟨m, hm⟩ := k1; exact DataW.trod_lt m _ _ _ hm
  obtain ⟨y1, rp1, wf1⟩ := arg_ok (n := 12) (ty := (.int .u8)) (by kernel_rfl) (hval 1 _ v1 rfl rfl) h1
  have k2 := h2
  have lt2 : ∀ x ∈ p2, x.block < W.heap.size := by obtain ⟨m, hm⟩ := k2; exact DataW.trod_lt m _ _ _ hm
  obtain ⟨y2, rp2, wf2⟩ := arg_ok (n := 12) (ty := (.int .u8)) (by kernel_rfl) (hval 2 _ v2 rfl rfl) h2
  clear hA0 hval0
  refine (law_of2 (spec y0 y1 y2 wf0 wf1 wf2) W #[v0, v1, v2] (.cons rp0 (.cons rp1 (.cons rp2 .nil)))).mono fun e W' ⟨he, bel⟩ => ?_
  subst he
  exact ⟨_, rfl, _, _, _, [], _, [], hW', trodAll_mk1 (shut_bool Try.underlying4 _), (trodAll_cons_mk (Below.trod laidOut (by kernel_rfl) (of_decide_eq_true (by kernel_rfl)) k0 bel lt0) (trodAll_cons_mk (Below.trod laidOut (by kernel_rfl) (of_decide_eq_true (by kernel_rfl)) k1 bel lt1) (trodAll_cons_mk (Below.trod laidOut (by kernel_rfl) (of_decide_eq_true (by kernel_rfl)) k2 bel lt2) trodAll_mk0))), rfl, bel.frame _, fun h => by cases h⟩

theorem over : Rows.logWholeRow.holds Try.pinned (OpenSpec.ofChange Rows.logWholeSpec) :=
  OpenClaim.holds_of_wide 5 Try.f5 rfl rfl rfl rfl rfl rfl rfl ⟨rfl, rfl, rfl, rfl, rfl⟩ rfl rfl rfl rfl rfl (by kernel_rfl) Try.func5 (by kernel_rfl)
    (of_decide_eq_true (by kernel_rfl)) (by unfold Func.isWrapper; first | (rw [if_pos (by decide +kernel)]; kernel_rfl) | (rw [if_neg (by decide +kernel)]; exact ⟨rfl, rfl⟩))
    (fun os started H enc _ => lifted os started H enc)

theorem holds : Rows.LogWholeSaid := over
end Go.Proofs.Ytcpbafjaalofbaa.logWholeX
