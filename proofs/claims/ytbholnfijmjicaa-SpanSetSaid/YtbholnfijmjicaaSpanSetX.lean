/- SpanSet: for all arguments the call returns true. The law is brought to a function of Lean's own (W_..) by the machine of the texts beside it, and that is reckoned; no condition. -/
import Derived.Test.YtbholnfijmjicaaExtCm
import Derived.Test.YtbholnfijmjicaaRows
import Derived.WalkKit
import Derived.ProofKit
import Derived.OpenShut
import Derived.ShutString
import Derived.ChangeOld
import Derived.Below
namespace Go.Proofs.Ytbholnfijmjicaa.spanSetX
open Go.Abs Go.RowKit Go.ChangeShapes Go.WideShapes Go.ChangeAt
set_option maxRecDepth 100000
set_option linter.unusedVariables false
set_option linter.unusedSimpArgs false
noncomputable abbrev P0 : Program := Try.prog
noncomputable def bodyOf (fn : Func) : Code := fn.body.getD .skip
def L0 : Lend := fun f => aget [] [] f
def kpL (l : List Bool) : Nat → Bool := fun j => l.getD j true
theorem own : ownKnob Try.prog.godebug = none := by kernel_rfl
theorem laidOut : laidOutB Try.prog = true := by kernel_rfl
theorem mixed : P0.follows .mixedOrders = true := by decide +kernel
theorem progOk_ : progOk P0 = true := by decide +kernel
noncomputable def u_span_read : Uf := ⟨44, 22, Try.f44, [.val (.agg (.pair (.int .i64) (.int .i64)))], [],
⟨[(2, .val (.alt 70 (.agg (.pair (.int .i64) (.int .i64))) (.alt1 86 (.agg .unit))))], []⟩, [],
[],
[(1000001, .reg [(10, [], ⟨[(1, .ptr 600001 0), (12, .val .bool)], [(600001, .box 40 (.val (.pair (.int .i64) (.int .i64))))]⟩)])], fun y => (valW (.alt 70 (.agg (.pair (.int .i64) (.int .i64))) (.alt1 86 (.agg .unit))) y, [], [])⟩
noncomputable def V_span_read (N : Nat) (x : Int × Int) : Option ((Int × Int) ⊕ Unit) :=
  obind (cnd (decide (x.1 < (1:Int))) (some (true, x)) (some (decide (x.2 < x.1), x))) fun (b : Bool × Int × Int) => cnd b.1 (some (Sum.inr ())) (cnd (decide ((1000000:Int) < b.2.2)) (some (Sum.inr ())) (some (Sum.inl b.2)))
theorem q_span_read : ∀ N x, u_span_read.F L0 P0 (orcOf []) N x = V_span_read N x := by intros; kernel_rfl
noncomputable def W_span_read (N : Nat) := V_span_read N
theorem con_span_read_ok (N : Nat) : (u_span_read.con (W_span_read N)).ok P0 := Uf.ok mixed (q_span_read N) trivial Try.func44 (by kernel_rfl) fun x y => by kernel_rfl
def as_slices_Clone_api_Span : List AS := [.val (.list (.agg (.pair (.int .i64) (.int .i64))))]
def bs_slices_Clone_api_Span : List BS := []
def pout_slices_Clone_api_Span : Pat := ⟨[(2, .acc 700005)], [(700005, .nrow 40 (.agg (.pair (.int .i64) (.int .i64))) false true)]⟩
noncomputable def G_slices_Clone_api_Span  (N : Nat) : OrcT := orcOf []
noncomputable def F_slices_Clone_api_Span  (N : Nat) (x : List (Int × Int)) : Option (List (Int × Int)) :=
  (evT (G_slices_Clone_api_Span  N) L0 P0 []
    [] N 400 (bodyOf Try.f45) ⟨8, slots 0 [.nl ⟨(.agg (.pair (.int .i64) (.int .i64))), x⟩], tabU (lbOf as_slices_Clone_api_Span bs_slices_Clone_api_Span x) [], []⟩).elim (kRet 8 pout_slices_Clone_api_Span (kpL []) (lbOf as_slices_Clone_api_Span bs_slices_Clone_api_Span x))
def out_slices_Clone_api_Span (y : List (Int × Int)) : V × List OK × List OK := (.acc 2000000 0, [], [.nrow 40 false true ⟨(.agg (.pair (.int .i64) (.int .i64))), y⟩])
noncomputable def V_slices_Clone_api_Span  (N : Nat) (x : List (Int × Int)) : Option (List (Int × Int)) :=
  cnd (decide (List.length x * (16:Nat) ≤ (140737488355328:Nat))) (some x) none
theorem FV_slices_Clone_api_Span_eq  (N : Nat) (x : List (Int × Int)) : F_slices_Clone_api_Span  N x = V_slices_Clone_api_Span  N x := by kernel_rfl
noncomputable def W_slices_Clone_api_Span (N : Nat) (x : List (Int × Int)) : Option (List (Int × Int)) := V_slices_Clone_api_Span  N x
theorem F_slices_Clone_api_Span_eq (N : Nat) (x : List (Int × Int)) : F_slices_Clone_api_Span  N x = W_slices_Clone_api_Span N x := (FV_slices_Clone_api_Span_eq  N x).trans (by kernel_rfl)
noncomputable def conw_slices_Clone_api_Span (w : List (Int × Int) → Option (List (Int × Int))) : Con := ⟨45, as_slices_Clone_api_Span, bs_slices_Clone_api_Span, List (Int × Int), w, out_slices_Clone_api_Span⟩
noncomputable def con_slices_Clone_api_Span (N : Nat) : Con := conw_slices_Clone_api_Span (W_slices_Clone_api_Span N)
theorem R_slices_Clone_api_Span_eq (x : List (Int × Int)) (y : List (Int × Int)) : retOf2 P0 Try.f45 (kpL []) (lbOf as_slices_Clone_api_Span bs_slices_Clone_api_Span x) (patS ⟨8, [], [], []⟩ pout_slices_Clone_api_Span y) = some (out_slices_Clone_api_Span y) := by kernel_rfl
noncomputable def FA_slices_Clone_api_Span : Option (List (Int × Int)) := (evT (G_slices_Clone_api_Span 1) L0 P0 [] [] 1 400 (bodyOf Try.f45) ⟨8, slots 0 [.snil], tabU [] [], []⟩).elim (kRet 8 pout_slices_Clone_api_Span (kpL []) [])
theorem FA_slices_Clone_api_Span_eq : FA_slices_Clone_api_Span = some [] := by kernel_rfl
theorem WN_slices_Clone_api_Span (N : Nat) (r : List (Int × Int)) (h : W_slices_Clone_api_Span N [] = some r) : r = [] := by
  have e : W_slices_Clone_api_Span N [] = some [] := by kernel_rfl
  rw [e] at h; injection h with h; exact h.symm
theorem con_slices_Clone_api_Span_ok (N : Nat) : Con.ok P0 (con_slices_Clone_api_Span N) := ⟨⟨Try.f45, Try.func45, by kernel_rfl, by kernel_rfl⟩, fun (x : List (Int × Int)) (r : List (Int × Int)) (hr : W_slices_Clone_api_Span N x = some r) =>
  clone_split (e := (.agg (.pair (.int .i64) (.int .i64)))) (ty := 40) (l := x) (r := r)
    (spec2_evT (Γ := G_slices_Clone_api_Span 1) (Λ := L0) (lb := []) (pout := pout_slices_Clone_api_Span) (kp := kpL []) mixed (orcOf_ok [] (by simp)) Try.func45 (c := bodyOf Try.f45) (by kernel_rfl) (by kernel_rfl) (of_decide_eq_true (by kernel_rfl)) FA_slices_Clone_api_Span_eq (R_slices_Clone_api_Span_eq x []))
    (spec2_evT (Γ := G_slices_Clone_api_Span N) (Λ := L0) (lb := []) (pout := pout_slices_Clone_api_Span) (kp := kpL []) mixed (orcOf_ok [] (by simp)) Try.func45 (c := bodyOf Try.f45) (by kernel_rfl) (by kernel_rfl) (of_decide_eq_true (by kernel_rfl)) ((F_slices_Clone_api_Span_eq N x).trans hr) (R_slices_Clone_api_Span_eq x r))
    (fun h => by subst h; exact WN_slices_Clone_api_Span N r hr)⟩
noncomputable def u_span_Add : Uf := ⟨21, 67, Try.f21, [.val (.list (.agg (.pair (.int .i64) (.int .i64)))), .val (.agg (.pair (.int .i64) (.int .i64)))], [],
⟨[(4, .val (.list (.agg (.pair (.int .i64) (.int .i64)))))], []⟩, [],
[(6, .loop [21] ⟨[(5, .ptr 600005 0), (7, .acc 700007), (8, .acc 700008), (23, .val (.int .i64))], [(600005, .box 70 (.val (.pair (.int .i64) (.int .i64)))), (700007, .nrow 40 (.agg (.pair (.int .i64) (.int .i64))) true true), (700008, .nrow 40 (.agg (.pair (.int .i64) (.int .i64))) true true)]⟩ [(.exit 0, ⟨[(5, .ptr 600005 0), (7, .acc 700007), (8, .val (.list (.agg (.pair (.int .i64) (.int .i64)))))], [(600005, .box 70 (.val (.pair (.int .i64) (.int .i64)))), (700007, .nrow 40 (.agg (.pair (.int .i64) (.int .i64))) true true)]⟩)])],
[], fun y => (valW (.list (.agg (.pair (.int .i64) (.int .i64)))) y, [], [])⟩
noncomputable def V_span_Add (w_span_read : Int × Int → Option ((Int × Int) ⊕ Unit)) (w_slices_Clone_api_Span : List (Int × Int) → Option (List (Int × Int))) (N : Nat) (x : (List (Int × Int)) × Int × Int) : Option (List (Int × Int)) :=
  obind (w_span_read x.2) fun b => selim (fun (b : Int × Int) => obind (loopN N (fun (v : Int × (Int × Int) × List (Int × Int) × List (Int × Int)) =>
    cnd (decide (v.1 < (↑(List.length x.1) : Int))) (cnd (decide ((0:Int) ≤ v.1) && decide (v.1 < (↑(List.length x.1) : Int))) (cnd (decide (Prod.snd
    (List.getD x.1 (Int.toNat v.1) ((0:Int), (0:Int))) < wr .i64 (v.2.1.1 - (1:Int)))) (cnd (decide ((List.length v.2.2.1 + List.length [(Prod.fst
    (List.getD x.1 (Int.toNat v.1) ((0:Int), (0:Int))), Prod.snd (List.getD x.1 (Int.toNat v.1) ((0:Int), (0:Int))))]) * (16:Nat) ≤
    (140737488355328:Nat))) (some (Sum.inl (wr .i64 (v.1 + (1:Int)), v.2.1, v.2.2.1 ++ [(Prod.fst (List.getD x.1 (Int.toNat v.1) ((0:Int), (0:Int))),
    Prod.snd (List.getD x.1 (Int.toNat v.1) ((0:Int), (0:Int))))], v.2.2.2))) none) (cnd (decide (wr .i64 (v.2.1.2 + (1:Int)) < Prod.fst (List.getD x.1
    (Int.toNat v.1) ((0:Int), (0:Int))))) (cnd (decide ((List.length v.2.2.2 + List.length [(Prod.fst (List.getD x.1 (Int.toNat v.1) ((0:Int),
    (0:Int))), Prod.snd (List.getD x.1 (Int.toNat v.1) ((0:Int), (0:Int))))]) * (16:Nat) ≤ (140737488355328:Nat))) (some (Sum.inl (wr .i64 (v.1 +
    (1:Int)), v.2.1, v.2.2.1, v.2.2.2 ++ [(Prod.fst (List.getD x.1 (Int.toNat v.1) ((0:Int), (0:Int))), Prod.snd (List.getD x.1 (Int.toNat v.1)
    ((0:Int), (0:Int))))]))) none) (some (Sum.inl (wr .i64 (v.1 + (1:Int)), (min v.2.1.1 (Prod.fst (List.getD x.1 (Int.toNat v.1) ((0:Int), (0:Int)))),
    max v.2.1.2 (Prod.snd (List.getD x.1 (Int.toNat v.1) ((0:Int), (0:Int))))), v.2.2))))) none) (some (Sum.inr (v.2.2.2, v.2.1, v.2.2.1)))) ((0:Int),
    b, [], [])) fun (b : List (Int × Int) × (Int × Int) × List (Int × Int)) => cnd (decide ((List.length b.2.2 + List.length [b.2.1]) * (16:Nat) ≤
    (140737488355328:Nat))) (cnd (decide ((List.length (b.2.2 ++ [b.2.1]) + List.length b.1) * (16:Nat) ≤ (140737488355328:Nat))) (some (b.2.2 ++
    [b.2.1] ++ b.1)) none) none) (fun (c : PUnit) => obind (w_slices_Clone_api_Span x.1) fun b => some b) b
theorem q_span_Add : ∀ w_span_read w_slices_Clone_api_Span N x, u_span_Add.F L0 P0 (orcOf [u_span_read.con w_span_read, conw_slices_Clone_api_Span w_slices_Clone_api_Span]) N x = V_span_Add w_span_read w_slices_Clone_api_Span N x := by intros; kernel_rfl
noncomputable def W_span_Add (N : Nat) := V_span_Add (W_span_read N) (W_slices_Clone_api_Span N) N
theorem con_span_Add_ok (N : Nat) : (u_span_Add.con (W_span_Add N)).ok P0 := Uf.ok mixed (q_span_Add (W_span_read N) (W_slices_Clone_api_Span N) N) ⟨con_span_read_ok N, con_slices_Clone_api_Span_ok N, trivial⟩ Try.func21 (by kernel_rfl) fun x y => by kernel_rfl
noncomputable def u_span_Has_1 : Uf := ⟨47, 14, Try.f47, [.val (.agg (.pair (.int .i64) (.int .i64))), .ptr 0 0], [.box 3 (.int .i64)],
⟨[(1, .ptr 1000000 0), (3, .val .bool)], [(1000000, .box 3 (.val (.int .i64)))]⟩, [true],
[],
[], fun y => (valW .bool y.1, [.box 3 (cellsW (.int .i64) y.2)], [])⟩
noncomputable def V_span_Has_1 (N : Nat) (x : (Int × Int) × Int) : Option (Bool × Int) :=
  cnd (decide (x.1.1 ≤ x.2)) (some (decide (x.2 ≤ x.1.2), x.2)) (some (false, x.2))
theorem q_span_Has_1 : ∀ N x, u_span_Has_1.F L0 P0 (orcOf []) N x = V_span_Has_1 N x := by intros; kernel_rfl
noncomputable def W_span_Has_1 (N : Nat) := V_span_Has_1 N
theorem con_span_Has_1_ok (N : Nat) : (u_span_Has_1.con (W_span_Has_1 N)).ok P0 := Uf.ok mixed (q_span_Has_1 N) trivial Try.func47 (by kernel_rfl) fun x y => by kernel_rfl
noncomputable def u_slices_IndexFunc_api_Span__span_Has_1 : Uf := ⟨57, 19, Try.f57, [.val (.list (.agg (.pair (.int .i64) (.int .i64)))), .fn 47 [0]], [.box 3 (.int .i64)],
⟨[(1, .fn 47 [1000000]), (4, .val (.int .i64))], [(1000000, .box 3 (.val (.int .i64)))]⟩, [true],
[(2, .loop [] ⟨[(1, .fn 47 [1000000]), (8, .val (.int .i64))], [(1000000, .box 3 (.val (.int .i64)))]⟩ [(.exit 0, ⟨[(1, .fn 47 [1000000])], [(1000000, .box 3 (.val (.int .i64)))]⟩), (.ret, ⟨[(1, .fn 47 [1000000]), (4, .val (.int .i64))], [(1000000, .box 3 (.val (.int .i64)))]⟩)])],
[], fun y => (valW (.int .i64) y.1, [.box 3 (cellsW (.int .i64) y.2)], [])⟩
noncomputable def V_slices_IndexFunc_api_Span__span_Has_1 (w_span_Has_1 : (Int × Int) × Int → Option (Bool × Int)) (N : Nat) (x : (List (Int × Int)) × Int) : Option (Int × Int) :=
  obind (loopN N (fun (v : Int × Int) => cnd (decide (v.1 < (↑(List.length x.1) : Int))) (cnd (decide ((0:Int) ≤ v.1) && decide (v.1 < (↑(List.length
    x.1) : Int))) (obind (w_span_Has_1 ((Prod.fst (List.getD x.1 (Int.toNat v.1) ((0:Int), (0:Int))), Prod.snd (List.getD x.1 (Int.toNat v.1)
    ((0:Int), (0:Int)))), v.2)) fun b => cnd b.1 (some (Sum.inr (Sum.inr (v.1, b.2)))) (some (Sum.inl (wr .i64 (v.1 + (1:Int)), b.2)))) none) (some
    (Sum.inr (Sum.inl v.2)))) ((0:Int), x.2)) fun (b : Int ⊕ Int × Int) => selim (fun (b : Int) => some ((-1 : Int), b)) (fun (c : Int × Int) => some c)
    b
theorem q_slices_IndexFunc_api_Span__span_Has_1 : ∀ w_span_Has_1 N x, u_slices_IndexFunc_api_Span__span_Has_1.F L0 P0 (orcOf [u_span_Has_1.con w_span_Has_1]) N x = V_slices_IndexFunc_api_Span__span_Has_1 w_span_Has_1 N x := by intros; kernel_rfl
noncomputable def W_slices_IndexFunc_api_Span__span_Has_1 (N : Nat) := V_slices_IndexFunc_api_Span__span_Has_1 (W_span_Has_1 N) N
theorem con_slices_IndexFunc_api_Span__span_Has_1_ok (N : Nat) : (u_slices_IndexFunc_api_Span__span_Has_1.con (W_slices_IndexFunc_api_Span__span_Has_1 N)).ok P0 := Uf.ok mixed (q_slices_IndexFunc_api_Span__span_Has_1 (W_span_Has_1 N) N) ⟨con_span_Has_1_ok N, trivial⟩ Try.func57 (by kernel_rfl) fun x y => by kernel_rfl
noncomputable def u_slices_ContainsFunc_api_Span__span_Has_1 : Uf := ⟨46, 9, Try.f46, [.val (.list (.agg (.pair (.int .i64) (.int .i64)))), .fn 47 [0]], [.box 3 (.int .i64)],
⟨[(1, .fn 47 [1000000]), (4, .val .bool)], [(1000000, .box 3 (.val (.int .i64)))]⟩, [true],
[],
[], fun y => (valW .bool y.1, [.box 3 (cellsW (.int .i64) y.2)], [])⟩
noncomputable def V_slices_ContainsFunc_api_Span__span_Has_1 (w_slices_IndexFunc_api_Span__span_Has_1 : (List (Int × Int)) × Int → Option (Int × Int)) (N : Nat) (x : (List (Int × Int)) × Int) : Option (Bool × Int) :=
  obind (w_slices_IndexFunc_api_Span__span_Has_1 x) fun b => some (decide ((0:Int) ≤ b.1), b.2)
theorem q_slices_ContainsFunc_api_Span__span_Has_1 : ∀ w_slices_IndexFunc_api_Span__span_Has_1 N x, u_slices_ContainsFunc_api_Span__span_Has_1.F L0 P0 (orcOf [u_slices_IndexFunc_api_Span__span_Has_1.con w_slices_IndexFunc_api_Span__span_Has_1]) N x = V_slices_ContainsFunc_api_Span__span_Has_1 w_slices_IndexFunc_api_Span__span_Has_1 N x := by intros; kernel_rfl
noncomputable def W_slices_ContainsFunc_api_Span__span_Has_1 (N : Nat) := V_slices_ContainsFunc_api_Span__span_Has_1 (W_slices_IndexFunc_api_Span__span_Has_1 N) N
theorem con_slices_ContainsFunc_api_Span__span_Has_1_ok (N : Nat) : (u_slices_ContainsFunc_api_Span__span_Has_1.con (W_slices_ContainsFunc_api_Span__span_Has_1 N)).ok P0 := Uf.ok mixed (q_slices_ContainsFunc_api_Span__span_Has_1 (W_slices_IndexFunc_api_Span__span_Has_1 N) N) ⟨con_slices_IndexFunc_api_Span__span_Has_1_ok N, trivial⟩ Try.func46 (by kernel_rfl) fun x y => by kernel_rfl
noncomputable def u_span_Has : Uf := ⟨22, 8, Try.f22, [.val (.list (.agg (.pair (.int .i64) (.int .i64)))), .val (.int .i64)], [],
⟨[(4, .val .bool)], []⟩, [],
[],
[], fun y => (valW .bool y, [], [])⟩
noncomputable def V_span_Has (w_slices_ContainsFunc_api_Span__span_Has_1 : (List (Int × Int)) × Int → Option (Bool × Int)) (N : Nat) (x : (List (Int × Int)) × Int) : Option (Bool) :=
  obind (w_slices_ContainsFunc_api_Span__span_Has_1 x) fun b => some b.1
theorem q_span_Has : ∀ w_slices_ContainsFunc_api_Span__span_Has_1 N x, u_span_Has.F L0 P0 (orcOf [u_slices_ContainsFunc_api_Span__span_Has_1.con w_slices_ContainsFunc_api_Span__span_Has_1]) N x = V_span_Has w_slices_ContainsFunc_api_Span__span_Has_1 N x := by intros; kernel_rfl
noncomputable def W_span_Has (N : Nat) := V_span_Has (W_slices_ContainsFunc_api_Span__span_Has_1 N) N
theorem con_span_Has_ok (N : Nat) : (u_span_Has.con (W_span_Has N)).ok P0 := Uf.ok mixed (q_span_Has (W_slices_ContainsFunc_api_Span__span_Has_1 N) N) ⟨con_slices_ContainsFunc_api_Span__span_Has_1_ok N, trivial⟩ Try.func22 (by kernel_rfl) fun x y => by kernel_rfl
noncomputable def u_span_Count : Uf := ⟨26, 22, Try.f26, [.val (.list (.agg (.pair (.int .i64) (.int .i64))))], [],
⟨[(2, .val (.int .i64))], []⟩, [],
[(3, .loop [6] ⟨[(3, .val (.int .i64)), (8, .val (.int .i64))], []⟩ [(.exit 0, ⟨[(3, .val (.int .i64))], []⟩)])],
[], fun y => (valW (.int .i64) y, [], [])⟩
noncomputable def V_span_Count (N : Nat) (x : List (Int × Int)) : Option (Int) :=
  obind (loopN N (fun (v : Int × Int) => cnd (decide (v.2 < (↑(List.length x) : Int))) (cnd (decide ((0:Int) ≤ v.2) && decide (v.2 < (↑(List.length x) :
    Int))) (some (Sum.inl (wr .i64 (v.1 + wr .i64 (wr .i64 (Prod.snd (List.getD x (Int.toNat v.2) ((0:Int), (0:Int))) - Prod.fst (List.getD x (Int.toNat
    v.2) ((0:Int), (0:Int)))) + (1:Int))), wr .i64 (v.2 + (1:Int))))) none) (some (Sum.inr v.1))) ((0:Int), (0:Int))) fun (b : Int) => some b
theorem q_span_Count : ∀ N x, u_span_Count.F L0 P0 (orcOf []) N x = V_span_Count N x := by intros; kernel_rfl
noncomputable def W_span_Count (N : Nat) := V_span_Count N
theorem con_span_Count_ok (N : Nat) : (u_span_Count.con (W_span_Count N)).ok P0 := Uf.ok mixed (q_span_Count N) trivial Try.func26 (by kernel_rfl) fun x y => by kernel_rfl
noncomputable def u_span_Lacks : Uf := ⟨23, 61, Try.f23, [.val (.list (.agg (.pair (.int .i64) (.int .i64)))), .val (.agg (.pair (.int .i64) (.int .i64)))], [],
⟨[(4, .val (.list (.agg (.pair (.int .i64) (.int .i64)))))], []⟩, [],
[(6, .loop [18] ⟨[(5, .ptr 600005 0), (7, .acc 700007), (20, .val (.int .i64))], [(600005, .box 70 (.val (.pair (.int .i64) (.int .i64)))), (700007, .nrow 40 (.agg (.pair (.int .i64) (.int .i64))) true true)]⟩ [(.exit 0, ⟨[(5, .ptr 600005 0), (7, .acc 700007)], [(600005, .box 70 (.val (.pair (.int .i64) (.int .i64)))), (700007, .nrow 40 (.agg (.pair (.int .i64) (.int .i64))) true true)]⟩)])],
[(11, .cut [18] [(.normal, ⟨[(5, .ptr 600005 0), (7, .acc 700007), (9, .ptr 600009 0)], [(600005, .box 70 (.val (.pair (.int .i64) (.int .i64)))), (700007, .nrow 40 (.agg (.pair (.int .i64) (.int .i64))) true true), (600009, .box 40 (.val (.pair (.int .i64) (.int .i64))))]⟩)])], fun y => (valW (.list (.agg (.pair (.int .i64) (.int .i64)))) y, [], [])⟩
noncomputable def V_span_Lacks (w_span_read : Int × Int → Option ((Int × Int) ⊕ Unit)) (N : Nat) (x : (List (Int × Int)) × Int × Int) : Option (List (Int × Int)) :=
  obind (w_span_read x.2) fun b => selim (fun (b : Int × Int) => obind (loopN N (fun (v : Int × (Int × Int) × List (Int × Int)) => cnd (decide (v.1 <
    (↑(List.length x.1) : Int))) (cnd (decide ((0:Int) ≤ v.1) && decide (v.1 < (↑(List.length x.1) : Int))) (cnd (decide (v.2.1.2 < Prod.fst (List.getD
    x.1 (Int.toNat v.1) ((0:Int), (0:Int))))) (some (Sum.inr v.2)) (obind (cnd (decide (v.2.1.1 < Prod.fst (List.getD x.1 (Int.toNat v.1) ((0:Int),
    (0:Int))))) (cnd (decide ((List.length v.2.2 + List.length [(v.2.1.1, wr .i64 (Prod.fst (List.getD x.1 (Int.toNat v.1) ((0:Int), (0:Int))) -
    (1:Int)))]) * (16:Nat) ≤ (140737488355328:Nat))) (some (v.2.1, v.2.2 ++ [(v.2.1.1, wr .i64 (Prod.fst (List.getD x.1 (Int.toNat v.1) ((0:Int),
    (0:Int))) - (1:Int)))], Prod.fst (List.getD x.1 (Int.toNat v.1) ((0:Int), (0:Int))), Prod.snd (List.getD x.1 (Int.toNat v.1) ((0:Int), (0:Int)))))
    none) (some (v.2.1, v.2.2, Prod.fst (List.getD x.1 (Int.toNat v.1) ((0:Int), (0:Int))), Prod.snd (List.getD x.1 (Int.toNat v.1) ((0:Int),
    (0:Int)))))) fun (b : (Int × Int) × List (Int × Int) × Int × Int) => some (Sum.inl (wr .i64 (v.1 + (1:Int)), (max b.1.1 (wr .i64 (b.2.2.2 +
    (1:Int))), b.1.2), b.2.1)))) none) (some (Sum.inr v.2))) ((0:Int), b, [])) fun (b : (Int × Int) × List (Int × Int)) => cnd (decide (b.1.1 ≤ b.1.2))
    (cnd (decide ((List.length b.2 + List.length [b.1]) * (16:Nat) ≤ (140737488355328:Nat))) (some (b.2 ++ [b.1])) none) (some b.2)) (fun (c : PUnit) =>
    some []) b
theorem q_span_Lacks : ∀ w_span_read N x, u_span_Lacks.F L0 P0 (orcOf [u_span_read.con w_span_read]) N x = V_span_Lacks w_span_read N x := by intros; kernel_rfl
noncomputable def W_span_Lacks (N : Nat) := V_span_Lacks (W_span_read N) N
theorem con_span_Lacks_ok (N : Nat) : (u_span_Lacks.con (W_span_Lacks N)).ok P0 := Uf.ok mixed (q_span_Lacks (W_span_read N) N) ⟨con_span_read_ok N, trivial⟩ Try.func23 (by kernel_rfl) fun x y => by kernel_rfl
noncomputable def u_span_May : Uf := ⟨25, 32, Try.f25, [.val (.list (.agg (.pair (.int .i64) (.int .i64))))], [],
⟨[(2, .val .bool)], []⟩, [],
[(3, .loop [8] ⟨[(3, .val (.int .i64)), (10, .val (.int .i64))], []⟩ [(.exit 0, ⟨[], []⟩), (.ret, ⟨[(2, .val .bool)], []⟩)])],
[], fun y => (valW .bool y, [], [])⟩
noncomputable def V_span_May (w_span_read : Int × Int → Option ((Int × Int) ⊕ Unit)) (N : Nat) (x : List (Int × Int)) : Option (Bool) :=
  obind (loopN N (fun (v : Int × Int) => cnd (decide (v.2 < (↑(List.length x) : Int))) (cnd (decide ((0:Int) ≤ v.2) && decide (v.2 < (↑(List.length x) :
    Int))) (obind (w_span_read (Prod.fst (List.getD x (Int.toNat v.2) ((0:Int), (0:Int))), Prod.snd (List.getD x (Int.toNat v.2) ((0:Int), (0:Int)))))
    fun b => selim (fun (b : Int × Int) => cnd (decide (b.1 < v.1)) (some (Sum.inr (Sum.inr false))) (some (Sum.inl (wr .i64 (b.2 + (2:Int)), wr .i64
    (v.2 + (1:Int)))))) (fun (c : PUnit) => some (Sum.inr (Sum.inr false))) b) none) (some (Sum.inr (Sum.inl ())))) ((1:Int), (0:Int))) fun (b : PUnit ⊕
    Bool) => selim (fun (b : PUnit) => some true) (fun (c : Bool) => some c) b
theorem q_span_May : ∀ w_span_read N x, u_span_May.F L0 P0 (orcOf [u_span_read.con w_span_read]) N x = V_span_May w_span_read N x := by intros; kernel_rfl
noncomputable def W_span_May (N : Nat) := V_span_May (W_span_read N) N
theorem con_span_May_ok (N : Nat) : (u_span_May.con (W_span_May N)).ok P0 := Uf.ok mixed (q_span_May (W_span_read N) N) ⟨con_span_read_ok N, trivial⟩ Try.func25 (by kernel_rfl) fun x y => by kernel_rfl
noncomputable def u_law3_begun : Uf := ⟨20, 47, Try.f20, [], [],
⟨[(0, .val .bool)], []⟩, [],
[],
[(1000002, .reg [(10, [1], ⟨[(15, .val .bool)], []⟩), (4, [1], ⟨[(19, .val .bool)], []⟩), (5, [1], ⟨[(24, .val .bool)], []⟩), (5, [1], ⟨[(29, .val .bool)], []⟩), (7, [1], ⟨[(36, .val .bool)], []⟩), (4, [], ⟨[(40, .val .bool)], []⟩)])], fun y => (valW .bool y, [], [])⟩
noncomputable def V_law3_begun (w_span_Add : (List (Int × Int)) × Int × Int → Option (List (Int × Int))) (w_span_Has : (List (Int × Int)) × Int → Option (Bool)) (w_span_Count : List (Int × Int) → Option (Int)) (w_span_Lacks : (List (Int × Int)) × Int × Int → Option (List (Int × Int))) (w_span_May : List (Int × Int) → Option (Bool)) (N : Nat) (x : Unit) : Option (Bool) :=
  obind (w_span_Add ([], (1:Int), (1:Int))) fun b => obind (w_span_Add (b, (2:Int), (3:Int))) fun b => obind (cnd (decide ((↑(List.length b) : Int)
    = (1:Int))) (cnd (decide ((0:Int) ≤ (0:Int)) && decide ((0:Int) < (↑(List.length b) : Int))) (some (decide (Prod.snd (List.getD b (0:Nat) ((0:Int),
    (0:Int))) = (3:Int)))) none) (some false)) fun (b_1 : Bool) => obind (cnd b_1 (obind (w_span_Has (b, (2:Int))) fun b => some b) (some false)) fun
    (b_2 : Bool) => obind (cnd b_2 (obind (w_span_Has (b, (4:Int))) fun b => some !b) (some false)) fun (b_3 : Bool) => obind (cnd b_3 (obind
    (w_span_Count b) fun b => some (decide (b = (3:Int)))) (some false)) fun (b_4 : Bool) => obind (cnd b_4 (obind (w_span_Lacks (b, (2:Int),
    (5:Int))) fun b => some (decide ((↑(List.length b) : Int) = (1:Int)))) (some false)) fun (b_5 : Bool) => obind (cnd b_5 (obind (w_span_May b) fun
    b => some b) (some false)) fun (b : Bool) => cnd b (obind (w_span_May [((0:Int), (0:Int))]) fun b => some !b) (some false)
theorem q_law3_begun : ∀ w_span_Add w_span_Has w_span_Count w_span_Lacks w_span_May N x, u_law3_begun.F L0 P0 (orcOf [u_span_Add.con w_span_Add, u_span_Has.con w_span_Has, u_span_Count.con w_span_Count, u_span_Lacks.con w_span_Lacks, u_span_May.con w_span_May]) N x = V_law3_begun w_span_Add w_span_Has w_span_Count w_span_Lacks w_span_May N x := by intros; kernel_rfl
noncomputable def W_law3_begun (N : Nat) := V_law3_begun (W_span_Add N) (W_span_Has N) (W_span_Count N) (W_span_Lacks N) (W_span_May N) N
theorem con_law3_begun_ok (N : Nat) : (u_law3_begun.con (W_law3_begun N)).ok P0 := Uf.ok mixed (q_law3_begun (W_span_Add N) (W_span_Has N) (W_span_Count N) (W_span_Lacks N) (W_span_May N) N) ⟨con_span_Add_ok N, con_span_Has_ok N, con_span_Count_ok N, con_span_Lacks_ok N, con_span_May_ok N, trivial⟩ Try.func20 (by kernel_rfl) fun x y => by kernel_rfl
noncomputable def u_ref1_SameSpans : Uf := ⟨24, 26, Try.f24, [.val (.list (.agg (.pair (.int .i64) (.int .i64)))), .val (.list (.agg (.pair (.int .i64) (.int .i64))))], [],
⟨[(4, .val .bool)], []⟩, [],
[(4, .loop [] ⟨[(5, .val (.int .i64))], []⟩ [(.exit 0, ⟨[], []⟩), (.ret, ⟨[(4, .val .bool)], []⟩)])],
[], fun y => (valW .bool y, [], [])⟩
noncomputable def V_ref1_SameSpans (N : Nat) (x : (List (Int × Int)) × List (Int × Int)) : Option (Bool) :=
  cnd (decide ((↑(List.length x.1) : Int) ≠ (↑(List.length x.2) : Int))) (some false) (obind (loopN N (fun (v : Int) => cnd (decide (v < (↑(List.length
    x.1) : Int))) (cnd (decide ((0:Int) ≤ v) && decide (v < (↑(List.length x.1) : Int))) (cnd (decide ((0:Int) ≤ v) && decide (v < (↑(List.length x.2) :
    Int))) (cnd (!(decide (Prod.fst (List.getD x.1 (Int.toNat v) ((0:Int), (0:Int))) = Prod.fst (List.getD x.2 (Int.toNat v) ((0:Int), (0:Int)))) &&
    decide (Prod.snd (List.getD x.1 (Int.toNat v) ((0:Int), (0:Int))) = Prod.snd (List.getD x.2 (Int.toNat v) ((0:Int), (0:Int)))))) (some (Sum.inr
    (Sum.inr false))) (some (Sum.inl (wr .i64 (v + (1:Int)))))) none) none) (some (Sum.inr (Sum.inl ())))) (Int.ofNat (0:Nat))) fun (b : PUnit ⊕ Bool)
    => selim (fun (b : PUnit) => some true) (fun (c : Bool) => some c) b)
theorem q_ref1_SameSpans : ∀ N x, u_ref1_SameSpans.F L0 P0 (orcOf []) N x = V_ref1_SameSpans N x := by intros; kernel_rfl
noncomputable def W_ref1_SameSpans (N : Nat) := V_ref1_SameSpans N
theorem con_ref1_SameSpans_ok (N : Nat) : (u_ref1_SameSpans.con (W_ref1_SameSpans N)).ok P0 := Uf.ok mixed (q_ref1_SameSpans N) trivial Try.func24 (by kernel_rfl) fun x y => by kernel_rfl
noncomputable def u_law3_SpanSet : Uf := ⟨6, 161, Try.f6, [.val (.list (.agg (.pair (.int .u8) (.int .u8)))), .val (.int .u8), .val (.int .u8), .val (.int .u8)], [],
⟨[(8, .val .bool)], []⟩, [],
[(14, .loop [9, 10] ⟨[(11, .arr 600011 1), (15, .val (.int .i64))], [(600011, .nrow 36 .bool false false)]⟩ [(.exit 2, ⟨[(11, .arr 600011 1)], [(600011, .nrow 36 .bool false false)]⟩)]),
(8, .loop [] ⟨[(9, .val (.list (.agg (.pair (.int .i64) (.int .i64))))), (10, .val (.list (.agg (.pair (.int .i64) (.int .i64))))), (11, .arr 600011 1), (12, .val (.int .i64))], [(600011, .nrow 36 .bool false false)]⟩ [(.exit 0, ⟨[(9, .val (.list (.agg (.pair (.int .i64) (.int .i64))))), (10, .val (.list (.agg (.pair (.int .i64) (.int .i64))))), (11, .arr 600011 1)], [(600011, .nrow 36 .bool false false)]⟩)]),
(22, .loop [9, 10] ⟨[(11, .arr 600011 1), (17, .val (.int .i64)), (18, .val (.int .i64))], [(600011, .nrow 36 .bool false false)]⟩ [(.exit 4, ⟨[(11, .arr 600011 1), (17, .val (.int .i64))], [(600011, .nrow 36 .bool false false)]⟩), (.ret, ⟨[(8, .val .bool)], []⟩)]),
(31, .loop [9, 10, 20] ⟨[(11, .arr 600011 1), (19, .ptr 600019 0), (21, .val (.int .i64))], [(600011, .nrow 36 .bool false false), (600019, .box 40 (.val (.pair (.int .i64) (.int .i64))))]⟩ [(.exit 6, ⟨[], []⟩), (.ret, ⟨[(8, .val .bool)], []⟩)])],
[(26, .cut [9, 10] [(.normal, ⟨[(11, .arr 600011 1), (17, .val (.int .i64))], [(600011, .nrow 36 .bool false false)]⟩)]),
(1000035, .reg [(7, [9, 20], ⟨[(150, .val .bool)], []⟩), (4, [9], ⟨[(154, .val .bool)], []⟩)])], fun y => (valW .bool y, [], [])⟩
noncomputable def V_law3_SpanSet (w_law3_begun : Unit → Option (Bool)) (w_span_Add : (List (Int × Int)) × Int × Int → Option (List (Int × Int))) (w_span_Has : (List (Int × Int)) × Int → Option (Bool)) (w_span_Lacks : (List (Int × Int)) × Int × Int → Option (List (Int × Int))) (w_ref1_SameSpans : (List (Int × Int)) × List (Int × Int) → Option (Bool)) (w_span_May : List (Int × Int) → Option (Bool)) (w_span_Count : List (Int × Int) → Option (Int)) (N : Nat) (x : (List (Int × Int)) × Int × Int × Int) : Option (Bool) :=
  obind (w_law3_begun ()) fun b => cnd (!b) (some false) (cnd (decide ((15:Int) < (↑(List.length x.1) : Int))) (some true) (obind (loopN N (fun (v :
    List (Int × Int) × List (Int × Int) × Int × List Bool) => cnd (decide (v.2.2.1 < (↑(List.length x.1) : Int))) (cnd (decide ((0:Int) ≤ v.2.2.1) &&
    decide (v.2.2.1 < (↑(List.length x.1) : Int))) (cnd (decide ((0:Int) ≤ v.2.2.1) && decide (v.2.2.1 < (↑(List.length x.1) : Int))) (obind (w_span_Add (v.1, wr .i64 ((1:Int) + wr .i64 (Int.tmod (Prod.fst (List.getD x.1 (Int.toNat v.2.2.1) ((0:Int), (0:Int)))) (40:Int))), wr .i64 (wr .i64 ((1:Int)
    + wr .i64 (Int.tmod (Prod.fst (List.getD x.1 (Int.toNat v.2.2.1) ((0:Int), (0:Int)))) (40:Int))) + wr .i64 (Int.tmod (Prod.snd (List.getD x.1
    (Int.toNat v.2.2.1) ((0:Int), (0:Int)))) (6:Int))))) fun b => obind (loopN N (fun (v_1 : Int × List Bool) => cnd (decide (v_1.1 ≤ wr .i64 (wr .i64
    ((1:Int) + wr .i64 (Int.tmod (Prod.fst (List.getD x.1 (Int.toNat v.2.2.1) ((0:Int), (0:Int)))) (40:Int))) + wr .i64 (Int.tmod (Prod.snd (List.getD
    x.1 (Int.toNat v.2.2.1) ((0:Int), (0:Int)))) (6:Int))))) (cnd (decide ((0:Int) ≤ v_1.1) && decide (v_1.1 < (↑(List.length v_1.2) : Int)) && decide
    (v_1.1 < (↑(60:Nat) : Int))) (some (Sum.inl (wr .i64 (v_1.1 + (1:Int)), putL v_1.2 [true] (Int.toNat v_1.1)))) none) (some (Sum.inr v_1.2))) (wr
    .i64 ((1:Int) + wr .i64 (Int.tmod (Prod.fst (List.getD x.1 (Int.toNat v.2.2.1) ((0:Int), (0:Int)))) (40:Int))), v.2.2.2)) fun (b_1 : List Bool) =>
    cnd (!decide ((↑(List.length x.1) : Int) = (0:Int))) (cnd (decide ((0:Int) ≤ Int.tmod (wr .i64 (v.2.2.1 + wr .i64 x.2.1)) (↑(List.length x.1) :
    Int)) && decide (Int.tmod (wr .i64 (v.2.2.1 + wr .i64 x.2.1)) (↑(List.length x.1) : Int) < (↑(List.length x.1) : Int))) (obind (w_span_Add (v.2.1,
    wr .i64 ((1:Int) + wr .i64 (Int.tmod (Prod.fst (List.getD x.1 (Int.toNat (Int.tmod (wr .i64 (v.2.2.1 + wr .i64 x.2.1)) (↑(List.length x.1) : Int)))
    ((0:Int), (0:Int)))) (40:Int))), wr .i64 (wr .i64 ((1:Int) + wr .i64 (Int.tmod (Prod.fst (List.getD x.1 (Int.toNat (Int.tmod (wr .i64 (v.2.2.1 + wr
    .i64 x.2.1)) (↑(List.length x.1) : Int))) ((0:Int), (0:Int)))) (40:Int))) + wr .i64 (Int.tmod (Prod.snd (List.getD x.1 (Int.toNat (Int.tmod (wr .i64
    (v.2.2.1 + wr .i64 x.2.1)) (↑(List.length x.1) : Int))) ((0:Int), (0:Int)))) (6:Int))))) fun b_2 => some (Sum.inl (b, b_2, wr .i64 (v.2.2.1 +
    (1:Int)), b_1))) none) none) none) none) (some (Sum.inr (v.1, v.2.1, v.2.2.2)))) ([], [], (0:Int), [false, false, false, false, false, false, false,
    false, false, false, false, false, false, false, false, false, false, false, false, false, false, false, false, false, false, false, false, false,
    false, false, false, false, false, false, false, false, false, false, false, false, false, false, false, false, false, false, false, false, false,
    false, false, false, false, false, false, false, false, false, false, false])) fun (b : List (Int × Int) × List (Int × Int) × List Bool) => obind
    (loopN N (fun (v : Int × Int × List Bool) => cnd (decide (v.2.1 < (60:Int))) (obind (cnd (decide ((0:Int) ≤ v.2.1) && decide (v.2.1 < (↑(List.length
    v.2.2) : Int)) && decide (v.2.1 < (↑(60:Nat) : Int))) (cnd (List.getD v.2.2 (Int.toNat v.2.1) false) (some (wr .i64 (v.1 + (1:Int)), v.2.2)) (some
    (v.1, v.2.2))) none) fun (b_1 : Int × List Bool) => obind (w_span_Has (b.1, v.2.1)) fun b => cnd (decide ((0:Int) ≤ v.2.1) && decide (v.2.1 <
    (↑(List.length b_1.2) : Int)) && decide (v.2.1 < (↑(60:Nat) : Int))) (cnd (!b == List.getD b_1.2 (Int.toNat v.2.1) false) (some (Sum.inr (Sum.inr
    false))) (some (Sum.inl (b_1.1, wr .i64 (v.2.1 + (1:Int)), b_1.2)))) none) (some (Sum.inr (Sum.inl (v.1, v.2.2))))) ((0:Int), (0:Int), b.2.2)) fun
    (b_1 : Int × List Bool ⊕ Bool) => selim (fun (b_2 : Int × List Bool) => obind (w_span_Lacks (b.1, wr .i64 ((1:Int) + wr .i64 (Int.tmod x.2.2.1
    (40:Int))), wr .i64 (wr .i64 ((1:Int) + wr .i64 (Int.tmod x.2.2.1 (40:Int))) + wr .i64 (Int.tmod x.2.2.2 (15:Int))))) fun b_3 => obind (loopN N (fun
    (v : Int × List Bool × Int × Int) => cnd (decide (v.1 < (60:Int))) (obind (w_span_Has (b_3, v.1)) fun b => cnd (decide ((0:Int) ≤ v.1) && decide
    (v.1 < (↑(List.length v.2.1) : Int)) && decide (v.1 < (↑(60:Nat) : Int))) (cnd (!List.getD v.2.1 (Int.toNat v.1) false) (cnd (decide (v.2.2.1 ≤
    v.1)) (cnd (!b == decide (v.1 ≤ v.2.2.2)) (some (Sum.inr (Sum.inr false))) (some (Sum.inl (wr .i64 (v.1 + (1:Int)), v.2)))) (cnd (!b == false) (some
    (Sum.inr (Sum.inr false))) (some (Sum.inl (wr .i64 (v.1 + (1:Int)), v.2))))) (cnd (!b == false) (some (Sum.inr (Sum.inr false))) (some (Sum.inl (wr
    .i64 (v.1 + (1:Int)), v.2))))) none) (some (Sum.inr (Sum.inl ())))) ((1:Int), b_2.2, wr .i64 ((1:Int) + wr .i64 (Int.tmod x.2.2.1 (40:Int))), wr
    .i64 (wr .i64 ((1:Int) + wr .i64 (Int.tmod x.2.2.1 (40:Int))) + wr .i64 (Int.tmod x.2.2.2 (15:Int))))) fun (b_4 : PUnit ⊕ Bool) => selim (fun (b_5 :
    PUnit) => obind (obind (w_ref1_SameSpans (b.1, b.2.1)) fun b_6 => cnd b_6 (obind (w_span_May b.1) fun b => some b) (some false)) fun (b_6 :
    Bool) => obind (cnd b_6 (obind (w_span_May b_3) fun b => some b) (some false)) fun (b_7 : Bool) => cnd b_7 (obind (w_span_Count b.1) fun b =>
    some (decide (b = b_2.1))) (some false)) (fun (c : Bool) => some c) b_4) (fun (c : Bool) => some c) b_1))
theorem q_law3_SpanSet : ∀ w_law3_begun w_span_Add w_span_Has w_span_Lacks w_ref1_SameSpans w_span_May w_span_Count N x, u_law3_SpanSet.F L0 P0 (orcOf [u_law3_begun.con w_law3_begun, u_span_Add.con w_span_Add, u_span_Has.con w_span_Has, u_span_Lacks.con w_span_Lacks, u_ref1_SameSpans.con w_ref1_SameSpans, u_span_May.con w_span_May, u_span_Count.con w_span_Count]) N x = V_law3_SpanSet w_law3_begun w_span_Add w_span_Has w_span_Lacks w_ref1_SameSpans w_span_May w_span_Count N x := by intros; kernel_rfl
noncomputable def W_law3_SpanSet (N : Nat) := V_law3_SpanSet (W_law3_begun N) (W_span_Add N) (W_span_Has N) (W_span_Lacks N) (W_ref1_SameSpans N) (W_span_May N) (W_span_Count N) N
theorem con_law3_SpanSet_ok (N : Nat) : (u_law3_SpanSet.con (W_law3_SpanSet N)).ok P0 := Uf.ok mixed (q_law3_SpanSet (W_law3_begun N) (W_span_Add N) (W_span_Has N) (W_span_Lacks N) (W_ref1_SameSpans N) (W_span_May N) (W_span_Count N) N) ⟨con_law3_begun_ok N, con_span_Add_ok N, con_span_Has_ok N, con_span_Lacks_ok N, con_ref1_SameSpans_ok N, con_span_May_ok N, con_span_Count_ok N, trivial⟩ Try.func6 (by kernel_rfl) fun x y => by kernel_rfl
/-! What is reckoned. -/
-- PURE
theorem wr_m {z : Int} (h : -140737488355328 ≤ z) (h2 : z ≤ 140737488355328) : wr .i64 z = z := wr_i64 (by omega) (by omega)
/-- A loop over a list, by a function of Lean's own. -/
theorem loop_rec {σ τ ρ α : Type} (d : α) (l : List α) (mk : Int → σ → τ) (R : List α → σ → ρ) (Inv : σ → List α → Prop) {f : τ → Option (τ ⊕ ρ)}
    (hend : ∀ s, Inv s [] → f (mk l.length s) = some (.inr (R [] s)))
    (hstep : ∀ (i : Nat) (h : α) (r : List α) (s : σ), i < l.length → l.getD i d = h → Inv s (h :: r) → (∃ s', f (mk i s) = some (.inl (mk ((i : Int) + 1) s')) ∧ R (h :: r) s = R r s' ∧ Inv s' r) ∨ f (mk i s) = some (.inr (R (h :: r) s)))
    {N : Nat} {s : σ} (hN : l.length < N) (h0 : Inv s l) : loopN N f (mk 0 s) = some (R l s) := by
  have key : ∀ (rest pre : List α) (N : Nat) (s : σ), l = pre ++ rest → rest.length < N → Inv s rest → loopN N f (mk pre.length s) = some (R rest s) := by
    intro rest
    induction rest with
    | nil =>
      intro pre N s e hN hI
      obtain ⟨M, rfl⟩ : ∃ M, N = M + 1 := ⟨N - 1, by simp at hN; omega⟩
      rw [List.append_nil] at e
      subst e
      simp only [loopN, hend s hI]
    | cons h r ih =>
      intro pre N s e hN hI
      obtain ⟨M, rfl⟩ : ∃ M, N = M + 1 := ⟨N - 1, by simp at hN; omega⟩
      have hg : l.getD pre.length d = h := by rw [e, List.getD_eq_getElem?_getD, List.getElem?_append_right (Nat.le_refl _)]; simp
      have hi : pre.length < l.length := by rw [e]; simp
      rcases hstep pre.length h r s hi hg hI with ⟨s', h1, h2, h3⟩ | h1
      · simp only [loopN, h1]
        rw [h2]
        have := ih (pre ++ [h]) M s' (by rw [e]; simp) (by simp at hN; omega) h3
        simpa using this
      · simp only [loopN, h1]
  have := key l [] N s rfl hN h0
  simpa using this
theorem obind_rec {σ τ ρ α β : Type} (d : α) (l : List α) (mk : Int → σ → τ) (R : List α → σ → ρ) (Inv : σ → List α → Prop) {f : τ → Option (τ ⊕ ρ)} {N : Nat} (s : σ) {x : τ} {k : ρ → Option β} {res : Option β} (hx : x = mk 0 s) (hN : l.length < N) (h0 : Inv s l) (hk : k (R l s) = res)
    (hend : ∀ s, Inv s [] → f (mk l.length s) = some (.inr (R [] s)))
    (hstep : ∀ (i : Nat) (h : α) (r : List α) (s : σ), i < l.length → l.getD i d = h → Inv s (h :: r) → (∃ s', f (mk i s) = some (.inl (mk ((i : Int) + 1) s')) ∧ R (h :: r) s = R r s' ∧ Inv s' r) ∨ f (mk i s) = some (.inr (R (h :: r) s))) : obind (loopN N f x) k = res := by
  subst hx
  rw [loop_rec d l mk R Inv hend hstep hN h0]
  exact hk
abbrev Sp := Int × Int
def okS (s : Sp) : Prop := 1 ≤ s.1 ∧ s.1 ≤ s.2 ∧ s.2 ≤ 1000000
open Classical in
theorem sread_eq (N : Nat) (a b : Int) : W_span_read N (a, b) = some (if okS (a, b) then .inl (a, b) else .inr ()) := by
  unfold W_span_read V_span_read
  try simp only
  by_cases h1 : a < 1
  · rw [dT h1, cnd_t, obind_s]
    try simp only
    rw [cnd_t, if_neg (fun h : okS (a, b) => by have := h.1; omega)]
  · rw [dF h1, cnd_f, obind_s]
    try simp only
    by_cases h2 : b < a
    · rw [dT h2, cnd_t, if_neg (fun h : okS (a, b) => by have := h.2.1; omega)]
    · rw [dF h2, cnd_f]
      by_cases h3 : 1000000 < b
      · rw [dT h3, cnd_t, if_neg (fun h : okS (a, b) => by have := h.2.2; omega)]
      · rw [dF h3, cnd_f, if_pos (show okS (a, b) from ⟨by simp only; omega, by simp only; omega, by simp only; omega⟩)]
def B (h : Sp) : Prop := 0 ≤ h.1 ∧ h.1 ≤ 1000001 ∧ 0 ≤ h.2 ∧ h.2 ≤ 1000001
theorem okS.B {s : Sp} (h : okS s) : B s := ⟨by have := h.1; omega, by have := h.2.1; have := h.2.2; omega, by have := h.1; have := h.2.1; omega, by have := h.2.2; omega⟩
abbrev AS3 := Sp × List Sp × List Sp
def ad (s : AS3) (h : Sp) : AS3 := if h.2 + 1 < s.1.1 then (s.1, s.2.1 ++ [h], s.2.2) else if s.1.2 + 1 < h.1 then (s.1, s.2.1, s.2.2 ++ [h]) else ((min s.1.1 h.1, max s.1.2 h.2), s.2.1, s.2.2)
def adI (s : AS3) (rest : List Sp) : Prop := B s.1 ∧ s.2.1.length + s.2.2.length + rest.length ≤ 1000 ∧ ∀ h ∈ rest, B h
theorem adI_step {s : AS3} {h : Sp} {r : List Sp} (hI : adI s (h :: r)) : adI (ad s h) r := by
  obtain ⟨h1, h2, h3⟩ := hI
  have hb := h3 h (by simp)
  have hr : ∀ x ∈ r, B x := fun x hx => h3 x (by simp [hx])
  simp only [List.length_cons] at h2
  unfold ad
  split
  · exact ⟨h1, by simp; omega, hr⟩
  · split
    · exact ⟨h1, by simp; omega, hr⟩
    · refine ⟨⟨?_, ?_, ?_, ?_⟩, by simp only; omega, hr⟩ <;> (simp only; obtain ⟨_, _, _, _⟩ := h1; obtain ⟨_, _, _, _⟩ := hb; omega)
def adR (l : List Sp) (s : AS3) : List Sp × Sp × List Sp := ((l.foldl ad s).2.2, (l.foldl ad s).1, (l.foldl ad s).2.1)
open Classical in
noncomputable def addP (l : List Sp) (s : Sp) : List Sp := if okS s then (l.foldl ad (s, [], [])).2.1 ++ [(l.foldl ad (s, [], [])).1] ++ (l.foldl ad (s, [], [])).2.2 else l
theorem ad_len (l : List Sp) : ∀ s : AS3, (l.foldl ad s).2.1.length + (l.foldl ad s).2.2.length ≤ s.2.1.length + s.2.2.length + l.length := by
  induction l with
  | nil => intro s; simp
  | cons h r ih =>
    intro s
    have := ih (ad s h)
    have h2 : (ad s h).2.1.length + (ad s h).2.2.length ≤ s.2.1.length + s.2.2.length + 1 := by unfold ad; split; · simp; omega
                                                                                                split <;> simp <;> omega
    simp only [List.foldl_cons, List.length_cons]; omega
open Classical in
theorem sAddS_eq (N : Nat) (l : List Sp) (s : Sp) (hN : l.length < N) (hl : l.length ≤ 900) (hb : ∀ h ∈ l, B h) : W_span_Add N (l, s) = some (addP l s) := by
  obtain ⟨a, b⟩ := s
  unfold W_span_Add V_span_Add addP
  simp only [sread_eq, obind_s]
  by_cases hs : okS (a, b)
  case neg =>
    rw [if_neg hs, selim_r, if_neg hs]
    unfold W_slices_Clone_api_Span V_slices_Clone_api_Span
    rw [dT (by omega), cnd_t, obind_s]
  rw [if_pos hs, selim_l, if_pos hs]
  refine obind_rec (0, 0) l (fun i (s : AS3) => (i, s)) adR adI ((a, b), [], []) rfl hN ⟨hs.B, by simp; omega, hb⟩ ?_ ?_ ?_
  · have hlen := ad_len l ((a, b), [], [])
    unfold adR
    simp only [List.length_nil] at hlen
    generalize l.foldl ad ((a, b), [], []) = R at *
    obtain ⟨⟨x, y⟩, fr, bk⟩ := R
    simp only at hlen ⊢
    rw [dT (by simp only [List.length_singleton]; omega), cnd_t, dT (by simp only [List.length_append, List.length_singleton]; omega), cnd_t]
  · rintro ⟨⟨x, y⟩, fr, bk⟩ hI
    try simp only
    rw [dF (by omega), cnd_f]
    rfl
  · rintro i ⟨p, q⟩ r ⟨⟨x, y⟩, fr, bk⟩ hi hg hI
    left
    refine ⟨ad ((x, y), fr, bk) (p, q), ?_, rfl, adI_step hI⟩
    obtain ⟨⟨b1, b2, b3, b4⟩, hlen, hbb⟩ := hI
    obtain ⟨c1, c2, c3, c4⟩ := hbb (p, q) (by simp)
    simp only [List.length_cons] at b1 b2 b3 b4 c1 c2 c3 c4 hlen
    simp only [Int.toNat_natCast, hg]
    have d1 : decide ((i : Int) < l.length) = true := dT (by omega)
    have d2 : decide ((0 : Int) ≤ i) = true := dT (by omega)
    simp only [d1, d2, Bool.and_self, cnd_t]
    rw [wr_m (z := x - 1) (by omega) (by omega), wr_m (z := (i : Int) + 1) (by omega) (by omega), wr_m (z := y + 1) (by omega) (by omega)]
    unfold ad
    try simp only
    by_cases k1 : q + 1 < x
    · rw [dT (show q < x - 1 by omega), cnd_t, dT (by simp only [List.length_singleton]; omega), cnd_t, if_pos k1]
    · rw [dF (show ¬ q < x - 1 by omega), cnd_f, if_neg k1]
      by_cases k2 : y + 1 < p
      · rw [dT k2, cnd_t, dT (by simp only [List.length_singleton]; omega), cnd_t, if_pos k2]
      · rw [dF k2, cnd_f, if_neg k2]
def Rr (a b : Sp) : Prop := a.2 + 1 < b.1
def VS (l : List Sp) : Prop := (∀ a ∈ l, okS a) ∧ l.Pairwise Rr
structure J (s : AS3) (rest : List Sp) : Prop where
  f1 : ∀ a ∈ s.2.1, okS a
  f2 : s.2.1.Pairwise Rr
  m : okS s.1
  fm : ∀ a ∈ s.2.1, a.2 + 1 < s.1.1
  b1 : ∀ a ∈ s.2.2, okS a
  b2 : s.2.2.Pairwise Rr
  bm : ∀ a ∈ s.2.2, s.1.2 + 1 < a.1
  br : ∀ a ∈ s.2.2, ∀ h ∈ rest, a.2 + 1 < h.1
  fr : ∀ a ∈ s.2.1, ∀ h ∈ rest, a.2 + 1 < h.1
  r1 : ∀ h ∈ rest, okS h
  r2 : rest.Pairwise Rr
theorem J_step {s : AS3} {h : Sp} {r : List Sp} (j : J s (h :: r)) : J (ad s h) r := by
  obtain ⟨f1, f2, m, fm, b1, b2, bm, br, fr, r1, r2⟩ := j
  have hh := r1 h (by simp)
  rw [List.pairwise_cons] at r2
  have r1' : ∀ x ∈ r, okS x := fun x hx => r1 x (by simp [hx])
  have br' : ∀ a ∈ s.2.2, ∀ x ∈ r, a.2 + 1 < x.1 := fun a ha x hx => br a ha x (by simp [hx])
  have fr' : ∀ a ∈ s.2.1, ∀ x ∈ r, a.2 + 1 < x.1 := fun a ha x hx => fr a ha x (by simp [hx])
  have bh : ∀ a ∈ s.2.2, a.2 + 1 < h.1 := fun a ha => br a ha h (by simp)
  have fh : ∀ a ∈ s.2.1, a.2 + 1 < h.1 := fun a ha => fr a ha h (by simp)
  obtain ⟨m1, m2, m3⟩ := m
  obtain ⟨g1, g2, g3⟩ := hh
  unfold ad
  split
  · rename_i k
    refine ⟨?_, ?_, ⟨m1, m2, m3⟩, ?_, b1, b2, bm, br', ?_, r1', r2.2⟩
    · intro a ha
      simp only [List.mem_append, List.mem_singleton] at ha
      rcases ha with ha | rfl
      · exact f1 a ha
      · exact ⟨g1, g2, g3⟩
    · rw [List.pairwise_append]
      exact ⟨f2, by simp, fun a ha b hb => by simp at hb; subst hb; exact fh a ha⟩
    · intro a ha
      simp only [List.mem_append, List.mem_singleton] at ha
      rcases ha with ha | rfl
      · exact fm a ha
      · exact k
    · intro a ha x hx
      simp only [List.mem_append, List.mem_singleton] at ha
      rcases ha with ha | rfl
      · exact fr' a ha x hx
      · exact r2.1 x hx
  · rename_i k
    split
    · rename_i k2
      refine ⟨f1, f2, ⟨m1, m2, m3⟩, fm, ?_, ?_, ?_, ?_, fr', r1', r2.2⟩
      · intro a ha
        simp only [List.mem_append, List.mem_singleton] at ha
        rcases ha with ha | rfl
        · exact b1 a ha
        · exact ⟨g1, g2, g3⟩
      · rw [List.pairwise_append]
        exact ⟨b2, by simp, fun a ha b hb => by simp at hb; subst hb; exact bh a ha⟩
      · intro a ha
        simp only [List.mem_append, List.mem_singleton] at ha
        rcases ha with ha | rfl
        · exact bm a ha
        · exact k2
      · intro a ha x hx
        simp only [List.mem_append, List.mem_singleton] at ha
        rcases ha with ha | rfl
        · exact br' a ha x hx
        · exact r2.1 x hx
    · rename_i k2
      have hb : ∀ a ∈ s.2.2, False := fun a ha => by
        have q1 := bm a ha
        have q2 := bh a ha
        have q3 := (b1 a ha).2.1
        omega
      refine ⟨f1, f2, ⟨by simp only; omega, by simp only; omega, by simp only; omega⟩, fun a ha => ?_, b1, b2, fun a ha => (hb a ha).elim, br', fr', r1', r2.2⟩
      have q1 := fm a ha
      have q2 := fh a ha
      try simp only
      omega
theorem J_fold : ∀ (l : List Sp) (s : AS3), J s l → J (l.foldl ad s) []
  | [], s, h => h
  | x :: r, s, h => J_fold r _ (J_step h)
theorem VS_add {l : List Sp} {s : Sp} (hl : VS l) (hs : okS s) : VS (addP l s) ∧ (addP l s).length ≤ l.length + 1 := by
  have j := J_fold l (s, [], []) ⟨by simp, by simp, hs, by simp, by simp, by simp, by simp, by simp, by simp, hl.1, hl.2⟩
  have hlen := ad_len l (s, [], [])
  simp only [List.length_nil] at hlen
  unfold addP
  rw [if_pos hs]
  generalize l.foldl ad (s, [], []) = q at *
  obtain ⟨f1, f2, m, fm, b1, b2, bm, _, _, _, _⟩ := j
  refine ⟨⟨?_, ?_⟩, by simp only [List.length_append, List.length_singleton]; omega⟩
  · intro a ha
    simp only [List.mem_append, List.mem_singleton] at ha
    rcases ha with (ha | rfl) | ha
    · exact f1 a ha
    · exact m
    · exact b1 a ha
  · rw [List.pairwise_append, List.pairwise_append]
    refine ⟨⟨f2, by simp, fun a ha b hb => by simp at hb; subst hb; exact fm a ha⟩, b2, fun a ha b hb => ?_⟩
    have q2 := bm b hb
    have q3 := m.2.1
    simp only [List.mem_append, List.mem_singleton] at ha
    show a.2 + 1 < b.1
    rcases ha with ha | rfl
    · have := fm a ha; omega
    · omega
theorem sgetD_mem {l : List Sp} {j : Nat} (h : j < l.length) : l.getD j (0, 0) ∈ l := by
  rw [List.getD_eq_getElem?_getD, List.getElem?_eq_getElem h]; exact List.getElem_mem h
theorem SameS_self (N : Nat) (a : List Sp) (hN : a.length < N) (hl : a.length ≤ 1000) : W_ref1_SameSpans N (a, a) = some true := by
  unfold W_ref1_SameSpans V_ref1_SameSpans
  try simp only
  rw [dF (by simp), cnd_f]
  refine obind_rec (0, 0) a (fun i (s : Unit) => i) (fun l s => (.inl () : PUnit ⊕ Bool)) (fun _ _ => True) () rfl hN trivial (by rw [selim_l]) ?_ ?_
  · rintro s _
    try simp only
    rw [dF (by omega), cnd_f]
  · rintro i h r s hi hg _
    left
    refine ⟨(), ?_, rfl, trivial⟩
    have d1 : decide ((i : Int) < a.length) = true := dT (by omega)
    have d2 : decide ((0 : Int) ≤ i) = true := dT (by omega)
    simp only [d1, d2, Bool.and_self, cnd_t, dT, Bool.not_true, cnd_f]
    rw [wr_m (by omega) (by omega)]
/-! What is lacked. -/
abbrev LS := Sp × List Sp
def lkS : List Sp → LS → LS
  | [], s => s
  | h :: r, s => if s.1.2 < h.1 then s else lkS r ((max s.1.1 (h.2 + 1), s.1.2), if s.1.1 < h.1 then s.2 ++ [(s.1.1, h.1 - 1)] else s.2)
def fin (s : LS) : List Sp := if s.1.1 ≤ s.1.2 then s.2 ++ [(s.1.1, s.1.2)] else s.2
def lkI (s : LS) (rest : List Sp) : Prop := 0 ≤ s.1.1 ∧ s.1.1 ≤ 1000001 ∧ s.1.2 ≤ 1000000 ∧ s.2.length + rest.length ≤ 900 ∧ ∀ h ∈ rest, okS h
theorem ite_len {c : Prop} [Decidable c] {α : Type} {o : List α} {z : α} : (if c then o ++ [z] else o).length ≤ o.length + 1 := by split <;> simp
theorem sLacks_eq (N : Nat) (l : List Sp) (s : Sp) (hN : l.length < N) (hl : l.length ≤ 800) (hv : ∀ h ∈ l, okS h) (hs : okS s) : W_span_Lacks N (l, s) = some (fin (lkS l (s, []))) := by
  obtain ⟨a, b⟩ := s
  unfold W_span_Lacks V_span_Lacks
  simp only [sread_eq, obind_s, if_pos hs, selim_l]
  have s1 := hs.1
  have s2 := hs.2.1
  have s3 := hs.2.2
  simp only at s1 s2 s3
  have lr : ∀ (l : List Sp) (s : LS), (lkS l s).2.length ≤ s.2.length + l.length := by
    intro l
    induction l with
    | nil => intro s; simp [lkS]
    | cons h r ih =>
      intro s
      unfold lkS
      split
      · simp only [List.length_cons]; omega
      · have := ih ((max s.1.1 (h.2 + 1), s.1.2), if s.1.1 < h.1 then s.2 ++ [(s.1.1, h.1 - 1)] else s.2)
        have h2 := ite_len (c := s.1.1 < h.1) (o := s.2) (z := (s.1.1, h.1 - 1))
        simp only [List.length_cons] at this ⊢
        omega
  refine obind_rec (0, 0) l (fun i (s : LS) => (i, s)) lkS lkI ((a, b), []) rfl hN ⟨by simp only; omega, by simp only; omega, by simp only; omega, by simp; omega, hv⟩ ?_ ?_ ?_
  · have := lr l ((a, b), [])
    simp only [List.length_nil] at this
    generalize lkS l ((a, b), []) = q at *
    unfold fin
    by_cases hq : q.1.1 ≤ q.1.2
    · rw [dT hq, cnd_t, dT (by simp only [List.length_singleton]; omega), cnd_t, if_pos hq]
    · rw [dF hq, cnd_f, if_neg hq]
  · rintro ⟨⟨x, y⟩, o⟩ _
    try simp only
    rw [dF (by omega), cnd_f]
    rfl
  · rintro i ⟨p, q⟩ r ⟨⟨x, y⟩, o⟩ hi hg ⟨g1, g2, g3, g4, g5⟩
    obtain ⟨h1, h2, h3⟩ := g5 (p, q) (by simp)
    have g5' : ∀ h ∈ r, okS h := fun x hx => g5 x (by simp [hx])
    simp only [List.length_cons] at g1 g2 g3 g4 h1 h2 h3
    have d1 : decide ((i : Int) < l.length) = true := dT (by omega)
    have d2 : decide ((0 : Int) ≤ i) = true := dT (by omega)
    simp only [Int.toNat_natCast, hg, d1, d2, Bool.and_self, cnd_t]
    rw [wr_m (z := (i : Int) + 1) (by omega) (by omega), wr_m (z := p - 1) (by omega) (by omega)]
    by_cases k0 : y < p
    · right
      rw [dT k0, cnd_t]
      unfold lkS
      try simp only
      rw [if_pos k0]
    left
    rw [dF k0, cnd_f]
    refine ⟨((max x (q + 1), y), if x < p then o ++ [(x, p - 1)] else o), ?_, ?_, by simp only; omega, by simp only; omega, g3, ?_, g5'⟩
    · by_cases k3 : x < p
      · rw [dT k3, cnd_t, dT (by simp only [List.length_singleton]; omega), cnd_t, obind_s, if_pos k3]
        try simp only
        rw [wr_m (z := q + 1) (by omega) (by omega)]
      · rw [dF k3, cnd_f, obind_s, if_neg k3]
        try simp only
        rw [wr_m (z := q + 1) (by omega) (by omega)]
    · conv => lhs; unfold lkS
      try simp only
      rw [if_neg k0]
    · have h2 := ite_len (c := x < p) (o := o) (z := (x, p - 1))
      try simp only
      omega
theorem lkS_len : ∀ (l : List Sp) (s : LS), (lkS l s).2.length ≤ s.2.length + l.length := by
  intro l
  induction l with
  | nil => intro s; simp [lkS]
  | cons h r ih =>
    intro s
    unfold lkS
    split
    · simp only [List.length_cons]; omega
    · have := ih ((max s.1.1 (h.2 + 1), s.1.2), if s.1.1 < h.1 then s.2 ++ [(s.1.1, h.1 - 1)] else s.2)
      have h2 := ite_len (c := s.1.1 < h.1) (o := s.2) (z := (s.1.1, h.1 - 1))
      simp only [List.length_cons] at this ⊢
      omega
theorem fin_len (l : List Sp) (s : Sp) : (fin (lkS l (s, []))).length ≤ l.length + 1 := by
  have := lkS_len l (s, [])
  simp only [List.length_nil] at this
  unfold fin
  split
  · simp only [List.length_append, List.length_singleton]; omega
  · omega
open Classical in
theorem sHas_eq (N : Nat) (l : List Sp) (n : Int) (hN : l.length < N) (hl : l.length ≤ 1000) : W_span_Has N (l, n) = some (decide (∃ h ∈ l, h.1 ≤ n ∧ n ≤ h.2)) := by
  have h1eq : ∀ a b : Int, W_span_Has_1 N ((a, b), n) = some (decide (a ≤ n ∧ n ≤ b), n) := fun a b => by
    unfold W_span_Has_1 V_span_Has_1
    try simp only
    by_cases h : a ≤ n
    · rw [dT h, cnd_t]
      by_cases h2 : n ≤ b
      · rw [dT h2, dT ⟨h, h2⟩]
      · rw [dF h2, dF (fun q => h2 q.2)]
    · rw [dF h, cnd_f, dF (fun q => h q.1)]
  have hi : ∃ k, W_slices_IndexFunc_api_Span__span_Has_1 N (l, n) = some (k, n) ∧ (0 ≤ k ↔ ∃ h ∈ l, h.1 ≤ n ∧ n ≤ h.2) := by
    unfold W_slices_IndexFunc_api_Span__span_Has_1 V_slices_IndexFunc_api_Span__span_Has_1
    try simp only
    have key : ∀ f : Int × Int → Option ((Int × Int) ⊕ (Int ⊕ (Int × Int))), (∀ v : Int, 0 ≤ v → v < l.length → f (v, n) = if (l.getD v.toNat (0, 0)).1 ≤ n ∧ n ≤ (l.getD v.toNat (0, 0)).2 then some (.inr (.inr (v, n))) else some (.inl (v + 1, n))) → (∀ v : Int, ¬ v < l.length → f (v, n) = some (.inr (.inl n))) →
        ∃ r, loopN N f (0, n) = some r ∧ (match r with | .inl m => m = n ∧ ¬ ∃ h ∈ l, h.1 ≤ n ∧ n ≤ h.2 | .inr q => q.2 = n ∧ 0 ≤ q.1 ∧ ∃ h ∈ l, h.1 ≤ n ∧ n ≤ h.2) := fun f hf he => by
      refine loopN_run (f := f) (fun v : Int × Int => v.2 = n ∧ 0 ≤ v.1 ∧ v.1 ≤ l.length ∧ ∀ j : Nat, (j : Int) < v.1 → ¬ ((l.getD j (0, 0)).1 ≤ n ∧ n ≤ (l.getD j (0, 0)).2)) (fun v : Int × Int => l.length - v.1.toNat) (fun r : Int ⊕ (Int × Int) => match r with | .inl m => m = n ∧ ¬ ∃ h ∈ l, h.1 ≤ n ∧ n ≤ h.2 | .inr q => q.2 = n ∧ 0 ≤ q.1 ∧ ∃ h ∈ l, h.1 ≤ n ∧ n ≤ h.2) (fun v => ?_) N (0, n) ⟨rfl, by simp, by simp, fun j hj => by simp at hj; omega⟩ (by simp; omega)
      obtain ⟨v, m⟩ := v
      rintro ⟨g0, g1, g2, g3⟩
      simp only at g0 g1 g2 g3
      subst g0
      by_cases h : v < l.length
      · rw [hf v g1 h]
        split
        · rename_i hc
          right
          exact ⟨_, rfl, rfl, g1, _, sgetD_mem (by omega), hc⟩
        · rename_i hc
          left
          refine ⟨_, rfl, ⟨rfl, by simp only; omega, by simp only; omega, fun j hj => ?_⟩, by simp only; omega⟩
          by_cases hjv : (j : Int) < v
          · exact g3 j hjv
          · have : j = v.toNat := by simp only at hj; omega
            subst this; exact hc
      · right
        rw [he v h]
        refine ⟨_, rfl, rfl, ?_⟩
        rintro ⟨x, hx, hc⟩
        obtain ⟨j, hj, e⟩ := List.getElem_of_mem hx
        refine g3 j (by omega) ?_
        have : l.getD j (0, 0) = x := by rw [List.getD_eq_getElem?_getD, List.getElem?_eq_getElem hj]; exact e
        rw [this]; exact hc
    obtain ⟨r, e1, e2⟩ := key (fun (v : Int × Int) =>
      cnd (decide (Prod.fst v < (↑(List.length l) : Int)))
        (cnd (decide ((0 : Int) ≤ Prod.fst v) && decide (Prod.fst v < (↑(List.length l) : Int)))
          (obind
            (W_span_Has_1 N
              ((Prod.fst (List.getD l (Int.toNat (Prod.fst v)) ((0 : Int), (0 : Int))),
                  Prod.snd (List.getD l (Int.toNat (Prod.fst v)) ((0 : Int), (0 : Int)))),
                Prod.snd v))
            fun (b : Bool × Int) =>
            cnd (Prod.fst b) (some (Sum.inr (Sum.inr (Prod.fst v, Prod.snd b))))
              (some (Sum.inl (wr IntKind.i64 (Prod.fst v + (1 : Int)), Prod.snd b))))
          none)
        (some (Sum.inr (Sum.inl (Prod.snd v))))) (fun v g1 g2 => by
      try simp only
      rw [dT g2, dT g1, Bool.and_self, cnd_t, cnd_t, h1eq, obind_s]
      try simp only
      by_cases hc : (l.getD v.toNat (0, 0)).1 ≤ n ∧ n ≤ (l.getD v.toNat (0, 0)).2
      · rw [dT hc, cnd_t, if_pos hc]
      · rw [dF hc, cnd_f, if_neg hc, wr_m (by omega) (by omega)]) (fun v h => by simp only; rw [dF h, cnd_f])
    rw [e1, obind_s]
    cases r with
    | inl m =>
      obtain ⟨q1, q2⟩ := e2
      subst q1
      exact ⟨-1, rfl, by simp [q2]⟩
    | inr q =>
      obtain ⟨q1, q2, q3⟩ := e2
      obtain ⟨k, m⟩ := q
      simp only at q1 q2; subst q1
      exact ⟨k, rfl, ⟨fun _ => q3, fun _ => q2⟩⟩
  obtain ⟨k, e1, e2⟩ := hi
  unfold W_span_Has V_span_Has W_slices_ContainsFunc_api_Span__span_Has_1 V_slices_ContainsFunc_api_Span__span_Has_1
  simp only [e1, obind_s]
  by_cases h : ∃ h ∈ l, h.1 ≤ n ∧ n ≤ h.2
  · rw [dT (e2.2 h), dT h]
  · rw [dF (fun q => h (e2.1 q)), dF h]
open Classical in
def cnt (l : List Sp) (n : Int) : Int := l.foldl (fun n h => n + (h.2 - h.1 + 1)) n
def cntI (n : Int) (rest : List Sp) : Prop := 0 ≤ n ∧ n + rest.length * 1000000 ≤ 100000000 ∧ ∀ h ∈ rest, okS h
theorem Count_eq (N : Nat) (l : List Sp) (hN : l.length < N) (hl : l.length ≤ 20) (hv : ∀ h ∈ l, okS h) : W_span_Count N l = some (cnt l 0) := by
  unfold W_span_Count V_span_Count
  refine obind_rec (0, 0) l (fun i (s : Int) => (s, i)) cnt cntI 0 rfl hN ⟨by omega, by omega, hv⟩ rfl ?_ ?_
  · rintro s _
    try simp only
    rw [dF (by omega), cnd_f]
    rfl
  · rintro i ⟨p, q⟩ r s hi hg ⟨g1, g2, g3⟩
    left
    obtain ⟨h1, h2, h3⟩ := g3 (p, q) (by simp)
    simp only [List.length_cons] at h1 h2 h3 g2
    have d1 : decide ((i : Int) < l.length) = true := dT (by omega)
    have d2 : decide ((0 : Int) ≤ i) = true := dT (by omega)
    refine ⟨s + (q - p + 1), ?_, rfl, by omega, by omega, fun x hx => g3 x (by simp [hx])⟩
    simp only [Int.toNat_natCast, hg, d1, d2, Bool.and_self, cnd_t]
    rw [wr_m (z := (i : Int) + 1) (by omega) (by omega), wr_m (z := q - p) (by omega) (by omega), wr_m (z := q - p + 1) (by omega) (by omega), wr_m (z := s + (q - p + 1)) (by omega) (by omega)]
def G : Int → List Sp → Prop
  | _, [] => True
  | f, h :: r => okS h ∧ f ≤ h.1 ∧ G (h.2 + 2) r
theorem VS_G : ∀ (l : List Sp) (f : Int), VS l → (∀ h ∈ l, f ≤ h.1) → G f l
  | [], _, _, _ => trivial
  | h :: r, f, hv, hf => ⟨hv.1 h (by simp), hf h (by simp), VS_G r _ ⟨fun x hx => hv.1 x (by simp [hx]), (List.pairwise_cons.1 hv.2).2⟩ fun x hx => by
      have : Rr h x := (List.pairwise_cons.1 hv.2).1 x hx
      unfold Rr at this
      omega⟩
open Classical in
theorem sMayS_eq (N : Nat) (l : List Sp) (hN : l.length < N) (hl : l.length ≤ 1000) : W_span_May N l = some (decide (G 1 l)) := by
  unfold W_span_May V_span_May
  refine obind_rec (0, 0) l (fun i (s : Int) => (s, i)) (fun l f => if G f l then (.inl () : PUnit ⊕ Bool) else .inr false) (fun f _ => 0 ≤ f ∧ f ≤ 1000010) 1 rfl hN ⟨by omega, by omega⟩ ?_ ?_ ?_
  · by_cases h : G 1 l
    · rw [if_pos h, selim_l, dT h]
    · rw [if_neg h, selim_r, dF h]
  · rintro s _
    try simp only
    rw [dF (by omega), cnd_f, if_pos (show G s [] from trivial)]
  · rintro i ⟨p, q⟩ r s hi hg ⟨g1, g2⟩
    have d1 : decide ((i : Int) < l.length) = true := dT (by omega)
    have d2 : decide ((0 : Int) ≤ i) = true := dT (by omega)
    simp only [Int.toNat_natCast, hg, d1, d2, Bool.and_self, cnd_t, sread_eq, obind_s]
    rw [wr_m (z := (i : Int) + 1) (by omega) (by omega)]
    by_cases ho : okS (p, q)
    case neg =>
      right
      rw [if_neg ho, selim_r, if_neg (fun h : G s ((p, q) :: r) => ho h.1)]
    rw [if_pos ho, selim_l]
    obtain ⟨h1, h2, h3⟩ := ho
    simp only at h1 h2 h3 ⊢
    by_cases hf : p < s
    · right
      rw [dT hf, cnd_t, if_neg (fun h : G s ((p, q) :: r) => by have := h.2.1; simp only at this; omega)]
    · left
      refine ⟨q + 2, by rw [dF hf, cnd_f, wr_m (by omega) (by omega)], ?_, by omega, by omega⟩
      congr 1
      simp only [G, eq_iff_iff]
      exact ⟨fun h => h.2.2, fun h => ⟨⟨h1, h2, h3⟩, by omega, h⟩⟩
open Classical in
theorem loop_post {σ ρ β : Type} {f : σ → Option (σ ⊕ ρ)} {k : ρ → Option β} {x : σ} {N : Nat} (Q : Option β → Prop) (I : σ → Prop) (m : σ → Nat) (J : ρ → Prop) (hx : I x) (hm : m x < N) (hk : ∀ r, J r → Q (k r))
    (hs : ∀ x, I x → (∃ y, f x = some (.inl y) ∧ I y ∧ m y < m x) ∨ ∃ r, f x = some (.inr r) ∧ J r) : Q (obind (loopN N f x) k) := by
  obtain ⟨r, h1, h2⟩ := loopN_run I m J hs N x hx hm
  rw [h1]; exact hk r h2
def inS (l : List Sp) (n : Int) : Prop := ∃ h ∈ l, h.1 ≤ n ∧ n ≤ h.2
theorem inS_nil {n : Int} : ¬ inS [] n := fun ⟨_, h, _⟩ => by cases h
theorem inS_cons {h : Sp} {r : List Sp} {n : Int} : inS (h :: r) n ↔ (h.1 ≤ n ∧ n ≤ h.2) ∨ inS r n := by
  unfold inS
  simp only [List.mem_cons, exists_eq_or_imp]
theorem inS_app {a b : List Sp} {n : Int} : inS (a ++ b) n ↔ inS a n ∨ inS b n := by
  unfold inS
  simp only [List.mem_append, or_and_right, exists_or]
theorem inS_one {h : Sp} {n : Int} : inS [h] n ↔ h.1 ≤ n ∧ n ≤ h.2 := by
  rw [inS_cons]; exact ⟨fun q => q.resolve_right inS_nil, .inl⟩
def U3 (s : AS3) (n : Int) : Prop := inS s.2.1 n ∨ (s.1.1 ≤ n ∧ n ≤ s.1.2) ∨ inS s.2.2 n
theorem ad_U {s : AS3} {h : Sp} (hm : s.1.1 ≤ s.1.2) (hh : h.1 ≤ h.2) (n : Int) : U3 (ad s h) n ↔ U3 s n ∨ (h.1 ≤ n ∧ n ≤ h.2) := by
  unfold ad U3
  split
  · rw [inS_app, inS_one]
    generalize inS s.2.1 n = A; generalize inS s.2.2 n = C
    by_cases A <;> by_cases C <;> simp_all
    · omega
  · split
    · simp only [inS_app, inS_one]
      generalize inS s.2.1 n = A; generalize inS s.2.2 n = C
      by_cases A <;> by_cases C <;> simp_all
    · simp only
      generalize inS s.2.1 n = A; generalize inS s.2.2 n = C
      by_cases A <;> by_cases C <;> simp_all
      · omega
theorem fold_U (n : Int) : ∀ (l : List Sp) (s : AS3), J s l → (U3 (l.foldl ad s) n ↔ U3 s n ∨ inS l n)
  | [], s, _ => ⟨.inl, fun h => h.resolve_right inS_nil⟩
  | h :: r, s, j => by
    rw [List.foldl_cons, fold_U n r _ (J_step j), ad_U j.m.2.1 (j.r1 h (by simp)).2.1, inS_cons, or_assoc]
theorem add_in {l : List Sp} {s : Sp} (hl : VS l) (hs : okS s) (n : Int) : inS (addP l s) n ↔ inS l n ∨ (s.1 ≤ n ∧ n ≤ s.2) := by
  have h := fold_U n l (s, [], []) ⟨by simp, by simp, hs, by simp, by simp, by simp, by simp, by simp, by simp, hl.1, hl.2⟩
  unfold addP
  rw [if_pos hs, inS_app, inS_app, inS_one]
  unfold U3 at h
  simp only at h
  have z : ∀ n, inS [] n ↔ False := fun n => ⟨inS_nil, False.elim⟩
  rw [z, false_or, or_false] at h
  rw [or_assoc, h, or_comm]
theorem VS_tail {h : Sp} {r : List Sp} (hv : VS (h :: r)) : VS r := ⟨fun x hx => hv.1 x (by simp [hx]), (List.pairwise_cons.1 hv.2).2⟩
theorem VS_ahead {h : Sp} {r : List Sp} (hv : VS (h :: r)) {n : Int} (hn : inS r n) : h.2 + 1 < n := by
  obtain ⟨x, hx, h1, _⟩ := hn
  have : Rr h x := (List.pairwise_cons.1 hv.2).1 x hx
  unfold Rr at this
  omega
theorem VS_ext : ∀ (a b : List Sp), VS a → VS b → (∀ n, inS a n ↔ inS b n) → a = b
  | [], [], _, _, _ => rfl
  | [], h :: r, _, hb, e => absurd ((e h.1).2 ⟨h, by simp, Int.le_refl _, (hb.1 h (by simp)).2.1⟩) inS_nil
  | h :: r, [], ha, _, e => absurd ((e h.1).1 ⟨h, by simp, Int.le_refl _, (ha.1 h (by simp)).2.1⟩) inS_nil
  | (p, q) :: r, (p', q') :: r', ha, hb, e => by
    have o1 : p ≤ q := (ha.1 (p, q) (by simp)).2.1
    have o2 : p' ≤ q' := (hb.1 (p', q') (by simp)).2.1
    have E : ∀ n, ((p ≤ n ∧ n ≤ q) ∨ inS r n) ↔ ((p' ≤ n ∧ n ≤ q') ∨ inS r' n) := fun n => by
      have := e n
      rwa [inS_cons, inS_cons] at this
    have A : ∀ n, inS r n → q + 1 < n := fun n h => VS_ahead ha h
    have A' : ∀ n, inS r' n → q' + 1 < n := fun n h => VS_ahead hb h
    have e1 : p' ≤ p := by
      rcases (E p).1 (.inl ⟨by omega, o1⟩) with h | h
      · omega
      · have := A' _ h; omega
    have e2 : p ≤ p' := by
      rcases (E p').2 (.inl ⟨by omega, o2⟩) with h | h
      · omega
      · have := A _ h; omega
    have e3 : q ≤ q' := Decidable.byContradiction fun c => by
      rcases (E (q' + 1)).1 (.inl ⟨by omega, by omega⟩) with h | h
      · omega
      · have := A' _ h; omega
    have e4 : q' ≤ q := Decidable.byContradiction fun c => by
      rcases (E (q + 1)).2 (.inl ⟨by omega, by omega⟩) with h | h
      · omega
      · have := A _ h; omega
    obtain rfl : p = p' := by omega
    obtain rfl : q = q' := by omega
    rw [VS_ext r r' (VS_tail ha) (VS_tail hb) fun n => ⟨fun h => ?_, fun h => ?_⟩]
    · rcases (E n).1 (.inr h) with k | k
      · have := A _ h; omega
      · exact k
    · rcases (E n).2 (.inr h) with k | k
      · have := A' _ h; omega
      · exact k
/-! How many. -/
open Classical in
noncomputable def cb (P : Int → Prop) : Nat → Int
  | 0 => 0
  | k + 1 => cb P k + if P k then 1 else 0
theorem cb_le (P : Int → Prop) : ∀ k : Nat, 0 ≤ cb P k ∧ cb P k ≤ k
  | 0 => ⟨Int.le_refl _, Int.le_refl _⟩
  | k + 1 => by
    have := cb_le P k
    unfold cb
    split <;> omega
theorem cb_or (P Q R : Int → Prop) (hd : ∀ j, P j → Q j → False) (hR : ∀ j, R j ↔ P j ∨ Q j) : ∀ k : Nat, cb R k = cb P k + cb Q k
  | 0 => rfl
  | k + 1 => by
    have h := hd k
    unfold cb
    rw [cb_or P Q R hd hR k]
    by_cases p : P k <;> by_cases q : Q k
    · exact (h p q).elim
    · rw [if_pos p, if_neg q, if_pos ((hR k).2 (.inl p))]; omega
    · rw [if_neg p, if_pos q, if_pos ((hR k).2 (.inr q))]; omega
    · rw [if_neg p, if_neg q, if_neg (fun w => Or.elim ((hR k).1 w) p q)]; omega
theorem cb_none (P : Int → Prop) (h : ∀ j, ¬ P j) : ∀ k : Nat, cb P k = 0
  | 0 => rfl
  | k + 1 => by unfold cb; rw [cb_none P h k, if_neg (h k)]; rfl
theorem cb_int (a b : Int) (h : 0 ≤ a) : ∀ k : Nat, cb (fun n => a ≤ n ∧ n ≤ b) k = max 0 (min (b + 1) k - a)
  | 0 => by unfold cb; omega
  | k + 1 => by
    unfold cb
    rw [cb_int a b h k]
    split <;> omega
theorem cnt_add : ∀ (l : List Sp) (n : Int), cnt l n = n + cnt l 0
  | [], n => by unfold cnt; simp
  | h :: r, n => by
    have e : ∀ n, cnt (h :: r) n = cnt r (n + (h.2 - h.1 + 1)) := fun n => rfl
    rw [e, e, cnt_add r, cnt_add r (0 + _)]; omega
theorem cnt_cb (k : Nat) : ∀ (l : List Sp), VS l → (∀ h ∈ l, h.2 < k) → cb (inS l) k = cnt l 0
  | [], _, _ => cb_none _ (fun j => inS_nil) k
  | h :: r, hv, hk => by
    have o := hv.1 h (by simp)
    have hk1 := hk h (by simp)
    obtain ⟨o1, o2, o3⟩ := o
    rw [cb_or (fun n => h.1 ≤ n ∧ n ≤ h.2) (inS r) (inS (h :: r)) (fun j p q => by have := VS_ahead hv q; omega) (fun j => inS_cons) k, cb_int h.1 h.2 (by omega), cnt_cb k r (VS_tail hv) fun x hx => hk x (by simp [hx])]
    have e : cnt (h :: r) 0 = cnt r (0 + (h.2 - h.1 + 1)) := rfl
    rw [e, cnt_add r (0 + _)]; omega
/-! What is lacked, as a set. -/
theorem lk_in (n : Int) : ∀ (l : List Sp) (a b : Int) (o : List Sp), VS l → (inS (fin (lkS l ((a, b), o))) n ↔ inS o n ∨ (a ≤ n ∧ n ≤ b ∧ ¬ inS l n))
  | [], a, b, o, _ => by
    unfold lkS fin
    try simp only
    have z : ¬ inS [] n := inS_nil
    split
    · rw [inS_app, inS_one]
      exact ⟨fun h => h.imp id fun h => ⟨h.1, h.2, z⟩, fun h => h.imp id fun h => ⟨h.1, h.2.1⟩⟩
    · exact ⟨.inl, fun h => h.resolve_right fun h => by omega⟩
  | h :: r, a, b, o, hv => by
    have o1 : h.1 ≤ h.2 := (hv.1 h (by simp)).2.1
    have hA : inS r n → h.2 + 1 < n := VS_ahead hv
    unfold lkS
    try simp only
    rw [inS_cons]
    split
    · rename_i c
      unfold fin
      try simp only
      split
      · rw [inS_app, inS_one]
        refine ⟨fun q => q.imp id fun q => ⟨q.1, q.2, fun w => ?_⟩, fun q => q.imp id fun q => ⟨q.1, q.2.1⟩⟩
        simp only at q
        rcases w with w | w
        · omega
        · have := hA w; omega
      · exact ⟨.inl, fun q => q.resolve_right fun q => by omega⟩
    · rename_i c
      rw [lk_in n r _ b _ (VS_tail hv)]
      split
      · rw [inS_app, inS_one]
        try simp only
        constructor
        · rintro ((q | q) | q)
          · exact .inl q
          · refine .inr ⟨by omega, by omega, fun w => ?_⟩
            rcases w with w | w
            · omega
            · have := hA w; omega
          · refine .inr ⟨by omega, by omega, fun w => ?_⟩
            rcases w with w | w
            · omega
            · exact q.2.2 w
        · rintro (q | ⟨q1, q2, q3⟩)
          · exact .inl (.inl q)
          · by_cases k : n < h.1
            · exact .inl (.inr ⟨q1, by omega⟩)
            · have : ¬ (h.1 ≤ n ∧ n ≤ h.2) := fun w => q3 (.inl w)
              exact .inr ⟨by omega, q2, fun w => q3 (.inr w)⟩
      · constructor
        · rintro (q | q)
          · exact .inl q
          · refine .inr ⟨by omega, by omega, fun w => ?_⟩
            rcases w with w | w
            · omega
            · exact q.2.2 w
        · rintro (q | ⟨q1, q2, q3⟩)
          · exact .inl q
          · have : ¬ (h.1 ≤ n ∧ n ≤ h.2) := fun w => q3 (.inl w)
            exact .inr ⟨by omega, q2, fun w => q3 (.inr w)⟩
theorem fin_VS (a b : Int) (o : List Sp) (ho : VS o) (hoa : ∀ x ∈ o, x.2 + 1 < a) (ha : 1 ≤ a) (hb : b ≤ 1000000) : VS (fin ((a, b), o)) := by
    unfold fin
    try simp only
    split
    · refine ⟨fun x hx => ?_, ?_⟩
      · rw [List.mem_append, List.mem_singleton] at hx
        rcases hx with hx | rfl
        · exact ho.1 x hx
        · exact ⟨ha, by simp only; omega, hb⟩
      · rw [List.pairwise_append]
        exact ⟨ho.2, by simp, fun x hx y hy => by rw [List.mem_singleton] at hy; subst hy; exact hoa x hx⟩
    · exact ho
theorem lk_VS : ∀ (l : List Sp) (a b : Int) (o : List Sp), VS l → VS o → (∀ x ∈ o, x.2 + 1 < a) → 1 ≤ a → b ≤ 1000000 → VS (fin (lkS l ((a, b), o)))
  | [], a, b, o, _, ho, hoa, ha, hb => fin_VS a b o ho hoa ha hb
  | h :: r, a, b, o, hv, ho, hoa, ha, hb => by
    have oh := hv.1 h (by simp)
    obtain ⟨h1, h2, h3⟩ := oh
    unfold lkS
    try simp only
    split
    · rename_i c
      exact fin_VS a b o ho hoa ha hb
    · rename_i c
      refine lk_VS r _ b _ (VS_tail hv) ?_ ?_ (by omega) hb
      · split
        · rename_i c2
          refine ⟨fun x hx => ?_, ?_⟩
          · rw [List.mem_append, List.mem_singleton] at hx
            rcases hx with hx | rfl
            · exact ho.1 x hx
            · exact ⟨ha, by simp only; omega, by simp only; omega⟩
          · rw [List.pairwise_append]
            exact ⟨ho.2, by simp, fun x hx y hy => by rw [List.mem_singleton] at hy; subst hy; exact hoa x hx⟩
        · exact ho
      · intro x hx
        split at hx
        · rw [List.mem_append, List.mem_singleton] at hx
          rcases hx with hx | rfl
          · have := hoa x hx; omega
          · simp only; omega
        · have := hoa x hx; omega
/-! The law. -/
def rho (y : List Sp) (i : Nat) : Sp := (1 + Int.tmod (y.getD i (0, 0)).1 40, 1 + Int.tmod (y.getD i (0, 0)).1 40 + Int.tmod (y.getD i (0, 0)).2 6)
theorem rot {L : Nat} (t : Nat) {m : Nat} (hm : m < L) : ∃ j, j < L ∧ (j + t) % L = m := by
  have hL : 0 < L := by omega
  refine ⟨(m + (L - t % L)) % L, Nat.mod_lt _ hL, ?_⟩
  have h1 := Nat.div_add_mod t L
  have h2 := Nat.mod_lt t hL
  rw [Nat.mod_add_mod, show m + (L - t % L) + t = m + L * (t / L + 1) by rw [Nat.mul_add]; omega, Nat.add_mul_mod_self_left, Nat.mod_eq_of_lt hm]
def Bs (l : List Bool) (P : Int → Prop) : Prop := l.length = 60 ∧ ∀ n : Int, 0 ≤ n → n < 60 → (l.getD n.toNat false = true ↔ P n)
theorem putL_set {α : Type} : ∀ (l : List α) (i : Nat) (x : α), i < l.length → putL l [x] i = l.set i x
  | [], _, _, h => by simp at h
  | a :: l, 0, x, _ => by simp [putL]
  | a :: l, i + 1, x, h => by
    have := putL_set l i x (by simp only [List.length_cons] at h; omega)
    unfold putL at this ⊢
    simp only [List.take_succ_cons, List.length_singleton, List.set_cons_succ, List.cons_append] at this ⊢
    rw [← this]; rfl
theorem Bs_put {l : List Bool} {P Q : Int → Prop} (h : Bs l P) {id : Int} (hid : 0 ≤ id ∧ id < 60) (hb : Q id) (hq : ∀ y, y ≠ id → (Q y ↔ P y)) : Bs (putL l [true] id.toNat) Q := by
  obtain ⟨h1, h2⟩ := h
  rw [putL_set l _ _ (by omega)]
  refine ⟨by rw [List.length_set]; exact h1, fun y y1 y8 => ?_⟩
  rw [List.getD_eq_getElem?_getD, List.getElem?_set]
  by_cases e : id = y
  · subst e
    rw [if_pos rfl, if_pos (by omega)]; exact ⟨fun _ => hb, fun _ => rfl⟩
  · rw [if_neg (by omega), ← List.getD_eq_getElem?_getD, h2 y y1 y8]
    exact (hq y (fun q => e q.symm)).symm
theorem Bs_cong {l : List Bool} {P Q : Int → Prop} (h : Bs l P) (hq : ∀ y, Q y ↔ P y) : Bs l Q := ⟨h.1, fun y a b => (h.2 y a b).trans (hq y).symm⟩
structure SI (y : List Sp) (t : Nat) (i : Nat) (a b : List Sp) (is : List Bool) : Prop where
  va : VS a
  vb : VS b
  la : a.length ≤ i
  lb : b.length ≤ i
  ma : ∀ n, inS a n ↔ ∃ j, j < i ∧ (rho y j).1 ≤ n ∧ n ≤ (rho y j).2
  mb : ∀ n, inS b n ↔ ∃ j, j < i ∧ (rho y ((j + t) % y.length)).1 ≤ n ∧ n ≤ (rho y ((j + t) % y.length)).2
  bs : Bs is (inS a)
theorem ex_lt_succ {P : Nat → Prop} {i : Nat} : (∃ j, j < i + 1 ∧ P j) ↔ (∃ j, j < i ∧ P j) ∨ P i := by
  constructor
  · rintro ⟨j, h, p⟩
    by_cases e : j = i
    · subst e; exact .inr p
    · exact .inl ⟨j, by omega, p⟩
  · rintro (⟨j, h, p⟩ | p)
    · exact ⟨j, by omega, p⟩
    · exact ⟨i, by omega, p⟩
open Classical in
theorem law_aux (N : Nat) (hN : 1000 ≤ N) (hbeg : W_law3_begun N () = some true) (y : List Sp) (t at_ nn : Int) (hy : ∀ i, 0 ≤ (y.getD i (0, 0)).1 ∧ 0 ≤ (y.getD i (0, 0)).2) (ht : 0 ≤ t ∧ t ≤ 255) (hat : 0 ≤ at_) (hnn : 0 ≤ nn) : W_law3_SpanSet N (y, t, at_, nn) = some true := by
  obtain ⟨T, rfl⟩ := Int.eq_ofNat_of_zero_le ht.1
  have rok : ∀ i, okS (rho y i) ∧ (rho y i).2 ≤ 45 := fun i => by
    have a1 := Int.tmod_nonneg 40 (hy i).1
    have a2 := Int.tmod_lt_of_pos (y.getD i (0, 0)).1 (show (0 : Int) < 40 by omega)
    have a3 := Int.tmod_nonneg 6 (hy i).2
    have a4 := Int.tmod_lt_of_pos (y.getD i (0, 0)).2 (show (0 : Int) < 6 by omega)
    unfold rho okS
    try simp only
    omega
  have rw1 : ∀ i, wr .i64 (1 + wr .i64 (Int.tmod (y.getD i (0, 0)).1 40)) = (rho y i).1 := fun i => by
    have a1 := Int.tmod_nonneg 40 (hy i).1
    have a2 := Int.tmod_lt_of_pos (y.getD i (0, 0)).1 (show (0 : Int) < 40 by omega)
    rw [wr_m (z := Int.tmod _ _) (by omega) (by omega), wr_m (by omega) (by omega)]; rfl
  have rw2 : ∀ i, wr .i64 ((rho y i).1 + wr .i64 (Int.tmod (y.getD i (0, 0)).2 6)) = (rho y i).2 := fun i => by
    have a1 := Int.tmod_nonneg 40 (hy i).1
    have a2 := Int.tmod_lt_of_pos (y.getD i (0, 0)).1 (show (0 : Int) < 40 by omega)
    have a3 := Int.tmod_nonneg 6 (hy i).2
    have a4 := Int.tmod_lt_of_pos (y.getD i (0, 0)).2 (show (0 : Int) < 6 by omega)
    unfold rho
    try simp only
    rw [wr_m (z := Int.tmod _ 6) (by omega) (by omega), wr_m (by omega) (by omega)]
  unfold W_law3_SpanSet V_law3_SpanSet
  try simp only
  rw [hbeg, obind_s, Bool.not_true, cnd_f]
  by_cases c1 : (15 : Int) < y.length
  · rw [dT c1, cnd_t]
  rw [dF c1, cnd_f]
  refine loop_post (σ := List Sp × List Sp × Int × List Bool) (ρ := List Sp × List Sp × List Bool) (β := Bool) (fun o => o = some true) (fun v => ∃ (i : Nat) (a b : List Sp) (is : List Bool), v = (a, b, (i : Int), is) ∧ i ≤ y.length ∧ SI y T i a b is) (fun v => y.length - v.2.2.1.toNat) (fun r => ∃ (a b : List Sp) (is : List Bool), r = (a, b, is) ∧ SI y T y.length a b is) ⟨0, [], [], _, rfl, by omega, ⟨by simp, by simp⟩, ⟨by simp, by simp⟩, by simp, by simp, fun n => ⟨fun h => (inS_nil h).elim, fun ⟨j, h, _⟩ => by omega⟩, fun n => ⟨fun h => (inS_nil h).elim, fun ⟨j, h, _⟩ => by omega⟩, rfl, fun n n0 n6 => ?_⟩ (by simp; omega) ?_ ?_
  · have : ∀ j : Nat, j < 60 → List.getD [false, false, false, false, false, false, false, false, false, false, false, false, false, false, false, false, false, false, false, false, false, false, false, false, false, false, false, false, false, false, false, false, false, false, false, false, false, false, false, false, false, false, false, false, false, false, false, false, false, false, false, false, false, false, false, false, false, false, false, false] j false = false := by decide
    rw [this n.toNat (by omega)]
    exact ⟨fun w => (by cases w), fun h => (inS_nil h).elim⟩
  · rintro r ⟨a, b, is, rfl, hI⟩
    try simp only
    obtain ⟨va, vb, la, lb, ma, mb, bl, bs⟩ := hI
    have eab : a = b := VS_ext a b va vb fun n => by
      rw [ma, mb]
      constructor
      · rintro ⟨j, hj, h⟩
        obtain ⟨k, hk, e⟩ := rot T hj
        exact ⟨k, hk, by rw [e]; exact h⟩
      · rintro ⟨j, hj, h⟩
        exact ⟨_, Nat.mod_lt _ (by omega), h⟩
    subst eab
    have hn45 : ∀ n, inS a n → n ≤ 45 := fun n h => by
      obtain ⟨j, hj, h1, h2⟩ := (ma n).1 h
      have := (rok j).2
      omega
    have hmx : ∀ h ∈ a, h.2 < (60 : Nat) := fun h hh => by
      have o := va.1 h hh
      have := hn45 h.2 ⟨h, hh, o.2.1, Int.le_refl _⟩
      omega
    have lv : ∀ h ∈ a, okS h := va.1
    have H : ∀ n, ∃ q : Bool, W_span_Has N (a, n) = some q ∧ (q = true ↔ inS a n) := fun n => ⟨_, sHas_eq N a n (by omega) (by omega), by
      rw [decide_eq_true_iff]; rfl⟩
    refine loop_post (σ := Int × Int × List Bool) (ρ := (Int × List Bool) ⊕ Bool) (β := Bool) (fun o => o = some true) (fun v => ∃ (i : Nat), v = (cb (inS a) i, (i : Int), is) ∧ i ≤ 60) (fun v => 60 - v.2.1.toNat) (fun r => r = .inl (cb (inS a) 60, is)) ⟨0, rfl, by omega⟩ (by simp; omega) ?_ ?_
    · rintro r rfl
      rw [selim_l]
      try simp only
      have m1 := Int.tmod_nonneg 40 hat
      have m2 := Int.tmod_lt_of_pos at_ (show (0 : Int) < 40 by omega)
      have m3 := Int.tmod_nonneg 15 hnn
      have m4 := Int.tmod_lt_of_pos nn (show (0 : Int) < 15 by omega)
      rw [wr_m (z := Int.tmod at_ 40) (by omega) (by omega), wr_m (z := 1 + Int.tmod at_ 40) (by omega) (by omega), wr_m (z := Int.tmod nn 15) (by omega) (by omega), wr_m (z := 1 + Int.tmod at_ 40 + Int.tmod nn 15) (by omega) (by omega)]
      generalize hlo : 1 + Int.tmod at_ 40 = lo
      generalize hhi : lo + Int.tmod nn 15 = hi
      have os : okS (lo, hi) := ⟨by simp only; omega, by simp only; omega, by simp only; omega⟩
      rw [sLacks_eq N a (lo, hi) (by omega) (by omega) lv os, obind_s]
      have ci := fun n => lk_in n a lo hi [] va
      have cv := lk_VS a lo hi [] va ⟨by simp, by simp⟩ (by simp) os.1 os.2.2
      have cl := fin_len a (lo, hi)
      generalize fin (lkS a ((lo, hi), [])) = c at ci cv cl
      have cin : ∀ n, inS c n ↔ (lo ≤ n ∧ n ≤ hi ∧ ¬ inS a n) := fun n => by
        rw [ci]
        exact ⟨fun h => h.resolve_left inS_nil, .inr⟩
      have Hc : ∀ n, ∃ q : Bool, W_span_Has N (c, n) = some q ∧ (q = true ↔ inS c n) := fun n => ⟨_, sHas_eq N c n (by omega) (by omega), by
        rw [decide_eq_true_iff]; rfl⟩
      refine loop_post (σ := Int × List Bool × Int × Int) (ρ := Unit ⊕ Bool) (β := Bool) (fun o => o = some true) (fun v => ∃ (i : Nat), v = ((i : Int), is, lo, hi) ∧ i ≤ 60) (fun v => 60 - v.1.toNat) (fun r => r = .inl ()) ⟨1, rfl, by omega⟩ (by simp; omega) ?_ ?_
      · rintro r rfl
        rw [selim_l, SameS_self N a (by omega) (by omega), obind_s, cnd_t, sMayS_eq N a (by omega) (by omega), sMayS_eq N c (by omega) (by omega), dT (VS_G a 1 va fun h hh => (va.1 h hh).1), dT (VS_G c 1 cv fun h hh => (cv.1 h hh).1)]
        simp only [obind_s, cnd_t]
        rw [Count_eq N a (by omega) (by omega) lv, obind_s, cnt_cb 60 a va hmx, dT rfl]
      · rintro v ⟨i, rfl, hi60⟩
        try simp only
        by_cases c : (i : Int) < 60
        case neg => right; rw [dF c, cnd_f]; exact ⟨_, rfl, rfl⟩
        left
        obtain ⟨q, eq, hq⟩ := Hc i
        have hb := bs i (by omega) c
        refine ⟨(((i + 1 : Nat) : Int), is, lo, hi), ?_, ⟨i + 1, rfl, by omega⟩, by simp only [Int.toNat_natCast]; omega⟩
        rw [dT c, cnd_t, eq, obind_s, dT (show (0 : Int) ≤ (i : Int) by omega), dT (show (i : Int) < (is.length : Int) by omega), dT (show (i : Int) < ((60 : Nat) : Int) by omega), Bool.and_self, Bool.and_self, cnd_t, wr_m (z := (i : Int) + 1) (by omega) (by omega), show ((i + 1 : Nat) : Int) = (i : Int) + 1 by omega]
        rw [cin] at hq
        have nf : ∀ z : Bool, (q = true ↔ z = true) → (!q == z) = false := fun z h => by
          cases q <;> cases z <;> simp_all
        cases hx : List.getD is (Int.toNat i) false with
        | true =>
          rw [hx] at hb
          have hia := hb.1 rfl
          rw [Bool.not_true, cnd_f, nf false (by rw [hq]; exact ⟨fun w => absurd hia w.2.2, fun w => by cases w⟩), cnd_f]
        | false =>
          rw [hx] at hb
          have hia : ¬ inS a i := fun w => by cases hb.2 w
          rw [Bool.not_false, cnd_t]
          by_cases k : lo ≤ (i : Int)
          · rw [dT k, cnd_t, nf (decide ((i : Int) ≤ hi)) (by rw [hq, decide_eq_true_iff]; exact ⟨fun w => w.2.1, fun w => ⟨k, w, hia⟩⟩), cnd_f]
          · rw [dF k, cnd_f, nf false (by rw [hq]; exact ⟨fun w => absurd w.1 k, fun w => by cases w⟩), cnd_f]
    · rintro v ⟨i, rfl, hi60⟩
      try simp only
      by_cases c : (i : Int) < 60
      case neg =>
        right
        obtain rfl : i = 60 := by omega
        rw [dF c, cnd_f]; exact ⟨_, rfl, rfl⟩
      left
      obtain ⟨q, eq, hq⟩ := H i
      have hb := bs i (by omega) c
      have hcb := cb_le (inS a) i
      refine ⟨(cb (inS a) (i + 1), ((i + 1 : Nat) : Int), is), ?_, ⟨i + 1, rfl, by omega⟩, by simp only [Int.toNat_natCast]; omega⟩
      rw [dT c, cnd_t, dT (show (0 : Int) ≤ (i : Int) by omega), dT (show (i : Int) < (is.length : Int) by omega), dT (show (i : Int) < ((60 : Nat) : Int) by omega), Bool.and_self, Bool.and_self, cnd_t, wr_m (z := (i : Int) + 1) (by omega) (by omega), show ((i + 1 : Nat) : Int) = (i : Int) + 1 by omega, wr_m (z := cb (inS a) i + 1) (by omega) (by omega)]
      rw [← hb] at hq
      cases hx : List.getD is (Int.toNat i) false with
      | true =>
        rw [hx] at hb hq
        have e : cb (inS a) (i + 1) = cb (inS a) i + 1 := by
          conv => lhs; unfold cb
          rw [if_pos (hb.1 rfl)]
        have hqt : q = true := hq.2 rfl
        subst hqt
        rw [cnd_t, obind_s, eq, obind_s, e]
        simp only [hx]
        rw [dT (show (i : Int) < (is.length : Int) by omega)]
        rfl
      | false =>
        rw [hx] at hb hq
        have e : cb (inS a) (i + 1) = cb (inS a) i := by
          conv => lhs; unfold cb
          rw [if_neg (fun w => by cases hb.2 w)]; omega
        have hqt : q = false := by cases q with
          | false => rfl
          | true => cases hq.1 rfl
        subst hqt
        rw [cnd_f, obind_s, eq, obind_s, e]
        simp only [hx]
        rw [dT (show (i : Int) < (is.length : Int) by omega)]
        rfl
  · rintro v ⟨i, a, b, is, rfl, hi, hI⟩
    try simp only
    by_cases c : (i : Int) < y.length
    case neg =>
      right
      obtain rfl : i = y.length := by omega
      rw [dF c, cnd_f]; exact ⟨_, rfl, a, b, is, rfl, hI⟩
    left
    obtain ⟨va, vb, la, lb, ma, mb, bs⟩ := hI
    have hL : 0 < y.length := by omega
    have em : Int.tmod ((i : Int) + (T : Int)) (y.length : Int) = (((i + T) % y.length : Nat) : Int) := by
      rw [Int.tmod_eq_emod_of_nonneg (by omega), ← Int.natCast_add, ← Int.natCast_emod]
    have hml := Nat.mod_lt (i + T) hL
    rw [dT c, dT (show (0 : Int) ≤ (i : Int) by omega), Bool.and_self, cnd_t, cnd_t, Int.toNat_natCast, wr_m (z := (T : Int)) (by omega) (by omega), wr_m (z := (i : Int) + (T : Int)) (by omega) (by omega), em, Int.toNat_natCast]
    simp only [rw1, rw2]
    have okA := (rok i).1
    have okB := (rok ((i + T) % y.length)).1
    have h45 := (rok i).2
    obtain ⟨a1, a2⟩ := VS_add va okA
    obtain ⟨b1, b2⟩ := VS_add vb okB
    have inA := add_in va okA
    have inB := add_in vb okB
    have eA : W_span_Add N (a, (rho y i).1, (rho y i).2) = some (addP a (rho y i)) := sAddS_eq N a (rho y i) (by omega) (by omega) fun h hh => (va.1 h hh).B
    have eB : W_span_Add N (b, (rho y ((i + T) % y.length)).1, (rho y ((i + T) % y.length)).2) = some (addP b (rho y ((i + T) % y.length))) := sAddS_eq N b (rho y ((i + T) % y.length)) (by omega) (by omega) fun h hh => (vb.1 h hh).B
    rw [eA, obind_s]
    have r1 := okA.1
    have r2 := okA.2.1
    refine loop_post (σ := Int × List Bool) (ρ := List Bool) (β := (List Sp × List Sp × Int × List Bool) ⊕ (List Sp × List Sp × List Bool)) (fun o => ∃ y' : List Sp × List Sp × Int × List Bool, o = some (.inl y') ∧ (∃ (i' : Nat) (a b : List Sp) (is : List Bool), y' = (a, b, (i' : Int), is) ∧ i' ≤ y.length ∧ SI y T i' a b is) ∧ y.length - y'.2.2.1.toNat < y.length - i) (fun v => ∃ (k : Nat) (is' : List Bool), v = ((rho y i).1 + (k : Int), is') ∧ (rho y i).1 + (k : Int) ≤ (rho y i).2 + 1 ∧ Bs is' (fun n => inS a n ∨ ((rho y i).1 ≤ n ∧ n < (rho y i).1 + (k : Int)))) (fun v => ((rho y i).2 + 1 - v.1).toNat) (fun is' => Bs is' (inS (addP a (rho y i)))) ⟨0, is, by rw [show (rho y i).1 + ((0 : Nat) : Int) = (rho y i).1 by omega], by omega, Bs_cong bs fun n => ⟨fun h => h.resolve_right fun h => by omega, .inl⟩⟩ (by simp only; omega) ?_ ?_
    · intro is' hbs
      rw [dF (show ¬ ((y.length : Int) = 0) by omega), Bool.not_false, cnd_t, dT (show (0 : Int) ≤ (((i + T) % y.length : Nat) : Int) by omega), dT (show (((i + T) % y.length : Nat) : Int) < (y.length : Int) by omega), Bool.and_self, cnd_t, eB, obind_s, wr_m (z := (i : Int) + 1) (by omega) (by omega)]
      refine ⟨_, rfl, ⟨i + 1, _, _, _, by rw [show ((i + 1 : Nat) : Int) = (i : Int) + 1 by omega], by omega, a1, b1, by omega, by omega, fun n => ?_, fun n => ?_, hbs⟩, by simp only; omega⟩
      · rw [inA, ma, ex_lt_succ (P := fun j => (rho y j).1 ≤ n ∧ n ≤ (rho y j).2)]
      · rw [inB, mb, ex_lt_succ (P := fun j => (rho y ((j + T) % y.length)).1 ≤ n ∧ n ≤ (rho y ((j + T) % y.length)).2)]
    · rintro v ⟨k, is', rfl, hk, hb⟩
      try simp only
      by_cases c2 : (rho y i).1 + (k : Int) ≤ (rho y i).2
      case neg =>
        right
        rw [dF c2, cnd_f]
        refine ⟨_, rfl, Bs_cong hb fun n => ?_⟩
        rw [inA, show (rho y i).1 + (k : Int) = (rho y i).2 + 1 by omega]
        exact or_congr Iff.rfl ⟨fun h => ⟨h.1, by omega⟩, fun h => ⟨h.1, by omega⟩⟩
      left
      have hl := hb.1
      rw [dT c2, cnd_t, dT (show (0 : Int) ≤ (rho y i).1 + (k : Int) by omega), dT (show (rho y i).1 + (k : Int) < (is'.length : Int) by omega), dT (show (rho y i).1 + (k : Int) < ((60 : Nat) : Int) by omega), Bool.and_self, Bool.and_self, cnd_t, wr_m (z := (rho y i).1 + (k : Int) + 1) (by omega) (by omega)]
      refine ⟨_, rfl, ⟨k + 1, _, by rw [show (rho y i).1 + ((k + 1 : Nat) : Int) = (rho y i).1 + (k : Int) + 1 by omega], by omega, Bs_put hb (by omega) (.inr ⟨by omega, by omega⟩) fun n hn => ?_⟩, by simp only; omega⟩
      exact or_congr Iff.rfl ⟨fun h => ⟨h.1, by omega⟩, fun h => ⟨h.1, by omega⟩⟩
def NN : Nat := 1000
theorem begun_set : W_law3_begun NN () = some true := by decide +kernel
theorem law_true (y0 : List (Int × Int)) (y1 : Int) (y2 : Int) (y3 : Int) (h0 : Twf (.list (.agg (.pair (.int .u8) (.int .u8)))) y0) (h1 : Twf (.int .u8) y1) (h2 : Twf (.int .u8) y2) (h3 : Twf (.int .u8) y3) : W_law3_SpanSet NN (y0, y1, y2, y3) = some true := by
  refine law_aux NN (Nat.le_refl _) begun_set y0 y1 y2 y3 (fun i => ?_) h1 h2.1 h3.1
  by_cases hi : i < y0.length
  · have h := h0.2 (y0.getD i (0, 0)) (by simp [List.getD, hi])
    exact ⟨h.1.1, h.2.1⟩
  · have e : y0.getD i (0, 0) = (0, 0) := by simp [List.getD, List.getElem?_eq_none (Nat.le_of_not_lt hi)]
    rw [e]
    exact ⟨by simp, by simp⟩

theorem spec (y0 : List (Int × Int)) (y1 : Int) (y2 : Int) (y3 : Int) (h0 : Twf (.list (.agg (.pair (.int .u8) (.int .u8)))) y0) (h1 : Twf (.int .u8) y1) (h2 : Twf (.int .u8) y2) (h3 : Twf (.int .u8) y3) : Spec2 P0 6 [valW (.list (.agg (.pair (.int .u8) (.int .u8)))) y0, valW (.int .u8) y1, valW (.int .u8) y2, valW (.int .u8) y3] [] (.bs true) [] [] := (con_law3_SpanSet_ok NN).2 (y0, y1, y2, y3) true (law_true y0 y1 y2 y3 h0 h1 h2 h3)
theorem lifted (os : Os) (started : os.Started) (H : Type) (enc : TypeId × Value → H) :
    ReturnsInHanded {} Try.checked os 6 .any (Rows.spanSetSpec.pre6 enc Try.prog Try.f6 Rows.spanSetRow.domain false) (Rows.spanSetSpec.post enc Try.prog Try.f6 false true false false) := by
  refine returnsInHanded_of_change (C := Try.checked) own started (by kernel_rfl) Try.func6
    (ChangeSpec.witness6 (enc := enc) (C := Try.checked) false ⟨#[], #[.slice none 0 0, .int .u8 0, .int .u8 0, .int .u8 0], []⟩ 8 (by kernel_rfl) (by kernel_rfl) (by kernel_rfl) (by kernel_rfl)) ?_
  intro W base args ds gs before hval0 hW hcnd _
  have hval : ∀ (j : Nat) t v, Try.f6.params[j]? = some t → args[j]? = some v → Value.okWide Try.prog W .any base t v := hval0
  have hW' := hW
  obtain ⟨p, q, hA0, hV, rfl, hfz, hnd⟩ := hW
  have hA : DataW.TrodAll enc Try.prog W 0 (fun _ => true) true Try.f6.params.toList args.toList ds p := hA0
  rw [Try.params6] at hA hval
  obtain ⟨v0, vs0, d0, ds0, p0, q0, hargs, rfl, rfl, h0, r0⟩ := trodAll_cons hA
  obtain ⟨v1, vs1, d1, ds1, p1, q1, rfl, rfl, rfl, h1, r1⟩ := trodAll_cons r0
  obtain ⟨v2, vs2, d2, ds2, p2, q2, rfl, rfl, rfl, h2, r2⟩ := trodAll_cons r1
  obtain ⟨v3, vs3, d3, ds3, p3, q3, rfl, rfl, rfl, h3, r3⟩ := trodAll_cons r2
  obtain ⟨rfl, rfl, rfl⟩ := trodAll_nil r3
  obtain rfl : args = #[v0, v1, v2, v3] := by cases args; simp_all
  obtain ⟨rfl, rfl⟩ := trodVars_none hV
  have k0 := h0
  have lt0 : ∀ x ∈ p0, x.block < W.heap.size := by obtain ⟨m, hm⟩ := k0; exact DataW.trod_lt m _ _ _ hm
  obtain ⟨y0, rp0, wf0⟩ := arg_ok (n := 12) (ty := (.list (.agg (.pair (.int .u8) (.int .u8))))) (by kernel_rfl) (hval 0 _ v0 rfl rfl) h0
  have k1 := h1
  have lt1 : ∀ x ∈ p1, x.block < W.heap.size := by obtain ⟨m, hm⟩ := k1; exact DataW.trod_lt m _ _ _ hm
  obtain ⟨y1, rp1, wf1⟩ := arg_ok (n := 12) (ty := (.int .u8)) (by kernel_rfl) (hval 1 _ v1 rfl rfl) h1
  have k2 := h2
  have lt2 : ∀ x ∈ p2, x.block < W.heap.size := by obtain ⟨m, hm⟩ := k2; exact DataW.trod_lt m _ _ _ hm
  obtain ⟨y2, rp2, wf2⟩ := arg_ok (n := 12) (ty := (.int .u8)) (by kernel_rfl) (hval 2 _ v2 rfl rfl) h2
  have k3 := h3
  have lt3 : ∀ x ∈ p3, x.block < W.heap.size := by obtain ⟨m, hm⟩ := k3; exact DataW.trod_lt m _ _ _ hm
  obtain ⟨y3, rp3, wf3⟩ := arg_ok (n := 12) (ty := (.int .u8)) (by kernel_rfl) (hval 3 _ v3 rfl rfl) h3
  clear hA0 hval0
  refine (law_of2 (spec y0 y1 y2 y3 wf0 wf1 wf2 wf3) W #[v0, v1, v2, v3] (.cons rp0 (.cons rp1 (.cons rp2 (.cons rp3 .nil))))).mono fun e W' ⟨he, bel⟩ => ?_
  subst he
  exact ⟨_, rfl, _, _, _, [], _, [], hW', trodAll_mk1 (shut_bool Try.underlying4 _), (trodAll_cons_mk (Below.trod laidOut (by kernel_rfl) (of_decide_eq_true (by kernel_rfl)) k0 bel lt0) (trodAll_cons_mk (Below.trod laidOut (by kernel_rfl) (of_decide_eq_true (by kernel_rfl)) k1 bel lt1) (trodAll_cons_mk (Below.trod laidOut (by kernel_rfl) (of_decide_eq_true (by kernel_rfl)) k2 bel lt2) (trodAll_cons_mk (Below.trod laidOut (by kernel_rfl) (of_decide_eq_true (by kernel_rfl)) k3 bel lt3) trodAll_mk0)))), rfl, bel.frame _, fun h => by cases h⟩

theorem over : Rows.spanSetRow.holds Try.pinned (OpenSpec.ofChange Rows.spanSetSpec) :=
  OpenClaim.holds_of_wide 6 Try.f6 rfl rfl rfl rfl rfl rfl rfl ⟨rfl, rfl, rfl, rfl, rfl⟩ rfl rfl rfl rfl rfl (by kernel_rfl) Try.func6 (by kernel_rfl)
    (of_decide_eq_true (by kernel_rfl)) (by unfold Func.isWrapper; first | (rw [if_pos (by decide +kernel)]; kernel_rfl) | (rw [if_neg (by decide +kernel)]; exact ⟨rfl, rfl⟩))
    (fun os started H enc _ => lifted os started H enc)

theorem holds : Rows.SpanSetSaid := over
end Go.Proofs.Ytbholnfijmjicaa.spanSetX
