/- TieAges: for all arguments the call returns true. The law is brought to a function of Lean's own (W_..) by the machine of the texts beside it, and that is reckoned; no condition. -/
import Derived.Test.YthpfomhimmppiaaTieAgesW0
namespace Go.Proofs.Ythpfomhimmppiaa.tieAgesX
open Go.Abs Go.RowKit Go.ChangeShapes Go.WideShapes Go.ChangeAt
set_option maxRecDepth 100000
set_option linter.unusedVariables false
set_option linter.unusedSimpArgs false
def as_ref1_Hear : List AS := [.val (.list T1_), .val T1_]
def bs_ref1_Hear : List BS := []
def pout_ref1_Hear : Pat := ⟨[(4, .val (.list T1_)), (5, .val .bool)], []⟩
noncomputable def G_ref1_Hear (w_ref1_Old : List (Int × Int × Int) × Int × Int → Option (Bool)) (w_ref1_Drop : A3_ → Option (List (Int × Int × Int))) (N : Nat) : OrcT := orcOf [conw_ref1_Old w_ref1_Old, conw_ref1_Drop w_ref1_Drop]
noncomputable def F_ref1_Hear (w_ref1_Old : List (Int × Int × Int) × Int × Int → Option (Bool)) (w_ref1_Drop : A3_ → Option (List (Int × Int × Int))) (N : Nat) (x : List (Int × Int × Int) × Int × Int × Int) : Option A2_ :=
  (evT (G_ref1_Hear w_ref1_Old w_ref1_Drop N) L0 P0 [(5, .loop [] ⟨[(3, .ptr 600003 0), (6, .acc 700018), (7, .val (.int .i64))], [(600003, .box 73 (.val T3_)), (700018, .nrow 73 T1_ true true)]⟩ [(.exit 0, ⟨[(3, .ptr 600003 0), (6, .acc 700018)], [(600003, .box 73 (.val T3_)), (700018, .nrow 73 T1_ true true)]⟩), (.ret, ⟨[(4, .val (.list T1_)), (5, .val .bool)], []⟩)])]
    [] N 400 (bodyOf Try.f59) ⟨49, slots 0 (argsOf as_ref1_Hear bs_ref1_Hear x), tabU (lbOf as_ref1_Hear bs_ref1_Hear x) [], []⟩).elim (kRet 49 pout_ref1_Hear (kpL []) (lbOf as_ref1_Hear bs_ref1_Hear x))
def out_ref1_Hear (y : A2_) : V × List OK × List OK := (.tup [valW (.list T1_) y.1, valW .bool y.2], [], [])
noncomputable def V_ref1_Hear (w_ref1_Old : List (Int × Int × Int) × Int × Int → Option (Bool)) (w_ref1_Drop : A3_ → Option (List (Int × Int × Int))) (N : Nat) (x : List (Int × Int × Int) × Int × Int × Int) : Option A2_ :=
  obind (w_ref1_Old (x.1, x.2.1, x.2.2.1)) fun b => cnd b (some (x.1, false)) (obind (w_ref1_Drop (x.1, x.2.1)) fun b => obind (loopN N (fun (v :
    Int × (Int × Int × Int) × List (Int × Int × Int)) => cnd (decide (v.1 < (↑(List.length v.2.2) : Int))) (cnd (decide ((0:Int) ≤ v.1) && decide (v.1 <
    (↑(List.length v.2.2) : Int))) (cnd (decide (v.2.1.1 < Prod.fst (List.getD v.2.2 (Int.toNat v.1) ((0:Int), (0:Int), (0:Int))))) (cnd (decide
    (Option.getD none (0:Int) ≤ v.1)) (cnd (decide ((↑(0:Nat) : Int) + v.1 ≤ (↑(List.length v.2.2) : Int))) (cnd (decide (List.length (List.drop
    ((0:Nat) + Prod.fst (Prod.snd (cutT (0:Nat) (List.length v.2.2) (List.length v.2.2) none (some v.1)))) (List.take ((0:Nat) + Prod.fst (Prod.snd
    (cutT (0:Nat) (List.length v.2.2) (List.length v.2.2) none (some v.1))) + (Prod.snd (Prod.snd (cutT (0:Nat) (List.length v.2.2) (List.length v.2.2)
    none (some v.1))) - Prod.fst (Prod.snd (cutT (0:Nat) (List.length v.2.2) (List.length v.2.2) none (some v.1))))) v.2.2)) * (24:Nat) ≤
    (140737488355328:Nat))) (cnd (decide ((List.length (List.drop ((0:Nat) + Prod.fst (Prod.snd (cutT (0:Nat) (List.length v.2.2) (List.length v.2.2)
    none (some v.1)))) (List.take ((0:Nat) + Prod.fst (Prod.snd (cutT (0:Nat) (List.length v.2.2) (List.length v.2.2) none (some v.1))) + (Prod.snd
    (Prod.snd (cutT (0:Nat) (List.length v.2.2) (List.length v.2.2) none (some v.1))) - Prod.fst (Prod.snd (cutT (0:Nat) (List.length v.2.2)
    (List.length v.2.2) none (some v.1))))) v.2.2)) + List.length [v.2.1]) * (24:Nat) ≤ (140737488355328:Nat))) (cnd (decide ((0:Int) ≤ Option.getD
    (some v.1) (0:Int))) (cnd (decide (Option.getD (some v.1) (0:Int) ≤ (↑(List.length v.2.2) : Int))) (cnd (decide ((List.length (List.drop ((0:Nat) +
    Prod.fst (Prod.snd (cutT (0:Nat) (List.length v.2.2) (List.length v.2.2) none (some v.1)))) (List.take ((0:Nat) + Prod.fst (Prod.snd (cutT (0:Nat)
    (List.length v.2.2) (List.length v.2.2) none (some v.1))) + (Prod.snd (Prod.snd (cutT (0:Nat) (List.length v.2.2) (List.length v.2.2) none (some
    v.1))) - Prod.fst (Prod.snd (cutT (0:Nat) (List.length v.2.2) (List.length v.2.2) none (some v.1))))) v.2.2) ++ [v.2.1]) + List.length (List.drop
    ((0:Nat) + Prod.fst (Prod.snd (cutT (0:Nat) (List.length v.2.2) (List.length v.2.2) (some v.1) none))) (List.take ((0:Nat) + Prod.fst (Prod.snd
    (cutT (0:Nat) (List.length v.2.2) (List.length v.2.2) (some v.1) none)) + (Prod.snd (Prod.snd (cutT (0:Nat) (List.length v.2.2) (List.length v.2.2)
    (some v.1) none)) - Prod.fst (Prod.snd (cutT (0:Nat) (List.length v.2.2) (List.length v.2.2) (some v.1) none)))) v.2.2))) * (24:Nat) ≤
    (140737488355328:Nat))) (some (Sum.inr (Sum.inr (List.drop ((0:Nat) + Prod.fst (Prod.snd (cutT (0:Nat) (List.length v.2.2) (List.length v.2.2) none
    (some v.1)))) (List.take ((0:Nat) + Prod.fst (Prod.snd (cutT (0:Nat) (List.length v.2.2) (List.length v.2.2) none (some v.1))) + (Prod.snd (Prod.snd
    (cutT (0:Nat) (List.length v.2.2) (List.length v.2.2) none (some v.1))) - Prod.fst (Prod.snd (cutT (0:Nat) (List.length v.2.2) (List.length v.2.2)
    none (some v.1))))) v.2.2) ++ [v.2.1] ++ List.drop ((0:Nat) + Prod.fst (Prod.snd (cutT (0:Nat) (List.length v.2.2) (List.length v.2.2) (some v.1)
    none))) (List.take ((0:Nat) + Prod.fst (Prod.snd (cutT (0:Nat) (List.length v.2.2) (List.length v.2.2) (some v.1) none)) + (Prod.snd (Prod.snd (cutT
    (0:Nat) (List.length v.2.2) (List.length v.2.2) (some v.1) none)) - Prod.fst (Prod.snd (cutT (0:Nat) (List.length v.2.2) (List.length v.2.2) (some
    v.1) none)))) v.2.2), true)))) none) none) none) none) none) none) none) (some (Sum.inl (wr .i64 (v.1 + (1:Int)), v.2)))) none) (some (Sum.inr
    (Sum.inl v.2)))) ((0:Int), x.2, b)) fun (b : (Int × Int × Int) × List (Int × Int × Int) ⊕ List (Int × Int × Int) × Bool) => selim (fun (b : (Int × Int × Int) × List (Int × Int × Int)) => cnd (decide ((List.length b.2 + List.length [b.1]) * (24:Nat) ≤ (140737488355328:Nat))) (some (b.2 ++ [b.1],
    true)) none) (fun (c : A2_) => some c) b)
theorem FV_ref1_Hear_eq (w_ref1_Old : List (Int × Int × Int) × Int × Int → Option (Bool)) (w_ref1_Drop : A3_ → Option (List (Int × Int × Int))) (N : Nat) (x : List (Int × Int × Int) × Int × Int × Int) : F_ref1_Hear w_ref1_Old w_ref1_Drop N x = V_ref1_Hear w_ref1_Old w_ref1_Drop N x := by kernel_rfl
noncomputable def W_ref1_Hear (N : Nat) (x : List (Int × Int × Int) × Int × Int × Int) : Option A2_ := V_ref1_Hear (W_ref1_Old N) (W_ref1_Drop N) N x
theorem F_ref1_Hear_eq (N : Nat) (x : List (Int × Int × Int) × Int × Int × Int) : F_ref1_Hear (W_ref1_Old N) (W_ref1_Drop N) N x = W_ref1_Hear N x := (FV_ref1_Hear_eq (W_ref1_Old N) (W_ref1_Drop N) N x).trans (by kernel_rfl)
noncomputable def conw_ref1_Hear (w : List (Int × Int × Int) × Int × Int × Int → Option A2_) : Con := ⟨59, as_ref1_Hear, bs_ref1_Hear, List (Int × Int × Int) × Bool, w, out_ref1_Hear⟩
noncomputable def con_ref1_Hear (N : Nat) : Con := conw_ref1_Hear (W_ref1_Hear N)
theorem R_ref1_Hear_eq (x : List (Int × Int × Int) × Int × Int × Int) (y : A2_) : retOf2 P0 Try.f59 (kpL []) (lbOf as_ref1_Hear bs_ref1_Hear x) (patS ⟨49, [], [], []⟩ pout_ref1_Hear y) = some (out_ref1_Hear y) := by kernel_rfl
theorem con_ref1_Hear_ok (N : Nat) : Con.ok P0 (con_ref1_Hear N) := ⟨⟨Try.f59, Try.func59, by kernel_rfl, by kernel_rfl⟩, fun (x : List (Int × Int × Int) × Int × Int × Int) (r : A2_) (hr : W_ref1_Hear N x = some r) =>
  spec2_evT (Γ := G_ref1_Hear (W_ref1_Old N) (W_ref1_Drop N) N) (Λ := L0) (pout := pout_ref1_Hear) (kp := kpL []) mixed (orcOf_ok _ (by simp only [List.mem_cons, List.not_mem_nil, or_false, forall_eq_or_imp, forall_eq]; exact ⟨con_ref1_Old_ok N, con_ref1_Drop_ok N⟩)) Try.func59 (c := bodyOf Try.f59) (by kernel_rfl) (by kernel_rfl) (of_decide_eq_true (by kernel_rfl)) ((F_ref1_Hear_eq N x).trans hr) (R_ref1_Hear_eq x r)⟩
def as_ref1_Grand : List AS := [.val (.list (.int .i64))]
def bs_ref1_Grand : List BS := []
def pout_ref1_Grand : Pat := ⟨[(2, .val (.int .i64))], []⟩
noncomputable def G_ref1_Grand  (N : Nat) : OrcT := orcOf []
noncomputable def F_ref1_Grand  (N : Nat) (x : List Int) : Option (Int) :=
  (evT (G_ref1_Grand  N) L0 P0 []
    [] N 400 (bodyOf Try.f77) ⟨12, slots 0 (argsOf as_ref1_Grand bs_ref1_Grand x), tabU (lbOf as_ref1_Grand bs_ref1_Grand x) [], []⟩).elim (kRet 12 pout_ref1_Grand (kpL []) (lbOf as_ref1_Grand bs_ref1_Grand x))
def out_ref1_Grand (y : Int) : V × List OK × List OK := (valW (.int .i64) y, [], [])
noncomputable def V_ref1_Grand  (N : Nat) (x : List Int) : Option (Int) :=
  cnd (decide ((↑(List.length x) : Int) < (2:Int))) (some (0:Int)) (cnd (decide ((0:Int) ≤ wr .i64 ((↑(List.length x) : Int) - (2:Int))) && decide (wr
    .i64 ((↑(List.length x) : Int) - (2:Int)) < (↑(List.length x) : Int))) (some (List.getD x (Int.toNat (wr .i64 ((↑(List.length x) : Int) - (2:Int))))
    (0:Int))) none)
theorem FV_ref1_Grand_eq  (N : Nat) (x : List Int) : F_ref1_Grand  N x = V_ref1_Grand  N x := by kernel_rfl
noncomputable def W_ref1_Grand (N : Nat) (x : List Int) : Option (Int) := V_ref1_Grand  N x
theorem F_ref1_Grand_eq (N : Nat) (x : List Int) : F_ref1_Grand  N x = W_ref1_Grand N x := (FV_ref1_Grand_eq  N x).trans (by kernel_rfl)
noncomputable def conw_ref1_Grand (w : List Int → Option (Int)) : Con := ⟨77, as_ref1_Grand, bs_ref1_Grand, Int, w, out_ref1_Grand⟩
noncomputable def con_ref1_Grand (N : Nat) : Con := conw_ref1_Grand (W_ref1_Grand N)
theorem R_ref1_Grand_eq (x : List Int) (y : Int) : retOf2 P0 Try.f77 (kpL []) (lbOf as_ref1_Grand bs_ref1_Grand x) (patS ⟨12, [], [], []⟩ pout_ref1_Grand y) = some (out_ref1_Grand y) := by kernel_rfl
theorem con_ref1_Grand_ok (N : Nat) : Con.ok P0 (con_ref1_Grand N) := ⟨⟨Try.f77, Try.func77, by kernel_rfl, by kernel_rfl⟩, fun (x : List Int) (r : Int) (hr : W_ref1_Grand N x = some r) =>
  spec2_evT (Γ := G_ref1_Grand N) (Λ := L0) (pout := pout_ref1_Grand) (kp := kpL []) mixed (orcOf_ok [] (by simp)) Try.func77 (c := bodyOf Try.f77) (by kernel_rfl) (by kernel_rfl) (of_decide_eq_true (by kernel_rfl)) ((F_ref1_Grand_eq N x).trans hr) (R_ref1_Grand_eq x r)⟩
def as_ref19_grand : List AS := [.val (.list (.int .i64))]
def bs_ref19_grand : List BS := []
def pout_ref19_grand : Pat := ⟨[(2, .val (.int .i64))], []⟩
noncomputable def G_ref19_grand (w_ref1_Grand : List Int → Option (Int)) (N : Nat) : OrcT := orcOf [conw_ref1_Grand w_ref1_Grand]
noncomputable def F_ref19_grand (w_ref1_Grand : List Int → Option (Int)) (N : Nat) (x : List Int) : Option (Int) :=
  (evT (G_ref19_grand w_ref1_Grand N) L0 P0 []
    [] N 400 (bodyOf Try.f61) ⟨9, slots 0 (argsOf as_ref19_grand bs_ref19_grand x), tabU (lbOf as_ref19_grand bs_ref19_grand x) [], []⟩).elim (kRet 9 pout_ref19_grand (kpL []) (lbOf as_ref19_grand bs_ref19_grand x))
def out_ref19_grand (y : Int) : V × List OK × List OK := (valW (.int .i64) y, [], [])
noncomputable def V_ref19_grand (w_ref1_Grand : List Int → Option (Int)) (N : Nat) (x : List Int) : Option (Int) :=
  obind (w_ref1_Grand x) fun b => cnd (decide (b = (0:Int))) (some (1:Int)) (some b)
theorem FV_ref19_grand_eq (w_ref1_Grand : List Int → Option (Int)) (N : Nat) (x : List Int) : F_ref19_grand w_ref1_Grand N x = V_ref19_grand w_ref1_Grand N x := by kernel_rfl
noncomputable def W_ref19_grand (N : Nat) (x : List Int) : Option (Int) := V_ref19_grand (W_ref1_Grand N) N x
theorem F_ref19_grand_eq (N : Nat) (x : List Int) : F_ref19_grand (W_ref1_Grand N) N x = W_ref19_grand N x := (FV_ref19_grand_eq (W_ref1_Grand N) N x).trans (by kernel_rfl)
noncomputable def conw_ref19_grand (w : List Int → Option (Int)) : Con := ⟨61, as_ref19_grand, bs_ref19_grand, Int, w, out_ref19_grand⟩
noncomputable def con_ref19_grand (N : Nat) : Con := conw_ref19_grand (W_ref19_grand N)
theorem R_ref19_grand_eq (x : List Int) (y : Int) : retOf2 P0 Try.f61 (kpL []) (lbOf as_ref19_grand bs_ref19_grand x) (patS ⟨9, [], [], []⟩ pout_ref19_grand y) = some (out_ref19_grand y) := by kernel_rfl
theorem con_ref19_grand_ok (N : Nat) : Con.ok P0 (con_ref19_grand N) := ⟨⟨Try.f61, Try.func61, by kernel_rfl, by kernel_rfl⟩, fun (x : List Int) (r : Int) (hr : W_ref19_grand N x = some r) =>
  spec2_evT (Γ := G_ref19_grand (W_ref1_Grand N) N) (Λ := L0) (pout := pout_ref19_grand) (kp := kpL []) mixed (orcOf_ok _ (by simp only [List.mem_cons, List.not_mem_nil, or_false, forall_eq_or_imp, forall_eq]; exact con_ref1_Grand_ok N)) Try.func61 (c := bodyOf Try.f61) (by kernel_rfl) (by kernel_rfl) (of_decide_eq_true (by kernel_rfl)) ((F_ref19_grand_eq N x).trans hr) (R_ref19_grand_eq x r)⟩
def as_ref19_accepted : List AS := [.val (.agg T0_), .val (.agg T_)]
def bs_ref19_accepted : List BS := []
def pout_ref19_accepted : Pat := ⟨[(4, .ptr 600004 0), (5, .val (.list (.agg T_)))], [(600004, .box 27 (.val T0_))]⟩
noncomputable def G_ref19_accepted (w_ref19_says : (Int × A0_) × Int × Int → Option (M_)) (w_ref1_AddPath : List Int × Int → Option (List Int × Bool)) (w_ref19_grand : List Int → Option (Int)) (N : Nat) : OrcT := orcOf [conw_ref19_says w_ref19_says, conw_ref1_AddPath w_ref1_AddPath, conw_ref19_grand w_ref19_grand]
noncomputable def F_ref19_accepted (w_ref19_says : (Int × A0_) × Int × Int → Option (M_)) (w_ref1_AddPath : List Int × Int → Option (List Int × Bool)) (w_ref19_grand : List Int → Option (Int)) (N : Nat) (x : (Int × A0_) × M_) : Option (List (M_) × Int × A0_) :=
  (evT (G_ref19_accepted w_ref19_says w_ref1_AddPath w_ref19_grand N) L0 P0 []
    [(1000003, .reg [(10, [], ⟨[(2, .ptr 600002 0), (3, .ptr 600003 0), (4, .ptr 600004 0), (28, .val .bool)], [(600002, .box 27 (.val T0_)), (600003, .box 33 (.val T_)), (600004, .box 27 (.val T0_))]⟩)]),
    (5, .cut [] [(.normal, ⟨[(2, .ptr 600002 0), (3, .ptr 600003 0), (4, .ptr 600004 0)], [(600002, .box 27 (.val T0_)), (600003, .box 33 (.val T_)), (600004, .box 27 (.val T0_))]⟩), (.ret, ⟨[(4, .ptr 600004 0), (5, .val (.list (.agg T_)))], [(600004, .box 27 (.val T0_))]⟩)]),
    (3, .cut [] [(.normal, ⟨[(2, .ptr 600002 0), (3, .ptr 600003 0), (4, .ptr 600004 0)], [(600002, .box 27 (.val T0_)), (600003, .box 33 (.val T_)), (600004, .box 27 (.val T0_))]⟩), (.ret, ⟨[(4, .ptr 600004 0), (5, .val (.list (.agg T_)))], [(600004, .box 27 (.val T0_))]⟩)])] N 400 (bodyOf Try.f60) ⟨89, slots 0 (argsOf as_ref19_accepted bs_ref19_accepted x), tabU (lbOf as_ref19_accepted bs_ref19_accepted x) [], []⟩).elim (kRet 89 pout_ref19_accepted (kpL []) (lbOf as_ref19_accepted bs_ref19_accepted x))
def out_ref19_accepted (y : List (M_) × Int × A0_) : V × List OK × List OK := (.tup [valW (.agg T0_) y.2, valW (.list (.agg T_)) y.1], [], [])
noncomputable def V_ref19_accepted (w_ref19_says : (Int × A0_) × Int × Int → Option (M_)) (w_ref1_AddPath : List Int × Int → Option (List Int × Bool)) (w_ref19_grand : List Int → Option (Int)) (N : Nat) (x : (Int × A0_) × M_) : Option (List (M_) × Int × A0_) :=
  obind (cnd (decide (x.1.2.2.2.1 ≠ (0:Int))) (cnd (decide (x.2.2.1 = x.1.2.2.2.1)) (some (Sum.inr ([], x.1))) (some (Sum.inl (x.1, x.2, (0:Int),
    (0:Int), (0:Int), (0:Int), (0:Int), (0:Int), [], (0:Int), (0:Int), (0:Int), (0:Int), (0:Int), [])))) (some (Sum.inl (x.1, x.2, (0:Int), (0:Int),
    (0:Int), (0:Int), (0:Int), (0:Int), [], (0:Int), (0:Int), (0:Int), (0:Int), (0:Int), [])))) fun (b : (Int × A0_) × A1_ × Int × Int × Int × Int × Int × Int × List Int × Int × Int × Int × Int × Int × List (Int × Int × Int) ⊕ List A1_ × Int × A0_) => selim (fun (b : (Int × A0_) × A1_ × Int × A0_) => obind (obind (cnd (decide
    (b.1.2.2.2.2.2.2.2.2.2.1 = (0:Int))) (some (true, b)) (some (decide (b.1.2.2.2.2.2.2.2.2.2.1 ≠ b.2.1.2.1), b))) fun (b : Bool × (Int × A0_) × A1_ × Int × A0_) => cnd b.1 (obind (w_ref19_says
    (b.2.1, (6:Int), b.2.2.1.2.1)) fun b_1 => some (Sum.inr ([b_1], b.2.1))) (cnd (decide (b.2.1.2.2.2.1 ≠ (0:Int))) (obind (w_ref19_says (b.2.1,
    (6:Int), b.2.2.1.2.1)) fun b_1 => some (Sum.inr ([b_1], b.2.1))) (some (Sum.inl b.2)))) fun (b : (Int × A0_) × A1_ × Int × Int × Int × Int × Int × Int × List Int × Int × Int × Int × Int × Int × List (Int × Int × Int) ⊕ List A1_ × Int × A0_) => selim (fun (b : (Int × A0_) × A1_ × Int × A0_) => obind (w_ref1_AddPath
    (b.2.1.2.2.2.2.2.2.1, b.1.1)) fun b_1 => cnd (!b_1.2) (obind (w_ref19_says ((b.1.1, b.1.2.1, b.1.2.2.1, b.1.2.2.2.1, b.1.2.2.2.2.1,
    b.1.2.2.2.2.2.1, b.1.2.2.2.2.2.2.1, b.1.2.2.2.2.2.2.2.1, b.1.2.2.2.2.2.2.2.2.1, (0:Int), b.1.2.2.2.2.2.2.2.2.2.2.1, wr .i64
    (b.1.2.2.2.2.2.2.2.2.2.2.2.1 + (1:Int)), b.1.2.2.2.2.2.2.2.2.2.2.2.2), (6:Int), b.2.1.2.1)) fun b_2 => some ([b_2], b.1.1, b.1.2.1, b.1.2.2.1,
    b.1.2.2.2.1, b.1.2.2.2.2.1, b.1.2.2.2.2.2.1, b.1.2.2.2.2.2.2.1, b.1.2.2.2.2.2.2.2.1, b.1.2.2.2.2.2.2.2.2.1, (0:Int), b.1.2.2.2.2.2.2.2.2.2.2.1, wr
    .i64 (b.1.2.2.2.2.2.2.2.2.2.2.2.1 + (1:Int)), b.1.2.2.2.2.2.2.2.2.2.2.2.2)) (cnd (decide ((20:Int) < b.2.1.2.2.2.2.2.1)) (obind (w_ref19_says
    ((b.1.1, b.1.2.1, b.1.2.2.1, b.1.2.2.2.1, b.1.2.2.2.2.1, b.1.2.2.2.2.2.1, b.1.2.2.2.2.2.2.1, b.1.2.2.2.2.2.2.2.1, b.1.2.2.2.2.2.2.2.2.1, (0:Int),
    b.1.2.2.2.2.2.2.2.2.2.2.1, wr .i64 (b.1.2.2.2.2.2.2.2.2.2.2.2.1 + (1:Int)), b.1.2.2.2.2.2.2.2.2.2.2.2.2), (6:Int), b.2.1.2.1)) fun b_2 => some
    ([b_2], b.1.1, b.1.2.1, b.1.2.2.1, b.1.2.2.2.1, b.1.2.2.2.2.1, b.1.2.2.2.2.2.1, b.1.2.2.2.2.2.2.1, b.1.2.2.2.2.2.2.2.1, b.1.2.2.2.2.2.2.2.2.1,
    (0:Int), b.1.2.2.2.2.2.2.2.2.2.2.1, wr .i64 (b.1.2.2.2.2.2.2.2.2.2.2.2.1 + (1:Int)), b.1.2.2.2.2.2.2.2.2.2.2.2.2)) (obind (w_ref19_grand
    b.2.1.2.2.2.2.2.2.1) fun b_2 => some ([], b.1.1, b.1.2.1, b.1.2.2.1, b.2.1.2.1, b.2.1.2.2.2.1, b_2, b_1.1, b.2.1.2.2.2.2.1, wr .i64 (b.1.2.2.1 -
    b.2.1.2.2.2.2.2.1), (0:Int), b.1.2.2.2.2.2.2.2.2.2.2.1, (0:Int), b.1.2.2.2.2.2.2.2.2.2.2.2.2)))) (fun (c : List A1_ × Int × A0_) => some c)
    b) (fun (c : List A1_ × Int × A0_) => some c) b
theorem FV_ref19_accepted_eq (w_ref19_says : (Int × A0_) × Int × Int → Option (M_)) (w_ref1_AddPath : List Int × Int → Option (List Int × Bool)) (w_ref19_grand : List Int → Option (Int)) (N : Nat) (x : (Int × A0_) × M_) : F_ref19_accepted w_ref19_says w_ref1_AddPath w_ref19_grand N x = V_ref19_accepted w_ref19_says w_ref1_AddPath w_ref19_grand N x := by kernel_rfl
noncomputable def W_ref19_accepted (N : Nat) (x : (Int × A0_) × M_) : Option (List (M_) × Int × A0_) := V_ref19_accepted (W_ref19_says N) (W_ref1_AddPath N) (W_ref19_grand N) N x
theorem F_ref19_accepted_eq (N : Nat) (x : (Int × A0_) × M_) : F_ref19_accepted (W_ref19_says N) (W_ref1_AddPath N) (W_ref19_grand N) N x = W_ref19_accepted N x := (FV_ref19_accepted_eq (W_ref19_says N) (W_ref1_AddPath N) (W_ref19_grand N) N x).trans (by kernel_rfl)
noncomputable def conw_ref19_accepted (w : (Int × A0_) × M_ → Option (List (M_) × Int × A0_)) : Con := ⟨60, as_ref19_accepted, bs_ref19_accepted, List (M_) × Int × Int × Int × Int × Int × Int × List Int × Int × Int × Int × Int × Int × List (Int × Int × Int), w, out_ref19_accepted⟩
noncomputable def con_ref19_accepted (N : Nat) : Con := conw_ref19_accepted (W_ref19_accepted N)
theorem R_ref19_accepted_eq (x : (Int × A0_) × M_) (y : List (M_) × Int × A0_) : retOf2 P0 Try.f60 (kpL []) (lbOf as_ref19_accepted bs_ref19_accepted x) (patS ⟨89, [], [], []⟩ pout_ref19_accepted y) = some (out_ref19_accepted y) := by kernel_rfl
theorem con_ref19_accepted_ok (N : Nat) : Con.ok P0 (con_ref19_accepted N) := ⟨⟨Try.f60, Try.func60, by kernel_rfl, by kernel_rfl⟩, fun (x : (Int × A0_) × M_) (r : List (M_) × Int × A0_) (hr : W_ref19_accepted N x = some r) =>
  spec2_evT (Γ := G_ref19_accepted (W_ref19_says N) (W_ref1_AddPath N) (W_ref19_grand N) N) (Λ := L0) (pout := pout_ref19_accepted) (kp := kpL []) mixed (orcOf_ok _ (by simp only [List.mem_cons, List.not_mem_nil, or_false, forall_eq_or_imp, forall_eq]; exact ⟨con_ref19_says_ok N, con_ref1_AddPath_ok N, con_ref19_grand_ok N⟩)) Try.func60 (c := bodyOf Try.f60) (by kernel_rfl) (by kernel_rfl) (of_decide_eq_true (by kernel_rfl)) ((F_ref19_accepted_eq N x).trans hr) (R_ref19_accepted_eq x r)⟩
def as_ref19_Comes : List AS := [.val (.agg T0_), .val (.agg T_), .val (.int .i64)]
def bs_ref19_Comes : List BS := []
def pout_ref19_Comes : Pat := ⟨[(6, .ptr 600006 0), (7, .val (.list (.agg T_)))], [(600006, .box 27 (.val T0_))]⟩
noncomputable def G_ref19_Comes (w_ref1_Old : List (Int × Int × Int) × Int × Int → Option (Bool)) (w_ref19_off : (Int × A0_) × Int → Option (Int × A0_)) (w_ref1_Find : A3_ → Option (Bool × Int × Int × Int)) (w_ref19_Fresh : Int × A0_ → Option (Bool)) (w_ref1_Has : List Int × Int → Option (Bool)) (w_ref19_says : (Int × A0_) × Int × Int → Option (M_)) (w_ref1_Hear : List (Int × Int × Int) × Int × Int × Int → Option A2_) (w_ref19_full : (Int × A0_) × Int × Int → Option (M_)) (w_ref19_accepted : (Int × A0_) × M_ → Option (List (M_) × Int × A0_)) (w_ref1_AddPath : List Int × Int → Option (List Int × Bool)) (w_ref19_grand : List Int → Option (Int)) (w_ref1_Drop : A3_ → Option (List (Int × Int × Int))) (N : Nat) : OrcT := orcOf [conw_ref1_Old w_ref1_Old, conw_ref19_off w_ref19_off, conw_ref1_Find w_ref1_Find, conw_ref19_Fresh w_ref19_Fresh, conw_ref1_Has w_ref1_Has, conw_ref19_says w_ref19_says, conw_ref1_Hear w_ref1_Hear, conw_ref19_full w_ref19_full, conw_ref19_accepted w_ref19_accepted, conw_ref1_AddPath w_ref1_AddPath, conw_ref19_grand w_ref19_grand, conw_ref1_Drop w_ref1_Drop]
noncomputable def F_ref19_Comes (w_ref1_Old : List (Int × Int × Int) × Int × Int → Option (Bool)) (w_ref19_off : (Int × A0_) × Int → Option (Int × A0_)) (w_ref1_Find : A3_ → Option (Bool × Int × Int × Int)) (w_ref19_Fresh : Int × A0_ → Option (Bool)) (w_ref1_Has : List Int × Int → Option (Bool)) (w_ref19_says : (Int × A0_) × Int × Int → Option (M_)) (w_ref1_Hear : List (Int × Int × Int) × Int × Int × Int → Option A2_) (w_ref19_full : (Int × A0_) × Int × Int → Option (M_)) (w_ref19_accepted : (Int × A0_) × M_ → Option (List (M_) × Int × A0_)) (w_ref1_AddPath : List Int × Int → Option (List Int × Bool)) (w_ref19_grand : List Int → Option (Int)) (w_ref1_Drop : A3_ → Option (List (Int × Int × Int))) (N : Nat) (x : (Int × A0_) × (M_) × Int) : Option (List (M_) × Int × A0_) :=
  (evT (G_ref19_Comes w_ref1_Old w_ref19_off w_ref1_Find w_ref19_Fresh w_ref1_Has w_ref19_says w_ref1_Hear w_ref19_full w_ref19_accepted w_ref1_AddPath w_ref19_grand w_ref1_Drop N) L0 P0 []
    [(1000012, .reg [(10, [], ⟨[(3, .ptr 600003 0), (4, .ptr 600004 0), (6, .ptr 600006 0), (87, .val .bool)], [(600003, .box 27 (.val T0_)), (600004, .box 33 (.val T_)), (600006, .box 27 (.val T0_))]⟩)]),
    (14, .cut [] [(.normal, ⟨[(3, .ptr 600003 0), (4, .ptr 600004 0), (6, .ptr 600006 0)], [(600003, .box 27 (.val T0_)), (600004, .box 33 (.val T_)), (600006, .box 27 (.val T0_))]⟩), (.ret, ⟨[(6, .ptr 600006 0), (7, .val (.list (.agg T_)))], [(600006, .box 27 (.val T0_))]⟩)]),
    (12, .cut [] [(.normal, ⟨[(3, .ptr 600003 0), (4, .ptr 600004 0), (6, .ptr 600006 0), (11, .val (.int .i64))], [(600003, .box 27 (.val T0_)), (600004, .box 33 (.val T_)), (600006, .box 27 (.val T0_))]⟩)]),
    (23, .cut [] [(.normal, ⟨[(3, .ptr 600003 0), (6, .ptr 600006 0)], [(600003, .box 27 (.val T0_)), (600006, .box 27 (.val T0_))]⟩)]),
    (6, .cut [] [(.normal, ⟨[(3, .ptr 600003 0), (4, .ptr 600004 0), (6, .ptr 600006 0), (8, .val .bool)], [(600003, .box 27 (.val T0_)), (600004, .box 33 (.val T_)), (600006, .box 27 (.val T0_))]⟩)]),
    (5, .cut [] [(.normal, ⟨[(3, .ptr 600003 0), (4, .ptr 600004 0), (6, .ptr 600006 0)], [(600003, .box 27 (.val T0_)), (600004, .box 33 (.val T_)), (600006, .box 27 (.val T0_))]⟩)]),
    (3, .cut [] [(.normal, ⟨[(3, .ptr 600003 0), (4, .ptr 600004 0), (6, .ptr 600006 0)], [(600003, .box 27 (.val T0_)), (600004, .box 33 (.val T_)), (600006, .box 27 (.val T0_))]⟩), (.ret, ⟨[(6, .ptr 600006 0), (7, .val (.list (.agg T_)))], [(600006, .box 27 (.val T0_))]⟩)])] N 400 (bodyOf Try.f29) ⟨246, slots 0 (argsOf as_ref19_Comes bs_ref19_Comes x), tabU (lbOf as_ref19_Comes bs_ref19_Comes x) [], []⟩).elim (kRet 246 pout_ref19_Comes (kpL []) (lbOf as_ref19_Comes bs_ref19_Comes x))
def out_ref19_Comes (y : List (M_) × Int × A0_) : V × List OK × List OK := (.tup [valW (.agg T0_) y.2, valW (.list (.agg T_)) y.1], [], [])
noncomputable def V_ref19_Comes (w_ref1_Old : List (Int × Int × Int) × Int × Int → Option (Bool)) (w_ref19_off : (Int × A0_) × Int → Option (Int × A0_)) (w_ref1_Find : A3_ → Option (Bool × Int × Int × Int)) (w_ref19_Fresh : Int × A0_ → Option (Bool)) (w_ref1_Has : List Int × Int → Option (Bool)) (w_ref19_says : (Int × A0_) × Int × Int → Option (M_)) (w_ref1_Hear : List (Int × Int × Int) × Int × Int × Int → Option A2_) (w_ref19_full : (Int × A0_) × Int × Int → Option (M_)) (w_ref19_accepted : (Int × A0_) × M_ → Option (List (M_) × Int × A0_)) (w_ref1_AddPath : List Int × Int → Option (List Int × Bool)) (w_ref19_grand : List Int → Option (Int)) (w_ref1_Drop : A3_ → Option (List (Int × Int × Int))) (N : Nat) (x : (Int × A0_) × (M_) × Int) : Option (List (M_) × Int × A0_) :=
  obind (obind (w_ref1_Old (x.1.2.2.2.2.2.2.2.2.2.2.2.2, x.2.1.2.1, x.2.1.2.2.2.1)) fun b => cnd b (some (Sum.inr ([], x.1))) (cnd (decide (x.2.1.2.1
    = x.1.2.2.2.1)) (cnd (decide (x.2.1.2.2.2.1 < x.1.2.2.2.2.1)) (some (Sum.inr ([], x.1))) (some (Sum.inl (x.1, x.2.1, (0:Int), (0:Int), (0:Int),
    (0:Int), (0:Int), (0:Int), [], (0:Int), (0:Int), (0:Int), (0:Int), (0:Int), [])))) (some (Sum.inl (x.1, x.2.1, (0:Int), (0:Int), (0:Int), (0:Int),
    (0:Int), (0:Int), [], (0:Int), (0:Int), (0:Int), (0:Int), (0:Int), []))))) fun (b : (Int × A0_) × A1_ × Int × Int × Int × Int × Int × Int × List Int × Int × Int × Int × Int × Int × List (Int × Int × Int) ⊕ List A1_ × Int × A0_) => selim (fun (b : (Int × A0_) × A1_ × Int × A0_) => obind (cnd (decide (b.2.1.2.1 =
    b.1.2.2.2.1)) (cnd (decide (b.1.2.2.2.2.1 < b.2.1.2.2.2.1)) (obind (w_ref19_off (b.1, (0:Int))) fun b_1 => some (b_1, b.2)) (some b)) (some b))
    fun (b : (Int × A0_) × A1_ × Int × A0_) => obind
    (cnd (decide (b.1.2.2.2.1 ≠ (0:Int))) (some (decide (b.2.1.2.1 = b.1.2.2.2.1), b)) (some (false, b))) fun (b : Bool × (Int × A0_) × A1_ × Int × A0_) => cnd (decide (b.2.2.1.1 = (1:Int))) (obind
    (w_ref1_Find (b.2.1.2.2.2.2.2.2.2.2.2.2.2.2, b.2.2.1.2.1)) fun b_1 => obind (cnd (decide (b.2.1.1 = (1:Int))) (some ((8:Int), b.2)) (some
    ((3:Int), b.2))) fun (b : Int × (Int × A0_) × A1_ × Int × A0_) => obind (obind (obind (w_ref19_Fresh b.2.1) fun b_2 => cnd (!b_2) (some (true, b.2)) (obind (w_ref1_Has (b.2.1.2.2.2.2.2.2.1,
    b.2.2.1.2.1)) fun b_3 => some (b_3, b.2))) fun (b_2 : Bool × (Int × A0_) × A1_ × Int × A0_) => cnd b_2.1 (obind (w_ref19_says (b_2.2.1, (3:Int), b_2.2.2.1.2.1)) fun b => some (Sum.inr ([b],
    b_2.2.1))) (cnd (!b_1.1) (cnd (decide (b.1 ≤ (↑(List.length b_2.2.1.2.2.2.2.2.2.2.2.2.2.2.2) : Int))) (obind (w_ref19_says (b_2.2.1, (3:Int),
    b_2.2.2.1.2.1)) fun b => some (Sum.inr ([b], b_2.2.1))) (some (Sum.inl b_2.2))) (some (Sum.inl b_2.2)))) fun (b : (Int × A0_) × A1_ × Int × Int × Int × Int × Int × Int × List Int × Int × Int × Int × Int × Int × List (Int × Int × Int) ⊕ List A1_ × Int × A0_) => selim (fun (b :
    (Int × A0_) × A1_ × Int × A0_) => obind
    (w_ref1_Hear (b.1.2.2.2.2.2.2.2.2.2.2.2.2, b.2.1.2.1, b.2.1.2.2.2.1, b.1.2.2.1)) fun b_2 => obind (w_ref19_full ((b.1.1, b.1.2.1, b.1.2.2.1,
    b.1.2.2.2.1, b.1.2.2.2.2.1, b.1.2.2.2.2.2.1, b.1.2.2.2.2.2.2.1, b.1.2.2.2.2.2.2.2.1, b.1.2.2.2.2.2.2.2.2.1, b.1.2.2.2.2.2.2.2.2.2.1,
    b.1.2.2.2.2.2.2.2.2.2.2.1, b.1.2.2.2.2.2.2.2.2.2.2.2.1, b_2.1), (2:Int), b.2.1.2.1)) fun b_3 => some ([(b_3.1, b_3.2.1, b_3.2.2.1, b_3.2.2.2.1,
    b_3.2.2.2.2.1, b_3.2.2.2.2.2.1, b_3.2.2.2.2.2.2.1, x.2.2, b_3.2.2.2.2.2.2.2.2)], b.1.1, b.1.2.1, b.1.2.2.1, b.1.2.2.2.1, b.1.2.2.2.2.1,
    b.1.2.2.2.2.2.1, b.1.2.2.2.2.2.2.1, b.1.2.2.2.2.2.2.2.1, b.1.2.2.2.2.2.2.2.2.1, b.1.2.2.2.2.2.2.2.2.2.1, b.1.2.2.2.2.2.2.2.2.2.2.1,
    b.1.2.2.2.2.2.2.2.2.2.2.2.1, b_2.1)) (fun (c : List A1_ × Int × A0_) => some c) b) (cnd (decide (b.2.2.1.1 = (2:Int))) (obind
    (w_ref19_accepted (b.2.1, b.2.2.1)) fun b => some b) (cnd (decide (b.2.2.1.1 = (3:Int))) (obind (cnd (decide (b.2.1.2.2.2.2.2.2.2.2.2.1 ≠
    (0:Int))) (cnd (decide (b.2.1.2.2.2.2.2.2.2.2.2.1 = b.2.2.1.2.1)) (some ((b.2.1.1, b.2.1.2.1, b.2.1.2.2.1, b.2.1.2.2.2.1, b.2.1.2.2.2.2.1,
    b.2.1.2.2.2.2.2.1, b.2.1.2.2.2.2.2.2.1, b.2.1.2.2.2.2.2.2.2.1, b.2.1.2.2.2.2.2.2.2.2.1, (0:Int), b.2.1.2.2.2.2.2.2.2.2.2.2.1, wr .i64
    (b.2.1.2.2.2.2.2.2.2.2.2.2.2.1 + (1:Int)), b.2.1.2.2.2.2.2.2.2.2.2.2.2.2), b.2.2.2)) (some (b.2.1, b.2.2.2))) (some (b.2.1, b.2.2.2))) fun (b_1 :
    (Int × A0_) × Int × A0_) => cnd b.1 (obind (w_ref19_off (b_1.1, (0:Int))) fun b => some ([], b)) (some ([],
    b_1.1))) (cnd (decide (b.2.2.1.1 = (4:Int))) (obind (w_ref1_Find (b.2.1.2.2.2.2.2.2.2.2.2.2.2.2, b.2.2.1.2.1)) fun b_1 => cnd (!b_1.1) (obind
    (w_ref19_says (b.2.1, (3:Int), b.2.2.1.2.1)) fun b_2 => some ([b_2], b.2.1)) (obind (w_ref1_Hear (b.2.1.2.2.2.2.2.2.2.2.2.2.2.2, b.2.2.1.2.1,
    b.2.2.1.2.2.2.1, b.2.1.2.2.1)) fun b_2 => some ([], b.2.1.1, b.2.1.2.1, b.2.1.2.2.1, b.2.1.2.2.2.1, b.2.1.2.2.2.2.1, b.2.1.2.2.2.2.2.1,
    b.2.1.2.2.2.2.2.2.1, b.2.1.2.2.2.2.2.2.2.1, b.2.1.2.2.2.2.2.2.2.2.1, b.2.1.2.2.2.2.2.2.2.2.2.1, b.2.1.2.2.2.2.2.2.2.2.2.2.1,
    b.2.1.2.2.2.2.2.2.2.2.2.2.2.1, b_2.1))) (cnd (decide (b.2.2.1.1 = (5:Int))) (cnd (!b.1) (obind (w_ref19_says (b.2.1, (6:Int), b.2.2.1.2.1)) fun
    b_1 => some ([b_1], b.2.1)) (obind (w_ref1_AddPath (b.2.2.1.2.2.2.2.2.2.1, b.2.1.1)) fun b_1 => cnd (!b_1.2) (obind (w_ref19_off (b.2.1,
    (1:Int))) fun b_2 => obind (w_ref19_says (b.2.1, (6:Int), b.2.2.1.2.1)) fun b => some ([b], b_2)) (obind (w_ref19_grand b.2.2.1.2.2.2.2.2.2.1)
    fun b_2 => cnd (decide (b.2.1.2.2.2.2.2.2.2.2.1 < wr .i64 (b.2.1.2.2.1 - b.2.2.1.2.2.2.2.2.1))) (some ([], b.2.1.1, b.2.1.2.1, b.2.1.2.2.1,
    b.2.1.2.2.2.1, b.2.1.2.2.2.2.1, b_2, b_1.1, b.2.2.1.2.2.2.2.1, wr .i64 (b.2.1.2.2.1 - b.2.2.1.2.2.2.2.2.1), b.2.1.2.2.2.2.2.2.2.2.2)) (some ([],
    b.2.1.1, b.2.1.2.1, b.2.1.2.2.1, b.2.1.2.2.2.1, b.2.1.2.2.2.2.1, b_2, b_1.1, b.2.1.2.2.2.2.2.2.2))))) (cnd (decide (b.2.2.1.1 = (6:Int))) (obind
    (w_ref1_Drop (b.2.1.2.2.2.2.2.2.2.2.2.2.2.2, b.2.2.1.2.1)) fun b_1 => some ([], b.2.1.1, b.2.1.2.1, b.2.1.2.2.1, b.2.1.2.2.2.1, b.2.1.2.2.2.2.1,
    b.2.1.2.2.2.2.2.1, b.2.1.2.2.2.2.2.2.1, b.2.1.2.2.2.2.2.2.2.1, b.2.1.2.2.2.2.2.2.2.2.1, b.2.1.2.2.2.2.2.2.2.2.2.1, b.2.1.2.2.2.2.2.2.2.2.2.2.1,
    b.2.1.2.2.2.2.2.2.2.2.2.2.2.1, b_1)) (some ([], b.2.1)))))))) (fun (c : List A1_ × Int × A0_) => some c) b
theorem FV_ref19_Comes_eq (w_ref1_Old : List (Int × Int × Int) × Int × Int → Option (Bool)) (w_ref19_off : (Int × A0_) × Int → Option (Int × A0_)) (w_ref1_Find : A3_ → Option (Bool × Int × Int × Int)) (w_ref19_Fresh : Int × A0_ → Option (Bool)) (w_ref1_Has : List Int × Int → Option (Bool)) (w_ref19_says : (Int × A0_) × Int × Int → Option (M_)) (w_ref1_Hear : List (Int × Int × Int) × Int × Int × Int → Option A2_) (w_ref19_full : (Int × A0_) × Int × Int → Option (M_)) (w_ref19_accepted : (Int × A0_) × M_ → Option (List (M_) × Int × A0_)) (w_ref1_AddPath : List Int × Int → Option (List Int × Bool)) (w_ref19_grand : List Int → Option (Int)) (w_ref1_Drop : A3_ → Option (List (Int × Int × Int))) (N : Nat) (x : (Int × A0_) × (M_) × Int) : F_ref19_Comes w_ref1_Old w_ref19_off w_ref1_Find w_ref19_Fresh w_ref1_Has w_ref19_says w_ref1_Hear w_ref19_full w_ref19_accepted w_ref1_AddPath w_ref19_grand w_ref1_Drop N x = V_ref19_Comes w_ref1_Old w_ref19_off w_ref1_Find w_ref19_Fresh w_ref1_Has w_ref19_says w_ref1_Hear w_ref19_full w_ref19_accepted w_ref1_AddPath w_ref19_grand w_ref1_Drop N x := by kernel_rfl
noncomputable def W_ref19_Comes (N : Nat) (x : (Int × A0_) × (M_) × Int) : Option (List (M_) × Int × A0_) := V_ref19_Comes (W_ref1_Old N) (W_ref19_off N) (W_ref1_Find N) (W_ref19_Fresh N) (W_ref1_Has N) (W_ref19_says N) (W_ref1_Hear N) (W_ref19_full N) (W_ref19_accepted N) (W_ref1_AddPath N) (W_ref19_grand N) (W_ref1_Drop N) N x
theorem F_ref19_Comes_eq (N : Nat) (x : (Int × A0_) × (M_) × Int) : F_ref19_Comes (W_ref1_Old N) (W_ref19_off N) (W_ref1_Find N) (W_ref19_Fresh N) (W_ref1_Has N) (W_ref19_says N) (W_ref1_Hear N) (W_ref19_full N) (W_ref19_accepted N) (W_ref1_AddPath N) (W_ref19_grand N) (W_ref1_Drop N) N x = W_ref19_Comes N x := (FV_ref19_Comes_eq (W_ref1_Old N) (W_ref19_off N) (W_ref1_Find N) (W_ref19_Fresh N) (W_ref1_Has N) (W_ref19_says N) (W_ref1_Hear N) (W_ref19_full N) (W_ref19_accepted N) (W_ref1_AddPath N) (W_ref19_grand N) (W_ref1_Drop N) N x).trans (by kernel_rfl)
noncomputable def conw_ref19_Comes (w : (Int × A0_) × (M_) × Int → Option (List (M_) × Int × A0_)) : Con := ⟨29, as_ref19_Comes, bs_ref19_Comes, List (M_) × Int × Int × Int × Int × Int × Int × List Int × Int × Int × Int × Int × Int × List (Int × Int × Int), w, out_ref19_Comes⟩
noncomputable def con_ref19_Comes (N : Nat) : Con := conw_ref19_Comes (W_ref19_Comes N)
theorem R_ref19_Comes_eq (x : (Int × A0_) × (M_) × Int) (y : List (M_) × Int × A0_) : retOf2 P0 Try.f29 (kpL []) (lbOf as_ref19_Comes bs_ref19_Comes x) (patS ⟨246, [], [], []⟩ pout_ref19_Comes y) = some (out_ref19_Comes y) := by kernel_rfl
theorem con_ref19_Comes_ok (N : Nat) : Con.ok P0 (con_ref19_Comes N) := ⟨⟨Try.f29, Try.func29, by kernel_rfl, by kernel_rfl⟩, fun (x : (Int × A0_) × (M_) × Int) (r : List (M_) × Int × A0_) (hr : W_ref19_Comes N x = some r) =>
  spec2_evT (Γ := G_ref19_Comes (W_ref1_Old N) (W_ref19_off N) (W_ref1_Find N) (W_ref19_Fresh N) (W_ref1_Has N) (W_ref19_says N) (W_ref1_Hear N) (W_ref19_full N) (W_ref19_accepted N) (W_ref1_AddPath N) (W_ref19_grand N) (W_ref1_Drop N) N) (Λ := L0) (pout := pout_ref19_Comes) (kp := kpL []) mixed (orcOf_ok _ (by simp only [List.mem_cons, List.not_mem_nil, or_false, forall_eq_or_imp, forall_eq]; exact ⟨con_ref1_Old_ok N, con_ref19_off_ok N, con_ref1_Find_ok N, con_ref19_Fresh_ok N, con_ref1_Has_ok N, con_ref19_says_ok N, con_ref1_Hear_ok N, con_ref19_full_ok N, con_ref19_accepted_ok N, con_ref1_AddPath_ok N, con_ref19_grand_ok N, con_ref1_Drop_ok N⟩)) Try.func29 (c := bodyOf Try.f29) (by kernel_rfl) (by kernel_rfl) (of_decide_eq_true (by kernel_rfl)) ((F_ref19_Comes_eq N x).trans hr) (R_ref19_Comes_eq x r)⟩
def as_Picks_Tie : List AS := [.ptr 0 0, .val (.int .i64), .val (.int .i64)]
def bs_Picks_Tie : List BS := [.box 69 T2_]
def pout_Picks_Tie : Pat := ⟨[(0, .ptr 1000000 0), (6, .ptr 600006 0)], [(1000000, .box 69 (.val T2_)), (600006, .box 27 (.val T0_))]⟩
noncomputable def G_Picks_Tie (w_Picks_Num : Int × List Int × Int → Option (Int × List Int × Int)) (w_ref19_New : Int × Int × Int × Int → Option (Int × A0_)) (w_Picks_Over : List Int × Int → Option (Bool × List Int × Int)) (w_ref19_Tick : Int × A0_ → Option (List (M_) × Int × A0_)) (w_Picks_Msg : Int × List Int × Int → Option ((List Int × Int) × M_)) (w_Picks_Path : List Int × Int → Option (List Int × List Int × Int)) (w_ref19_Comes : (Int × A0_) × (M_) × Int → Option (List (M_) × Int × A0_)) (N : Nat) : OrcT := orcOf [conw_Picks_Num w_Picks_Num, conw_ref19_New w_ref19_New, conw_Picks_Over w_Picks_Over, conw_ref19_Tick w_ref19_Tick, conw_Picks_Msg w_Picks_Msg, conw_Picks_Path w_Picks_Path, conw_ref19_Comes w_ref19_Comes]
noncomputable def F_Picks_Tie (w_Picks_Num : Int × List Int × Int → Option (Int × List Int × Int)) (w_ref19_New : Int × Int × Int × Int → Option (Int × A0_)) (w_Picks_Over : List Int × Int → Option (Bool × List Int × Int)) (w_ref19_Tick : Int × A0_ → Option (List (M_) × Int × A0_)) (w_Picks_Msg : Int × List Int × Int → Option ((List Int × Int) × M_)) (w_Picks_Path : List Int × Int → Option (List Int × List Int × Int)) (w_ref19_Comes : (Int × A0_) × (M_) × Int → Option (List (M_) × Int × A0_)) (N : Nat) (x : Int × Int × List Int × Int) : Option ((List Int × Int) × Int × A0_) :=
  (evT (G_Picks_Tie w_Picks_Num w_ref19_New w_Picks_Over w_ref19_Tick w_Picks_Msg w_Picks_Path w_ref19_Comes N) L0 P0 [(3, .loop [] ⟨[(0, .ptr 1000000 0), (6, .ptr 600006 0), (7, .ptr 600007 0), (8, .val (.int .i64))], [(1000000, .box 69 (.val T2_)), (600006, .box 27 (.val T0_)), (600007, .box 27 (.val T0_))]⟩ [(.exit 0, ⟨[(0, .ptr 1000000 0), (6, .ptr 600006 0), (7, .ptr 600007 0)], [(1000000, .box 69 (.val T2_)), (600006, .box 27 (.val T0_)), (600007, .box 27 (.val T0_))]⟩)])]
    [(13, .cut [] [(.normal, ⟨[(0, .ptr 1000000 0), (6, .ptr 600006 0), (7, .ptr 600007 0), (9, .ptr 600009 0)], [(1000000, .box 69 (.val T2_)), (600006, .box 27 (.val T0_)), (600007, .box 27 (.val T0_)), (600009, .box 33 (.val T_))]⟩)]),
    (18, .cut [] [(.normal, ⟨[(0, .ptr 1000000 0), (6, .ptr 600006 0), (7, .ptr 600007 0), (10, .ptr 600010 0)], [(1000000, .box 69 (.val T2_)), (600006, .box 27 (.val T0_)), (600007, .box 27 (.val T0_)), (600010, .box 33 (.val T_))]⟩)])] N 400 (bodyOf Try.f14) ⟨112, slots 0 (argsOf as_Picks_Tie bs_Picks_Tie x), tabU (lbOf as_Picks_Tie bs_Picks_Tie x) [], []⟩).elim (kRet 112 pout_Picks_Tie (kpL [true]) (lbOf as_Picks_Tie bs_Picks_Tie x))
def out_Picks_Tie (y : (List Int × Int) × Int × A0_) : V × List OK × List OK := (valW (.agg T0_) y.2, [.box 69 (cellsW T2_ y.1)], [])
noncomputable def V_Picks_Tie (w_Picks_Num : Int × List Int × Int → Option (Int × List Int × Int)) (w_ref19_New : Int × Int × Int × Int → Option (Int × A0_)) (w_Picks_Over : List Int × Int → Option (Bool × List Int × Int)) (w_ref19_Tick : Int × A0_ → Option (List (M_) × Int × A0_)) (w_Picks_Msg : Int × List Int × Int → Option ((List Int × Int) × M_)) (w_Picks_Path : List Int × Int → Option (List Int × List Int × Int)) (w_ref19_Comes : (Int × A0_) × (M_) × Int → Option (List (M_) × Int × A0_)) (N : Nat) (x : Int × Int × List Int × Int) : Option ((List Int × Int) × Int × A0_) :=
  obind (w_Picks_Num ((5:Int), x.2.2)) fun b => obind (w_Picks_Num ((4:Int), b.2)) fun b_1 => obind (w_ref19_New (x.1, (2:Int), b.1, b_1.1)) fun
    b_2 => obind (loopN N (fun (v : Int × (List Int × Int) × (Int × A0_) × Int × A0_) => cnd (decide (v.1 < x.2.1))
    (obind (w_Picks_Over v.2.1) fun b_3 => cnd (!b_3.1) (obind (w_Picks_Num ((4:Int), b_3.2)) fun b_4 => cnd (decide (b_4.1 = (0:Int))) (obind
    (w_ref19_Tick v.2.2.2) fun b => some (Sum.inl (wr .i64 (v.1 + (1:Int)), b_4.2, v.2.2.1, b.2))) (cnd (decide (b_4.1 = (1:Int))) (obind (w_Picks_Msg (x.1, b_4.2)) fun b_5 => obind (cnd (decide (v.2.2.2.2.2.2.2.2.2.2.2.2.1 ≠ (0:Int))) (cnd (decide (v.2.2.2.2.2.2.2.2.2.2.2.2.1 ≠ x.1)) (obind
    (w_Picks_Num ((2:Int), b_5.1)) fun b_6 => obind (w_Picks_Num ((9:Int), b_6.2)) fun b_7 => obind (w_Picks_Num ((22:Int), b_7.2)) fun b_8 =>
    obind (w_Picks_Path b_8.2) fun b_9 => cnd (decide ((0:Int) ≤ (1:Int)) && decide ((1:Int) ≤ (↑(List.length b_9.1) : Int))) (cnd (decide
    (List.length ([(1:Int)] ++ List.drop (1:Nat) (List.take (List.length b_9.1) b_9.1)) * (8:Nat) ≤ (140737488355328:Nat))) (obind (w_Picks_Num
    ((4:Int), b_9.2)) fun b => some (b.2, v.2.2.1, v.2.2.2, (2:Int), v.2.2.2.2.2.2.2.2.2.2.2.2.1, x.1, wr .i64 ((1:Int) + b_6.1), b_7.1, b_8.1,
    [(1:Int)] ++ List.drop (1:Nat) (List.take (List.length b_9.1) b_9.1), wr .i64 ((1:Int) + b.1), (0:Int), [])) none) none) (some (b_5.1, v.2.2.1,
    v.2.2.2, b_5.2))) (some (b_5.1, v.2.2.1, v.2.2.2, b_5.2))) fun (b : (List Int × Int) × (Int × A0_) × (Int × A0_) × A1_) => obind (w_ref19_Comes (b.2.2.1, b.2.2.2, (1:Int))) fun b_6 => some
    (Sum.inl (wr .i64 (v.1 + (1:Int)), b.1, b.2.1, b_6.2))) (cnd (decide (b_4.1 = (2:Int))) (obind (w_Picks_Msg (x.1, b_4.2)) fun b => obind (cnd
    (decide (v.2.2.2.2.2.2.1 ≠ (0:Int))) (obind (w_Picks_Num ((30:Int), b.1)) fun b => obind (w_Picks_Num ((20:Int), b.2)) fun b_5 => obind
    (w_Picks_Path b_5.2) fun b_6 => obind (w_Picks_Num ((9:Int), b_6.2)) fun b_7 => some (b_7.2, v.2.2.1, v.2.2.2, (5:Int), v.2.2.2.2.2.2.1, x.1,
    v.2.2.2.2.2.2.2.1, b.1, b_5.1, b_6.1, (0:Int), b_7.1, [])) (some (b.1, v.2.2.1, v.2.2.2, b.2))) fun (b : (List Int × Int) × (Int × A0_) × (Int × A0_) × A1_) => obind (w_ref19_Comes (b.2.2.1,
    b.2.2.2, (1:Int))) fun b_5 => some (Sum.inl (wr .i64 (v.1 + (1:Int)), b.1, b.2.1, b_5.2))) (obind (w_Picks_Msg (x.1, b_4.2)) fun b => obind
    (w_ref19_Comes (v.2.2.2, b.2, (1:Int))) fun b_5 => some (Sum.inl (wr .i64 (v.1 + (1:Int)), b.1, v.2.2.1, b_5.2)))))) (some (Sum.inr (b_3.2,
    v.2.2)))) (some (Sum.inr v.2))) ((0:Int), b_1.2, ((0:Int), (0:Int), (0:Int), (0:Int), (0:Int), (0:Int), [], (0:Int), (0:Int), (0:Int), (0:Int),
    (0:Int), []), b_2)) fun (b : (List Int × Int) × (Int × A0_) × Int × A0_) => some (b.1, b.2.2)
theorem FV_Picks_Tie_eq (w_Picks_Num : Int × List Int × Int → Option (Int × List Int × Int)) (w_ref19_New : Int × Int × Int × Int → Option (Int × A0_)) (w_Picks_Over : List Int × Int → Option (Bool × List Int × Int)) (w_ref19_Tick : Int × A0_ → Option (List (M_) × Int × A0_)) (w_Picks_Msg : Int × List Int × Int → Option ((List Int × Int) × M_)) (w_Picks_Path : List Int × Int → Option (List Int × List Int × Int)) (w_ref19_Comes : (Int × A0_) × (M_) × Int → Option (List (M_) × Int × A0_)) (N : Nat) (x : Int × Int × List Int × Int) : F_Picks_Tie w_Picks_Num w_ref19_New w_Picks_Over w_ref19_Tick w_Picks_Msg w_Picks_Path w_ref19_Comes N x = V_Picks_Tie w_Picks_Num w_ref19_New w_Picks_Over w_ref19_Tick w_Picks_Msg w_Picks_Path w_ref19_Comes N x := by kernel_rfl
noncomputable def W_Picks_Tie (N : Nat) (x : Int × Int × List Int × Int) : Option ((List Int × Int) × Int × A0_) := V_Picks_Tie (W_Picks_Num N) (W_ref19_New N) (W_Picks_Over N) (W_ref19_Tick N) (W_Picks_Msg N) (W_Picks_Path N) (W_ref19_Comes N) N x
theorem F_Picks_Tie_eq (N : Nat) (x : Int × Int × List Int × Int) : F_Picks_Tie (W_Picks_Num N) (W_ref19_New N) (W_Picks_Over N) (W_ref19_Tick N) (W_Picks_Msg N) (W_Picks_Path N) (W_ref19_Comes N) N x = W_Picks_Tie N x := (FV_Picks_Tie_eq (W_Picks_Num N) (W_ref19_New N) (W_Picks_Over N) (W_ref19_Tick N) (W_Picks_Msg N) (W_Picks_Path N) (W_ref19_Comes N) N x).trans (by kernel_rfl)
noncomputable def conw_Picks_Tie (w : Int × Int × List Int × Int → Option ((List Int × Int) × Int × A0_)) : Con := ⟨14, as_Picks_Tie, bs_Picks_Tie, (List Int × Int) × Int × Int × Int × Int × Int × Int × List Int × Int × Int × Int × Int × Int × List (Int × Int × Int), w, out_Picks_Tie⟩
noncomputable def con_Picks_Tie (N : Nat) : Con := conw_Picks_Tie (W_Picks_Tie N)
theorem R_Picks_Tie_eq (x : Int × Int × List Int × Int) (y : (List Int × Int) × Int × A0_) : retOf2 P0 Try.f14 (kpL [true]) (lbOf as_Picks_Tie bs_Picks_Tie x) (patS ⟨112, [], [], []⟩ pout_Picks_Tie y) = some (out_Picks_Tie y) := by kernel_rfl
theorem con_Picks_Tie_ok (N : Nat) : Con.ok P0 (con_Picks_Tie N) := ⟨⟨Try.f14, Try.func14, by kernel_rfl, by kernel_rfl⟩, fun (x : Int × Int × List Int × Int) (r : (List Int × Int) × Int × A0_) (hr : W_Picks_Tie N x = some r) =>
  spec2_evT (Γ := G_Picks_Tie (W_Picks_Num N) (W_ref19_New N) (W_Picks_Over N) (W_ref19_Tick N) (W_Picks_Msg N) (W_Picks_Path N) (W_ref19_Comes N) N) (Λ := L0) (pout := pout_Picks_Tie) (kp := kpL [true]) mixed (orcOf_ok _ (by simp only [List.mem_cons, List.not_mem_nil, or_false, forall_eq_or_imp, forall_eq]; exact ⟨con_Picks_Num_ok N, con_ref19_New_ok N, con_Picks_Over_ok N, con_ref19_Tick_ok N, con_Picks_Msg_ok N, con_Picks_Path_ok N, con_ref19_Comes_ok N⟩)) Try.func14 (c := bodyOf Try.f14) (by kernel_rfl) (by kernel_rfl) (of_decide_eq_true (by kernel_rfl)) ((F_Picks_Tie_eq N x).trans hr) (R_Picks_Tie_eq x r)⟩
def as_law19_TieAges : List AS := [.val (.list (.int .u8)), .val (.int .u8)]
def bs_law19_TieAges : List BS := []
def pout_law19_TieAges : Pat := ⟨[(4, .val .bool)], []⟩
noncomputable def G_law19_TieAges (w_law19_begun : Unit → Option (Bool)) (w_Made : List Int → Option (List Int × Int)) (w_Picks_Tie : Int × Int × List Int × Int → Option ((List Int × Int) × Int × A0_)) (w_tie_Fresh : Int × A0_ → Option (Bool)) (w_tie_Tick : Int × A0_ → Option (List (M_) × Int × A0_)) (N : Nat) : OrcT := orcOf [conw_law19_begun w_law19_begun, conw_Made w_Made, conw_Picks_Tie w_Picks_Tie, conw_tie_Fresh w_tie_Fresh, conw_tie_Tick w_tie_Tick]
noncomputable def F_law19_TieAges (w_law19_begun : Unit → Option (Bool)) (w_Made : List Int → Option (List Int × Int)) (w_Picks_Tie : Int × Int × List Int × Int → Option ((List Int × Int) × Int × A0_)) (w_tie_Fresh : Int × A0_ → Option (Bool)) (w_tie_Tick : Int × A0_ → Option (List (M_) × Int × A0_)) (N : Nat) (x : List Int × Int) : Option (Bool) :=
  (evT (G_law19_TieAges w_law19_begun w_Made w_Picks_Tie w_tie_Fresh w_tie_Tick N) L0 P0 [(17, .loop [11] ⟨[(6, .ptr 600006 0), (10, .ptr 600010 0), (12, .val (.int .i64))], [(600006, .box 27 (.val T0_)), (600010, .box 27 (.val T0_))]⟩ [(.exit 2, ⟨[(6, .ptr 600006 0), (10, .ptr 600010 0)], [(600006, .box 27 (.val T0_)), (600010, .box 27 (.val T0_))]⟩), (.ret, ⟨[(4, .val .bool)], []⟩)]),
    (10, .loop [] ⟨[(6, .ptr 600006 0), (7, .val (.int .i64))], [(600006, .box 27 (.val T0_))]⟩ [(.exit 0, ⟨[], []⟩), (.ret, ⟨[(4, .val .bool)], []⟩)])]
    [] N 400 (bodyOf Try.f6) ⟨140, slots 0 (argsOf as_law19_TieAges bs_law19_TieAges x), tabU (lbOf as_law19_TieAges bs_law19_TieAges x) [], []⟩).elim (kRet 140 pout_law19_TieAges (kpL []) (lbOf as_law19_TieAges bs_law19_TieAges x))
def out_law19_TieAges (y : Bool) : V × List OK × List OK := (valW .bool y, [], [])
noncomputable def V_law19_TieAges (w_law19_begun : Unit → Option (Bool)) (w_Made : List Int → Option (List Int × Int)) (w_Picks_Tie : Int × Int × List Int × Int → Option ((List Int × Int) × Int × A0_)) (w_tie_Fresh : Int × A0_ → Option (Bool)) (w_tie_Tick : Int × A0_ → Option (List (M_) × Int × A0_)) (N : Nat) (x : List Int × Int) : Option (Bool) :=
  obind (w_law19_begun ()) fun b => cnd (!b) (some false) (cnd (decide ((200:Int) < (↑(List.length x.1) : Int))) (some true) (obind (w_Made x.1) fun
    b => obind (w_Picks_Tie (wr .i64 ((2:Int) + wr .i64 (Int.tmod x.2 (7:Int))), (40:Int), b)) fun b => obind (w_tie_Fresh b.2) fun b_1 => cnd
    (!b_1) (cnd (decide (b.2.2.2.2.1 = (0:Int))) (some true) (some (decide ((20:Int) < wr .i64 (b.2.2.2.1 - b.2.2.2.2.2.2.2.2.2.1))))) (obind (loopN N
    (fun (v : Int × Int × A0_) => cnd (decide (v.1 ≤
    (21:Int))) (cnd (decide (v.2.2.2.2.1 ≠ (0:Int))) (cnd (decide ((20:Int) < wr .i64 (v.2.2.2.1 - v.2.2.2.2.2.2.2.2.2.1))) (obind (w_tie_Tick v.2)
    fun b => cnd (decide (b.2.2.2.2.1 = (0:Int))) (some (Sum.inr (Sum.inr (decide ((↑(List.length b.2.2.2.2.2.2.2.1) : Int) = (0:Int)))))) (some
    (Sum.inr (Sum.inr false)))) (obind (w_tie_Tick v.2) fun b => obind (loopN N (fun (v : Int × (Int × A0_) × Int × A0_) => cnd (decide (v.1 < (↑(List.length b.1) : Int))) (cnd (decide ((0:Int) ≤ v.1) && decide (v.1 < (↑(List.length b.1) : Int))) (cnd (decide
    (Prod.fst (List.getD b.1 (Int.toNat v.1) ((0:Int), (0:Int), (0:Int), (0:Int), (0:Int), (0:Int), [], (0:Int), (0:Int), [])) = (5:Int))) (cnd (decide
    ((0:Int) ≤ v.1) && decide (v.1 < (↑(List.length b.1) : Int))) (cnd (decide (Prod.fst (Prod.snd (Prod.snd (Prod.snd (Prod.snd (Prod.snd (List.getD
    b.1 (Int.toNat v.1) ((0:Int), (0:Int), (0:Int), (0:Int), (0:Int), (0:Int), [], (0:Int), (0:Int), []))))))) ≠ wr .i64 (v.2.2.2.2.1 -
    v.2.2.2.2.2.2.2.2.2.2.1))) (some (Sum.inr (Sum.inr false))) (cnd (decide ((0:Int) ≤ v.1) && decide (v.1 < (↑(List.length b.1) : Int))) (cnd (decide
    (Prod.fst (List.getD b.1 (Int.toNat v.1) ((0:Int), (0:Int), (0:Int), (0:Int), (0:Int), (0:Int), [], (0:Int), (0:Int), [])) = (4:Int))) (cnd (decide
    ((0:Int) ≤ v.1) && decide (v.1 < (↑(List.length b.1) : Int))) (cnd (decide (Prod.fst (Prod.snd (Prod.snd (List.getD b.1 (Int.toNat v.1) ((0:Int),
    (0:Int), (0:Int), (0:Int), (0:Int), (0:Int), [], (0:Int), (0:Int), [])))) ≠ v.2.2.2.2.2.1)) (some (Sum.inr (Sum.inr false))) (some (Sum.inl (wr .i64
    (v.1 + (1:Int)), v.2)))) none) (some (Sum.inl (wr .i64 (v.1 + (1:Int)), v.2)))) none)) none) (cnd (decide ((0:Int) ≤ v.1) && decide (v.1 <
    (↑(List.length b.1) : Int))) (cnd (decide (Prod.fst (List.getD b.1 (Int.toNat v.1) ((0:Int), (0:Int), (0:Int), (0:Int), (0:Int), (0:Int), [],
    (0:Int), (0:Int), [])) = (4:Int))) (cnd (decide ((0:Int) ≤ v.1) && decide (v.1 < (↑(List.length b.1) : Int))) (cnd (decide (Prod.fst (Prod.snd
    (Prod.snd (List.getD b.1 (Int.toNat v.1) ((0:Int), (0:Int), (0:Int), (0:Int), (0:Int), (0:Int), [], (0:Int), (0:Int), [])))) ≠ v.2.2.2.2.2.1)) (some
    (Sum.inr (Sum.inr false))) (some (Sum.inl (wr .i64 (v.1 + (1:Int)), v.2)))) none) (some (Sum.inl (wr .i64 (v.1 + (1:Int)), v.2)))) none)) none)
    (some (Sum.inr (Sum.inl v.2)))) ((0:Int), v.2, b.2)) fun (b : (Int × A0_) × Int × Int × Int × Int × Int × Int × List Int × Int × Int × Int × Int × Int × List (Int × Int × Int) ⊕ Bool) => selim (fun (b :
    (Int × A0_) × Int × A0_) => cnd (decide (b.2.2.2.2.2.2.2.2.2.1 ≠ b.1.2.2.2.2.2.2.2.2.1)) (some (Sum.inr (Sum.inr
    false))) (cnd (decide (b.2.2.2.1 ≠ wr .i64 (b.1.2.2.1 + (1:Int)))) (some (Sum.inr (Sum.inr false))) (cnd (decide (b.2.2.2.2.1 = (0:Int))) (some
    (Sum.inr (Sum.inr (decide ((20:Int) < wr .i64 (b.2.2.2.1 - b.1.2.2.2.2.2.2.2.2.1)))))) (some (Sum.inl (wr .i64 (v.1 + (1:Int)), b.2)))))) (fun (c :
    Bool) => some (Sum.inr (Sum.inr c))) b)) (obind (w_tie_Tick v.2) fun b => obind (loopN N (fun (v : Int × (Int × A0_) × Int × A0_) => cnd (decide (v.1 < (↑(List.length b.1) : Int))) (cnd (decide ((0:Int) ≤ v.1) && decide (v.1 < (↑(List.length b.1) : Int))) (cnd
    (decide (Prod.fst (List.getD b.1 (Int.toNat v.1) ((0:Int), (0:Int), (0:Int), (0:Int), (0:Int), (0:Int), [], (0:Int), (0:Int), [])) = (5:Int))) (cnd
    (decide ((0:Int) ≤ v.1) && decide (v.1 < (↑(List.length b.1) : Int))) (cnd (decide (Prod.fst (Prod.snd (Prod.snd (Prod.snd (Prod.snd (Prod.snd
    (List.getD b.1 (Int.toNat v.1) ((0:Int), (0:Int), (0:Int), (0:Int), (0:Int), (0:Int), [], (0:Int), (0:Int), []))))))) ≠ wr .i64 (v.2.2.2.2.1 -
    v.2.2.2.2.2.2.2.2.2.2.1))) (some (Sum.inr (Sum.inr false))) (cnd (decide ((0:Int) ≤ v.1) && decide (v.1 < (↑(List.length b.1) : Int))) (cnd (decide
    (Prod.fst (List.getD b.1 (Int.toNat v.1) ((0:Int), (0:Int), (0:Int), (0:Int), (0:Int), (0:Int), [], (0:Int), (0:Int), [])) = (4:Int))) (cnd (decide
    ((0:Int) ≤ v.1) && decide (v.1 < (↑(List.length b.1) : Int))) (cnd (decide (Prod.fst (Prod.snd (Prod.snd (List.getD b.1 (Int.toNat v.1) ((0:Int),
    (0:Int), (0:Int), (0:Int), (0:Int), (0:Int), [], (0:Int), (0:Int), [])))) ≠ v.2.2.2.2.2.1)) (some (Sum.inr (Sum.inr false))) (some (Sum.inl (wr .i64
    (v.1 + (1:Int)), v.2)))) none) (some (Sum.inl (wr .i64 (v.1 + (1:Int)), v.2)))) none)) none) (cnd (decide ((0:Int) ≤ v.1) && decide (v.1 <
    (↑(List.length b.1) : Int))) (cnd (decide (Prod.fst (List.getD b.1 (Int.toNat v.1) ((0:Int), (0:Int), (0:Int), (0:Int), (0:Int), (0:Int), [],
    (0:Int), (0:Int), [])) = (4:Int))) (cnd (decide ((0:Int) ≤ v.1) && decide (v.1 < (↑(List.length b.1) : Int))) (cnd (decide (Prod.fst (Prod.snd
    (Prod.snd (List.getD b.1 (Int.toNat v.1) ((0:Int), (0:Int), (0:Int), (0:Int), (0:Int), (0:Int), [], (0:Int), (0:Int), [])))) ≠ v.2.2.2.2.2.1)) (some
    (Sum.inr (Sum.inr false))) (some (Sum.inl (wr .i64 (v.1 + (1:Int)), v.2)))) none) (some (Sum.inl (wr .i64 (v.1 + (1:Int)), v.2)))) none)) none)
    (some (Sum.inr (Sum.inl v.2)))) ((0:Int), v.2, b.2)) fun (b : (Int × A0_) × Int × Int × Int × Int × Int × Int × List Int × Int × Int × Int × Int × Int × List (Int × Int × Int) ⊕ Bool) => selim (fun (b :
    (Int × A0_) × Int × A0_) => cnd (decide (b.2.2.2.2.2.2.2.2.2.1 ≠ b.1.2.2.2.2.2.2.2.2.1)) (some (Sum.inr (Sum.inr
    false))) (cnd (decide (b.2.2.2.1 ≠ wr .i64 (b.1.2.2.1 + (1:Int)))) (some (Sum.inr (Sum.inr false))) (cnd (decide (b.2.2.2.2.1 = (0:Int))) (some
    (Sum.inr (Sum.inr (decide ((20:Int) < wr .i64 (b.2.2.2.1 - b.1.2.2.2.2.2.2.2.2.1)))))) (some (Sum.inl (wr .i64 (v.1 + (1:Int)), b.2)))))) (fun (c :
    Bool) => some (Sum.inr (Sum.inr c))) b)) (some (Sum.inr (Sum.inl ())))) ((0:Int), b.2)) fun (b : PUnit ⊕ Bool) => selim (fun (b : PUnit) => some
    false) (fun (c : Bool) => some c) b)))
theorem FV_law19_TieAges_eq (w_law19_begun : Unit → Option (Bool)) (w_Made : List Int → Option (List Int × Int)) (w_Picks_Tie : Int × Int × List Int × Int → Option ((List Int × Int) × Int × A0_)) (w_tie_Fresh : Int × A0_ → Option (Bool)) (w_tie_Tick : Int × A0_ → Option (List (M_) × Int × A0_)) (N : Nat) (x : List Int × Int) : F_law19_TieAges w_law19_begun w_Made w_Picks_Tie w_tie_Fresh w_tie_Tick N x = V_law19_TieAges w_law19_begun w_Made w_Picks_Tie w_tie_Fresh w_tie_Tick N x := by kernel_rfl
noncomputable def W_law19_TieAges (N : Nat) (x : List Int × Int) : Option (Bool) := V_law19_TieAges (W_law19_begun N) (W_Made N) (W_Picks_Tie N) (W_tie_Fresh N) (W_tie_Tick N) N x
theorem F_law19_TieAges_eq (N : Nat) (x : List Int × Int) : F_law19_TieAges (W_law19_begun N) (W_Made N) (W_Picks_Tie N) (W_tie_Fresh N) (W_tie_Tick N) N x = W_law19_TieAges N x := (FV_law19_TieAges_eq (W_law19_begun N) (W_Made N) (W_Picks_Tie N) (W_tie_Fresh N) (W_tie_Tick N) N x).trans (by kernel_rfl)
noncomputable def conw_law19_TieAges (w : List Int × Int → Option (Bool)) : Con := ⟨6, as_law19_TieAges, bs_law19_TieAges, Bool, w, out_law19_TieAges⟩
noncomputable def con_law19_TieAges (N : Nat) : Con := conw_law19_TieAges (W_law19_TieAges N)
theorem R_law19_TieAges_eq (x : List Int × Int) (y : Bool) : retOf2 P0 Try.f6 (kpL []) (lbOf as_law19_TieAges bs_law19_TieAges x) (patS ⟨140, [], [], []⟩ pout_law19_TieAges y) = some (out_law19_TieAges y) := by kernel_rfl
theorem con_law19_TieAges_ok (N : Nat) : Con.ok P0 (con_law19_TieAges N) := ⟨⟨Try.f6, Try.func6, by kernel_rfl, by kernel_rfl⟩, fun (x : List Int × Int) (r : Bool) (hr : W_law19_TieAges N x = some r) =>
  spec2_evT (Γ := G_law19_TieAges (W_law19_begun N) (W_Made N) (W_Picks_Tie N) (W_tie_Fresh N) (W_tie_Tick N) N) (Λ := L0) (pout := pout_law19_TieAges) (kp := kpL []) mixed (orcOf_ok _ (by simp only [List.mem_cons, List.not_mem_nil, or_false, forall_eq_or_imp, forall_eq]; exact ⟨con_law19_begun_ok N, con_Made_ok N, con_Picks_Tie_ok N, con_tie_Fresh_ok N, con_tie_Tick_ok N⟩)) Try.func6 (c := bodyOf Try.f6) (by kernel_rfl) (by kernel_rfl) (of_decide_eq_true (by kernel_rfl)) ((F_law19_TieAges_eq N x).trans hr) (R_law19_TieAges_eq x r)⟩
end Go.Proofs.Ythpfomhimmppiaa.tieAgesX
