/- TieAll: for all arguments the call returns true. The law is brought to a function of Lean's own (W_..) by the machine of the texts beside it, and that is reckoned; no condition. -/
import Derived.Test.YthpfomhimmppiaaTieAllW0
namespace Go.Proofs.Ythpfomhimmppiaa.tieAllX
open Go.Abs Go.RowKit Go.ChangeShapes Go.WideShapes Go.ChangeAt
set_option maxRecDepth 100000
set_option linter.unusedVariables false
set_option linter.unusedSimpArgs false
def as_ref1_Find : List AS := [.val (.list T1_), .val (.int .i64)]
def bs_ref1_Find : List BS := []
def pout_ref1_Find : Pat := ⟨[(4, .ptr 600004 0), (5, .val .bool)], [(600004, .box 73 (.val T3_))]⟩
noncomputable def G_ref1_Find  (N : Nat) : OrcT := orcOf []
noncomputable def F_ref1_Find  (N : Nat) (x : A3_) : Option (Bool × Int × Int × Int) :=
  (evT (G_ref1_Find  N) L0 P0 [(2, .loop [] ⟨[(4, .ptr 600004 0), (6, .val (.int .i64))], [(600004, .box 73 (.val T3_))]⟩ [(.exit 0, ⟨[(4, .ptr 600004 0)], [(600004, .box 73 (.val T3_))]⟩), (.ret, ⟨[(4, .ptr 600004 0), (5, .val .bool)], [(600004, .box 73 (.val T3_))]⟩)])]
    [] N 400 (bodyOf Try.f58) ⟨25, slots 0 (argsOf as_ref1_Find bs_ref1_Find x), tabU (lbOf as_ref1_Find bs_ref1_Find x) [], []⟩).elim (kRet 25 pout_ref1_Find (kpL []) (lbOf as_ref1_Find bs_ref1_Find x))
def out_ref1_Find (y : Bool × Int × Int × Int) : V × List OK × List OK := (.tup [valW T1_ y.2, valW .bool y.1], [], [])
noncomputable def V_ref1_Find  (N : Nat) (x : A3_) : Option (Bool × Int × Int × Int) :=
  obind (loopN N (fun (v : Int × Int × Int × Int) => cnd (decide (v.1 < (↑(List.length x.1) : Int))) (cnd (decide ((0:Int) ≤ v.1) && decide (v.1 <
    (↑(List.length x.1) : Int))) (cnd (decide (Prod.fst (List.getD x.1 (Int.toNat v.1) ((0:Int), (0:Int), (0:Int))) = x.2)) (cnd (decide ((0:Int) ≤ v.1)
    && decide (v.1 < (↑(List.length x.1) : Int))) (some (Sum.inr (Sum.inr (true, Prod.fst (List.getD x.1 (Int.toNat v.1) ((0:Int), (0:Int), (0:Int))),
    Prod.fst (Prod.snd (List.getD x.1 (Int.toNat v.1) ((0:Int), (0:Int), (0:Int)))), Prod.snd (Prod.snd (List.getD x.1 (Int.toNat v.1) ((0:Int),
    (0:Int), (0:Int)))))))) none) (some (Sum.inl (wr .i64 (v.1 + (1:Int)), v.2)))) none) (some (Sum.inr (Sum.inl v.2)))) ((0:Int), (0:Int), (0:Int),
    (0:Int))) fun (b : Int × Int × Int ⊕ Bool × Int × Int × Int) => selim (fun (b : Int × Int × Int) => some (false, (0:Int), (0:Int), (0:Int))) (fun (c
    : Bool × Int × Int × Int) => some c) b
theorem FV_ref1_Find_eq  (N : Nat) (x : A3_) : F_ref1_Find  N x = V_ref1_Find  N x := by kernel_rfl
noncomputable def W_ref1_Find (N : Nat) (x : A3_) : Option (Bool × Int × Int × Int) := V_ref1_Find  N x
theorem F_ref1_Find_eq (N : Nat) (x : A3_) : F_ref1_Find  N x = W_ref1_Find N x := (FV_ref1_Find_eq  N x).trans (by kernel_rfl)
noncomputable def conw_ref1_Find (w : A3_ → Option (Bool × Int × Int × Int)) : Con := ⟨58, as_ref1_Find, bs_ref1_Find, Bool × Int × Int × Int, w, out_ref1_Find⟩
noncomputable def con_ref1_Find (N : Nat) : Con := conw_ref1_Find (W_ref1_Find N)
theorem R_ref1_Find_eq (x : A3_) (y : Bool × Int × Int × Int) : retOf2 P0 Try.f58 (kpL []) (lbOf as_ref1_Find bs_ref1_Find x) (patS ⟨25, [], [], []⟩ pout_ref1_Find y) = some (out_ref1_Find y) := by kernel_rfl
theorem con_ref1_Find_ok (N : Nat) : Con.ok P0 (con_ref1_Find N) := ⟨⟨Try.f58, Try.func58, by kernel_rfl, by kernel_rfl⟩, fun (x : A3_) (r : Bool × Int × Int × Int) (hr : W_ref1_Find N x = some r) =>
  spec2_evT (Γ := G_ref1_Find N) (Λ := L0) (pout := pout_ref1_Find) (kp := kpL []) mixed (orcOf_ok [] (by simp)) Try.func58 (c := bodyOf Try.f58) (by kernel_rfl) (by kernel_rfl) (of_decide_eq_true (by kernel_rfl)) ((F_ref1_Find_eq N x).trans hr) (R_ref1_Find_eq x r)⟩
def as_ref1_Old : List AS := [.val (.list T1_), .val (.int .i64), .val (.int .i64)]
def bs_ref1_Old : List BS := []
def pout_ref1_Old : Pat := ⟨[(6, .val .bool)], []⟩
noncomputable def G_ref1_Old (w_ref1_Find : A3_ → Option (Bool × Int × Int × Int)) (N : Nat) : OrcT := orcOf [conw_ref1_Find w_ref1_Find]
noncomputable def F_ref1_Old (w_ref1_Find : A3_ → Option (Bool × Int × Int × Int)) (N : Nat) (x : List (Int × Int × Int) × Int × Int) : Option (Bool) :=
  (evT (G_ref1_Old w_ref1_Find N) L0 P0 []
    [] N 400 (bodyOf Try.f57) ⟨22, slots 0 (argsOf as_ref1_Old bs_ref1_Old x), tabU (lbOf as_ref1_Old bs_ref1_Old x) [], []⟩).elim (kRet 22 pout_ref1_Old (kpL []) (lbOf as_ref1_Old bs_ref1_Old x))
def out_ref1_Old (y : Bool) : V × List OK × List OK := (valW .bool y, [], [])
noncomputable def V_ref1_Old (w_ref1_Find : A3_ → Option (Bool × Int × Int × Int)) (N : Nat) (x : List (Int × Int × Int) × Int × Int) : Option (Bool) :=
  obind (w_ref1_Find (x.1, x.2.1)) fun b => cnd b.1 (some (decide (x.2.2 < b.2.2.1))) (some false)
theorem FV_ref1_Old_eq (w_ref1_Find : A3_ → Option (Bool × Int × Int × Int)) (N : Nat) (x : List (Int × Int × Int) × Int × Int) : F_ref1_Old w_ref1_Find N x = V_ref1_Old w_ref1_Find N x := by kernel_rfl
noncomputable def W_ref1_Old (N : Nat) (x : List (Int × Int × Int) × Int × Int) : Option (Bool) := V_ref1_Old (W_ref1_Find N) N x
theorem F_ref1_Old_eq (N : Nat) (x : List (Int × Int × Int) × Int × Int) : F_ref1_Old (W_ref1_Find N) N x = W_ref1_Old N x := (FV_ref1_Old_eq (W_ref1_Find N) N x).trans (by kernel_rfl)
noncomputable def conw_ref1_Old (w : List (Int × Int × Int) × Int × Int → Option (Bool)) : Con := ⟨57, as_ref1_Old, bs_ref1_Old, Bool, w, out_ref1_Old⟩
noncomputable def con_ref1_Old (N : Nat) : Con := conw_ref1_Old (W_ref1_Old N)
theorem R_ref1_Old_eq (x : List (Int × Int × Int) × Int × Int) (y : Bool) : retOf2 P0 Try.f57 (kpL []) (lbOf as_ref1_Old bs_ref1_Old x) (patS ⟨22, [], [], []⟩ pout_ref1_Old y) = some (out_ref1_Old y) := by kernel_rfl
theorem con_ref1_Old_ok (N : Nat) : Con.ok P0 (con_ref1_Old N) := ⟨⟨Try.f57, Try.func57, by kernel_rfl, by kernel_rfl⟩, fun (x : List (Int × Int × Int) × Int × Int) (r : Bool) (hr : W_ref1_Old N x = some r) =>
  spec2_evT (Γ := G_ref1_Old (W_ref1_Find N) N) (Λ := L0) (pout := pout_ref1_Old) (kp := kpL []) mixed (orcOf_ok _ (by simp only [List.mem_cons, List.not_mem_nil, or_false, forall_eq_or_imp, forall_eq]; exact con_ref1_Find_ok N)) Try.func57 (c := bodyOf Try.f57) (by kernel_rfl) (by kernel_rfl) (of_decide_eq_true (by kernel_rfl)) ((F_ref1_Old_eq N x).trans hr) (R_ref1_Old_eq x r)⟩
def as_ref1_Drop : List AS := [.val (.list T1_), .val (.int .i64)]
def bs_ref1_Drop : List BS := []
def pout_ref1_Drop : Pat := ⟨[(4, .acc 700005)], [(700005, .nrow 73 T1_ false true)]⟩
noncomputable def G_ref1_Drop  (N : Nat) : OrcT := orcOf []
noncomputable def F_ref1_Drop  (N : Nat) (x : A3_) : Option (List (Int × Int × Int)) :=
  (evT (G_ref1_Drop  N) L0 P0 [(3, .loop [] ⟨[(5, .acc 700005), (6, .val (.int .i64))], [(700005, .nrow 73 T1_ false true)]⟩ [(.exit 0, ⟨[(5, .acc 700005)], [(700005, .nrow 73 T1_ false true)]⟩)])]
    [] N 400 (bodyOf Try.f62) ⟨28, slots 0 (argsOf as_ref1_Drop bs_ref1_Drop x), tabU (lbOf as_ref1_Drop bs_ref1_Drop x) [], []⟩).elim (kRet 28 pout_ref1_Drop (kpL []) (lbOf as_ref1_Drop bs_ref1_Drop x))
def out_ref1_Drop (y : List (Int × Int × Int)) : V × List OK × List OK := (.acc 2000000 0, [], [.nrow 73 false true ⟨T1_, y⟩])
noncomputable def V_ref1_Drop  (N : Nat) (x : A3_) : Option (List (Int × Int × Int)) :=
  obind (loopN N (fun (v : Int × List (Int × Int × Int)) => cnd (decide (v.1 < (↑(List.length x.1) : Int))) (cnd (decide ((0:Int) ≤ v.1) && decide (v.1
    < (↑(List.length x.1) : Int))) (cnd (decide (Prod.fst (List.getD x.1 (Int.toNat v.1) ((0:Int), (0:Int), (0:Int))) ≠ x.2)) (cnd (decide ((0:Int) ≤
    v.1) && decide (v.1 < (↑(List.length x.1) : Int))) (cnd (decide ((List.length v.2 + List.length [(Prod.fst (List.getD x.1 (Int.toNat v.1) ((0:Int),
    (0:Int), (0:Int))), Prod.fst (Prod.snd (List.getD x.1 (Int.toNat v.1) ((0:Int), (0:Int), (0:Int)))), Prod.snd (Prod.snd (List.getD x.1 (Int.toNat
    v.1) ((0:Int), (0:Int), (0:Int)))))]) * (24:Nat) ≤ (140737488355328:Nat))) (some (Sum.inl (wr .i64 (v.1 + (1:Int)), v.2 ++ [(Prod.fst (List.getD x.1
    (Int.toNat v.1) ((0:Int), (0:Int), (0:Int))), Prod.fst (Prod.snd (List.getD x.1 (Int.toNat v.1) ((0:Int), (0:Int), (0:Int)))), Prod.snd (Prod.snd
    (List.getD x.1 (Int.toNat v.1) ((0:Int), (0:Int), (0:Int)))))]))) none) none) (some (Sum.inl (wr .i64 (v.1 + (1:Int)), v.2)))) none) (some (Sum.inr
    v.2))) ((0:Int), [])) fun (b : List (Int × Int × Int)) => some b
theorem FV_ref1_Drop_eq  (N : Nat) (x : A3_) : F_ref1_Drop  N x = V_ref1_Drop  N x := by kernel_rfl
noncomputable def W_ref1_Drop (N : Nat) (x : A3_) : Option (List (Int × Int × Int)) := V_ref1_Drop  N x
theorem F_ref1_Drop_eq (N : Nat) (x : A3_) : F_ref1_Drop  N x = W_ref1_Drop N x := (FV_ref1_Drop_eq  N x).trans (by kernel_rfl)
noncomputable def conw_ref1_Drop (w : A3_ → Option (List (Int × Int × Int))) : Con := ⟨62, as_ref1_Drop, bs_ref1_Drop, List (Int × Int × Int), w, out_ref1_Drop⟩
noncomputable def con_ref1_Drop (N : Nat) : Con := conw_ref1_Drop (W_ref1_Drop N)
theorem R_ref1_Drop_eq (x : A3_) (y : List (Int × Int × Int)) : retOf2 P0 Try.f62 (kpL []) (lbOf as_ref1_Drop bs_ref1_Drop x) (patS ⟨28, [], [], []⟩ pout_ref1_Drop y) = some (out_ref1_Drop y) := by kernel_rfl
theorem con_ref1_Drop_ok (N : Nat) : Con.ok P0 (con_ref1_Drop N) := ⟨⟨Try.f62, Try.func62, by kernel_rfl, by kernel_rfl⟩, fun (x : A3_) (r : List (Int × Int × Int)) (hr : W_ref1_Drop N x = some r) =>
  spec2_evT (Γ := G_ref1_Drop N) (Λ := L0) (pout := pout_ref1_Drop) (kp := kpL []) mixed (orcOf_ok [] (by simp)) Try.func62 (c := bodyOf Try.f62) (by kernel_rfl) (by kernel_rfl) (of_decide_eq_true (by kernel_rfl)) ((F_ref1_Drop_eq N x).trans hr) (R_ref1_Drop_eq x r)⟩
def as_ref1_Hear : List AS := [.val (.list T1_), .val T1_]
def bs_ref1_Hear : List BS := []
def pout_ref1_Hear : Pat := ⟨[(4, .val (.list T1_)), (5, .val .bool)], []⟩
noncomputable def G_ref1_Hear (w_ref1_Old : List (Int × Int × Int) × Int × Int → Option (Bool)) (w_ref1_Drop : A3_ → Option (List (Int × Int × Int))) (N : Nat) : OrcT := orcOf [conw_ref1_Old w_ref1_Old, conw_ref1_Drop w_ref1_Drop]
noncomputable def F_ref1_Hear (w_ref1_Old : List (Int × Int × Int) × Int × Int → Option (Bool)) (w_ref1_Drop : A3_ → Option (List (Int × Int × Int))) (N : Nat) (x : List (Int × Int × Int) × Int × Int × Int) : Option A2_ :=
  (evT (G_ref1_Hear w_ref1_Old w_ref1_Drop N) L0 P0 [(5, .loop [] ⟨[(3, .ptr 600003 0), (6, .acc 700018), (7, .val (.int .i64))], [(600003, .box 73 (.val T3_)), (700018, .nrow 73 T1_ true true)]⟩ [(.exit 0, ⟨[(3, .ptr 600003 0), (6, .acc 700018)], [(600003, .box 73 (.val T3_)), (700018, .nrow 73 T1_ true true)]⟩), (.ret, ⟨[(4, .val (.list T1_)), (5, .val .bool)], []⟩)])]
    [] N 400 (bodyOf Try.f59) ⟨49, slots 0 (argsOf as_ref1_Hear bs_ref1_Hear x), tabU (lbOf as_ref1_Hear bs_ref1_Hear x) [], []⟩).elim (kRet 49 pout_ref1_Hear (kpL []) (lbOf as_ref1_Hear bs_ref1_Hear x))
def out_ref1_Hear (y : A2_) : V × List OK × List OK := (.tup [valW (.list T1_) y.1, valW .bool y.2], [], [])
noncomputable def V_ref1_Hear (w_ref1_Old : List (Int × Int × Int) × Int × Int → Option (Bool)) (w_ref1_Drop : A3_ → Option (List (Int × Int × Int))) (N : Nat) (x : List (Int × Int × Int) × Int × Int × Int) : Option A2_ :=
  obind (w_ref1_Old (x.1, x.2.1, x.2.2.1)) fun b => cnd b (some (x.1, false)) (obind (w_ref1_Drop (x.1, x.2.1)) fun b => obind (loopN N (fun (v :
    Int × (Int × Int × Int) × List (Int × Int × Int)) => cnd (decide (v.1 < (↑(List.length v.2.2) : Int))) (cnd (decide ((0:Int) ≤ v.1) && decide (v.1 <
    (↑(List.length v.2.2) : Int))) (cnd (decide (v.2.1.1 < Prod.fst (List.getD v.2.2 (Int.toNat v.1) ((0:Int), (0:Int), (0:Int))))) (cnd (decide
    (Option.getD none (0:Int) ≤ v.1)) (cnd (decide ((↑(0:Nat) : Int) + v.1 ≤ (↑(List.length v.2.2) : Int))) (cnd (decide (List.length (List.drop
    ((0:Nat) + Prod.fst (Prod.snd (cutT (0:Nat) (List.length v.2.2) (List.length v.2.2) none (some v.1)))) (List.take ((0:Nat) + Prod.fst (Prod.snd
    (cutT (0:Nat) (List.length v.2.2) (List.length v.2.2) none (some v.1))) + (Prod.snd (Prod.snd (cutT (0:Nat) (List.length v.2.2) (List.length v.2.2)
    none (some v.1))) - Prod.fst (Prod.snd (cutT (0:Nat) (List.length v.2.2) (List.length v.2.2) none (some v.1))))) v.2.2)) * (24:Nat) ≤
    (140737488355328:Nat))) (cnd (decide ((List.length (List.drop ((0:Nat) + Prod.fst (Prod.snd (cutT (0:Nat) (List.length v.2.2) (List.length v.2.2)
    none (some v.1)))) (List.take ((0:Nat) + Prod.fst (Prod.snd (cutT (0:Nat) (List.length v.2.2) (List.length v.2.2) none (some v.1))) + (Prod.snd
    (Prod.snd (cutT (0:Nat) (List.length v.2.2) (List.length v.2.2) none (some v.1))) - Prod.fst (Prod.snd (cutT (0:Nat) (List.length v.2.2)
    (List.length v.2.2) none (some v.1))))) v.2.2)) + List.length [v.2.1]) * (24:Nat) ≤ (140737488355328:Nat))) (cnd (decide ((0:Int) ≤ Option.getD
    (some v.1) (0:Int))) (cnd (decide (Option.getD (some v.1) (0:Int) ≤ (↑(List.length v.2.2) : Int))) (cnd (decide ((List.length (List.drop ((0:Nat) +
    Prod.fst (Prod.snd (cutT (0:Nat) (List.length v.2.2) (List.length v.2.2) none (some v.1)))) (List.take ((0:Nat) + Prod.fst (Prod.snd (cutT (0:Nat)
    (List.length v.2.2) (List.length v.2.2) none (some v.1))) + (Prod.snd (Prod.snd (cutT (0:Nat) (List.length v.2.2) (List.length v.2.2) none (some
    v.1))) - Prod.fst (Prod.snd (cutT (0:Nat) (List.length v.2.2) (List.length v.2.2) none (some v.1))))) v.2.2) ++ [v.2.1]) + List.length (List.drop
    ((0:Nat) + Prod.fst (Prod.snd (cutT (0:Nat) (List.length v.2.2) (List.length v.2.2) (some v.1) none))) (List.take ((0:Nat) + Prod.fst (Prod.snd
    (cutT (0:Nat) (List.length v.2.2) (List.length v.2.2) (some v.1) none)) + (Prod.snd (Prod.snd (cutT (0:Nat) (List.length v.2.2) (List.length v.2.2)
    (some v.1) none)) - Prod.fst (Prod.snd (cutT (0:Nat) (List.length v.2.2) (List.length v.2.2) (some v.1) none)))) v.2.2))) * (24:Nat) ≤
    (140737488355328:Nat))) (some (Sum.inr (Sum.inr (List.drop ((0:Nat) + Prod.fst (Prod.snd (cutT (0:Nat) (List.length v.2.2) (List.length v.2.2) none
    (some v.1)))) (List.take ((0:Nat) + Prod.fst (Prod.snd (cutT (0:Nat) (List.length v.2.2) (List.length v.2.2) none (some v.1))) + (Prod.snd (Prod.snd
    (cutT (0:Nat) (List.length v.2.2) (List.length v.2.2) none (some v.1))) - Prod.fst (Prod.snd (cutT (0:Nat) (List.length v.2.2) (List.length v.2.2)
    none (some v.1))))) v.2.2) ++ [v.2.1] ++ List.drop ((0:Nat) + Prod.fst (Prod.snd (cutT (0:Nat) (List.length v.2.2) (List.length v.2.2) (some v.1)
    none))) (List.take ((0:Nat) + Prod.fst (Prod.snd (cutT (0:Nat) (List.length v.2.2) (List.length v.2.2) (some v.1) none)) + (Prod.snd (Prod.snd (cutT
    (0:Nat) (List.length v.2.2) (List.length v.2.2) (some v.1) none)) - Prod.fst (Prod.snd (cutT (0:Nat) (List.length v.2.2) (List.length v.2.2) (some
    v.1) none)))) v.2.2), true)))) none) none) none) none) none) none) none) (some (Sum.inl (wr .i64 (v.1 + (1:Int)), v.2)))) none) (some (Sum.inr
    (Sum.inl v.2)))) ((0:Int), x.2, b)) fun (b : (Int × Int × Int) × List (Int × Int × Int) ⊕ List (Int × Int × Int) × Bool) => selim (fun (b : (Int × Int × Int) × List (Int × Int × Int)) => cnd (decide ((List.length b.2 + List.length [b.1]) * (24:Nat) ≤ (140737488355328:Nat))) (some (b.2 ++ [b.1],
    true)) none) (fun (c : A2_) => some c) b)
theorem FV_ref1_Hear_eq (w_ref1_Old : List (Int × Int × Int) × Int × Int → Option (Bool)) (w_ref1_Drop : A3_ → Option (List (Int × Int × Int))) (N : Nat) (x : List (Int × Int × Int) × Int × Int × Int) : F_ref1_Hear w_ref1_Old w_ref1_Drop N x = V_ref1_Hear w_ref1_Old w_ref1_Drop N x := by kernel_rfl
noncomputable def W_ref1_Hear (N : Nat) (x : List (Int × Int × Int) × Int × Int × Int) : Option A2_ := V_ref1_Hear (W_ref1_Old N) (W_ref1_Drop N) N x
theorem F_ref1_Hear_eq (N : Nat) (x : List (Int × Int × Int) × Int × Int × Int) : F_ref1_Hear (W_ref1_Old N) (W_ref1_Drop N) N x = W_ref1_Hear N x := (FV_ref1_Hear_eq (W_ref1_Old N) (W_ref1_Drop N) N x).trans (by kernel_rfl)
noncomputable def conw_ref1_Hear (w : List (Int × Int × Int) × Int × Int × Int → Option A2_) : Con := ⟨59, as_ref1_Hear, bs_ref1_Hear, List (Int × Int × Int) × Bool, w, out_ref1_Hear⟩
noncomputable def con_ref1_Hear (N : Nat) : Con := conw_ref1_Hear (W_ref1_Hear N)
theorem R_ref1_Hear_eq (x : List (Int × Int × Int) × Int × Int × Int) (y : A2_) : retOf2 P0 Try.f59 (kpL []) (lbOf as_ref1_Hear bs_ref1_Hear x) (patS ⟨49, [], [], []⟩ pout_ref1_Hear y) = some (out_ref1_Hear y) := by kernel_rfl
theorem con_ref1_Hear_ok (N : Nat) : Con.ok P0 (con_ref1_Hear N) := ⟨⟨Try.f59, Try.func59, by kernel_rfl, by kernel_rfl⟩, fun (x : List (Int × Int × Int) × Int × Int × Int) (r : A2_) (hr : W_ref1_Hear N x = some r) =>
  spec2_evT (Γ := G_ref1_Hear (W_ref1_Old N) (W_ref1_Drop N) N) (Λ := L0) (pout := pout_ref1_Hear) (kp := kpL []) mixed (orcOf_ok _ (by simp only [List.mem_cons, List.not_mem_nil, or_false, forall_eq_or_imp, forall_eq]; exact ⟨con_ref1_Old_ok N, con_ref1_Drop_ok N⟩)) Try.func59 (c := bodyOf Try.f59) (by kernel_rfl) (by kernel_rfl) (of_decide_eq_true (by kernel_rfl)) ((F_ref1_Hear_eq N x).trans hr) (R_ref1_Hear_eq x r)⟩
def as_ref1_Grand : List AS := [.val (.list (.int .i64))]
def bs_ref1_Grand : List BS := []
def pout_ref1_Grand : Pat := ⟨[(2, .val (.int .i64))], []⟩
noncomputable def G_ref1_Grand  (N : Nat) : OrcT := orcOf []
noncomputable def F_ref1_Grand  (N : Nat) (x : List Int) : Option (Int) :=
  (evT (G_ref1_Grand  N) L0 P0 []
    [] N 400 (bodyOf Try.f77) ⟨12, slots 0 (argsOf as_ref1_Grand bs_ref1_Grand x), tabU (lbOf as_ref1_Grand bs_ref1_Grand x) [], []⟩).elim (kRet 12 pout_ref1_Grand (kpL []) (lbOf as_ref1_Grand bs_ref1_Grand x))
def out_ref1_Grand (y : Int) : V × List OK × List OK := (valW (.int .i64) y, [], [])
noncomputable def V_ref1_Grand  (N : Nat) (x : List Int) : Option (Int) :=
  cnd (decide ((↑(List.length x) : Int) < (2:Int))) (some (0:Int)) (cnd (decide ((0:Int) ≤ wr .i64 ((↑(List.length x) : Int) - (2:Int))) && decide (wr
    .i64 ((↑(List.length x) : Int) - (2:Int)) < (↑(List.length x) : Int))) (some (List.getD x (Int.toNat (wr .i64 ((↑(List.length x) : Int) - (2:Int))))
    (0:Int))) none)
theorem FV_ref1_Grand_eq  (N : Nat) (x : List Int) : F_ref1_Grand  N x = V_ref1_Grand  N x := by kernel_rfl
noncomputable def W_ref1_Grand (N : Nat) (x : List Int) : Option (Int) := V_ref1_Grand  N x
theorem F_ref1_Grand_eq (N : Nat) (x : List Int) : F_ref1_Grand  N x = W_ref1_Grand N x := (FV_ref1_Grand_eq  N x).trans (by kernel_rfl)
noncomputable def conw_ref1_Grand (w : List Int → Option (Int)) : Con := ⟨77, as_ref1_Grand, bs_ref1_Grand, Int, w, out_ref1_Grand⟩
noncomputable def con_ref1_Grand (N : Nat) : Con := conw_ref1_Grand (W_ref1_Grand N)
theorem R_ref1_Grand_eq (x : List Int) (y : Int) : retOf2 P0 Try.f77 (kpL []) (lbOf as_ref1_Grand bs_ref1_Grand x) (patS ⟨12, [], [], []⟩ pout_ref1_Grand y) = some (out_ref1_Grand y) := by kernel_rfl
theorem con_ref1_Grand_ok (N : Nat) : Con.ok P0 (con_ref1_Grand N) := ⟨⟨Try.f77, Try.func77, by kernel_rfl, by kernel_rfl⟩, fun (x : List Int) (r : Int) (hr : W_ref1_Grand N x = some r) =>
  spec2_evT (Γ := G_ref1_Grand N) (Λ := L0) (pout := pout_ref1_Grand) (kp := kpL []) mixed (orcOf_ok [] (by simp)) Try.func77 (c := bodyOf Try.f77) (by kernel_rfl) (by kernel_rfl) (of_decide_eq_true (by kernel_rfl)) ((F_ref1_Grand_eq N x).trans hr) (R_ref1_Grand_eq x r)⟩
def as_ref19_grand : List AS := [.val (.list (.int .i64))]
def bs_ref19_grand : List BS := []
def pout_ref19_grand : Pat := ⟨[(2, .val (.int .i64))], []⟩
noncomputable def G_ref19_grand (w_ref1_Grand : List Int → Option (Int)) (N : Nat) : OrcT := orcOf [conw_ref1_Grand w_ref1_Grand]
noncomputable def F_ref19_grand (w_ref1_Grand : List Int → Option (Int)) (N : Nat) (x : List Int) : Option (Int) :=
  (evT (G_ref19_grand w_ref1_Grand N) L0 P0 []
    [] N 400 (bodyOf Try.f61) ⟨9, slots 0 (argsOf as_ref19_grand bs_ref19_grand x), tabU (lbOf as_ref19_grand bs_ref19_grand x) [], []⟩).elim (kRet 9 pout_ref19_grand (kpL []) (lbOf as_ref19_grand bs_ref19_grand x))
def out_ref19_grand (y : Int) : V × List OK × List OK := (valW (.int .i64) y, [], [])
noncomputable def V_ref19_grand (w_ref1_Grand : List Int → Option (Int)) (N : Nat) (x : List Int) : Option (Int) :=
  obind (w_ref1_Grand x) fun b => cnd (decide (b = (0:Int))) (some (1:Int)) (some b)
theorem FV_ref19_grand_eq (w_ref1_Grand : List Int → Option (Int)) (N : Nat) (x : List Int) : F_ref19_grand w_ref1_Grand N x = V_ref19_grand w_ref1_Grand N x := by kernel_rfl
noncomputable def W_ref19_grand (N : Nat) (x : List Int) : Option (Int) := V_ref19_grand (W_ref1_Grand N) N x
theorem F_ref19_grand_eq (N : Nat) (x : List Int) : F_ref19_grand (W_ref1_Grand N) N x = W_ref19_grand N x := (FV_ref19_grand_eq (W_ref1_Grand N) N x).trans (by kernel_rfl)
noncomputable def conw_ref19_grand (w : List Int → Option (Int)) : Con := ⟨61, as_ref19_grand, bs_ref19_grand, Int, w, out_ref19_grand⟩
noncomputable def con_ref19_grand (N : Nat) : Con := conw_ref19_grand (W_ref19_grand N)
theorem R_ref19_grand_eq (x : List Int) (y : Int) : retOf2 P0 Try.f61 (kpL []) (lbOf as_ref19_grand bs_ref19_grand x) (patS ⟨9, [], [], []⟩ pout_ref19_grand y) = some (out_ref19_grand y) := by kernel_rfl
theorem con_ref19_grand_ok (N : Nat) : Con.ok P0 (con_ref19_grand N) := ⟨⟨Try.f61, Try.func61, by kernel_rfl, by kernel_rfl⟩, fun (x : List Int) (r : Int) (hr : W_ref19_grand N x = some r) =>
  spec2_evT (Γ := G_ref19_grand (W_ref1_Grand N) N) (Λ := L0) (pout := pout_ref19_grand) (kp := kpL []) mixed (orcOf_ok _ (by simp only [List.mem_cons, List.not_mem_nil, or_false, forall_eq_or_imp, forall_eq]; exact con_ref1_Grand_ok N)) Try.func61 (c := bodyOf Try.f61) (by kernel_rfl) (by kernel_rfl) (of_decide_eq_true (by kernel_rfl)) ((F_ref19_grand_eq N x).trans hr) (R_ref19_grand_eq x r)⟩
def as_ref19_accepted : List AS := [.val (.agg T0_), .val (.agg T_)]
def bs_ref19_accepted : List BS := []
def pout_ref19_accepted : Pat := ⟨[(4, .ptr 600004 0), (5, .val (.list (.agg T_)))], [(600004, .box 27 (.val T0_))]⟩
noncomputable def G_ref19_accepted (w_ref19_says : (Int × A0_) × Int × Int → Option (M_)) (w_ref1_AddPath : List Int × Int → Option (List Int × Bool)) (w_ref19_grand : List Int → Option (Int)) (N : Nat) : OrcT := orcOf [conw_ref19_says w_ref19_says, conw_ref1_AddPath w_ref1_AddPath, conw_ref19_grand w_ref19_grand]
noncomputable def F_ref19_accepted (w_ref19_says : (Int × A0_) × Int × Int → Option (M_)) (w_ref1_AddPath : List Int × Int → Option (List Int × Bool)) (w_ref19_grand : List Int → Option (Int)) (N : Nat) (x : (Int × A0_) × M_) : Option (List (M_) × Int × A0_) :=
  (evT (G_ref19_accepted w_ref19_says w_ref1_AddPath w_ref19_grand N) L0 P0 []
    [(1000003, .reg [(10, [], ⟨[(2, .ptr 600002 0), (3, .ptr 600003 0), (4, .ptr 600004 0), (28, .val .bool)], [(600002, .box 27 (.val T0_)), (600003, .box 33 (.val T_)), (600004, .box 27 (.val T0_))]⟩)]),
    (5, .cut [] [(.normal, ⟨[(2, .ptr 600002 0), (3, .ptr 600003 0), (4, .ptr 600004 0)], [(600002, .box 27 (.val T0_)), (600003, .box 33 (.val T_)), (600004, .box 27 (.val T0_))]⟩), (.ret, ⟨[(4, .ptr 600004 0), (5, .val (.list (.agg T_)))], [(600004, .box 27 (.val T0_))]⟩)]),
    (3, .cut [] [(.normal, ⟨[(2, .ptr 600002 0), (3, .ptr 600003 0), (4, .ptr 600004 0)], [(600002, .box 27 (.val T0_)), (600003, .box 33 (.val T_)), (600004, .box 27 (.val T0_))]⟩), (.ret, ⟨[(4, .ptr 600004 0), (5, .val (.list (.agg T_)))], [(600004, .box 27 (.val T0_))]⟩)])] N 400 (bodyOf Try.f60) ⟨89, slots 0 (argsOf as_ref19_accepted bs_ref19_accepted x), tabU (lbOf as_ref19_accepted bs_ref19_accepted x) [], []⟩).elim (kRet 89 pout_ref19_accepted (kpL []) (lbOf as_ref19_accepted bs_ref19_accepted x))
def out_ref19_accepted (y : List (M_) × Int × A0_) : V × List OK × List OK := (.tup [valW (.agg T0_) y.2, valW (.list (.agg T_)) y.1], [], [])
noncomputable def V_ref19_accepted (w_ref19_says : (Int × A0_) × Int × Int → Option (M_)) (w_ref1_AddPath : List Int × Int → Option (List Int × Bool)) (w_ref19_grand : List Int → Option (Int)) (N : Nat) (x : (Int × A0_) × M_) : Option (List (M_) × Int × A0_) :=
  obind (cnd (decide (x.1.2.2.2.1 ≠ (0:Int))) (cnd (decide (x.2.2.1 = x.1.2.2.2.1)) (some (Sum.inr ([], x.1))) (some (Sum.inl (x.1, x.2, (0:Int),
    (0:Int), (0:Int), (0:Int), (0:Int), (0:Int), [], (0:Int), (0:Int), (0:Int), (0:Int), (0:Int), [])))) (some (Sum.inl (x.1, x.2, (0:Int), (0:Int),
    (0:Int), (0:Int), (0:Int), (0:Int), [], (0:Int), (0:Int), (0:Int), (0:Int), (0:Int), [])))) fun (b : (Int × A0_) × A1_ × Int × Int × Int × Int × Int × Int × List Int × Int × Int × Int × Int × Int × List (Int × Int × Int) ⊕ List A1_ × Int × A0_) => selim (fun (b : (Int × A0_) × A1_ × Int × A0_) => obind (obind (cnd (decide
    (b.1.2.2.2.2.2.2.2.2.2.1 = (0:Int))) (some (true, b)) (some (decide (b.1.2.2.2.2.2.2.2.2.2.1 ≠ b.2.1.2.1), b))) fun (b : Bool × (Int × A0_) × A1_ × Int × A0_) => cnd b.1 (obind (w_ref19_says
    (b.2.1, (6:Int), b.2.2.1.2.1)) fun b_1 => some (Sum.inr ([b_1], b.2.1))) (cnd (decide (b.2.1.2.2.2.1 ≠ (0:Int))) (obind (w_ref19_says (b.2.1,
    (6:Int), b.2.2.1.2.1)) fun b_1 => some (Sum.inr ([b_1], b.2.1))) (some (Sum.inl b.2)))) fun (b : (Int × A0_) × A1_ × Int × Int × Int × Int × Int × Int × List Int × Int × Int × Int × Int × Int × List (Int × Int × Int) ⊕ List A1_ × Int × A0_) => selim (fun (b : (Int × A0_) × A1_ × Int × A0_) => obind (w_ref1_AddPath
    (b.2.1.2.2.2.2.2.2.1, b.1.1)) fun b_1 => cnd (!b_1.2) (obind (w_ref19_says ((b.1.1, b.1.2.1, b.1.2.2.1, b.1.2.2.2.1, b.1.2.2.2.2.1,
    b.1.2.2.2.2.2.1, b.1.2.2.2.2.2.2.1, b.1.2.2.2.2.2.2.2.1, b.1.2.2.2.2.2.2.2.2.1, (0:Int), b.1.2.2.2.2.2.2.2.2.2.2.1, wr .i64
    (b.1.2.2.2.2.2.2.2.2.2.2.2.1 + (1:Int)), b.1.2.2.2.2.2.2.2.2.2.2.2.2), (6:Int), b.2.1.2.1)) fun b_2 => some ([b_2], b.1.1, b.1.2.1, b.1.2.2.1,
    b.1.2.2.2.1, b.1.2.2.2.2.1, b.1.2.2.2.2.2.1, b.1.2.2.2.2.2.2.1, b.1.2.2.2.2.2.2.2.1, b.1.2.2.2.2.2.2.2.2.1, (0:Int), b.1.2.2.2.2.2.2.2.2.2.2.1, wr
    .i64 (b.1.2.2.2.2.2.2.2.2.2.2.2.1 + (1:Int)), b.1.2.2.2.2.2.2.2.2.2.2.2.2)) (cnd (decide ((20:Int) < b.2.1.2.2.2.2.2.1)) (obind (w_ref19_says
    ((b.1.1, b.1.2.1, b.1.2.2.1, b.1.2.2.2.1, b.1.2.2.2.2.1, b.1.2.2.2.2.2.1, b.1.2.2.2.2.2.2.1, b.1.2.2.2.2.2.2.2.1, b.1.2.2.2.2.2.2.2.2.1, (0:Int),
    b.1.2.2.2.2.2.2.2.2.2.2.1, wr .i64 (b.1.2.2.2.2.2.2.2.2.2.2.2.1 + (1:Int)), b.1.2.2.2.2.2.2.2.2.2.2.2.2), (6:Int), b.2.1.2.1)) fun b_2 => some
    ([b_2], b.1.1, b.1.2.1, b.1.2.2.1, b.1.2.2.2.1, b.1.2.2.2.2.1, b.1.2.2.2.2.2.1, b.1.2.2.2.2.2.2.1, b.1.2.2.2.2.2.2.2.1, b.1.2.2.2.2.2.2.2.2.1,
    (0:Int), b.1.2.2.2.2.2.2.2.2.2.2.1, wr .i64 (b.1.2.2.2.2.2.2.2.2.2.2.2.1 + (1:Int)), b.1.2.2.2.2.2.2.2.2.2.2.2.2)) (obind (w_ref19_grand
    b.2.1.2.2.2.2.2.2.1) fun b_2 => some ([], b.1.1, b.1.2.1, b.1.2.2.1, b.2.1.2.1, b.2.1.2.2.2.1, b_2, b_1.1, b.2.1.2.2.2.2.1, wr .i64 (b.1.2.2.1 -
    b.2.1.2.2.2.2.2.1), (0:Int), b.1.2.2.2.2.2.2.2.2.2.2.1, (0:Int), b.1.2.2.2.2.2.2.2.2.2.2.2.2)))) (fun (c : List A1_ × Int × A0_) => some c)
    b) (fun (c : List A1_ × Int × A0_) => some c) b
theorem FV_ref19_accepted_eq (w_ref19_says : (Int × A0_) × Int × Int → Option (M_)) (w_ref1_AddPath : List Int × Int → Option (List Int × Bool)) (w_ref19_grand : List Int → Option (Int)) (N : Nat) (x : (Int × A0_) × M_) : F_ref19_accepted w_ref19_says w_ref1_AddPath w_ref19_grand N x = V_ref19_accepted w_ref19_says w_ref1_AddPath w_ref19_grand N x := by kernel_rfl
noncomputable def W_ref19_accepted (N : Nat) (x : (Int × A0_) × M_) : Option (List (M_) × Int × A0_) := V_ref19_accepted (W_ref19_says N) (W_ref1_AddPath N) (W_ref19_grand N) N x
theorem F_ref19_accepted_eq (N : Nat) (x : (Int × A0_) × M_) : F_ref19_accepted (W_ref19_says N) (W_ref1_AddPath N) (W_ref19_grand N) N x = W_ref19_accepted N x := (FV_ref19_accepted_eq (W_ref19_says N) (W_ref1_AddPath N) (W_ref19_grand N) N x).trans (by kernel_rfl)
noncomputable def conw_ref19_accepted (w : (Int × A0_) × M_ → Option (List (M_) × Int × A0_)) : Con := ⟨60, as_ref19_accepted, bs_ref19_accepted, List (M_) × Int × Int × Int × Int × Int × Int × List Int × Int × Int × Int × Int × Int × List (Int × Int × Int), w, out_ref19_accepted⟩
noncomputable def con_ref19_accepted (N : Nat) : Con := conw_ref19_accepted (W_ref19_accepted N)
theorem R_ref19_accepted_eq (x : (Int × A0_) × M_) (y : List (M_) × Int × A0_) : retOf2 P0 Try.f60 (kpL []) (lbOf as_ref19_accepted bs_ref19_accepted x) (patS ⟨89, [], [], []⟩ pout_ref19_accepted y) = some (out_ref19_accepted y) := by kernel_rfl
theorem con_ref19_accepted_ok (N : Nat) : Con.ok P0 (con_ref19_accepted N) := ⟨⟨Try.f60, Try.func60, by kernel_rfl, by kernel_rfl⟩, fun (x : (Int × A0_) × M_) (r : List (M_) × Int × A0_) (hr : W_ref19_accepted N x = some r) =>
  spec2_evT (Γ := G_ref19_accepted (W_ref19_says N) (W_ref1_AddPath N) (W_ref19_grand N) N) (Λ := L0) (pout := pout_ref19_accepted) (kp := kpL []) mixed (orcOf_ok _ (by simp only [List.mem_cons, List.not_mem_nil, or_false, forall_eq_or_imp, forall_eq]; exact ⟨con_ref19_says_ok N, con_ref1_AddPath_ok N, con_ref19_grand_ok N⟩)) Try.func60 (c := bodyOf Try.f60) (by kernel_rfl) (by kernel_rfl) (of_decide_eq_true (by kernel_rfl)) ((F_ref19_accepted_eq N x).trans hr) (R_ref19_accepted_eq x r)⟩
def as_ref19_Comes : List AS := [.val (.agg T0_), .val (.agg T_), .val (.int .i64)]
def bs_ref19_Comes : List BS := []
def pout_ref19_Comes : Pat := ⟨[(6, .ptr 600006 0), (7, .val (.list (.agg T_)))], [(600006, .box 27 (.val T0_))]⟩
noncomputable def G_ref19_Comes (w_ref1_Old : List (Int × Int × Int) × Int × Int → Option (Bool)) (w_ref19_off : (Int × A0_) × Int → Option (Int × A0_)) (w_ref1_Find : A3_ → Option (Bool × Int × Int × Int)) (w_ref19_Fresh : Int × A0_ → Option (Bool)) (w_ref1_Has : List Int × Int → Option (Bool)) (w_ref19_says : (Int × A0_) × Int × Int → Option (M_)) (w_ref1_Hear : List (Int × Int × Int) × Int × Int × Int → Option A2_) (w_ref19_full : (Int × A0_) × Int × Int → Option (M_)) (w_ref19_accepted : (Int × A0_) × M_ → Option (List (M_) × Int × A0_)) (w_ref1_AddPath : List Int × Int → Option (List Int × Bool)) (w_ref19_grand : List Int → Option (Int)) (w_ref1_Drop : A3_ → Option (List (Int × Int × Int))) (N : Nat) : OrcT := orcOf [conw_ref1_Old w_ref1_Old, conw_ref19_off w_ref19_off, conw_ref1_Find w_ref1_Find, conw_ref19_Fresh w_ref19_Fresh, conw_ref1_Has w_ref1_Has, conw_ref19_says w_ref19_says, conw_ref1_Hear w_ref1_Hear, conw_ref19_full w_ref19_full, conw_ref19_accepted w_ref19_accepted, conw_ref1_AddPath w_ref1_AddPath, conw_ref19_grand w_ref19_grand, conw_ref1_Drop w_ref1_Drop]
noncomputable def F_ref19_Comes (w_ref1_Old : List (Int × Int × Int) × Int × Int → Option (Bool)) (w_ref19_off : (Int × A0_) × Int → Option (Int × A0_)) (w_ref1_Find : A3_ → Option (Bool × Int × Int × Int)) (w_ref19_Fresh : Int × A0_ → Option (Bool)) (w_ref1_Has : List Int × Int → Option (Bool)) (w_ref19_says : (Int × A0_) × Int × Int → Option (M_)) (w_ref1_Hear : List (Int × Int × Int) × Int × Int × Int → Option A2_) (w_ref19_full : (Int × A0_) × Int × Int → Option (M_)) (w_ref19_accepted : (Int × A0_) × M_ → Option (List (M_) × Int × A0_)) (w_ref1_AddPath : List Int × Int → Option (List Int × Bool)) (w_ref19_grand : List Int → Option (Int)) (w_ref1_Drop : A3_ → Option (List (Int × Int × Int))) (N : Nat) (x : (Int × A0_) × (M_) × Int) : Option (List (M_) × Int × A0_) :=
  (evT (G_ref19_Comes w_ref1_Old w_ref19_off w_ref1_Find w_ref19_Fresh w_ref1_Has w_ref19_says w_ref1_Hear w_ref19_full w_ref19_accepted w_ref1_AddPath w_ref19_grand w_ref1_Drop N) L0 P0 []
    [(1000012, .reg [(10, [], ⟨[(3, .ptr 600003 0), (4, .ptr 600004 0), (6, .ptr 600006 0), (87, .val .bool)], [(600003, .box 27 (.val T0_)), (600004, .box 33 (.val T_)), (600006, .box 27 (.val T0_))]⟩)]),
    (14, .cut [] [(.normal, ⟨[(3, .ptr 600003 0), (4, .ptr 600004 0), (6, .ptr 600006 0)], [(600003, .box 27 (.val T0_)), (600004, .box 33 (.val T_)), (600006, .box 27 (.val T0_))]⟩), (.ret, ⟨[(6, .ptr 600006 0), (7, .val (.list (.agg T_)))], [(600006, .box 27 (.val T0_))]⟩)]),
    (12, .cut [] [(.normal, ⟨[(3, .ptr 600003 0), (4, .ptr 600004 0), (6, .ptr 600006 0), (11, .val (.int .i64))], [(600003, .box 27 (.val T0_)), (600004, .box 33 (.val T_)), (600006, .box 27 (.val T0_))]⟩)]),
    (23, .cut [] [(.normal, ⟨[(3, .ptr 600003 0), (6, .ptr 600006 0)], [(600003, .box 27 (.val T0_)), (600006, .box 27 (.val T0_))]⟩)]),
    (6, .cut [] [(.normal, ⟨[(3, .ptr 600003 0), (4, .ptr 600004 0), (6, .ptr 600006 0), (8, .val .bool)], [(600003, .box 27 (.val T0_)), (600004, .box 33 (.val T_)), (600006, .box 27 (.val T0_))]⟩)]),
    (5, .cut [] [(.normal, ⟨[(3, .ptr 600003 0), (4, .ptr 600004 0), (6, .ptr 600006 0)], [(600003, .box 27 (.val T0_)), (600004, .box 33 (.val T_)), (600006, .box 27 (.val T0_))]⟩)]),
    (3, .cut [] [(.normal, ⟨[(3, .ptr 600003 0), (4, .ptr 600004 0), (6, .ptr 600006 0)], [(600003, .box 27 (.val T0_)), (600004, .box 33 (.val T_)), (600006, .box 27 (.val T0_))]⟩), (.ret, ⟨[(6, .ptr 600006 0), (7, .val (.list (.agg T_)))], [(600006, .box 27 (.val T0_))]⟩)])] N 400 (bodyOf Try.f29) ⟨246, slots 0 (argsOf as_ref19_Comes bs_ref19_Comes x), tabU (lbOf as_ref19_Comes bs_ref19_Comes x) [], []⟩).elim (kRet 246 pout_ref19_Comes (kpL []) (lbOf as_ref19_Comes bs_ref19_Comes x))
def out_ref19_Comes (y : List (M_) × Int × A0_) : V × List OK × List OK := (.tup [valW (.agg T0_) y.2, valW (.list (.agg T_)) y.1], [], [])
noncomputable def V_ref19_Comes (w_ref1_Old : List (Int × Int × Int) × Int × Int → Option (Bool)) (w_ref19_off : (Int × A0_) × Int → Option (Int × A0_)) (w_ref1_Find : A3_ → Option (Bool × Int × Int × Int)) (w_ref19_Fresh : Int × A0_ → Option (Bool)) (w_ref1_Has : List Int × Int → Option (Bool)) (w_ref19_says : (Int × A0_) × Int × Int → Option (M_)) (w_ref1_Hear : List (Int × Int × Int) × Int × Int × Int → Option A2_) (w_ref19_full : (Int × A0_) × Int × Int → Option (M_)) (w_ref19_accepted : (Int × A0_) × M_ → Option (List (M_) × Int × A0_)) (w_ref1_AddPath : List Int × Int → Option (List Int × Bool)) (w_ref19_grand : List Int → Option (Int)) (w_ref1_Drop : A3_ → Option (List (Int × Int × Int))) (N : Nat) (x : (Int × A0_) × (M_) × Int) : Option (List (M_) × Int × A0_) :=
  obind (obind (w_ref1_Old (x.1.2.2.2.2.2.2.2.2.2.2.2.2, x.2.1.2.1, x.2.1.2.2.2.1)) fun b => cnd b (some (Sum.inr ([], x.1))) (cnd (decide (x.2.1.2.1
    = x.1.2.2.2.1)) (cnd (decide (x.2.1.2.2.2.1 < x.1.2.2.2.2.1)) (some (Sum.inr ([], x.1))) (some (Sum.inl (x.1, x.2.1, (0:Int), (0:Int), (0:Int),
    (0:Int), (0:Int), (0:Int), [], (0:Int), (0:Int), (0:Int), (0:Int), (0:Int), [])))) (some (Sum.inl (x.1, x.2.1, (0:Int), (0:Int), (0:Int), (0:Int),
    (0:Int), (0:Int), [], (0:Int), (0:Int), (0:Int), (0:Int), (0:Int), []))))) fun (b : (Int × A0_) × A1_ × Int × Int × Int × Int × Int × Int × List Int × Int × Int × Int × Int × Int × List (Int × Int × Int) ⊕ List A1_ × Int × A0_) => selim (fun (b : (Int × A0_) × A1_ × Int × A0_) => obind (cnd (decide (b.2.1.2.1 =
    b.1.2.2.2.1)) (cnd (decide (b.1.2.2.2.2.1 < b.2.1.2.2.2.1)) (obind (w_ref19_off (b.1, (0:Int))) fun b_1 => some (b_1, b.2)) (some b)) (some b))
    fun (b : (Int × A0_) × A1_ × Int × A0_) => obind
    (cnd (decide (b.1.2.2.2.1 ≠ (0:Int))) (some (decide (b.2.1.2.1 = b.1.2.2.2.1), b)) (some (false, b))) fun (b : Bool × (Int × A0_) × A1_ × Int × A0_) => cnd (decide (b.2.2.1.1 = (1:Int))) (obind
    (w_ref1_Find (b.2.1.2.2.2.2.2.2.2.2.2.2.2.2, b.2.2.1.2.1)) fun b_1 => obind (cnd (decide (b.2.1.1 = (1:Int))) (some ((8:Int), b.2)) (some
    ((3:Int), b.2))) fun (b : Int × (Int × A0_) × A1_ × Int × A0_) => obind (obind (obind (w_ref19_Fresh b.2.1) fun b_2 => cnd (!b_2) (some (true, b.2)) (obind (w_ref1_Has (b.2.1.2.2.2.2.2.2.1,
    b.2.2.1.2.1)) fun b_3 => some (b_3, b.2))) fun (b_2 : Bool × (Int × A0_) × A1_ × Int × A0_) => cnd b_2.1 (obind (w_ref19_says (b_2.2.1, (3:Int), b_2.2.2.1.2.1)) fun b => some (Sum.inr ([b],
    b_2.2.1))) (cnd (!b_1.1) (cnd (decide (b.1 ≤ (↑(List.length b_2.2.1.2.2.2.2.2.2.2.2.2.2.2.2) : Int))) (obind (w_ref19_says (b_2.2.1, (3:Int),
    b_2.2.2.1.2.1)) fun b => some (Sum.inr ([b], b_2.2.1))) (some (Sum.inl b_2.2))) (some (Sum.inl b_2.2)))) fun (b : (Int × A0_) × A1_ × Int × Int × Int × Int × Int × Int × List Int × Int × Int × Int × Int × Int × List (Int × Int × Int) ⊕ List A1_ × Int × A0_) => selim (fun (b :
    (Int × A0_) × A1_ × Int × A0_) => obind
    (w_ref1_Hear (b.1.2.2.2.2.2.2.2.2.2.2.2.2, b.2.1.2.1, b.2.1.2.2.2.1, b.1.2.2.1)) fun b_2 => obind (w_ref19_full ((b.1.1, b.1.2.1, b.1.2.2.1,
    b.1.2.2.2.1, b.1.2.2.2.2.1, b.1.2.2.2.2.2.1, b.1.2.2.2.2.2.2.1, b.1.2.2.2.2.2.2.2.1, b.1.2.2.2.2.2.2.2.2.1, b.1.2.2.2.2.2.2.2.2.2.1,
    b.1.2.2.2.2.2.2.2.2.2.2.1, b.1.2.2.2.2.2.2.2.2.2.2.2.1, b_2.1), (2:Int), b.2.1.2.1)) fun b_3 => some ([(b_3.1, b_3.2.1, b_3.2.2.1, b_3.2.2.2.1,
    b_3.2.2.2.2.1, b_3.2.2.2.2.2.1, b_3.2.2.2.2.2.2.1, x.2.2, b_3.2.2.2.2.2.2.2.2)], b.1.1, b.1.2.1, b.1.2.2.1, b.1.2.2.2.1, b.1.2.2.2.2.1,
    b.1.2.2.2.2.2.1, b.1.2.2.2.2.2.2.1, b.1.2.2.2.2.2.2.2.1, b.1.2.2.2.2.2.2.2.2.1, b.1.2.2.2.2.2.2.2.2.2.1, b.1.2.2.2.2.2.2.2.2.2.2.1,
    b.1.2.2.2.2.2.2.2.2.2.2.2.1, b_2.1)) (fun (c : List A1_ × Int × A0_) => some c) b) (cnd (decide (b.2.2.1.1 = (2:Int))) (obind
    (w_ref19_accepted (b.2.1, b.2.2.1)) fun b => some b) (cnd (decide (b.2.2.1.1 = (3:Int))) (obind (cnd (decide (b.2.1.2.2.2.2.2.2.2.2.2.1 ≠
    (0:Int))) (cnd (decide (b.2.1.2.2.2.2.2.2.2.2.2.1 = b.2.2.1.2.1)) (some ((b.2.1.1, b.2.1.2.1, b.2.1.2.2.1, b.2.1.2.2.2.1, b.2.1.2.2.2.2.1,
    b.2.1.2.2.2.2.2.1, b.2.1.2.2.2.2.2.2.1, b.2.1.2.2.2.2.2.2.2.1, b.2.1.2.2.2.2.2.2.2.2.1, (0:Int), b.2.1.2.2.2.2.2.2.2.2.2.2.1, wr .i64
    (b.2.1.2.2.2.2.2.2.2.2.2.2.2.1 + (1:Int)), b.2.1.2.2.2.2.2.2.2.2.2.2.2.2), b.2.2.2)) (some (b.2.1, b.2.2.2))) (some (b.2.1, b.2.2.2))) fun (b_1 :
    (Int × A0_) × Int × A0_) => cnd b.1 (obind (w_ref19_off (b_1.1, (0:Int))) fun b => some ([], b)) (some ([],
    b_1.1))) (cnd (decide (b.2.2.1.1 = (4:Int))) (obind (w_ref1_Find (b.2.1.2.2.2.2.2.2.2.2.2.2.2.2, b.2.2.1.2.1)) fun b_1 => cnd (!b_1.1) (obind
    (w_ref19_says (b.2.1, (3:Int), b.2.2.1.2.1)) fun b_2 => some ([b_2], b.2.1)) (obind (w_ref1_Hear (b.2.1.2.2.2.2.2.2.2.2.2.2.2.2, b.2.2.1.2.1,
    b.2.2.1.2.2.2.1, b.2.1.2.2.1)) fun b_2 => some ([], b.2.1.1, b.2.1.2.1, b.2.1.2.2.1, b.2.1.2.2.2.1, b.2.1.2.2.2.2.1, b.2.1.2.2.2.2.2.1,
    b.2.1.2.2.2.2.2.2.1, b.2.1.2.2.2.2.2.2.2.1, b.2.1.2.2.2.2.2.2.2.2.1, b.2.1.2.2.2.2.2.2.2.2.2.1, b.2.1.2.2.2.2.2.2.2.2.2.2.1,
    b.2.1.2.2.2.2.2.2.2.2.2.2.2.1, b_2.1))) (cnd (decide (b.2.2.1.1 = (5:Int))) (cnd (!b.1) (obind (w_ref19_says (b.2.1, (6:Int), b.2.2.1.2.1)) fun
    b_1 => some ([b_1], b.2.1)) (obind (w_ref1_AddPath (b.2.2.1.2.2.2.2.2.2.1, b.2.1.1)) fun b_1 => cnd (!b_1.2) (obind (w_ref19_off (b.2.1,
    (1:Int))) fun b_2 => obind (w_ref19_says (b.2.1, (6:Int), b.2.2.1.2.1)) fun b => some ([b], b_2)) (obind (w_ref19_grand b.2.2.1.2.2.2.2.2.2.1)
    fun b_2 => cnd (decide (b.2.1.2.2.2.2.2.2.2.2.1 < wr .i64 (b.2.1.2.2.1 - b.2.2.1.2.2.2.2.2.1))) (some ([], b.2.1.1, b.2.1.2.1, b.2.1.2.2.1,
    b.2.1.2.2.2.1, b.2.1.2.2.2.2.1, b_2, b_1.1, b.2.2.1.2.2.2.2.1, wr .i64 (b.2.1.2.2.1 - b.2.2.1.2.2.2.2.2.1), b.2.1.2.2.2.2.2.2.2.2.2)) (some ([],
    b.2.1.1, b.2.1.2.1, b.2.1.2.2.1, b.2.1.2.2.2.1, b.2.1.2.2.2.2.1, b_2, b_1.1, b.2.1.2.2.2.2.2.2.2))))) (cnd (decide (b.2.2.1.1 = (6:Int))) (obind
    (w_ref1_Drop (b.2.1.2.2.2.2.2.2.2.2.2.2.2.2, b.2.2.1.2.1)) fun b_1 => some ([], b.2.1.1, b.2.1.2.1, b.2.1.2.2.1, b.2.1.2.2.2.1, b.2.1.2.2.2.2.1,
    b.2.1.2.2.2.2.2.1, b.2.1.2.2.2.2.2.2.1, b.2.1.2.2.2.2.2.2.2.1, b.2.1.2.2.2.2.2.2.2.2.1, b.2.1.2.2.2.2.2.2.2.2.2.1, b.2.1.2.2.2.2.2.2.2.2.2.2.1,
    b.2.1.2.2.2.2.2.2.2.2.2.2.2.1, b_1)) (some ([], b.2.1)))))))) (fun (c : List A1_ × Int × A0_) => some c) b
theorem FV_ref19_Comes_eq (w_ref1_Old : List (Int × Int × Int) × Int × Int → Option (Bool)) (w_ref19_off : (Int × A0_) × Int → Option (Int × A0_)) (w_ref1_Find : A3_ → Option (Bool × Int × Int × Int)) (w_ref19_Fresh : Int × A0_ → Option (Bool)) (w_ref1_Has : List Int × Int → Option (Bool)) (w_ref19_says : (Int × A0_) × Int × Int → Option (M_)) (w_ref1_Hear : List (Int × Int × Int) × Int × Int × Int → Option A2_) (w_ref19_full : (Int × A0_) × Int × Int → Option (M_)) (w_ref19_accepted : (Int × A0_) × M_ → Option (List (M_) × Int × A0_)) (w_ref1_AddPath : List Int × Int → Option (List Int × Bool)) (w_ref19_grand : List Int → Option (Int)) (w_ref1_Drop : A3_ → Option (List (Int × Int × Int))) (N : Nat) (x : (Int × A0_) × (M_) × Int) : F_ref19_Comes w_ref1_Old w_ref19_off w_ref1_Find w_ref19_Fresh w_ref1_Has w_ref19_says w_ref1_Hear w_ref19_full w_ref19_accepted w_ref1_AddPath w_ref19_grand w_ref1_Drop N x = V_ref19_Comes w_ref1_Old w_ref19_off w_ref1_Find w_ref19_Fresh w_ref1_Has w_ref19_says w_ref1_Hear w_ref19_full w_ref19_accepted w_ref1_AddPath w_ref19_grand w_ref1_Drop N x := by kernel_rfl
noncomputable def W_ref19_Comes (N : Nat) (x : (Int × A0_) × (M_) × Int) : Option (List (M_) × Int × A0_) := V_ref19_Comes (W_ref1_Old N) (W_ref19_off N) (W_ref1_Find N) (W_ref19_Fresh N) (W_ref1_Has N) (W_ref19_says N) (W_ref1_Hear N) (W_ref19_full N) (W_ref19_accepted N) (W_ref1_AddPath N) (W_ref19_grand N) (W_ref1_Drop N) N x
theorem F_ref19_Comes_eq (N : Nat) (x : (Int × A0_) × (M_) × Int) : F_ref19_Comes (W_ref1_Old N) (W_ref19_off N) (W_ref1_Find N) (W_ref19_Fresh N) (W_ref1_Has N) (W_ref19_says N) (W_ref1_Hear N) (W_ref19_full N) (W_ref19_accepted N) (W_ref1_AddPath N) (W_ref19_grand N) (W_ref1_Drop N) N x = W_ref19_Comes N x := (FV_ref19_Comes_eq (W_ref1_Old N) (W_ref19_off N) (W_ref1_Find N) (W_ref19_Fresh N) (W_ref1_Has N) (W_ref19_says N) (W_ref1_Hear N) (W_ref19_full N) (W_ref19_accepted N) (W_ref1_AddPath N) (W_ref19_grand N) (W_ref1_Drop N) N x).trans (by kernel_rfl)
noncomputable def conw_ref19_Comes (w : (Int × A0_) × (M_) × Int → Option (List (M_) × Int × A0_)) : Con := ⟨29, as_ref19_Comes, bs_ref19_Comes, List (M_) × Int × Int × Int × Int × Int × Int × List Int × Int × Int × Int × Int × Int × List (Int × Int × Int), w, out_ref19_Comes⟩
noncomputable def con_ref19_Comes (N : Nat) : Con := conw_ref19_Comes (W_ref19_Comes N)
theorem R_ref19_Comes_eq (x : (Int × A0_) × (M_) × Int) (y : List (M_) × Int × A0_) : retOf2 P0 Try.f29 (kpL []) (lbOf as_ref19_Comes bs_ref19_Comes x) (patS ⟨246, [], [], []⟩ pout_ref19_Comes y) = some (out_ref19_Comes y) := by kernel_rfl
theorem con_ref19_Comes_ok (N : Nat) : Con.ok P0 (con_ref19_Comes N) := ⟨⟨Try.f29, Try.func29, by kernel_rfl, by kernel_rfl⟩, fun (x : (Int × A0_) × (M_) × Int) (r : List (M_) × Int × A0_) (hr : W_ref19_Comes N x = some r) =>
  spec2_evT (Γ := G_ref19_Comes (W_ref1_Old N) (W_ref19_off N) (W_ref1_Find N) (W_ref19_Fresh N) (W_ref1_Has N) (W_ref19_says N) (W_ref1_Hear N) (W_ref19_full N) (W_ref19_accepted N) (W_ref1_AddPath N) (W_ref19_grand N) (W_ref1_Drop N) N) (Λ := L0) (pout := pout_ref19_Comes) (kp := kpL []) mixed (orcOf_ok _ (by simp only [List.mem_cons, List.not_mem_nil, or_false, forall_eq_or_imp, forall_eq]; exact ⟨con_ref1_Old_ok N, con_ref19_off_ok N, con_ref1_Find_ok N, con_ref19_Fresh_ok N, con_ref1_Has_ok N, con_ref19_says_ok N, con_ref1_Hear_ok N, con_ref19_full_ok N, con_ref19_accepted_ok N, con_ref1_AddPath_ok N, con_ref19_grand_ok N, con_ref1_Drop_ok N⟩)) Try.func29 (c := bodyOf Try.f29) (by kernel_rfl) (by kernel_rfl) (of_decide_eq_true (by kernel_rfl)) ((F_ref19_Comes_eq N x).trans hr) (R_ref19_Comes_eq x r)⟩
def as_ref10_SameMsg : List AS := [.val (.agg T_), .val (.agg T_)]
def bs_ref10_SameMsg : List BS := []
def pout_ref10_SameMsg : Pat := ⟨[(4, .val .bool)], []⟩
noncomputable def G_ref10_SameMsg (w_ref1_SameInts : List Int × List Int → Option (Bool)) (N : Nat) : OrcT := orcOf [conw_ref1_SameInts w_ref1_SameInts]
noncomputable def F_ref10_SameMsg (w_ref1_SameInts : List Int × List Int → Option (Bool)) (N : Nat) (x : (M_) × M_) : Option (Bool) :=
  (evT (G_ref10_SameMsg w_ref1_SameInts N) L0 P0 []
    [(1000001, .reg [(12, [], ⟨[(2, .ptr 600002 0), (3, .ptr 600003 0), (16, .val .bool)], [(600002, .box 33 (.val T_)), (600003, .box 33 (.val T_))]⟩), (7, [], ⟨[(2, .ptr 600002 0), (3, .ptr 600003 0), (23, .val .bool)], [(600002, .box 33 (.val T_)), (600003, .box 33 (.val T_))]⟩), (7, [], ⟨[(2, .ptr 600002 0), (3, .ptr 600003 0), (30, .val .bool)], [(600002, .box 33 (.val T_)), (600003, .box 33 (.val T_))]⟩), (7, [], ⟨[(2, .ptr 600002 0), (3, .ptr 600003 0), (37, .val .bool)], [(600002, .box 33 (.val T_)), (600003, .box 33 (.val T_))]⟩), (7, [], ⟨[(2, .ptr 600002 0), (3, .ptr 600003 0), (44, .val .bool)], [(600002, .box 33 (.val T_)), (600003, .box 33 (.val T_))]⟩), (7, [], ⟨[(2, .ptr 600002 0), (3, .ptr 600003 0), (51, .val .bool)], [(600002, .box 33 (.val T_)), (600003, .box 33 (.val T_))]⟩), (7, [], ⟨[(2, .ptr 600002 0), (3, .ptr 600003 0), (58, .val .bool)], [(600002, .box 33 (.val T_)), (600003, .box 33 (.val T_))]⟩), (7, [], ⟨[(2, .ptr 600002 0), (3, .ptr 600003 0), (65, .val .bool)], [(600002, .box 33 (.val T_)), (600003, .box 33 (.val T_))]⟩)])] N 400 (bodyOf Try.f51) ⟨73, slots 0 (argsOf as_ref10_SameMsg bs_ref10_SameMsg x), tabU (lbOf as_ref10_SameMsg bs_ref10_SameMsg x) [], []⟩).elim (kRet 73 pout_ref10_SameMsg (kpL []) (lbOf as_ref10_SameMsg bs_ref10_SameMsg x))
def out_ref10_SameMsg (y : Bool) : V × List OK × List OK := (valW .bool y, [], [])
noncomputable def V_ref10_SameMsg (w_ref1_SameInts : List Int × List Int → Option (Bool)) (N : Nat) (x : (M_) × M_) : Option (Bool) :=
  obind (cnd (decide (x.1.1 = x.2.1)) (some (decide (x.1.2.1 = x.2.2.1), x)) (some (false, x))) fun (b : Bool × A1_ × A1_) => obind (cnd b.1 (some (decide
    (b.2.1.2.2.1 = b.2.2.2.2.1), b.2)) (some (false, b.2))) fun (b : Bool × A1_ × A1_) => obind (cnd b.1 (some (decide (b.2.1.2.2.2.1 = b.2.2.2.2.2.1), b.2)) (some
    (false, b.2))) fun (b : Bool × A1_ × A1_) => obind (cnd b.1 (some (decide (b.2.1.2.2.2.2.1 = b.2.2.2.2.2.2.1), b.2)) (some (false, b.2))) fun (b : Bool × A1_ × A1_) => obind
    (cnd b.1 (some (decide (b.2.1.2.2.2.2.2.1 = b.2.2.2.2.2.2.2.1), b.2)) (some (false, b.2))) fun (b : Bool × A1_ × A1_) => obind (cnd b.1 (some (decide
    (b.2.1.2.2.2.2.2.2.2.1 = b.2.2.2.2.2.2.2.2.2.1), b.2)) (some (false, b.2))) fun (b : Bool × A1_ × A1_) => obind (cnd b.1 (some (decide (b.2.1.2.2.2.2.2.2.2.2.1
    = b.2.2.2.2.2.2.2.2.2.2.1), b.2)) (some (false, b.2))) fun (b : Bool × A1_ × A1_) => obind (cnd b.1 (some (b.2.1.2.2.2.2.2.2.2.2.2 == b.2.2.2.2.2.2.2.2.2.2.2,
    b.2)) (some (false, b.2))) fun (b : Bool × A1_ × A1_) => cnd b.1 (obind (w_ref1_SameInts (b.2.1.2.2.2.2.2.2.1, b.2.2.2.2.2.2.2.2.1)) fun b => some b) (some
    false)
theorem FV_ref10_SameMsg_eq (w_ref1_SameInts : List Int × List Int → Option (Bool)) (N : Nat) (x : (M_) × M_) : F_ref10_SameMsg w_ref1_SameInts N x = V_ref10_SameMsg w_ref1_SameInts N x := by kernel_rfl
noncomputable def W_ref10_SameMsg (N : Nat) (x : (M_) × M_) : Option (Bool) := V_ref10_SameMsg (W_ref1_SameInts N) N x
theorem F_ref10_SameMsg_eq (N : Nat) (x : (M_) × M_) : F_ref10_SameMsg (W_ref1_SameInts N) N x = W_ref10_SameMsg N x := (FV_ref10_SameMsg_eq (W_ref1_SameInts N) N x).trans (by kernel_rfl)
noncomputable def conw_ref10_SameMsg (w : (M_) × M_ → Option (Bool)) : Con := ⟨51, as_ref10_SameMsg, bs_ref10_SameMsg, Bool, w, out_ref10_SameMsg⟩
noncomputable def con_ref10_SameMsg (N : Nat) : Con := conw_ref10_SameMsg (W_ref10_SameMsg N)
theorem R_ref10_SameMsg_eq (x : (M_) × M_) (y : Bool) : retOf2 P0 Try.f51 (kpL []) (lbOf as_ref10_SameMsg bs_ref10_SameMsg x) (patS ⟨73, [], [], []⟩ pout_ref10_SameMsg y) = some (out_ref10_SameMsg y) := by kernel_rfl
theorem con_ref10_SameMsg_ok (N : Nat) : Con.ok P0 (con_ref10_SameMsg N) := ⟨⟨Try.f51, Try.func51, by kernel_rfl, by kernel_rfl⟩, fun (x : (M_) × M_) (r : Bool) (hr : W_ref10_SameMsg N x = some r) =>
  spec2_evT (Γ := G_ref10_SameMsg (W_ref1_SameInts N) N) (Λ := L0) (pout := pout_ref10_SameMsg) (kp := kpL []) mixed (orcOf_ok _ (by simp only [List.mem_cons, List.not_mem_nil, or_false, forall_eq_or_imp, forall_eq]; exact con_ref1_SameInts_ok N)) Try.func51 (c := bodyOf Try.f51) (by kernel_rfl) (by kernel_rfl) (of_decide_eq_true (by kernel_rfl)) ((F_ref10_SameMsg_eq N x).trans hr) (R_ref10_SameMsg_eq x r)⟩
def as_ref10_SameMsgs : List AS := [.val (.list (.agg T_)), .val (.list (.agg T_))]
def bs_ref10_SameMsgs : List BS := []
def pout_ref10_SameMsgs : Pat := ⟨[(4, .val .bool)], []⟩
noncomputable def G_ref10_SameMsgs (w_ref10_SameMsg : (M_) × M_ → Option (Bool)) (N : Nat) : OrcT := orcOf [conw_ref10_SameMsg w_ref10_SameMsg]
noncomputable def F_ref10_SameMsgs (w_ref10_SameMsg : (M_) × M_ → Option (Bool)) (N : Nat) (x : List (M_) × List (M_)) : Option (Bool) :=
  (evT (G_ref10_SameMsgs w_ref10_SameMsg N) L0 P0 [(4, .loop [] ⟨[(5, .val (.int .i64))], []⟩ [(.exit 0, ⟨[], []⟩), (.ret, ⟨[(4, .val .bool)], []⟩)])]
    [] N 400 (bodyOf Try.f30) ⟨27, slots 0 (argsOf as_ref10_SameMsgs bs_ref10_SameMsgs x), tabU (lbOf as_ref10_SameMsgs bs_ref10_SameMsgs x) [], []⟩).elim (kRet 27 pout_ref10_SameMsgs (kpL []) (lbOf as_ref10_SameMsgs bs_ref10_SameMsgs x))
def out_ref10_SameMsgs (y : Bool) : V × List OK × List OK := (valW .bool y, [], [])
noncomputable def V_ref10_SameMsgs (w_ref10_SameMsg : (M_) × M_ → Option (Bool)) (N : Nat) (x : List (M_) × List (M_)) : Option (Bool) :=
  cnd (decide ((↑(List.length x.1) : Int) ≠ (↑(List.length x.2) : Int))) (some false) (obind (loopN N (fun (v : Int) => cnd (decide (v < (↑(List.length
    x.1) : Int))) (cnd (decide ((0:Int) ≤ v) && decide (v < (↑(List.length x.1) : Int))) (cnd (decide ((0:Int) ≤ v) && decide (v < (↑(List.length x.2) :
    Int))) (obind (w_ref10_SameMsg ((Prod.fst (List.getD x.1 (Int.toNat v) ((0:Int), (0:Int), (0:Int), (0:Int), (0:Int), (0:Int), [], (0:Int),
    (0:Int), [])), Prod.fst (Prod.snd (List.getD x.1 (Int.toNat v) ((0:Int), (0:Int), (0:Int), (0:Int), (0:Int), (0:Int), [], (0:Int), (0:Int), []))),
    Prod.fst (Prod.snd (Prod.snd (List.getD x.1 (Int.toNat v) ((0:Int), (0:Int), (0:Int), (0:Int), (0:Int), (0:Int), [], (0:Int), (0:Int), [])))),
    Prod.fst (Prod.snd (Prod.snd (Prod.snd (List.getD x.1 (Int.toNat v) ((0:Int), (0:Int), (0:Int), (0:Int), (0:Int), (0:Int), [], (0:Int), (0:Int),
    []))))), Prod.fst (Prod.snd (Prod.snd (Prod.snd (Prod.snd (List.getD x.1 (Int.toNat v) ((0:Int), (0:Int), (0:Int), (0:Int), (0:Int), (0:Int), [],
    (0:Int), (0:Int), [])))))), Prod.fst (Prod.snd (Prod.snd (Prod.snd (Prod.snd (Prod.snd (List.getD x.1 (Int.toNat v) ((0:Int), (0:Int), (0:Int),
    (0:Int), (0:Int), (0:Int), [], (0:Int), (0:Int), []))))))), Prod.fst (Prod.snd (Prod.snd (Prod.snd (Prod.snd (Prod.snd (Prod.snd (List.getD x.1
    (Int.toNat v) ((0:Int), (0:Int), (0:Int), (0:Int), (0:Int), (0:Int), [], (0:Int), (0:Int), [])))))))), Prod.fst (Prod.snd (Prod.snd (Prod.snd
    (Prod.snd (Prod.snd (Prod.snd (Prod.snd (List.getD x.1 (Int.toNat v) ((0:Int), (0:Int), (0:Int), (0:Int), (0:Int), (0:Int), [], (0:Int), (0:Int),
    []))))))))), Prod.fst (Prod.snd (Prod.snd (Prod.snd (Prod.snd (Prod.snd (Prod.snd (Prod.snd (Prod.snd (List.getD x.1 (Int.toNat v) ((0:Int),
    (0:Int), (0:Int), (0:Int), (0:Int), (0:Int), [], (0:Int), (0:Int), [])))))))))), Prod.snd (Prod.snd (Prod.snd (Prod.snd (Prod.snd (Prod.snd
    (Prod.snd (Prod.snd (Prod.snd (List.getD x.1 (Int.toNat v) ((0:Int), (0:Int), (0:Int), (0:Int), (0:Int), (0:Int), [], (0:Int), (0:Int),
    []))))))))))), Prod.fst (List.getD x.2 (Int.toNat v) ((0:Int), (0:Int), (0:Int), (0:Int), (0:Int), (0:Int), [], (0:Int), (0:Int), [])), Prod.fst
    (Prod.snd (List.getD x.2 (Int.toNat v) ((0:Int), (0:Int), (0:Int), (0:Int), (0:Int), (0:Int), [], (0:Int), (0:Int), []))), Prod.fst (Prod.snd
    (Prod.snd (List.getD x.2 (Int.toNat v) ((0:Int), (0:Int), (0:Int), (0:Int), (0:Int), (0:Int), [], (0:Int), (0:Int), [])))), Prod.fst (Prod.snd
    (Prod.snd (Prod.snd (List.getD x.2 (Int.toNat v) ((0:Int), (0:Int), (0:Int), (0:Int), (0:Int), (0:Int), [], (0:Int), (0:Int), []))))), Prod.fst
    (Prod.snd (Prod.snd (Prod.snd (Prod.snd (List.getD x.2 (Int.toNat v) ((0:Int), (0:Int), (0:Int), (0:Int), (0:Int), (0:Int), [], (0:Int), (0:Int),
    [])))))), Prod.fst (Prod.snd (Prod.snd (Prod.snd (Prod.snd (Prod.snd (List.getD x.2 (Int.toNat v) ((0:Int), (0:Int), (0:Int), (0:Int), (0:Int),
    (0:Int), [], (0:Int), (0:Int), []))))))), Prod.fst (Prod.snd (Prod.snd (Prod.snd (Prod.snd (Prod.snd (Prod.snd (List.getD x.2 (Int.toNat v)
    ((0:Int), (0:Int), (0:Int), (0:Int), (0:Int), (0:Int), [], (0:Int), (0:Int), [])))))))), Prod.fst (Prod.snd (Prod.snd (Prod.snd (Prod.snd (Prod.snd
    (Prod.snd (Prod.snd (List.getD x.2 (Int.toNat v) ((0:Int), (0:Int), (0:Int), (0:Int), (0:Int), (0:Int), [], (0:Int), (0:Int), []))))))))), Prod.fst
    (Prod.snd (Prod.snd (Prod.snd (Prod.snd (Prod.snd (Prod.snd (Prod.snd (Prod.snd (List.getD x.2 (Int.toNat v) ((0:Int), (0:Int), (0:Int), (0:Int),
    (0:Int), (0:Int), [], (0:Int), (0:Int), [])))))))))), Prod.snd (Prod.snd (Prod.snd (Prod.snd (Prod.snd (Prod.snd (Prod.snd (Prod.snd (Prod.snd
    (List.getD x.2 (Int.toNat v) ((0:Int), (0:Int), (0:Int), (0:Int), (0:Int), (0:Int), [], (0:Int), (0:Int), [])))))))))))) fun b => cnd (!b) (some
    (Sum.inr (Sum.inr false))) (some (Sum.inl (wr .i64 (v + (1:Int)))))) none) none) (some (Sum.inr (Sum.inl ())))) (Int.ofNat (0:Nat))) fun (b : PUnit
    ⊕ Bool) => selim (fun (b : PUnit) => some true) (fun (c : Bool) => some c) b)
theorem FV_ref10_SameMsgs_eq (w_ref10_SameMsg : (M_) × M_ → Option (Bool)) (N : Nat) (x : List (M_) × List (M_)) : F_ref10_SameMsgs w_ref10_SameMsg N x = V_ref10_SameMsgs w_ref10_SameMsg N x := by kernel_rfl
noncomputable def W_ref10_SameMsgs (N : Nat) (x : List (M_) × List (M_)) : Option (Bool) := V_ref10_SameMsgs (W_ref10_SameMsg N) N x
theorem F_ref10_SameMsgs_eq (N : Nat) (x : List (M_) × List (M_)) : F_ref10_SameMsgs (W_ref10_SameMsg N) N x = W_ref10_SameMsgs N x := (FV_ref10_SameMsgs_eq (W_ref10_SameMsg N) N x).trans (by kernel_rfl)
noncomputable def conw_ref10_SameMsgs (w : List (M_) × List (M_) → Option (Bool)) : Con := ⟨30, as_ref10_SameMsgs, bs_ref10_SameMsgs, Bool, w, out_ref10_SameMsgs⟩
noncomputable def con_ref10_SameMsgs (N : Nat) : Con := conw_ref10_SameMsgs (W_ref10_SameMsgs N)
theorem R_ref10_SameMsgs_eq (x : List (M_) × List (M_)) (y : Bool) : retOf2 P0 Try.f30 (kpL []) (lbOf as_ref10_SameMsgs bs_ref10_SameMsgs x) (patS ⟨27, [], [], []⟩ pout_ref10_SameMsgs y) = some (out_ref10_SameMsgs y) := by kernel_rfl
theorem con_ref10_SameMsgs_ok (N : Nat) : Con.ok P0 (con_ref10_SameMsgs N) := ⟨⟨Try.f30, Try.func30, by kernel_rfl, by kernel_rfl⟩, fun (x : List (M_) × List (M_)) (r : Bool) (hr : W_ref10_SameMsgs N x = some r) =>
  spec2_evT (Γ := G_ref10_SameMsgs (W_ref10_SameMsg N) N) (Λ := L0) (pout := pout_ref10_SameMsgs) (kp := kpL []) mixed (orcOf_ok _ (by simp only [List.mem_cons, List.not_mem_nil, or_false, forall_eq_or_imp, forall_eq]; exact con_ref10_SameMsg_ok N)) Try.func30 (c := bodyOf Try.f30) (by kernel_rfl) (by kernel_rfl) (of_decide_eq_true (by kernel_rfl)) ((F_ref10_SameMsgs_eq N x).trans hr) (R_ref10_SameMsgs_eq x r)⟩
def as_ref19_Leave : List AS := [.val (.agg T0_)]
def bs_ref19_Leave : List BS := []
def pout_ref19_Leave : Pat := ⟨[(2, .val (.list (.agg T_)))], []⟩
noncomputable def G_ref19_Leave (w_ref19_says : (Int × A0_) × Int × Int → Option (M_)) (N : Nat) : OrcT := orcOf [conw_ref19_says w_ref19_says]
noncomputable def F_ref19_Leave (w_ref19_says : (Int × A0_) × Int × Int → Option (M_)) (N : Nat) (x : Int × A0_) : Option (List (M_)) :=
  (evT (G_ref19_Leave w_ref19_says N) L0 P0 [(5, .loop [] ⟨[(1, .ptr 600001 0), (3, .acc 700003), (4, .val (.int .i64))], [(600001, .box 27 (.val T0_)), (700003, .nrow 33 (.agg T_) true true)]⟩ [(.exit 0, ⟨[(3, .val (.list (.agg T_)))], []⟩)])]
    [(4, .cut [] [(.normal, ⟨[(1, .ptr 600001 0), (3, .acc 700003)], [(600001, .box 27 (.val T0_)), (700003, .nrow 33 (.agg T_) true true)]⟩)])] N 400 (bodyOf Try.f33) ⟨34, slots 0 (argsOf as_ref19_Leave bs_ref19_Leave x), tabU (lbOf as_ref19_Leave bs_ref19_Leave x) [], []⟩).elim (kRet 34 pout_ref19_Leave (kpL []) (lbOf as_ref19_Leave bs_ref19_Leave x))
def out_ref19_Leave (y : List (M_)) : V × List OK × List OK := (valW (.list (.agg T_)) y, [], [])
noncomputable def V_ref19_Leave (w_ref19_says : (Int × A0_) × Int × Int → Option (M_)) (N : Nat) (x : Int × A0_) : Option (List (M_)) :=
  obind (cnd (decide (x.2.2.2.1 ≠ (0:Int))) (obind (w_ref19_says (x, (6:Int), x.2.2.2.1)) fun b => some (x, [b])) (some (x, []))) fun (b : (Int × A0_) × List A1_) => obind (loopN N (fun (v : Int × (Int × A0_) × List A1_) => cnd (decide (v.1 < (↑(List.length
    v.2.1.2.2.2.2.2.2.2.2.2.2.2.2) : Int))) (cnd (decide ((0:Int) ≤ v.1) && decide (v.1 < (↑(List.length v.2.1.2.2.2.2.2.2.2.2.2.2.2.2) : Int))) (obind
    (w_ref19_says (v.2.1, (3:Int), Prod.fst (List.getD v.2.1.2.2.2.2.2.2.2.2.2.2.2.2 (Int.toNat v.1) ((0:Int), (0:Int), (0:Int))))) fun b => cnd
    (decide ((List.length v.2.2 + List.length [b]) * (104:Nat) ≤ (140737488355328:Nat))) (some (Sum.inl (wr .i64 (v.1 + (1:Int)), v.2.1, v.2.2 ++ [b])))
    none) none) (some (Sum.inr v.2.2))) ((0:Int), b)) fun (b : List A1_) => some b
theorem FV_ref19_Leave_eq (w_ref19_says : (Int × A0_) × Int × Int → Option (M_)) (N : Nat) (x : Int × A0_) : F_ref19_Leave w_ref19_says N x = V_ref19_Leave w_ref19_says N x := by kernel_rfl
noncomputable def W_ref19_Leave (N : Nat) (x : Int × A0_) : Option (List (M_)) := V_ref19_Leave (W_ref19_says N) N x
theorem F_ref19_Leave_eq (N : Nat) (x : Int × A0_) : F_ref19_Leave (W_ref19_says N) N x = W_ref19_Leave N x := (FV_ref19_Leave_eq (W_ref19_says N) N x).trans (by kernel_rfl)
noncomputable def conw_ref19_Leave (w : Int × A0_ → Option (List (M_))) : Con := ⟨33, as_ref19_Leave, bs_ref19_Leave, List (M_), w, out_ref19_Leave⟩
noncomputable def con_ref19_Leave (N : Nat) : Con := conw_ref19_Leave (W_ref19_Leave N)
theorem R_ref19_Leave_eq (x : Int × A0_) (y : List (M_)) : retOf2 P0 Try.f33 (kpL []) (lbOf as_ref19_Leave bs_ref19_Leave x) (patS ⟨34, [], [], []⟩ pout_ref19_Leave y) = some (out_ref19_Leave y) := by kernel_rfl
theorem con_ref19_Leave_ok (N : Nat) : Con.ok P0 (con_ref19_Leave N) := ⟨⟨Try.f33, Try.func33, by kernel_rfl, by kernel_rfl⟩, fun (x : Int × A0_) (r : List (M_)) (hr : W_ref19_Leave N x = some r) =>
  spec2_evT (Γ := G_ref19_Leave (W_ref19_says N) N) (Λ := L0) (pout := pout_ref19_Leave) (kp := kpL []) mixed (orcOf_ok _ (by simp only [List.mem_cons, List.not_mem_nil, or_false, forall_eq_or_imp, forall_eq]; exact con_ref19_says_ok N)) Try.func33 (c := bodyOf Try.f33) (by kernel_rfl) (by kernel_rfl) (of_decide_eq_true (by kernel_rfl)) ((F_ref19_Leave_eq N x).trans hr) (R_ref19_Leave_eq x r)⟩
def as_law19_TieAll : List AS := [.val (.list (.int .u8)), .val (.list (.int .u8)), .val (.int .u8), .val (.int .u16)]
def bs_law19_TieAll : List BS := []
def pout_law19_TieAll : Pat := ⟨[(8, .val .bool)], []⟩
noncomputable def G_law19_TieAll (w_law19_begun : Unit → Option (Bool)) (w_Made : List Int → Option (List Int × Int)) (w_Picks_Num : Int × List Int × Int → Option (Int × List Int × Int)) (w_tie_New : Int × Int × Int × Int → Option (Int × A0_)) (w_ref19_New : Int × Int × Int × Int → Option (Int × A0_)) (w_ref19_SameTie : (Int × A0_) × Int × A0_ → Option (Bool)) (w_Picks_Over : List Int × Int → Option (Bool × List Int × Int)) (w_tie_Tick : Int × A0_ → Option (List (M_) × Int × A0_)) (w_ref19_Tick : Int × A0_ → Option (List (M_) × Int × A0_)) (w_Picks_Msg : Int × List Int × Int → Option ((List Int × Int) × M_)) (w_Picks_Path : List Int × Int → Option (List Int × List Int × Int)) (w_tie_Comes : (Int × A0_) × (M_) × Int → Option (List (M_) × Int × A0_)) (w_ref19_Comes : (Int × A0_) × (M_) × Int → Option (List (M_) × Int × A0_)) (w_ref10_SameMsgs : List (M_) × List (M_) → Option (Bool)) (w_tie_Fresh : Int × A0_ → Option (Bool)) (w_ref19_Fresh : Int × A0_ → Option (Bool)) (w_tie_Leave : Int × A0_ → Option (List (M_))) (w_ref19_Leave : Int × A0_ → Option (List (M_))) (N : Nat) : OrcT := orcOf [conw_law19_begun w_law19_begun, conw_Made w_Made, conw_Picks_Num w_Picks_Num, conw_tie_New w_tie_New, conw_ref19_New w_ref19_New, conw_ref19_SameTie w_ref19_SameTie, conw_Picks_Over w_Picks_Over, conw_tie_Tick w_tie_Tick, conw_ref19_Tick w_ref19_Tick, conw_Picks_Msg w_Picks_Msg, conw_Picks_Path w_Picks_Path, conw_tie_Comes w_tie_Comes, conw_ref19_Comes w_ref19_Comes, conw_ref10_SameMsgs w_ref10_SameMsgs, conw_tie_Fresh w_tie_Fresh, conw_ref19_Fresh w_ref19_Fresh, conw_tie_Leave w_tie_Leave, conw_ref19_Leave w_ref19_Leave]
noncomputable def F_law19_TieAll (w_law19_begun : Unit → Option (Bool)) (w_Made : List Int → Option (List Int × Int)) (w_Picks_Num : Int × List Int × Int → Option (Int × List Int × Int)) (w_tie_New : Int × Int × Int × Int → Option (Int × A0_)) (w_ref19_New : Int × Int × Int × Int → Option (Int × A0_)) (w_ref19_SameTie : (Int × A0_) × Int × A0_ → Option (Bool)) (w_Picks_Over : List Int × Int → Option (Bool × List Int × Int)) (w_tie_Tick : Int × A0_ → Option (List (M_) × Int × A0_)) (w_ref19_Tick : Int × A0_ → Option (List (M_) × Int × A0_)) (w_Picks_Msg : Int × List Int × Int → Option ((List Int × Int) × M_)) (w_Picks_Path : List Int × Int → Option (List Int × List Int × Int)) (w_tie_Comes : (Int × A0_) × (M_) × Int → Option (List (M_) × Int × A0_)) (w_ref19_Comes : (Int × A0_) × (M_) × Int → Option (List (M_) × Int × A0_)) (w_ref10_SameMsgs : List (M_) × List (M_) → Option (Bool)) (w_tie_Fresh : Int × A0_ → Option (Bool)) (w_ref19_Fresh : Int × A0_ → Option (Bool)) (w_tie_Leave : Int × A0_ → Option (List (M_))) (w_ref19_Leave : Int × A0_ → Option (List (M_))) (N : Nat) (x : List Int × List Int × Int × Int) : Option (Bool) :=
  (evT (G_law19_TieAll w_law19_begun w_Made w_Picks_Num w_tie_New w_ref19_New w_ref19_SameTie w_Picks_Over w_tie_Tick w_ref19_Tick w_Picks_Msg w_Picks_Path w_tie_Comes w_ref19_Comes w_ref10_SameMsgs w_tie_Fresh w_ref19_Fresh w_tie_Leave w_ref19_Leave N) L0 P0 [(12, .loop [] ⟨[(10, .ptr 600042 0), (13, .ptr 600013 0), (14, .ptr 600014 0), (15, .val (.int .i64))], [(600042, .box 69 (.val T2_)), (600013, .box 27 (.val T0_)), (600014, .box 27 (.val T0_))]⟩ [(.exit 0, ⟨[(13, .ptr 600013 0), (14, .ptr 600014 0)], [(600013, .box 27 (.val T0_)), (600014, .box 27 (.val T0_))]⟩), (.ret, ⟨[(8, .val .bool)], []⟩)])]
    [(1000020, .reg [(8, [], ⟨[(10, .ptr 600042 0), (13, .ptr 600013 0), (14, .ptr 600014 0), (16, .ptr 600016 0), (17, .ptr 600017 0), (20, .ptr 600020 0), (91, .val .bool)], [(600042, .box 69 (.val T2_)), (600013, .box 27 (.val T0_)), (600014, .box 27 (.val T0_)), (600016, .box 27 (.val T0_)), (600017, .box 27 (.val T0_)), (600020, .box 33 (.val T_))]⟩)]),
    (25, .cut [] [(.normal, ⟨[(10, .ptr 600042 0), (13, .ptr 600013 0), (14, .ptr 600014 0), (16, .ptr 600016 0), (17, .ptr 600017 0), (20, .ptr 600020 0)], [(600042, .box 69 (.val T2_)), (600013, .box 27 (.val T0_)), (600014, .box 27 (.val T0_)), (600016, .box 27 (.val T0_)), (600017, .box 27 (.val T0_)), (600020, .box 33 (.val T_))]⟩)]),
    (22, .cut [] [(.normal, ⟨[(10, .ptr 600042 0), (13, .ptr 600013 0), (14, .ptr 600014 0), (16, .ptr 600016 0), (17, .ptr 600017 0), (20, .ptr 600020 0)], [(600042, .box 69 (.val T2_)), (600013, .box 27 (.val T0_)), (600014, .box 27 (.val T0_)), (600016, .box 27 (.val T0_)), (600017, .box 27 (.val T0_)), (600020, .box 33 (.val T_))]⟩)]),
    (28, .cut [] [(.normal, ⟨[(10, .ptr 600042 0), (13, .ptr 600013 0), (14, .ptr 600014 0), (16, .ptr 600016 0), (17, .ptr 600017 0), (18, .val (.list (.agg T_))), (19, .val (.list (.agg T_)))], [(600042, .box 69 (.val T2_)), (600013, .box 27 (.val T0_)), (600014, .box 27 (.val T0_)), (600016, .box 27 (.val T0_)), (600017, .box 27 (.val T0_))]⟩)])] N 400 (bodyOf Try.f8) ⟨209, slots 0 (argsOf as_law19_TieAll bs_law19_TieAll x), tabU (lbOf as_law19_TieAll bs_law19_TieAll x) [], []⟩).elim (kRet 209 pout_law19_TieAll (kpL []) (lbOf as_law19_TieAll bs_law19_TieAll x))
def out_law19_TieAll (y : Bool) : V × List OK × List OK := (valW .bool y, [], [])
noncomputable def V_law19_TieAll (w_law19_begun : Unit → Option (Bool)) (w_Made : List Int → Option (List Int × Int)) (w_Picks_Num : Int × List Int × Int → Option (Int × List Int × Int)) (w_tie_New : Int × Int × Int × Int → Option (Int × A0_)) (w_ref19_New : Int × Int × Int × Int → Option (Int × A0_)) (w_ref19_SameTie : (Int × A0_) × Int × A0_ → Option (Bool)) (w_Picks_Over : List Int × Int → Option (Bool × List Int × Int)) (w_tie_Tick : Int × A0_ → Option (List (M_) × Int × A0_)) (w_ref19_Tick : Int × A0_ → Option (List (M_) × Int × A0_)) (w_Picks_Msg : Int × List Int × Int → Option ((List Int × Int) × M_)) (w_Picks_Path : List Int × Int → Option (List Int × List Int × Int)) (w_tie_Comes : (Int × A0_) × (M_) × Int → Option (List (M_) × Int × A0_)) (w_ref19_Comes : (Int × A0_) × (M_) × Int → Option (List (M_) × Int × A0_)) (w_ref10_SameMsgs : List (M_) × List (M_) → Option (Bool)) (w_tie_Fresh : Int × A0_ → Option (Bool)) (w_ref19_Fresh : Int × A0_ → Option (Bool)) (w_tie_Leave : Int × A0_ → Option (List (M_))) (w_ref19_Leave : Int × A0_ → Option (List (M_))) (N : Nat) (x : List Int × List Int × Int × Int) : Option (Bool) :=
  obind (w_law19_begun ()) fun b => cnd (!b) (some false) (cnd (decide ((200:Int) < (↑(List.length x.1) : Int))) (some true) (cnd (decide ((15:Int) <
    (↑(List.length x.2.1) : Int))) (some true) (obind (w_Made x.1) fun b => obind (w_Picks_Num ((5:Int), b)) fun b => obind (w_Picks_Num ((9:Int),
    b.2)) fun b_1 => obind (w_tie_New (wr .i64 ((1:Int) + wr .i64 (Int.tmod x.2.2.1 (8:Int))), (2:Int), b.1, b_1.1)) fun b_2 => obind (w_ref19_New
    (wr .i64 ((1:Int) + wr .i64 (Int.tmod x.2.2.1 (8:Int))), (2:Int), b.1, b_1.1)) fun b => obind (w_ref19_SameTie (b_2, b)) fun b_3 => cnd (!b_3)
    (some false) (obind (loopN N (fun (v : Int × (List Int × Int) × (Int × A0_) × Int × A0_) => cnd (decide (v.1 <
    (40:Int))) (obind (w_Picks_Over v.2.1) fun b => cnd (!b.1) (obind (obind (w_Picks_Num ((3:Int), b.2)) fun b => cnd (decide (b.1 = (0:Int)))
    (obind (w_tie_Tick v.2.2.1) fun b_4 => obind (w_ref19_Tick v.2.2.2) fun b_5 => some (b_4.1, b_5.1, b.2, v.2.2.1, v.2.2.2, b_4.2, b_5.2)) (obind
    (w_Picks_Msg (wr .i64 ((1:Int) + wr .i64 (Int.tmod x.2.2.1 (8:Int))), b.2)) fun b => obind (obind (obind (w_Picks_Num ((3:Int), b.1)) fun b_4 =>
    cnd (decide (b_4.1 = (0:Int))) (some (decide (v.2.2.2.2.2.2.2.2.2.2.2.2.1 ≠ (0:Int)), b_4.2, v.2.2.1, v.2.2.2, ((0:Int), (0:Int), (0:Int), (0:Int),
    (0:Int), (0:Int), [], (0:Int), (0:Int), (0:Int), (0:Int), (0:Int), []), ((0:Int), (0:Int), (0:Int), (0:Int), (0:Int), (0:Int), [], (0:Int), (0:Int),
    (0:Int), (0:Int), (0:Int), []), b.2)) (some (false, b_4.2, v.2.2.1, v.2.2.2, ((0:Int), (0:Int), (0:Int), (0:Int), (0:Int), (0:Int), [], (0:Int),
    (0:Int), (0:Int), (0:Int), (0:Int), []), ((0:Int), (0:Int), (0:Int), (0:Int), (0:Int), (0:Int), [], (0:Int), (0:Int), (0:Int), (0:Int), (0:Int),
    []), b.2))) fun (b : Bool × (List Int × Int) × (Int × A0_) × (Int × A0_) × (Int × A0_) × (Int × A0_) × A1_) => cnd b.1 (cnd (decide (b.2.2.2.1.2.2.2.2.2.2.2.2.2.1 ≠
    wr .i64 ((1:Int) + wr .i64 (Int.tmod x.2.2.1 (8:Int))))) (obind (w_Picks_Num ((2:Int), b.2.1)) fun b_4 => obind (w_Picks_Num ((9:Int), b_4.2))
    fun b_5 => obind (w_Picks_Num ((24:Int), b_5.2)) fun b_6 => obind (w_Picks_Path b_6.2) fun b_7 => obind (w_Picks_Num ((9:Int), b_7.2)) fun b_8
    => some (b_8.2, b.2.2.1, b.2.2.2.1, b.2.2.2.2.1, b.2.2.2.2.2.1, (2:Int), b.2.2.2.1.2.2.2.2.2.2.2.2.2.1, wr .i64 ((1:Int) + wr .i64 (Int.tmod x.2.2.1
    (8:Int))), wr .i64 ((1:Int) + b_4.1), b_5.1, b_6.1, b_7.1, b_8.1, (0:Int), [])) (some b.2)) (some b.2)) fun (b : (List Int × Int) × (Int × A0_) × (Int × A0_) × (Int × A0_) × (Int × A0_) × A1_) => obind (obind (w_Picks_Num ((3:Int), b.1)) fun b_4 => cnd (decide (b_4.1 = (0:Int))) (cnd (decide (b.2.2.1.2.2.2.1 ≠
    (0:Int))) (obind (w_Picks_Num ((3:Int), b_4.2)) fun b_5 => obind (w_Picks_Num ((2:Int), b_5.2)) fun b_6 => some (b_6.2, b.2.1, b.2.2.1,
    b.2.2.2.1, b.2.2.2.2.1, b.2.2.2.2.2.1, b.2.2.1.2.2.2.1, b.2.2.2.2.2.2.2.1, max (wr .i64 (wr .i64 (b.2.2.1.2.2.2.2.1 + b_5.1) - b_6.1)) (1:Int),
    b.2.2.2.2.2.2.2.2.2)) (some (b_4.2, b.2))) (some (b_4.2, b.2))) fun (b : (List Int × Int) × (Int × A0_) × (Int × A0_) × (Int × A0_) × (Int × A0_) × A1_) => obind
    (w_Picks_Num ((9:Int), b.1)) fun b_4 => obind (w_tie_Comes (b.2.1, b.2.2.2.2.2, wr .i64 ((1:Int) + b_4.1))) fun b_5 => obind (w_ref19_Comes
    (b.2.2.1, b.2.2.2.2.2, wr .i64 ((1:Int) + b_4.1))) fun b_6 => some (b_5.1, b_6.1, b_4.2, b.2.1, b.2.2.1, b_5.2, b_6.2))) fun (b : List A1_ × List A1_ × (List Int × Int) × (Int × A0_) × (Int × A0_) × (Int × A0_) × Int × A0_) => obind
    (w_ref10_SameMsgs (b.1, b.2.1)) fun b_4 => cnd (!b_4) (some (Sum.inr (Sum.inr false))) (obind (w_ref19_SameTie b.2.2.2.2.2) fun b_5 => cnd
    (!b_5) (some (Sum.inr (Sum.inr false))) (obind (w_tie_Fresh b.2.2.2.2.2.1) fun b_6 => obind (w_ref19_Fresh b.2.2.2.2.2.2) fun b_7 => cnd (!b_6
    == b_7) (some (Sum.inr (Sum.inr false))) (obind (w_tie_Leave b.2.2.2.2.2.1) fun b_8 => obind (w_ref19_Leave b.2.2.2.2.2.2) fun b_9 => obind
    (w_ref10_SameMsgs (b_8, b_9)) fun b_10 => cnd (!b_10) (some (Sum.inr (Sum.inr false))) (some (Sum.inl (wr .i64 (v.1 + (1:Int)), b.2.2.1,
    b.2.2.2.2.2))))))) (some (Sum.inr (Sum.inl v.2.2)))) (some (Sum.inr (Sum.inl v.2.2)))) ((0:Int), b_1.2, b_2, b)) fun (b : (Int × A0_) × Int × Int × Int × Int × Int × Int × List Int × Int × Int × Int × Int × Int × List (Int × Int × Int) ⊕ Bool) => selim (fun (b : (Int × A0_) × Int × A0_) => obind (w_Made x.2.1) fun b_4
    => obind (w_Picks_Msg (wr .i64 ((1:Int) + wr .i64 (Int.tmod x.2.2.1 (8:Int))), b_4)) fun b_5 => obind (w_tie_Comes (b.1, b_5.2, wr .i64
    x.2.2.2)) fun b_6 => obind (w_ref19_Comes (b.2, b_5.2, wr .i64 x.2.2.2)) fun b => obind (w_ref10_SameMsgs (b_6.1, b.1)) fun b_7 => cnd b_7
    (obind (w_ref19_SameTie (b_6.2, b.2)) fun b => some b) (some false)) (fun (c : Bool) => some c) b))))
theorem FV_law19_TieAll_eq (w_law19_begun : Unit → Option (Bool)) (w_Made : List Int → Option (List Int × Int)) (w_Picks_Num : Int × List Int × Int → Option (Int × List Int × Int)) (w_tie_New : Int × Int × Int × Int → Option (Int × A0_)) (w_ref19_New : Int × Int × Int × Int → Option (Int × A0_)) (w_ref19_SameTie : (Int × A0_) × Int × A0_ → Option (Bool)) (w_Picks_Over : List Int × Int → Option (Bool × List Int × Int)) (w_tie_Tick : Int × A0_ → Option (List (M_) × Int × A0_)) (w_ref19_Tick : Int × A0_ → Option (List (M_) × Int × A0_)) (w_Picks_Msg : Int × List Int × Int → Option ((List Int × Int) × M_)) (w_Picks_Path : List Int × Int → Option (List Int × List Int × Int)) (w_tie_Comes : (Int × A0_) × (M_) × Int → Option (List (M_) × Int × A0_)) (w_ref19_Comes : (Int × A0_) × (M_) × Int → Option (List (M_) × Int × A0_)) (w_ref10_SameMsgs : List (M_) × List (M_) → Option (Bool)) (w_tie_Fresh : Int × A0_ → Option (Bool)) (w_ref19_Fresh : Int × A0_ → Option (Bool)) (w_tie_Leave : Int × A0_ → Option (List (M_))) (w_ref19_Leave : Int × A0_ → Option (List (M_))) (N : Nat) (x : List Int × List Int × Int × Int) : F_law19_TieAll w_law19_begun w_Made w_Picks_Num w_tie_New w_ref19_New w_ref19_SameTie w_Picks_Over w_tie_Tick w_ref19_Tick w_Picks_Msg w_Picks_Path w_tie_Comes w_ref19_Comes w_ref10_SameMsgs w_tie_Fresh w_ref19_Fresh w_tie_Leave w_ref19_Leave N x = V_law19_TieAll w_law19_begun w_Made w_Picks_Num w_tie_New w_ref19_New w_ref19_SameTie w_Picks_Over w_tie_Tick w_ref19_Tick w_Picks_Msg w_Picks_Path w_tie_Comes w_ref19_Comes w_ref10_SameMsgs w_tie_Fresh w_ref19_Fresh w_tie_Leave w_ref19_Leave N x := by kernel_rfl
noncomputable def W_law19_TieAll (N : Nat) (x : List Int × List Int × Int × Int) : Option (Bool) := V_law19_TieAll (W_law19_begun N) (W_Made N) (W_Picks_Num N) (W_tie_New N) (W_ref19_New N) (W_ref19_SameTie N) (W_Picks_Over N) (W_tie_Tick N) (W_ref19_Tick N) (W_Picks_Msg N) (W_Picks_Path N) (W_tie_Comes N) (W_ref19_Comes N) (W_ref10_SameMsgs N) (W_tie_Fresh N) (W_ref19_Fresh N) (W_tie_Leave N) (W_ref19_Leave N) N x
theorem F_law19_TieAll_eq (N : Nat) (x : List Int × List Int × Int × Int) : F_law19_TieAll (W_law19_begun N) (W_Made N) (W_Picks_Num N) (W_tie_New N) (W_ref19_New N) (W_ref19_SameTie N) (W_Picks_Over N) (W_tie_Tick N) (W_ref19_Tick N) (W_Picks_Msg N) (W_Picks_Path N) (W_tie_Comes N) (W_ref19_Comes N) (W_ref10_SameMsgs N) (W_tie_Fresh N) (W_ref19_Fresh N) (W_tie_Leave N) (W_ref19_Leave N) N x = W_law19_TieAll N x := (FV_law19_TieAll_eq (W_law19_begun N) (W_Made N) (W_Picks_Num N) (W_tie_New N) (W_ref19_New N) (W_ref19_SameTie N) (W_Picks_Over N) (W_tie_Tick N) (W_ref19_Tick N) (W_Picks_Msg N) (W_Picks_Path N) (W_tie_Comes N) (W_ref19_Comes N) (W_ref10_SameMsgs N) (W_tie_Fresh N) (W_ref19_Fresh N) (W_tie_Leave N) (W_ref19_Leave N) N x).trans (by kernel_rfl)
noncomputable def conw_law19_TieAll (w : List Int × List Int × Int × Int → Option (Bool)) : Con := ⟨8, as_law19_TieAll, bs_law19_TieAll, Bool, w, out_law19_TieAll⟩
noncomputable def con_law19_TieAll (N : Nat) : Con := conw_law19_TieAll (W_law19_TieAll N)
theorem R_law19_TieAll_eq (x : List Int × List Int × Int × Int) (y : Bool) : retOf2 P0 Try.f8 (kpL []) (lbOf as_law19_TieAll bs_law19_TieAll x) (patS ⟨209, [], [], []⟩ pout_law19_TieAll y) = some (out_law19_TieAll y) := by kernel_rfl
theorem con_law19_TieAll_ok (N : Nat) : Con.ok P0 (con_law19_TieAll N) := ⟨⟨Try.f8, Try.func8, by kernel_rfl, by kernel_rfl⟩, fun (x : List Int × List Int × Int × Int) (r : Bool) (hr : W_law19_TieAll N x = some r) =>
  spec2_evT (Γ := G_law19_TieAll (W_law19_begun N) (W_Made N) (W_Picks_Num N) (W_tie_New N) (W_ref19_New N) (W_ref19_SameTie N) (W_Picks_Over N) (W_tie_Tick N) (W_ref19_Tick N) (W_Picks_Msg N) (W_Picks_Path N) (W_tie_Comes N) (W_ref19_Comes N) (W_ref10_SameMsgs N) (W_tie_Fresh N) (W_ref19_Fresh N) (W_tie_Leave N) (W_ref19_Leave N) N) (Λ := L0) (pout := pout_law19_TieAll) (kp := kpL []) mixed (orcOf_ok _ (by simp only [List.mem_cons, List.not_mem_nil, or_false, forall_eq_or_imp, forall_eq]; exact ⟨con_law19_begun_ok N, con_Made_ok N, con_Picks_Num_ok N, con_tie_New_ok N, con_ref19_New_ok N, con_ref19_SameTie_ok N, con_Picks_Over_ok N, con_tie_Tick_ok N, con_ref19_Tick_ok N, con_Picks_Msg_ok N, con_Picks_Path_ok N, con_tie_Comes_ok N, con_ref19_Comes_ok N, con_ref10_SameMsgs_ok N, con_tie_Fresh_ok N, con_ref19_Fresh_ok N, con_tie_Leave_ok N, con_ref19_Leave_ok N⟩)) Try.func8 (c := bodyOf Try.f8) (by kernel_rfl) (by kernel_rfl) (of_decide_eq_true (by kernel_rfl)) ((F_law19_TieAll_eq N x).trans hr) (R_law19_TieAll_eq x r)⟩
end Go.Proofs.Ythpfomhimmppiaa.tieAllX
