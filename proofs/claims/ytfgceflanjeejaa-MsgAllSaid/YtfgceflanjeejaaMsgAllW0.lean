/- MsgAll: for all arguments the call returns true. The law is brought to a function of Lean's own (W_..) by the machine of the texts beside it, and that is reckoned; no condition. -/
import Derived.Test.YtfgceflanjeejaaExtL
import Derived.Test.YtfgceflanjeejaaRows
import Derived.WalkKit
import Derived.ProofKit
import Derived.OpenShut
import Derived.ShutString
import Derived.ChangeOld
import Derived.Below
namespace Go.Proofs.Ytfgceflanjeejaa.msgAllX
open Go.Abs Go.RowKit Go.ChangeShapes Go.WideShapes Go.ChangeAt
set_option maxRecDepth 100000
set_option linter.unusedVariables false
set_option linter.unusedSimpArgs false
abbrev T_ : Ty := (.pair (.int .i64) (.pair (.int .i64) (.pair (.int .i64) (.pair (.int .i64) (.pair (.int .i64) (.pair (.int .i64) (.pair (.list (.int .i64)) (.pair (.int .i64) (.pair (.int .i64) .str)))))))))
abbrev M_ : Type := Int × Int × Int × Int × Int × Int × (List Int) × Int × Int × List UInt8
noncomputable abbrev P0 : Program := Try.prog
noncomputable def bodyOf (fn : Func) : Code := fn.body.getD .skip
def L0 : Lend := fun f => aget [] [(56, [2])] f
def kpL (l : List Bool) : Nat → Bool := fun j => l.getD j true
theorem own : ownKnob Try.prog.godebug = none := by kernel_rfl
theorem laidOut : laidOutB Try.prog = true := by kernel_rfl
theorem mixed : P0.follows .mixedOrders = true := by decide +kernel
theorem progOk_ : progOk P0 = true := by decide +kernel
noncomputable def con_law12_begun (N : Nat) : Con := ⟨12, [], [], Unit, fun _ => some (), fun _ => (.bs true, [], [])⟩
theorem con_law12_begun_ok (N : Nat) : Con.ok P0 (con_law12_begun N) := closed_con2 (nonJ_ok _) mixed progOk_ (noneΞ_ok2 _) (inl := [14,15,33,34,35,56,93]) (breath := 100000) (n := 60) (by kernel_rfl)
def as_law12_Light : List AS := [.val (.agg T_)]
def bs_law12_Light : List BS := []
def pout_law12_Light : Pat := ⟨[(2, .val .bool)], []⟩
noncomputable def G_law12_Light  (N : Nat) : OrcT := orcOf []
noncomputable def F_law12_Light  (N : Nat) (x : M_) : Option (Bool) :=
  (evT (G_law12_Light  N) L0 P0 []
    [] N 400 (bodyOf Try.f13) ⟨13, slots 0 (argsOf as_law12_Light bs_law12_Light x), tabU (lbOf as_law12_Light bs_law12_Light x) [], []⟩).elim (kRet 13 pout_law12_Light (kpL []) (lbOf as_law12_Light bs_law12_Light x))
def out_law12_Light (y : Bool) : V × List OK × List OK := (valW .bool y, [], [])
noncomputable def V_law12_Light  (N : Nat) (x : M_) : Option (Bool) :=
  cnd
    (decide ((↑(List.length x.2.2.2.2.2.2.1) : Int) ≤ (12:Int)))
    (some
      (decide
        ((↑(List.length
              x.2.2.2.2.2.2.2.2.2) : Int) ≤
          (30:Int))))
    (some false)
theorem FV_law12_Light_eq  (N : Nat) (x : M_) : F_law12_Light  N x = V_law12_Light  N x := by kernel_rfl
noncomputable def W_law12_Light (N : Nat) (x : M_) : Option (Bool) := V_law12_Light  N x
theorem F_law12_Light_eq (N : Nat) (x : M_) : F_law12_Light  N x = W_law12_Light N x := (FV_law12_Light_eq  N x).trans (by kernel_rfl)
noncomputable def conw_law12_Light (w : M_ → Option (Bool)) : Con := ⟨13, as_law12_Light, bs_law12_Light, Bool, w, out_law12_Light⟩
noncomputable def con_law12_Light (N : Nat) : Con := conw_law12_Light (W_law12_Light N)
theorem R_law12_Light_eq (x : M_) (y : Bool) : retOf2 P0 Try.f13 (kpL []) (lbOf as_law12_Light bs_law12_Light x) (patS ⟨13, [], [], []⟩ pout_law12_Light y) = some (out_law12_Light y) := by kernel_rfl
theorem con_law12_Light_ok (N : Nat) : Con.ok P0 (con_law12_Light N) := ⟨⟨Try.f13, Try.func13, by kernel_rfl, by kernel_rfl⟩, fun (x : M_) (r : Bool) (hr : W_law12_Light N x = some r) =>
  spec2_evT (Γ := G_law12_Light N) (Λ := L0) (pout := pout_law12_Light) (kp := kpL []) mixed (orcOf_ok [] (by simp)) Try.func13 (c := bodyOf Try.f13) (by kernel_rfl) (by kernel_rfl) (of_decide_eq_true (by kernel_rfl)) ((F_law12_Light_eq N x).trans hr) (R_law12_Light_eq x r)⟩
def as_Made : List AS := [.val (.list (.int .u8))]
def bs_Made : List BS := []
def pout_Made : Pat := ⟨[(2, .ptr 600005 0)], [(600005, .box 57 (.val (.pair (.list (.int .u8)) (.int .i64))))]⟩
noncomputable def G_Made  (N : Nat) : OrcT := orcOf []
noncomputable def F_Made  (N : Nat) (x : List Int) : Option ((List Int) × Int) :=
  (evT (G_Made  N) L0 P0 []
    [] N 400 (bodyOf Try.f14) ⟨6, slots 0 (argsOf as_Made bs_Made x), tabU (lbOf as_Made bs_Made x) [], []⟩).elim (kRet 6 pout_Made (kpL []) (lbOf as_Made bs_Made x))
def out_Made (y : (List Int) × Int) : V × List OK × List OK := (.ptr 2000000 0 0, [], [.box 57 (cellsW (.pair (.list (.int .u8)) (.int .i64)) y)])
noncomputable def V_Made  (N : Nat) (x : List Int) : Option ((List Int) × Int) :=
  some (x, (0:Int))
theorem FV_Made_eq  (N : Nat) (x : List Int) : F_Made  N x = V_Made  N x := by kernel_rfl
noncomputable def W_Made (N : Nat) (x : List Int) : Option ((List Int) × Int) := V_Made  N x
theorem F_Made_eq (N : Nat) (x : List Int) : F_Made  N x = W_Made N x := (FV_Made_eq  N x).trans (by kernel_rfl)
noncomputable def conw_Made (w : List Int → Option ((List Int) × Int)) : Con := ⟨14, as_Made, bs_Made, (List Int) × Int, w, out_Made⟩
noncomputable def con_Made (N : Nat) : Con := conw_Made (W_Made N)
theorem R_Made_eq (x : List Int) (y : (List Int) × Int) : retOf2 P0 Try.f14 (kpL []) (lbOf as_Made bs_Made x) (patS ⟨6, [], [], []⟩ pout_Made y) = some (out_Made y) := by kernel_rfl
theorem con_Made_ok (N : Nat) : Con.ok P0 (con_Made N) := ⟨⟨Try.f14, Try.func14, by kernel_rfl, by kernel_rfl⟩, fun (x : List Int) (r : (List Int) × Int) (hr : W_Made N x = some r) =>
  spec2_evT (Γ := G_Made N) (Λ := L0) (pout := pout_Made) (kp := kpL []) mixed (orcOf_ok [] (by simp)) Try.func14 (c := bodyOf Try.f14) (by kernel_rfl) (by kernel_rfl) (of_decide_eq_true (by kernel_rfl)) ((F_Made_eq N x).trans hr) (R_Made_eq x r)⟩
def as_Picks_Num : List AS := [.ptr 0 0, .val (.int .i64)]
def bs_Picks_Num : List BS := [.box 57 (.pair (.list (.int .u8)) (.int .i64))]
def pout_Picks_Num : Pat := ⟨[(0, .ptr 1000000 0), (4, .val (.int .i64))], [(1000000, .box 57 (.val (.pair (.list (.int .u8)) (.int .i64))))]⟩
noncomputable def G_Picks_Num  (N : Nat) : OrcT := orcOf []
noncomputable def F_Picks_Num  (N : Nat) (x : Int × (List Int) × Int) : Option (Int × (List Int) × Int) :=
  (evT (G_Picks_Num  N) L0 P0 []
    [] N 400 (bodyOf Try.f33) ⟨40, slots 0 (argsOf as_Picks_Num bs_Picks_Num x), tabU (lbOf as_Picks_Num bs_Picks_Num x) [], []⟩).elim (kRet 40 pout_Picks_Num (kpL [true]) (lbOf as_Picks_Num bs_Picks_Num x))
def out_Picks_Num (y : Int × (List Int) × Int) : V × List OK × List OK := (valW (.int .i64) y.1, [.box 57 (cellsW (.pair (.list (.int .u8)) (.int .i64)) y.2)], [])
noncomputable def V_Picks_Num  (N : Nat) (x : Int × (List Int) × Int) : Option (Int × (List Int) × Int) :=
  cnd (decide ((↑(List.length x.2.1) : Int) ≤ x.2.2)) (some ((0:Int), x.2.1, x.2.2)) (cnd (decide (x.1 < (1:Int))) (some ((0:Int), x.2.1, x.2.2)) (cnd
    (decide ((0:Int) ≤ wr .i64 (wr .i64 (x.2.2 + (1:Int)) - (1:Int))) && decide (wr .i64 (wr .i64 (x.2.2 + (1:Int)) - (1:Int)) < (↑(List.length x.2.1) :
    Int))) (cnd (!decide (x.1 = (0:Int))) (some (Int.tmod (wr .i64 (List.getD x.2.1 (Int.toNat (wr .i64 (wr .i64 (x.2.2 + (1:Int)) - (1:Int))))
    (0:Int))) x.1, x.2.1, wr .i64 (x.2.2 + (1:Int)))) none) none))
theorem FV_Picks_Num_eq  (N : Nat) (x : Int × (List Int) × Int) : F_Picks_Num  N x = V_Picks_Num  N x := by kernel_rfl
noncomputable def W_Picks_Num (N : Nat) (x : Int × (List Int) × Int) : Option (Int × (List Int) × Int) := V_Picks_Num  N x
theorem F_Picks_Num_eq (N : Nat) (x : Int × (List Int) × Int) : F_Picks_Num  N x = W_Picks_Num N x := (FV_Picks_Num_eq  N x).trans (by kernel_rfl)
noncomputable def conw_Picks_Num (w : Int × (List Int) × Int → Option (Int × (List Int) × Int)) : Con := ⟨33, as_Picks_Num, bs_Picks_Num, Int × (List Int) × Int, w, out_Picks_Num⟩
noncomputable def con_Picks_Num (N : Nat) : Con := conw_Picks_Num (W_Picks_Num N)
theorem R_Picks_Num_eq (x : Int × (List Int) × Int) (y : Int × (List Int) × Int) : retOf2 P0 Try.f33 (kpL [true]) (lbOf as_Picks_Num bs_Picks_Num x) (patS ⟨40, [], [], []⟩ pout_Picks_Num y) = some (out_Picks_Num y) := by kernel_rfl
theorem con_Picks_Num_ok (N : Nat) : Con.ok P0 (con_Picks_Num N) := ⟨⟨Try.f33, Try.func33, by kernel_rfl, by kernel_rfl⟩, fun (x : Int × (List Int) × Int) (r : Int × (List Int) × Int) (hr : W_Picks_Num N x = some r) =>
  spec2_evT (Γ := G_Picks_Num N) (Λ := L0) (pout := pout_Picks_Num) (kp := kpL [true]) mixed (orcOf_ok [] (by simp)) Try.func33 (c := bodyOf Try.f33) (by kernel_rfl) (by kernel_rfl) (of_decide_eq_true (by kernel_rfl)) ((F_Picks_Num_eq N x).trans hr) (R_Picks_Num_eq x r)⟩
def as_ref1_Has : List AS := [.val (.list (.int .i64)), .val (.int .i64)]
def bs_ref1_Has : List BS := []
def pout_ref1_Has : Pat := ⟨[(4, .val .bool)], []⟩
noncomputable def G_ref1_Has  (N : Nat) : OrcT := orcOf []
noncomputable def F_ref1_Has  (N : Nat) (x : (List Int) × Int) : Option (Bool) :=
  (evT (G_ref1_Has  N) L0 P0 [(2, .loop [] ⟨[(5, .val (.int .i64))], []⟩ [(.exit 0, ⟨[], []⟩), (.ret, ⟨[(4, .val .bool)], []⟩)])]
    [] N 400 (bodyOf Try.f60) ⟨18, slots 0 (argsOf as_ref1_Has bs_ref1_Has x), tabU (lbOf as_ref1_Has bs_ref1_Has x) [], []⟩).elim (kRet 18 pout_ref1_Has (kpL []) (lbOf as_ref1_Has bs_ref1_Has x))
def out_ref1_Has (y : Bool) : V × List OK × List OK := (valW .bool y, [], [])
noncomputable def V_ref1_Has  (N : Nat) (x : (List Int) × Int) : Option (Bool) :=
  obind (loopN N (fun (v : Int) => cnd (decide (v < (↑(List.length x.1) : Int))) (cnd (decide ((0:Int) ≤ v) && decide (v < (↑(List.length x.1) : Int)))
    (cnd (decide (List.getD x.1 (Int.toNat v) (0:Int) = x.2)) (some (Sum.inr (Sum.inr true))) (some (Sum.inl (wr .i64 (v + (1:Int)))))) none) (some
    (Sum.inr (Sum.inl ())))) (Int.ofNat (0:Nat))) fun (b : PUnit ⊕ Bool) => selim (fun (b : PUnit) => some false) (fun (c : Bool) => some c) b
theorem FV_ref1_Has_eq  (N : Nat) (x : (List Int) × Int) : F_ref1_Has  N x = V_ref1_Has  N x := by kernel_rfl
noncomputable def W_ref1_Has (N : Nat) (x : (List Int) × Int) : Option (Bool) := V_ref1_Has  N x
theorem F_ref1_Has_eq (N : Nat) (x : (List Int) × Int) : F_ref1_Has  N x = W_ref1_Has N x := (FV_ref1_Has_eq  N x).trans (by kernel_rfl)
noncomputable def conw_ref1_Has (w : (List Int) × Int → Option (Bool)) : Con := ⟨60, as_ref1_Has, bs_ref1_Has, Bool, w, out_ref1_Has⟩
noncomputable def con_ref1_Has (N : Nat) : Con := conw_ref1_Has (W_ref1_Has N)
theorem R_ref1_Has_eq (x : (List Int) × Int) (y : Bool) : retOf2 P0 Try.f60 (kpL []) (lbOf as_ref1_Has bs_ref1_Has x) (patS ⟨18, [], [], []⟩ pout_ref1_Has y) = some (out_ref1_Has y) := by kernel_rfl
theorem con_ref1_Has_ok (N : Nat) : Con.ok P0 (con_ref1_Has N) := ⟨⟨Try.f60, Try.func60, by kernel_rfl, by kernel_rfl⟩, fun (x : (List Int) × Int) (r : Bool) (hr : W_ref1_Has N x = some r) =>
  spec2_evT (Γ := G_ref1_Has N) (Λ := L0) (pout := pout_ref1_Has) (kp := kpL []) mixed (orcOf_ok [] (by simp)) Try.func60 (c := bodyOf Try.f60) (by kernel_rfl) (by kernel_rfl) (of_decide_eq_true (by kernel_rfl)) ((F_ref1_Has_eq N x).trans hr) (R_ref1_Has_eq x r)⟩
def as_ref1_MayPath : List AS := [.val (.list (.int .i64))]
def bs_ref1_MayPath : List BS := []
def pout_ref1_MayPath : Pat := ⟨[(2, .val .bool)], []⟩
noncomputable def G_ref1_MayPath (w_ref1_Has : (List Int) × Int → Option (Bool)) (N : Nat) : OrcT := orcOf [conw_ref1_Has w_ref1_Has]
noncomputable def F_ref1_MayPath (w_ref1_Has : (List Int) × Int → Option (Bool)) (N : Nat) (x : List Int) : Option (Bool) :=
  (evT (G_ref1_MayPath w_ref1_Has N) L0 P0 [(4, .loop [] ⟨[(3, .val (.int .i64))], []⟩ [(.exit 0, ⟨[], []⟩), (.ret, ⟨[(2, .val .bool)], []⟩)])]
    [(1000001, .reg [(8, [], ⟨[(11, .val .bool)], []⟩)])] N 400 (bodyOf Try.f39) ⟨46, slots 0 (argsOf as_ref1_MayPath bs_ref1_MayPath x), tabU (lbOf as_ref1_MayPath bs_ref1_MayPath x) [], []⟩).elim (kRet 46 pout_ref1_MayPath (kpL []) (lbOf as_ref1_MayPath bs_ref1_MayPath x))
def out_ref1_MayPath (y : Bool) : V × List OK × List OK := (valW .bool y, [], [])
noncomputable def V_ref1_MayPath (w_ref1_Has : (List Int) × Int → Option (Bool)) (N : Nat) (x : List Int) : Option (Bool) :=
  obind (cnd (decide ((↑(List.length x) : Int) < (1:Int))) (some true) (some (decide ((10:Int) < (↑(List.length x) : Int))))) fun (b : Bool) => cnd b
    (some false) (cnd (decide ((0:Int) ≤ (0:Int)) && decide ((0:Int) < (↑(List.length x) : Int))) (cnd (decide (List.getD x (0:Nat) (0:Int) ≠ (1:Int)))
    (some false) (obind (loopN N (fun (v : Int) => cnd (decide (v < (↑(List.length x) : Int))) (cnd (decide ((0:Int) ≤ v) && decide (v < (↑(List.length
    x) : Int))) (cnd (decide (List.getD x (Int.toNat v) (0:Int) < (1:Int))) (some (Sum.inr (Sum.inr false))) (cnd (decide ((0:Int) ≤ v) && decide (v <
    (↑(List.length x) : Int))) (cnd (decide ((8:Int) < List.getD x (Int.toNat v) (0:Int))) (some (Sum.inr (Sum.inr false))) (cnd (decide ((0:Int) ≤ v)
    && decide (v ≤ (↑(List.length x) : Int))) (cnd (decide ((0:Int) ≤ v) && decide (v < (↑(List.length x) : Int))) (obind (w_ref1_Has (List.drop
    (0:Nat) (List.take (Int.toNat v) x), List.getD x (Int.toNat v) (0:Int))) fun b => cnd b (some (Sum.inr (Sum.inr false))) (some (Sum.inl (wr .i64 (v
    + (1:Int)))))) none) none)) none)) none) (some (Sum.inr (Sum.inl ())))) (Int.ofNat (0:Nat))) fun (b : PUnit ⊕ Bool) => selim (fun (b : PUnit) =>
    some true) (fun (c : Bool) => some c) b)) none)
theorem FV_ref1_MayPath_eq (w_ref1_Has : (List Int) × Int → Option (Bool)) (N : Nat) (x : List Int) : F_ref1_MayPath w_ref1_Has N x = V_ref1_MayPath w_ref1_Has N x := by kernel_rfl
noncomputable def W_ref1_MayPath (N : Nat) (x : List Int) : Option (Bool) := V_ref1_MayPath (W_ref1_Has N) N x
theorem F_ref1_MayPath_eq (N : Nat) (x : List Int) : F_ref1_MayPath (W_ref1_Has N) N x = W_ref1_MayPath N x := (FV_ref1_MayPath_eq (W_ref1_Has N) N x).trans (by kernel_rfl)
noncomputable def conw_ref1_MayPath (w : List Int → Option (Bool)) : Con := ⟨39, as_ref1_MayPath, bs_ref1_MayPath, Bool, w, out_ref1_MayPath⟩
noncomputable def con_ref1_MayPath (N : Nat) : Con := conw_ref1_MayPath (W_ref1_MayPath N)
theorem R_ref1_MayPath_eq (x : List Int) (y : Bool) : retOf2 P0 Try.f39 (kpL []) (lbOf as_ref1_MayPath bs_ref1_MayPath x) (patS ⟨46, [], [], []⟩ pout_ref1_MayPath y) = some (out_ref1_MayPath y) := by kernel_rfl
theorem con_ref1_MayPath_ok (N : Nat) : Con.ok P0 (con_ref1_MayPath N) := ⟨⟨Try.f39, Try.func39, by kernel_rfl, by kernel_rfl⟩, fun (x : List Int) (r : Bool) (hr : W_ref1_MayPath N x = some r) =>
  spec2_evT (Γ := G_ref1_MayPath (W_ref1_Has N) N) (Λ := L0) (pout := pout_ref1_MayPath) (kp := kpL []) mixed (orcOf_ok _ (by simp only [List.mem_cons, List.not_mem_nil, or_false, forall_eq_or_imp, forall_eq]; exact con_ref1_Has_ok N)) Try.func39 (c := bodyOf Try.f39) (by kernel_rfl) (by kernel_rfl) (of_decide_eq_true (by kernel_rfl)) ((F_ref1_MayPath_eq N x).trans hr) (R_ref1_MayPath_eq x r)⟩
def as_ref1_AddPath : List AS := [.val (.list (.int .i64)), .val (.int .i64)]
def bs_ref1_AddPath : List BS := []
def pout_ref1_AddPath : Pat := ⟨[(4, .val (.list (.int .i64))), (5, .val .bool)], []⟩
noncomputable def G_ref1_AddPath (w_ref1_MayPath : List Int → Option (Bool)) (N : Nat) : OrcT := orcOf [conw_ref1_MayPath w_ref1_MayPath]
noncomputable def F_ref1_AddPath (w_ref1_MayPath : List Int → Option (Bool)) (N : Nat) (x : (List Int) × Int) : Option ((List Int) × Bool) :=
  (evT (G_ref1_AddPath w_ref1_MayPath N) L0 P0 []
    [] N 400 (bodyOf Try.f58) ⟨17, slots 0 (argsOf as_ref1_AddPath bs_ref1_AddPath x), tabU (lbOf as_ref1_AddPath bs_ref1_AddPath x) [], []⟩).elim (kRet 17 pout_ref1_AddPath (kpL []) (lbOf as_ref1_AddPath bs_ref1_AddPath x))
def out_ref1_AddPath (y : (List Int) × Bool) : V × List OK × List OK := (.tup [valW (.list (.int .i64)) y.1, valW .bool y.2], [], [])
noncomputable def V_ref1_AddPath (w_ref1_MayPath : List Int → Option (Bool)) (N : Nat) (x : (List Int) × Int) : Option ((List Int) × Bool) :=
  cnd (decide (List.length x.1 * (8:Nat) ≤ (140737488355328:Nat)))
    (cnd (decide ((List.length x.1 + List.length [x.2]) * (8:Nat) ≤ (140737488355328:Nat)))
      (obind (w_ref1_MayPath (x.1 ++ [x.2])) fun b =>
        cnd (!b) (some ([], false)) (some (x.1 ++ [x.2], true)))
      none)
    none
theorem FV_ref1_AddPath_eq (w_ref1_MayPath : List Int → Option (Bool)) (N : Nat) (x : (List Int) × Int) : F_ref1_AddPath w_ref1_MayPath N x = V_ref1_AddPath w_ref1_MayPath N x := by kernel_rfl
noncomputable def W_ref1_AddPath (N : Nat) (x : (List Int) × Int) : Option ((List Int) × Bool) := V_ref1_AddPath (W_ref1_MayPath N) N x
theorem F_ref1_AddPath_eq (N : Nat) (x : (List Int) × Int) : F_ref1_AddPath (W_ref1_MayPath N) N x = W_ref1_AddPath N x := (FV_ref1_AddPath_eq (W_ref1_MayPath N) N x).trans (by kernel_rfl)
noncomputable def conw_ref1_AddPath (w : (List Int) × Int → Option ((List Int) × Bool)) : Con := ⟨58, as_ref1_AddPath, bs_ref1_AddPath, (List Int) × Bool, w, out_ref1_AddPath⟩
noncomputable def con_ref1_AddPath (N : Nat) : Con := conw_ref1_AddPath (W_ref1_AddPath N)
theorem R_ref1_AddPath_eq (x : (List Int) × Int) (y : (List Int) × Bool) : retOf2 P0 Try.f58 (kpL []) (lbOf as_ref1_AddPath bs_ref1_AddPath x) (patS ⟨17, [], [], []⟩ pout_ref1_AddPath y) = some (out_ref1_AddPath y) := by kernel_rfl
theorem con_ref1_AddPath_ok (N : Nat) : Con.ok P0 (con_ref1_AddPath N) := ⟨⟨Try.f58, Try.func58, by kernel_rfl, by kernel_rfl⟩, fun (x : (List Int) × Int) (r : (List Int) × Bool) (hr : W_ref1_AddPath N x = some r) =>
  spec2_evT (Γ := G_ref1_AddPath (W_ref1_MayPath N) N) (Λ := L0) (pout := pout_ref1_AddPath) (kp := kpL []) mixed (orcOf_ok _ (by simp only [List.mem_cons, List.not_mem_nil, or_false, forall_eq_or_imp, forall_eq]; exact con_ref1_MayPath_ok N)) Try.func58 (c := bodyOf Try.f58) (by kernel_rfl) (by kernel_rfl) (of_decide_eq_true (by kernel_rfl)) ((F_ref1_AddPath_eq N x).trans hr) (R_ref1_AddPath_eq x r)⟩
def as_Picks_Path : List AS := [.ptr 0 0]
def bs_Picks_Path : List BS := [.box 57 (.pair (.list (.int .u8)) (.int .i64))]
def pout_Picks_Path : Pat := ⟨[(0, .ptr 1000000 0), (2, .val (.list (.int .i64)))], [(1000000, .box 57 (.val (.pair (.list (.int .u8)) (.int .i64))))]⟩
noncomputable def G_Picks_Path (w_Picks_Num : Int × (List Int) × Int → Option (Int × (List Int) × Int)) (w_ref1_AddPath : (List Int) × Int → Option ((List Int) × Bool)) (N : Nat) : OrcT := orcOf [conw_Picks_Num w_Picks_Num, conw_ref1_AddPath w_ref1_AddPath]
noncomputable def F_Picks_Path (w_Picks_Num : Int × (List Int) × Int → Option (Int × (List Int) × Int)) (w_ref1_AddPath : (List Int) × Int → Option ((List Int) × Bool)) (N : Nat) (x : (List Int) × Int) : Option ((List Int) × (List Int) × Int) :=
  (evT (G_Picks_Path w_Picks_Num w_ref1_AddPath N) L0 P0 [(3, .loop [] ⟨[(0, .ptr 1000000 0), (3, .val (.list (.int .i64))), (4, .val (.int .i64))], [(1000000, .box 57 (.val (.pair (.list (.int .u8)) (.int .i64))))]⟩ [(.exit 0, ⟨[(0, .ptr 1000000 0), (3, .val (.list (.int .i64)))], [(1000000, .box 57 (.val (.pair (.list (.int .u8)) (.int .i64))))]⟩)])]
    [] N 400 (bodyOf Try.f34) ⟨25, slots 0 (argsOf as_Picks_Path bs_Picks_Path x), tabU (lbOf as_Picks_Path bs_Picks_Path x) [], []⟩).elim (kRet 25 pout_Picks_Path (kpL [true]) (lbOf as_Picks_Path bs_Picks_Path x))
def out_Picks_Path (y : (List Int) × (List Int) × Int) : V × List OK × List OK := (valW (.list (.int .i64)) y.1, [.box 57 (cellsW (.pair (.list (.int .u8)) (.int .i64)) y.2)], [])
noncomputable def V_Picks_Path (w_Picks_Num : Int × (List Int) × Int → Option (Int × (List Int) × Int)) (w_ref1_AddPath : (List Int) × Int → Option ((List Int) × Bool)) (N : Nat) (x : (List Int) × Int) : Option ((List Int) × (List Int) × Int) :=
  obind (w_Picks_Num ((4:Int), x.1, x.2)) fun b => obind (loopN N (fun (v : List Int × Int × List Int × Int) => cnd (decide ((0:Int) < v.2.1)) (obind
    (w_Picks_Num ((7:Int), v.2.2.1, v.2.2.2)) fun b => obind (w_ref1_AddPath (v.1, wr .i64 ((2:Int) + b.1))) fun b_1 => cnd b_1.2 (some (Sum.inl
    (b_1.1, wr .i64 (v.2.1 - (1:Int)), b.2.1, b.2.2))) (some (Sum.inl (v.1, wr .i64 (v.2.1 - (1:Int)), b.2.1, b.2.2)))) (some (Sum.inr (v.1, v.2.2.1,
    v.2.2.2)))) ([(1:Int)], b.1, b.2.1, b.2.2)) fun (b : List Int × List Int × Int) => some (b.1, b.2.1, b.2.2)
theorem FV_Picks_Path_eq (w_Picks_Num : Int × (List Int) × Int → Option (Int × (List Int) × Int)) (w_ref1_AddPath : (List Int) × Int → Option ((List Int) × Bool)) (N : Nat) (x : (List Int) × Int) : F_Picks_Path w_Picks_Num w_ref1_AddPath N x = V_Picks_Path w_Picks_Num w_ref1_AddPath N x := by kernel_rfl
noncomputable def W_Picks_Path (N : Nat) (x : (List Int) × Int) : Option ((List Int) × (List Int) × Int) := V_Picks_Path (W_Picks_Num N) (W_ref1_AddPath N) N x
theorem F_Picks_Path_eq (N : Nat) (x : (List Int) × Int) : F_Picks_Path (W_Picks_Num N) (W_ref1_AddPath N) N x = W_Picks_Path N x := (FV_Picks_Path_eq (W_Picks_Num N) (W_ref1_AddPath N) N x).trans (by kernel_rfl)
noncomputable def conw_Picks_Path (w : (List Int) × Int → Option ((List Int) × (List Int) × Int)) : Con := ⟨34, as_Picks_Path, bs_Picks_Path, (List Int) × (List Int) × Int, w, out_Picks_Path⟩
noncomputable def con_Picks_Path (N : Nat) : Con := conw_Picks_Path (W_Picks_Path N)
theorem R_Picks_Path_eq (x : (List Int) × Int) (y : (List Int) × (List Int) × Int) : retOf2 P0 Try.f34 (kpL [true]) (lbOf as_Picks_Path bs_Picks_Path x) (patS ⟨25, [], [], []⟩ pout_Picks_Path y) = some (out_Picks_Path y) := by kernel_rfl
theorem con_Picks_Path_ok (N : Nat) : Con.ok P0 (con_Picks_Path N) := ⟨⟨Try.f34, Try.func34, by kernel_rfl, by kernel_rfl⟩, fun (x : (List Int) × Int) (r : (List Int) × (List Int) × Int) (hr : W_Picks_Path N x = some r) =>
  spec2_evT (Γ := G_Picks_Path (W_Picks_Num N) (W_ref1_AddPath N) N) (Λ := L0) (pout := pout_Picks_Path) (kp := kpL [true]) mixed (orcOf_ok _ (by simp only [List.mem_cons, List.not_mem_nil, or_false, forall_eq_or_imp, forall_eq]; exact ⟨con_Picks_Num_ok N, con_ref1_AddPath_ok N⟩)) Try.func34 (c := bodyOf Try.f34) (by kernel_rfl) (by kernel_rfl) (of_decide_eq_true (by kernel_rfl)) ((F_Picks_Path_eq N x).trans hr) (R_Picks_Path_eq x r)⟩
def as_Picks_Text : List AS := [.ptr 0 0]
def bs_Picks_Text : List BS := [.box 57 (.pair (.list (.int .u8)) (.int .i64))]
def pout_Picks_Text : Pat := ⟨[(0, .ptr 1000000 0), (2, .val .str)], [(1000000, .box 57 (.val (.pair (.list (.int .u8)) (.int .i64))))]⟩
noncomputable def G_Picks_Text (w_Picks_Num : Int × (List Int) × Int → Option (Int × (List Int) × Int)) (N : Nat) : OrcT := orcOf [conw_Picks_Num w_Picks_Num]
noncomputable def F_Picks_Text (w_Picks_Num : Int × (List Int) × Int → Option (Int × (List Int) × Int)) (N : Nat) (x : (List Int) × Int) : Option ((List UInt8) × (List Int) × Int) :=
  (evT (G_Picks_Text w_Picks_Num N) L0 P0 []
    [] N 400 (bodyOf Try.f35) ⟨8, slots 0 (argsOf as_Picks_Text bs_Picks_Text x), tabU (lbOf as_Picks_Text bs_Picks_Text x) [], []⟩).elim (kRet 8 pout_Picks_Text (kpL [true]) (lbOf as_Picks_Text bs_Picks_Text x))
def out_Picks_Text (y : (List UInt8) × (List Int) × Int) : V × List OK × List OK := (valW .str y.1, [.box 57 (cellsW (.pair (.list (.int .u8)) (.int .i64)) y.2)], [])
noncomputable def V_Picks_Text (w_Picks_Num : Int × (List Int) × Int → Option (Int × (List Int) × Int)) (N : Nat) (x : (List Int) × Int) : Option ((List UInt8) × (List Int) × Int) :=
  obind (w_Picks_Num ((5:Int), x.1, x.2)) fun b => cnd (decide ((0:Int) ≤ b.1)) (cnd (decide (b.1 < (↑(5:Nat) : Int))) (some (List.getD [[], [(97 :
    UInt8)], [(98 : UInt8), (99 : UInt8)], [(104 : UInt8), (101 : UInt8), (108 : UInt8), (108 : UInt8), (111 : UInt8)], [(116 : UInt8), (119 : UInt8),
    (101 : UInt8), (108 : UInt8), (118 : UInt8), (101 : UInt8), (32 : UInt8), (98 : UInt8), (121 : UInt8), (116 : UInt8), (101 : UInt8), (115 : UInt8)]]
    (Int.toNat b.1) [], b.2.1, b.2.2)) none) none
theorem FV_Picks_Text_eq (w_Picks_Num : Int × (List Int) × Int → Option (Int × (List Int) × Int)) (N : Nat) (x : (List Int) × Int) : F_Picks_Text w_Picks_Num N x = V_Picks_Text w_Picks_Num N x := by kernel_rfl
noncomputable def W_Picks_Text (N : Nat) (x : (List Int) × Int) : Option ((List UInt8) × (List Int) × Int) := V_Picks_Text (W_Picks_Num N) N x
theorem F_Picks_Text_eq (N : Nat) (x : (List Int) × Int) : F_Picks_Text (W_Picks_Num N) N x = W_Picks_Text N x := (FV_Picks_Text_eq (W_Picks_Num N) N x).trans (by kernel_rfl)
noncomputable def conw_Picks_Text (w : (List Int) × Int → Option ((List UInt8) × (List Int) × Int)) : Con := ⟨35, as_Picks_Text, bs_Picks_Text, (List UInt8) × (List Int) × Int, w, out_Picks_Text⟩
noncomputable def con_Picks_Text (N : Nat) : Con := conw_Picks_Text (W_Picks_Text N)
theorem R_Picks_Text_eq (x : (List Int) × Int) (y : (List UInt8) × (List Int) × Int) : retOf2 P0 Try.f35 (kpL [true]) (lbOf as_Picks_Text bs_Picks_Text x) (patS ⟨8, [], [], []⟩ pout_Picks_Text y) = some (out_Picks_Text y) := by kernel_rfl
theorem con_Picks_Text_ok (N : Nat) : Con.ok P0 (con_Picks_Text N) := ⟨⟨Try.f35, Try.func35, by kernel_rfl, by kernel_rfl⟩, fun (x : (List Int) × Int) (r : (List UInt8) × (List Int) × Int) (hr : W_Picks_Text N x = some r) =>
  spec2_evT (Γ := G_Picks_Text (W_Picks_Num N) N) (Λ := L0) (pout := pout_Picks_Text) (kp := kpL [true]) mixed (orcOf_ok _ (by simp only [List.mem_cons, List.not_mem_nil, or_false, forall_eq_or_imp, forall_eq]; exact con_Picks_Num_ok N)) Try.func35 (c := bodyOf Try.f35) (by kernel_rfl) (by kernel_rfl) (of_decide_eq_true (by kernel_rfl)) ((F_Picks_Text_eq N x).trans hr) (R_Picks_Text_eq x r)⟩
def as_Picks_Msg : List AS := [.ptr 0 0, .val (.int .i64)]
def bs_Picks_Msg : List BS := [.box 57 (.pair (.list (.int .u8)) (.int .i64))]
def pout_Picks_Msg : Pat := ⟨[(0, .ptr 1000000 0), (4, .ptr 600004 0)], [(1000000, .box 57 (.val (.pair (.list (.int .u8)) (.int .i64)))), (600004, .box 24 (.val T_))]⟩
noncomputable def G_Picks_Msg (w_Picks_Num : Int × (List Int) × Int → Option (Int × (List Int) × Int)) (w_Picks_Path : (List Int) × Int → Option ((List Int) × (List Int) × Int)) (w_Picks_Text : (List Int) × Int → Option ((List UInt8) × (List Int) × Int)) (N : Nat) : OrcT := orcOf [conw_Picks_Num w_Picks_Num, conw_Picks_Path w_Picks_Path, conw_Picks_Text w_Picks_Text]
noncomputable def F_Picks_Msg (w_Picks_Num : Int × (List Int) × Int → Option (Int × (List Int) × Int)) (w_Picks_Path : (List Int) × Int → Option ((List Int) × (List Int) × Int)) (w_Picks_Text : (List Int) × Int → Option ((List UInt8) × (List Int) × Int)) (N : Nat) (x : Int × (List Int) × Int) : Option (((List Int) × Int) × M_) :=
  (evT (G_Picks_Msg w_Picks_Num w_Picks_Path w_Picks_Text N) L0 P0 []
    [(14, .cut [] [(.normal, ⟨[(0, .ptr 1000000 0), (4, .ptr 600004 0), (6, .ptr 600006 0), (64, .val .bool)], [(1000000, .box 57 (.val (.pair (.list (.int .u8)) (.int .i64)))), (600004, .box 24 (.val T_)), (600006, .box 24 (.val T_))]⟩)]),
    (4, .cut [] [(.normal, ⟨[(0, .ptr 1000000 0), (4, .ptr 600004 0), (5, .val (.int .i64))], [(1000000, .box 57 (.val (.pair (.list (.int .u8)) (.int .i64)))), (600004, .box 24 (.val T_))]⟩)])] N 400 (bodyOf Try.f15) ⟨78, slots 0 (argsOf as_Picks_Msg bs_Picks_Msg x), tabU (lbOf as_Picks_Msg bs_Picks_Msg x) [], []⟩).elim (kRet 78 pout_Picks_Msg (kpL [true]) (lbOf as_Picks_Msg bs_Picks_Msg x))
def out_Picks_Msg (y : ((List Int) × Int) × M_) : V × List OK × List OK := (valW (.agg T_) y.2, [.box 57 (cellsW (.pair (.list (.int .u8)) (.int .i64)) y.1)], [])
noncomputable def V_Picks_Msg (w_Picks_Num : Int × (List Int) × Int → Option (Int × (List Int) × Int)) (w_Picks_Path : (List Int) × Int → Option ((List Int) × (List Int) × Int)) (w_Picks_Text : (List Int) × Int → Option ((List UInt8) × (List Int) × Int)) (N : Nat) (x : Int × (List Int) × Int) : Option (((List Int) × Int) × M_) :=
  obind (w_Picks_Num ((8:Int), x.2.1, x.2.2)) fun b => obind (cnd (decide (wr .i64 ((1:Int) + b.1) = x.1)) (some (wr .i64 ((1:Int) + Int.tmod x.1
    (8:Int)), (b.2.1, b.2.2), (0:Int), (0:Int), (0:Int), (0:Int), (0:Int), (0:Int), [], (0:Int), (0:Int), [])) (some (wr .i64 ((1:Int) + b.1), (b.2.1,
    b.2.2), (0:Int), (0:Int), (0:Int), (0:Int), (0:Int), (0:Int), [], (0:Int), (0:Int), []))) fun (b : Int × (List Int × Int) × Int × Int × Int × Int ×
    Int × Int × List Int × Int × Int × List UInt8) => obind (w_Picks_Num ((9:Int), b.2.1.1, b.2.1.2)) fun b_1 => obind (w_Picks_Num ((3:Int),
    b_1.2.1, b_1.2.2)) fun b_2 => cnd (decide (wr .i64 ((1:Int) + b_1.1) = (2:Int))) (obind (w_Picks_Num ((20:Int), b_2.2.1, b_2.2.2)) fun b_3 =>
    obind (w_Picks_Num ((25:Int), b_3.2.1, b_3.2.2)) fun b_4 => obind (w_Picks_Path (b_4.2.1, b_4.2.2)) fun b_5 => obind (w_Picks_Num ((9:Int),
    b_5.2.1, b_5.2.2)) fun b_6 => some ((b_6.2.1, b_6.2.2), wr .i64 ((1:Int) + b_1.1), b.1, x.1, wr .i64 ((1:Int) + b_2.1), b_3.1, b_4.1, b_5.1, b_6.1,
    (0:Int), [])) (cnd (decide (wr .i64 ((1:Int) + b_1.1) = (5:Int))) (obind (w_Picks_Num ((20:Int), b_2.2.1, b_2.2.2)) fun b_3 => obind (w_Picks_Num ((25:Int), b_3.2.1, b_3.2.2)) fun b_4 => obind (w_Picks_Path (b_4.2.1, b_4.2.2)) fun b_5 => obind (w_Picks_Num ((12:Int), b_5.2.1, b_5.2.2))
    fun b_6 => some ((b_6.2.1, b_6.2.2), wr .i64 ((1:Int) + b_1.1), b.1, x.1, wr .i64 ((1:Int) + b_2.1), b_3.1, b_4.1, b_5.1, (0:Int), b_6.1, [])) (cnd
    (decide (wr .i64 ((1:Int) + b_1.1) = (7:Int))) (obind (w_Picks_Num ((12:Int), b_2.2.1, b_2.2.2)) fun b_3 => obind (w_Picks_Text (b_3.2.1,
    b_3.2.2)) fun b_4 => some ((b_4.2.1, b_4.2.2), wr .i64 ((1:Int) + b_1.1), b.1, x.1, wr .i64 ((1:Int) + b_2.1), (0:Int), (0:Int), [], wr .i64
    ((1:Int) + b_3.1), (0:Int), b_4.1)) (obind (cnd (decide (wr .i64 ((1:Int) + b_1.1) = (8:Int))) (some (decide (wr .i64 ((1:Int) + b_1.1) = (8:Int)),
    (b_2.2.1, b_2.2.2), (b.2.2.1, b.2.2.2.1, b.2.2.2.2.1, b.2.2.2.2.2.1, b.2.2.2.2.2.2.1, b.2.2.2.2.2.2.2.1, b.2.2.2.2.2.2.2.2.1, b.2.2.2.2.2.2.2.2.2.1,
    b.2.2.2.2.2.2.2.2.2.2.1, b.2.2.2.2.2.2.2.2.2.2.2), wr .i64 ((1:Int) + b_1.1), b.1, x.1, wr .i64 ((1:Int) + b_2.1), (0:Int), (0:Int), [], (0:Int),
    (0:Int), [])) (some (decide (wr .i64 ((1:Int) + b_1.1) = (9:Int)), (b_2.2.1, b_2.2.2), (b.2.2.1, b.2.2.2.1, b.2.2.2.2.1, b.2.2.2.2.2.1,
    b.2.2.2.2.2.2.1, b.2.2.2.2.2.2.2.1, b.2.2.2.2.2.2.2.2.1, b.2.2.2.2.2.2.2.2.2.1, b.2.2.2.2.2.2.2.2.2.2.1, b.2.2.2.2.2.2.2.2.2.2.2), wr .i64 ((1:Int)
    + b_1.1), b.1, x.1, wr .i64 ((1:Int) + b_2.1), (0:Int), (0:Int), [], (0:Int), (0:Int), []))) fun (b : Bool × (List Int × Int) × (Int × Int × Int ×
    Int × Int × Int × List Int × Int × Int × List UInt8) × Int × Int × Int × Int × Int × Int × List Int × Int × Int × List UInt8) => cnd b.1 (obind
    (w_Picks_Num ((9:Int), b.2.1.1, b.2.1.2)) fun b_3 => obind (w_Picks_Num ((6:Int), b_3.2.1, b_3.2.2)) fun b_4 => some ((b_4.2.1, b_4.2.2),
    b.2.2.2.1, b.2.2.2.2.1, b.2.2.2.2.2.1, b.2.2.2.2.2.2.1, b.2.2.2.2.2.2.2.1, b.2.2.2.2.2.2.2.2.1, b.2.2.2.2.2.2.2.2.2.1, wr .i64 ((1:Int) + b_3.1), wr
    .i64 (wr .i64 ((1:Int) + b_3.1) + b_4.1), b.2.2.2.2.2.2.2.2.2.2.2.2)) (some ((b.2.1.1, b.2.1.2), b.2.2.2.1, b.2.2.2.2.1, b.2.2.2.2.2.1,
    b.2.2.2.2.2.2.1, b.2.2.2.2.2.2.2.1, b.2.2.2.2.2.2.2.2.1, b.2.2.2.2.2.2.2.2.2.1, b.2.2.2.2.2.2.2.2.2.2.1, b.2.2.2.2.2.2.2.2.2.2.2.1,
    b.2.2.2.2.2.2.2.2.2.2.2.2)))))
theorem FV_Picks_Msg_eq (w_Picks_Num : Int × (List Int) × Int → Option (Int × (List Int) × Int)) (w_Picks_Path : (List Int) × Int → Option ((List Int) × (List Int) × Int)) (w_Picks_Text : (List Int) × Int → Option ((List UInt8) × (List Int) × Int)) (N : Nat) (x : Int × (List Int) × Int) : F_Picks_Msg w_Picks_Num w_Picks_Path w_Picks_Text N x = V_Picks_Msg w_Picks_Num w_Picks_Path w_Picks_Text N x := by kernel_rfl
noncomputable def W_Picks_Msg (N : Nat) (x : Int × (List Int) × Int) : Option (((List Int) × Int) × M_) := V_Picks_Msg (W_Picks_Num N) (W_Picks_Path N) (W_Picks_Text N) N x
theorem F_Picks_Msg_eq (N : Nat) (x : Int × (List Int) × Int) : F_Picks_Msg (W_Picks_Num N) (W_Picks_Path N) (W_Picks_Text N) N x = W_Picks_Msg N x := (FV_Picks_Msg_eq (W_Picks_Num N) (W_Picks_Path N) (W_Picks_Text N) N x).trans (by kernel_rfl)
noncomputable def conw_Picks_Msg (w : Int × (List Int) × Int → Option (((List Int) × Int) × M_)) : Con := ⟨15, as_Picks_Msg, bs_Picks_Msg, ((List Int) × Int) × M_, w, out_Picks_Msg⟩
noncomputable def con_Picks_Msg (N : Nat) : Con := conw_Picks_Msg (W_Picks_Msg N)
theorem R_Picks_Msg_eq (x : Int × (List Int) × Int) (y : ((List Int) × Int) × M_) : retOf2 P0 Try.f15 (kpL [true]) (lbOf as_Picks_Msg bs_Picks_Msg x) (patS ⟨78, [], [], []⟩ pout_Picks_Msg y) = some (out_Picks_Msg y) := by kernel_rfl
theorem con_Picks_Msg_ok (N : Nat) : Con.ok P0 (con_Picks_Msg N) := ⟨⟨Try.f15, Try.func15, by kernel_rfl, by kernel_rfl⟩, fun (x : Int × (List Int) × Int) (r : ((List Int) × Int) × M_) (hr : W_Picks_Msg N x = some r) =>
  spec2_evT (Γ := G_Picks_Msg (W_Picks_Num N) (W_Picks_Path N) (W_Picks_Text N) N) (Λ := L0) (pout := pout_Picks_Msg) (kp := kpL [true]) mixed (orcOf_ok _ (by simp only [List.mem_cons, List.not_mem_nil, or_false, forall_eq_or_imp, forall_eq]; exact ⟨con_Picks_Num_ok N, con_Picks_Path_ok N, con_Picks_Text_ok N⟩)) Try.func15 (c := bodyOf Try.f15) (by kernel_rfl) (by kernel_rfl) (of_decide_eq_true (by kernel_rfl)) ((F_Picks_Msg_eq N x).trans hr) (R_Picks_Msg_eq x r)⟩
def as_msg_in : List AS := [.val (.int .i64), .val (.int .i64), .val (.int .i64)]
def bs_msg_in : List BS := []
def pout_msg_in : Pat := ⟨[(6, .val .bool)], []⟩
noncomputable def G_msg_in  (N : Nat) : OrcT := orcOf []
noncomputable def F_msg_in  (N : Nat) (x : Int × Int × Int) : Option (Bool) :=
  (evT (G_msg_in  N) L0 P0 []
    [] N 400 (bodyOf Try.f36) ⟨15, slots 0 (argsOf as_msg_in bs_msg_in x), tabU (lbOf as_msg_in bs_msg_in x) [], []⟩).elim (kRet 15 pout_msg_in (kpL []) (lbOf as_msg_in bs_msg_in x))
def out_msg_in (y : Bool) : V × List OK × List OK := (valW .bool y, [], [])
noncomputable def V_msg_in  (N : Nat) (x : Int × Int × Int) : Option (Bool) :=
  cnd (decide (x.2.1 ≤ x.1)) (some (decide (x.1 ≤ x.2.2))) (some false)
theorem FV_msg_in_eq  (N : Nat) (x : Int × Int × Int) : F_msg_in  N x = V_msg_in  N x := by kernel_rfl
noncomputable def W_msg_in (N : Nat) (x : Int × Int × Int) : Option (Bool) := V_msg_in  N x
theorem F_msg_in_eq (N : Nat) (x : Int × Int × Int) : F_msg_in  N x = W_msg_in N x := (FV_msg_in_eq  N x).trans (by kernel_rfl)
noncomputable def conw_msg_in (w : Int × Int × Int → Option (Bool)) : Con := ⟨36, as_msg_in, bs_msg_in, Bool, w, out_msg_in⟩
noncomputable def con_msg_in (N : Nat) : Con := conw_msg_in (W_msg_in N)
theorem R_msg_in_eq (x : Int × Int × Int) (y : Bool) : retOf2 P0 Try.f36 (kpL []) (lbOf as_msg_in bs_msg_in x) (patS ⟨15, [], [], []⟩ pout_msg_in y) = some (out_msg_in y) := by kernel_rfl
theorem con_msg_in_ok (N : Nat) : Con.ok P0 (con_msg_in N) := ⟨⟨Try.f36, Try.func36, by kernel_rfl, by kernel_rfl⟩, fun (x : Int × Int × Int) (r : Bool) (hr : W_msg_in N x = some r) =>
  spec2_evT (Γ := G_msg_in N) (Λ := L0) (pout := pout_msg_in) (kp := kpL []) mixed (orcOf_ok [] (by simp)) Try.func36 (c := bodyOf Try.f36) (by kernel_rfl) (by kernel_rfl) (of_decide_eq_true (by kernel_rfl)) ((F_msg_in_eq N x).trans hr) (R_msg_in_eq x r)⟩
def as_msg_own : List AS := [.val (.agg T_)]
def bs_msg_own : List BS := []
def pout_msg_own : Pat := ⟨[(2, .ptr 600002 0)], [(600002, .box 24 (.val T_))]⟩
noncomputable def G_msg_own  (N : Nat) : OrcT := orcOf []
noncomputable def F_msg_own  (N : Nat) (x : M_) : Option (M_) :=
  (evT (G_msg_own  N) L0 P0 []
    [(11, .cut [] [(.normal, ⟨[(1, .ptr 600001 0), (2, .ptr 600002 0), (3, .ptr 600003 0), (51, .val .bool)], [(600001, .box 24 (.val T_)), (600002, .box 24 (.val T_)), (600003, .box 24 (.val T_))]⟩)])] N 400 (bodyOf Try.f37) ⟨61, slots 0 (argsOf as_msg_own bs_msg_own x), tabU (lbOf as_msg_own bs_msg_own x) [], []⟩).elim (kRet 61 pout_msg_own (kpL []) (lbOf as_msg_own bs_msg_own x))
def out_msg_own (y : M_) : V × List OK × List OK := (valW (.agg T_) y, [], [])
noncomputable def V_msg_own  (N : Nat) (x : M_) : Option (M_) :=
  cnd (decide (x.1 = (2:Int))) (some (x.1, x.2.1, x.2.2.1, x.2.2.2.1, x.2.2.2.2.1, x.2.2.2.2.2.1, x.2.2.2.2.2.2.1, x.2.2.2.2.2.2.2.1, (0:Int), [])) (cnd
    (decide (x.1 = (5:Int))) (some (x.1, x.2.1, x.2.2.1, x.2.2.2.1, x.2.2.2.2.1, x.2.2.2.2.2.1, x.2.2.2.2.2.2.1, (0:Int), x.2.2.2.2.2.2.2.2.1, [])) (cnd
    (decide (x.1 = (7:Int))) (some (x.1, x.2.1, x.2.2.1, x.2.2.2.1, (0:Int), (0:Int), [], x.2.2.2.2.2.2.2.1, (0:Int), x.2.2.2.2.2.2.2.2.2)) (obind (cnd
    (decide (x.1 = (8:Int))) (some (decide (x.1 = (8:Int)), (x.1, x.2.1, x.2.2.1, x.2.2.2.1, x.2.2.2.2.1, x.2.2.2.2.2.1, x.2.2.2.2.2.2.1,
    x.2.2.2.2.2.2.2.1, x.2.2.2.2.2.2.2.2.1, x.2.2.2.2.2.2.2.2.2), ((0:Int), (0:Int), (0:Int), (0:Int), (0:Int), (0:Int), [], (0:Int), (0:Int), []), x.1,
    x.2.1, x.2.2.1, x.2.2.2.1, (0:Int), (0:Int), [], (0:Int), (0:Int), [])) (some (decide (x.1 = (9:Int)), (x.1, x.2.1, x.2.2.1, x.2.2.2.1, x.2.2.2.2.1,
    x.2.2.2.2.2.1, x.2.2.2.2.2.2.1, x.2.2.2.2.2.2.2.1, x.2.2.2.2.2.2.2.2.1, x.2.2.2.2.2.2.2.2.2), ((0:Int), (0:Int), (0:Int), (0:Int), (0:Int), (0:Int),
    [], (0:Int), (0:Int), []), x.1, x.2.1, x.2.2.1, x.2.2.2.1, (0:Int), (0:Int), [], (0:Int), (0:Int), []))) fun (b : Bool × (Int × Int × Int × Int ×
    Int × Int × List Int × Int × Int × List UInt8) × (Int × Int × Int × Int × Int × Int × List Int × Int × Int × List UInt8) × Int × Int × Int × Int ×
    Int × Int × List Int × Int × Int × List UInt8) => cnd b.1 (some (b.2.2.2.1, b.2.2.2.2.1, b.2.2.2.2.2.1, b.2.2.2.2.2.2.1, b.2.2.2.2.2.2.2.1,
    b.2.2.2.2.2.2.2.2.1, b.2.2.2.2.2.2.2.2.2.1, b.2.1.2.2.2.2.2.2.2.1, b.2.1.2.2.2.2.2.2.2.2.1, b.2.2.2.2.2.2.2.2.2.2.2.2)) (some (b.2.2.2.1,
    b.2.2.2.2.1, b.2.2.2.2.2.1, b.2.2.2.2.2.2.1, b.2.2.2.2.2.2.2.1, b.2.2.2.2.2.2.2.2.1, b.2.2.2.2.2.2.2.2.2.1, b.2.2.2.2.2.2.2.2.2.2.1,
    b.2.2.2.2.2.2.2.2.2.2.2.1, b.2.2.2.2.2.2.2.2.2.2.2.2)))))
theorem FV_msg_own_eq  (N : Nat) (x : M_) : F_msg_own  N x = V_msg_own  N x := by kernel_rfl
noncomputable def W_msg_own (N : Nat) (x : M_) : Option (M_) := V_msg_own  N x
theorem F_msg_own_eq (N : Nat) (x : M_) : F_msg_own  N x = W_msg_own N x := (FV_msg_own_eq  N x).trans (by kernel_rfl)
noncomputable def conw_msg_own (w : M_ → Option (M_)) : Con := ⟨37, as_msg_own, bs_msg_own, M_, w, out_msg_own⟩
noncomputable def con_msg_own (N : Nat) : Con := conw_msg_own (W_msg_own N)
theorem R_msg_own_eq (x : M_) (y : M_) : retOf2 P0 Try.f37 (kpL []) (lbOf as_msg_own bs_msg_own x) (patS ⟨61, [], [], []⟩ pout_msg_own y) = some (out_msg_own y) := by kernel_rfl
theorem con_msg_own_ok (N : Nat) : Con.ok P0 (con_msg_own N) := ⟨⟨Try.f37, Try.func37, by kernel_rfl, by kernel_rfl⟩, fun (x : M_) (r : M_) (hr : W_msg_own N x = some r) =>
  spec2_evT (Γ := G_msg_own N) (Λ := L0) (pout := pout_msg_own) (kp := kpL []) mixed (orcOf_ok [] (by simp)) Try.func37 (c := bodyOf Try.f37) (by kernel_rfl) (by kernel_rfl) (of_decide_eq_true (by kernel_rfl)) ((F_msg_own_eq N x).trans hr) (R_msg_own_eq x r)⟩
def as_slices_Equal_int : List AS := [.val (.list (.int .i64)), .val (.list (.int .i64))]
def bs_slices_Equal_int : List BS := []
def pout_slices_Equal_int : Pat := ⟨[(4, .val .bool)], []⟩
noncomputable def G_slices_Equal_int  (N : Nat) : OrcT := orcOf []
noncomputable def F_slices_Equal_int  (N : Nat) (x : (List Int) × List Int) : Option (Bool) :=
  (evT (G_slices_Equal_int  N) L0 P0 [(4, .loop [] ⟨[(13, .val (.int .i64))], []⟩ [(.exit 0, ⟨[], []⟩), (.ret, ⟨[(4, .val .bool)], []⟩)])]
    [] N 400 (bodyOf Try.f48) ⟨26, slots 0 (argsOf as_slices_Equal_int bs_slices_Equal_int x), tabU (lbOf as_slices_Equal_int bs_slices_Equal_int x) [], []⟩).elim (kRet 26 pout_slices_Equal_int (kpL []) (lbOf as_slices_Equal_int bs_slices_Equal_int x))
def out_slices_Equal_int (y : Bool) : V × List OK × List OK := (valW .bool y, [], [])
noncomputable def V_slices_Equal_int  (N : Nat) (x : (List Int) × List Int) : Option (Bool) :=
  cnd (decide ((↑(List.length x.1) : Int) ≠ (↑(List.length x.2) : Int))) (some false) (obind (loopN N (fun (v : Int) => cnd (decide (v < (↑(List.length
    x.1) : Int))) (cnd (decide ((0:Int) ≤ v) && decide (v < (↑(List.length x.1) : Int))) (cnd (decide ((0:Int) ≤ v) && decide (v < (↑(List.length x.2) :
    Int))) (cnd (decide (List.getD x.1 (Int.toNat v) (0:Int) ≠ List.getD x.2 (Int.toNat v) (0:Int))) (some (Sum.inr (Sum.inr false))) (some (Sum.inl (wr
    .i64 (v + (1:Int)))))) none) none) (some (Sum.inr (Sum.inl ())))) (Int.ofNat (0:Nat))) fun (b : PUnit ⊕ Bool) => selim (fun (b : PUnit) => some
    true) (fun (c : Bool) => some c) b)
theorem FV_slices_Equal_int_eq  (N : Nat) (x : (List Int) × List Int) : F_slices_Equal_int  N x = V_slices_Equal_int  N x := by kernel_rfl
noncomputable def W_slices_Equal_int (N : Nat) (x : (List Int) × List Int) : Option (Bool) := V_slices_Equal_int  N x
theorem F_slices_Equal_int_eq (N : Nat) (x : (List Int) × List Int) : F_slices_Equal_int  N x = W_slices_Equal_int N x := (FV_slices_Equal_int_eq  N x).trans (by kernel_rfl)
noncomputable def conw_slices_Equal_int (w : (List Int) × List Int → Option (Bool)) : Con := ⟨48, as_slices_Equal_int, bs_slices_Equal_int, Bool, w, out_slices_Equal_int⟩
noncomputable def con_slices_Equal_int (N : Nat) : Con := conw_slices_Equal_int (W_slices_Equal_int N)
theorem R_slices_Equal_int_eq (x : (List Int) × List Int) (y : Bool) : retOf2 P0 Try.f48 (kpL []) (lbOf as_slices_Equal_int bs_slices_Equal_int x) (patS ⟨26, [], [], []⟩ pout_slices_Equal_int y) = some (out_slices_Equal_int y) := by kernel_rfl
theorem con_slices_Equal_int_ok (N : Nat) : Con.ok P0 (con_slices_Equal_int N) := ⟨⟨Try.f48, Try.func48, by kernel_rfl, by kernel_rfl⟩, fun (x : (List Int) × List Int) (r : Bool) (hr : W_slices_Equal_int N x = some r) =>
  spec2_evT (Γ := G_slices_Equal_int N) (Λ := L0) (pout := pout_slices_Equal_int) (kp := kpL []) mixed (orcOf_ok [] (by simp)) Try.func48 (c := bodyOf Try.f48) (by kernel_rfl) (by kernel_rfl) (of_decide_eq_true (by kernel_rfl)) ((F_slices_Equal_int_eq N x).trans hr) (R_slices_Equal_int_eq x r)⟩
def as_msg_Same : List AS := [.val (.agg T_), .val (.agg T_)]
def bs_msg_Same : List BS := []
def pout_msg_Same : Pat := ⟨[(4, .val .bool)], []⟩
noncomputable def G_msg_Same (w_slices_Equal_int : (List Int) × List Int → Option (Bool)) (N : Nat) : OrcT := orcOf [conw_slices_Equal_int w_slices_Equal_int]
noncomputable def F_msg_Same (w_slices_Equal_int : (List Int) × List Int → Option (Bool)) (N : Nat) (x : (M_) × M_) : Option (Bool) :=
  (evT (G_msg_Same w_slices_Equal_int N) L0 P0 []
    [(1000001, .reg [(12, [], ⟨[(2, .ptr 600002 0), (3, .ptr 600003 0), (16, .val .bool)], [(600002, .box 24 (.val T_)), (600003, .box 24 (.val T_))]⟩), (7, [], ⟨[(2, .ptr 600002 0), (3, .ptr 600003 0), (23, .val .bool)], [(600002, .box 24 (.val T_)), (600003, .box 24 (.val T_))]⟩), (7, [], ⟨[(2, .ptr 600002 0), (3, .ptr 600003 0), (30, .val .bool)], [(600002, .box 24 (.val T_)), (600003, .box 24 (.val T_))]⟩), (7, [], ⟨[(2, .ptr 600002 0), (3, .ptr 600003 0), (37, .val .bool)], [(600002, .box 24 (.val T_)), (600003, .box 24 (.val T_))]⟩), (7, [], ⟨[(2, .ptr 600002 0), (3, .ptr 600003 0), (44, .val .bool)], [(600002, .box 24 (.val T_)), (600003, .box 24 (.val T_))]⟩), (7, [], ⟨[(2, .ptr 600002 0), (3, .ptr 600003 0), (51, .val .bool)], [(600002, .box 24 (.val T_)), (600003, .box 24 (.val T_))]⟩), (7, [], ⟨[(2, .ptr 600002 0), (3, .ptr 600003 0), (58, .val .bool)], [(600002, .box 24 (.val T_)), (600003, .box 24 (.val T_))]⟩), (7, [], ⟨[(2, .ptr 600002 0), (3, .ptr 600003 0), (65, .val .bool)], [(600002, .box 24 (.val T_)), (600003, .box 24 (.val T_))]⟩)])] N 400 (bodyOf Try.f20) ⟨73, slots 0 (argsOf as_msg_Same bs_msg_Same x), tabU (lbOf as_msg_Same bs_msg_Same x) [], []⟩).elim (kRet 73 pout_msg_Same (kpL []) (lbOf as_msg_Same bs_msg_Same x))
def out_msg_Same (y : Bool) : V × List OK × List OK := (valW .bool y, [], [])
noncomputable def V_msg_Same (w_slices_Equal_int : (List Int) × List Int → Option (Bool)) (N : Nat) (x : (M_) × M_) : Option (Bool) :=
  obind (cnd (decide (x.1.1 = x.2.1)) (some (decide (x.1.2.1 = x.2.2.1), (x.1.1, x.1.2.1, x.1.2.2.1, x.1.2.2.2.1, x.1.2.2.2.2.1, x.1.2.2.2.2.2.1,
    x.1.2.2.2.2.2.2.1, x.1.2.2.2.2.2.2.2.1, x.1.2.2.2.2.2.2.2.2.1, x.1.2.2.2.2.2.2.2.2.2), x.2.1, x.2.2.1, x.2.2.2.1, x.2.2.2.2.1, x.2.2.2.2.2.1,
    x.2.2.2.2.2.2.1, x.2.2.2.2.2.2.2.1, x.2.2.2.2.2.2.2.2.1, x.2.2.2.2.2.2.2.2.2.1, x.2.2.2.2.2.2.2.2.2.2)) (some (false, (x.1.1, x.1.2.1, x.1.2.2.1,
    x.1.2.2.2.1, x.1.2.2.2.2.1, x.1.2.2.2.2.2.1, x.1.2.2.2.2.2.2.1, x.1.2.2.2.2.2.2.2.1, x.1.2.2.2.2.2.2.2.2.1, x.1.2.2.2.2.2.2.2.2.2), x.2.1, x.2.2.1,
    x.2.2.2.1, x.2.2.2.2.1, x.2.2.2.2.2.1, x.2.2.2.2.2.2.1, x.2.2.2.2.2.2.2.1, x.2.2.2.2.2.2.2.2.1, x.2.2.2.2.2.2.2.2.2.1, x.2.2.2.2.2.2.2.2.2.2))) fun
    (b : Bool × (Int × Int × Int × Int × Int × Int × List Int × Int × Int × List UInt8) × Int × Int × Int × Int × Int × Int × List Int × Int × Int ×
    List UInt8) => obind (cnd b.1 (some (decide (b.2.1.2.2.1 = b.2.2.2.2.1), (b.2.1.1, b.2.1.2.1, b.2.1.2.2.1, b.2.1.2.2.2.1, b.2.1.2.2.2.2.1,
    b.2.1.2.2.2.2.2.1, b.2.1.2.2.2.2.2.2.1, b.2.1.2.2.2.2.2.2.2.1, b.2.1.2.2.2.2.2.2.2.2.1, b.2.1.2.2.2.2.2.2.2.2.2), b.2.2.1, b.2.2.2.1, b.2.2.2.2.1,
    b.2.2.2.2.2.1, b.2.2.2.2.2.2.1, b.2.2.2.2.2.2.2.1, b.2.2.2.2.2.2.2.2.1, b.2.2.2.2.2.2.2.2.2.1, b.2.2.2.2.2.2.2.2.2.2.1, b.2.2.2.2.2.2.2.2.2.2.2))
    (some (false, (b.2.1.1, b.2.1.2.1, b.2.1.2.2.1, b.2.1.2.2.2.1, b.2.1.2.2.2.2.1, b.2.1.2.2.2.2.2.1, b.2.1.2.2.2.2.2.2.1, b.2.1.2.2.2.2.2.2.2.1,
    b.2.1.2.2.2.2.2.2.2.2.1, b.2.1.2.2.2.2.2.2.2.2.2), b.2.2.1, b.2.2.2.1, b.2.2.2.2.1, b.2.2.2.2.2.1, b.2.2.2.2.2.2.1, b.2.2.2.2.2.2.2.1,
    b.2.2.2.2.2.2.2.2.1, b.2.2.2.2.2.2.2.2.2.1, b.2.2.2.2.2.2.2.2.2.2.1, b.2.2.2.2.2.2.2.2.2.2.2))) fun (b : Bool × (Int × Int × Int × Int × Int × Int ×
    List Int × Int × Int × List UInt8) × Int × Int × Int × Int × Int × Int × List Int × Int × Int × List UInt8) => obind (cnd b.1 (some (decide
    (b.2.1.2.2.2.1 = b.2.2.2.2.2.1), (b.2.1.1, b.2.1.2.1, b.2.1.2.2.1, b.2.1.2.2.2.1, b.2.1.2.2.2.2.1, b.2.1.2.2.2.2.2.1, b.2.1.2.2.2.2.2.2.1,
    b.2.1.2.2.2.2.2.2.2.1, b.2.1.2.2.2.2.2.2.2.2.1, b.2.1.2.2.2.2.2.2.2.2.2), b.2.2.1, b.2.2.2.1, b.2.2.2.2.1, b.2.2.2.2.2.1, b.2.2.2.2.2.2.1,
    b.2.2.2.2.2.2.2.1, b.2.2.2.2.2.2.2.2.1, b.2.2.2.2.2.2.2.2.2.1, b.2.2.2.2.2.2.2.2.2.2.1, b.2.2.2.2.2.2.2.2.2.2.2)) (some (false, (b.2.1.1, b.2.1.2.1,
    b.2.1.2.2.1, b.2.1.2.2.2.1, b.2.1.2.2.2.2.1, b.2.1.2.2.2.2.2.1, b.2.1.2.2.2.2.2.2.1, b.2.1.2.2.2.2.2.2.2.1, b.2.1.2.2.2.2.2.2.2.2.1,
    b.2.1.2.2.2.2.2.2.2.2.2), b.2.2.1, b.2.2.2.1, b.2.2.2.2.1, b.2.2.2.2.2.1, b.2.2.2.2.2.2.1, b.2.2.2.2.2.2.2.1, b.2.2.2.2.2.2.2.2.1,
    b.2.2.2.2.2.2.2.2.2.1, b.2.2.2.2.2.2.2.2.2.2.1, b.2.2.2.2.2.2.2.2.2.2.2))) fun (b : Bool × (Int × Int × Int × Int × Int × Int × List Int × Int × Int
    × List UInt8) × Int × Int × Int × Int × Int × Int × List Int × Int × Int × List UInt8) => obind (cnd b.1 (some (decide (b.2.1.2.2.2.2.1 =
    b.2.2.2.2.2.2.1), (b.2.1.1, b.2.1.2.1, b.2.1.2.2.1, b.2.1.2.2.2.1, b.2.1.2.2.2.2.1, b.2.1.2.2.2.2.2.1, b.2.1.2.2.2.2.2.2.1, b.2.1.2.2.2.2.2.2.2.1,
    b.2.1.2.2.2.2.2.2.2.2.1, b.2.1.2.2.2.2.2.2.2.2.2), b.2.2.1, b.2.2.2.1, b.2.2.2.2.1, b.2.2.2.2.2.1, b.2.2.2.2.2.2.1, b.2.2.2.2.2.2.2.1,
    b.2.2.2.2.2.2.2.2.1, b.2.2.2.2.2.2.2.2.2.1, b.2.2.2.2.2.2.2.2.2.2.1, b.2.2.2.2.2.2.2.2.2.2.2)) (some (false, (b.2.1.1, b.2.1.2.1, b.2.1.2.2.1,
    b.2.1.2.2.2.1, b.2.1.2.2.2.2.1, b.2.1.2.2.2.2.2.1, b.2.1.2.2.2.2.2.2.1, b.2.1.2.2.2.2.2.2.2.1, b.2.1.2.2.2.2.2.2.2.2.1, b.2.1.2.2.2.2.2.2.2.2.2),
    b.2.2.1, b.2.2.2.1, b.2.2.2.2.1, b.2.2.2.2.2.1, b.2.2.2.2.2.2.1, b.2.2.2.2.2.2.2.1, b.2.2.2.2.2.2.2.2.1, b.2.2.2.2.2.2.2.2.2.1,
    b.2.2.2.2.2.2.2.2.2.2.1, b.2.2.2.2.2.2.2.2.2.2.2))) fun (b : Bool × (Int × Int × Int × Int × Int × Int × List Int × Int × Int × List UInt8) × Int ×
    Int × Int × Int × Int × Int × List Int × Int × Int × List UInt8) => obind (cnd b.1 (some (decide (b.2.1.2.2.2.2.2.1 = b.2.2.2.2.2.2.2.1), (b.2.1.1,
    b.2.1.2.1, b.2.1.2.2.1, b.2.1.2.2.2.1, b.2.1.2.2.2.2.1, b.2.1.2.2.2.2.2.1, b.2.1.2.2.2.2.2.2.1, b.2.1.2.2.2.2.2.2.2.1, b.2.1.2.2.2.2.2.2.2.2.1,
    b.2.1.2.2.2.2.2.2.2.2.2), b.2.2.1, b.2.2.2.1, b.2.2.2.2.1, b.2.2.2.2.2.1, b.2.2.2.2.2.2.1, b.2.2.2.2.2.2.2.1, b.2.2.2.2.2.2.2.2.1,
    b.2.2.2.2.2.2.2.2.2.1, b.2.2.2.2.2.2.2.2.2.2.1, b.2.2.2.2.2.2.2.2.2.2.2)) (some (false, (b.2.1.1, b.2.1.2.1, b.2.1.2.2.1, b.2.1.2.2.2.1,
    b.2.1.2.2.2.2.1, b.2.1.2.2.2.2.2.1, b.2.1.2.2.2.2.2.2.1, b.2.1.2.2.2.2.2.2.2.1, b.2.1.2.2.2.2.2.2.2.2.1, b.2.1.2.2.2.2.2.2.2.2.2), b.2.2.1,
    b.2.2.2.1, b.2.2.2.2.1, b.2.2.2.2.2.1, b.2.2.2.2.2.2.1, b.2.2.2.2.2.2.2.1, b.2.2.2.2.2.2.2.2.1, b.2.2.2.2.2.2.2.2.2.1, b.2.2.2.2.2.2.2.2.2.2.1,
    b.2.2.2.2.2.2.2.2.2.2.2))) fun (b : Bool × (Int × Int × Int × Int × Int × Int × List Int × Int × Int × List UInt8) × Int × Int × Int × Int × Int ×
    Int × List Int × Int × Int × List UInt8) => obind (cnd b.1 (obind (w_slices_Equal_int (b.2.1.2.2.2.2.2.2.1, b.2.2.2.2.2.2.2.2.1)) fun b_1 => some
    (b_1, (b.2.1.1, b.2.1.2.1, b.2.1.2.2.1, b.2.1.2.2.2.1, b.2.1.2.2.2.2.1, b.2.1.2.2.2.2.2.1, b.2.1.2.2.2.2.2.2.1, b.2.1.2.2.2.2.2.2.2.1,
    b.2.1.2.2.2.2.2.2.2.2.1, b.2.1.2.2.2.2.2.2.2.2.2), b.2.2.1, b.2.2.2.1, b.2.2.2.2.1, b.2.2.2.2.2.1, b.2.2.2.2.2.2.1, b.2.2.2.2.2.2.2.1,
    b.2.2.2.2.2.2.2.2.1, b.2.2.2.2.2.2.2.2.2.1, b.2.2.2.2.2.2.2.2.2.2.1, b.2.2.2.2.2.2.2.2.2.2.2)) (some (false, (b.2.1.1, b.2.1.2.1, b.2.1.2.2.1,
    b.2.1.2.2.2.1, b.2.1.2.2.2.2.1, b.2.1.2.2.2.2.2.1, b.2.1.2.2.2.2.2.2.1, b.2.1.2.2.2.2.2.2.2.1, b.2.1.2.2.2.2.2.2.2.2.1, b.2.1.2.2.2.2.2.2.2.2.2),
    b.2.2.1, b.2.2.2.1, b.2.2.2.2.1, b.2.2.2.2.2.1, b.2.2.2.2.2.2.1, b.2.2.2.2.2.2.2.1, b.2.2.2.2.2.2.2.2.1, b.2.2.2.2.2.2.2.2.2.1,
    b.2.2.2.2.2.2.2.2.2.2.1, b.2.2.2.2.2.2.2.2.2.2.2))) fun (b : Bool × (Int × Int × Int × Int × Int × Int × List Int × Int × Int × List UInt8) × Int ×
    Int × Int × Int × Int × Int × List Int × Int × Int × List UInt8) => obind (cnd b.1 (some (decide (b.2.1.2.2.2.2.2.2.2.1 = b.2.2.2.2.2.2.2.2.2.1),
    (b.2.1.1, b.2.1.2.1, b.2.1.2.2.1, b.2.1.2.2.2.1, b.2.1.2.2.2.2.1, b.2.1.2.2.2.2.2.1, b.2.1.2.2.2.2.2.2.1, b.2.1.2.2.2.2.2.2.2.1,
    b.2.1.2.2.2.2.2.2.2.2.1, b.2.1.2.2.2.2.2.2.2.2.2), b.2.2.1, b.2.2.2.1, b.2.2.2.2.1, b.2.2.2.2.2.1, b.2.2.2.2.2.2.1, b.2.2.2.2.2.2.2.1,
    b.2.2.2.2.2.2.2.2.1, b.2.2.2.2.2.2.2.2.2.1, b.2.2.2.2.2.2.2.2.2.2.1, b.2.2.2.2.2.2.2.2.2.2.2)) (some (false, (b.2.1.1, b.2.1.2.1, b.2.1.2.2.1,
    b.2.1.2.2.2.1, b.2.1.2.2.2.2.1, b.2.1.2.2.2.2.2.1, b.2.1.2.2.2.2.2.2.1, b.2.1.2.2.2.2.2.2.2.1, b.2.1.2.2.2.2.2.2.2.2.1, b.2.1.2.2.2.2.2.2.2.2.2),
    b.2.2.1, b.2.2.2.1, b.2.2.2.2.1, b.2.2.2.2.2.1, b.2.2.2.2.2.2.1, b.2.2.2.2.2.2.2.1, b.2.2.2.2.2.2.2.2.1, b.2.2.2.2.2.2.2.2.2.1,
    b.2.2.2.2.2.2.2.2.2.2.1, b.2.2.2.2.2.2.2.2.2.2.2))) fun (b : Bool × (Int × Int × Int × Int × Int × Int × List Int × Int × Int × List UInt8) × Int ×
    Int × Int × Int × Int × Int × List Int × Int × Int × List UInt8) => obind (cnd b.1 (some (decide (b.2.1.2.2.2.2.2.2.2.2.1 =
    b.2.2.2.2.2.2.2.2.2.2.1), (b.2.1.1, b.2.1.2.1, b.2.1.2.2.1, b.2.1.2.2.2.1, b.2.1.2.2.2.2.1, b.2.1.2.2.2.2.2.1, b.2.1.2.2.2.2.2.2.1,
    b.2.1.2.2.2.2.2.2.2.1, b.2.1.2.2.2.2.2.2.2.2.1, b.2.1.2.2.2.2.2.2.2.2.2), b.2.2.1, b.2.2.2.1, b.2.2.2.2.1, b.2.2.2.2.2.1, b.2.2.2.2.2.2.1,
    b.2.2.2.2.2.2.2.1, b.2.2.2.2.2.2.2.2.1, b.2.2.2.2.2.2.2.2.2.1, b.2.2.2.2.2.2.2.2.2.2.1, b.2.2.2.2.2.2.2.2.2.2.2)) (some (false, (b.2.1.1, b.2.1.2.1,
    b.2.1.2.2.1, b.2.1.2.2.2.1, b.2.1.2.2.2.2.1, b.2.1.2.2.2.2.2.1, b.2.1.2.2.2.2.2.2.1, b.2.1.2.2.2.2.2.2.2.1, b.2.1.2.2.2.2.2.2.2.2.1,
    b.2.1.2.2.2.2.2.2.2.2.2), b.2.2.1, b.2.2.2.1, b.2.2.2.2.1, b.2.2.2.2.2.1, b.2.2.2.2.2.2.1, b.2.2.2.2.2.2.2.1, b.2.2.2.2.2.2.2.2.1,
    b.2.2.2.2.2.2.2.2.2.1, b.2.2.2.2.2.2.2.2.2.2.1, b.2.2.2.2.2.2.2.2.2.2.2))) fun (b : Bool × (Int × Int × Int × Int × Int × Int × List Int × Int × Int
    × List UInt8) × Int × Int × Int × Int × Int × Int × List Int × Int × Int × List UInt8) => cnd b.1 (some (b.2.1.2.2.2.2.2.2.2.2.2 ==
    b.2.2.2.2.2.2.2.2.2.2.2)) (some false)
theorem FV_msg_Same_eq (w_slices_Equal_int : (List Int) × List Int → Option (Bool)) (N : Nat) (x : (M_) × M_) : F_msg_Same w_slices_Equal_int N x = V_msg_Same w_slices_Equal_int N x := by kernel_rfl
noncomputable def W_msg_Same (N : Nat) (x : (M_) × M_) : Option (Bool) := V_msg_Same (W_slices_Equal_int N) N x
theorem F_msg_Same_eq (N : Nat) (x : (M_) × M_) : F_msg_Same (W_slices_Equal_int N) N x = W_msg_Same N x := (FV_msg_Same_eq (W_slices_Equal_int N) N x).trans (by kernel_rfl)
noncomputable def conw_msg_Same (w : (M_) × M_ → Option (Bool)) : Con := ⟨20, as_msg_Same, bs_msg_Same, Bool, w, out_msg_Same⟩
noncomputable def con_msg_Same (N : Nat) : Con := conw_msg_Same (W_msg_Same N)
theorem R_msg_Same_eq (x : (M_) × M_) (y : Bool) : retOf2 P0 Try.f20 (kpL []) (lbOf as_msg_Same bs_msg_Same x) (patS ⟨73, [], [], []⟩ pout_msg_Same y) = some (out_msg_Same y) := by kernel_rfl
theorem con_msg_Same_ok (N : Nat) : Con.ok P0 (con_msg_Same N) := ⟨⟨Try.f20, Try.func20, by kernel_rfl, by kernel_rfl⟩, fun (x : (M_) × M_) (r : Bool) (hr : W_msg_Same N x = some r) =>
  spec2_evT (Γ := G_msg_Same (W_slices_Equal_int N) N) (Λ := L0) (pout := pout_msg_Same) (kp := kpL []) mixed (orcOf_ok _ (by simp only [List.mem_cons, List.not_mem_nil, or_false, forall_eq_or_imp, forall_eq]; exact con_slices_Equal_int_ok N)) Try.func20 (c := bodyOf Try.f20) (by kernel_rfl) (by kernel_rfl) (of_decide_eq_true (by kernel_rfl)) ((F_msg_Same_eq N x).trans hr) (R_msg_Same_eq x r)⟩
def as_slices_Index_int : List AS := [.val (.list (.int .i64)), .val (.int .i64)]
def bs_slices_Index_int : List BS := []
def pout_slices_Index_int : Pat := ⟨[(4, .val (.int .i64))], []⟩
noncomputable def G_slices_Index_int  (N : Nat) : OrcT := orcOf []
noncomputable def F_slices_Index_int  (N : Nat) (x : (List Int) × Int) : Option (Int) :=
  (evT (G_slices_Index_int  N) L0 P0 [(2, .loop [] ⟨[(8, .val (.int .i64))], []⟩ [(.exit 0, ⟨[], []⟩), (.ret, ⟨[(4, .val (.int .i64))], []⟩)])]
    [] N 400 (bodyOf Try.f77) ⟨19, slots 0 (argsOf as_slices_Index_int bs_slices_Index_int x), tabU (lbOf as_slices_Index_int bs_slices_Index_int x) [], []⟩).elim (kRet 19 pout_slices_Index_int (kpL []) (lbOf as_slices_Index_int bs_slices_Index_int x))
def out_slices_Index_int (y : Int) : V × List OK × List OK := (valW (.int .i64) y, [], [])
noncomputable def V_slices_Index_int  (N : Nat) (x : (List Int) × Int) : Option (Int) :=
  obind (loopN N (fun (v : Int) => cnd (decide (v < (↑(List.length x.1) : Int))) (cnd (decide ((0:Int) ≤ v) && decide (v < (↑(List.length x.1) : Int)))
    (cnd (decide (x.2 = List.getD x.1 (Int.toNat v) (0:Int))) (some (Sum.inr (Sum.inr v))) (some (Sum.inl (wr .i64 (v + (1:Int)))))) none) (some
    (Sum.inr (Sum.inl ())))) (Int.ofNat (0:Nat))) fun (b : PUnit ⊕ Int) => selim (fun (b : PUnit) => some (-1 : Int)) (fun (c : Int) => some c) b
theorem FV_slices_Index_int_eq  (N : Nat) (x : (List Int) × Int) : F_slices_Index_int  N x = V_slices_Index_int  N x := by kernel_rfl
noncomputable def W_slices_Index_int (N : Nat) (x : (List Int) × Int) : Option (Int) := V_slices_Index_int  N x
theorem F_slices_Index_int_eq (N : Nat) (x : (List Int) × Int) : F_slices_Index_int  N x = W_slices_Index_int N x := (FV_slices_Index_int_eq  N x).trans (by kernel_rfl)
noncomputable def conw_slices_Index_int (w : (List Int) × Int → Option (Int)) : Con := ⟨77, as_slices_Index_int, bs_slices_Index_int, Int, w, out_slices_Index_int⟩
noncomputable def con_slices_Index_int (N : Nat) : Con := conw_slices_Index_int (W_slices_Index_int N)
theorem R_slices_Index_int_eq (x : (List Int) × Int) (y : Int) : retOf2 P0 Try.f77 (kpL []) (lbOf as_slices_Index_int bs_slices_Index_int x) (patS ⟨19, [], [], []⟩ pout_slices_Index_int y) = some (out_slices_Index_int y) := by kernel_rfl
theorem con_slices_Index_int_ok (N : Nat) : Con.ok P0 (con_slices_Index_int N) := ⟨⟨Try.f77, Try.func77, by kernel_rfl, by kernel_rfl⟩, fun (x : (List Int) × Int) (r : Int) (hr : W_slices_Index_int N x = some r) =>
  spec2_evT (Γ := G_slices_Index_int N) (Λ := L0) (pout := pout_slices_Index_int) (kp := kpL []) mixed (orcOf_ok [] (by simp)) Try.func77 (c := bodyOf Try.f77) (by kernel_rfl) (by kernel_rfl) (of_decide_eq_true (by kernel_rfl)) ((F_slices_Index_int_eq N x).trans hr) (R_slices_Index_int_eq x r)⟩
def as_slices_Contains_int : List AS := [.val (.list (.int .i64)), .val (.int .i64)]
def bs_slices_Contains_int : List BS := []
def pout_slices_Contains_int : Pat := ⟨[(4, .val .bool)], []⟩
noncomputable def G_slices_Contains_int (w_slices_Index_int : (List Int) × Int → Option (Int)) (N : Nat) : OrcT := orcOf [conw_slices_Index_int w_slices_Index_int]
noncomputable def F_slices_Contains_int (w_slices_Index_int : (List Int) × Int → Option (Int)) (N : Nat) (x : (List Int) × Int) : Option (Bool) :=
  (evT (G_slices_Contains_int w_slices_Index_int N) L0 P0 []
    [] N 400 (bodyOf Try.f76) ⟨9, slots 0 (argsOf as_slices_Contains_int bs_slices_Contains_int x), tabU (lbOf as_slices_Contains_int bs_slices_Contains_int x) [], []⟩).elim (kRet 9 pout_slices_Contains_int (kpL []) (lbOf as_slices_Contains_int bs_slices_Contains_int x))
def out_slices_Contains_int (y : Bool) : V × List OK × List OK := (valW .bool y, [], [])
noncomputable def V_slices_Contains_int (w_slices_Index_int : (List Int) × Int → Option (Int)) (N : Nat) (x : (List Int) × Int) : Option (Bool) :=
  obind (w_slices_Index_int (x.1, x.2)) fun b => some (decide ((0:Int) ≤ b))
theorem FV_slices_Contains_int_eq (w_slices_Index_int : (List Int) × Int → Option (Int)) (N : Nat) (x : (List Int) × Int) : F_slices_Contains_int w_slices_Index_int N x = V_slices_Contains_int w_slices_Index_int N x := by kernel_rfl
noncomputable def W_slices_Contains_int (N : Nat) (x : (List Int) × Int) : Option (Bool) := V_slices_Contains_int (W_slices_Index_int N) N x
theorem F_slices_Contains_int_eq (N : Nat) (x : (List Int) × Int) : F_slices_Contains_int (W_slices_Index_int N) N x = W_slices_Contains_int N x := (FV_slices_Contains_int_eq (W_slices_Index_int N) N x).trans (by kernel_rfl)
noncomputable def conw_slices_Contains_int (w : (List Int) × Int → Option (Bool)) : Con := ⟨76, as_slices_Contains_int, bs_slices_Contains_int, Bool, w, out_slices_Contains_int⟩
noncomputable def con_slices_Contains_int (N : Nat) : Con := conw_slices_Contains_int (W_slices_Contains_int N)
theorem R_slices_Contains_int_eq (x : (List Int) × Int) (y : Bool) : retOf2 P0 Try.f76 (kpL []) (lbOf as_slices_Contains_int bs_slices_Contains_int x) (patS ⟨9, [], [], []⟩ pout_slices_Contains_int y) = some (out_slices_Contains_int y) := by kernel_rfl
theorem con_slices_Contains_int_ok (N : Nat) : Con.ok P0 (con_slices_Contains_int N) := ⟨⟨Try.f76, Try.func76, by kernel_rfl, by kernel_rfl⟩, fun (x : (List Int) × Int) (r : Bool) (hr : W_slices_Contains_int N x = some r) =>
  spec2_evT (Γ := G_slices_Contains_int (W_slices_Index_int N) N) (Λ := L0) (pout := pout_slices_Contains_int) (kp := kpL []) mixed (orcOf_ok _ (by simp only [List.mem_cons, List.not_mem_nil, or_false, forall_eq_or_imp, forall_eq]; exact con_slices_Index_int_ok N)) Try.func76 (c := bodyOf Try.f76) (by kernel_rfl) (by kernel_rfl) (of_decide_eq_true (by kernel_rfl)) ((F_slices_Contains_int_eq N x).trans hr) (R_slices_Contains_int_eq x r)⟩
def as_path_Has : List AS := [.val (.list (.int .i64)), .val (.int .i64)]
def bs_path_Has : List BS := []
def pout_path_Has : Pat := ⟨[(4, .val .bool)], []⟩
noncomputable def G_path_Has (w_slices_Contains_int : (List Int) × Int → Option (Bool)) (N : Nat) : OrcT := orcOf [conw_slices_Contains_int w_slices_Contains_int]
noncomputable def F_path_Has (w_slices_Contains_int : (List Int) × Int → Option (Bool)) (N : Nat) (x : (List Int) × Int) : Option (Bool) :=
  (evT (G_path_Has w_slices_Contains_int N) L0 P0 []
    [] N 400 (bodyOf Try.f74) ⟨8, slots 0 (argsOf as_path_Has bs_path_Has x), tabU (lbOf as_path_Has bs_path_Has x) [], []⟩).elim (kRet 8 pout_path_Has (kpL []) (lbOf as_path_Has bs_path_Has x))
def out_path_Has (y : Bool) : V × List OK × List OK := (valW .bool y, [], [])
noncomputable def V_path_Has (w_slices_Contains_int : (List Int) × Int → Option (Bool)) (N : Nat) (x : (List Int) × Int) : Option (Bool) :=
  obind (w_slices_Contains_int (x.1, x.2)) fun b => some b
theorem FV_path_Has_eq (w_slices_Contains_int : (List Int) × Int → Option (Bool)) (N : Nat) (x : (List Int) × Int) : F_path_Has w_slices_Contains_int N x = V_path_Has w_slices_Contains_int N x := by kernel_rfl
noncomputable def W_path_Has (N : Nat) (x : (List Int) × Int) : Option (Bool) := V_path_Has (W_slices_Contains_int N) N x
theorem F_path_Has_eq (N : Nat) (x : (List Int) × Int) : F_path_Has (W_slices_Contains_int N) N x = W_path_Has N x := (FV_path_Has_eq (W_slices_Contains_int N) N x).trans (by kernel_rfl)
noncomputable def conw_path_Has (w : (List Int) × Int → Option (Bool)) : Con := ⟨74, as_path_Has, bs_path_Has, Bool, w, out_path_Has⟩
noncomputable def con_path_Has (N : Nat) : Con := conw_path_Has (W_path_Has N)
theorem R_path_Has_eq (x : (List Int) × Int) (y : Bool) : retOf2 P0 Try.f74 (kpL []) (lbOf as_path_Has bs_path_Has x) (patS ⟨8, [], [], []⟩ pout_path_Has y) = some (out_path_Has y) := by kernel_rfl
theorem con_path_Has_ok (N : Nat) : Con.ok P0 (con_path_Has N) := ⟨⟨Try.f74, Try.func74, by kernel_rfl, by kernel_rfl⟩, fun (x : (List Int) × Int) (r : Bool) (hr : W_path_Has N x = some r) =>
  spec2_evT (Γ := G_path_Has (W_slices_Contains_int N) N) (Λ := L0) (pout := pout_path_Has) (kp := kpL []) mixed (orcOf_ok _ (by simp only [List.mem_cons, List.not_mem_nil, or_false, forall_eq_or_imp, forall_eq]; exact con_slices_Contains_int_ok N)) Try.func74 (c := bodyOf Try.f74) (by kernel_rfl) (by kernel_rfl) (of_decide_eq_true (by kernel_rfl)) ((F_path_Has_eq N x).trans hr) (R_path_Has_eq x r)⟩
def as_path_read : List AS := [.val (.list (.int .i64))]
def bs_path_read : List BS := []
def pout_path_read : Pat := ⟨[(2, .val (.alt 108 (.list (.int .i64)) (.alt1 113 (.agg .unit))))], []⟩
noncomputable def G_path_read (w_path_Has : (List Int) × Int → Option (Bool)) (N : Nat) : OrcT := orcOf [conw_path_Has w_path_Has]
noncomputable def F_path_read (w_path_Has : (List Int) × Int → Option (Bool)) (N : Nat) (x : List Int) : Option ((List Int) ⊕ Unit) :=
  (evT (G_path_read w_path_Has N) L0 P0 [(4, .loop [21] ⟨[(23, .val (.int .i64))], []⟩ [(.exit 0, ⟨[], []⟩), (.ret, ⟨[(2, .val (.alt 108 (.list (.int .i64)) (.alt1 113 (.agg .unit))))], []⟩)])]
    [(1000001, .reg [(8, [], ⟨[(12, .val .bool)], []⟩)]),
    (1000006, .reg [(6, [21], ⟨[(33, .val .bool)], []⟩)])] N 400 (bodyOf Try.f70) ⟨46, slots 0 (argsOf as_path_read bs_path_read x), tabU (lbOf as_path_read bs_path_read x) [], []⟩).elim (kRet 46 pout_path_read (kpL []) (lbOf as_path_read bs_path_read x))
def out_path_read (y : (List Int) ⊕ Unit) : V × List OK × List OK := (valW (.alt 108 (.list (.int .i64)) (.alt1 113 (.agg .unit))) y, [], [])
noncomputable def V_path_read (w_path_Has : (List Int) × Int → Option (Bool)) (N : Nat) (x : List Int) : Option ((List Int) ⊕ Unit) :=
  obind (cnd (decide ((↑(List.length x) : Int) < (1:Int))) (some true) (some (decide ((10:Int) < (↑(List.length x) : Int))))) fun (b : Bool) => cnd b
    (some (Sum.inr ())) (cnd (decide ((0:Int) ≤ (0:Int)) && decide ((0:Int) < (↑(List.length x) : Int))) (cnd (decide (List.getD x (0:Nat) (0:Int) ≠
    (1:Int))) (some (Sum.inr ())) (obind (loopN N (fun (v : Int) => cnd (decide (v < (↑(List.length x) : Int))) (cnd (decide ((0:Int) ≤ v) && decide (v
    < (↑(List.length x) : Int))) (obind (cnd (decide (List.getD x (Int.toNat v) (0:Int) < (1:Int))) (some true) (some (decide ((8:Int) < List.getD x
    (Int.toNat v) (0:Int))))) fun (b : Bool) => cnd b (some (Sum.inr (Sum.inr (Sum.inr ())))) (cnd (decide ((0:Int) ≤ v) && decide (v ≤ (↑(List.length
    x) : Int))) (obind (w_path_Has (List.drop (0:Nat) (List.take (Int.toNat v) x), List.getD x (Int.toNat v) (0:Int))) fun b => cnd b (some (Sum.inr
    (Sum.inr (Sum.inr ())))) (some (Sum.inl (wr .i64 (v + (1:Int)))))) none)) none) (some (Sum.inr (Sum.inl ())))) (Int.ofNat (0:Nat))) fun (b : PUnit ⊕
    List Int ⊕ PUnit) => selim (fun (b : PUnit) => some (Sum.inl x)) (fun (c : List Int ⊕ PUnit) => some c) b)) none)
theorem FV_path_read_eq (w_path_Has : (List Int) × Int → Option (Bool)) (N : Nat) (x : List Int) : F_path_read w_path_Has N x = V_path_read w_path_Has N x := by kernel_rfl
noncomputable def W_path_read (N : Nat) (x : List Int) : Option ((List Int) ⊕ Unit) := V_path_read (W_path_Has N) N x
theorem F_path_read_eq (N : Nat) (x : List Int) : F_path_read (W_path_Has N) N x = W_path_read N x := (FV_path_read_eq (W_path_Has N) N x).trans (by kernel_rfl)
noncomputable def conw_path_read (w : List Int → Option ((List Int) ⊕ Unit)) : Con := ⟨70, as_path_read, bs_path_read, (List Int) ⊕ Unit, w, out_path_read⟩
noncomputable def con_path_read (N : Nat) : Con := conw_path_read (W_path_read N)
theorem R_path_read_eq (x : List Int) (y : (List Int) ⊕ Unit) : retOf2 P0 Try.f70 (kpL []) (lbOf as_path_read bs_path_read x) (patS ⟨46, [], [], []⟩ pout_path_read y) = some (out_path_read y) := by kernel_rfl
theorem con_path_read_ok (N : Nat) : Con.ok P0 (con_path_read N) := ⟨⟨Try.f70, Try.func70, by kernel_rfl, by kernel_rfl⟩, fun (x : List Int) (r : (List Int) ⊕ Unit) (hr : W_path_read N x = some r) =>
  spec2_evT (Γ := G_path_read (W_path_Has N) N) (Λ := L0) (pout := pout_path_read) (kp := kpL []) mixed (orcOf_ok _ (by simp only [List.mem_cons, List.not_mem_nil, or_false, forall_eq_or_imp, forall_eq]; exact con_path_Has_ok N)) Try.func70 (c := bodyOf Try.f70) (by kernel_rfl) (by kernel_rfl) (of_decide_eq_true (by kernel_rfl)) ((F_path_read_eq N x).trans hr) (R_path_read_eq x r)⟩
def as_path_May : List AS := [.val (.list (.int .i64))]
def bs_path_May : List BS := []
def pout_path_May : Pat := ⟨[(2, .val .bool)], []⟩
noncomputable def G_path_May (w_path_read : List Int → Option ((List Int) ⊕ Unit)) (N : Nat) : OrcT := orcOf [conw_path_read w_path_read]
noncomputable def F_path_May (w_path_read : List Int → Option ((List Int) ⊕ Unit)) (N : Nat) (x : List Int) : Option (Bool) :=
  (evT (G_path_May w_path_read N) L0 P0 []
    [] N 400 (bodyOf Try.f59) ⟨12, slots 0 (argsOf as_path_May bs_path_May x), tabU (lbOf as_path_May bs_path_May x) [], []⟩).elim (kRet 12 pout_path_May (kpL []) (lbOf as_path_May bs_path_May x))
def out_path_May (y : Bool) : V × List OK × List OK := (valW .bool y, [], [])
noncomputable def V_path_May (w_path_read : List Int → Option ((List Int) ⊕ Unit)) (N : Nat) (x : List Int) : Option (Bool) :=
  obind (w_path_read x) fun b =>
    selim (fun (b : List Int) => some true) (fun (c : PUnit) => some false) b
theorem FV_path_May_eq (w_path_read : List Int → Option ((List Int) ⊕ Unit)) (N : Nat) (x : List Int) : F_path_May w_path_read N x = V_path_May w_path_read N x := by kernel_rfl
noncomputable def W_path_May (N : Nat) (x : List Int) : Option (Bool) := V_path_May (W_path_read N) N x
theorem F_path_May_eq (N : Nat) (x : List Int) : F_path_May (W_path_read N) N x = W_path_May N x := (FV_path_May_eq (W_path_read N) N x).trans (by kernel_rfl)
noncomputable def conw_path_May (w : List Int → Option (Bool)) : Con := ⟨59, as_path_May, bs_path_May, Bool, w, out_path_May⟩
noncomputable def con_path_May (N : Nat) : Con := conw_path_May (W_path_May N)
theorem R_path_May_eq (x : List Int) (y : Bool) : retOf2 P0 Try.f59 (kpL []) (lbOf as_path_May bs_path_May x) (patS ⟨12, [], [], []⟩ pout_path_May y) = some (out_path_May y) := by kernel_rfl
theorem con_path_May_ok (N : Nat) : Con.ok P0 (con_path_May N) := ⟨⟨Try.f59, Try.func59, by kernel_rfl, by kernel_rfl⟩, fun (x : List Int) (r : Bool) (hr : W_path_May N x = some r) =>
  spec2_evT (Γ := G_path_May (W_path_read N) N) (Λ := L0) (pout := pout_path_May) (kp := kpL []) mixed (orcOf_ok _ (by simp only [List.mem_cons, List.not_mem_nil, or_false, forall_eq_or_imp, forall_eq]; exact con_path_read_ok N)) Try.func59 (c := bodyOf Try.f59) (by kernel_rfl) (by kernel_rfl) (of_decide_eq_true (by kernel_rfl)) ((F_path_May_eq N x).trans hr) (R_path_May_eq x r)⟩
def as_msg_fits : List AS := [.val (.agg T_)]
def bs_msg_fits : List BS := []
def pout_msg_fits : Pat := ⟨[(2, .val .bool)], []⟩
noncomputable def G_msg_fits (w_msg_in : Int × Int × Int → Option (Bool)) (w_path_May : List Int → Option (Bool)) (N : Nat) : OrcT := orcOf [conw_msg_in w_msg_in, conw_path_May w_path_May]
noncomputable def F_msg_fits (w_msg_in : Int × Int × Int → Option (Bool)) (w_path_May : List Int → Option (Bool)) (N : Nat) (x : M_) : Option (Bool) :=
  (evT (G_msg_fits w_msg_in w_path_May N) L0 P0 []
    [(1000004, .reg [(8, [], ⟨[(1, .ptr 600001 0), (15, .val .bool)], [(600001, .box 24 (.val T_))]⟩), (5, [], ⟨[(1, .ptr 600001 0), (20, .val .bool)], [(600001, .box 24 (.val T_))]⟩), (5, [], ⟨[(1, .ptr 600001 0), (25, .val .bool)], [(600001, .box 24 (.val T_))]⟩)]),
    (9, .cut [] [(.normal, ⟨[(1, .ptr 600001 0), (42, .val .bool)], [(600001, .box 24 (.val T_))]⟩)]),
    (4, .cut [] [(.normal, ⟨[(1, .ptr 600001 0), (5, .val .bool)], [(600001, .box 24 (.val T_))]⟩)])] N 400 (bodyOf Try.f38) ⟨55, slots 0 (argsOf as_msg_fits bs_msg_fits x), tabU (lbOf as_msg_fits bs_msg_fits x) [], []⟩).elim (kRet 55 pout_msg_fits (kpL []) (lbOf as_msg_fits bs_msg_fits x))
def out_msg_fits (y : Bool) : V × List OK × List OK := (valW .bool y, [], [])
noncomputable def V_msg_fits (w_msg_in : Int × Int × Int → Option (Bool)) (w_path_May : List Int → Option (Bool)) (N : Nat) (x : M_) : Option (Bool) :=
  obind (cnd (decide (x.1 = (2:Int))) (some (decide (x.1 = (2:Int)), x.1, x.2.1, x.2.2.1, x.2.2.2.1, x.2.2.2.2.1, x.2.2.2.2.2.1, x.2.2.2.2.2.2.1,
    x.2.2.2.2.2.2.2.1, x.2.2.2.2.2.2.2.2.1, x.2.2.2.2.2.2.2.2.2)) (some (decide (x.1 = (5:Int)), x.1, x.2.1, x.2.2.1, x.2.2.2.1, x.2.2.2.2.1,
    x.2.2.2.2.2.1, x.2.2.2.2.2.2.1, x.2.2.2.2.2.2.2.1, x.2.2.2.2.2.2.2.2.1, x.2.2.2.2.2.2.2.2.2))) fun (b : Bool × Int × Int × Int × Int × Int × Int ×
    List Int × Int × Int × List UInt8) => cnd b.1 (obind (obind (w_msg_in (b.2.2.2.2.2.1, (0:Int), (1073741824:Int))) fun b_1 => cnd b_1 (obind
    (w_msg_in (b.2.2.2.2.2.2.1, (0:Int), (1073741824:Int))) fun b_2 => some (b_2, b.2.1, b.2.2.1, b.2.2.2.1, b.2.2.2.2.1, b.2.2.2.2.2.1,
    b.2.2.2.2.2.2.1, b.2.2.2.2.2.2.2.1, b.2.2.2.2.2.2.2.2.1, b.2.2.2.2.2.2.2.2.2.1, b.2.2.2.2.2.2.2.2.2.2)) (some (false, b.2.1, b.2.2.1, b.2.2.2.1,
    b.2.2.2.2.1, b.2.2.2.2.2.1, b.2.2.2.2.2.2.1, b.2.2.2.2.2.2.2.1, b.2.2.2.2.2.2.2.2.1, b.2.2.2.2.2.2.2.2.2.1, b.2.2.2.2.2.2.2.2.2.2))) fun (b : Bool ×
    Int × Int × Int × Int × Int × Int × List Int × Int × Int × List UInt8) => obind (cnd b.1 (obind (w_path_May b.2.2.2.2.2.2.2.1) fun b_1 => some
    (b_1, b.2.1, b.2.2.1, b.2.2.2.1, b.2.2.2.2.1, b.2.2.2.2.2.1, b.2.2.2.2.2.2.1, b.2.2.2.2.2.2.2.1, b.2.2.2.2.2.2.2.2.1, b.2.2.2.2.2.2.2.2.2.1,
    b.2.2.2.2.2.2.2.2.2.2)) (some (false, b.2.1, b.2.2.1, b.2.2.2.1, b.2.2.2.2.1, b.2.2.2.2.2.1, b.2.2.2.2.2.2.1, b.2.2.2.2.2.2.2.1,
    b.2.2.2.2.2.2.2.2.1, b.2.2.2.2.2.2.2.2.2.1, b.2.2.2.2.2.2.2.2.2.2))) fun (b : Bool × Int × Int × Int × Int × Int × Int × List Int × Int × Int × List
    UInt8) => obind (cnd b.1 (obind (w_msg_in (b.2.2.2.2.2.2.2.2.1, (0:Int), (1000000:Int))) fun b_1 => some (b_1, b.2.1, b.2.2.1, b.2.2.2.1,
    b.2.2.2.2.1, b.2.2.2.2.2.1, b.2.2.2.2.2.2.1, b.2.2.2.2.2.2.2.1, b.2.2.2.2.2.2.2.2.1, b.2.2.2.2.2.2.2.2.2.1, b.2.2.2.2.2.2.2.2.2.2)) (some (false,
    b.2.1, b.2.2.1, b.2.2.2.1, b.2.2.2.2.1, b.2.2.2.2.2.1, b.2.2.2.2.2.2.1, b.2.2.2.2.2.2.2.1, b.2.2.2.2.2.2.2.2.1, b.2.2.2.2.2.2.2.2.2.1,
    b.2.2.2.2.2.2.2.2.2.2))) fun (b : Bool × Int × Int × Int × Int × Int × Int × List Int × Int × Int × List UInt8) => cnd b.1 (obind (w_msg_in
    (b.2.2.2.2.2.2.2.2.2.1, (0:Int), (1000000:Int))) fun b => some b) (some false)) (cnd (decide (x.1 = (7:Int))) (obind (w_msg_in
    (b.2.2.2.2.2.2.2.2.1, (1:Int), (1000000:Int))) fun b_1 => cnd b_1 (some (decide ((↑(List.length b.2.2.2.2.2.2.2.2.2.2) : Int) ≤ (12:Int)))) (some
    false)) (obind (cnd (decide (x.1 = (8:Int))) (some (decide (x.1 = (8:Int)), b.2.1, b.2.2.1, b.2.2.2.1, b.2.2.2.2.1, b.2.2.2.2.2.1, b.2.2.2.2.2.2.1,
    b.2.2.2.2.2.2.2.1, b.2.2.2.2.2.2.2.2.1, b.2.2.2.2.2.2.2.2.2.1, b.2.2.2.2.2.2.2.2.2.2)) (some (decide (x.1 = (9:Int)), b.2.1, b.2.2.1, b.2.2.2.1,
    b.2.2.2.2.1, b.2.2.2.2.2.1, b.2.2.2.2.2.2.1, b.2.2.2.2.2.2.2.1, b.2.2.2.2.2.2.2.2.1, b.2.2.2.2.2.2.2.2.2.1, b.2.2.2.2.2.2.2.2.2.2))) fun (b : Bool ×
    Int × Int × Int × Int × Int × Int × List Int × Int × Int × List UInt8) => cnd b.1 (obind (w_msg_in (b.2.2.2.2.2.2.2.2.1, (1:Int),
    b.2.2.2.2.2.2.2.2.2.1)) fun b_1 => cnd b_1 (some (decide (b.2.2.2.2.2.2.2.2.2.1 ≤ (1000000:Int)))) (some false)) (some true)))
theorem FV_msg_fits_eq (w_msg_in : Int × Int × Int → Option (Bool)) (w_path_May : List Int → Option (Bool)) (N : Nat) (x : M_) : F_msg_fits w_msg_in w_path_May N x = V_msg_fits w_msg_in w_path_May N x := by kernel_rfl
noncomputable def W_msg_fits (N : Nat) (x : M_) : Option (Bool) := V_msg_fits (W_msg_in N) (W_path_May N) N x
theorem F_msg_fits_eq (N : Nat) (x : M_) : F_msg_fits (W_msg_in N) (W_path_May N) N x = W_msg_fits N x := (FV_msg_fits_eq (W_msg_in N) (W_path_May N) N x).trans (by kernel_rfl)
noncomputable def conw_msg_fits (w : M_ → Option (Bool)) : Con := ⟨38, as_msg_fits, bs_msg_fits, Bool, w, out_msg_fits⟩
noncomputable def con_msg_fits (N : Nat) : Con := conw_msg_fits (W_msg_fits N)
theorem R_msg_fits_eq (x : M_) (y : Bool) : retOf2 P0 Try.f38 (kpL []) (lbOf as_msg_fits bs_msg_fits x) (patS ⟨55, [], [], []⟩ pout_msg_fits y) = some (out_msg_fits y) := by kernel_rfl
theorem con_msg_fits_ok (N : Nat) : Con.ok P0 (con_msg_fits N) := ⟨⟨Try.f38, Try.func38, by kernel_rfl, by kernel_rfl⟩, fun (x : M_) (r : Bool) (hr : W_msg_fits N x = some r) =>
  spec2_evT (Γ := G_msg_fits (W_msg_in N) (W_path_May N) N) (Λ := L0) (pout := pout_msg_fits) (kp := kpL []) mixed (orcOf_ok _ (by simp only [List.mem_cons, List.not_mem_nil, or_false, forall_eq_or_imp, forall_eq]; exact ⟨con_msg_in_ok N, con_path_May_ok N⟩)) Try.func38 (c := bodyOf Try.f38) (by kernel_rfl) (by kernel_rfl) (of_decide_eq_true (by kernel_rfl)) ((F_msg_fits_eq N x).trans hr) (R_msg_fits_eq x r)⟩
def as_msg_May : List AS := [.val (.agg T_)]
def bs_msg_May : List BS := []
def pout_msg_May : Pat := ⟨[(2, .val .bool)], []⟩
noncomputable def G_msg_May (w_msg_in : Int × Int × Int → Option (Bool)) (w_msg_own : M_ → Option (M_)) (w_msg_Same : (M_) × M_ → Option (Bool)) (w_msg_fits : M_ → Option (Bool)) (N : Nat) : OrcT := orcOf [conw_msg_in w_msg_in, conw_msg_own w_msg_own, conw_msg_Same w_msg_Same, conw_msg_fits w_msg_fits]
noncomputable def F_msg_May (w_msg_in : Int × Int × Int → Option (Bool)) (w_msg_own : M_ → Option (M_)) (w_msg_Same : (M_) × M_ → Option (Bool)) (w_msg_fits : M_ → Option (Bool)) (N : Nat) (x : M_) : Option (Bool) :=
  (evT (G_msg_May w_msg_in w_msg_own w_msg_Same w_msg_fits N) L0 P0 []
    [(1000001, .reg [(8, [], ⟨[(1, .ptr 600001 0), (11, .val .bool)], [(600001, .box 24 (.val T_))]⟩), (5, [], ⟨[(1, .ptr 600001 0), (16, .val .bool)], [(600001, .box 24 (.val T_))]⟩), (7, [], ⟨[(1, .ptr 600001 0), (23, .val .bool)], [(600001, .box 24 (.val T_))]⟩)])] N 400 (bodyOf Try.f16) ⟨40, slots 0 (argsOf as_msg_May bs_msg_May x), tabU (lbOf as_msg_May bs_msg_May x) [], []⟩).elim (kRet 40 pout_msg_May (kpL []) (lbOf as_msg_May bs_msg_May x))
def out_msg_May (y : Bool) : V × List OK × List OK := (valW .bool y, [], [])
noncomputable def V_msg_May (w_msg_in : Int × Int × Int → Option (Bool)) (w_msg_own : M_ → Option (M_)) (w_msg_Same : (M_) × M_ → Option (Bool)) (w_msg_fits : M_ → Option (Bool)) (N : Nat) (x : M_) : Option (Bool) :=
  obind (obind (w_msg_in (x.1, (1:Int), (9:Int))) fun b => cnd b (obind (w_msg_in (x.2.1, (1:Int), (8:Int))) fun b => some (b, x.1, x.2.1, x.2.2.1,
    x.2.2.2.1, x.2.2.2.2.1, x.2.2.2.2.2.1, x.2.2.2.2.2.2.1, x.2.2.2.2.2.2.2.1, x.2.2.2.2.2.2.2.2.1, x.2.2.2.2.2.2.2.2.2)) (some (false, x.1, x.2.1,
    x.2.2.1, x.2.2.2.1, x.2.2.2.2.1, x.2.2.2.2.2.1, x.2.2.2.2.2.2.1, x.2.2.2.2.2.2.2.1, x.2.2.2.2.2.2.2.2.1, x.2.2.2.2.2.2.2.2.2))) fun (b : Bool × Int
    × Int × Int × Int × Int × Int × List Int × Int × Int × List UInt8) => obind (cnd b.1 (obind (w_msg_in (b.2.2.2.1, (1:Int), (8:Int))) fun b_1 =>
    some (b_1, b.2.1, b.2.2.1, b.2.2.2.1, b.2.2.2.2.1, b.2.2.2.2.2.1, b.2.2.2.2.2.2.1, b.2.2.2.2.2.2.2.1, b.2.2.2.2.2.2.2.2.1, b.2.2.2.2.2.2.2.2.2.1,
    b.2.2.2.2.2.2.2.2.2.2)) (some (false, b.2.1, b.2.2.1, b.2.2.2.1, b.2.2.2.2.1, b.2.2.2.2.2.1, b.2.2.2.2.2.2.1, b.2.2.2.2.2.2.2.1,
    b.2.2.2.2.2.2.2.2.1, b.2.2.2.2.2.2.2.2.2.1, b.2.2.2.2.2.2.2.2.2.2))) fun (b : Bool × Int × Int × Int × Int × Int × Int × List Int × Int × Int × List
    UInt8) => obind (cnd b.1 (some (decide (b.2.2.1 ≠ b.2.2.2.1), b.2.1, b.2.2.1, b.2.2.2.1, b.2.2.2.2.1, b.2.2.2.2.2.1, b.2.2.2.2.2.2.1,
    b.2.2.2.2.2.2.2.1, b.2.2.2.2.2.2.2.2.1, b.2.2.2.2.2.2.2.2.2.1, b.2.2.2.2.2.2.2.2.2.2)) (some (false, b.2.1, b.2.2.1, b.2.2.2.1, b.2.2.2.2.1,
    b.2.2.2.2.2.1, b.2.2.2.2.2.2.1, b.2.2.2.2.2.2.2.1, b.2.2.2.2.2.2.2.2.1, b.2.2.2.2.2.2.2.2.2.1, b.2.2.2.2.2.2.2.2.2.2))) fun (b : Bool × Int × Int ×
    Int × Int × Int × Int × List Int × Int × Int × List UInt8) => cnd b.1 (obind (w_msg_in (b.2.2.2.2.1, (1:Int), (1073741824:Int))) fun b_1 => cnd
    b_1 (obind (w_msg_own (b.2.1, b.2.2.1, b.2.2.2.1, b.2.2.2.2.1, b.2.2.2.2.2.1, b.2.2.2.2.2.2.1, b.2.2.2.2.2.2.2.1, b.2.2.2.2.2.2.2.2.1,
    b.2.2.2.2.2.2.2.2.2.1, b.2.2.2.2.2.2.2.2.2.2)) fun b_2 => obind (w_msg_Same ((b.2.1, b.2.2.1, b.2.2.2.1, b.2.2.2.2.1, b.2.2.2.2.2.1,
    b.2.2.2.2.2.2.1, b.2.2.2.2.2.2.2.1, b.2.2.2.2.2.2.2.2.1, b.2.2.2.2.2.2.2.2.2.1, b.2.2.2.2.2.2.2.2.2.2), b_2.1, b_2.2.1, b_2.2.2.1, b_2.2.2.2.1,
    b_2.2.2.2.2.1, b_2.2.2.2.2.2.1, b_2.2.2.2.2.2.2.1, b_2.2.2.2.2.2.2.2.1, b_2.2.2.2.2.2.2.2.2.1, b_2.2.2.2.2.2.2.2.2.2)) fun b_3 => cnd b_3 (obind
    (w_msg_fits (b.2.1, b.2.2.1, b.2.2.2.1, b.2.2.2.2.1, b.2.2.2.2.2.1, b.2.2.2.2.2.2.1, b.2.2.2.2.2.2.2.1, b.2.2.2.2.2.2.2.2.1,
    b.2.2.2.2.2.2.2.2.2.1, b.2.2.2.2.2.2.2.2.2.2)) fun b => some b) (some false)) (some false)) (some false)
theorem FV_msg_May_eq (w_msg_in : Int × Int × Int → Option (Bool)) (w_msg_own : M_ → Option (M_)) (w_msg_Same : (M_) × M_ → Option (Bool)) (w_msg_fits : M_ → Option (Bool)) (N : Nat) (x : M_) : F_msg_May w_msg_in w_msg_own w_msg_Same w_msg_fits N x = V_msg_May w_msg_in w_msg_own w_msg_Same w_msg_fits N x := by kernel_rfl
noncomputable def W_msg_May (N : Nat) (x : M_) : Option (Bool) := V_msg_May (W_msg_in N) (W_msg_own N) (W_msg_Same N) (W_msg_fits N) N x
theorem F_msg_May_eq (N : Nat) (x : M_) : F_msg_May (W_msg_in N) (W_msg_own N) (W_msg_Same N) (W_msg_fits N) N x = W_msg_May N x := (FV_msg_May_eq (W_msg_in N) (W_msg_own N) (W_msg_Same N) (W_msg_fits N) N x).trans (by kernel_rfl)
noncomputable def conw_msg_May (w : M_ → Option (Bool)) : Con := ⟨16, as_msg_May, bs_msg_May, Bool, w, out_msg_May⟩
noncomputable def con_msg_May (N : Nat) : Con := conw_msg_May (W_msg_May N)
theorem R_msg_May_eq (x : M_) (y : Bool) : retOf2 P0 Try.f16 (kpL []) (lbOf as_msg_May bs_msg_May x) (patS ⟨40, [], [], []⟩ pout_msg_May y) = some (out_msg_May y) := by kernel_rfl
theorem con_msg_May_ok (N : Nat) : Con.ok P0 (con_msg_May N) := ⟨⟨Try.f16, Try.func16, by kernel_rfl, by kernel_rfl⟩, fun (x : M_) (r : Bool) (hr : W_msg_May N x = some r) =>
  spec2_evT (Γ := G_msg_May (W_msg_in N) (W_msg_own N) (W_msg_Same N) (W_msg_fits N) N) (Λ := L0) (pout := pout_msg_May) (kp := kpL []) mixed (orcOf_ok _ (by simp only [List.mem_cons, List.not_mem_nil, or_false, forall_eq_or_imp, forall_eq]; exact ⟨con_msg_in_ok N, con_msg_own_ok N, con_msg_Same_ok N, con_msg_fits_ok N⟩)) Try.func16 (c := bodyOf Try.f16) (by kernel_rfl) (by kernel_rfl) (of_decide_eq_true (by kernel_rfl)) ((F_msg_May_eq N x).trans hr) (R_msg_May_eq x r)⟩
def as_ref10_seq : List AS := [.val (.int .i64)]
def bs_ref10_seq : List BS := []
def pout_ref10_seq : Pat := ⟨[(2, .val .bool)], []⟩
noncomputable def G_ref10_seq  (N : Nat) : OrcT := orcOf []
noncomputable def F_ref10_seq  (N : Nat) (x : Int) : Option (Bool) :=
  (evT (G_ref10_seq  N) L0 P0 []
    [] N 400 (bodyOf Try.f40) ⟨9, slots 0 (argsOf as_ref10_seq bs_ref10_seq x), tabU (lbOf as_ref10_seq bs_ref10_seq x) [], []⟩).elim (kRet 9 pout_ref10_seq (kpL []) (lbOf as_ref10_seq bs_ref10_seq x))
def out_ref10_seq (y : Bool) : V × List OK × List OK := (valW .bool y, [], [])
noncomputable def V_ref10_seq  (N : Nat) (x : Int) : Option (Bool) :=
  cnd (decide ((0:Int) ≤ x)) (some (decide (x ≤ (1000000:Int)))) (some false)
theorem FV_ref10_seq_eq  (N : Nat) (x : Int) : F_ref10_seq  N x = V_ref10_seq  N x := by kernel_rfl
noncomputable def W_ref10_seq (N : Nat) (x : Int) : Option (Bool) := V_ref10_seq  N x
theorem F_ref10_seq_eq (N : Nat) (x : Int) : F_ref10_seq  N x = W_ref10_seq N x := (FV_ref10_seq_eq  N x).trans (by kernel_rfl)
noncomputable def conw_ref10_seq (w : Int → Option (Bool)) : Con := ⟨40, as_ref10_seq, bs_ref10_seq, Bool, w, out_ref10_seq⟩
noncomputable def con_ref10_seq (N : Nat) : Con := conw_ref10_seq (W_ref10_seq N)
theorem R_ref10_seq_eq (x : Int) (y : Bool) : retOf2 P0 Try.f40 (kpL []) (lbOf as_ref10_seq bs_ref10_seq x) (patS ⟨9, [], [], []⟩ pout_ref10_seq y) = some (out_ref10_seq y) := by kernel_rfl
theorem con_ref10_seq_ok (N : Nat) : Con.ok P0 (con_ref10_seq N) := ⟨⟨Try.f40, Try.func40, by kernel_rfl, by kernel_rfl⟩, fun (x : Int) (r : Bool) (hr : W_ref10_seq N x = some r) =>
  spec2_evT (Γ := G_ref10_seq N) (Λ := L0) (pout := pout_ref10_seq) (kp := kpL []) mixed (orcOf_ok [] (by simp)) Try.func40 (c := bodyOf Try.f40) (by kernel_rfl) (by kernel_rfl) (of_decide_eq_true (by kernel_rfl)) ((F_ref10_seq_eq N x).trans hr) (R_ref10_seq_eq x r)⟩
def as_ref1_MaySpan : List AS := [.val (.agg (.pair (.int .i64) (.int .i64)))]
def bs_ref1_MaySpan : List BS := []
def pout_ref1_MaySpan : Pat := ⟨[(2, .val .bool)], []⟩
noncomputable def G_ref1_MaySpan  (N : Nat) : OrcT := orcOf []
noncomputable def F_ref1_MaySpan  (N : Nat) (x : Int × Int) : Option (Bool) :=
  (evT (G_ref1_MaySpan  N) L0 P0 []
    [(1000001, .reg [(10, [], ⟨[(1, .ptr 600001 0), (12, .val .bool)], [(600001, .box 67 (.val (.pair (.int .i64) (.int .i64))))]⟩)])] N 400 (bodyOf Try.f41) ⟨18, slots 0 (argsOf as_ref1_MaySpan bs_ref1_MaySpan x), tabU (lbOf as_ref1_MaySpan bs_ref1_MaySpan x) [], []⟩).elim (kRet 18 pout_ref1_MaySpan (kpL []) (lbOf as_ref1_MaySpan bs_ref1_MaySpan x))
def out_ref1_MaySpan (y : Bool) : V × List OK × List OK := (valW .bool y, [], [])
noncomputable def V_ref1_MaySpan  (N : Nat) (x : Int × Int) : Option (Bool) :=
  obind
    (cnd (decide ((1:Int) ≤ x.1)) (some (decide (x.1 ≤ x.2), x.1, x.2))
      (some (false, x.1, x.2)))
    fun (b : Bool × Int × Int) => cnd b.1 (some (decide (b.2.2 ≤ (1000000:Int)))) (some false)
theorem FV_ref1_MaySpan_eq  (N : Nat) (x : Int × Int) : F_ref1_MaySpan  N x = V_ref1_MaySpan  N x := by kernel_rfl
noncomputable def W_ref1_MaySpan (N : Nat) (x : Int × Int) : Option (Bool) := V_ref1_MaySpan  N x
theorem F_ref1_MaySpan_eq (N : Nat) (x : Int × Int) : F_ref1_MaySpan  N x = W_ref1_MaySpan N x := (FV_ref1_MaySpan_eq  N x).trans (by kernel_rfl)
noncomputable def conw_ref1_MaySpan (w : Int × Int → Option (Bool)) : Con := ⟨41, as_ref1_MaySpan, bs_ref1_MaySpan, Bool, w, out_ref1_MaySpan⟩
noncomputable def con_ref1_MaySpan (N : Nat) : Con := conw_ref1_MaySpan (W_ref1_MaySpan N)
theorem R_ref1_MaySpan_eq (x : Int × Int) (y : Bool) : retOf2 P0 Try.f41 (kpL []) (lbOf as_ref1_MaySpan bs_ref1_MaySpan x) (patS ⟨18, [], [], []⟩ pout_ref1_MaySpan y) = some (out_ref1_MaySpan y) := by kernel_rfl
theorem con_ref1_MaySpan_ok (N : Nat) : Con.ok P0 (con_ref1_MaySpan N) := ⟨⟨Try.f41, Try.func41, by kernel_rfl, by kernel_rfl⟩, fun (x : Int × Int) (r : Bool) (hr : W_ref1_MaySpan N x = some r) =>
  spec2_evT (Γ := G_ref1_MaySpan N) (Λ := L0) (pout := pout_ref1_MaySpan) (kp := kpL []) mixed (orcOf_ok [] (by simp)) Try.func41 (c := bodyOf Try.f41) (by kernel_rfl) (by kernel_rfl) (of_decide_eq_true (by kernel_rfl)) ((F_ref1_MaySpan_eq N x).trans hr) (R_ref1_MaySpan_eq x r)⟩
def as_ref1_SameInts : List AS := [.val (.list (.int .i64)), .val (.list (.int .i64))]
def bs_ref1_SameInts : List BS := []
def pout_ref1_SameInts : Pat := ⟨[(4, .val .bool)], []⟩
noncomputable def G_ref1_SameInts  (N : Nat) : OrcT := orcOf []
noncomputable def F_ref1_SameInts  (N : Nat) (x : (List Int) × List Int) : Option (Bool) :=
  (evT (G_ref1_SameInts  N) L0 P0 [(4, .loop [] ⟨[(5, .val (.int .i64))], []⟩ [(.exit 0, ⟨[], []⟩), (.ret, ⟨[(4, .val .bool)], []⟩)])]
    [] N 400 (bodyOf Try.f49) ⟨26, slots 0 (argsOf as_ref1_SameInts bs_ref1_SameInts x), tabU (lbOf as_ref1_SameInts bs_ref1_SameInts x) [], []⟩).elim (kRet 26 pout_ref1_SameInts (kpL []) (lbOf as_ref1_SameInts bs_ref1_SameInts x))
def out_ref1_SameInts (y : Bool) : V × List OK × List OK := (valW .bool y, [], [])
noncomputable def V_ref1_SameInts  (N : Nat) (x : (List Int) × List Int) : Option (Bool) :=
  cnd (decide ((↑(List.length x.1) : Int) ≠ (↑(List.length x.2) : Int))) (some false) (obind (loopN N (fun (v : Int) => cnd (decide (v < (↑(List.length
    x.1) : Int))) (cnd (decide ((0:Int) ≤ v) && decide (v < (↑(List.length x.1) : Int))) (cnd (decide ((0:Int) ≤ v) && decide (v < (↑(List.length x.2) :
    Int))) (cnd (decide (List.getD x.1 (Int.toNat v) (0:Int) ≠ List.getD x.2 (Int.toNat v) (0:Int))) (some (Sum.inr (Sum.inr false))) (some (Sum.inl (wr
    .i64 (v + (1:Int)))))) none) none) (some (Sum.inr (Sum.inl ())))) (Int.ofNat (0:Nat))) fun (b : PUnit ⊕ Bool) => selim (fun (b : PUnit) => some
    true) (fun (c : Bool) => some c) b)
theorem FV_ref1_SameInts_eq  (N : Nat) (x : (List Int) × List Int) : F_ref1_SameInts  N x = V_ref1_SameInts  N x := by kernel_rfl
noncomputable def W_ref1_SameInts (N : Nat) (x : (List Int) × List Int) : Option (Bool) := V_ref1_SameInts  N x
theorem F_ref1_SameInts_eq (N : Nat) (x : (List Int) × List Int) : F_ref1_SameInts  N x = W_ref1_SameInts N x := (FV_ref1_SameInts_eq  N x).trans (by kernel_rfl)
noncomputable def conw_ref1_SameInts (w : (List Int) × List Int → Option (Bool)) : Con := ⟨49, as_ref1_SameInts, bs_ref1_SameInts, Bool, w, out_ref1_SameInts⟩
noncomputable def con_ref1_SameInts (N : Nat) : Con := conw_ref1_SameInts (W_ref1_SameInts N)
theorem R_ref1_SameInts_eq (x : (List Int) × List Int) (y : Bool) : retOf2 P0 Try.f49 (kpL []) (lbOf as_ref1_SameInts bs_ref1_SameInts x) (patS ⟨26, [], [], []⟩ pout_ref1_SameInts y) = some (out_ref1_SameInts y) := by kernel_rfl
theorem con_ref1_SameInts_ok (N : Nat) : Con.ok P0 (con_ref1_SameInts N) := ⟨⟨Try.f49, Try.func49, by kernel_rfl, by kernel_rfl⟩, fun (x : (List Int) × List Int) (r : Bool) (hr : W_ref1_SameInts N x = some r) =>
  spec2_evT (Γ := G_ref1_SameInts N) (Λ := L0) (pout := pout_ref1_SameInts) (kp := kpL []) mixed (orcOf_ok [] (by simp)) Try.func49 (c := bodyOf Try.f49) (by kernel_rfl) (by kernel_rfl) (of_decide_eq_true (by kernel_rfl)) ((F_ref1_SameInts_eq N x).trans hr) (R_ref1_SameInts_eq x r)⟩
def as_ref10_SameMsg : List AS := [.val (.agg T_), .val (.agg T_)]
def bs_ref10_SameMsg : List BS := []
def pout_ref10_SameMsg : Pat := ⟨[(4, .val .bool)], []⟩
noncomputable def G_ref10_SameMsg (w_ref1_SameInts : (List Int) × List Int → Option (Bool)) (N : Nat) : OrcT := orcOf [conw_ref1_SameInts w_ref1_SameInts]
noncomputable def F_ref10_SameMsg (w_ref1_SameInts : (List Int) × List Int → Option (Bool)) (N : Nat) (x : (M_) × M_) : Option (Bool) :=
  (evT (G_ref10_SameMsg w_ref1_SameInts N) L0 P0 []
    [(1000001, .reg [(12, [], ⟨[(2, .ptr 600002 0), (3, .ptr 600003 0), (16, .val .bool)], [(600002, .box 24 (.val T_)), (600003, .box 24 (.val T_))]⟩), (7, [], ⟨[(2, .ptr 600002 0), (3, .ptr 600003 0), (23, .val .bool)], [(600002, .box 24 (.val T_)), (600003, .box 24 (.val T_))]⟩), (7, [], ⟨[(2, .ptr 600002 0), (3, .ptr 600003 0), (30, .val .bool)], [(600002, .box 24 (.val T_)), (600003, .box 24 (.val T_))]⟩), (7, [], ⟨[(2, .ptr 600002 0), (3, .ptr 600003 0), (37, .val .bool)], [(600002, .box 24 (.val T_)), (600003, .box 24 (.val T_))]⟩), (7, [], ⟨[(2, .ptr 600002 0), (3, .ptr 600003 0), (44, .val .bool)], [(600002, .box 24 (.val T_)), (600003, .box 24 (.val T_))]⟩), (7, [], ⟨[(2, .ptr 600002 0), (3, .ptr 600003 0), (51, .val .bool)], [(600002, .box 24 (.val T_)), (600003, .box 24 (.val T_))]⟩), (7, [], ⟨[(2, .ptr 600002 0), (3, .ptr 600003 0), (58, .val .bool)], [(600002, .box 24 (.val T_)), (600003, .box 24 (.val T_))]⟩), (7, [], ⟨[(2, .ptr 600002 0), (3, .ptr 600003 0), (65, .val .bool)], [(600002, .box 24 (.val T_)), (600003, .box 24 (.val T_))]⟩)])] N 400 (bodyOf Try.f21) ⟨73, slots 0 (argsOf as_ref10_SameMsg bs_ref10_SameMsg x), tabU (lbOf as_ref10_SameMsg bs_ref10_SameMsg x) [], []⟩).elim (kRet 73 pout_ref10_SameMsg (kpL []) (lbOf as_ref10_SameMsg bs_ref10_SameMsg x))
def out_ref10_SameMsg (y : Bool) : V × List OK × List OK := (valW .bool y, [], [])
noncomputable def V_ref10_SameMsg (w_ref1_SameInts : (List Int) × List Int → Option (Bool)) (N : Nat) (x : (M_) × M_) : Option (Bool) :=
  obind (cnd (decide (x.1.1 = x.2.1)) (some (decide (x.1.2.1 = x.2.2.1), (x.1.1, x.1.2.1, x.1.2.2.1, x.1.2.2.2.1, x.1.2.2.2.2.1, x.1.2.2.2.2.2.1,
    x.1.2.2.2.2.2.2.1, x.1.2.2.2.2.2.2.2.1, x.1.2.2.2.2.2.2.2.2.1, x.1.2.2.2.2.2.2.2.2.2), x.2.1, x.2.2.1, x.2.2.2.1, x.2.2.2.2.1, x.2.2.2.2.2.1,
    x.2.2.2.2.2.2.1, x.2.2.2.2.2.2.2.1, x.2.2.2.2.2.2.2.2.1, x.2.2.2.2.2.2.2.2.2.1, x.2.2.2.2.2.2.2.2.2.2)) (some (false, (x.1.1, x.1.2.1, x.1.2.2.1,
    x.1.2.2.2.1, x.1.2.2.2.2.1, x.1.2.2.2.2.2.1, x.1.2.2.2.2.2.2.1, x.1.2.2.2.2.2.2.2.1, x.1.2.2.2.2.2.2.2.2.1, x.1.2.2.2.2.2.2.2.2.2), x.2.1, x.2.2.1,
    x.2.2.2.1, x.2.2.2.2.1, x.2.2.2.2.2.1, x.2.2.2.2.2.2.1, x.2.2.2.2.2.2.2.1, x.2.2.2.2.2.2.2.2.1, x.2.2.2.2.2.2.2.2.2.1, x.2.2.2.2.2.2.2.2.2.2))) fun
    (b : Bool × (Int × Int × Int × Int × Int × Int × List Int × Int × Int × List UInt8) × Int × Int × Int × Int × Int × Int × List Int × Int × Int ×
    List UInt8) => obind (cnd b.1 (some (decide (b.2.1.2.2.1 = b.2.2.2.2.1), (b.2.1.1, b.2.1.2.1, b.2.1.2.2.1, b.2.1.2.2.2.1, b.2.1.2.2.2.2.1,
    b.2.1.2.2.2.2.2.1, b.2.1.2.2.2.2.2.2.1, b.2.1.2.2.2.2.2.2.2.1, b.2.1.2.2.2.2.2.2.2.2.1, b.2.1.2.2.2.2.2.2.2.2.2), b.2.2.1, b.2.2.2.1, b.2.2.2.2.1,
    b.2.2.2.2.2.1, b.2.2.2.2.2.2.1, b.2.2.2.2.2.2.2.1, b.2.2.2.2.2.2.2.2.1, b.2.2.2.2.2.2.2.2.2.1, b.2.2.2.2.2.2.2.2.2.2.1, b.2.2.2.2.2.2.2.2.2.2.2))
    (some (false, (b.2.1.1, b.2.1.2.1, b.2.1.2.2.1, b.2.1.2.2.2.1, b.2.1.2.2.2.2.1, b.2.1.2.2.2.2.2.1, b.2.1.2.2.2.2.2.2.1, b.2.1.2.2.2.2.2.2.2.1,
    b.2.1.2.2.2.2.2.2.2.2.1, b.2.1.2.2.2.2.2.2.2.2.2), b.2.2.1, b.2.2.2.1, b.2.2.2.2.1, b.2.2.2.2.2.1, b.2.2.2.2.2.2.1, b.2.2.2.2.2.2.2.1,
    b.2.2.2.2.2.2.2.2.1, b.2.2.2.2.2.2.2.2.2.1, b.2.2.2.2.2.2.2.2.2.2.1, b.2.2.2.2.2.2.2.2.2.2.2))) fun (b : Bool × (Int × Int × Int × Int × Int × Int ×
    List Int × Int × Int × List UInt8) × Int × Int × Int × Int × Int × Int × List Int × Int × Int × List UInt8) => obind (cnd b.1 (some (decide
    (b.2.1.2.2.2.1 = b.2.2.2.2.2.1), (b.2.1.1, b.2.1.2.1, b.2.1.2.2.1, b.2.1.2.2.2.1, b.2.1.2.2.2.2.1, b.2.1.2.2.2.2.2.1, b.2.1.2.2.2.2.2.2.1,
    b.2.1.2.2.2.2.2.2.2.1, b.2.1.2.2.2.2.2.2.2.2.1, b.2.1.2.2.2.2.2.2.2.2.2), b.2.2.1, b.2.2.2.1, b.2.2.2.2.1, b.2.2.2.2.2.1, b.2.2.2.2.2.2.1,
    b.2.2.2.2.2.2.2.1, b.2.2.2.2.2.2.2.2.1, b.2.2.2.2.2.2.2.2.2.1, b.2.2.2.2.2.2.2.2.2.2.1, b.2.2.2.2.2.2.2.2.2.2.2)) (some (false, (b.2.1.1, b.2.1.2.1,
    b.2.1.2.2.1, b.2.1.2.2.2.1, b.2.1.2.2.2.2.1, b.2.1.2.2.2.2.2.1, b.2.1.2.2.2.2.2.2.1, b.2.1.2.2.2.2.2.2.2.1, b.2.1.2.2.2.2.2.2.2.2.1,
    b.2.1.2.2.2.2.2.2.2.2.2), b.2.2.1, b.2.2.2.1, b.2.2.2.2.1, b.2.2.2.2.2.1, b.2.2.2.2.2.2.1, b.2.2.2.2.2.2.2.1, b.2.2.2.2.2.2.2.2.1,
    b.2.2.2.2.2.2.2.2.2.1, b.2.2.2.2.2.2.2.2.2.2.1, b.2.2.2.2.2.2.2.2.2.2.2))) fun (b : Bool × (Int × Int × Int × Int × Int × Int × List Int × Int × Int
    × List UInt8) × Int × Int × Int × Int × Int × Int × List Int × Int × Int × List UInt8) => obind (cnd b.1 (some (decide (b.2.1.2.2.2.2.1 =
    b.2.2.2.2.2.2.1), (b.2.1.1, b.2.1.2.1, b.2.1.2.2.1, b.2.1.2.2.2.1, b.2.1.2.2.2.2.1, b.2.1.2.2.2.2.2.1, b.2.1.2.2.2.2.2.2.1, b.2.1.2.2.2.2.2.2.2.1,
    b.2.1.2.2.2.2.2.2.2.2.1, b.2.1.2.2.2.2.2.2.2.2.2), b.2.2.1, b.2.2.2.1, b.2.2.2.2.1, b.2.2.2.2.2.1, b.2.2.2.2.2.2.1, b.2.2.2.2.2.2.2.1,
    b.2.2.2.2.2.2.2.2.1, b.2.2.2.2.2.2.2.2.2.1, b.2.2.2.2.2.2.2.2.2.2.1, b.2.2.2.2.2.2.2.2.2.2.2)) (some (false, (b.2.1.1, b.2.1.2.1, b.2.1.2.2.1,
    b.2.1.2.2.2.1, b.2.1.2.2.2.2.1, b.2.1.2.2.2.2.2.1, b.2.1.2.2.2.2.2.2.1, b.2.1.2.2.2.2.2.2.2.1, b.2.1.2.2.2.2.2.2.2.2.1, b.2.1.2.2.2.2.2.2.2.2.2),
    b.2.2.1, b.2.2.2.1, b.2.2.2.2.1, b.2.2.2.2.2.1, b.2.2.2.2.2.2.1, b.2.2.2.2.2.2.2.1, b.2.2.2.2.2.2.2.2.1, b.2.2.2.2.2.2.2.2.2.1,
    b.2.2.2.2.2.2.2.2.2.2.1, b.2.2.2.2.2.2.2.2.2.2.2))) fun (b : Bool × (Int × Int × Int × Int × Int × Int × List Int × Int × Int × List UInt8) × Int ×
    Int × Int × Int × Int × Int × List Int × Int × Int × List UInt8) => obind (cnd b.1 (some (decide (b.2.1.2.2.2.2.2.1 = b.2.2.2.2.2.2.2.1), (b.2.1.1,
    b.2.1.2.1, b.2.1.2.2.1, b.2.1.2.2.2.1, b.2.1.2.2.2.2.1, b.2.1.2.2.2.2.2.1, b.2.1.2.2.2.2.2.2.1, b.2.1.2.2.2.2.2.2.2.1, b.2.1.2.2.2.2.2.2.2.2.1,
    b.2.1.2.2.2.2.2.2.2.2.2), b.2.2.1, b.2.2.2.1, b.2.2.2.2.1, b.2.2.2.2.2.1, b.2.2.2.2.2.2.1, b.2.2.2.2.2.2.2.1, b.2.2.2.2.2.2.2.2.1,
    b.2.2.2.2.2.2.2.2.2.1, b.2.2.2.2.2.2.2.2.2.2.1, b.2.2.2.2.2.2.2.2.2.2.2)) (some (false, (b.2.1.1, b.2.1.2.1, b.2.1.2.2.1, b.2.1.2.2.2.1,
    b.2.1.2.2.2.2.1, b.2.1.2.2.2.2.2.1, b.2.1.2.2.2.2.2.2.1, b.2.1.2.2.2.2.2.2.2.1, b.2.1.2.2.2.2.2.2.2.2.1, b.2.1.2.2.2.2.2.2.2.2.2), b.2.2.1,
    b.2.2.2.1, b.2.2.2.2.1, b.2.2.2.2.2.1, b.2.2.2.2.2.2.1, b.2.2.2.2.2.2.2.1, b.2.2.2.2.2.2.2.2.1, b.2.2.2.2.2.2.2.2.2.1, b.2.2.2.2.2.2.2.2.2.2.1,
    b.2.2.2.2.2.2.2.2.2.2.2))) fun (b : Bool × (Int × Int × Int × Int × Int × Int × List Int × Int × Int × List UInt8) × Int × Int × Int × Int × Int ×
    Int × List Int × Int × Int × List UInt8) => obind (cnd b.1 (some (decide (b.2.1.2.2.2.2.2.2.2.1 = b.2.2.2.2.2.2.2.2.2.1), (b.2.1.1, b.2.1.2.1,
    b.2.1.2.2.1, b.2.1.2.2.2.1, b.2.1.2.2.2.2.1, b.2.1.2.2.2.2.2.1, b.2.1.2.2.2.2.2.2.1, b.2.1.2.2.2.2.2.2.2.1, b.2.1.2.2.2.2.2.2.2.2.1,
    b.2.1.2.2.2.2.2.2.2.2.2), b.2.2.1, b.2.2.2.1, b.2.2.2.2.1, b.2.2.2.2.2.1, b.2.2.2.2.2.2.1, b.2.2.2.2.2.2.2.1, b.2.2.2.2.2.2.2.2.1,
    b.2.2.2.2.2.2.2.2.2.1, b.2.2.2.2.2.2.2.2.2.2.1, b.2.2.2.2.2.2.2.2.2.2.2)) (some (false, (b.2.1.1, b.2.1.2.1, b.2.1.2.2.1, b.2.1.2.2.2.1,
    b.2.1.2.2.2.2.1, b.2.1.2.2.2.2.2.1, b.2.1.2.2.2.2.2.2.1, b.2.1.2.2.2.2.2.2.2.1, b.2.1.2.2.2.2.2.2.2.2.1, b.2.1.2.2.2.2.2.2.2.2.2), b.2.2.1,
    b.2.2.2.1, b.2.2.2.2.1, b.2.2.2.2.2.1, b.2.2.2.2.2.2.1, b.2.2.2.2.2.2.2.1, b.2.2.2.2.2.2.2.2.1, b.2.2.2.2.2.2.2.2.2.1, b.2.2.2.2.2.2.2.2.2.2.1,
    b.2.2.2.2.2.2.2.2.2.2.2))) fun (b : Bool × (Int × Int × Int × Int × Int × Int × List Int × Int × Int × List UInt8) × Int × Int × Int × Int × Int ×
    Int × List Int × Int × Int × List UInt8) => obind (cnd b.1 (some (decide (b.2.1.2.2.2.2.2.2.2.2.1 = b.2.2.2.2.2.2.2.2.2.2.1), (b.2.1.1, b.2.1.2.1,
    b.2.1.2.2.1, b.2.1.2.2.2.1, b.2.1.2.2.2.2.1, b.2.1.2.2.2.2.2.1, b.2.1.2.2.2.2.2.2.1, b.2.1.2.2.2.2.2.2.2.1, b.2.1.2.2.2.2.2.2.2.2.1,
    b.2.1.2.2.2.2.2.2.2.2.2), b.2.2.1, b.2.2.2.1, b.2.2.2.2.1, b.2.2.2.2.2.1, b.2.2.2.2.2.2.1, b.2.2.2.2.2.2.2.1, b.2.2.2.2.2.2.2.2.1,
    b.2.2.2.2.2.2.2.2.2.1, b.2.2.2.2.2.2.2.2.2.2.1, b.2.2.2.2.2.2.2.2.2.2.2)) (some (false, (b.2.1.1, b.2.1.2.1, b.2.1.2.2.1, b.2.1.2.2.2.1,
    b.2.1.2.2.2.2.1, b.2.1.2.2.2.2.2.1, b.2.1.2.2.2.2.2.2.1, b.2.1.2.2.2.2.2.2.2.1, b.2.1.2.2.2.2.2.2.2.2.1, b.2.1.2.2.2.2.2.2.2.2.2), b.2.2.1,
    b.2.2.2.1, b.2.2.2.2.1, b.2.2.2.2.2.1, b.2.2.2.2.2.2.1, b.2.2.2.2.2.2.2.1, b.2.2.2.2.2.2.2.2.1, b.2.2.2.2.2.2.2.2.2.1, b.2.2.2.2.2.2.2.2.2.2.1,
    b.2.2.2.2.2.2.2.2.2.2.2))) fun (b : Bool × (Int × Int × Int × Int × Int × Int × List Int × Int × Int × List UInt8) × Int × Int × Int × Int × Int ×
    Int × List Int × Int × Int × List UInt8) => obind (cnd b.1 (some (b.2.1.2.2.2.2.2.2.2.2.2 == b.2.2.2.2.2.2.2.2.2.2.2, (b.2.1.1, b.2.1.2.1,
    b.2.1.2.2.1, b.2.1.2.2.2.1, b.2.1.2.2.2.2.1, b.2.1.2.2.2.2.2.1, b.2.1.2.2.2.2.2.2.1, b.2.1.2.2.2.2.2.2.2.1, b.2.1.2.2.2.2.2.2.2.2.1,
    b.2.1.2.2.2.2.2.2.2.2.2), b.2.2.1, b.2.2.2.1, b.2.2.2.2.1, b.2.2.2.2.2.1, b.2.2.2.2.2.2.1, b.2.2.2.2.2.2.2.1, b.2.2.2.2.2.2.2.2.1,
    b.2.2.2.2.2.2.2.2.2.1, b.2.2.2.2.2.2.2.2.2.2.1, b.2.2.2.2.2.2.2.2.2.2.2)) (some (false, (b.2.1.1, b.2.1.2.1, b.2.1.2.2.1, b.2.1.2.2.2.1,
    b.2.1.2.2.2.2.1, b.2.1.2.2.2.2.2.1, b.2.1.2.2.2.2.2.2.1, b.2.1.2.2.2.2.2.2.2.1, b.2.1.2.2.2.2.2.2.2.2.1, b.2.1.2.2.2.2.2.2.2.2.2), b.2.2.1,
    b.2.2.2.1, b.2.2.2.2.1, b.2.2.2.2.2.1, b.2.2.2.2.2.2.1, b.2.2.2.2.2.2.2.1, b.2.2.2.2.2.2.2.2.1, b.2.2.2.2.2.2.2.2.2.1, b.2.2.2.2.2.2.2.2.2.2.1,
    b.2.2.2.2.2.2.2.2.2.2.2))) fun (b : Bool × (Int × Int × Int × Int × Int × Int × List Int × Int × Int × List UInt8) × Int × Int × Int × Int × Int ×
    Int × List Int × Int × Int × List UInt8) => cnd b.1 (obind (w_ref1_SameInts (b.2.1.2.2.2.2.2.2.1, b.2.2.2.2.2.2.2.2.1)) fun b => some b) (some
    false)
theorem FV_ref10_SameMsg_eq (w_ref1_SameInts : (List Int) × List Int → Option (Bool)) (N : Nat) (x : (M_) × M_) : F_ref10_SameMsg w_ref1_SameInts N x = V_ref10_SameMsg w_ref1_SameInts N x := by kernel_rfl
noncomputable def W_ref10_SameMsg (N : Nat) (x : (M_) × M_) : Option (Bool) := V_ref10_SameMsg (W_ref1_SameInts N) N x
theorem F_ref10_SameMsg_eq (N : Nat) (x : (M_) × M_) : F_ref10_SameMsg (W_ref1_SameInts N) N x = W_ref10_SameMsg N x := (FV_ref10_SameMsg_eq (W_ref1_SameInts N) N x).trans (by kernel_rfl)
noncomputable def conw_ref10_SameMsg (w : (M_) × M_ → Option (Bool)) : Con := ⟨21, as_ref10_SameMsg, bs_ref10_SameMsg, Bool, w, out_ref10_SameMsg⟩
noncomputable def con_ref10_SameMsg (N : Nat) : Con := conw_ref10_SameMsg (W_ref10_SameMsg N)
theorem R_ref10_SameMsg_eq (x : (M_) × M_) (y : Bool) : retOf2 P0 Try.f21 (kpL []) (lbOf as_ref10_SameMsg bs_ref10_SameMsg x) (patS ⟨73, [], [], []⟩ pout_ref10_SameMsg y) = some (out_ref10_SameMsg y) := by kernel_rfl
theorem con_ref10_SameMsg_ok (N : Nat) : Con.ok P0 (con_ref10_SameMsg N) := ⟨⟨Try.f21, Try.func21, by kernel_rfl, by kernel_rfl⟩, fun (x : (M_) × M_) (r : Bool) (hr : W_ref10_SameMsg N x = some r) =>
  spec2_evT (Γ := G_ref10_SameMsg (W_ref1_SameInts N) N) (Λ := L0) (pout := pout_ref10_SameMsg) (kp := kpL []) mixed (orcOf_ok _ (by simp only [List.mem_cons, List.not_mem_nil, or_false, forall_eq_or_imp, forall_eq]; exact con_ref1_SameInts_ok N)) Try.func21 (c := bodyOf Try.f21) (by kernel_rfl) (by kernel_rfl) (of_decide_eq_true (by kernel_rfl)) ((F_ref10_SameMsg_eq N x).trans hr) (R_ref10_SameMsg_eq x r)⟩
def as_ref10_MayMsg : List AS := [.val (.agg T_)]
def bs_ref10_MayMsg : List BS := []
def pout_ref10_MayMsg : Pat := ⟨[(2, .val .bool)], []⟩
noncomputable def G_ref10_MayMsg (w_ref1_MayPath : List Int → Option (Bool)) (w_ref10_seq : Int → Option (Bool)) (w_ref1_MaySpan : Int × Int → Option (Bool)) (w_ref10_SameMsg : (M_) × M_ → Option (Bool)) (N : Nat) : OrcT := orcOf [conw_ref1_MayPath w_ref1_MayPath, conw_ref10_seq w_ref10_seq, conw_ref1_MaySpan w_ref1_MaySpan, conw_ref10_SameMsg w_ref10_SameMsg]
noncomputable def F_ref10_MayMsg (w_ref1_MayPath : List Int → Option (Bool)) (w_ref10_seq : Int → Option (Bool)) (w_ref1_MaySpan : Int × Int → Option (Bool)) (w_ref10_SameMsg : (M_) × M_ → Option (Bool)) (N : Nat) (x : M_) : Option (Bool) :=
  (evT (G_ref10_MayMsg w_ref1_MayPath w_ref10_seq w_ref1_MaySpan w_ref10_SameMsg N) L0 P0 []
    [(1000001, .reg [(8, [], ⟨[(1, .ptr 600001 0), (12, .val .bool)], [(600001, .box 24 (.val T_))]⟩), (5, [], ⟨[(1, .ptr 600001 0), (17, .val .bool)], [(600001, .box 24 (.val T_))]⟩), (5, [], ⟨[(1, .ptr 600001 0), (22, .val .bool)], [(600001, .box 24 (.val T_))]⟩), (5, [], ⟨[(1, .ptr 600001 0), (27, .val .bool)], [(600001, .box 24 (.val T_))]⟩), (5, [], ⟨[(1, .ptr 600001 0), (32, .val .bool)], [(600001, .box 24 (.val T_))]⟩), (7, [], ⟨[(1, .ptr 600001 0), (39, .val .bool)], [(600001, .box 24 (.val T_))]⟩), (5, [], ⟨[(1, .ptr 600001 0), (44, .val .bool)], [(600001, .box 24 (.val T_))]⟩)]),
    (1000009, .reg [(8, [], ⟨[(1, .ptr 600001 0), (3, .ptr 600003 0), (80, .val .bool)], [(600001, .box 24 (.val T_)), (600003, .box 24 (.val T_))]⟩), (5, [], ⟨[(1, .ptr 600001 0), (3, .ptr 600003 0), (85, .val .bool)], [(600001, .box 24 (.val T_)), (600003, .box 24 (.val T_))]⟩), (5, [], ⟨[(1, .ptr 600001 0), (3, .ptr 600003 0), (90, .val .bool)], [(600001, .box 24 (.val T_)), (600003, .box 24 (.val T_))]⟩)]),
    (1000017, .reg [(8, [], ⟨[(1, .ptr 600001 0), (3, .ptr 600003 0), (132, .val .bool)], [(600001, .box 24 (.val T_)), (600003, .box 24 (.val T_))]⟩)]),
    (20, .cut [] [(.normal, ⟨[(1, .ptr 600001 0), (3, .ptr 600003 0), (139, .val .bool)], [(600001, .box 24 (.val T_)), (600003, .box 24 (.val T_))]⟩)]),
    (8, .cut [] [(.normal, ⟨[(1, .ptr 600001 0), (3, .ptr 600003 0), (61, .val .bool)], [(600001, .box 24 (.val T_)), (600003, .box 24 (.val T_))]⟩)]),
    (22, .cut [] [(.normal, ⟨[(1, .ptr 600001 0), (3, .ptr 600003 0), (4, .val .bool)], [(600001, .box 24 (.val T_)), (600003, .box 24 (.val T_))]⟩)])] N 400 (bodyOf Try.f17) ⟨160, slots 0 (argsOf as_ref10_MayMsg bs_ref10_MayMsg x), tabU (lbOf as_ref10_MayMsg bs_ref10_MayMsg x) [], []⟩).elim (kRet 160 pout_ref10_MayMsg (kpL []) (lbOf as_ref10_MayMsg bs_ref10_MayMsg x))
def out_ref10_MayMsg (y : Bool) : V × List OK × List OK := (valW .bool y, [], [])
noncomputable def V_ref10_MayMsg (w_ref1_MayPath : List Int → Option (Bool)) (w_ref10_seq : Int → Option (Bool)) (w_ref1_MaySpan : Int × Int → Option (Bool)) (w_ref10_SameMsg : (M_) × M_ → Option (Bool)) (N : Nat) (x : M_) : Option (Bool) :=
  obind (cnd (decide (x.1 < (1:Int))) (some (true, x.1, x.2.1, x.2.2.1, x.2.2.2.1, x.2.2.2.2.1, x.2.2.2.2.2.1, x.2.2.2.2.2.2.1, x.2.2.2.2.2.2.2.1,
    x.2.2.2.2.2.2.2.2.1, x.2.2.2.2.2.2.2.2.2)) (some (decide ((9:Int) < x.1), x.1, x.2.1, x.2.2.1, x.2.2.2.1, x.2.2.2.2.1, x.2.2.2.2.2.1,
    x.2.2.2.2.2.2.1, x.2.2.2.2.2.2.2.1, x.2.2.2.2.2.2.2.2.1, x.2.2.2.2.2.2.2.2.2))) fun (b : Bool × Int × Int × Int × Int × Int × Int × List Int × Int ×
    Int × List UInt8) => obind (cnd b.1 (some (true, b.2.1, b.2.2.1, b.2.2.2.1, b.2.2.2.2.1, b.2.2.2.2.2.1, b.2.2.2.2.2.2.1, b.2.2.2.2.2.2.2.1,
    b.2.2.2.2.2.2.2.2.1, b.2.2.2.2.2.2.2.2.2.1, b.2.2.2.2.2.2.2.2.2.2)) (some (decide (b.2.2.1 < (1:Int)), b.2.1, b.2.2.1, b.2.2.2.1, b.2.2.2.2.1,
    b.2.2.2.2.2.1, b.2.2.2.2.2.2.1, b.2.2.2.2.2.2.2.1, b.2.2.2.2.2.2.2.2.1, b.2.2.2.2.2.2.2.2.2.1, b.2.2.2.2.2.2.2.2.2.2))) fun (b : Bool × Int × Int ×
    Int × Int × Int × Int × List Int × Int × Int × List UInt8) => obind (cnd b.1 (some (true, b.2.1, b.2.2.1, b.2.2.2.1, b.2.2.2.2.1, b.2.2.2.2.2.1,
    b.2.2.2.2.2.2.1, b.2.2.2.2.2.2.2.1, b.2.2.2.2.2.2.2.2.1, b.2.2.2.2.2.2.2.2.2.1, b.2.2.2.2.2.2.2.2.2.2)) (some (decide ((8:Int) < b.2.2.1), b.2.1,
    b.2.2.1, b.2.2.2.1, b.2.2.2.2.1, b.2.2.2.2.2.1, b.2.2.2.2.2.2.1, b.2.2.2.2.2.2.2.1, b.2.2.2.2.2.2.2.2.1, b.2.2.2.2.2.2.2.2.2.1,
    b.2.2.2.2.2.2.2.2.2.2))) fun (b : Bool × Int × Int × Int × Int × Int × Int × List Int × Int × Int × List UInt8) => obind (cnd b.1 (some (true,
    b.2.1, b.2.2.1, b.2.2.2.1, b.2.2.2.2.1, b.2.2.2.2.2.1, b.2.2.2.2.2.2.1, b.2.2.2.2.2.2.2.1, b.2.2.2.2.2.2.2.2.1, b.2.2.2.2.2.2.2.2.2.1,
    b.2.2.2.2.2.2.2.2.2.2)) (some (decide (b.2.2.2.1 < (1:Int)), b.2.1, b.2.2.1, b.2.2.2.1, b.2.2.2.2.1, b.2.2.2.2.2.1, b.2.2.2.2.2.2.1,
    b.2.2.2.2.2.2.2.1, b.2.2.2.2.2.2.2.2.1, b.2.2.2.2.2.2.2.2.2.1, b.2.2.2.2.2.2.2.2.2.2))) fun (b : Bool × Int × Int × Int × Int × Int × Int × List Int
    × Int × Int × List UInt8) => obind (cnd b.1 (some (true, b.2.1, b.2.2.1, b.2.2.2.1, b.2.2.2.2.1, b.2.2.2.2.2.1, b.2.2.2.2.2.2.1, b.2.2.2.2.2.2.2.1,
    b.2.2.2.2.2.2.2.2.1, b.2.2.2.2.2.2.2.2.2.1, b.2.2.2.2.2.2.2.2.2.2)) (some (decide ((8:Int) < b.2.2.2.1), b.2.1, b.2.2.1, b.2.2.2.1, b.2.2.2.2.1,
    b.2.2.2.2.2.1, b.2.2.2.2.2.2.1, b.2.2.2.2.2.2.2.1, b.2.2.2.2.2.2.2.2.1, b.2.2.2.2.2.2.2.2.2.1, b.2.2.2.2.2.2.2.2.2.2))) fun (b : Bool × Int × Int ×
    Int × Int × Int × Int × List Int × Int × Int × List UInt8) => obind (cnd b.1 (some (true, b.2.1, b.2.2.1, b.2.2.2.1, b.2.2.2.2.1, b.2.2.2.2.2.1,
    b.2.2.2.2.2.2.1, b.2.2.2.2.2.2.2.1, b.2.2.2.2.2.2.2.2.1, b.2.2.2.2.2.2.2.2.2.1, b.2.2.2.2.2.2.2.2.2.2)) (some (decide (b.2.2.1 = b.2.2.2.1), b.2.1,
    b.2.2.1, b.2.2.2.1, b.2.2.2.2.1, b.2.2.2.2.2.1, b.2.2.2.2.2.2.1, b.2.2.2.2.2.2.2.1, b.2.2.2.2.2.2.2.2.1, b.2.2.2.2.2.2.2.2.2.1,
    b.2.2.2.2.2.2.2.2.2.2))) fun (b : Bool × Int × Int × Int × Int × Int × Int × List Int × Int × Int × List UInt8) => obind (cnd b.1 (some (true,
    b.2.1, b.2.2.1, b.2.2.2.1, b.2.2.2.2.1, b.2.2.2.2.2.1, b.2.2.2.2.2.2.1, b.2.2.2.2.2.2.2.1, b.2.2.2.2.2.2.2.2.1, b.2.2.2.2.2.2.2.2.2.1,
    b.2.2.2.2.2.2.2.2.2.2)) (some (decide (b.2.2.2.2.1 < (1:Int)), b.2.1, b.2.2.1, b.2.2.2.1, b.2.2.2.2.1, b.2.2.2.2.2.1, b.2.2.2.2.2.2.1,
    b.2.2.2.2.2.2.2.1, b.2.2.2.2.2.2.2.2.1, b.2.2.2.2.2.2.2.2.2.1, b.2.2.2.2.2.2.2.2.2.2))) fun (b : Bool × Int × Int × Int × Int × Int × Int × List Int
    × Int × Int × List UInt8) => cnd b.1 (some false) (cnd (decide ((1073741824:Int) < b.2.2.2.2.1)) (some false) (obind (obind (cnd (decide (b.2.1 =
    (2:Int))) (some (decide (b.2.1 = (2:Int)), (b.2.1, b.2.2.1, b.2.2.2.1, b.2.2.2.2.1, b.2.2.2.2.2.1, b.2.2.2.2.2.2.1, b.2.2.2.2.2.2.2.1,
    b.2.2.2.2.2.2.2.2.1, b.2.2.2.2.2.2.2.2.2.1, b.2.2.2.2.2.2.2.2.2.2), b.2.1, b.2.2.1, b.2.2.2.1, b.2.2.2.2.1, (0:Int), (0:Int), [], (0:Int), (0:Int),
    [])) (some (decide (b.2.1 = (5:Int)), (b.2.1, b.2.2.1, b.2.2.2.1, b.2.2.2.2.1, b.2.2.2.2.2.1, b.2.2.2.2.2.2.1, b.2.2.2.2.2.2.2.1,
    b.2.2.2.2.2.2.2.2.1, b.2.2.2.2.2.2.2.2.2.1, b.2.2.2.2.2.2.2.2.2.2), b.2.1, b.2.2.1, b.2.2.2.1, b.2.2.2.2.1, (0:Int), (0:Int), [], (0:Int), (0:Int),
    []))) fun (b_1 : Bool × (Int × Int × Int × Int × Int × Int × List Int × Int × Int × List UInt8) × Int × Int × Int × Int × Int × Int × List Int × Int
    × Int × List UInt8) => cnd b_1.1 (obind (cnd (decide ((0:Int) ≤ b_1.2.1.2.2.2.2.1)) (some (decide (b_1.2.1.2.2.2.2.1 ≤ (1073741824:Int)),
    (b_1.2.1.1, b_1.2.1.2.1, b_1.2.1.2.2.1, b_1.2.1.2.2.2.1, b_1.2.1.2.2.2.2.1, b_1.2.1.2.2.2.2.2.1, b_1.2.1.2.2.2.2.2.2.1, b_1.2.1.2.2.2.2.2.2.2.1,
    b_1.2.1.2.2.2.2.2.2.2.2.1, b_1.2.1.2.2.2.2.2.2.2.2.2), b_1.2.2.1, b_1.2.2.2.1, b_1.2.2.2.2.1, b_1.2.2.2.2.2.1, b_1.2.1.2.2.2.2.1,
    b_1.2.1.2.2.2.2.2.1, b_1.2.1.2.2.2.2.2.2.1, b_1.2.2.2.2.2.2.2.2.2.1, b_1.2.2.2.2.2.2.2.2.2.2.1, b_1.2.2.2.2.2.2.2.2.2.2.2)) (some (false,
    (b_1.2.1.1, b_1.2.1.2.1, b_1.2.1.2.2.1, b_1.2.1.2.2.2.1, b_1.2.1.2.2.2.2.1, b_1.2.1.2.2.2.2.2.1, b_1.2.1.2.2.2.2.2.2.1, b_1.2.1.2.2.2.2.2.2.2.1,
    b_1.2.1.2.2.2.2.2.2.2.2.1, b_1.2.1.2.2.2.2.2.2.2.2.2), b_1.2.2.1, b_1.2.2.2.1, b_1.2.2.2.2.1, b_1.2.2.2.2.2.1, b_1.2.1.2.2.2.2.1,
    b_1.2.1.2.2.2.2.2.1, b_1.2.1.2.2.2.2.2.2.1, b_1.2.2.2.2.2.2.2.2.2.1, b_1.2.2.2.2.2.2.2.2.2.2.1, b_1.2.2.2.2.2.2.2.2.2.2.2))) fun (b : Bool × (Int ×
    Int × Int × Int × Int × Int × List Int × Int × Int × List UInt8) × Int × Int × Int × Int × Int × Int × List Int × Int × Int × List UInt8) => obind
    (cnd b.1 (some (decide ((0:Int) ≤ b.2.1.2.2.2.2.2.1), (b.2.1.1, b.2.1.2.1, b.2.1.2.2.1, b.2.1.2.2.2.1, b.2.1.2.2.2.2.1, b.2.1.2.2.2.2.2.1,
    b.2.1.2.2.2.2.2.2.1, b.2.1.2.2.2.2.2.2.2.1, b.2.1.2.2.2.2.2.2.2.2.1, b.2.1.2.2.2.2.2.2.2.2.2), b.2.2.1, b.2.2.2.1, b.2.2.2.2.1, b.2.2.2.2.2.1,
    b.2.2.2.2.2.2.1, b.2.2.2.2.2.2.2.1, b.2.2.2.2.2.2.2.2.1, b.2.2.2.2.2.2.2.2.2.1, b.2.2.2.2.2.2.2.2.2.2.1, b.2.2.2.2.2.2.2.2.2.2.2)) (some (false,
    (b.2.1.1, b.2.1.2.1, b.2.1.2.2.1, b.2.1.2.2.2.1, b.2.1.2.2.2.2.1, b.2.1.2.2.2.2.2.1, b.2.1.2.2.2.2.2.2.1, b.2.1.2.2.2.2.2.2.2.1,
    b.2.1.2.2.2.2.2.2.2.2.1, b.2.1.2.2.2.2.2.2.2.2.2), b.2.2.1, b.2.2.2.1, b.2.2.2.2.1, b.2.2.2.2.2.1, b.2.2.2.2.2.2.1, b.2.2.2.2.2.2.2.1,
    b.2.2.2.2.2.2.2.2.1, b.2.2.2.2.2.2.2.2.2.1, b.2.2.2.2.2.2.2.2.2.2.1, b.2.2.2.2.2.2.2.2.2.2.2))) fun (b : Bool × (Int × Int × Int × Int × Int × Int ×
    List Int × Int × Int × List UInt8) × Int × Int × Int × Int × Int × Int × List Int × Int × Int × List UInt8) => obind (cnd b.1 (some (decide
    (b.2.1.2.2.2.2.2.1 ≤ (1073741824:Int)), (b.2.1.1, b.2.1.2.1, b.2.1.2.2.1, b.2.1.2.2.2.1, b.2.1.2.2.2.2.1, b.2.1.2.2.2.2.2.1, b.2.1.2.2.2.2.2.2.1,
    b.2.1.2.2.2.2.2.2.2.1, b.2.1.2.2.2.2.2.2.2.2.1, b.2.1.2.2.2.2.2.2.2.2.2), b.2.2.1, b.2.2.2.1, b.2.2.2.2.1, b.2.2.2.2.2.1, b.2.2.2.2.2.2.1,
    b.2.2.2.2.2.2.2.1, b.2.2.2.2.2.2.2.2.1, b.2.2.2.2.2.2.2.2.2.1, b.2.2.2.2.2.2.2.2.2.2.1, b.2.2.2.2.2.2.2.2.2.2.2)) (some (false, (b.2.1.1, b.2.1.2.1,
    b.2.1.2.2.1, b.2.1.2.2.2.1, b.2.1.2.2.2.2.1, b.2.1.2.2.2.2.2.1, b.2.1.2.2.2.2.2.2.1, b.2.1.2.2.2.2.2.2.2.1, b.2.1.2.2.2.2.2.2.2.2.1,
    b.2.1.2.2.2.2.2.2.2.2.2), b.2.2.1, b.2.2.2.1, b.2.2.2.2.1, b.2.2.2.2.2.1, b.2.2.2.2.2.2.1, b.2.2.2.2.2.2.2.1, b.2.2.2.2.2.2.2.2.1,
    b.2.2.2.2.2.2.2.2.2.1, b.2.2.2.2.2.2.2.2.2.2.1, b.2.2.2.2.2.2.2.2.2.2.2))) fun (b : Bool × (Int × Int × Int × Int × Int × Int × List Int × Int × Int
    × List UInt8) × Int × Int × Int × Int × Int × Int × List Int × Int × Int × List UInt8) => cnd b.1 (obind (w_ref1_MayPath b.2.1.2.2.2.2.2.2.1) fun
    b_2 => cnd (decide (b.2.1.1 = (2:Int))) (cnd b_2 (obind (w_ref10_seq b.2.1.2.2.2.2.2.2.2.1) fun b_3 => some (b_3, (b.2.1.1, b.2.1.2.1,
    b.2.1.2.2.1, b.2.1.2.2.2.1, b.2.1.2.2.2.2.1, b.2.1.2.2.2.2.2.1, b.2.1.2.2.2.2.2.2.1, b.2.1.2.2.2.2.2.2.2.1, b.2.1.2.2.2.2.2.2.2.2.1,
    b.2.1.2.2.2.2.2.2.2.2.2), b.2.2.1, b.2.2.2.1, b.2.2.2.2.1, b.2.2.2.2.2.1, b.2.2.2.2.2.2.1, b.2.2.2.2.2.2.2.1, b.2.2.2.2.2.2.2.2.1,
    b.2.1.2.2.2.2.2.2.2.1, b.2.2.2.2.2.2.2.2.2.2.1, b.2.2.2.2.2.2.2.2.2.2.2)) (some (false, (b.2.1.1, b.2.1.2.1, b.2.1.2.2.1, b.2.1.2.2.2.1,
    b.2.1.2.2.2.2.1, b.2.1.2.2.2.2.2.1, b.2.1.2.2.2.2.2.2.1, b.2.1.2.2.2.2.2.2.2.1, b.2.1.2.2.2.2.2.2.2.2.1, b.2.1.2.2.2.2.2.2.2.2.2), b.2.2.1,
    b.2.2.2.1, b.2.2.2.2.1, b.2.2.2.2.2.1, b.2.2.2.2.2.2.1, b.2.2.2.2.2.2.2.1, b.2.2.2.2.2.2.2.2.1, b.2.1.2.2.2.2.2.2.2.1, b.2.2.2.2.2.2.2.2.2.2.1,
    b.2.2.2.2.2.2.2.2.2.2.2))) (cnd b_2 (obind (w_ref10_seq b.2.1.2.2.2.2.2.2.2.2.1) fun b_3 => some (b_3, (b.2.1.1, b.2.1.2.1, b.2.1.2.2.1,
    b.2.1.2.2.2.1, b.2.1.2.2.2.2.1, b.2.1.2.2.2.2.2.1, b.2.1.2.2.2.2.2.2.1, b.2.1.2.2.2.2.2.2.2.1, b.2.1.2.2.2.2.2.2.2.2.1, b.2.1.2.2.2.2.2.2.2.2.2),
    b.2.2.1, b.2.2.2.1, b.2.2.2.2.1, b.2.2.2.2.2.1, b.2.2.2.2.2.2.1, b.2.2.2.2.2.2.2.1, b.2.2.2.2.2.2.2.2.1, b.2.2.2.2.2.2.2.2.2.1,
    b.2.1.2.2.2.2.2.2.2.2.1, b.2.2.2.2.2.2.2.2.2.2.2)) (some (false, (b.2.1.1, b.2.1.2.1, b.2.1.2.2.1, b.2.1.2.2.2.1, b.2.1.2.2.2.2.1,
    b.2.1.2.2.2.2.2.1, b.2.1.2.2.2.2.2.2.1, b.2.1.2.2.2.2.2.2.2.1, b.2.1.2.2.2.2.2.2.2.2.1, b.2.1.2.2.2.2.2.2.2.2.2), b.2.2.1, b.2.2.2.1, b.2.2.2.2.1,
    b.2.2.2.2.2.1, b.2.2.2.2.2.2.1, b.2.2.2.2.2.2.2.1, b.2.2.2.2.2.2.2.2.1, b.2.2.2.2.2.2.2.2.2.1, b.2.1.2.2.2.2.2.2.2.2.1, b.2.2.2.2.2.2.2.2.2.2.2))))
    (cnd (decide (b.2.1.1 = (2:Int))) (some (false, (b.2.1.1, b.2.1.2.1, b.2.1.2.2.1, b.2.1.2.2.2.1, b.2.1.2.2.2.2.1, b.2.1.2.2.2.2.2.1,
    b.2.1.2.2.2.2.2.2.1, b.2.1.2.2.2.2.2.2.2.1, b.2.1.2.2.2.2.2.2.2.2.1, b.2.1.2.2.2.2.2.2.2.2.2), b.2.2.1, b.2.2.2.1, b.2.2.2.2.1, b.2.2.2.2.2.1,
    b.2.2.2.2.2.2.1, b.2.2.2.2.2.2.2.1, b.2.2.2.2.2.2.2.2.1, b.2.1.2.2.2.2.2.2.2.1, b.2.2.2.2.2.2.2.2.2.2.1, b.2.2.2.2.2.2.2.2.2.2.2)) (some (false,
    (b.2.1.1, b.2.1.2.1, b.2.1.2.2.1, b.2.1.2.2.2.1, b.2.1.2.2.2.2.1, b.2.1.2.2.2.2.2.1, b.2.1.2.2.2.2.2.2.1, b.2.1.2.2.2.2.2.2.2.1,
    b.2.1.2.2.2.2.2.2.2.2.1, b.2.1.2.2.2.2.2.2.2.2.2), b.2.2.1, b.2.2.2.1, b.2.2.2.2.1, b.2.2.2.2.2.1, b.2.2.2.2.2.2.1, b.2.2.2.2.2.2.2.1,
    b.2.2.2.2.2.2.2.2.1, b.2.2.2.2.2.2.2.2.2.1, b.2.1.2.2.2.2.2.2.2.2.1, b.2.2.2.2.2.2.2.2.2.2.2)))) (cnd (decide (b.2.1 = (7:Int))) (obind (cnd (decide
    ((1:Int) ≤ b_1.2.1.2.2.2.2.2.2.2.1)) (obind (w_ref10_seq b_1.2.1.2.2.2.2.2.2.2.1) fun b => some (b, (b_1.2.1.1, b_1.2.1.2.1, b_1.2.1.2.2.1,
    b_1.2.1.2.2.2.1, b_1.2.1.2.2.2.2.1, b_1.2.1.2.2.2.2.2.1, b_1.2.1.2.2.2.2.2.2.1, b_1.2.1.2.2.2.2.2.2.2.1, b_1.2.1.2.2.2.2.2.2.2.2.1,
    b_1.2.1.2.2.2.2.2.2.2.2.2), b_1.2.2.1, b_1.2.2.2.1, b_1.2.2.2.2.1, b_1.2.2.2.2.2.1, b_1.2.2.2.2.2.2.1, b_1.2.2.2.2.2.2.2.1, b_1.2.2.2.2.2.2.2.2.1,
    b_1.2.1.2.2.2.2.2.2.2.1, b_1.2.2.2.2.2.2.2.2.2.2.1, b_1.2.1.2.2.2.2.2.2.2.2.2)) (some (false, (b_1.2.1.1, b_1.2.1.2.1, b_1.2.1.2.2.1,
    b_1.2.1.2.2.2.1, b_1.2.1.2.2.2.2.1, b_1.2.1.2.2.2.2.2.1, b_1.2.1.2.2.2.2.2.2.1, b_1.2.1.2.2.2.2.2.2.2.1, b_1.2.1.2.2.2.2.2.2.2.2.1,
    b_1.2.1.2.2.2.2.2.2.2.2.2), b_1.2.2.1, b_1.2.2.2.1, b_1.2.2.2.2.1, b_1.2.2.2.2.2.1, b_1.2.2.2.2.2.2.1, b_1.2.2.2.2.2.2.2.1, b_1.2.2.2.2.2.2.2.2.1,
    b_1.2.1.2.2.2.2.2.2.2.1, b_1.2.2.2.2.2.2.2.2.2.2.1, b_1.2.1.2.2.2.2.2.2.2.2.2))) fun (b : Bool × (Int × Int × Int × Int × Int × Int × List Int × Int
    × Int × List UInt8) × Int × Int × Int × Int × Int × Int × List Int × Int × Int × List UInt8) => cnd b.1 (some (decide ((↑(List.length
    b.2.1.2.2.2.2.2.2.2.2.2) : Int) ≤ (12:Int)), (b.2.1.1, b.2.1.2.1, b.2.1.2.2.1, b.2.1.2.2.2.1, b.2.1.2.2.2.2.1, b.2.1.2.2.2.2.2.1,
    b.2.1.2.2.2.2.2.2.1, b.2.1.2.2.2.2.2.2.2.1, b.2.1.2.2.2.2.2.2.2.2.1, b.2.1.2.2.2.2.2.2.2.2.2), b.2.2.1, b.2.2.2.1, b.2.2.2.2.1, b.2.2.2.2.2.1,
    b.2.2.2.2.2.2.1, b.2.2.2.2.2.2.2.1, b.2.2.2.2.2.2.2.2.1, b.2.2.2.2.2.2.2.2.2.1, b.2.2.2.2.2.2.2.2.2.2.1, b.2.2.2.2.2.2.2.2.2.2.2)) (some (false,
    (b.2.1.1, b.2.1.2.1, b.2.1.2.2.1, b.2.1.2.2.2.1, b.2.1.2.2.2.2.1, b.2.1.2.2.2.2.2.1, b.2.1.2.2.2.2.2.2.1, b.2.1.2.2.2.2.2.2.2.1,
    b.2.1.2.2.2.2.2.2.2.2.1, b.2.1.2.2.2.2.2.2.2.2.2), b.2.2.1, b.2.2.2.1, b.2.2.2.2.1, b.2.2.2.2.2.1, b.2.2.2.2.2.2.1, b.2.2.2.2.2.2.2.1,
    b.2.2.2.2.2.2.2.2.1, b.2.2.2.2.2.2.2.2.2.1, b.2.2.2.2.2.2.2.2.2.2.1, b.2.2.2.2.2.2.2.2.2.2.2))) (obind (cnd (decide (b.2.1 = (8:Int))) (some (decide
    (b.2.1 = (8:Int)), (b_1.2.1.1, b_1.2.1.2.1, b_1.2.1.2.2.1, b_1.2.1.2.2.2.1, b_1.2.1.2.2.2.2.1, b_1.2.1.2.2.2.2.2.1, b_1.2.1.2.2.2.2.2.2.1,
    b_1.2.1.2.2.2.2.2.2.2.1, b_1.2.1.2.2.2.2.2.2.2.2.1, b_1.2.1.2.2.2.2.2.2.2.2.2), b_1.2.2.1, b_1.2.2.2.1, b_1.2.2.2.2.1, b_1.2.2.2.2.2.1,
    b_1.2.2.2.2.2.2.1, b_1.2.2.2.2.2.2.2.1, b_1.2.2.2.2.2.2.2.2.1, b_1.2.2.2.2.2.2.2.2.2.1, b_1.2.2.2.2.2.2.2.2.2.2.1, b_1.2.2.2.2.2.2.2.2.2.2.2)) (some
    (decide (b.2.1 = (9:Int)), (b_1.2.1.1, b_1.2.1.2.1, b_1.2.1.2.2.1, b_1.2.1.2.2.2.1, b_1.2.1.2.2.2.2.1, b_1.2.1.2.2.2.2.2.1, b_1.2.1.2.2.2.2.2.2.1,
    b_1.2.1.2.2.2.2.2.2.2.1, b_1.2.1.2.2.2.2.2.2.2.2.1, b_1.2.1.2.2.2.2.2.2.2.2.2), b_1.2.2.1, b_1.2.2.2.1, b_1.2.2.2.2.1, b_1.2.2.2.2.2.1,
    b_1.2.2.2.2.2.2.1, b_1.2.2.2.2.2.2.2.1, b_1.2.2.2.2.2.2.2.2.1, b_1.2.2.2.2.2.2.2.2.2.1, b_1.2.2.2.2.2.2.2.2.2.2.1, b_1.2.2.2.2.2.2.2.2.2.2.2))) fun
    (b : Bool × (Int × Int × Int × Int × Int × Int × List Int × Int × Int × List UInt8) × Int × Int × Int × Int × Int × Int × List Int × Int × Int ×
    List UInt8) => cnd b.1 (obind (w_ref1_MaySpan (b.2.1.2.2.2.2.2.2.2.1, b.2.1.2.2.2.2.2.2.2.2.1)) fun b_2 => some (b_2, (b.2.1.1, b.2.1.2.1,
    b.2.1.2.2.1, b.2.1.2.2.2.1, b.2.1.2.2.2.2.1, b.2.1.2.2.2.2.2.1, b.2.1.2.2.2.2.2.2.1, b.2.1.2.2.2.2.2.2.2.1, b.2.1.2.2.2.2.2.2.2.2.1,
    b.2.1.2.2.2.2.2.2.2.2.2), b.2.2.1, b.2.2.2.1, b.2.2.2.2.1, b.2.2.2.2.2.1, b.2.2.2.2.2.2.1, b.2.2.2.2.2.2.2.1, b.2.2.2.2.2.2.2.2.1,
    b.2.1.2.2.2.2.2.2.2.1, b.2.1.2.2.2.2.2.2.2.2.1, b.2.2.2.2.2.2.2.2.2.2.2)) (some (true, (b.2.1.1, b.2.1.2.1, b.2.1.2.2.1, b.2.1.2.2.2.1,
    b.2.1.2.2.2.2.1, b.2.1.2.2.2.2.2.1, b.2.1.2.2.2.2.2.2.1, b.2.1.2.2.2.2.2.2.2.1, b.2.1.2.2.2.2.2.2.2.2.1, b.2.1.2.2.2.2.2.2.2.2.2), b.2.2.1,
    b.2.2.2.1, b.2.2.2.2.1, b.2.2.2.2.2.1, b.2.2.2.2.2.2.1, b.2.2.2.2.2.2.2.1, b.2.2.2.2.2.2.2.2.1, b.2.2.2.2.2.2.2.2.2.1, b.2.2.2.2.2.2.2.2.2.2.1,
    b.2.2.2.2.2.2.2.2.2.2.2))))) fun (b : Bool × (Int × Int × Int × Int × Int × Int × List Int × Int × Int × List UInt8) × Int × Int × Int × Int × Int ×
    Int × List Int × Int × Int × List UInt8) => cnd b.1 (obind (w_ref10_SameMsg ((b.2.2.1, b.2.2.2.1, b.2.2.2.2.1, b.2.2.2.2.2.1, b.2.2.2.2.2.2.1,
    b.2.2.2.2.2.2.2.1, b.2.2.2.2.2.2.2.2.1, b.2.2.2.2.2.2.2.2.2.1, b.2.2.2.2.2.2.2.2.2.2.1, b.2.2.2.2.2.2.2.2.2.2.2), b.2.1.1, b.2.1.2.1, b.2.1.2.2.1,
    b.2.1.2.2.2.1, b.2.1.2.2.2.2.1, b.2.1.2.2.2.2.2.1, b.2.1.2.2.2.2.2.2.1, b.2.1.2.2.2.2.2.2.2.1, b.2.1.2.2.2.2.2.2.2.2.1, b.2.1.2.2.2.2.2.2.2.2.2))
    fun b => some b) (some false)))
theorem FV_ref10_MayMsg_eq (w_ref1_MayPath : List Int → Option (Bool)) (w_ref10_seq : Int → Option (Bool)) (w_ref1_MaySpan : Int × Int → Option (Bool)) (w_ref10_SameMsg : (M_) × M_ → Option (Bool)) (N : Nat) (x : M_) : F_ref10_MayMsg w_ref1_MayPath w_ref10_seq w_ref1_MaySpan w_ref10_SameMsg N x = V_ref10_MayMsg w_ref1_MayPath w_ref10_seq w_ref1_MaySpan w_ref10_SameMsg N x := by kernel_rfl
noncomputable def W_ref10_MayMsg (N : Nat) (x : M_) : Option (Bool) := V_ref10_MayMsg (W_ref1_MayPath N) (W_ref10_seq N) (W_ref1_MaySpan N) (W_ref10_SameMsg N) N x
theorem F_ref10_MayMsg_eq (N : Nat) (x : M_) : F_ref10_MayMsg (W_ref1_MayPath N) (W_ref10_seq N) (W_ref1_MaySpan N) (W_ref10_SameMsg N) N x = W_ref10_MayMsg N x := (FV_ref10_MayMsg_eq (W_ref1_MayPath N) (W_ref10_seq N) (W_ref1_MaySpan N) (W_ref10_SameMsg N) N x).trans (by kernel_rfl)
noncomputable def conw_ref10_MayMsg (w : M_ → Option (Bool)) : Con := ⟨17, as_ref10_MayMsg, bs_ref10_MayMsg, Bool, w, out_ref10_MayMsg⟩
noncomputable def con_ref10_MayMsg (N : Nat) : Con := conw_ref10_MayMsg (W_ref10_MayMsg N)
theorem R_ref10_MayMsg_eq (x : M_) (y : Bool) : retOf2 P0 Try.f17 (kpL []) (lbOf as_ref10_MayMsg bs_ref10_MayMsg x) (patS ⟨160, [], [], []⟩ pout_ref10_MayMsg y) = some (out_ref10_MayMsg y) := by kernel_rfl
theorem con_ref10_MayMsg_ok (N : Nat) : Con.ok P0 (con_ref10_MayMsg N) := ⟨⟨Try.f17, Try.func17, by kernel_rfl, by kernel_rfl⟩, fun (x : M_) (r : Bool) (hr : W_ref10_MayMsg N x = some r) =>
  spec2_evT (Γ := G_ref10_MayMsg (W_ref1_MayPath N) (W_ref10_seq N) (W_ref1_MaySpan N) (W_ref10_SameMsg N) N) (Λ := L0) (pout := pout_ref10_MayMsg) (kp := kpL []) mixed (orcOf_ok _ (by simp only [List.mem_cons, List.not_mem_nil, or_false, forall_eq_or_imp, forall_eq]; exact ⟨con_ref1_MayPath_ok N, con_ref10_seq_ok N, con_ref1_MaySpan_ok N, con_ref10_SameMsg_ok N⟩)) Try.func17 (c := bodyOf Try.f17) (by kernel_rfl) (by kernel_rfl) (of_decide_eq_true (by kernel_rfl)) ((F_ref10_MayMsg_eq N x).trans hr) (R_ref10_MayMsg_eq x r)⟩
def as_bytes_Clone : List AS := [.val (.list (.int .u8))]
def bs_bytes_Clone : List BS := []
def pout_bytes_Clone : Pat := ⟨[(2, .acc 700005)], [(700005, .nrow 5 (.int .u8) false true)]⟩
noncomputable def G_bytes_Clone  (N : Nat) : OrcT := orcOf []
noncomputable def F_bytes_Clone  (N : Nat) (x : List Int) : Option (List Int) :=
  (evT (G_bytes_Clone  N) L0 P0 []
    [] N 400 (bodyOf Try.f62) ⟨8, slots 0 [.nl ⟨(.int .u8), x⟩], tabU (lbOf as_bytes_Clone bs_bytes_Clone x) [], []⟩).elim (kRet 8 pout_bytes_Clone (kpL []) (lbOf as_bytes_Clone bs_bytes_Clone x))
def out_bytes_Clone (y : List Int) : V × List OK × List OK := (.acc 2000000 0, [], [.nrow 5 false true ⟨(.int .u8), y⟩])
noncomputable def V_bytes_Clone  (N : Nat) (x : List Int) : Option (List Int) :=
  cnd (decide (List.length x * (1:Nat) ≤ (140737488355328:Nat))) (some x) none
theorem FV_bytes_Clone_eq  (N : Nat) (x : List Int) : F_bytes_Clone  N x = V_bytes_Clone  N x := by kernel_rfl
noncomputable def W_bytes_Clone (N : Nat) (x : List Int) : Option (List Int) := V_bytes_Clone  N x
theorem F_bytes_Clone_eq (N : Nat) (x : List Int) : F_bytes_Clone  N x = W_bytes_Clone N x := (FV_bytes_Clone_eq  N x).trans (by kernel_rfl)
noncomputable def conw_bytes_Clone (w : List Int → Option (List Int)) : Con := ⟨62, as_bytes_Clone, bs_bytes_Clone, List Int, w, out_bytes_Clone⟩
noncomputable def con_bytes_Clone (N : Nat) : Con := conw_bytes_Clone (W_bytes_Clone N)
theorem R_bytes_Clone_eq (x : List Int) (y : List Int) : retOf2 P0 Try.f62 (kpL []) (lbOf as_bytes_Clone bs_bytes_Clone x) (patS ⟨8, [], [], []⟩ pout_bytes_Clone y) = some (out_bytes_Clone y) := by kernel_rfl
noncomputable def FA_bytes_Clone : Option (List Int) := (evT (G_bytes_Clone 1) L0 P0 [] [] 1 400 (bodyOf Try.f62) ⟨8, slots 0 [.snil], tabU [] [], []⟩).elim (kRet 8 pout_bytes_Clone (kpL []) [])
theorem FA_bytes_Clone_eq : FA_bytes_Clone = some [] := by kernel_rfl
theorem WN_bytes_Clone (N : Nat) (r : List Int) (h : W_bytes_Clone N [] = some r) : r = [] := by
  have e : W_bytes_Clone N [] = some [] := by kernel_rfl
  rw [e] at h; injection h with h; exact h.symm
theorem con_bytes_Clone_ok (N : Nat) : Con.ok P0 (con_bytes_Clone N) := ⟨⟨Try.f62, Try.func62, by kernel_rfl, by kernel_rfl⟩, fun (x : List Int) (r : List Int) (hr : W_bytes_Clone N x = some r) =>
  clone_split (e := (.int .u8)) (ty := 5) (l := x) (r := r)
    (spec2_evT (Γ := G_bytes_Clone 1) (Λ := L0) (lb := []) (pout := pout_bytes_Clone) (kp := kpL []) mixed (orcOf_ok [] (by simp)) Try.func62 (c := bodyOf Try.f62) (by kernel_rfl) (by kernel_rfl) (of_decide_eq_true (by kernel_rfl)) FA_bytes_Clone_eq (R_bytes_Clone_eq x []))
    (spec2_evT (Γ := G_bytes_Clone N) (Λ := L0) (lb := []) (pout := pout_bytes_Clone) (kp := kpL []) mixed (orcOf_ok [] (by simp)) Try.func62 (c := bodyOf Try.f62) (by kernel_rfl) (by kernel_rfl) (of_decide_eq_true (by kernel_rfl)) ((F_bytes_Clone_eq N x).trans hr) (R_bytes_Clone_eq x r))
    (fun h => by subst h; exact WN_bytes_Clone N r hr)⟩
def as_bits_Put : List AS := [.val (.list (.int .u8)), .val (.int .i64)]
def bs_bits_Put : List BS := []
def pout_bits_Put : Pat := ⟨[(4, .acc 700007)], [(700007, .nrow 5 (.int .u8) false true)]⟩
noncomputable def G_bits_Put (w_bytes_Clone : List Int → Option (List Int)) (N : Nat) : OrcT := orcOf [conw_bytes_Clone w_bytes_Clone]
noncomputable def F_bits_Put (w_bytes_Clone : List Int → Option (List Int)) (N : Nat) (x : (List Int) × Int) : Option (List Int) :=
  (evT (G_bits_Put w_bytes_Clone N) L0 P0 [(4, .loop [] ⟨[(1, .val (.int .i64)), (5, .acc 700007)], [(700007, .nrow 5 (.int .u8) false true)]⟩ [(.exit 0, ⟨[(1, .val (.int .i64)), (5, .acc 700007)], [(700007, .nrow 5 (.int .u8) false true)]⟩)])]
    [] N 400 (bodyOf Try.f61) ⟨31, slots 0 (argsOf as_bits_Put bs_bits_Put x), tabU (lbOf as_bits_Put bs_bits_Put x) [], []⟩).elim (kRet 31 pout_bits_Put (kpL []) (lbOf as_bits_Put bs_bits_Put x))
def out_bits_Put (y : List Int) : V × List OK × List OK := (.acc 2000000 0, [], [.nrow 5 false true ⟨(.int .u8), y⟩])
noncomputable def V_bits_Put (w_bytes_Clone : List Int → Option (List Int)) (N : Nat) (x : (List Int) × Int) : Option (List Int) :=
  obind (w_bytes_Clone x.1) fun b => cnd (decide (x.2 < (0:Int))) (some b) (cnd (decide ((1073741824:Int) < x.2)) (some b) (obind (loopN N (fun (v :
    Int × List Int) => cnd (decide ((128:Int) ≤ v.1)) (cnd (decide ((List.length v.2 + List.length [wr .u8 (wr .i64 (Int.tmod v.1 (128:Int) +
    (128:Int)))]) * (1:Nat) ≤ (140737488355328:Nat))) (some (Sum.inl (wr .i64 (Int.tdiv v.1 (128:Int)), v.2 ++ [wr .u8 (wr .i64 (Int.tmod v.1 (128:Int)
    + (128:Int)))]))) none) (some (Sum.inr (v.1, v.2)))) (x.2, b)) fun (b : Int × List Int) => cnd (decide ((List.length b.2 + List.length [wr .u8 b.1])
    * (1:Nat) ≤ (140737488355328:Nat))) (some (b.2 ++ [wr .u8 b.1])) none))
theorem FV_bits_Put_eq (w_bytes_Clone : List Int → Option (List Int)) (N : Nat) (x : (List Int) × Int) : F_bits_Put w_bytes_Clone N x = V_bits_Put w_bytes_Clone N x := by kernel_rfl
noncomputable def W_bits_Put (N : Nat) (x : (List Int) × Int) : Option (List Int) := V_bits_Put (W_bytes_Clone N) N x
theorem F_bits_Put_eq (N : Nat) (x : (List Int) × Int) : F_bits_Put (W_bytes_Clone N) N x = W_bits_Put N x := (FV_bits_Put_eq (W_bytes_Clone N) N x).trans (by kernel_rfl)
noncomputable def conw_bits_Put (w : (List Int) × Int → Option (List Int)) : Con := ⟨61, as_bits_Put, bs_bits_Put, List Int, w, out_bits_Put⟩
noncomputable def con_bits_Put (N : Nat) : Con := conw_bits_Put (W_bits_Put N)
theorem R_bits_Put_eq (x : (List Int) × Int) (y : List Int) : retOf2 P0 Try.f61 (kpL []) (lbOf as_bits_Put bs_bits_Put x) (patS ⟨31, [], [], []⟩ pout_bits_Put y) = some (out_bits_Put y) := by kernel_rfl
theorem con_bits_Put_ok (N : Nat) : Con.ok P0 (con_bits_Put N) := ⟨⟨Try.f61, Try.func61, by kernel_rfl, by kernel_rfl⟩, fun (x : (List Int) × Int) (r : List Int) (hr : W_bits_Put N x = some r) =>
  spec2_evT (Γ := G_bits_Put (W_bytes_Clone N) N) (Λ := L0) (pout := pout_bits_Put) (kp := kpL []) mixed (orcOf_ok _ (by simp only [List.mem_cons, List.not_mem_nil, or_false, forall_eq_or_imp, forall_eq]; exact con_bytes_Clone_ok N)) Try.func61 (c := bodyOf Try.f61) (by kernel_rfl) (by kernel_rfl) (of_decide_eq_true (by kernel_rfl)) ((F_bits_Put_eq N x).trans hr) (R_bits_Put_eq x r)⟩
def as_msg_numbers : List AS := [.val (.list (.int .u8)), .val (.list (.int .i64))]
def bs_msg_numbers : List BS := []
def pout_msg_numbers : Pat := ⟨[(4, .val (.list (.int .u8)))], []⟩
noncomputable def G_msg_numbers (w_bits_Put : (List Int) × Int → Option (List Int)) (N : Nat) : OrcT := orcOf [conw_bits_Put w_bits_Put]
noncomputable def F_msg_numbers (w_bits_Put : (List Int) × Int → Option (List Int)) (N : Nat) (x : (List Int) × List Int) : Option (List Int) :=
  (evT (G_msg_numbers w_bits_Put N) L0 P0 [(2, .loop [7] ⟨[(0, .val (.list (.int .u8))), (9, .val (.int .i64))], []⟩ [(.exit 0, ⟨[(0, .val (.list (.int .u8)))], []⟩)])]
    [] N 400 (bodyOf Try.f42) ⟨18, slots 0 (argsOf as_msg_numbers bs_msg_numbers x), tabU (lbOf as_msg_numbers bs_msg_numbers x) [], []⟩).elim (kRet 18 pout_msg_numbers (kpL []) (lbOf as_msg_numbers bs_msg_numbers x))
def out_msg_numbers (y : List Int) : V × List OK × List OK := (valW (.list (.int .u8)) y, [], [])
noncomputable def V_msg_numbers (w_bits_Put : (List Int) × Int → Option (List Int)) (N : Nat) (x : (List Int) × List Int) : Option (List Int) :=
  obind (loopN N (fun (v : List Int × Int) => cnd (decide (v.2 < (↑(List.length x.2) : Int))) (cnd (decide ((0:Int) ≤ v.2) && decide (v.2 <
    (↑(List.length x.2) : Int))) (obind (w_bits_Put (v.1, List.getD x.2 (Int.toNat v.2) (0:Int))) fun b => some (Sum.inl (b, wr .i64 (v.2 +
    (1:Int))))) none) (some (Sum.inr v.1))) (x.1, (0:Int))) fun (b : List Int) => some b
theorem FV_msg_numbers_eq (w_bits_Put : (List Int) × Int → Option (List Int)) (N : Nat) (x : (List Int) × List Int) : F_msg_numbers w_bits_Put N x = V_msg_numbers w_bits_Put N x := by kernel_rfl
noncomputable def W_msg_numbers (N : Nat) (x : (List Int) × List Int) : Option (List Int) := V_msg_numbers (W_bits_Put N) N x
theorem F_msg_numbers_eq (N : Nat) (x : (List Int) × List Int) : F_msg_numbers (W_bits_Put N) N x = W_msg_numbers N x := (FV_msg_numbers_eq (W_bits_Put N) N x).trans (by kernel_rfl)
noncomputable def conw_msg_numbers (w : (List Int) × List Int → Option (List Int)) : Con := ⟨42, as_msg_numbers, bs_msg_numbers, List Int, w, out_msg_numbers⟩
noncomputable def con_msg_numbers (N : Nat) : Con := conw_msg_numbers (W_msg_numbers N)
theorem R_msg_numbers_eq (x : (List Int) × List Int) (y : List Int) : retOf2 P0 Try.f42 (kpL []) (lbOf as_msg_numbers bs_msg_numbers x) (patS ⟨18, [], [], []⟩ pout_msg_numbers y) = some (out_msg_numbers y) := by kernel_rfl
theorem con_msg_numbers_ok (N : Nat) : Con.ok P0 (con_msg_numbers N) := ⟨⟨Try.f42, Try.func42, by kernel_rfl, by kernel_rfl⟩, fun (x : (List Int) × List Int) (r : List Int) (hr : W_msg_numbers N x = some r) =>
  spec2_evT (Γ := G_msg_numbers (W_bits_Put N) N) (Λ := L0) (pout := pout_msg_numbers) (kp := kpL []) mixed (orcOf_ok _ (by simp only [List.mem_cons, List.not_mem_nil, or_false, forall_eq_or_imp, forall_eq]; exact con_bits_Put_ok N)) Try.func42 (c := bodyOf Try.f42) (by kernel_rfl) (by kernel_rfl) (of_decide_eq_true (by kernel_rfl)) ((F_msg_numbers_eq N x).trans hr) (R_msg_numbers_eq x r)⟩
def as_bits_PutText : List AS := [.val (.list (.int .u8)), .val .str]
def bs_bits_PutText : List BS := []
def pout_bits_PutText : Pat := ⟨[(4, .acc 700013)], [(700013, .nrow 5 (.int .u8) false true)]⟩
noncomputable def G_bits_PutText (w_bytes_Clone : List Int → Option (List Int)) (w_bits_Put : (List Int) × Int → Option (List Int)) (N : Nat) : OrcT := orcOf [conw_bytes_Clone w_bytes_Clone, conw_bits_Put w_bits_Put]
noncomputable def F_bits_PutText (w_bytes_Clone : List Int → Option (List Int)) (w_bits_Put : (List Int) × Int → Option (List Int)) (N : Nat) (x : (List Int) × List UInt8) : Option (List Int) :=
  (evT (G_bits_PutText w_bytes_Clone w_bits_Put N) L0 P0 []
    [] N 400 (bodyOf Try.f43) ⟨16, slots 0 (argsOf as_bits_PutText bs_bits_PutText x), tabU (lbOf as_bits_PutText bs_bits_PutText x) [], []⟩).elim (kRet 16 pout_bits_PutText (kpL []) (lbOf as_bits_PutText bs_bits_PutText x))
def out_bits_PutText (y : List Int) : V × List OK × List OK := (.acc 2000000 0, [], [.nrow 5 false true ⟨(.int .u8), y⟩])
noncomputable def V_bits_PutText (w_bytes_Clone : List Int → Option (List Int)) (w_bits_Put : (List Int) × Int → Option (List Int)) (N : Nat) (x : (List Int) × List UInt8) : Option (List Int) :=
  cnd (decide ((1073741824:Int) < (↑(List.length x.2) : Int))) (obind (w_bytes_Clone x.1) fun b => some b) (obind (w_bits_Put (x.1, (↑(List.length
    x.2) : Int))) fun b => cnd (decide ((List.length b + List.length (List.map (fun (b : UInt8) => (↑(UInt8.toNat b) : Int)) x.2)) * (1:Nat) ≤
    (140737488355328:Nat))) (some (b ++ List.map (fun (b : UInt8) => (↑(UInt8.toNat b) : Int)) x.2)) none)
theorem FV_bits_PutText_eq (w_bytes_Clone : List Int → Option (List Int)) (w_bits_Put : (List Int) × Int → Option (List Int)) (N : Nat) (x : (List Int) × List UInt8) : F_bits_PutText w_bytes_Clone w_bits_Put N x = V_bits_PutText w_bytes_Clone w_bits_Put N x := by kernel_rfl
noncomputable def W_bits_PutText (N : Nat) (x : (List Int) × List UInt8) : Option (List Int) := V_bits_PutText (W_bytes_Clone N) (W_bits_Put N) N x
theorem F_bits_PutText_eq (N : Nat) (x : (List Int) × List UInt8) : F_bits_PutText (W_bytes_Clone N) (W_bits_Put N) N x = W_bits_PutText N x := (FV_bits_PutText_eq (W_bytes_Clone N) (W_bits_Put N) N x).trans (by kernel_rfl)
noncomputable def conw_bits_PutText (w : (List Int) × List UInt8 → Option (List Int)) : Con := ⟨43, as_bits_PutText, bs_bits_PutText, List Int, w, out_bits_PutText⟩
noncomputable def con_bits_PutText (N : Nat) : Con := conw_bits_PutText (W_bits_PutText N)
theorem R_bits_PutText_eq (x : (List Int) × List UInt8) (y : List Int) : retOf2 P0 Try.f43 (kpL []) (lbOf as_bits_PutText bs_bits_PutText x) (patS ⟨16, [], [], []⟩ pout_bits_PutText y) = some (out_bits_PutText y) := by kernel_rfl
theorem con_bits_PutText_ok (N : Nat) : Con.ok P0 (con_bits_PutText N) := ⟨⟨Try.f43, Try.func43, by kernel_rfl, by kernel_rfl⟩, fun (x : (List Int) × List UInt8) (r : List Int) (hr : W_bits_PutText N x = some r) =>
  spec2_evT (Γ := G_bits_PutText (W_bytes_Clone N) (W_bits_Put N) N) (Λ := L0) (pout := pout_bits_PutText) (kp := kpL []) mixed (orcOf_ok _ (by simp only [List.mem_cons, List.not_mem_nil, or_false, forall_eq_or_imp, forall_eq]; exact ⟨con_bytes_Clone_ok N, con_bits_Put_ok N⟩)) Try.func43 (c := bodyOf Try.f43) (by kernel_rfl) (by kernel_rfl) (of_decide_eq_true (by kernel_rfl)) ((F_bits_PutText_eq N x).trans hr) (R_bits_PutText_eq x r)⟩
def as_crc_step : List AS := [.val (.int .u32), .val (.int .i32)]
def bs_crc_step : List BS := []
def pout_crc_step : Pat := ⟨[(4, .val (.int .u32))], []⟩
noncomputable def G_crc_step  (N : Nat) : OrcT := orcOf []
noncomputable def F_crc_step  (N : Nat) (x : Int × Int) : Option (Int) :=
  (evT (G_crc_step  N) L0 P0 [(3, .loop [] ⟨[(0, .val (.int .u32)), (10, .val (.int .i64))], []⟩ [(.exit 0, ⟨[(0, .val (.int .u32))], []⟩)])]
    [] N 400 (bodyOf Try.f71) ⟨22, slots 0 (argsOf as_crc_step bs_crc_step x), tabU (lbOf as_crc_step bs_crc_step x) [], []⟩).elim (kRet 22 pout_crc_step (kpL []) (lbOf as_crc_step bs_crc_step x))
def out_crc_step (y : Int) : V × List OK × List OK := (valW (.int .u32) y, [], [])
noncomputable def V_crc_step  (N : Nat) (x : Int × Int) : Option (Int) :=
  obind (loopN N (fun (v : Int × Int) => cnd (decide (v.2 < (8:Int))) (cnd (decide (wr .u32 (↑(BitVec.toNat (BitVec.ofInt (32:Nat) v.1 &&& BitVec.ofInt
    (32:Nat) (1:Int))) : Int) = (1:Int))) (some (Sum.inl (wr .u32 (↑(BitVec.toNat (BitVec.ofInt (32:Nat) (Int.fdiv v.1 ((2:Int) ^ (1:Nat))) ^^^
    BitVec.ofInt (32:Nat) (3988292384:Int))) : Int), wr .i64 (v.2 + (1:Int))))) (some (Sum.inl (Int.fdiv v.1 ((2:Int) ^ (1:Nat)), wr .i64 (v.2 +
    (1:Int)))))) (some (Sum.inr v.1))) (wr .u32 (↑(BitVec.toNat (BitVec.ofInt (32:Nat) x.1 ^^^ BitVec.ofInt (32:Nat) (wr .u32 x.2))) : Int), (0:Int)))
    fun (b : Int) => some b
theorem FV_crc_step_eq  (N : Nat) (x : Int × Int) : F_crc_step  N x = V_crc_step  N x := by kernel_rfl
noncomputable def W_crc_step (N : Nat) (x : Int × Int) : Option (Int) := V_crc_step  N x
theorem F_crc_step_eq (N : Nat) (x : Int × Int) : F_crc_step  N x = W_crc_step N x := (FV_crc_step_eq  N x).trans (by kernel_rfl)
noncomputable def conw_crc_step (w : Int × Int → Option (Int)) : Con := ⟨71, as_crc_step, bs_crc_step, Int, w, out_crc_step⟩
noncomputable def con_crc_step (N : Nat) : Con := conw_crc_step (W_crc_step N)
theorem R_crc_step_eq (x : Int × Int) (y : Int) : retOf2 P0 Try.f71 (kpL []) (lbOf as_crc_step bs_crc_step x) (patS ⟨22, [], [], []⟩ pout_crc_step y) = some (out_crc_step y) := by kernel_rfl
theorem con_crc_step_ok (N : Nat) : Con.ok P0 (con_crc_step N) := ⟨⟨Try.f71, Try.func71, by kernel_rfl, by kernel_rfl⟩, fun (x : Int × Int) (r : Int) (hr : W_crc_step N x = some r) =>
  spec2_evT (Γ := G_crc_step N) (Λ := L0) (pout := pout_crc_step) (kp := kpL []) mixed (orcOf_ok [] (by simp)) Try.func71 (c := bodyOf Try.f71) (by kernel_rfl) (by kernel_rfl) (of_decide_eq_true (by kernel_rfl)) ((F_crc_step_eq N x).trans hr) (R_crc_step_eq x r)⟩
def as_crc_Sum : List AS := [.val (.list (.int .u8))]
def bs_crc_Sum : List BS := []
def pout_crc_Sum : Pat := ⟨[(2, .val (.int .u32))], []⟩
noncomputable def G_crc_Sum (w_crc_step : Int × Int → Option (Int)) (N : Nat) : OrcT := orcOf [conw_crc_step w_crc_step]
noncomputable def F_crc_Sum (w_crc_step : Int × Int → Option (Int)) (N : Nat) (x : List Int) : Option (Int) :=
  (evT (G_crc_Sum w_crc_step N) L0 P0 [(3, .loop [6] ⟨[(3, .val (.int .u32)), (8, .val (.int .i64))], []⟩ [(.exit 0, ⟨[(3, .val (.int .u32))], []⟩)])]
    [] N 400 (bodyOf Try.f63) ⟨19, slots 0 (argsOf as_crc_Sum bs_crc_Sum x), tabU (lbOf as_crc_Sum bs_crc_Sum x) [], []⟩).elim (kRet 19 pout_crc_Sum (kpL []) (lbOf as_crc_Sum bs_crc_Sum x))
def out_crc_Sum (y : Int) : V × List OK × List OK := (valW (.int .u32) y, [], [])
noncomputable def V_crc_Sum (w_crc_step : Int × Int → Option (Int)) (N : Nat) (x : List Int) : Option (Int) :=
  obind (loopN N (fun (v : Int × Int) => cnd (decide (v.2 < (↑(List.length x) : Int))) (cnd (decide ((0:Int) ≤ v.2) && decide (v.2 < (↑(List.length x) :
    Int))) (obind (w_crc_step (v.1, wr .i32 (List.getD x (Int.toNat v.2) (0:Int)))) fun b => some (Sum.inl (b, wr .i64 (v.2 + (1:Int))))) none) (some
    (Sum.inr v.1))) ((4294967295:Int), (0:Int))) fun (b : Int) => some (wr .u32 (↑(BitVec.toNat (BitVec.ofInt (32:Nat) (IntKind.max .u32) ^^^
    BitVec.ofInt (32:Nat) b)) : Int))
theorem FV_crc_Sum_eq (w_crc_step : Int × Int → Option (Int)) (N : Nat) (x : List Int) : F_crc_Sum w_crc_step N x = V_crc_Sum w_crc_step N x := by kernel_rfl
noncomputable def W_crc_Sum (N : Nat) (x : List Int) : Option (Int) := V_crc_Sum (W_crc_step N) N x
theorem F_crc_Sum_eq (N : Nat) (x : List Int) : F_crc_Sum (W_crc_step N) N x = W_crc_Sum N x := (FV_crc_Sum_eq (W_crc_step N) N x).trans (by kernel_rfl)
noncomputable def conw_crc_Sum (w : List Int → Option (Int)) : Con := ⟨63, as_crc_Sum, bs_crc_Sum, Int, w, out_crc_Sum⟩
noncomputable def con_crc_Sum (N : Nat) : Con := conw_crc_Sum (W_crc_Sum N)
theorem R_crc_Sum_eq (x : List Int) (y : Int) : retOf2 P0 Try.f63 (kpL []) (lbOf as_crc_Sum bs_crc_Sum x) (patS ⟨19, [], [], []⟩ pout_crc_Sum y) = some (out_crc_Sum y) := by kernel_rfl
theorem con_crc_Sum_ok (N : Nat) : Con.ok P0 (con_crc_Sum N) := ⟨⟨Try.f63, Try.func63, by kernel_rfl, by kernel_rfl⟩, fun (x : List Int) (r : Int) (hr : W_crc_Sum N x = some r) =>
  spec2_evT (Γ := G_crc_Sum (W_crc_step N) N) (Λ := L0) (pout := pout_crc_Sum) (kp := kpL []) mixed (orcOf_ok _ (by simp only [List.mem_cons, List.not_mem_nil, or_false, forall_eq_or_imp, forall_eq]; exact con_crc_step_ok N)) Try.func63 (c := bodyOf Try.f63) (by kernel_rfl) (by kernel_rfl) (of_decide_eq_true (by kernel_rfl)) ((F_crc_Sum_eq N x).trans hr) (R_crc_Sum_eq x r)⟩
def as_msg_sum : List AS := [.val (.list (.int .u8))]
def bs_msg_sum : List BS := []
def pout_msg_sum : Pat := ⟨[(2, .val (.list (.int .u8)))], []⟩
noncomputable def G_msg_sum (w_crc_Sum : List Int → Option (Int)) (N : Nat) : OrcT := orcOf [conw_crc_Sum w_crc_Sum]
noncomputable def F_msg_sum (w_crc_Sum : List Int → Option (Int)) (N : Nat) (x : List Int) : Option (List Int) :=
  (evT (G_msg_sum w_crc_Sum N) L0 P0 []
    [] N 400 (bodyOf Try.f44) ⟨18, slots 0 (argsOf as_msg_sum bs_msg_sum x), tabU (lbOf as_msg_sum bs_msg_sum x) [], []⟩).elim (kRet 18 pout_msg_sum (kpL []) (lbOf as_msg_sum bs_msg_sum x))
def out_msg_sum (y : List Int) : V × List OK × List OK := (valW (.list (.int .u8)) y, [], [])
noncomputable def V_msg_sum (w_crc_Sum : List Int → Option (Int)) (N : Nat) (x : List Int) : Option (List Int) :=
  obind (w_crc_Sum x) fun b =>
    some
      [wr .u8 (Int.fdiv b ((2:Int) ^ (24:Nat))), wr .u8 (Int.fdiv b ((2:Int) ^ (16:Nat))),
        wr .u8 (Int.fdiv b ((2:Int) ^ (8:Nat))), wr .u8 b]
theorem FV_msg_sum_eq (w_crc_Sum : List Int → Option (Int)) (N : Nat) (x : List Int) : F_msg_sum w_crc_Sum N x = V_msg_sum w_crc_Sum N x := by kernel_rfl
noncomputable def W_msg_sum (N : Nat) (x : List Int) : Option (List Int) := V_msg_sum (W_crc_Sum N) N x
theorem F_msg_sum_eq (N : Nat) (x : List Int) : F_msg_sum (W_crc_Sum N) N x = W_msg_sum N x := (FV_msg_sum_eq (W_crc_Sum N) N x).trans (by kernel_rfl)
noncomputable def conw_msg_sum (w : List Int → Option (List Int)) : Con := ⟨44, as_msg_sum, bs_msg_sum, List Int, w, out_msg_sum⟩
noncomputable def con_msg_sum (N : Nat) : Con := conw_msg_sum (W_msg_sum N)
theorem R_msg_sum_eq (x : List Int) (y : List Int) : retOf2 P0 Try.f44 (kpL []) (lbOf as_msg_sum bs_msg_sum x) (patS ⟨18, [], [], []⟩ pout_msg_sum y) = some (out_msg_sum y) := by kernel_rfl
theorem con_msg_sum_ok (N : Nat) : Con.ok P0 (con_msg_sum N) := ⟨⟨Try.f44, Try.func44, by kernel_rfl, by kernel_rfl⟩, fun (x : List Int) (r : List Int) (hr : W_msg_sum N x = some r) =>
  spec2_evT (Γ := G_msg_sum (W_crc_Sum N) N) (Λ := L0) (pout := pout_msg_sum) (kp := kpL []) mixed (orcOf_ok _ (by simp only [List.mem_cons, List.not_mem_nil, or_false, forall_eq_or_imp, forall_eq]; exact con_crc_Sum_ok N)) Try.func44 (c := bodyOf Try.f44) (by kernel_rfl) (by kernel_rfl) (of_decide_eq_true (by kernel_rfl)) ((F_msg_sum_eq N x).trans hr) (R_msg_sum_eq x r)⟩
def as_msg_Put : List AS := [.val (.agg T_)]
def bs_msg_Put : List BS := []
def pout_msg_Put : Pat := ⟨[(2, .val (.list (.int .u8)))], []⟩
noncomputable def G_msg_Put (w_msg_May : M_ → Option (Bool)) (w_msg_numbers : (List Int) × List Int → Option (List Int)) (w_bits_PutText : (List Int) × List UInt8 → Option (List Int)) (w_msg_sum : List Int → Option (List Int)) (N : Nat) : OrcT := orcOf [conw_msg_May w_msg_May, conw_msg_numbers w_msg_numbers, conw_bits_PutText w_bits_PutText, conw_msg_sum w_msg_sum]
noncomputable def F_msg_Put (w_msg_May : M_ → Option (Bool)) (w_msg_numbers : (List Int) × List Int → Option (List Int)) (w_bits_PutText : (List Int) × List UInt8 → Option (List Int)) (w_msg_sum : List Int → Option (List Int)) (N : Nat) (x : M_) : Option (List Int) :=
  (evT (G_msg_Put w_msg_May w_msg_numbers w_bits_PutText w_msg_sum N) L0 P0 []
    [] N 400 (bodyOf Try.f18) ⟨43, slots 0 (argsOf as_msg_Put bs_msg_Put x), tabU (lbOf as_msg_Put bs_msg_Put x) [], []⟩).elim (kRet 43 pout_msg_Put (kpL []) (lbOf as_msg_Put bs_msg_Put x))
def out_msg_Put (y : List Int) : V × List OK × List OK := (valW (.list (.int .u8)) y, [], [])
noncomputable def V_msg_Put (w_msg_May : M_ → Option (Bool)) (w_msg_numbers : (List Int) × List Int → Option (List Int)) (w_bits_PutText : (List Int) × List UInt8 → Option (List Int)) (w_msg_sum : List Int → Option (List Int)) (N : Nat) (x : M_) : Option (List Int) :=
  obind (w_msg_May (x.1, x.2.1, x.2.2.1, x.2.2.2.1, x.2.2.2.2.1, x.2.2.2.2.2.1, x.2.2.2.2.2.2.1, x.2.2.2.2.2.2.2.1, x.2.2.2.2.2.2.2.2.1,
    x.2.2.2.2.2.2.2.2.2)) fun b => cnd (!b) (some []) (obind (w_msg_numbers ([], [x.1, x.2.1, x.2.2.1, x.2.2.2.1, x.2.2.2.2.1, x.2.2.2.2.2.1,
    (↑(List.length x.2.2.2.2.2.2.1) : Int)])) fun b => obind (w_msg_numbers (b, x.2.2.2.2.2.2.1)) fun b => obind (w_msg_numbers (b,
    [x.2.2.2.2.2.2.2.1, x.2.2.2.2.2.2.2.2.1])) fun b => obind (w_bits_PutText (b, x.2.2.2.2.2.2.2.2.2)) fun b => obind (w_msg_sum b) fun b_1 => cnd
    (decide ((List.length b + List.length b_1) * (1:Nat) ≤ (140737488355328:Nat))) (some (b ++ b_1)) none)
theorem FV_msg_Put_eq (w_msg_May : M_ → Option (Bool)) (w_msg_numbers : (List Int) × List Int → Option (List Int)) (w_bits_PutText : (List Int) × List UInt8 → Option (List Int)) (w_msg_sum : List Int → Option (List Int)) (N : Nat) (x : M_) : F_msg_Put w_msg_May w_msg_numbers w_bits_PutText w_msg_sum N x = V_msg_Put w_msg_May w_msg_numbers w_bits_PutText w_msg_sum N x := by kernel_rfl
noncomputable def W_msg_Put (N : Nat) (x : M_) : Option (List Int) := V_msg_Put (W_msg_May N) (W_msg_numbers N) (W_bits_PutText N) (W_msg_sum N) N x
theorem F_msg_Put_eq (N : Nat) (x : M_) : F_msg_Put (W_msg_May N) (W_msg_numbers N) (W_bits_PutText N) (W_msg_sum N) N x = W_msg_Put N x := (FV_msg_Put_eq (W_msg_May N) (W_msg_numbers N) (W_bits_PutText N) (W_msg_sum N) N x).trans (by kernel_rfl)
noncomputable def conw_msg_Put (w : M_ → Option (List Int)) : Con := ⟨18, as_msg_Put, bs_msg_Put, List Int, w, out_msg_Put⟩
noncomputable def con_msg_Put (N : Nat) : Con := conw_msg_Put (W_msg_Put N)
theorem R_msg_Put_eq (x : M_) (y : List Int) : retOf2 P0 Try.f18 (kpL []) (lbOf as_msg_Put bs_msg_Put x) (patS ⟨43, [], [], []⟩ pout_msg_Put y) = some (out_msg_Put y) := by kernel_rfl
theorem con_msg_Put_ok (N : Nat) : Con.ok P0 (con_msg_Put N) := ⟨⟨Try.f18, Try.func18, by kernel_rfl, by kernel_rfl⟩, fun (x : M_) (r : List Int) (hr : W_msg_Put N x = some r) =>
  spec2_evT (Γ := G_msg_Put (W_msg_May N) (W_msg_numbers N) (W_bits_PutText N) (W_msg_sum N) N) (Λ := L0) (pout := pout_msg_Put) (kp := kpL []) mixed (orcOf_ok _ (by simp only [List.mem_cons, List.not_mem_nil, or_false, forall_eq_or_imp, forall_eq]; exact ⟨con_msg_May_ok N, con_msg_numbers_ok N, con_bits_PutText_ok N, con_msg_sum_ok N⟩)) Try.func18 (c := bodyOf Try.f18) (by kernel_rfl) (by kernel_rfl) (of_decide_eq_true (by kernel_rfl)) ((F_msg_Put_eq N x).trans hr) (R_msg_Put_eq x r)⟩
def as_ref10_PutNum : List AS := [.val (.list (.int .u8)), .val (.int .i64)]
def bs_ref10_PutNum : List BS := []
def pout_ref10_PutNum : Pat := ⟨[(4, .acc 700006)], [(700006, .nrow 5 (.int .u8) false true)]⟩
noncomputable def G_ref10_PutNum  (N : Nat) : OrcT := orcOf []
noncomputable def F_ref10_PutNum  (N : Nat) (x : (List Int) × Int) : Option (List Int) :=
  (evT (G_ref10_PutNum  N) L0 P0 [(2, .loop [] ⟨[(1, .val (.int .i64)), (5, .acc 700006)], [(700006, .nrow 5 (.int .u8) false true)]⟩ [(.exit 0, ⟨[(1, .val (.int .i64)), (5, .acc 700006)], [(700006, .nrow 5 (.int .u8) false true)]⟩)])]
    [] N 400 (bodyOf Try.f45) ⟨25, slots 0 (argsOf as_ref10_PutNum bs_ref10_PutNum x), tabU (lbOf as_ref10_PutNum bs_ref10_PutNum x) [], []⟩).elim (kRet 25 pout_ref10_PutNum (kpL []) (lbOf as_ref10_PutNum bs_ref10_PutNum x))
def out_ref10_PutNum (y : List Int) : V × List OK × List OK := (.acc 2000000 0, [], [.nrow 5 false true ⟨(.int .u8), y⟩])
noncomputable def V_ref10_PutNum  (N : Nat) (x : (List Int) × Int) : Option (List Int) :=
  cnd (decide (List.length x.1 * (1:Nat) ≤ (140737488355328:Nat))) (obind (loopN N (fun (v : Int × List Int) => cnd (decide ((128:Int) ≤ v.1)) (cnd
    (decide ((List.length v.2 + List.length [wr .u8 (wr .i64 (Int.tmod v.1 (128:Int) + (128:Int)))]) * (1:Nat) ≤ (140737488355328:Nat))) (some (Sum.inl
    (wr .i64 (Int.tdiv v.1 (128:Int)), v.2 ++ [wr .u8 (wr .i64 (Int.tmod v.1 (128:Int) + (128:Int)))]))) none) (some (Sum.inr (v.1, v.2)))) (x.2, x.1))
    fun (b : Int × List Int) => cnd (decide ((List.length b.2 + List.length [wr .u8 b.1]) * (1:Nat) ≤ (140737488355328:Nat))) (some (b.2 ++ [wr .u8
    b.1])) none) none
theorem FV_ref10_PutNum_eq  (N : Nat) (x : (List Int) × Int) : F_ref10_PutNum  N x = V_ref10_PutNum  N x := by kernel_rfl
noncomputable def W_ref10_PutNum (N : Nat) (x : (List Int) × Int) : Option (List Int) := V_ref10_PutNum  N x
theorem F_ref10_PutNum_eq (N : Nat) (x : (List Int) × Int) : F_ref10_PutNum  N x = W_ref10_PutNum N x := (FV_ref10_PutNum_eq  N x).trans (by kernel_rfl)
noncomputable def conw_ref10_PutNum (w : (List Int) × Int → Option (List Int)) : Con := ⟨45, as_ref10_PutNum, bs_ref10_PutNum, List Int, w, out_ref10_PutNum⟩
noncomputable def con_ref10_PutNum (N : Nat) : Con := conw_ref10_PutNum (W_ref10_PutNum N)
theorem R_ref10_PutNum_eq (x : (List Int) × Int) (y : List Int) : retOf2 P0 Try.f45 (kpL []) (lbOf as_ref10_PutNum bs_ref10_PutNum x) (patS ⟨25, [], [], []⟩ pout_ref10_PutNum y) = some (out_ref10_PutNum y) := by kernel_rfl
theorem con_ref10_PutNum_ok (N : Nat) : Con.ok P0 (con_ref10_PutNum N) := ⟨⟨Try.f45, Try.func45, by kernel_rfl, by kernel_rfl⟩, fun (x : (List Int) × Int) (r : List Int) (hr : W_ref10_PutNum N x = some r) =>
  spec2_evT (Γ := G_ref10_PutNum N) (Λ := L0) (pout := pout_ref10_PutNum) (kp := kpL []) mixed (orcOf_ok [] (by simp)) Try.func45 (c := bodyOf Try.f45) (by kernel_rfl) (by kernel_rfl) (of_decide_eq_true (by kernel_rfl)) ((F_ref10_PutNum_eq N x).trans hr) (R_ref10_PutNum_eq x r)⟩
def as_ref10_PutText : List AS := [.val (.list (.int .u8)), .val .str]
def bs_ref10_PutText : List BS := []
def pout_ref10_PutText : Pat := ⟨[(4, .acc 700008)], [(700008, .nrow 5 (.int .u8) false true)]⟩
noncomputable def G_ref10_PutText (w_ref10_PutNum : (List Int) × Int → Option (List Int)) (N : Nat) : OrcT := orcOf [conw_ref10_PutNum w_ref10_PutNum]
noncomputable def F_ref10_PutText (w_ref10_PutNum : (List Int) × Int → Option (List Int)) (N : Nat) (x : (List Int) × List UInt8) : Option (List Int) :=
  (evT (G_ref10_PutText w_ref10_PutNum N) L0 P0 []
    [] N 400 (bodyOf Try.f46) ⟨11, slots 0 (argsOf as_ref10_PutText bs_ref10_PutText x), tabU (lbOf as_ref10_PutText bs_ref10_PutText x) [], []⟩).elim (kRet 11 pout_ref10_PutText (kpL []) (lbOf as_ref10_PutText bs_ref10_PutText x))
def out_ref10_PutText (y : List Int) : V × List OK × List OK := (.acc 2000000 0, [], [.nrow 5 false true ⟨(.int .u8), y⟩])
noncomputable def V_ref10_PutText (w_ref10_PutNum : (List Int) × Int → Option (List Int)) (N : Nat) (x : (List Int) × List UInt8) : Option (List Int) :=
  obind (w_ref10_PutNum (x.1, (↑(List.length x.2) : Int))) fun b => cnd (decide ((List.length b + List.length (List.map (fun (b : UInt8) =>
    (↑(UInt8.toNat b) : Int)) x.2)) * (1:Nat) ≤ (140737488355328:Nat))) (some (b ++ List.map (fun (b : UInt8) => (↑(UInt8.toNat b) : Int)) x.2)) none
theorem FV_ref10_PutText_eq (w_ref10_PutNum : (List Int) × Int → Option (List Int)) (N : Nat) (x : (List Int) × List UInt8) : F_ref10_PutText w_ref10_PutNum N x = V_ref10_PutText w_ref10_PutNum N x := by kernel_rfl
noncomputable def W_ref10_PutText (N : Nat) (x : (List Int) × List UInt8) : Option (List Int) := V_ref10_PutText (W_ref10_PutNum N) N x
theorem F_ref10_PutText_eq (N : Nat) (x : (List Int) × List UInt8) : F_ref10_PutText (W_ref10_PutNum N) N x = W_ref10_PutText N x := (FV_ref10_PutText_eq (W_ref10_PutNum N) N x).trans (by kernel_rfl)
noncomputable def conw_ref10_PutText (w : (List Int) × List UInt8 → Option (List Int)) : Con := ⟨46, as_ref10_PutText, bs_ref10_PutText, List Int, w, out_ref10_PutText⟩
noncomputable def con_ref10_PutText (N : Nat) : Con := conw_ref10_PutText (W_ref10_PutText N)
theorem R_ref10_PutText_eq (x : (List Int) × List UInt8) (y : List Int) : retOf2 P0 Try.f46 (kpL []) (lbOf as_ref10_PutText bs_ref10_PutText x) (patS ⟨11, [], [], []⟩ pout_ref10_PutText y) = some (out_ref10_PutText y) := by kernel_rfl
theorem con_ref10_PutText_ok (N : Nat) : Con.ok P0 (con_ref10_PutText N) := ⟨⟨Try.f46, Try.func46, by kernel_rfl, by kernel_rfl⟩, fun (x : (List Int) × List UInt8) (r : List Int) (hr : W_ref10_PutText N x = some r) =>
  spec2_evT (Γ := G_ref10_PutText (W_ref10_PutNum N) N) (Λ := L0) (pout := pout_ref10_PutText) (kp := kpL []) mixed (orcOf_ok _ (by simp only [List.mem_cons, List.not_mem_nil, or_false, forall_eq_or_imp, forall_eq]; exact con_ref10_PutNum_ok N)) Try.func46 (c := bodyOf Try.f46) (by kernel_rfl) (by kernel_rfl) (of_decide_eq_true (by kernel_rfl)) ((F_ref10_PutText_eq N x).trans hr) (R_ref10_PutText_eq x r)⟩
def as_ref10_Sum : List AS := [.val (.list (.int .u8))]
def bs_ref10_Sum : List BS := []
def pout_ref10_Sum : Pat := ⟨[(2, .val (.int .u32))], []⟩
noncomputable def G_ref10_Sum  (N : Nat) : OrcT := orcOf []
noncomputable def F_ref10_Sum  (N : Nat) (x : List Int) : Option (Int) :=
  (evT (G_ref10_Sum  N) L0 P0 [(7, .loop [] ⟨[(3, .val (.int .u32)), (5, .val (.int .i64))], []⟩ [(.exit 2, ⟨[(3, .val (.int .u32))], []⟩)]),
    (3, .loop [] ⟨[(3, .val (.int .u32)), (4, .val (.int .i64))], []⟩ [(.exit 0, ⟨[(3, .val (.int .u32))], []⟩)])]
    [] N 400 (bodyOf Try.f47) ⟨33, slots 0 (argsOf as_ref10_Sum bs_ref10_Sum x), tabU (lbOf as_ref10_Sum bs_ref10_Sum x) [], []⟩).elim (kRet 33 pout_ref10_Sum (kpL []) (lbOf as_ref10_Sum bs_ref10_Sum x))
def out_ref10_Sum (y : Int) : V × List OK × List OK := (valW (.int .u32) y, [], [])
noncomputable def V_ref10_Sum  (N : Nat) (x : List Int) : Option (Int) :=
  obind (loopN N (fun (v : Int × Int) => cnd (decide (v.2 < (↑(List.length x) : Int))) (cnd (decide ((0:Int) ≤ v.2) && decide (v.2 < (↑(List.length x) :
    Int))) (obind (loopN N (fun (v : Int × Int) => cnd (decide (v.2 < (8:Int))) (cnd (decide (Int.tmod v.1 (2:Int) = (1:Int))) (some (Sum.inl (wr .u32
    (↑(BitVec.toNat (BitVec.ofInt (32:Nat) (wr .u32 (Int.tdiv v.1 (2:Int))) ^^^ BitVec.ofInt (32:Nat) (3988292384:Int))) : Int), wr .i64 (v.2 +
    (1:Int))))) (some (Sum.inl (wr .u32 (Int.tdiv v.1 (2:Int)), wr .i64 (v.2 + (1:Int)))))) (some (Sum.inr v.1))) (wr .u32 (↑(BitVec.toNat (BitVec.ofInt
    (32:Nat) v.1 ^^^ BitVec.ofInt (32:Nat) (wr .u32 (List.getD x (Int.toNat v.2) (0:Int))))) : Int), (0:Int))) fun (b : Int) => some (Sum.inl (b, wr
    .i64 (v.2 + (1:Int))))) none) (some (Sum.inr v.1))) ((4294967295:Int), (0:Int))) fun (b : Int) => some (wr .u32 (↑(BitVec.toNat (BitVec.ofInt
    (32:Nat) (IntKind.max .u32) ^^^ BitVec.ofInt (32:Nat) b)) : Int))
theorem FV_ref10_Sum_eq  (N : Nat) (x : List Int) : F_ref10_Sum  N x = V_ref10_Sum  N x := by kernel_rfl
noncomputable def W_ref10_Sum (N : Nat) (x : List Int) : Option (Int) := V_ref10_Sum  N x
theorem F_ref10_Sum_eq (N : Nat) (x : List Int) : F_ref10_Sum  N x = W_ref10_Sum N x := (FV_ref10_Sum_eq  N x).trans (by kernel_rfl)
noncomputable def conw_ref10_Sum (w : List Int → Option (Int)) : Con := ⟨47, as_ref10_Sum, bs_ref10_Sum, Int, w, out_ref10_Sum⟩
noncomputable def con_ref10_Sum (N : Nat) : Con := conw_ref10_Sum (W_ref10_Sum N)
theorem R_ref10_Sum_eq (x : List Int) (y : Int) : retOf2 P0 Try.f47 (kpL []) (lbOf as_ref10_Sum bs_ref10_Sum x) (patS ⟨33, [], [], []⟩ pout_ref10_Sum y) = some (out_ref10_Sum y) := by kernel_rfl
theorem con_ref10_Sum_ok (N : Nat) : Con.ok P0 (con_ref10_Sum N) := ⟨⟨Try.f47, Try.func47, by kernel_rfl, by kernel_rfl⟩, fun (x : List Int) (r : Int) (hr : W_ref10_Sum N x = some r) =>
  spec2_evT (Γ := G_ref10_Sum N) (Λ := L0) (pout := pout_ref10_Sum) (kp := kpL []) mixed (orcOf_ok [] (by simp)) Try.func47 (c := bodyOf Try.f47) (by kernel_rfl) (by kernel_rfl) (of_decide_eq_true (by kernel_rfl)) ((F_ref10_Sum_eq N x).trans hr) (R_ref10_Sum_eq x r)⟩
def as_ref10_PutMsg : List AS := [.val (.agg T_)]
def bs_ref10_PutMsg : List BS := []
def pout_ref10_PutMsg : Pat := ⟨[(2, .val (.list (.int .u8)))], []⟩
noncomputable def G_ref10_PutMsg (w_ref10_MayMsg : M_ → Option (Bool)) (w_ref10_PutNum : (List Int) × Int → Option (List Int)) (w_ref10_PutText : (List Int) × List UInt8 → Option (List Int)) (w_ref10_Sum : List Int → Option (Int)) (N : Nat) : OrcT := orcOf [conw_ref10_MayMsg w_ref10_MayMsg, conw_ref10_PutNum w_ref10_PutNum, conw_ref10_PutText w_ref10_PutText, conw_ref10_Sum w_ref10_Sum]
noncomputable def F_ref10_PutMsg (w_ref10_MayMsg : M_ → Option (Bool)) (w_ref10_PutNum : (List Int) × Int → Option (List Int)) (w_ref10_PutText : (List Int) × List UInt8 → Option (List Int)) (w_ref10_Sum : List Int → Option (Int)) (N : Nat) (x : M_) : Option (List Int) :=
  (evT (G_ref10_PutMsg w_ref10_MayMsg w_ref10_PutNum w_ref10_PutText w_ref10_Sum N) L0 P0 [(7, .loop [3] ⟨[(1, .ptr 600001 0), (4, .acc 700051), (5, .val (.int .i64))], [(600001, .box 24 (.val T_)), (700051, .nrow 5 (.int .u8) true true)]⟩ [(.exit 0, ⟨[(1, .ptr 600001 0), (4, .acc 700051)], [(600001, .box 24 (.val T_)), (700051, .nrow 5 (.int .u8) true true)]⟩)])]
    [(4, .cut [] [(.normal, ⟨[(1, .ptr 600001 0), (3, .acc 700025)], [(600001, .box 24 (.val T_)), (700025, .nrow 3 (.int .i64) true true)]⟩)])] N 400 (bodyOf Try.f19) ⟨68, slots 0 (argsOf as_ref10_PutMsg bs_ref10_PutMsg x), tabU (lbOf as_ref10_PutMsg bs_ref10_PutMsg x) [], []⟩).elim (kRet 68 pout_ref10_PutMsg (kpL []) (lbOf as_ref10_PutMsg bs_ref10_PutMsg x))
def out_ref10_PutMsg (y : List Int) : V × List OK × List OK := (valW (.list (.int .u8)) y, [], [])
noncomputable def V_ref10_PutMsg (w_ref10_MayMsg : M_ → Option (Bool)) (w_ref10_PutNum : (List Int) × Int → Option (List Int)) (w_ref10_PutText : (List Int) × List UInt8 → Option (List Int)) (w_ref10_Sum : List Int → Option (Int)) (N : Nat) (x : M_) : Option (List Int) :=
  obind (w_ref10_MayMsg (x.1, x.2.1, x.2.2.1, x.2.2.2.1, x.2.2.2.2.1, x.2.2.2.2.2.1, x.2.2.2.2.2.2.1, x.2.2.2.2.2.2.2.1, x.2.2.2.2.2.2.2.2.1,
    x.2.2.2.2.2.2.2.2.2)) fun b => cnd (!b) (some []) (cnd (decide ((List.length [x.1, x.2.1, x.2.2.1, x.2.2.2.1, x.2.2.2.2.1, x.2.2.2.2.2.1,
    (↑(List.length x.2.2.2.2.2.2.1) : Int)] + List.length x.2.2.2.2.2.2.1) * (8:Nat) ≤ (140737488355328:Nat))) (cnd (decide ((List.length ([x.1, x.2.1,
    x.2.2.1, x.2.2.2.1, x.2.2.2.2.1, x.2.2.2.2.2.1, (↑(List.length x.2.2.2.2.2.2.1) : Int)] ++ x.2.2.2.2.2.2.1) + List.length [x.2.2.2.2.2.2.2.1,
    x.2.2.2.2.2.2.2.2.1]) * (8:Nat) ≤ (140737488355328:Nat))) (obind (loopN N (fun (v : Int × (Int × Int × Int × Int × Int × Int × List Int × Int × Int
    × List UInt8) × List Int) => cnd (decide (v.1 < (↑(List.length ([x.1, x.2.1, x.2.2.1, x.2.2.2.1, x.2.2.2.2.1, x.2.2.2.2.2.1, (↑(List.length
    x.2.2.2.2.2.2.1) : Int)] ++ x.2.2.2.2.2.2.1 ++ [x.2.2.2.2.2.2.2.1, x.2.2.2.2.2.2.2.2.1])) : Int))) (cnd (decide ((0:Int) ≤ v.1) && decide (v.1 <
    (↑(List.length ([x.1, x.2.1, x.2.2.1, x.2.2.2.1, x.2.2.2.2.1, x.2.2.2.2.2.1, (↑(List.length x.2.2.2.2.2.2.1) : Int)] ++ x.2.2.2.2.2.2.1 ++
    [x.2.2.2.2.2.2.2.1, x.2.2.2.2.2.2.2.2.1])) : Int))) (obind (w_ref10_PutNum (v.2.2, List.getD ([x.1, x.2.1, x.2.2.1, x.2.2.2.1, x.2.2.2.2.1,
    x.2.2.2.2.2.1, (↑(List.length x.2.2.2.2.2.2.1) : Int)] ++ x.2.2.2.2.2.2.1 ++ [x.2.2.2.2.2.2.2.1, x.2.2.2.2.2.2.2.2.1]) (Int.toNat v.1) (0:Int))) fun
    b => some (Sum.inl (wr .i64 (v.1 + (1:Int)), (v.2.1.1, v.2.1.2.1, v.2.1.2.2.1, v.2.1.2.2.2.1, v.2.1.2.2.2.2.1, v.2.1.2.2.2.2.2.1,
    v.2.1.2.2.2.2.2.2.1, v.2.1.2.2.2.2.2.2.2.1, v.2.1.2.2.2.2.2.2.2.2.1, v.2.1.2.2.2.2.2.2.2.2.2), b))) none) (some (Sum.inr ((v.2.1.1, v.2.1.2.1,
    v.2.1.2.2.1, v.2.1.2.2.2.1, v.2.1.2.2.2.2.1, v.2.1.2.2.2.2.2.1, v.2.1.2.2.2.2.2.2.1, v.2.1.2.2.2.2.2.2.2.1, v.2.1.2.2.2.2.2.2.2.2.1,
    v.2.1.2.2.2.2.2.2.2.2.2), v.2.2)))) ((0:Int), (x.1, x.2.1, x.2.2.1, x.2.2.2.1, x.2.2.2.2.1, x.2.2.2.2.2.1, x.2.2.2.2.2.2.1, x.2.2.2.2.2.2.2.1,
    x.2.2.2.2.2.2.2.2.1, x.2.2.2.2.2.2.2.2.2), [])) fun (b : (Int × Int × Int × Int × Int × Int × List Int × Int × Int × List UInt8) × List Int) =>
    obind (w_ref10_PutText (b.2, b.1.2.2.2.2.2.2.2.2.2)) fun b => obind (w_ref10_Sum b) fun b_1 => cnd (decide ((List.length b + List.length [wr .u8
    (Int.fdiv b_1 ((2:Int) ^ (24:Nat))), wr .u8 (Int.fdiv b_1 ((2:Int) ^ (16:Nat))), wr .u8 (Int.fdiv b_1 ((2:Int) ^ (8:Nat))), wr .u8 b_1]) * (1:Nat) ≤
    (140737488355328:Nat))) (some (b ++ [wr .u8 (Int.fdiv b_1 ((2:Int) ^ (24:Nat))), wr .u8 (Int.fdiv b_1 ((2:Int) ^ (16:Nat))), wr .u8 (Int.fdiv b_1
    ((2:Int) ^ (8:Nat))), wr .u8 b_1])) none) none) none)
theorem FV_ref10_PutMsg_eq (w_ref10_MayMsg : M_ → Option (Bool)) (w_ref10_PutNum : (List Int) × Int → Option (List Int)) (w_ref10_PutText : (List Int) × List UInt8 → Option (List Int)) (w_ref10_Sum : List Int → Option (Int)) (N : Nat) (x : M_) : F_ref10_PutMsg w_ref10_MayMsg w_ref10_PutNum w_ref10_PutText w_ref10_Sum N x = V_ref10_PutMsg w_ref10_MayMsg w_ref10_PutNum w_ref10_PutText w_ref10_Sum N x := by kernel_rfl
noncomputable def W_ref10_PutMsg (N : Nat) (x : M_) : Option (List Int) := V_ref10_PutMsg (W_ref10_MayMsg N) (W_ref10_PutNum N) (W_ref10_PutText N) (W_ref10_Sum N) N x
theorem F_ref10_PutMsg_eq (N : Nat) (x : M_) : F_ref10_PutMsg (W_ref10_MayMsg N) (W_ref10_PutNum N) (W_ref10_PutText N) (W_ref10_Sum N) N x = W_ref10_PutMsg N x := (FV_ref10_PutMsg_eq (W_ref10_MayMsg N) (W_ref10_PutNum N) (W_ref10_PutText N) (W_ref10_Sum N) N x).trans (by kernel_rfl)
noncomputable def conw_ref10_PutMsg (w : M_ → Option (List Int)) : Con := ⟨19, as_ref10_PutMsg, bs_ref10_PutMsg, List Int, w, out_ref10_PutMsg⟩
noncomputable def con_ref10_PutMsg (N : Nat) : Con := conw_ref10_PutMsg (W_ref10_PutMsg N)
theorem R_ref10_PutMsg_eq (x : M_) (y : List Int) : retOf2 P0 Try.f19 (kpL []) (lbOf as_ref10_PutMsg bs_ref10_PutMsg x) (patS ⟨68, [], [], []⟩ pout_ref10_PutMsg y) = some (out_ref10_PutMsg y) := by kernel_rfl
theorem con_ref10_PutMsg_ok (N : Nat) : Con.ok P0 (con_ref10_PutMsg N) := ⟨⟨Try.f19, Try.func19, by kernel_rfl, by kernel_rfl⟩, fun (x : M_) (r : List Int) (hr : W_ref10_PutMsg N x = some r) =>
  spec2_evT (Γ := G_ref10_PutMsg (W_ref10_MayMsg N) (W_ref10_PutNum N) (W_ref10_PutText N) (W_ref10_Sum N) N) (Λ := L0) (pout := pout_ref10_PutMsg) (kp := kpL []) mixed (orcOf_ok _ (by simp only [List.mem_cons, List.not_mem_nil, or_false, forall_eq_or_imp, forall_eq]; exact ⟨con_ref10_MayMsg_ok N, con_ref10_PutNum_ok N, con_ref10_PutText_ok N, con_ref10_Sum_ok N⟩)) Try.func19 (c := bodyOf Try.f19) (by kernel_rfl) (by kernel_rfl) (of_decide_eq_true (by kernel_rfl)) ((F_ref10_PutMsg_eq N x).trans hr) (R_ref10_PutMsg_eq x r)⟩
def as_bits_read : List AS := [.val (.list (.int .u8))]
def bs_bits_read : List BS := []
def pout_bits_read : Pat := ⟨[(2, .val (.alt 115 (.agg (.pair (.int .i64) (.int .i64))) (.alt1 118 (.agg .unit))))], []⟩
noncomputable def G_bits_read  (N : Nat) : OrcT := orcOf []
noncomputable def F_bits_read  (N : Nat) (x : List Int) : Option ((Int × Int) ⊕ Unit) :=
  (evT (G_bits_read  N) L0 P0 [(3, .loop [7] ⟨[(3, .val (.int .i64)), (4, .val (.int .i64)), (9, .val (.int .i64))], []⟩ [(.exit 0, ⟨[], []⟩), (.ret, ⟨[(2, .val (.alt 115 (.agg (.pair (.int .i64) (.int .i64))) (.alt1 118 (.agg .unit))))], []⟩)])]
    [(1000007, .reg [(6, [7], ⟨[(28, .val .bool)], []⟩)])] N 400 (bodyOf Try.f75) ⟨47, slots 0 (argsOf as_bits_read bs_bits_read x), tabU (lbOf as_bits_read bs_bits_read x) [], []⟩).elim (kRet 47 pout_bits_read (kpL []) (lbOf as_bits_read bs_bits_read x))
def out_bits_read (y : (Int × Int) ⊕ Unit) : V × List OK × List OK := (valW (.alt 115 (.agg (.pair (.int .i64) (.int .i64))) (.alt1 118 (.agg .unit))) y, [], [])
noncomputable def V_bits_read  (N : Nat) (x : List Int) : Option ((Int × Int) ⊕ Unit) :=
  obind (loopN N (fun (v : Int × Int × Int) => cnd (decide (v.2.2 < (↑(List.length x) : Int))) (cnd (decide ((0:Int) ≤ v.2.2) && decide (v.2.2 <
    (↑(List.length x) : Int))) (obind (cnd (decide (v.2.2 = (5:Int))) (some true) (some (decide ((1073741824:Int) < wr .i64 (v.1 + wr .i64 (wr .i64
    (Int.tmod (List.getD x (Int.toNat v.2.2) (0:Int)) (128:Int)) * v.2.1)))))) fun (b : Bool) => cnd b (some (Sum.inr (Sum.inl ()))) (cnd (decide
    (List.getD x (Int.toNat v.2.2) (0:Int) = (0:Int))) (cnd (decide ((0:Int) < v.2.2)) (some (Sum.inr (Sum.inl ()))) (cnd (decide (List.getD x
    (Int.toNat v.2.2) (0:Int) < (128:Int))) (some (Sum.inr (Sum.inr (Sum.inl (wr .i64 (v.1 + wr .i64 (wr .i64 (Int.tmod (List.getD x (Int.toNat v.2.2)
    (0:Int)) (128:Int)) * v.2.1)), wr .i64 (v.2.2 + (1:Int))))))) (some (Sum.inl (wr .i64 (v.1 + wr .i64 (wr .i64 (Int.tmod (List.getD x (Int.toNat
    v.2.2) (0:Int)) (128:Int)) * v.2.1)), wr .i64 (v.2.1 * (128:Int)), wr .i64 (v.2.2 + (1:Int))))))) (cnd (decide (List.getD x (Int.toNat v.2.2)
    (0:Int) < (128:Int))) (some (Sum.inr (Sum.inr (Sum.inl (wr .i64 (v.1 + wr .i64 (wr .i64 (Int.tmod (List.getD x (Int.toNat v.2.2) (0:Int)) (128:Int))
    * v.2.1)), wr .i64 (v.2.2 + (1:Int))))))) (some (Sum.inl (wr .i64 (v.1 + wr .i64 (wr .i64 (Int.tmod (List.getD x (Int.toNat v.2.2) (0:Int))
    (128:Int)) * v.2.1)), wr .i64 (v.2.1 * (128:Int)), wr .i64 (v.2.2 + (1:Int)))))))) none) (some (Sum.inr (Sum.inl ())))) ((0:Int), (1:Int), (0:Int)))
    fun (b : PUnit ⊕ Int × Int ⊕ PUnit) => selim (fun (b : PUnit) => some (Sum.inr ())) (fun (c : Int × Int ⊕ PUnit) => some c) b
theorem FV_bits_read_eq  (N : Nat) (x : List Int) : F_bits_read  N x = V_bits_read  N x := by kernel_rfl
noncomputable def W_bits_read (N : Nat) (x : List Int) : Option ((Int × Int) ⊕ Unit) := V_bits_read  N x
theorem F_bits_read_eq (N : Nat) (x : List Int) : F_bits_read  N x = W_bits_read N x := (FV_bits_read_eq  N x).trans (by kernel_rfl)
noncomputable def conw_bits_read (w : List Int → Option ((Int × Int) ⊕ Unit)) : Con := ⟨75, as_bits_read, bs_bits_read, (Int × Int) ⊕ Unit, w, out_bits_read⟩
noncomputable def con_bits_read (N : Nat) : Con := conw_bits_read (W_bits_read N)
theorem R_bits_read_eq (x : List Int) (y : (Int × Int) ⊕ Unit) : retOf2 P0 Try.f75 (kpL []) (lbOf as_bits_read bs_bits_read x) (patS ⟨47, [], [], []⟩ pout_bits_read y) = some (out_bits_read y) := by kernel_rfl
theorem con_bits_read_ok (N : Nat) : Con.ok P0 (con_bits_read N) := ⟨⟨Try.f75, Try.func75, by kernel_rfl, by kernel_rfl⟩, fun (x : List Int) (r : (Int × Int) ⊕ Unit) (hr : W_bits_read N x = some r) =>
  spec2_evT (Γ := G_bits_read N) (Λ := L0) (pout := pout_bits_read) (kp := kpL []) mixed (orcOf_ok [] (by simp)) Try.func75 (c := bodyOf Try.f75) (by kernel_rfl) (by kernel_rfl) (of_decide_eq_true (by kernel_rfl)) ((F_bits_read_eq N x).trans hr) (R_bits_read_eq x r)⟩
def as_bits_Take : List AS := [.val (.list (.int .u8))]
def bs_bits_Take : List BS := []
def pout_bits_Take : Pat := ⟨[(2, .val (.int .i64)), (3, .val (.int .i64)), (4, .val .bool)], []⟩
noncomputable def G_bits_Take (w_bits_read : List Int → Option ((Int × Int) ⊕ Unit)) (N : Nat) : OrcT := orcOf [conw_bits_read w_bits_read]
noncomputable def F_bits_Take (w_bits_read : List Int → Option ((Int × Int) ⊕ Unit)) (N : Nat) (x : List Int) : Option (Int × Int × Bool) :=
  (evT (G_bits_Take w_bits_read N) L0 P0 []
    [] N 400 (bodyOf Try.f72) ⟨17, slots 0 (argsOf as_bits_Take bs_bits_Take x), tabU (lbOf as_bits_Take bs_bits_Take x) [], []⟩).elim (kRet 17 pout_bits_Take (kpL []) (lbOf as_bits_Take bs_bits_Take x))
def out_bits_Take (y : Int × Int × Bool) : V × List OK × List OK := (.tup [valW (.int .i64) y.1, valW (.int .i64) y.2.1, valW .bool y.2.2], [], [])
noncomputable def V_bits_Take (w_bits_read : List Int → Option ((Int × Int) ⊕ Unit)) (N : Nat) (x : List Int) : Option (Int × Int × Bool) :=
  obind (w_bits_read x) fun b =>
    selim (fun (b : Int × Int) => some (b.1, b.2, true))
      (fun (c : PUnit) => some ((0:Int), (0:Int), false)) b
theorem FV_bits_Take_eq (w_bits_read : List Int → Option ((Int × Int) ⊕ Unit)) (N : Nat) (x : List Int) : F_bits_Take w_bits_read N x = V_bits_Take w_bits_read N x := by kernel_rfl
noncomputable def W_bits_Take (N : Nat) (x : List Int) : Option (Int × Int × Bool) := V_bits_Take (W_bits_read N) N x
theorem F_bits_Take_eq (N : Nat) (x : List Int) : F_bits_Take (W_bits_read N) N x = W_bits_Take N x := (FV_bits_Take_eq (W_bits_read N) N x).trans (by kernel_rfl)
noncomputable def conw_bits_Take (w : List Int → Option (Int × Int × Bool)) : Con := ⟨72, as_bits_Take, bs_bits_Take, Int × Int × Bool, w, out_bits_Take⟩
noncomputable def con_bits_Take (N : Nat) : Con := conw_bits_Take (W_bits_Take N)
theorem R_bits_Take_eq (x : List Int) (y : Int × Int × Bool) : retOf2 P0 Try.f72 (kpL []) (lbOf as_bits_Take bs_bits_Take x) (patS ⟨17, [], [], []⟩ pout_bits_Take y) = some (out_bits_Take y) := by kernel_rfl
theorem con_bits_Take_ok (N : Nat) : Con.ok P0 (con_bits_Take N) := ⟨⟨Try.f72, Try.func72, by kernel_rfl, by kernel_rfl⟩, fun (x : List Int) (r : Int × Int × Bool) (hr : W_bits_Take N x = some r) =>
  spec2_evT (Γ := G_bits_Take (W_bits_read N) N) (Λ := L0) (pout := pout_bits_Take) (kp := kpL []) mixed (orcOf_ok _ (by simp only [List.mem_cons, List.not_mem_nil, or_false, forall_eq_or_imp, forall_eq]; exact con_bits_read_ok N)) Try.func72 (c := bodyOf Try.f72) (by kernel_rfl) (by kernel_rfl) (of_decide_eq_true (by kernel_rfl)) ((F_bits_Take_eq N x).trans hr) (R_bits_Take_eq x r)⟩
def as_msg_reader_number : List AS := [.ptr 0 0]
def bs_msg_reader_number : List BS := [.box 100 (.pair (.list (.int .u8)) (.pair (.int .i64) (.alt 81 (.agg (.int .i64)) .inil)))]
def pout_msg_reader_number : Pat := ⟨[(0, .ptr 1000000 0), (2, .val (.int .i64))], [(1000000, .box 100 (.val (.pair (.list (.int .u8)) (.pair (.int .i64) (.alt 81 (.agg (.int .i64)) .inil)))))]⟩
noncomputable def G_msg_reader_number (w_bits_Take : List Int → Option (Int × Int × Bool)) (N : Nat) : OrcT := orcOf [conw_bits_Take w_bits_Take]
noncomputable def F_msg_reader_number (w_bits_Take : List Int → Option (Int × Int × Bool)) (N : Nat) (x : (List Int) × (Int × (Int ⊕ Unit))) : Option (Int × ((List Int) × (Int × (Int ⊕ Unit)))) :=
  (evT (G_msg_reader_number w_bits_Take N) L0 P0 []
    [(6, .cut [] [(.normal, ⟨[(0, .ptr 1000000 0)], [(1000000, .box 100 (.val (.pair (.list (.int .u8)) (.pair (.int .i64) (.alt 81 (.agg (.int .i64)) .inil)))))]⟩)])] N 400 (bodyOf Try.f64) ⟨45, slots 0 (argsOf as_msg_reader_number bs_msg_reader_number x), tabU (lbOf as_msg_reader_number bs_msg_reader_number x) [], []⟩).elim (kRet 45 pout_msg_reader_number (kpL [true]) (lbOf as_msg_reader_number bs_msg_reader_number x))
def out_msg_reader_number (y : Int × ((List Int) × (Int × (Int ⊕ Unit)))) : V × List OK × List OK := (valW (.int .i64) y.1, [.box 100 (cellsW (.pair (.list (.int .u8)) (.pair (.int .i64) (.alt 81 (.agg (.int .i64)) .inil))) y.2)], [])
noncomputable def V_msg_reader_number (w_bits_Take : List Int → Option (Int × Int × Bool)) (N : Nat) (x : (List Int) × (Int × (Int ⊕ Unit))) : Option (Int × ((List Int) × (Int × (Int ⊕ Unit)))) :=
  selim (fun (b : Int) => some ((0:Int), x.1, x.2.1, x.2.2)) (fun (c : PUnit) => cnd (decide ((0:Int) ≤ x.2.1) && decide (x.2.1 ≤ (↑(List.length x.1) :
    Int))) (obind (w_bits_Take (List.drop (Int.toNat x.2.1) (List.take (List.length x.1) x.1))) fun b => obind (cnd (!b.2.2) (some (x.1, x.2.1,
    Sum.inl x.2.1)) (some (x.1, x.2.1, x.2.2))) fun (b_1 : List Int × Int × (Int ⊕ PUnit)) => some (b.1, b_1.1, wr .i64 (b_1.2.1 + b.2.1), b_1.2.2))
    none) x.2.2
theorem FV_msg_reader_number_eq (w_bits_Take : List Int → Option (Int × Int × Bool)) (N : Nat) (x : (List Int) × (Int × (Int ⊕ Unit))) : F_msg_reader_number w_bits_Take N x = V_msg_reader_number w_bits_Take N x := by kernel_rfl
noncomputable def W_msg_reader_number (N : Nat) (x : (List Int) × (Int × (Int ⊕ Unit))) : Option (Int × ((List Int) × (Int × (Int ⊕ Unit)))) := V_msg_reader_number (W_bits_Take N) N x
theorem F_msg_reader_number_eq (N : Nat) (x : (List Int) × (Int × (Int ⊕ Unit))) : F_msg_reader_number (W_bits_Take N) N x = W_msg_reader_number N x := (FV_msg_reader_number_eq (W_bits_Take N) N x).trans (by kernel_rfl)
noncomputable def conw_msg_reader_number (w : (List Int) × (Int × (Int ⊕ Unit)) → Option (Int × ((List Int) × (Int × (Int ⊕ Unit))))) : Con := ⟨64, as_msg_reader_number, bs_msg_reader_number, Int × ((List Int) × (Int × (Int ⊕ Unit))), w, out_msg_reader_number⟩
noncomputable def con_msg_reader_number (N : Nat) : Con := conw_msg_reader_number (W_msg_reader_number N)
theorem R_msg_reader_number_eq (x : (List Int) × (Int × (Int ⊕ Unit))) (y : Int × ((List Int) × (Int × (Int ⊕ Unit)))) : retOf2 P0 Try.f64 (kpL [true]) (lbOf as_msg_reader_number bs_msg_reader_number x) (patS ⟨45, [], [], []⟩ pout_msg_reader_number y) = some (out_msg_reader_number y) := by kernel_rfl
theorem con_msg_reader_number_ok (N : Nat) : Con.ok P0 (con_msg_reader_number N) := ⟨⟨Try.f64, Try.func64, by kernel_rfl, by kernel_rfl⟩, fun (x : (List Int) × (Int × (Int ⊕ Unit))) (r : Int × ((List Int) × (Int × (Int ⊕ Unit)))) (hr : W_msg_reader_number N x = some r) =>
  spec2_evT (Γ := G_msg_reader_number (W_bits_Take N) N) (Λ := L0) (pout := pout_msg_reader_number) (kp := kpL [true]) mixed (orcOf_ok _ (by simp only [List.mem_cons, List.not_mem_nil, or_false, forall_eq_or_imp, forall_eq]; exact con_bits_Take_ok N)) Try.func64 (c := bodyOf Try.f64) (by kernel_rfl) (by kernel_rfl) (of_decide_eq_true (by kernel_rfl)) ((F_msg_reader_number_eq N x).trans hr) (R_msg_reader_number_eq x r)⟩
def as_bits_TakeText : List AS := [.val (.list (.int .u8))]
def bs_bits_TakeText : List BS := []
def pout_bits_TakeText : Pat := ⟨[(2, .val .str), (3, .val (.int .i64)), (4, .val .bool)], []⟩
noncomputable def G_bits_TakeText (w_bits_read : List Int → Option ((Int × Int) ⊕ Unit)) (N : Nat) : OrcT := orcOf [conw_bits_read w_bits_read]
noncomputable def F_bits_TakeText (w_bits_read : List Int → Option ((Int × Int) ⊕ Unit)) (N : Nat) (x : List Int) : Option ((List UInt8) × Int × Bool) :=
  (evT (G_bits_TakeText w_bits_read N) L0 P0 []
    [] N 400 (bodyOf Try.f73) ⟨39, slots 0 (argsOf as_bits_TakeText bs_bits_TakeText x), tabU (lbOf as_bits_TakeText bs_bits_TakeText x) [], []⟩).elim (kRet 39 pout_bits_TakeText (kpL []) (lbOf as_bits_TakeText bs_bits_TakeText x))
def out_bits_TakeText (y : (List UInt8) × Int × Bool) : V × List OK × List OK := (.tup [valW .str y.1, valW (.int .i64) y.2.1, valW .bool y.2.2], [], [])
noncomputable def V_bits_TakeText (w_bits_read : List Int → Option ((Int × Int) ⊕ Unit)) (N : Nat) (x : List Int) : Option ((List UInt8) × Int × Bool) :=
  obind (w_bits_read x) fun b => selim (fun (b : Int × Int) => cnd (decide (wr .i64 ((↑(List.length x) : Int) - b.2) < b.1)) (some ([], (0:Int),
    false)) (cnd (decide ((0:Int) ≤ b.2) && decide (b.2 ≤ wr .i64 (b.2 + b.1)) && decide (wr .i64 (b.2 + b.1) ≤ (↑(List.length x) : Int))) (cnd
    (List.all (List.drop (Int.toNat b.2) (List.take (Int.toNat (wr .i64 (b.2 + b.1))) x)) fun (n : Int) => decide ((0:Int) ≤ n) && decide (n <
    (256:Int))) (some (bytesI (List.drop (Int.toNat b.2) (List.take (Int.toNat (wr .i64 (b.2 + b.1))) x)), wr .i64 (b.2 + b.1), true)) none) none)) (fun
    (c : PUnit) => some ([], (0:Int), false)) b
theorem FV_bits_TakeText_eq (w_bits_read : List Int → Option ((Int × Int) ⊕ Unit)) (N : Nat) (x : List Int) : F_bits_TakeText w_bits_read N x = V_bits_TakeText w_bits_read N x := by kernel_rfl
noncomputable def W_bits_TakeText (N : Nat) (x : List Int) : Option ((List UInt8) × Int × Bool) := V_bits_TakeText (W_bits_read N) N x
theorem F_bits_TakeText_eq (N : Nat) (x : List Int) : F_bits_TakeText (W_bits_read N) N x = W_bits_TakeText N x := (FV_bits_TakeText_eq (W_bits_read N) N x).trans (by kernel_rfl)
noncomputable def conw_bits_TakeText (w : List Int → Option ((List UInt8) × Int × Bool)) : Con := ⟨73, as_bits_TakeText, bs_bits_TakeText, (List UInt8) × Int × Bool, w, out_bits_TakeText⟩
noncomputable def con_bits_TakeText (N : Nat) : Con := conw_bits_TakeText (W_bits_TakeText N)
theorem R_bits_TakeText_eq (x : List Int) (y : (List UInt8) × Int × Bool) : retOf2 P0 Try.f73 (kpL []) (lbOf as_bits_TakeText bs_bits_TakeText x) (patS ⟨39, [], [], []⟩ pout_bits_TakeText y) = some (out_bits_TakeText y) := by kernel_rfl
theorem con_bits_TakeText_ok (N : Nat) : Con.ok P0 (con_bits_TakeText N) := ⟨⟨Try.f73, Try.func73, by kernel_rfl, by kernel_rfl⟩, fun (x : List Int) (r : (List UInt8) × Int × Bool) (hr : W_bits_TakeText N x = some r) =>
  spec2_evT (Γ := G_bits_TakeText (W_bits_read N) N) (Λ := L0) (pout := pout_bits_TakeText) (kp := kpL []) mixed (orcOf_ok _ (by simp only [List.mem_cons, List.not_mem_nil, or_false, forall_eq_or_imp, forall_eq]; exact con_bits_read_ok N)) Try.func73 (c := bodyOf Try.f73) (by kernel_rfl) (by kernel_rfl) (of_decide_eq_true (by kernel_rfl)) ((F_bits_TakeText_eq N x).trans hr) (R_bits_TakeText_eq x r)⟩
def as_msg_reader_text : List AS := [.ptr 0 0]
def bs_msg_reader_text : List BS := [.box 100 (.pair (.list (.int .u8)) (.pair (.int .i64) (.alt 81 (.agg (.int .i64)) .inil)))]
def pout_msg_reader_text : Pat := ⟨[(0, .ptr 1000000 0), (2, .val .str)], [(1000000, .box 100 (.val (.pair (.list (.int .u8)) (.pair (.int .i64) (.alt 81 (.agg (.int .i64)) .inil)))))]⟩
noncomputable def G_msg_reader_text (w_bits_TakeText : List Int → Option ((List UInt8) × Int × Bool)) (N : Nat) : OrcT := orcOf [conw_bits_TakeText w_bits_TakeText]
noncomputable def F_msg_reader_text (w_bits_TakeText : List Int → Option ((List UInt8) × Int × Bool)) (N : Nat) (x : (List Int) × (Int × (Int ⊕ Unit))) : Option ((List UInt8) × ((List Int) × (Int × (Int ⊕ Unit)))) :=
  (evT (G_msg_reader_text w_bits_TakeText N) L0 P0 []
    [(6, .cut [] [(.normal, ⟨[(0, .ptr 1000000 0)], [(1000000, .box 100 (.val (.pair (.list (.int .u8)) (.pair (.int .i64) (.alt 81 (.agg (.int .i64)) .inil)))))]⟩)])] N 400 (bodyOf Try.f65) ⟨45, slots 0 (argsOf as_msg_reader_text bs_msg_reader_text x), tabU (lbOf as_msg_reader_text bs_msg_reader_text x) [], []⟩).elim (kRet 45 pout_msg_reader_text (kpL [true]) (lbOf as_msg_reader_text bs_msg_reader_text x))
def out_msg_reader_text (y : (List UInt8) × ((List Int) × (Int × (Int ⊕ Unit)))) : V × List OK × List OK := (valW .str y.1, [.box 100 (cellsW (.pair (.list (.int .u8)) (.pair (.int .i64) (.alt 81 (.agg (.int .i64)) .inil))) y.2)], [])
noncomputable def V_msg_reader_text (w_bits_TakeText : List Int → Option ((List UInt8) × Int × Bool)) (N : Nat) (x : (List Int) × (Int × (Int ⊕ Unit))) : Option ((List UInt8) × ((List Int) × (Int × (Int ⊕ Unit)))) :=
  selim (fun (b : Int) => some ([], x.1, x.2.1, x.2.2)) (fun (c : PUnit) => cnd (decide ((0:Int) ≤ x.2.1) && decide (x.2.1 ≤ (↑(List.length x.1) :
    Int))) (obind (w_bits_TakeText (List.drop (Int.toNat x.2.1) (List.take (List.length x.1) x.1))) fun b => obind (cnd (!b.2.2) (some (x.1, x.2.1,
    Sum.inl x.2.1)) (some (x.1, x.2.1, x.2.2))) fun (b_1 : List Int × Int × (Int ⊕ PUnit)) => some (b.1, b_1.1, wr .i64 (b_1.2.1 + b.2.1), b_1.2.2))
    none) x.2.2
theorem FV_msg_reader_text_eq (w_bits_TakeText : List Int → Option ((List UInt8) × Int × Bool)) (N : Nat) (x : (List Int) × (Int × (Int ⊕ Unit))) : F_msg_reader_text w_bits_TakeText N x = V_msg_reader_text w_bits_TakeText N x := by kernel_rfl
noncomputable def W_msg_reader_text (N : Nat) (x : (List Int) × (Int × (Int ⊕ Unit))) : Option ((List UInt8) × ((List Int) × (Int × (Int ⊕ Unit)))) := V_msg_reader_text (W_bits_TakeText N) N x
theorem F_msg_reader_text_eq (N : Nat) (x : (List Int) × (Int × (Int ⊕ Unit))) : F_msg_reader_text (W_bits_TakeText N) N x = W_msg_reader_text N x := (FV_msg_reader_text_eq (W_bits_TakeText N) N x).trans (by kernel_rfl)
noncomputable def conw_msg_reader_text (w : (List Int) × (Int × (Int ⊕ Unit)) → Option ((List UInt8) × ((List Int) × (Int × (Int ⊕ Unit))))) : Con := ⟨65, as_msg_reader_text, bs_msg_reader_text, (List UInt8) × ((List Int) × (Int × (Int ⊕ Unit))), w, out_msg_reader_text⟩
noncomputable def con_msg_reader_text (N : Nat) : Con := conw_msg_reader_text (W_msg_reader_text N)
theorem R_msg_reader_text_eq (x : (List Int) × (Int × (Int ⊕ Unit))) (y : (List UInt8) × ((List Int) × (Int × (Int ⊕ Unit)))) : retOf2 P0 Try.f65 (kpL [true]) (lbOf as_msg_reader_text bs_msg_reader_text x) (patS ⟨45, [], [], []⟩ pout_msg_reader_text y) = some (out_msg_reader_text y) := by kernel_rfl
theorem con_msg_reader_text_ok (N : Nat) : Con.ok P0 (con_msg_reader_text N) := ⟨⟨Try.f65, Try.func65, by kernel_rfl, by kernel_rfl⟩, fun (x : (List Int) × (Int × (Int ⊕ Unit))) (r : (List UInt8) × ((List Int) × (Int × (Int ⊕ Unit)))) (hr : W_msg_reader_text N x = some r) =>
  spec2_evT (Γ := G_msg_reader_text (W_bits_TakeText N) N) (Λ := L0) (pout := pout_msg_reader_text) (kp := kpL [true]) mixed (orcOf_ok _ (by simp only [List.mem_cons, List.not_mem_nil, or_false, forall_eq_or_imp, forall_eq]; exact con_bits_TakeText_ok N)) Try.func65 (c := bodyOf Try.f65) (by kernel_rfl) (by kernel_rfl) (of_decide_eq_true (by kernel_rfl)) ((F_msg_reader_text_eq N x).trans hr) (R_msg_reader_text_eq x r)⟩
def as_msg_read : List AS := [.val (.list (.int .u8))]
def bs_msg_read : List BS := []
def pout_msg_read : Pat := ⟨[(2, .ptr 600002 0), (3, .val (.alt 81 (.agg (.int .i64)) .inil))], [(600002, .box 24 (.val T_))]⟩
noncomputable def G_msg_read (w_msg_reader_number : (List Int) × (Int × (Int ⊕ Unit)) → Option (Int × ((List Int) × (Int × (Int ⊕ Unit))))) (w_msg_reader_text : (List Int) × (Int × (Int ⊕ Unit)) → Option ((List UInt8) × ((List Int) × (Int × (Int ⊕ Unit))))) (N : Nat) : OrcT := orcOf [conw_msg_reader_number w_msg_reader_number, conw_msg_reader_text w_msg_reader_text]
noncomputable def F_msg_read (w_msg_reader_number : (List Int) × (Int × (Int ⊕ Unit)) → Option (Int × ((List Int) × (Int × (Int ⊕ Unit))))) (w_msg_reader_text : (List Int) × (Int × (Int ⊕ Unit)) → Option ((List UInt8) × ((List Int) × (Int × (Int ⊕ Unit))))) (N : Nat) (x : List Int) : Option ((Int ⊕ Unit) × M_) :=
  (evT (G_msg_read w_msg_reader_number w_msg_reader_text N) L0 P0 [(6, .loop [] ⟨[(2, .ptr 600002 0), (4, .ptr 600004 0), (5, .ptr 600005 0), (6, .val (.int .i64))], [(600002, .box 24 (.pair (.val (.int .i64)) (.pair (.val (.int .i64)) (.pair (.val (.int .i64)) (.pair (.val (.int .i64)) (.pair (.val (.int .i64)) (.pair (.val (.int .i64)) (.pair (.acc 607002) (.pair (.val (.int .i64)) (.pair (.val (.int .i64)) (.val .str))))))))))), (607002, .nrow 3 (.int .i64) true true), (600004, .box 100 (.val (.pair (.list (.int .u8)) (.pair (.int .i64) (.alt 81 (.agg (.int .i64)) .inil))))), (600005, .box 24 (.pair (.val (.int .i64)) (.pair (.val (.int .i64)) (.pair (.val (.int .i64)) (.pair (.val (.int .i64)) (.pair (.val (.int .i64)) (.pair (.val (.int .i64)) (.pair (.acc 607005) (.pair (.val (.int .i64)) (.pair (.val (.int .i64)) (.val .str))))))))))), (607005, .nrow 3 (.int .i64) true true)]⟩ [(.exit 0, ⟨[(2, .ptr 600002 0), (4, .ptr 600004 0), (5, .ptr 600005 0)], [(600002, .box 24 (.pair (.val (.int .i64)) (.pair (.val (.int .i64)) (.pair (.val (.int .i64)) (.pair (.val (.int .i64)) (.pair (.val (.int .i64)) (.pair (.val (.int .i64)) (.pair (.acc 607002) (.pair (.val (.int .i64)) (.pair (.val (.int .i64)) (.val .str))))))))))), (607002, .nrow 3 (.int .i64) true true), (600004, .box 100 (.val (.pair (.list (.int .u8)) (.pair (.int .i64) (.alt 81 (.agg (.int .i64)) .inil))))), (600005, .box 24 (.pair (.val (.int .i64)) (.pair (.val (.int .i64)) (.pair (.val (.int .i64)) (.pair (.val (.int .i64)) (.pair (.val (.int .i64)) (.pair (.val (.int .i64)) (.pair (.acc 607005) (.pair (.val (.int .i64)) (.pair (.val (.int .i64)) (.val .str))))))))))), (607005, .nrow 3 (.int .i64) true true)]⟩)])]
    [] N 400 (bodyOf Try.f50) ⟨46, slots 0 (argsOf as_msg_read bs_msg_read x), tabU (lbOf as_msg_read bs_msg_read x) [], []⟩).elim (kRet 46 pout_msg_read (kpL []) (lbOf as_msg_read bs_msg_read x))
def out_msg_read (y : (Int ⊕ Unit) × M_) : V × List OK × List OK := (.tup [valW (.agg T_) y.2, valW (.alt 81 (.agg (.int .i64)) .inil) y.1], [], [])
noncomputable def V_msg_read (w_msg_reader_number : (List Int) × (Int × (Int ⊕ Unit)) → Option (Int × ((List Int) × (Int × (Int ⊕ Unit))))) (w_msg_reader_text : (List Int) × (Int × (Int ⊕ Unit)) → Option ((List UInt8) × ((List Int) × (Int × (Int ⊕ Unit))))) (N : Nat) (x : List Int) : Option ((Int ⊕ Unit) × M_) :=
  obind (w_msg_reader_number (x, (0:Int), Sum.inr ())) fun b => obind (w_msg_reader_number (b.2.1, b.2.2.1, b.2.2.2)) fun b_1 => obind
    (w_msg_reader_number (b_1.2.1, b_1.2.2.1, b_1.2.2.2)) fun b_2 => obind (w_msg_reader_number (b_2.2.1, b_2.2.2.1, b_2.2.2.2)) fun b_3 => obind
    (w_msg_reader_number (b_3.2.1, b_3.2.2.1, b_3.2.2.2)) fun b_4 => obind (w_msg_reader_number (b_4.2.1, b_4.2.2.1, b_4.2.2.2)) fun b_5 => obind
    (w_msg_reader_number (b_5.2.1, b_5.2.2.1, b_5.2.2.2)) fun b_6 => obind (loopN N (fun (v : Int × Int × Int × Int × Int × Int × Int × Int × Int ×
    List UInt8 × List Int × (List Int × Int × (Int ⊕ PUnit)) × Int × Int × Int × Int × Int × Int × Int × Int × List UInt8 × List Int) => cnd (decide
    ((0:Int) < v.1)) (selim (fun (b : Int) => some (Sum.inr (v.2.1, v.2.2.1, v.2.2.2.1, v.2.2.2.2.1, v.2.2.2.2.2.1, v.2.2.2.2.2.2.1, v.2.2.2.2.2.2.2.1,
    v.2.2.2.2.2.2.2.2.1, v.2.2.2.2.2.2.2.2.2.1, v.2.2.2.2.2.2.2.2.2.2.1, (v.2.2.2.2.2.2.2.2.2.2.2.1.1, v.2.2.2.2.2.2.2.2.2.2.2.1.2.1,
    v.2.2.2.2.2.2.2.2.2.2.2.1.2.2), v.2.2.2.2.2.2.2.2.2.2.2.2.1, v.2.2.2.2.2.2.2.2.2.2.2.2.2.1, v.2.2.2.2.2.2.2.2.2.2.2.2.2.2.1,
    v.2.2.2.2.2.2.2.2.2.2.2.2.2.2.2.1, v.2.2.2.2.2.2.2.2.2.2.2.2.2.2.2.2.1, v.2.2.2.2.2.2.2.2.2.2.2.2.2.2.2.2.2.1,
    v.2.2.2.2.2.2.2.2.2.2.2.2.2.2.2.2.2.2.1, v.2.2.2.2.2.2.2.2.2.2.2.2.2.2.2.2.2.2.2.1, v.2.2.2.2.2.2.2.2.2.2.2.2.2.2.2.2.2.2.2.2.1,
    v.2.2.2.2.2.2.2.2.2.2.2.2.2.2.2.2.2.2.2.2.2))) (fun (c : PUnit) => obind (w_msg_reader_number (v.2.2.2.2.2.2.2.2.2.2.2.1.1,
    v.2.2.2.2.2.2.2.2.2.2.2.1.2.1, v.2.2.2.2.2.2.2.2.2.2.2.1.2.2)) fun b => cnd (decide ((List.length v.2.2.2.2.2.2.2.2.2.2.2.2.2.2.2.2.2.2.2.2.2 +
    List.length [b.1]) * (8:Nat) ≤ (140737488355328:Nat))) (some (Sum.inl (wr .i64 (v.1 - (1:Int)), v.2.1, v.2.2.1, v.2.2.2.1, v.2.2.2.2.1,
    v.2.2.2.2.2.1, v.2.2.2.2.2.2.1, v.2.2.2.2.2.2.2.1, v.2.2.2.2.2.2.2.2.1, v.2.2.2.2.2.2.2.2.2.1, v.2.2.2.2.2.2.2.2.2.2.1, (b.2.1, b.2.2.1, b.2.2.2),
    v.2.2.2.2.2.2.2.2.2.2.2.2.1, v.2.2.2.2.2.2.2.2.2.2.2.2.2.1, v.2.2.2.2.2.2.2.2.2.2.2.2.2.2.1, v.2.2.2.2.2.2.2.2.2.2.2.2.2.2.2.1,
    v.2.2.2.2.2.2.2.2.2.2.2.2.2.2.2.2.1, v.2.2.2.2.2.2.2.2.2.2.2.2.2.2.2.2.2.1, v.2.2.2.2.2.2.2.2.2.2.2.2.2.2.2.2.2.2.1,
    v.2.2.2.2.2.2.2.2.2.2.2.2.2.2.2.2.2.2.2.1, v.2.2.2.2.2.2.2.2.2.2.2.2.2.2.2.2.2.2.2.2.1, v.2.2.2.2.2.2.2.2.2.2.2.2.2.2.2.2.2.2.2.2.2 ++ [b.1])))
    none) v.2.2.2.2.2.2.2.2.2.2.2.1.2.2) (some (Sum.inr (v.2.1, v.2.2.1, v.2.2.2.1, v.2.2.2.2.1, v.2.2.2.2.2.1, v.2.2.2.2.2.2.1, v.2.2.2.2.2.2.2.1,
    v.2.2.2.2.2.2.2.2.1, v.2.2.2.2.2.2.2.2.2.1, v.2.2.2.2.2.2.2.2.2.2.1, (v.2.2.2.2.2.2.2.2.2.2.2.1.1, v.2.2.2.2.2.2.2.2.2.2.2.1.2.1,
    v.2.2.2.2.2.2.2.2.2.2.2.1.2.2), v.2.2.2.2.2.2.2.2.2.2.2.2.1, v.2.2.2.2.2.2.2.2.2.2.2.2.2.1, v.2.2.2.2.2.2.2.2.2.2.2.2.2.2.1,
    v.2.2.2.2.2.2.2.2.2.2.2.2.2.2.2.1, v.2.2.2.2.2.2.2.2.2.2.2.2.2.2.2.2.1, v.2.2.2.2.2.2.2.2.2.2.2.2.2.2.2.2.2.1,
    v.2.2.2.2.2.2.2.2.2.2.2.2.2.2.2.2.2.2.1, v.2.2.2.2.2.2.2.2.2.2.2.2.2.2.2.2.2.2.2.1, v.2.2.2.2.2.2.2.2.2.2.2.2.2.2.2.2.2.2.2.2.1,
    v.2.2.2.2.2.2.2.2.2.2.2.2.2.2.2.2.2.2.2.2.2)))) (b_6.1, (0:Int), (0:Int), (0:Int), (0:Int), (0:Int), (0:Int), (0:Int), (0:Int), [], [], (b_6.2.1,
    b_6.2.2.1, b_6.2.2.2), b.1, b_1.1, b_2.1, b_3.1, b_4.1, b_5.1, (0:Int), (0:Int), [], [])) fun (b : Int × Int × Int × Int × Int × Int × Int × Int ×
    List UInt8 × List Int × (List Int × Int × (Int ⊕ PUnit)) × Int × Int × Int × Int × Int × Int × Int × Int × List UInt8 × List Int) => obind
    (w_msg_reader_number (b.2.2.2.2.2.2.2.2.2.2.1.1, b.2.2.2.2.2.2.2.2.2.2.1.2.1, b.2.2.2.2.2.2.2.2.2.2.1.2.2)) fun b_7 => obind (w_msg_reader_number (b_7.2.1, b_7.2.2.1, b_7.2.2.2)) fun b_8 => obind (w_msg_reader_text (b_8.2.1, b_8.2.2.1, b_8.2.2.2)) fun b_9 => some (b_9.2.2.2,
    b.2.2.2.2.2.2.2.2.2.2.2.1, b.2.2.2.2.2.2.2.2.2.2.2.2.1, b.2.2.2.2.2.2.2.2.2.2.2.2.2.1, b.2.2.2.2.2.2.2.2.2.2.2.2.2.2.1,
    b.2.2.2.2.2.2.2.2.2.2.2.2.2.2.2.1, b.2.2.2.2.2.2.2.2.2.2.2.2.2.2.2.2.1, b.2.2.2.2.2.2.2.2.2.2.2.2.2.2.2.2.2.2.2.2, b_7.1, b_8.1, b_9.1)
theorem FV_msg_read_eq (w_msg_reader_number : (List Int) × (Int × (Int ⊕ Unit)) → Option (Int × ((List Int) × (Int × (Int ⊕ Unit))))) (w_msg_reader_text : (List Int) × (Int × (Int ⊕ Unit)) → Option ((List UInt8) × ((List Int) × (Int × (Int ⊕ Unit))))) (N : Nat) (x : List Int) : F_msg_read w_msg_reader_number w_msg_reader_text N x = V_msg_read w_msg_reader_number w_msg_reader_text N x := by kernel_rfl
noncomputable def W_msg_read (N : Nat) (x : List Int) : Option ((Int ⊕ Unit) × M_) := V_msg_read (W_msg_reader_number N) (W_msg_reader_text N) N x
theorem F_msg_read_eq (N : Nat) (x : List Int) : F_msg_read (W_msg_reader_number N) (W_msg_reader_text N) N x = W_msg_read N x := (FV_msg_read_eq (W_msg_reader_number N) (W_msg_reader_text N) N x).trans (by kernel_rfl)
noncomputable def conw_msg_read (w : List Int → Option ((Int ⊕ Unit) × M_)) : Con := ⟨50, as_msg_read, bs_msg_read, (Int ⊕ Unit) × M_, w, out_msg_read⟩
noncomputable def con_msg_read (N : Nat) : Con := conw_msg_read (W_msg_read N)
theorem R_msg_read_eq (x : List Int) (y : (Int ⊕ Unit) × M_) : retOf2 P0 Try.f50 (kpL []) (lbOf as_msg_read bs_msg_read x) (patS ⟨46, [], [], []⟩ pout_msg_read y) = some (out_msg_read y) := by kernel_rfl
theorem con_msg_read_ok (N : Nat) : Con.ok P0 (con_msg_read N) := ⟨⟨Try.f50, Try.func50, by kernel_rfl, by kernel_rfl⟩, fun (x : List Int) (r : (Int ⊕ Unit) × M_) (hr : W_msg_read N x = some r) =>
  spec2_evT (Γ := G_msg_read (W_msg_reader_number N) (W_msg_reader_text N) N) (Λ := L0) (pout := pout_msg_read) (kp := kpL []) mixed (orcOf_ok _ (by simp only [List.mem_cons, List.not_mem_nil, or_false, forall_eq_or_imp, forall_eq]; exact ⟨con_msg_reader_number_ok N, con_msg_reader_text_ok N⟩)) Try.func50 (c := bodyOf Try.f50) (by kernel_rfl) (by kernel_rfl) (of_decide_eq_true (by kernel_rfl)) ((F_msg_read_eq N x).trans hr) (R_msg_read_eq x r)⟩
def as_bytes_Equal : List AS := [.val (.list (.int .u8)), .val (.list (.int .u8))]
def bs_bytes_Equal : List BS := []
def pout_bytes_Equal : Pat := ⟨[(4, .val .bool)], []⟩
noncomputable def G_bytes_Equal  (N : Nat) : OrcT := orcOf []
noncomputable def F_bytes_Equal  (N : Nat) (x : (List Int) × List Int) : Option (Bool) :=
  (evT (G_bytes_Equal  N) L0 P0 []
    [] N 400 (bodyOf Try.f51) ⟨10, slots 0 (argsOf as_bytes_Equal bs_bytes_Equal x), tabU (lbOf as_bytes_Equal bs_bytes_Equal x) [], []⟩).elim (kRet 10 pout_bytes_Equal (kpL []) (lbOf as_bytes_Equal bs_bytes_Equal x))
def out_bytes_Equal (y : Bool) : V × List OK × List OK := (valW .bool y, [], [])
noncomputable def V_bytes_Equal  (N : Nat) (x : (List Int) × List Int) : Option (Bool) :=
  cnd (List.all x.1 fun (n : Int) => decide ((0:Int) ≤ n) && decide (n < (256:Int))) (cnd (List.all x.2 fun (n : Int) => decide ((0:Int) ≤ n) && decide
    (n < (256:Int))) (some (List.map (fun (n : Int) => UInt8.ofNat (Int.toNat n)) x.1 == List.map (fun (n : Int) => UInt8.ofNat (Int.toNat n)) x.2))
    none) none
theorem FV_bytes_Equal_eq  (N : Nat) (x : (List Int) × List Int) : F_bytes_Equal  N x = V_bytes_Equal  N x := by kernel_rfl
noncomputable def W_bytes_Equal (N : Nat) (x : (List Int) × List Int) : Option (Bool) := V_bytes_Equal  N x
theorem F_bytes_Equal_eq (N : Nat) (x : (List Int) × List Int) : F_bytes_Equal  N x = W_bytes_Equal N x := (FV_bytes_Equal_eq  N x).trans (by kernel_rfl)
noncomputable def conw_bytes_Equal (w : (List Int) × List Int → Option (Bool)) : Con := ⟨51, as_bytes_Equal, bs_bytes_Equal, Bool, w, out_bytes_Equal⟩
noncomputable def con_bytes_Equal (N : Nat) : Con := conw_bytes_Equal (W_bytes_Equal N)
theorem R_bytes_Equal_eq (x : (List Int) × List Int) (y : Bool) : retOf2 P0 Try.f51 (kpL []) (lbOf as_bytes_Equal bs_bytes_Equal x) (patS ⟨10, [], [], []⟩ pout_bytes_Equal y) = some (out_bytes_Equal y) := by kernel_rfl
theorem con_bytes_Equal_ok (N : Nat) : Con.ok P0 (con_bytes_Equal N) := ⟨⟨Try.f51, Try.func51, by kernel_rfl, by kernel_rfl⟩, fun (x : (List Int) × List Int) (r : Bool) (hr : W_bytes_Equal N x = some r) =>
  spec2_evT (Γ := G_bytes_Equal N) (Λ := L0) (pout := pout_bytes_Equal) (kp := kpL []) mixed (orcOf_ok [] (by simp)) Try.func51 (c := bodyOf Try.f51) (by kernel_rfl) (by kernel_rfl) (of_decide_eq_true (by kernel_rfl)) ((F_bytes_Equal_eq N x).trans hr) (R_bytes_Equal_eq x r)⟩
def as_msg_Take : List AS := [.val (.list (.int .u8))]
def bs_msg_Take : List BS := []
def pout_msg_Take : Pat := ⟨[(2, .ptr 600002 0), (3, .val .bool)], [(600002, .box 24 (.val T_))]⟩
noncomputable def G_msg_Take (w_msg_read : List Int → Option ((Int ⊕ Unit) × M_)) (w_msg_Put : M_ → Option (List Int)) (w_bytes_Equal : (List Int) × List Int → Option (Bool)) (N : Nat) : OrcT := orcOf [conw_msg_read w_msg_read, conw_msg_Put w_msg_Put, conw_bytes_Equal w_bytes_Equal]
noncomputable def F_msg_Take (w_msg_read : List Int → Option ((Int ⊕ Unit) × M_)) (w_msg_Put : M_ → Option (List Int)) (w_bytes_Equal : (List Int) × List Int → Option (Bool)) (N : Nat) (x : List Int) : Option (Bool × M_) :=
  (evT (G_msg_Take w_msg_read w_msg_Put w_bytes_Equal N) L0 P0 []
    [] N 400 (bodyOf Try.f22) ⟨28, slots 0 (argsOf as_msg_Take bs_msg_Take x), tabU (lbOf as_msg_Take bs_msg_Take x) [], []⟩).elim (kRet 28 pout_msg_Take (kpL []) (lbOf as_msg_Take bs_msg_Take x))
def out_msg_Take (y : Bool × M_) : V × List OK × List OK := (.tup [valW (.agg T_) y.2, valW .bool y.1], [], [])
noncomputable def V_msg_Take (w_msg_read : List Int → Option ((Int ⊕ Unit) × M_)) (w_msg_Put : M_ → Option (List Int)) (w_bytes_Equal : (List Int) × List Int → Option (Bool)) (N : Nat) (x : List Int) : Option (Bool × M_) :=
  obind (w_msg_read x) fun b => selim (fun (b : Int) => some (false, (0:Int), (0:Int), (0:Int), (0:Int), (0:Int), (0:Int), [], (0:Int), (0:Int), []))
    (fun (c : PUnit) => obind (w_msg_Put (b.2.1, b.2.2.1, b.2.2.2.1, b.2.2.2.2.1, b.2.2.2.2.2.1, b.2.2.2.2.2.2.1, b.2.2.2.2.2.2.2.1,
    b.2.2.2.2.2.2.2.2.1, b.2.2.2.2.2.2.2.2.2.1, b.2.2.2.2.2.2.2.2.2.2)) fun b_1 => obind (w_bytes_Equal (b_1, x)) fun b_2 => cnd (!b_2) (some (false,
    (0:Int), (0:Int), (0:Int), (0:Int), (0:Int), (0:Int), [], (0:Int), (0:Int), [])) (some (true, b.2.1, b.2.2.1, b.2.2.2.1, b.2.2.2.2.1, b.2.2.2.2.2.1,
    b.2.2.2.2.2.2.1, b.2.2.2.2.2.2.2.1, b.2.2.2.2.2.2.2.2.1, b.2.2.2.2.2.2.2.2.2.1, b.2.2.2.2.2.2.2.2.2.2))) b.1
theorem FV_msg_Take_eq (w_msg_read : List Int → Option ((Int ⊕ Unit) × M_)) (w_msg_Put : M_ → Option (List Int)) (w_bytes_Equal : (List Int) × List Int → Option (Bool)) (N : Nat) (x : List Int) : F_msg_Take w_msg_read w_msg_Put w_bytes_Equal N x = V_msg_Take w_msg_read w_msg_Put w_bytes_Equal N x := by kernel_rfl
noncomputable def W_msg_Take (N : Nat) (x : List Int) : Option (Bool × M_) := V_msg_Take (W_msg_read N) (W_msg_Put N) (W_bytes_Equal N) N x
theorem F_msg_Take_eq (N : Nat) (x : List Int) : F_msg_Take (W_msg_read N) (W_msg_Put N) (W_bytes_Equal N) N x = W_msg_Take N x := (FV_msg_Take_eq (W_msg_read N) (W_msg_Put N) (W_bytes_Equal N) N x).trans (by kernel_rfl)
noncomputable def conw_msg_Take (w : List Int → Option (Bool × M_)) : Con := ⟨22, as_msg_Take, bs_msg_Take, Bool × M_, w, out_msg_Take⟩
noncomputable def con_msg_Take (N : Nat) : Con := conw_msg_Take (W_msg_Take N)
theorem R_msg_Take_eq (x : List Int) (y : Bool × M_) : retOf2 P0 Try.f22 (kpL []) (lbOf as_msg_Take bs_msg_Take x) (patS ⟨28, [], [], []⟩ pout_msg_Take y) = some (out_msg_Take y) := by kernel_rfl
theorem con_msg_Take_ok (N : Nat) : Con.ok P0 (con_msg_Take N) := ⟨⟨Try.f22, Try.func22, by kernel_rfl, by kernel_rfl⟩, fun (x : List Int) (r : Bool × M_) (hr : W_msg_Take N x = some r) =>
  spec2_evT (Γ := G_msg_Take (W_msg_read N) (W_msg_Put N) (W_bytes_Equal N) N) (Λ := L0) (pout := pout_msg_Take) (kp := kpL []) mixed (orcOf_ok _ (by simp only [List.mem_cons, List.not_mem_nil, or_false, forall_eq_or_imp, forall_eq]; exact ⟨con_msg_read_ok N, con_msg_Put_ok N, con_bytes_Equal_ok N⟩)) Try.func22 (c := bodyOf Try.f22) (by kernel_rfl) (by kernel_rfl) (of_decide_eq_true (by kernel_rfl)) ((F_msg_Take_eq N x).trans hr) (R_msg_Take_eq x r)⟩
def as_ref10_TakeNum : List AS := [.val (.list (.int .u8))]
def bs_ref10_TakeNum : List BS := []
def pout_ref10_TakeNum : Pat := ⟨[(2, .val (.int .i64)), (3, .val (.int .i64)), (4, .val .bool)], []⟩
noncomputable def G_ref10_TakeNum  (N : Nat) : OrcT := orcOf []
noncomputable def F_ref10_TakeNum  (N : Nat) (x : List Int) : Option (Int × Int × Bool) :=
  (evT (G_ref10_TakeNum  N) L0 P0 [(3, .loop [] ⟨[(5, .val (.int .i64)), (6, .val (.int .i64)), (7, .val (.int .i64))], []⟩ [(.exit 0, ⟨[], []⟩), (.ret, ⟨[(2, .val (.int .i64)), (3, .val (.int .i64)), (4, .val .bool)], []⟩)])]
    [(1000008, .reg [(9, [], ⟨[(43, .val .bool)], []⟩)])] N 400 (bodyOf Try.f66) ⟨51, slots 0 (argsOf as_ref10_TakeNum bs_ref10_TakeNum x), tabU (lbOf as_ref10_TakeNum bs_ref10_TakeNum x) [], []⟩).elim (kRet 51 pout_ref10_TakeNum (kpL []) (lbOf as_ref10_TakeNum bs_ref10_TakeNum x))
def out_ref10_TakeNum (y : Int × Int × Bool) : V × List OK × List OK := (.tup [valW (.int .i64) y.1, valW (.int .i64) y.2.1, valW .bool y.2.2], [], [])
noncomputable def V_ref10_TakeNum  (N : Nat) (x : List Int) : Option (Int × Int × Bool) :=
  obind (loopN N (fun (v : Int × Int × Int) => cnd (decide (v.2.2 < (↑(List.length x) : Int))) (cnd (decide (v.2.2 < (5:Int))) (cnd (decide ((0:Int) ≤
    v.2.2) && decide (v.2.2 < (↑(List.length x) : Int))) (cnd (decide ((0:Int) ≤ v.2.2) && decide (v.2.2 < (↑(List.length x) : Int))) (cnd (decide
    (List.getD x (Int.toNat v.2.2) (0:Int) < (128:Int))) (obind (cnd (decide ((0:Int) < v.2.2)) (cnd (decide ((0:Int) ≤ v.2.2) && decide (v.2.2 <
    (↑(List.length x) : Int))) (some (decide (List.getD x (Int.toNat v.2.2) (0:Int) = (0:Int)))) none) (some false)) fun (b : Bool) => cnd b (some
    (Sum.inr (Sum.inr ((0:Int), (0:Int), false)))) (cnd (decide ((1073741824:Int) < wr .i64 (v.1 + wr .i64 (wr .i64 (Int.tmod (List.getD x (Int.toNat
    v.2.2) (0:Int)) (128:Int)) * v.2.1)))) (some (Sum.inr (Sum.inr ((0:Int), (0:Int), false)))) (some (Sum.inr (Sum.inr (wr .i64 (v.1 + wr .i64 (wr .i64
    (Int.tmod (List.getD x (Int.toNat v.2.2) (0:Int)) (128:Int)) * v.2.1)), wr .i64 (v.2.2 + (1:Int)), true)))))) (some (Sum.inl (wr .i64 (v.1 + wr .i64
    (wr .i64 (Int.tmod (List.getD x (Int.toNat v.2.2) (0:Int)) (128:Int)) * v.2.1)), wr .i64 (v.2.1 * (128:Int)), wr .i64 (v.2.2 + (1:Int)))))) none)
    none) (some (Sum.inr (Sum.inl ())))) (some (Sum.inr (Sum.inl ())))) ((0:Int), (1:Int), (0:Int))) fun (b : PUnit ⊕ Int × Int × Bool) => selim (fun (b
    : PUnit) => some ((0:Int), (0:Int), false)) (fun (c : Int × Int × Bool) => some (c.1, c.2.1, c.2.2)) b
theorem FV_ref10_TakeNum_eq  (N : Nat) (x : List Int) : F_ref10_TakeNum  N x = V_ref10_TakeNum  N x := by kernel_rfl
noncomputable def W_ref10_TakeNum (N : Nat) (x : List Int) : Option (Int × Int × Bool) := V_ref10_TakeNum  N x
theorem F_ref10_TakeNum_eq (N : Nat) (x : List Int) : F_ref10_TakeNum  N x = W_ref10_TakeNum N x := (FV_ref10_TakeNum_eq  N x).trans (by kernel_rfl)
noncomputable def conw_ref10_TakeNum (w : List Int → Option (Int × Int × Bool)) : Con := ⟨66, as_ref10_TakeNum, bs_ref10_TakeNum, Int × Int × Bool, w, out_ref10_TakeNum⟩
noncomputable def con_ref10_TakeNum (N : Nat) : Con := conw_ref10_TakeNum (W_ref10_TakeNum N)
theorem R_ref10_TakeNum_eq (x : List Int) (y : Int × Int × Bool) : retOf2 P0 Try.f66 (kpL []) (lbOf as_ref10_TakeNum bs_ref10_TakeNum x) (patS ⟨51, [], [], []⟩ pout_ref10_TakeNum y) = some (out_ref10_TakeNum y) := by kernel_rfl
theorem con_ref10_TakeNum_ok (N : Nat) : Con.ok P0 (con_ref10_TakeNum N) := ⟨⟨Try.f66, Try.func66, by kernel_rfl, by kernel_rfl⟩, fun (x : List Int) (r : Int × Int × Bool) (hr : W_ref10_TakeNum N x = some r) =>
  spec2_evT (Γ := G_ref10_TakeNum N) (Λ := L0) (pout := pout_ref10_TakeNum) (kp := kpL []) mixed (orcOf_ok [] (by simp)) Try.func66 (c := bodyOf Try.f66) (by kernel_rfl) (by kernel_rfl) (of_decide_eq_true (by kernel_rfl)) ((F_ref10_TakeNum_eq N x).trans hr) (R_ref10_TakeNum_eq x r)⟩
def as_ref10_reader_num : List AS := [.ptr 0 0]
def bs_ref10_reader_num : List BS := [.box 85 (.pair (.list (.int .u8)) .bool)]
def pout_ref10_reader_num : Pat := ⟨[(0, .ptr 1000000 0), (2, .val (.int .i64))], [(1000000, .box 85 (.val (.pair (.list (.int .u8)) .bool)))]⟩
noncomputable def G_ref10_reader_num (w_ref10_TakeNum : List Int → Option (Int × Int × Bool)) (N : Nat) : OrcT := orcOf [conw_ref10_TakeNum w_ref10_TakeNum]
noncomputable def F_ref10_reader_num (w_ref10_TakeNum : List Int → Option (Int × Int × Bool)) (N : Nat) (x : (List Int) × Bool) : Option (Int × (List Int) × Bool) :=
  (evT (G_ref10_reader_num w_ref10_TakeNum N) L0 P0 []
    [(4, .cut [] [(.normal, ⟨[(0, .ptr 1000000 0)], [(1000000, .box 85 (.val (.pair (.list (.int .u8)) .bool)))]⟩)])] N 400 (bodyOf Try.f52) ⟨34, slots 0 (argsOf as_ref10_reader_num bs_ref10_reader_num x), tabU (lbOf as_ref10_reader_num bs_ref10_reader_num x) [], []⟩).elim (kRet 34 pout_ref10_reader_num (kpL [true]) (lbOf as_ref10_reader_num bs_ref10_reader_num x))
def out_ref10_reader_num (y : Int × (List Int) × Bool) : V × List OK × List OK := (valW (.int .i64) y.1, [.box 85 (cellsW (.pair (.list (.int .u8)) .bool) y.2)], [])
noncomputable def V_ref10_reader_num (w_ref10_TakeNum : List Int → Option (Int × Int × Bool)) (N : Nat) (x : (List Int) × Bool) : Option (Int × (List Int) × Bool) :=
  obind (w_ref10_TakeNum x.1) fun b => obind (cnd (!b.2.2) (some (x.1, true)) (some (x.1, x.2))) fun (b_1 : List Int × Bool) => cnd b_1.2 (some
    ((0:Int), b_1.1, b_1.2)) (cnd (decide ((0:Int) ≤ b.2.1) && decide (b.2.1 ≤ (↑(List.length b_1.1) : Int))) (some (b.1, List.drop (Int.toNat b.2.1)
    (List.take (List.length b_1.1) b_1.1), b_1.2)) none)
theorem FV_ref10_reader_num_eq (w_ref10_TakeNum : List Int → Option (Int × Int × Bool)) (N : Nat) (x : (List Int) × Bool) : F_ref10_reader_num w_ref10_TakeNum N x = V_ref10_reader_num w_ref10_TakeNum N x := by kernel_rfl
noncomputable def W_ref10_reader_num (N : Nat) (x : (List Int) × Bool) : Option (Int × (List Int) × Bool) := V_ref10_reader_num (W_ref10_TakeNum N) N x
theorem F_ref10_reader_num_eq (N : Nat) (x : (List Int) × Bool) : F_ref10_reader_num (W_ref10_TakeNum N) N x = W_ref10_reader_num N x := (FV_ref10_reader_num_eq (W_ref10_TakeNum N) N x).trans (by kernel_rfl)
noncomputable def conw_ref10_reader_num (w : (List Int) × Bool → Option (Int × (List Int) × Bool)) : Con := ⟨52, as_ref10_reader_num, bs_ref10_reader_num, Int × (List Int) × Bool, w, out_ref10_reader_num⟩
noncomputable def con_ref10_reader_num (N : Nat) : Con := conw_ref10_reader_num (W_ref10_reader_num N)
theorem R_ref10_reader_num_eq (x : (List Int) × Bool) (y : Int × (List Int) × Bool) : retOf2 P0 Try.f52 (kpL [true]) (lbOf as_ref10_reader_num bs_ref10_reader_num x) (patS ⟨34, [], [], []⟩ pout_ref10_reader_num y) = some (out_ref10_reader_num y) := by kernel_rfl
theorem con_ref10_reader_num_ok (N : Nat) : Con.ok P0 (con_ref10_reader_num N) := ⟨⟨Try.f52, Try.func52, by kernel_rfl, by kernel_rfl⟩, fun (x : (List Int) × Bool) (r : Int × (List Int) × Bool) (hr : W_ref10_reader_num N x = some r) =>
  spec2_evT (Γ := G_ref10_reader_num (W_ref10_TakeNum N) N) (Λ := L0) (pout := pout_ref10_reader_num) (kp := kpL [true]) mixed (orcOf_ok _ (by simp only [List.mem_cons, List.not_mem_nil, or_false, forall_eq_or_imp, forall_eq]; exact con_ref10_TakeNum_ok N)) Try.func52 (c := bodyOf Try.f52) (by kernel_rfl) (by kernel_rfl) (of_decide_eq_true (by kernel_rfl)) ((F_ref10_reader_num_eq N x).trans hr) (R_ref10_reader_num_eq x r)⟩
def as_ref10_TakeText : List AS := [.val (.list (.int .u8))]
def bs_ref10_TakeText : List BS := []
def pout_ref10_TakeText : Pat := ⟨[(2, .val .str), (3, .val (.int .i64)), (4, .val .bool)], []⟩
noncomputable def G_ref10_TakeText (w_ref10_TakeNum : List Int → Option (Int × Int × Bool)) (N : Nat) : OrcT := orcOf [conw_ref10_TakeNum w_ref10_TakeNum]
noncomputable def F_ref10_TakeText (w_ref10_TakeNum : List Int → Option (Int × Int × Bool)) (N : Nat) (x : List Int) : Option ((List UInt8) × Int × Bool) :=
  (evT (G_ref10_TakeText w_ref10_TakeNum N) L0 P0 []
    [] N 400 (bodyOf Try.f67) ⟨34, slots 0 (argsOf as_ref10_TakeText bs_ref10_TakeText x), tabU (lbOf as_ref10_TakeText bs_ref10_TakeText x) [], []⟩).elim (kRet 34 pout_ref10_TakeText (kpL []) (lbOf as_ref10_TakeText bs_ref10_TakeText x))
def out_ref10_TakeText (y : (List UInt8) × Int × Bool) : V × List OK × List OK := (.tup [valW .str y.1, valW (.int .i64) y.2.1, valW .bool y.2.2], [], [])
noncomputable def V_ref10_TakeText (w_ref10_TakeNum : List Int → Option (Int × Int × Bool)) (N : Nat) (x : List Int) : Option ((List UInt8) × Int × Bool) :=
  obind (w_ref10_TakeNum x) fun b => cnd (!b.2.2) (some ([], (0:Int), false)) (cnd (decide (wr .i64 ((↑(List.length x) : Int) - b.2.1) < b.1)) (some
    ([], (0:Int), false)) (cnd (decide ((0:Int) ≤ b.2.1) && decide (b.2.1 ≤ wr .i64 (b.2.1 + b.1)) && decide (wr .i64 (b.2.1 + b.1) ≤ (↑(List.length x)
    : Int))) (cnd (List.all (List.drop (Int.toNat b.2.1) (List.take (Int.toNat (wr .i64 (b.2.1 + b.1))) x)) fun (n : Int) => decide ((0:Int) ≤ n) &&
    decide (n < (256:Int))) (some (List.map (fun (n : Int) => UInt8.ofNat (Int.toNat n)) (List.drop (Int.toNat b.2.1) (List.take (Int.toNat (wr .i64
    (b.2.1 + b.1))) x)), wr .i64 (b.2.1 + b.1), true)) none) none))
theorem FV_ref10_TakeText_eq (w_ref10_TakeNum : List Int → Option (Int × Int × Bool)) (N : Nat) (x : List Int) : F_ref10_TakeText w_ref10_TakeNum N x = V_ref10_TakeText w_ref10_TakeNum N x := by kernel_rfl
noncomputable def W_ref10_TakeText (N : Nat) (x : List Int) : Option ((List UInt8) × Int × Bool) := V_ref10_TakeText (W_ref10_TakeNum N) N x
theorem F_ref10_TakeText_eq (N : Nat) (x : List Int) : F_ref10_TakeText (W_ref10_TakeNum N) N x = W_ref10_TakeText N x := (FV_ref10_TakeText_eq (W_ref10_TakeNum N) N x).trans (by kernel_rfl)
noncomputable def conw_ref10_TakeText (w : List Int → Option ((List UInt8) × Int × Bool)) : Con := ⟨67, as_ref10_TakeText, bs_ref10_TakeText, (List UInt8) × Int × Bool, w, out_ref10_TakeText⟩
noncomputable def con_ref10_TakeText (N : Nat) : Con := conw_ref10_TakeText (W_ref10_TakeText N)
theorem R_ref10_TakeText_eq (x : List Int) (y : (List UInt8) × Int × Bool) : retOf2 P0 Try.f67 (kpL []) (lbOf as_ref10_TakeText bs_ref10_TakeText x) (patS ⟨34, [], [], []⟩ pout_ref10_TakeText y) = some (out_ref10_TakeText y) := by kernel_rfl
theorem con_ref10_TakeText_ok (N : Nat) : Con.ok P0 (con_ref10_TakeText N) := ⟨⟨Try.f67, Try.func67, by kernel_rfl, by kernel_rfl⟩, fun (x : List Int) (r : (List UInt8) × Int × Bool) (hr : W_ref10_TakeText N x = some r) =>
  spec2_evT (Γ := G_ref10_TakeText (W_ref10_TakeNum N) N) (Λ := L0) (pout := pout_ref10_TakeText) (kp := kpL []) mixed (orcOf_ok _ (by simp only [List.mem_cons, List.not_mem_nil, or_false, forall_eq_or_imp, forall_eq]; exact con_ref10_TakeNum_ok N)) Try.func67 (c := bodyOf Try.f67) (by kernel_rfl) (by kernel_rfl) (of_decide_eq_true (by kernel_rfl)) ((F_ref10_TakeText_eq N x).trans hr) (R_ref10_TakeText_eq x r)⟩
def as_ref10_reader_text : List AS := [.ptr 0 0]
def bs_ref10_reader_text : List BS := [.box 85 (.pair (.list (.int .u8)) .bool)]
def pout_ref10_reader_text : Pat := ⟨[(0, .ptr 1000000 0), (2, .val .str)], [(1000000, .box 85 (.val (.pair (.list (.int .u8)) .bool)))]⟩
noncomputable def G_ref10_reader_text (w_ref10_TakeText : List Int → Option ((List UInt8) × Int × Bool)) (N : Nat) : OrcT := orcOf [conw_ref10_TakeText w_ref10_TakeText]
noncomputable def F_ref10_reader_text (w_ref10_TakeText : List Int → Option ((List UInt8) × Int × Bool)) (N : Nat) (x : (List Int) × Bool) : Option ((List UInt8) × (List Int) × Bool) :=
  (evT (G_ref10_reader_text w_ref10_TakeText N) L0 P0 []
    [(4, .cut [] [(.normal, ⟨[(0, .ptr 1000000 0)], [(1000000, .box 85 (.val (.pair (.list (.int .u8)) .bool)))]⟩)])] N 400 (bodyOf Try.f53) ⟨34, slots 0 (argsOf as_ref10_reader_text bs_ref10_reader_text x), tabU (lbOf as_ref10_reader_text bs_ref10_reader_text x) [], []⟩).elim (kRet 34 pout_ref10_reader_text (kpL [true]) (lbOf as_ref10_reader_text bs_ref10_reader_text x))
def out_ref10_reader_text (y : (List UInt8) × (List Int) × Bool) : V × List OK × List OK := (valW .str y.1, [.box 85 (cellsW (.pair (.list (.int .u8)) .bool) y.2)], [])
noncomputable def V_ref10_reader_text (w_ref10_TakeText : List Int → Option ((List UInt8) × Int × Bool)) (N : Nat) (x : (List Int) × Bool) : Option ((List UInt8) × (List Int) × Bool) :=
  obind (w_ref10_TakeText x.1) fun b => obind (cnd (!b.2.2) (some (x.1, true)) (some (x.1, x.2))) fun (b_1 : List Int × Bool) => cnd b_1.2 (some ([],
    b_1.1, b_1.2)) (cnd (decide ((0:Int) ≤ b.2.1) && decide (b.2.1 ≤ (↑(List.length b_1.1) : Int))) (some (b.1, List.drop (Int.toNat b.2.1) (List.take
    (List.length b_1.1) b_1.1), b_1.2)) none)
theorem FV_ref10_reader_text_eq (w_ref10_TakeText : List Int → Option ((List UInt8) × Int × Bool)) (N : Nat) (x : (List Int) × Bool) : F_ref10_reader_text w_ref10_TakeText N x = V_ref10_reader_text w_ref10_TakeText N x := by kernel_rfl
noncomputable def W_ref10_reader_text (N : Nat) (x : (List Int) × Bool) : Option ((List UInt8) × (List Int) × Bool) := V_ref10_reader_text (W_ref10_TakeText N) N x
theorem F_ref10_reader_text_eq (N : Nat) (x : (List Int) × Bool) : F_ref10_reader_text (W_ref10_TakeText N) N x = W_ref10_reader_text N x := (FV_ref10_reader_text_eq (W_ref10_TakeText N) N x).trans (by kernel_rfl)
noncomputable def conw_ref10_reader_text (w : (List Int) × Bool → Option ((List UInt8) × (List Int) × Bool)) : Con := ⟨53, as_ref10_reader_text, bs_ref10_reader_text, (List UInt8) × (List Int) × Bool, w, out_ref10_reader_text⟩
noncomputable def con_ref10_reader_text (N : Nat) : Con := conw_ref10_reader_text (W_ref10_reader_text N)
theorem R_ref10_reader_text_eq (x : (List Int) × Bool) (y : (List UInt8) × (List Int) × Bool) : retOf2 P0 Try.f53 (kpL [true]) (lbOf as_ref10_reader_text bs_ref10_reader_text x) (patS ⟨34, [], [], []⟩ pout_ref10_reader_text y) = some (out_ref10_reader_text y) := by kernel_rfl
theorem con_ref10_reader_text_ok (N : Nat) : Con.ok P0 (con_ref10_reader_text N) := ⟨⟨Try.f53, Try.func53, by kernel_rfl, by kernel_rfl⟩, fun (x : (List Int) × Bool) (r : (List UInt8) × (List Int) × Bool) (hr : W_ref10_reader_text N x = some r) =>
  spec2_evT (Γ := G_ref10_reader_text (W_ref10_TakeText N) N) (Λ := L0) (pout := pout_ref10_reader_text) (kp := kpL [true]) mixed (orcOf_ok _ (by simp only [List.mem_cons, List.not_mem_nil, or_false, forall_eq_or_imp, forall_eq]; exact con_ref10_TakeText_ok N)) Try.func53 (c := bodyOf Try.f53) (by kernel_rfl) (by kernel_rfl) (of_decide_eq_true (by kernel_rfl)) ((F_ref10_reader_text_eq N x).trans hr) (R_ref10_reader_text_eq x r)⟩
def as_ref10_TakeMsg : List AS := [.val (.list (.int .u8))]
def bs_ref10_TakeMsg : List BS := []
def pout_ref10_TakeMsg : Pat := ⟨[(2, .ptr 600002 0), (3, .val .bool)], [(600002, .box 24 (.val T_))]⟩
noncomputable def G_ref10_TakeMsg (w_ref10_reader_num : (List Int) × Bool → Option (Int × (List Int) × Bool)) (w_ref10_reader_text : (List Int) × Bool → Option ((List UInt8) × (List Int) × Bool)) (w_ref10_PutMsg : M_ → Option (List Int)) (N : Nat) : OrcT := orcOf [conw_ref10_reader_num w_ref10_reader_num, conw_ref10_reader_text w_ref10_reader_text, conw_ref10_PutMsg w_ref10_PutMsg]
noncomputable def F_ref10_TakeMsg (w_ref10_reader_num : (List Int) × Bool → Option (Int × (List Int) × Bool)) (w_ref10_reader_text : (List Int) × Bool → Option ((List UInt8) × (List Int) × Bool)) (w_ref10_PutMsg : M_ → Option (List Int)) (N : Nat) (x : List Int) : Option (Bool × M_) :=
  (evT (G_ref10_TakeMsg w_ref10_reader_num w_ref10_reader_text w_ref10_PutMsg N) L0 P0 [(11, .loop [] ⟨[(2, .ptr 600002 0), (4, .ptr 600017 0), (5, .ptr 600005 0), (6, .val (.int .i64))], [(600002, .box 24 (.pair (.val (.int .i64)) (.pair (.val (.int .i64)) (.pair (.val (.int .i64)) (.pair (.val (.int .i64)) (.pair (.val (.int .i64)) (.pair (.val (.int .i64)) (.pair (.acc 607002) (.pair (.val (.int .i64)) (.pair (.val (.int .i64)) (.val .str))))))))))), (607002, .nrow 3 (.int .i64) true true), (600017, .box 85 (.val (.pair (.list (.int .u8)) .bool))), (600005, .box 24 (.pair (.val (.int .i64)) (.pair (.val (.int .i64)) (.pair (.val (.int .i64)) (.pair (.val (.int .i64)) (.pair (.val (.int .i64)) (.pair (.val (.int .i64)) (.pair (.acc 607005) (.pair (.val (.int .i64)) (.pair (.val (.int .i64)) (.val .str))))))))))), (607005, .nrow 3 (.int .i64) true true)]⟩ [(.exit 0, ⟨[(2, .ptr 600002 0), (4, .ptr 600017 0), (5, .ptr 600005 0)], [(600002, .box 24 (.pair (.val (.int .i64)) (.pair (.val (.int .i64)) (.pair (.val (.int .i64)) (.pair (.val (.int .i64)) (.pair (.val (.int .i64)) (.pair (.val (.int .i64)) (.pair (.acc 607002) (.pair (.val (.int .i64)) (.pair (.val (.int .i64)) (.val .str))))))))))), (607002, .nrow 3 (.int .i64) true true), (600017, .box 85 (.val (.pair (.list (.int .u8)) .bool))), (600005, .box 24 (.pair (.val (.int .i64)) (.pair (.val (.int .i64)) (.pair (.val (.int .i64)) (.pair (.val (.int .i64)) (.pair (.val (.int .i64)) (.pair (.val (.int .i64)) (.pair (.acc 607005) (.pair (.val (.int .i64)) (.pair (.val (.int .i64)) (.val .str))))))))))), (607005, .nrow 3 (.int .i64) true true)]⟩)])]
    [] N 400 (bodyOf Try.f23) ⟨79, slots 0 (argsOf as_ref10_TakeMsg bs_ref10_TakeMsg x), tabU (lbOf as_ref10_TakeMsg bs_ref10_TakeMsg x) [], []⟩).elim (kRet 79 pout_ref10_TakeMsg (kpL []) (lbOf as_ref10_TakeMsg bs_ref10_TakeMsg x))
def out_ref10_TakeMsg (y : Bool × M_) : V × List OK × List OK := (.tup [valW (.agg T_) y.2, valW .bool y.1], [], [])
noncomputable def V_ref10_TakeMsg (w_ref10_reader_num : (List Int) × Bool → Option (Int × (List Int) × Bool)) (w_ref10_reader_text : (List Int) × Bool → Option ((List UInt8) × (List Int) × Bool)) (w_ref10_PutMsg : M_ → Option (List Int)) (N : Nat) (x : List Int) : Option (Bool × M_) :=
  cnd (decide ((↑(List.length x) : Int) < (4:Int))) (some (false, (0:Int), (0:Int), (0:Int), (0:Int), (0:Int), (0:Int), [], (0:Int), (0:Int), [])) (cnd
    (decide ((0:Int) ≤ wr .i64 ((↑(List.length x) : Int) - (4:Int))) && decide (wr .i64 ((↑(List.length x) : Int) - (4:Int)) ≤ (↑(List.length x) :
    Int))) (obind (w_ref10_reader_num (List.drop (0:Nat) (List.take (Int.toNat (wr .i64 ((↑(List.length x) : Int) - (4:Int)))) x), false)) fun b =>
    obind (w_ref10_reader_num (b.2.1, b.2.2)) fun b_1 => obind (w_ref10_reader_num (b_1.2.1, b_1.2.2)) fun b_2 => obind (w_ref10_reader_num
    (b_2.2.1, b_2.2.2)) fun b_3 => obind (w_ref10_reader_num (b_3.2.1, b_3.2.2)) fun b_4 => obind (w_ref10_reader_num (b_4.2.1, b_4.2.2)) fun b_5 =>
    obind (w_ref10_reader_num (b_5.2.1, b_5.2.2)) fun b_6 => obind (loopN N (fun (v : Int × Int × Int × Int × Int × Int × Int × Int × Int × List UInt8
    × List Int × (List Int × Bool) × Int × Int × Int × Int × Int × Int × Int × Int × List UInt8 × List Int) => cnd (decide ((0:Int) < v.1)) (cnd
    (!v.2.2.2.2.2.2.2.2.2.2.2.1.2) (obind (w_ref10_reader_num (v.2.2.2.2.2.2.2.2.2.2.2.1.1, v.2.2.2.2.2.2.2.2.2.2.2.1.2)) fun b => cnd (decide
    ((List.length v.2.2.2.2.2.2.2.2.2.2.2.2.2.2.2.2.2.2.2.2.2 + List.length [b.1]) * (8:Nat) ≤ (140737488355328:Nat))) (some (Sum.inl (wr .i64 (v.1 -
    (1:Int)), v.2.1, v.2.2.1, v.2.2.2.1, v.2.2.2.2.1, v.2.2.2.2.2.1, v.2.2.2.2.2.2.1, v.2.2.2.2.2.2.2.1, v.2.2.2.2.2.2.2.2.1, v.2.2.2.2.2.2.2.2.2.1,
    v.2.2.2.2.2.2.2.2.2.2.1, (b.2.1, b.2.2), v.2.2.2.2.2.2.2.2.2.2.2.2.1, v.2.2.2.2.2.2.2.2.2.2.2.2.2.1, v.2.2.2.2.2.2.2.2.2.2.2.2.2.2.1,
    v.2.2.2.2.2.2.2.2.2.2.2.2.2.2.2.1, v.2.2.2.2.2.2.2.2.2.2.2.2.2.2.2.2.1, v.2.2.2.2.2.2.2.2.2.2.2.2.2.2.2.2.2.1,
    v.2.2.2.2.2.2.2.2.2.2.2.2.2.2.2.2.2.2.1, v.2.2.2.2.2.2.2.2.2.2.2.2.2.2.2.2.2.2.2.1, v.2.2.2.2.2.2.2.2.2.2.2.2.2.2.2.2.2.2.2.2.1,
    v.2.2.2.2.2.2.2.2.2.2.2.2.2.2.2.2.2.2.2.2.2 ++ [b.1]))) none) (some (Sum.inr (v.2.1, v.2.2.1, v.2.2.2.1, v.2.2.2.2.1, v.2.2.2.2.2.1,
    v.2.2.2.2.2.2.1, v.2.2.2.2.2.2.2.1, v.2.2.2.2.2.2.2.2.1, v.2.2.2.2.2.2.2.2.2.1, v.2.2.2.2.2.2.2.2.2.2.1, (v.2.2.2.2.2.2.2.2.2.2.2.1.1,
    v.2.2.2.2.2.2.2.2.2.2.2.1.2), v.2.2.2.2.2.2.2.2.2.2.2.2.1, v.2.2.2.2.2.2.2.2.2.2.2.2.2.1, v.2.2.2.2.2.2.2.2.2.2.2.2.2.2.1,
    v.2.2.2.2.2.2.2.2.2.2.2.2.2.2.2.1, v.2.2.2.2.2.2.2.2.2.2.2.2.2.2.2.2.1, v.2.2.2.2.2.2.2.2.2.2.2.2.2.2.2.2.2.1,
    v.2.2.2.2.2.2.2.2.2.2.2.2.2.2.2.2.2.2.1, v.2.2.2.2.2.2.2.2.2.2.2.2.2.2.2.2.2.2.2.1, v.2.2.2.2.2.2.2.2.2.2.2.2.2.2.2.2.2.2.2.2.1,
    v.2.2.2.2.2.2.2.2.2.2.2.2.2.2.2.2.2.2.2.2.2)))) (some (Sum.inr (v.2.1, v.2.2.1, v.2.2.2.1, v.2.2.2.2.1, v.2.2.2.2.2.1, v.2.2.2.2.2.2.1,
    v.2.2.2.2.2.2.2.1, v.2.2.2.2.2.2.2.2.1, v.2.2.2.2.2.2.2.2.2.1, v.2.2.2.2.2.2.2.2.2.2.1, (v.2.2.2.2.2.2.2.2.2.2.2.1.1, v.2.2.2.2.2.2.2.2.2.2.2.1.2),
    v.2.2.2.2.2.2.2.2.2.2.2.2.1, v.2.2.2.2.2.2.2.2.2.2.2.2.2.1, v.2.2.2.2.2.2.2.2.2.2.2.2.2.2.1, v.2.2.2.2.2.2.2.2.2.2.2.2.2.2.2.1,
    v.2.2.2.2.2.2.2.2.2.2.2.2.2.2.2.2.1, v.2.2.2.2.2.2.2.2.2.2.2.2.2.2.2.2.2.1, v.2.2.2.2.2.2.2.2.2.2.2.2.2.2.2.2.2.2.1,
    v.2.2.2.2.2.2.2.2.2.2.2.2.2.2.2.2.2.2.2.1, v.2.2.2.2.2.2.2.2.2.2.2.2.2.2.2.2.2.2.2.2.1, v.2.2.2.2.2.2.2.2.2.2.2.2.2.2.2.2.2.2.2.2.2)))) (b_6.1,
    (0:Int), (0:Int), (0:Int), (0:Int), (0:Int), (0:Int), (0:Int), (0:Int), [], [], (b_6.2.1, b_6.2.2), b.1, b_1.1, b_2.1, b_3.1, b_4.1, b_5.1, (0:Int),
    (0:Int), [], [])) fun (b : Int × Int × Int × Int × Int × Int × Int × Int × List UInt8 × List Int × (List Int × Bool) × Int × Int × Int × Int × Int ×
    Int × Int × Int × List UInt8 × List Int) => obind (w_ref10_reader_num (b.2.2.2.2.2.2.2.2.2.2.1.1, b.2.2.2.2.2.2.2.2.2.2.1.2)) fun b_7 => obind
    (w_ref10_reader_num (b_7.2.1, b_7.2.2)) fun b_8 => obind (w_ref10_reader_text (b_8.2.1, b_8.2.2)) fun b_9 => cnd b_9.2.2 (some (false, (0:Int),
    (0:Int), (0:Int), (0:Int), (0:Int), (0:Int), [], (0:Int), (0:Int), [])) (obind (w_ref10_PutMsg (b.2.2.2.2.2.2.2.2.2.2.2.1,
    b.2.2.2.2.2.2.2.2.2.2.2.2.1, b.2.2.2.2.2.2.2.2.2.2.2.2.2.1, b.2.2.2.2.2.2.2.2.2.2.2.2.2.2.1, b.2.2.2.2.2.2.2.2.2.2.2.2.2.2.2.1,
    b.2.2.2.2.2.2.2.2.2.2.2.2.2.2.2.2.1, b.2.2.2.2.2.2.2.2.2.2.2.2.2.2.2.2.2.2.2.2, b_7.1, b_8.1, b_9.1)) fun b_10 => cnd (List.all b_10 fun (n : Int)
    => decide ((0:Int) ≤ n) && decide (n < (256:Int))) (cnd (List.all x fun (n : Int) => decide ((0:Int) ≤ n) && decide (n < (256:Int))) (cnd (!bytesI
    b_10 == bytesI x) (some (false, (0:Int), (0:Int), (0:Int), (0:Int), (0:Int), (0:Int), [], (0:Int), (0:Int), [])) (some (true,
    b.2.2.2.2.2.2.2.2.2.2.2.1, b.2.2.2.2.2.2.2.2.2.2.2.2.1, b.2.2.2.2.2.2.2.2.2.2.2.2.2.1, b.2.2.2.2.2.2.2.2.2.2.2.2.2.2.1,
    b.2.2.2.2.2.2.2.2.2.2.2.2.2.2.2.1, b.2.2.2.2.2.2.2.2.2.2.2.2.2.2.2.2.1, b.2.2.2.2.2.2.2.2.2.2.2.2.2.2.2.2.2.2.2.2, b_7.1, b_8.1, b_9.1))) none)
    none)) none)
theorem FV_ref10_TakeMsg_eq (w_ref10_reader_num : (List Int) × Bool → Option (Int × (List Int) × Bool)) (w_ref10_reader_text : (List Int) × Bool → Option ((List UInt8) × (List Int) × Bool)) (w_ref10_PutMsg : M_ → Option (List Int)) (N : Nat) (x : List Int) : F_ref10_TakeMsg w_ref10_reader_num w_ref10_reader_text w_ref10_PutMsg N x = V_ref10_TakeMsg w_ref10_reader_num w_ref10_reader_text w_ref10_PutMsg N x := by kernel_rfl
noncomputable def W_ref10_TakeMsg (N : Nat) (x : List Int) : Option (Bool × M_) := V_ref10_TakeMsg (W_ref10_reader_num N) (W_ref10_reader_text N) (W_ref10_PutMsg N) N x
theorem F_ref10_TakeMsg_eq (N : Nat) (x : List Int) : F_ref10_TakeMsg (W_ref10_reader_num N) (W_ref10_reader_text N) (W_ref10_PutMsg N) N x = W_ref10_TakeMsg N x := (FV_ref10_TakeMsg_eq (W_ref10_reader_num N) (W_ref10_reader_text N) (W_ref10_PutMsg N) N x).trans (by kernel_rfl)
noncomputable def conw_ref10_TakeMsg (w : List Int → Option (Bool × M_)) : Con := ⟨23, as_ref10_TakeMsg, bs_ref10_TakeMsg, Bool × M_, w, out_ref10_TakeMsg⟩
noncomputable def con_ref10_TakeMsg (N : Nat) : Con := conw_ref10_TakeMsg (W_ref10_TakeMsg N)
theorem R_ref10_TakeMsg_eq (x : List Int) (y : Bool × M_) : retOf2 P0 Try.f23 (kpL []) (lbOf as_ref10_TakeMsg bs_ref10_TakeMsg x) (patS ⟨79, [], [], []⟩ pout_ref10_TakeMsg y) = some (out_ref10_TakeMsg y) := by kernel_rfl
theorem con_ref10_TakeMsg_ok (N : Nat) : Con.ok P0 (con_ref10_TakeMsg N) := ⟨⟨Try.f23, Try.func23, by kernel_rfl, by kernel_rfl⟩, fun (x : List Int) (r : Bool × M_) (hr : W_ref10_TakeMsg N x = some r) =>
  spec2_evT (Γ := G_ref10_TakeMsg (W_ref10_reader_num N) (W_ref10_reader_text N) (W_ref10_PutMsg N) N) (Λ := L0) (pout := pout_ref10_TakeMsg) (kp := kpL []) mixed (orcOf_ok _ (by simp only [List.mem_cons, List.not_mem_nil, or_false, forall_eq_or_imp, forall_eq]; exact ⟨con_ref10_reader_num_ok N, con_ref10_reader_text_ok N, con_ref10_PutMsg_ok N⟩)) Try.func23 (c := bodyOf Try.f23) (by kernel_rfl) (by kernel_rfl) (of_decide_eq_true (by kernel_rfl)) ((F_ref10_TakeMsg_eq N x).trans hr) (R_ref10_TakeMsg_eq x r)⟩
def as_law12_MsgAll : List AS := [.val (.agg T_), .val (.list (.int .u8)), .val (.list (.int .u8))]
def bs_law12_MsgAll : List BS := []
def pout_law12_MsgAll : Pat := ⟨[(6, .val .bool)], []⟩
noncomputable def G_law12_MsgAll (w_law12_Light : M_ → Option (Bool)) (w_Made : List Int → Option ((List Int) × Int)) (w_Picks_Msg : Int × (List Int) × Int → Option (((List Int) × Int) × M_)) (w_msg_May : M_ → Option (Bool)) (w_ref10_MayMsg : M_ → Option (Bool)) (w_msg_Put : M_ → Option (List Int)) (w_ref10_PutMsg : M_ → Option (List Int)) (w_msg_Same : (M_) × M_ → Option (Bool)) (w_ref10_SameMsg : (M_) × M_ → Option (Bool)) (w_msg_Take : List Int → Option (Bool × M_)) (w_ref10_TakeMsg : List Int → Option (Bool × M_)) (N : Nat) : OrcT := orcOf [con_law12_begun N, conw_law12_Light w_law12_Light, conw_Made w_Made, conw_Picks_Msg w_Picks_Msg, conw_msg_May w_msg_May, conw_ref10_MayMsg w_ref10_MayMsg, conw_msg_Put w_msg_Put, conw_ref10_PutMsg w_ref10_PutMsg, conw_msg_Same w_msg_Same, conw_ref10_SameMsg w_ref10_SameMsg, conw_msg_Take w_msg_Take, conw_ref10_TakeMsg w_ref10_TakeMsg]
noncomputable def F_law12_MsgAll (w_law12_Light : M_ → Option (Bool)) (w_Made : List Int → Option ((List Int) × Int)) (w_Picks_Msg : Int × (List Int) × Int → Option (((List Int) × Int) × M_)) (w_msg_May : M_ → Option (Bool)) (w_ref10_MayMsg : M_ → Option (Bool)) (w_msg_Put : M_ → Option (List Int)) (w_ref10_PutMsg : M_ → Option (List Int)) (w_msg_Same : (M_) × M_ → Option (Bool)) (w_ref10_SameMsg : (M_) × M_ → Option (Bool)) (w_msg_Take : List Int → Option (Bool × M_)) (w_ref10_TakeMsg : List Int → Option (Bool × M_)) (N : Nat) (x : (M_) × (List Int) × List Int) : Option (Bool) :=
  (evT (G_law12_MsgAll w_law12_Light w_Made w_Picks_Msg w_msg_May w_ref10_MayMsg w_msg_Put w_ref10_PutMsg w_msg_Same w_ref10_SameMsg w_msg_Take w_ref10_TakeMsg N) L0 P0 [(13, .unroll 4),
    (8, .unroll 4)]
    [(1000003, .reg [(8, [], ⟨[(3, .ptr 600003 0), (24, .val .bool)], [(600003, .box 24 (.val T_))]⟩)]),
    (11, .cut [8] [(.normal, ⟨[(67, .val .bool)], []⟩)]),
    (12, .cut [8] [(.normal, ⟨[], []⟩), (.ret, ⟨[(6, .val .bool)], []⟩)]),
    (9, .cut [8] [(.normal, ⟨[], []⟩), (.ret, ⟨[(6, .val .bool)], []⟩)]),
    (1000019, .reg [(8, [8], ⟨[(108, .val .bool)], []⟩)])] N 400 (bodyOf Try.f3) ⟨115, slots 0 (argsOf as_law12_MsgAll bs_law12_MsgAll x), tabU (lbOf as_law12_MsgAll bs_law12_MsgAll x) [], []⟩).elim (kRet 115 pout_law12_MsgAll (kpL []) (lbOf as_law12_MsgAll bs_law12_MsgAll x))
def out_law12_MsgAll (y : Bool) : V × List OK × List OK := (valW .bool y, [], [])
noncomputable def V_law12_MsgAll (w_law12_Light : M_ → Option (Bool)) (w_Made : List Int → Option ((List Int) × Int)) (w_Picks_Msg : Int × (List Int) × Int → Option (((List Int) × Int) × M_)) (w_msg_May : M_ → Option (Bool)) (w_ref10_MayMsg : M_ → Option (Bool)) (w_msg_Put : M_ → Option (List Int)) (w_ref10_PutMsg : M_ → Option (List Int)) (w_msg_Same : (M_) × M_ → Option (Bool)) (w_ref10_SameMsg : (M_) × M_ → Option (Bool)) (w_msg_Take : List Int → Option (Bool × M_)) (w_ref10_TakeMsg : List Int → Option (Bool × M_)) (N : Nat) (x : (M_) × (List Int) × List Int) : Option (Bool) :=
  obind (obind (w_law12_Light (x.1.1, x.1.2.1, x.1.2.2.1, x.1.2.2.2.1, x.1.2.2.2.2.1, x.1.2.2.2.2.2.1, x.1.2.2.2.2.2.2.1, x.1.2.2.2.2.2.2.2.1,
    x.1.2.2.2.2.2.2.2.2.1, x.1.2.2.2.2.2.2.2.2.2)) fun b => cnd (!b) (some (true, x.1.1, x.1.2.1, x.1.2.2.1, x.1.2.2.2.1, x.1.2.2.2.2.1,
    x.1.2.2.2.2.2.1, x.1.2.2.2.2.2.2.1, x.1.2.2.2.2.2.2.2.1, x.1.2.2.2.2.2.2.2.2.1, x.1.2.2.2.2.2.2.2.2.2)) (some (decide ((30:Int) < (↑(List.length
    x.2.1) : Int)), x.1.1, x.1.2.1, x.1.2.2.1, x.1.2.2.2.1, x.1.2.2.2.2.1, x.1.2.2.2.2.2.1, x.1.2.2.2.2.2.2.1, x.1.2.2.2.2.2.2.2.1,
    x.1.2.2.2.2.2.2.2.2.1, x.1.2.2.2.2.2.2.2.2.2))) fun (b : Bool × Int × Int × Int × Int × Int × Int × List Int × Int × Int × List UInt8) => cnd b.1
    (some true) (cnd (decide ((60:Int) < (↑(List.length x.2.2) : Int))) (some true) (obind (w_Made x.2.1) fun b_1 => obind (w_Picks_Msg ((2:Int),
    b_1.1, b_1.2)) fun b_2 => obind (w_Picks_Msg ((3:Int), b_2.1.1, b_2.1.2)) fun b_3 => obind (obind (obind (obind (w_msg_May (b.2.1, b.2.2.1,
    b.2.2.2.1, b.2.2.2.2.1, b.2.2.2.2.2.1, b.2.2.2.2.2.2.1, b.2.2.2.2.2.2.2.1, b.2.2.2.2.2.2.2.2.1, b.2.2.2.2.2.2.2.2.2.1, b.2.2.2.2.2.2.2.2.2.2)) fun
    b_4 => obind (w_ref10_MayMsg (b.2.1, b.2.2.1, b.2.2.2.1, b.2.2.2.2.1, b.2.2.2.2.2.1, b.2.2.2.2.2.2.1, b.2.2.2.2.2.2.2.1, b.2.2.2.2.2.2.2.2.1,
    b.2.2.2.2.2.2.2.2.2.1, b.2.2.2.2.2.2.2.2.2.2)) fun b_5 => cnd (!b_4 == b_5) (some true) (obind (w_msg_Put (b.2.1, b.2.2.1, b.2.2.2.1, b.2.2.2.2.1,
    b.2.2.2.2.2.1, b.2.2.2.2.2.2.1, b.2.2.2.2.2.2.2.1, b.2.2.2.2.2.2.2.2.1, b.2.2.2.2.2.2.2.2.2.1, b.2.2.2.2.2.2.2.2.2.2)) fun b_6 => cnd (List.all b_6
    fun (n : Int) => decide ((0:Int) ≤ n) && decide (n < (256:Int))) (obind (w_ref10_PutMsg (b.2.1, b.2.2.1, b.2.2.2.1, b.2.2.2.2.1, b.2.2.2.2.2.1,
    b.2.2.2.2.2.2.1, b.2.2.2.2.2.2.2.1, b.2.2.2.2.2.2.2.2.1, b.2.2.2.2.2.2.2.2.2.1, b.2.2.2.2.2.2.2.2.2.2)) fun b => cnd (List.all b fun (n : Int) =>
    decide ((0:Int) ≤ n) && decide (n < (256:Int))) (some !bytesI b_6 == bytesI b) none) none)) fun (b : Bool) => cnd b (some (Sum.inr false)) (some
    (Sum.inl ()))) fun (b_4 : PUnit ⊕ Bool) => selim (fun (b_5 : PUnit) => obind (w_msg_Same ((b.2.1, b.2.2.1, b.2.2.2.1, b.2.2.2.2.1, b.2.2.2.2.2.1,
    b.2.2.2.2.2.2.1, b.2.2.2.2.2.2.2.1, b.2.2.2.2.2.2.2.2.1, b.2.2.2.2.2.2.2.2.2.1, b.2.2.2.2.2.2.2.2.2.2), b.2.1, b.2.2.1, b.2.2.2.1, b.2.2.2.2.1,
    b.2.2.2.2.2.1, b.2.2.2.2.2.2.1, b.2.2.2.2.2.2.2.1, b.2.2.2.2.2.2.2.2.1, b.2.2.2.2.2.2.2.2.2.1, b.2.2.2.2.2.2.2.2.2.2)) fun b_6 => obind
    (w_ref10_SameMsg ((b.2.1, b.2.2.1, b.2.2.2.1, b.2.2.2.2.1, b.2.2.2.2.2.1, b.2.2.2.2.2.2.1, b.2.2.2.2.2.2.2.1, b.2.2.2.2.2.2.2.2.1,
    b.2.2.2.2.2.2.2.2.2.1, b.2.2.2.2.2.2.2.2.2.2), b.2.1, b.2.2.1, b.2.2.2.1, b.2.2.2.2.1, b.2.2.2.2.2.1, b.2.2.2.2.2.2.1, b.2.2.2.2.2.2.2.1,
    b.2.2.2.2.2.2.2.2.1, b.2.2.2.2.2.2.2.2.2.1, b.2.2.2.2.2.2.2.2.2.2)) fun b_7 => cnd (!b_6 == b_7) (some (Sum.inr false)) (obind (w_msg_Same
    ((b.2.1, b.2.2.1, b.2.2.2.1, b.2.2.2.2.1, b.2.2.2.2.2.1, b.2.2.2.2.2.2.1, b.2.2.2.2.2.2.2.1, b.2.2.2.2.2.2.2.2.1, b.2.2.2.2.2.2.2.2.2.1,
    b.2.2.2.2.2.2.2.2.2.2), b_2.2.1, b_2.2.2.1, b_2.2.2.2.1, b_2.2.2.2.2.1, b_2.2.2.2.2.2.1, b_2.2.2.2.2.2.2.1, b_2.2.2.2.2.2.2.2.1,
    b_2.2.2.2.2.2.2.2.2.1, b_2.2.2.2.2.2.2.2.2.2.1, b_2.2.2.2.2.2.2.2.2.2.2)) fun b_8 => obind (w_ref10_SameMsg ((b.2.1, b.2.2.1, b.2.2.2.1,
    b.2.2.2.2.1, b.2.2.2.2.2.1, b.2.2.2.2.2.2.1, b.2.2.2.2.2.2.2.1, b.2.2.2.2.2.2.2.2.1, b.2.2.2.2.2.2.2.2.2.1, b.2.2.2.2.2.2.2.2.2.2), b_2.2.1,
    b_2.2.2.1, b_2.2.2.2.1, b_2.2.2.2.2.1, b_2.2.2.2.2.2.1, b_2.2.2.2.2.2.2.1, b_2.2.2.2.2.2.2.2.1, b_2.2.2.2.2.2.2.2.2.1, b_2.2.2.2.2.2.2.2.2.2.1,
    b_2.2.2.2.2.2.2.2.2.2.2)) fun b_9 => cnd (!b_8 == b_9) (some (Sum.inr false)) (obind (w_msg_Same ((b.2.1, b.2.2.1, b.2.2.2.1, b.2.2.2.2.1,
    b.2.2.2.2.2.1, b.2.2.2.2.2.2.1, b.2.2.2.2.2.2.2.1, b.2.2.2.2.2.2.2.2.1, b.2.2.2.2.2.2.2.2.2.1, b.2.2.2.2.2.2.2.2.2.2), b_3.2.1, b_3.2.2.1,
    b_3.2.2.2.1, b_3.2.2.2.2.1, b_3.2.2.2.2.2.1, b_3.2.2.2.2.2.2.1, b_3.2.2.2.2.2.2.2.1, b_3.2.2.2.2.2.2.2.2.1, b_3.2.2.2.2.2.2.2.2.2.1,
    b_3.2.2.2.2.2.2.2.2.2.2)) fun b_10 => obind (w_ref10_SameMsg ((b.2.1, b.2.2.1, b.2.2.2.1, b.2.2.2.2.1, b.2.2.2.2.2.1, b.2.2.2.2.2.2.1,
    b.2.2.2.2.2.2.2.1, b.2.2.2.2.2.2.2.2.1, b.2.2.2.2.2.2.2.2.2.1, b.2.2.2.2.2.2.2.2.2.2), b_3.2.1, b_3.2.2.1, b_3.2.2.2.1, b_3.2.2.2.2.1,
    b_3.2.2.2.2.2.1, b_3.2.2.2.2.2.2.1, b_3.2.2.2.2.2.2.2.1, b_3.2.2.2.2.2.2.2.2.1, b_3.2.2.2.2.2.2.2.2.2.1, b_3.2.2.2.2.2.2.2.2.2.2)) fun b => cnd
    (!b_10 == b) (some (Sum.inr false)) (some (Sum.inl ()))))) (fun (c : Bool) => some (Sum.inr c)) b_4) fun (b_4 : PUnit ⊕ Bool) => selim (fun (b_5 :
    PUnit) => obind (obind (obind (obind (w_msg_May (b_2.2.1, b_2.2.2.1, b_2.2.2.2.1, b_2.2.2.2.2.1, b_2.2.2.2.2.2.1, b_2.2.2.2.2.2.2.1,
    b_2.2.2.2.2.2.2.2.1, b_2.2.2.2.2.2.2.2.2.1, b_2.2.2.2.2.2.2.2.2.2.1, b_2.2.2.2.2.2.2.2.2.2.2)) fun b => obind (w_ref10_MayMsg (b_2.2.1, b_2.2.2.1,
    b_2.2.2.2.1, b_2.2.2.2.2.1, b_2.2.2.2.2.2.1, b_2.2.2.2.2.2.2.1, b_2.2.2.2.2.2.2.2.1, b_2.2.2.2.2.2.2.2.2.1, b_2.2.2.2.2.2.2.2.2.2.1,
    b_2.2.2.2.2.2.2.2.2.2.2)) fun b_6 => cnd (!b == b_6) (some true) (obind (w_msg_Put (b_2.2.1, b_2.2.2.1, b_2.2.2.2.1, b_2.2.2.2.2.1,
    b_2.2.2.2.2.2.1, b_2.2.2.2.2.2.2.1, b_2.2.2.2.2.2.2.2.1, b_2.2.2.2.2.2.2.2.2.1, b_2.2.2.2.2.2.2.2.2.2.1, b_2.2.2.2.2.2.2.2.2.2.2)) fun b => cnd
    (List.all b fun (n : Int) => decide ((0:Int) ≤ n) && decide (n < (256:Int))) (obind (w_ref10_PutMsg (b_2.2.1, b_2.2.2.1, b_2.2.2.2.1,
    b_2.2.2.2.2.1, b_2.2.2.2.2.2.1, b_2.2.2.2.2.2.2.1, b_2.2.2.2.2.2.2.2.1, b_2.2.2.2.2.2.2.2.2.1, b_2.2.2.2.2.2.2.2.2.2.1, b_2.2.2.2.2.2.2.2.2.2.2))
    fun b_7 => cnd (List.all b_7 fun (n : Int) => decide ((0:Int) ≤ n) && decide (n < (256:Int))) (some !bytesI b == bytesI b_7) none) none)) fun (b :
    Bool) => cnd b (some (Sum.inr false)) (some (Sum.inl ()))) fun (b_6 : PUnit ⊕ Bool) => selim (fun (b_7 : PUnit) => obind (w_msg_Same ((b_2.2.1,
    b_2.2.2.1, b_2.2.2.2.1, b_2.2.2.2.2.1, b_2.2.2.2.2.2.1, b_2.2.2.2.2.2.2.1, b_2.2.2.2.2.2.2.2.1, b_2.2.2.2.2.2.2.2.2.1, b_2.2.2.2.2.2.2.2.2.2.1,
    b_2.2.2.2.2.2.2.2.2.2.2), b.2.1, b.2.2.1, b.2.2.2.1, b.2.2.2.2.1, b.2.2.2.2.2.1, b.2.2.2.2.2.2.1, b.2.2.2.2.2.2.2.1, b.2.2.2.2.2.2.2.2.1,
    b.2.2.2.2.2.2.2.2.2.1, b.2.2.2.2.2.2.2.2.2.2)) fun b_8 => obind (w_ref10_SameMsg ((b_2.2.1, b_2.2.2.1, b_2.2.2.2.1, b_2.2.2.2.2.1,
    b_2.2.2.2.2.2.1, b_2.2.2.2.2.2.2.1, b_2.2.2.2.2.2.2.2.1, b_2.2.2.2.2.2.2.2.2.1, b_2.2.2.2.2.2.2.2.2.2.1, b_2.2.2.2.2.2.2.2.2.2.2), b.2.1, b.2.2.1,
    b.2.2.2.1, b.2.2.2.2.1, b.2.2.2.2.2.1, b.2.2.2.2.2.2.1, b.2.2.2.2.2.2.2.1, b.2.2.2.2.2.2.2.2.1, b.2.2.2.2.2.2.2.2.2.1, b.2.2.2.2.2.2.2.2.2.2)) fun b
    => cnd (!b_8 == b) (some (Sum.inr false)) (obind (w_msg_Same ((b_2.2.1, b_2.2.2.1, b_2.2.2.2.1, b_2.2.2.2.2.1, b_2.2.2.2.2.2.1, b_2.2.2.2.2.2.2.1,
    b_2.2.2.2.2.2.2.2.1, b_2.2.2.2.2.2.2.2.2.1, b_2.2.2.2.2.2.2.2.2.2.1, b_2.2.2.2.2.2.2.2.2.2.2), b_2.2.1, b_2.2.2.1, b_2.2.2.2.1, b_2.2.2.2.2.1,
    b_2.2.2.2.2.2.1, b_2.2.2.2.2.2.2.1, b_2.2.2.2.2.2.2.2.1, b_2.2.2.2.2.2.2.2.2.1, b_2.2.2.2.2.2.2.2.2.2.1, b_2.2.2.2.2.2.2.2.2.2.2)) fun b => obind
    (w_ref10_SameMsg ((b_2.2.1, b_2.2.2.1, b_2.2.2.2.1, b_2.2.2.2.2.1, b_2.2.2.2.2.2.1, b_2.2.2.2.2.2.2.1, b_2.2.2.2.2.2.2.2.1, b_2.2.2.2.2.2.2.2.2.1,
    b_2.2.2.2.2.2.2.2.2.2.1, b_2.2.2.2.2.2.2.2.2.2.2), b_2.2.1, b_2.2.2.1, b_2.2.2.2.1, b_2.2.2.2.2.1, b_2.2.2.2.2.2.1, b_2.2.2.2.2.2.2.1,
    b_2.2.2.2.2.2.2.2.1, b_2.2.2.2.2.2.2.2.2.1, b_2.2.2.2.2.2.2.2.2.2.1, b_2.2.2.2.2.2.2.2.2.2.2)) fun b_9 => cnd (!b == b_9) (some (Sum.inr false))
    (obind (w_msg_Same ((b_2.2.1, b_2.2.2.1, b_2.2.2.2.1, b_2.2.2.2.2.1, b_2.2.2.2.2.2.1, b_2.2.2.2.2.2.2.1, b_2.2.2.2.2.2.2.2.1,
    b_2.2.2.2.2.2.2.2.2.1, b_2.2.2.2.2.2.2.2.2.2.1, b_2.2.2.2.2.2.2.2.2.2.2), b_3.2.1, b_3.2.2.1, b_3.2.2.2.1, b_3.2.2.2.2.1, b_3.2.2.2.2.2.1,
    b_3.2.2.2.2.2.2.1, b_3.2.2.2.2.2.2.2.1, b_3.2.2.2.2.2.2.2.2.1, b_3.2.2.2.2.2.2.2.2.2.1, b_3.2.2.2.2.2.2.2.2.2.2)) fun b => obind (w_ref10_SameMsg
    ((b_2.2.1, b_2.2.2.1, b_2.2.2.2.1, b_2.2.2.2.2.1, b_2.2.2.2.2.2.1, b_2.2.2.2.2.2.2.1, b_2.2.2.2.2.2.2.2.1, b_2.2.2.2.2.2.2.2.2.1,
    b_2.2.2.2.2.2.2.2.2.2.1, b_2.2.2.2.2.2.2.2.2.2.2), b_3.2.1, b_3.2.2.1, b_3.2.2.2.1, b_3.2.2.2.2.1, b_3.2.2.2.2.2.1, b_3.2.2.2.2.2.2.1,
    b_3.2.2.2.2.2.2.2.1, b_3.2.2.2.2.2.2.2.2.1, b_3.2.2.2.2.2.2.2.2.2.1, b_3.2.2.2.2.2.2.2.2.2.2)) fun b_10 => cnd (!b == b_10) (some (Sum.inr false))
    (some (Sum.inl ()))))) (fun (c : Bool) => some (Sum.inr c)) b_6) fun (b_6 : PUnit ⊕ Bool) => selim (fun (b_7 : PUnit) => obind (obind (obind (obind
    (w_msg_May (b_3.2.1, b_3.2.2.1, b_3.2.2.2.1, b_3.2.2.2.2.1, b_3.2.2.2.2.2.1, b_3.2.2.2.2.2.2.1, b_3.2.2.2.2.2.2.2.1, b_3.2.2.2.2.2.2.2.2.1,
    b_3.2.2.2.2.2.2.2.2.2.1, b_3.2.2.2.2.2.2.2.2.2.2)) fun b => obind (w_ref10_MayMsg (b_3.2.1, b_3.2.2.1, b_3.2.2.2.1, b_3.2.2.2.2.1,
    b_3.2.2.2.2.2.1, b_3.2.2.2.2.2.2.1, b_3.2.2.2.2.2.2.2.1, b_3.2.2.2.2.2.2.2.2.1, b_3.2.2.2.2.2.2.2.2.2.1, b_3.2.2.2.2.2.2.2.2.2.2)) fun b_8 => cnd
    (!b == b_8) (some true) (obind (w_msg_Put (b_3.2.1, b_3.2.2.1, b_3.2.2.2.1, b_3.2.2.2.2.1, b_3.2.2.2.2.2.1, b_3.2.2.2.2.2.2.1,
    b_3.2.2.2.2.2.2.2.1, b_3.2.2.2.2.2.2.2.2.1, b_3.2.2.2.2.2.2.2.2.2.1, b_3.2.2.2.2.2.2.2.2.2.2)) fun b => cnd (List.all b fun (n : Int) => decide
    ((0:Int) ≤ n) && decide (n < (256:Int))) (obind (w_ref10_PutMsg (b_3.2.1, b_3.2.2.1, b_3.2.2.2.1, b_3.2.2.2.2.1, b_3.2.2.2.2.2.1,
    b_3.2.2.2.2.2.2.1, b_3.2.2.2.2.2.2.2.1, b_3.2.2.2.2.2.2.2.2.1, b_3.2.2.2.2.2.2.2.2.2.1, b_3.2.2.2.2.2.2.2.2.2.2)) fun b_9 => cnd (List.all b_9 fun
    (n : Int) => decide ((0:Int) ≤ n) && decide (n < (256:Int))) (some !bytesI b == bytesI b_9) none) none)) fun (b : Bool) => cnd b (some (Sum.inr
    false)) (some (Sum.inl ()))) fun (b_8 : PUnit ⊕ Bool) => selim (fun (b_9 : PUnit) => obind (w_msg_Same ((b_3.2.1, b_3.2.2.1, b_3.2.2.2.1,
    b_3.2.2.2.2.1, b_3.2.2.2.2.2.1, b_3.2.2.2.2.2.2.1, b_3.2.2.2.2.2.2.2.1, b_3.2.2.2.2.2.2.2.2.1, b_3.2.2.2.2.2.2.2.2.2.1, b_3.2.2.2.2.2.2.2.2.2.2),
    b.2.1, b.2.2.1, b.2.2.2.1, b.2.2.2.2.1, b.2.2.2.2.2.1, b.2.2.2.2.2.2.1, b.2.2.2.2.2.2.2.1, b.2.2.2.2.2.2.2.2.1, b.2.2.2.2.2.2.2.2.2.1,
    b.2.2.2.2.2.2.2.2.2.2)) fun b_10 => obind (w_ref10_SameMsg ((b_3.2.1, b_3.2.2.1, b_3.2.2.2.1, b_3.2.2.2.2.1, b_3.2.2.2.2.2.1, b_3.2.2.2.2.2.2.1,
    b_3.2.2.2.2.2.2.2.1, b_3.2.2.2.2.2.2.2.2.1, b_3.2.2.2.2.2.2.2.2.2.1, b_3.2.2.2.2.2.2.2.2.2.2), b.2.1, b.2.2.1, b.2.2.2.1, b.2.2.2.2.1,
    b.2.2.2.2.2.1, b.2.2.2.2.2.2.1, b.2.2.2.2.2.2.2.1, b.2.2.2.2.2.2.2.2.1, b.2.2.2.2.2.2.2.2.2.1, b.2.2.2.2.2.2.2.2.2.2)) fun b => cnd (!b_10 == b)
    (some (Sum.inr false)) (obind (w_msg_Same ((b_3.2.1, b_3.2.2.1, b_3.2.2.2.1, b_3.2.2.2.2.1, b_3.2.2.2.2.2.1, b_3.2.2.2.2.2.2.1,
    b_3.2.2.2.2.2.2.2.1, b_3.2.2.2.2.2.2.2.2.1, b_3.2.2.2.2.2.2.2.2.2.1, b_3.2.2.2.2.2.2.2.2.2.2), b_2.2.1, b_2.2.2.1, b_2.2.2.2.1, b_2.2.2.2.2.1,
    b_2.2.2.2.2.2.1, b_2.2.2.2.2.2.2.1, b_2.2.2.2.2.2.2.2.1, b_2.2.2.2.2.2.2.2.2.1, b_2.2.2.2.2.2.2.2.2.2.1, b_2.2.2.2.2.2.2.2.2.2.2)) fun b => obind
    (w_ref10_SameMsg ((b_3.2.1, b_3.2.2.1, b_3.2.2.2.1, b_3.2.2.2.2.1, b_3.2.2.2.2.2.1, b_3.2.2.2.2.2.2.1, b_3.2.2.2.2.2.2.2.1, b_3.2.2.2.2.2.2.2.2.1,
    b_3.2.2.2.2.2.2.2.2.2.1, b_3.2.2.2.2.2.2.2.2.2.2), b_2.2.1, b_2.2.2.1, b_2.2.2.2.1, b_2.2.2.2.2.1, b_2.2.2.2.2.2.1, b_2.2.2.2.2.2.2.1,
    b_2.2.2.2.2.2.2.2.1, b_2.2.2.2.2.2.2.2.2.1, b_2.2.2.2.2.2.2.2.2.2.1, b_2.2.2.2.2.2.2.2.2.2.2)) fun b_11 => cnd (!b == b_11) (some (Sum.inr false))
    (obind (w_msg_Same ((b_3.2.1, b_3.2.2.1, b_3.2.2.2.1, b_3.2.2.2.2.1, b_3.2.2.2.2.2.1, b_3.2.2.2.2.2.2.1, b_3.2.2.2.2.2.2.2.1,
    b_3.2.2.2.2.2.2.2.2.1, b_3.2.2.2.2.2.2.2.2.2.1, b_3.2.2.2.2.2.2.2.2.2.2), b_3.2.1, b_3.2.2.1, b_3.2.2.2.1, b_3.2.2.2.2.1, b_3.2.2.2.2.2.1,
    b_3.2.2.2.2.2.2.1, b_3.2.2.2.2.2.2.2.1, b_3.2.2.2.2.2.2.2.2.1, b_3.2.2.2.2.2.2.2.2.2.1, b_3.2.2.2.2.2.2.2.2.2.2)) fun b => obind (w_ref10_SameMsg
    ((b_3.2.1, b_3.2.2.1, b_3.2.2.2.1, b_3.2.2.2.2.1, b_3.2.2.2.2.2.1, b_3.2.2.2.2.2.2.1, b_3.2.2.2.2.2.2.2.1, b_3.2.2.2.2.2.2.2.2.1,
    b_3.2.2.2.2.2.2.2.2.2.1, b_3.2.2.2.2.2.2.2.2.2.2), b_3.2.1, b_3.2.2.1, b_3.2.2.2.1, b_3.2.2.2.2.1, b_3.2.2.2.2.2.1, b_3.2.2.2.2.2.2.1,
    b_3.2.2.2.2.2.2.2.1, b_3.2.2.2.2.2.2.2.2.1, b_3.2.2.2.2.2.2.2.2.2.1, b_3.2.2.2.2.2.2.2.2.2.2)) fun b_12 => cnd (!b == b_12) (some (Sum.inr false))
    (some (Sum.inl ()))))) (fun (c : Bool) => some (Sum.inr c)) b_8) fun (b : PUnit ⊕ Bool) => selim (fun (b : PUnit) => obind (w_msg_Take x.2.2) fun
    b => obind (w_ref10_TakeMsg x.2.2) fun b_8 => obind (cnd (b.1 == b_8.1) (obind (w_ref10_SameMsg ((b.2.1, b.2.2.1, b.2.2.2.1, b.2.2.2.2.1,
    b.2.2.2.2.2.1, b.2.2.2.2.2.2.1, b.2.2.2.2.2.2.2.1, b.2.2.2.2.2.2.2.2.1, b.2.2.2.2.2.2.2.2.2.1, b.2.2.2.2.2.2.2.2.2.2), b_8.2.1, b_8.2.2.1,
    b_8.2.2.2.1, b_8.2.2.2.2.1, b_8.2.2.2.2.2.1, b_8.2.2.2.2.2.2.1, b_8.2.2.2.2.2.2.2.1, b_8.2.2.2.2.2.2.2.2.1, b_8.2.2.2.2.2.2.2.2.2.1,
    b_8.2.2.2.2.2.2.2.2.2.2)) fun b => some b) (some false)) fun (b : Bool) => cnd b (obind (w_msg_May (b_2.2.1, b_2.2.2.1, b_2.2.2.2.1,
    b_2.2.2.2.2.1, b_2.2.2.2.2.2.1, b_2.2.2.2.2.2.2.1, b_2.2.2.2.2.2.2.2.1, b_2.2.2.2.2.2.2.2.2.1, b_2.2.2.2.2.2.2.2.2.2.1, b_2.2.2.2.2.2.2.2.2.2.2))
    fun b => some b) (some false)) (fun (c : Bool) => some c) b) (fun (c : Bool) => some c) b_6) (fun (c : Bool) => some c) b_4))
theorem FV_law12_MsgAll_eq (w_law12_Light : M_ → Option (Bool)) (w_Made : List Int → Option ((List Int) × Int)) (w_Picks_Msg : Int × (List Int) × Int → Option (((List Int) × Int) × M_)) (w_msg_May : M_ → Option (Bool)) (w_ref10_MayMsg : M_ → Option (Bool)) (w_msg_Put : M_ → Option (List Int)) (w_ref10_PutMsg : M_ → Option (List Int)) (w_msg_Same : (M_) × M_ → Option (Bool)) (w_ref10_SameMsg : (M_) × M_ → Option (Bool)) (w_msg_Take : List Int → Option (Bool × M_)) (w_ref10_TakeMsg : List Int → Option (Bool × M_)) (N : Nat) (x : (M_) × (List Int) × List Int) : F_law12_MsgAll w_law12_Light w_Made w_Picks_Msg w_msg_May w_ref10_MayMsg w_msg_Put w_ref10_PutMsg w_msg_Same w_ref10_SameMsg w_msg_Take w_ref10_TakeMsg N x = V_law12_MsgAll w_law12_Light w_Made w_Picks_Msg w_msg_May w_ref10_MayMsg w_msg_Put w_ref10_PutMsg w_msg_Same w_ref10_SameMsg w_msg_Take w_ref10_TakeMsg N x := by kernel_rfl
noncomputable def W_law12_MsgAll (N : Nat) (x : (M_) × (List Int) × List Int) : Option (Bool) := V_law12_MsgAll (W_law12_Light N) (W_Made N) (W_Picks_Msg N) (W_msg_May N) (W_ref10_MayMsg N) (W_msg_Put N) (W_ref10_PutMsg N) (W_msg_Same N) (W_ref10_SameMsg N) (W_msg_Take N) (W_ref10_TakeMsg N) N x
theorem F_law12_MsgAll_eq (N : Nat) (x : (M_) × (List Int) × List Int) : F_law12_MsgAll (W_law12_Light N) (W_Made N) (W_Picks_Msg N) (W_msg_May N) (W_ref10_MayMsg N) (W_msg_Put N) (W_ref10_PutMsg N) (W_msg_Same N) (W_ref10_SameMsg N) (W_msg_Take N) (W_ref10_TakeMsg N) N x = W_law12_MsgAll N x := (FV_law12_MsgAll_eq (W_law12_Light N) (W_Made N) (W_Picks_Msg N) (W_msg_May N) (W_ref10_MayMsg N) (W_msg_Put N) (W_ref10_PutMsg N) (W_msg_Same N) (W_ref10_SameMsg N) (W_msg_Take N) (W_ref10_TakeMsg N) N x).trans (by kernel_rfl)
noncomputable def conw_law12_MsgAll (w : (M_) × (List Int) × List Int → Option (Bool)) : Con := ⟨3, as_law12_MsgAll, bs_law12_MsgAll, Bool, w, out_law12_MsgAll⟩
noncomputable def con_law12_MsgAll (N : Nat) : Con := conw_law12_MsgAll (W_law12_MsgAll N)
theorem R_law12_MsgAll_eq (x : (M_) × (List Int) × List Int) (y : Bool) : retOf2 P0 Try.f3 (kpL []) (lbOf as_law12_MsgAll bs_law12_MsgAll x) (patS ⟨115, [], [], []⟩ pout_law12_MsgAll y) = some (out_law12_MsgAll y) := by kernel_rfl
theorem con_law12_MsgAll_ok (N : Nat) : Con.ok P0 (con_law12_MsgAll N) := ⟨⟨Try.f3, Try.func3, by kernel_rfl, by kernel_rfl⟩, fun (x : (M_) × (List Int) × List Int) (r : Bool) (hr : W_law12_MsgAll N x = some r) =>
  spec2_evT (Γ := G_law12_MsgAll (W_law12_Light N) (W_Made N) (W_Picks_Msg N) (W_msg_May N) (W_ref10_MayMsg N) (W_msg_Put N) (W_ref10_PutMsg N) (W_msg_Same N) (W_ref10_SameMsg N) (W_msg_Take N) (W_ref10_TakeMsg N) N) (Λ := L0) (pout := pout_law12_MsgAll) (kp := kpL []) mixed (orcOf_ok _ (by simp only [List.mem_cons, List.not_mem_nil, or_false, forall_eq_or_imp, forall_eq]; exact ⟨con_law12_begun_ok N, con_law12_Light_ok N, con_Made_ok N, con_Picks_Msg_ok N, con_msg_May_ok N, con_ref10_MayMsg_ok N, con_msg_Put_ok N, con_ref10_PutMsg_ok N, con_msg_Same_ok N, con_ref10_SameMsg_ok N, con_msg_Take_ok N, con_ref10_TakeMsg_ok N⟩)) Try.func3 (c := bodyOf Try.f3) (by kernel_rfl) (by kernel_rfl) (of_decide_eq_true (by kernel_rfl)) ((F_law12_MsgAll_eq N x).trans hr) (R_law12_MsgAll_eq x r)⟩
end Go.Proofs.Ytfgceflanjeejaa.msgAllX
