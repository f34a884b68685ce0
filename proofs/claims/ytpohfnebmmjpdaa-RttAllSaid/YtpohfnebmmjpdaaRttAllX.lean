/- RttAll: for all arguments the call returns true. The law is brought to a function of Lean's own (W_..) by the machine of the texts beside it, and that is reckoned; no condition. -/
import Derived.Test.YtpohfnebmmjpdaaExtLn
import Derived.Test.YtpohfnebmmjpdaaExtLw
import Derived.Test.YtpohfnebmmjpdaaExtCm
import Derived.Test.YtpohfnebmmjpdaaRows
import Derived.WalkKit
import Derived.ProofKit
import Derived.OpenShut
import Derived.ShutString
import Derived.ChangeOld
import Derived.Below
import Derived.Laws.Slices
import Derived.OwnWalk
import Derived.BigCall
import Derived.BigRegion
namespace Go.Proofs.Ytpohfnebmmjpdaa.rttAllX
open Go.Abs Go.RowKit Go.ChangeShapes Go.WideShapes Go.ChangeAt
set_option maxRecDepth 100000
set_option linter.unusedVariables false
set_option linter.unusedSimpArgs false
noncomputable abbrev P0 : Program := Try.prog
noncomputable def bodyOf (fn : Func) : Code := fn.body.getD .skip
def L0 : Lend := fun f => aget [] [(57, [0]), (82, [0]), (87, [0]), (91, [0]), (92, [0]), (93, [0]), (95, [0]), (96, [0]), (98, [0]), (99, [0]), (106, [0])] f
def kpL (l : List Bool) : Nat → Bool := fun j => l.getD j true
theorem own : ownKnob Try.prog.godebug = none := by kernel_rfl
theorem laidOut : laidOutB Try.prog = true := by kernel_rfl
theorem mixed : P0.follows .mixedOrders = true := by decide +kernel
theorem progOk_ : progOk P0 = true := by decide +kernel
noncomputable def u_law5_zeros : Uf := ⟨21, 12, Try.f21, [], [],
⟨[(0, .val (.list (.list (.int .i64))))], []⟩, [],
[(3, .unroll 9)],
[], fun y => (valW (.list (.list (.int .i64))) y, [], [])⟩
noncomputable def V_law5_zeros (N : Nat) (x : Unit) : Option (List (List Int)) :=
  some [List.replicate (8:Nat) (0:Int), List.replicate (8:Nat) (0:Int), List.replicate (8:Nat) (0:Int), List.replicate (8:Nat) (0:Int), List.replicate (8:Nat) (0:Int), List.replicate (8:Nat) (0:Int), List.replicate (8:Nat) (0:Int), List.replicate (8:Nat) (0:Int)]
theorem q_law5_zeros : ∀ N x, u_law5_zeros.F L0 P0 (orcOf []) N x = V_law5_zeros N x := by intros; kernel_rfl
noncomputable def W_law5_zeros (N : Nat) := V_law5_zeros N
theorem con_law5_zeros_ok (N : Nat) : (u_law5_zeros.con (W_law5_zeros N)).ok P0 := Uf.ok mixed (q_law5_zeros N) trivial Try.func21 (by kernel_rfl) fun x y => by kernel_rfl
noncomputable def u_rtt_within : Uf := ⟨23, 6, Try.f23, [.val (.int .i64)], [],
⟨[(2, .val (.int .i64))], []⟩, [],
[],
[], fun y => (valW (.int .i64) y, [], [])⟩
noncomputable def V_rtt_within (N : Nat) (x : Int) : Option (Int) :=
  some (min (max x (0:Int)) (1000:Int))
theorem q_rtt_within : ∀ N x, u_rtt_within.F L0 P0 (orcOf []) N x = V_rtt_within N x := by intros; kernel_rfl
noncomputable def W_rtt_within (N : Nat) := V_rtt_within N
theorem con_rtt_within_ok (N : Nat) : (u_rtt_within.con (W_rtt_within N)).ok P0 := Uf.ok mixed (q_rtt_within N) trivial Try.func23 (by kernel_rfl) fun x y => by kernel_rfl
noncomputable def u_rtt_May : Uf := ⟨9, 62, Try.f9, [.val (.list (.list (.int .i64)))], [],
⟨[(2, .val .bool)], []⟩, [],
[(4, .loop [12] ⟨[(14, .val (.int .i64))], []⟩ [(.exit 0, ⟨[], []⟩), (.ret, ⟨[(2, .val .bool)], []⟩)]),
(13, .loop [22, 29] ⟨[(31, .val (.int .i64))], []⟩ [(.exit 4, ⟨[], []⟩), (.ret, ⟨[(2, .val .bool)], []⟩)]),
(10, .loop [22] ⟨[(24, .val (.int .i64))], []⟩ [(.exit 2, ⟨[], []⟩), (.ret, ⟨[(2, .val .bool)], []⟩)])],
[(1000015, .reg [(15, [22, 29], ⟨[(50, .val .bool)], []⟩)])], fun y => (valW .bool y, [], [])⟩
noncomputable def V_rtt_May (w_rtt_within : Int → Option (Int)) (N : Nat) (x : List (List Int)) : Option (Bool) :=
  cnd (decide ((↑(List.length x) : Int) ≠ (8:Int))) (some false) (obind (loopN N (fun (v : Int) => cnd (decide (v < (↑(List.length x) : Int))) (cnd
    (decide ((0:Int) ≤ v) && decide (v < (↑(List.length x) : Int))) (cnd (decide ((↑(List.length (List.getD x (Int.toNat v) [])) : Int) ≠ (8:Int)))
    (some (Sum.inr (Sum.inr false))) (some (Sum.inl (wr .i64 (v + (1:Int)))))) none) (some (Sum.inr (Sum.inl ())))) (Int.ofNat (0:Nat))) fun (b : PUnit
    ⊕ Bool) => selim (fun (b : PUnit) => obind (loopN N (fun (v : Int) => cnd (decide (v < (↑(List.length x) : Int))) (cnd (decide ((0:Int) ≤ v) &&
    decide (v < (↑(List.length x) : Int))) (obind (loopN N (fun (v_1 : Int) => cnd (decide (v_1 < (↑(List.length (List.getD x (Int.toNat v) [])) :
    Int))) (cnd (decide ((0:Int) ≤ v_1) && decide (v_1 < (↑(List.length (List.getD x (Int.toNat v) [])) : Int))) (obind (obind (w_rtt_within
    (List.getD (List.getD x (Int.toNat v) []) (Int.toNat v_1) (0:Int))) fun b => cnd (decide (List.getD (List.getD x (Int.toNat v) []) (Int.toNat v_1)
    (0:Int) ≠ b)) (some true) (cnd (decide ((0:Int) ≤ v_1) && decide (v_1 < (↑(List.length x) : Int))) (cnd (decide ((0:Int) ≤ v) && decide (v <
    (↑(List.length (List.getD x (Int.toNat v_1) [])) : Int))) (some (decide (List.getD (List.getD x (Int.toNat v) []) (Int.toNat v_1) (0:Int) ≠
    List.getD (List.getD x (Int.toNat v_1) []) (Int.toNat v) (0:Int)))) none) none)) fun (b : Bool) => cnd b (some (Sum.inr (Sum.inr false))) (cnd
    (decide (v = v_1)) (cnd (decide (List.getD (List.getD x (Int.toNat v) []) (Int.toNat v_1) (0:Int) ≠ (0:Int))) (some (Sum.inr (Sum.inr false))) (some
    (Sum.inl (wr .i64 (v_1 + (1:Int)))))) (some (Sum.inl (wr .i64 (v_1 + (1:Int))))))) none) (some (Sum.inr (Sum.inl ())))) (Int.ofNat (0:Nat))) fun (b
    : PUnit ⊕ Bool) => selim (fun (b : PUnit) => some (Sum.inl (wr .i64 (v + (1:Int))))) (fun (c : Bool) => some (Sum.inr (Sum.inr c))) b) none) (some
    (Sum.inr (Sum.inl ())))) (Int.ofNat (0:Nat))) fun (b : PUnit ⊕ Bool) => selim (fun (b : PUnit) => some true) (fun (c : Bool) => some c) b) (fun (c :
    Bool) => some c) b)
theorem q_rtt_May : ∀ w_rtt_within N x, u_rtt_May.F L0 P0 (orcOf [u_rtt_within.con w_rtt_within]) N x = V_rtt_May w_rtt_within N x := by intros; kernel_rfl
noncomputable def W_rtt_May (N : Nat) := V_rtt_May (W_rtt_within N) N
theorem con_rtt_May_ok (N : Nat) : (u_rtt_May.con (W_rtt_May N)).ok P0 := Uf.ok mixed (q_rtt_May (W_rtt_within N) N) ⟨con_rtt_within_ok N, trivial⟩ Try.func9 (by kernel_rfl) fun x y => by kernel_rfl
noncomputable def u_rtt_numbers : Uf := ⟨27, 20, Try.f27, [.val (.int .i64), .val (.int .i64)], [],
⟨[(4, .val .bool)], []⟩, [],
[],
[(1000001, .reg [(9, [], ⟨[(13, .val .bool)], []⟩)])], fun y => (valW .bool y, [], [])⟩
noncomputable def V_rtt_numbers (N : Nat) (x : Int × Int) : Option (Bool) :=
  obind (cnd (decide (x.1 ≠ x.2)) (some (decide ((1:Int) ≤ min x.1 x.2))) (some false)) fun (b : Bool) => cnd b (some (decide (max x.1 x.2 ≤ (8:Int)))) (some false)
theorem q_rtt_numbers : ∀ N x, u_rtt_numbers.F L0 P0 (orcOf []) N x = V_rtt_numbers N x := by intros; kernel_rfl
noncomputable def W_rtt_numbers (N : Nat) := V_rtt_numbers N
theorem con_rtt_numbers_ok (N : Nat) : (u_rtt_numbers.con (W_rtt_numbers N)).ok P0 := Uf.ok mixed (q_rtt_numbers N) trivial Try.func27 (by kernel_rfl) fun x y => by kernel_rfl
noncomputable def u_rtt_before : Uf := ⟨24, 10, Try.f24, [.val (.int .i64)], [],
⟨[(2, .val (.alt 50 (.int .i64) (.alt1 68 (.agg .unit))))], []⟩, [],
[],
[], fun y => (valW (.alt 50 (.int .i64) (.alt1 68 (.agg .unit))) y, [], [])⟩
noncomputable def V_rtt_before (w_rtt_within : Int → Option (Int)) (N : Nat) (x : Int) : Option (Int ⊕ Unit) :=
  cnd (decide (x ≤ (0:Int))) (some (Sum.inr ())) (obind (w_rtt_within x) fun b => some (Sum.inl b))
theorem q_rtt_before : ∀ w_rtt_within N x, u_rtt_before.F L0 P0 (orcOf [u_rtt_within.con w_rtt_within]) N x = V_rtt_before w_rtt_within N x := by intros; kernel_rfl
noncomputable def W_rtt_before (N : Nat) := V_rtt_before (W_rtt_within N) N
theorem con_rtt_before_ok (N : Nat) : (u_rtt_before.con (W_rtt_before N)).ok P0 := Uf.ok mixed (q_rtt_before (W_rtt_within N) N) ⟨con_rtt_within_ok N, trivial⟩ Try.func24 (by kernel_rfl) fun x y => by kernel_rfl
noncomputable def u_rtt_Smooth : Uf := ⟨11, 23, Try.f11, [.val (.int .i64), .val (.int .i64)], [],
⟨[(4, .val (.int .i64))], []⟩, [],
[],
[], fun y => (valW (.int .i64) y, [], [])⟩
noncomputable def V_rtt_Smooth (w_rtt_before : Int → Option (Int ⊕ Unit)) (w_rtt_within : Int → Option (Int)) (N : Nat) (x : Int × Int) : Option (Int) :=
  obind (w_rtt_before x.1) fun b => selim (fun (b : Int) => obind (w_rtt_within x.2) fun b_1 => some (wr .i64 (Int.tdiv (wr .i64 (wr .i64 ((7:Int) * b) + b_1)) (8:Int)))) (fun (c : PUnit) => obind (w_rtt_within x.2) fun b => some b) b
theorem q_rtt_Smooth : ∀ w_rtt_before w_rtt_within N x, u_rtt_Smooth.F L0 P0 (orcOf [u_rtt_before.con w_rtt_before, u_rtt_within.con w_rtt_within]) N x = V_rtt_Smooth w_rtt_before w_rtt_within N x := by intros; kernel_rfl
noncomputable def W_rtt_Smooth (N : Nat) := V_rtt_Smooth (W_rtt_before N) (W_rtt_within N) N
theorem con_rtt_Smooth_ok (N : Nat) : (u_rtt_Smooth.con (W_rtt_Smooth N)).ok P0 := Uf.ok mixed (q_rtt_Smooth (W_rtt_before N) (W_rtt_within N) N) ⟨con_rtt_before_ok N, con_rtt_within_ok N, trivial⟩ Try.func11 (by kernel_rfl) fun x y => by kernel_rfl
def as_rtt_Learn : List AS := [.val (.list (.list (.int .i64))), .val (.int .i64), .val (.int .i64), .val (.int .i64)]
def bs_rtt_Learn : List BS := []
def out_rtt_Learn (y : List (List Int)) : V × List OK × List OK := (.lst ⟨.list (.int .i64), y⟩, [], [])
noncomputable def W_rtt_Learn (N : Nat) (x : (List (List Int)) × Int × Int × Int) : Option (List (List Int)) :=
  learnT (W_rtt_May N) (W_rtt_numbers N) (W_rtt_Smooth N) x.1 x.2.1 x.2.2.1 x.2.2.2
noncomputable def conw_rtt_Learn (w : (List (List Int)) × Int × Int × Int → Option (List (List Int))) : Con := ⟨14, as_rtt_Learn, bs_rtt_Learn, List (List Int), w, out_rtt_Learn⟩
noncomputable def con_rtt_Learn (N : Nat) : Con := conw_rtt_Learn (W_rtt_Learn N)
theorem con_rtt_Learn_ok (N : Nat) : Con.ok P0 (con_rtt_Learn N) := ⟨⟨Try.f14, Try.func14, by kernel_rfl, by kernel_rfl⟩, fun (x : (List (List Int)) × Int × Int × Int) (r : List (List Int)) (hr : W_rtt_Learn N x = some r) => learn_spec (learn_walk (bMay_of fun x r h => (con_rtt_May_ok N).2 x r h) (bNum_of fun x r h => (con_rtt_numbers_ok N).2 x r h) (bSm_of fun x r h => (con_rtt_Smooth_ok N).2 x r h)) hr⟩
noncomputable def u_law5_begun : Uf := ⟨6, 38, Try.f6, [], [],
⟨[(0, .val .bool)], []⟩, [],
[],
[(1000002, .reg [(6, [1], ⟨[(9, .val .bool)], []⟩), (4, [1], ⟨[(13, .val .bool)], []⟩), (4, [1], ⟨[(17, .val .bool)], []⟩), (5, [1], ⟨[(22, .val .bool)], []⟩), (7, [1], ⟨[(29, .val .bool)], []⟩)])], fun y => (valW .bool y, [], [])⟩
noncomputable def V_law5_begun (w_law5_zeros : Unit → Option (List (List Int))) (w_rtt_Learn : (List (List Int)) × Int × Int × Int → Option (List (List Int))) (w_rtt_May : List (List Int) → Option (Bool)) (w_rtt_Smooth : Int × Int → Option (Int)) (N : Nat) (x : Unit) : Option (Bool) :=
  obind (w_law5_zeros ()) fun b => obind (w_rtt_Learn (b, (1:Int), (2:Int), (80:Int))) fun b => obind (obind (w_law5_zeros ()) fun b => obind
    (w_rtt_May b) fun b => cnd b (obind (w_rtt_May []) fun b => some !b) (some false)) fun (b_1 : Bool) => obind (cnd b_1 (obind (w_rtt_Smooth
    ((80:Int), (0:Int))) fun b => some (decide (b = (70:Int)))) (some false)) fun (b_2 : Bool) => obind (cnd b_2 (obind (w_rtt_Smooth ((0:Int),
    (9:Int))) fun b => some (decide (b = (9:Int)))) (some false)) fun (b_3 : Bool) => obind (cnd b_3 (some (decide ((↑(List.length b) : Int) =
    (8:Int)))) (some false)) fun (b_4 : Bool) => obind (cnd b_4 (cnd (decide ((0:Int) ≤ (1:Int)) && decide ((1:Int) < (↑(List.length b) : Int))) (some
    (decide ((↑(List.length (List.getD b (1:Nat) [])) : Int) = (8:Int)))) none) (some false)) fun (b_5 : Bool) => cnd b_5 (cnd (decide ((0:Int) ≤
    (1:Int)) && decide ((1:Int) < (↑(List.length b) : Int))) (cnd (decide ((0:Int) ≤ (0:Int)) && decide ((0:Int) < (↑(List.length (List.getD b (1:Nat)
    [])) : Int))) (some (decide (List.getD (List.getD b (1:Nat) []) (0:Nat) (0:Int) = (80:Int)))) none) none) (some false)
theorem q_law5_begun : ∀ w_law5_zeros w_rtt_Learn w_rtt_May w_rtt_Smooth N x, u_law5_begun.F L0 P0 (orcOf [u_law5_zeros.con w_law5_zeros, conw_rtt_Learn w_rtt_Learn, u_rtt_May.con w_rtt_May, u_rtt_Smooth.con w_rtt_Smooth]) N x = V_law5_begun w_law5_zeros w_rtt_Learn w_rtt_May w_rtt_Smooth N x := by intros; kernel_rfl
noncomputable def W_law5_begun (N : Nat) := V_law5_begun (W_law5_zeros N) (W_rtt_Learn N) (W_rtt_May N) (W_rtt_Smooth N) N
theorem con_law5_begun_ok (N : Nat) : (u_law5_begun.con (W_law5_begun N)).ok P0 := Uf.ok mixed (q_law5_begun (W_law5_zeros N) (W_rtt_Learn N) (W_rtt_May N) (W_rtt_Smooth N) N) ⟨con_law5_zeros_ok N, con_rtt_Learn_ok N, con_rtt_May_ok N, con_rtt_Smooth_ok N, trivial⟩ Try.func6 (by kernel_rfl) fun x y => by kernel_rfl
noncomputable def u_ref1_MayDist : Uf := ⟨10, 83, Try.f10, [.val (.list (.list (.int .i64)))], [],
⟨[(2, .val .bool)], []⟩, [],
[(4, .loop [] ⟨[(3, .val (.int .i64))], []⟩ [(.exit 0, ⟨[], []⟩), (.ret, ⟨[(2, .val .bool)], []⟩)]),
(12, .loop [] ⟨[(5, .val (.int .i64))], []⟩ [(.exit 4, ⟨[], []⟩), (.ret, ⟨[(2, .val .bool)], []⟩)]),
(9, .loop [] ⟨[(4, .val (.int .i64))], []⟩ [(.exit 2, ⟨[], []⟩), (.ret, ⟨[(2, .val .bool)], []⟩)])],
[], fun y => (valW .bool y, [], [])⟩
noncomputable def V_ref1_MayDist (N : Nat) (x : List (List Int)) : Option (Bool) :=
  cnd (decide ((↑(List.length x) : Int) ≠ (8:Int))) (some false) (obind (loopN N (fun (v : Int) => cnd (decide (v < (↑(List.length x) : Int))) (cnd
    (decide ((0:Int) ≤ v) && decide (v < (↑(List.length x) : Int))) (cnd (decide ((↑(List.length (List.getD x (Int.toNat v) [])) : Int) ≠ (8:Int)))
    (some (Sum.inr (Sum.inr false))) (some (Sum.inl (wr .i64 (v + (1:Int)))))) none) (some (Sum.inr (Sum.inl ())))) (Int.ofNat (0:Nat))) fun (b : PUnit
    ⊕ Bool) => selim (fun (b : PUnit) => obind (loopN N (fun (v : Int) => cnd (decide (v < (↑(List.length x) : Int))) (obind (loopN N (fun (v_1 : Int)
    => cnd (decide (v_1 < (↑(List.length x) : Int))) (cnd (decide ((0:Int) ≤ v) && decide (v < (↑(List.length x) : Int))) (cnd (decide ((0:Int) ≤ v_1)
    && decide (v_1 < (↑(List.length (List.getD x (Int.toNat v) [])) : Int))) (cnd (decide (List.getD (List.getD x (Int.toNat v) []) (Int.toNat v_1)
    (0:Int) < (0:Int))) (some (Sum.inr (Sum.inr false))) (cnd (decide ((0:Int) ≤ v) && decide (v < (↑(List.length x) : Int))) (cnd (decide ((0:Int) ≤
    v_1) && decide (v_1 < (↑(List.length (List.getD x (Int.toNat v) [])) : Int))) (cnd (decide ((1000:Int) < List.getD (List.getD x (Int.toNat v) [])
    (Int.toNat v_1) (0:Int))) (some (Sum.inr (Sum.inr false))) (cnd (decide ((0:Int) ≤ v) && decide (v < (↑(List.length x) : Int))) (cnd (decide
    ((0:Int) ≤ v_1) && decide (v_1 < (↑(List.length (List.getD x (Int.toNat v) [])) : Int))) (cnd (decide ((0:Int) ≤ v_1) && decide (v_1 <
    (↑(List.length x) : Int))) (cnd (decide ((0:Int) ≤ v) && decide (v < (↑(List.length (List.getD x (Int.toNat v_1) [])) : Int))) (cnd (decide
    (List.getD (List.getD x (Int.toNat v) []) (Int.toNat v_1) (0:Int) ≠ List.getD (List.getD x (Int.toNat v_1) []) (Int.toNat v) (0:Int))) (some
    (Sum.inr (Sum.inr false))) (cnd (decide (v = v_1)) (cnd (decide ((0:Int) ≤ v) && decide (v < (↑(List.length x) : Int))) (cnd (decide ((0:Int) ≤ v_1)
    && decide (v_1 < (↑(List.length (List.getD x (Int.toNat v) [])) : Int))) (cnd (decide (List.getD (List.getD x (Int.toNat v) []) (Int.toNat v_1)
    (0:Int) ≠ (0:Int))) (some (Sum.inr (Sum.inr false))) (some (Sum.inl (wr .i64 (v_1 + (1:Int)))))) none) none) (some (Sum.inl (wr .i64 (v_1 +
    (1:Int))))))) none) none) none) none)) none) none)) none) none) (some (Sum.inr (Sum.inl ())))) (Int.ofNat (0:Nat))) fun (b : PUnit ⊕ Bool) => selim
    (fun (b : PUnit) => some (Sum.inl (wr .i64 (v + (1:Int))))) (fun (c : Bool) => some (Sum.inr (Sum.inr c))) b) (some (Sum.inr (Sum.inl ()))))
    (Int.ofNat (0:Nat))) fun (b : PUnit ⊕ Bool) => selim (fun (b : PUnit) => some true) (fun (c : Bool) => some c) b) (fun (c : Bool) => some c) b)
theorem q_ref1_MayDist : ∀ N x, u_ref1_MayDist.F L0 P0 (orcOf []) N x = V_ref1_MayDist N x := by intros; kernel_rfl
noncomputable def W_ref1_MayDist (N : Nat) := V_ref1_MayDist N
theorem con_ref1_MayDist_ok (N : Nat) : (u_ref1_MayDist.con (W_ref1_MayDist N)).ok P0 := Uf.ok mixed (q_ref1_MayDist N) trivial Try.func10 (by kernel_rfl) fun x y => by kernel_rfl
noncomputable def u_ref1_end : Uf := ⟨25, 6, Try.f25, [.val (.int .i64)], [],
⟨[(2, .val (.int .i64))], []⟩, [],
[],
[], fun y => (valW (.int .i64) y, [], [])⟩
noncomputable def V_ref1_end (N : Nat) (x : Int) : Option (Int) :=
  some (min (max x (0:Int)) (1000:Int))
theorem q_ref1_end : ∀ N x, u_ref1_end.F L0 P0 (orcOf []) N x = V_ref1_end N x := by intros; kernel_rfl
noncomputable def W_ref1_end (N : Nat) := V_ref1_end N
theorem con_ref1_end_ok (N : Nat) : (u_ref1_end.con (W_ref1_end N)).ok P0 := Uf.ok mixed (q_ref1_end N) trivial Try.func25 (by kernel_rfl) fun x y => by kernel_rfl
noncomputable def u_ref1_Smooth : Uf := ⟨12, 19, Try.f12, [.val (.int .i64), .val (.int .i64)], [],
⟨[(4, .val (.int .i64))], []⟩, [],
[],
[], fun y => (valW (.int .i64) y, [], [])⟩
noncomputable def V_ref1_Smooth (w_ref1_end : Int → Option (Int)) (N : Nat) (x : Int × Int) : Option (Int) :=
  obind (w_ref1_end x.1) fun b => obind (w_ref1_end x.2) fun b_1 => cnd (decide (b = (0:Int))) (some b_1) (some (wr .i64 (Int.tdiv (wr .i64 (wr .i64 ((7:Int) * b) + b_1)) (8:Int))))
theorem q_ref1_Smooth : ∀ w_ref1_end N x, u_ref1_Smooth.F L0 P0 (orcOf [u_ref1_end.con w_ref1_end]) N x = V_ref1_Smooth w_ref1_end N x := by intros; kernel_rfl
noncomputable def W_ref1_Smooth (N : Nat) := V_ref1_Smooth (W_ref1_end N) N
theorem con_ref1_Smooth_ok (N : Nat) : (u_ref1_Smooth.con (W_ref1_Smooth N)).ok P0 := Uf.ok mixed (q_ref1_Smooth (W_ref1_end N) N) ⟨con_ref1_end_ok N, trivial⟩ Try.func12 (by kernel_rfl) fun x y => by kernel_rfl
noncomputable def u_ref1_SameInts : Uf := ⟨26, 26, Try.f26, [.val (.list (.int .i64)), .val (.list (.int .i64))], [],
⟨[(4, .val .bool)], []⟩, [],
[(4, .loop [] ⟨[(5, .val (.int .i64))], []⟩ [(.exit 0, ⟨[], []⟩), (.ret, ⟨[(4, .val .bool)], []⟩)])],
[], fun y => (valW .bool y, [], [])⟩
noncomputable def V_ref1_SameInts (N : Nat) (x : (List Int) × List Int) : Option (Bool) :=
  cnd (decide ((↑(List.length x.1) : Int) ≠ (↑(List.length x.2) : Int))) (some false) (obind (loopN N (fun (v : Int) => cnd (decide (v < (↑(List.length
    x.1) : Int))) (cnd (decide ((0:Int) ≤ v) && decide (v < (↑(List.length x.1) : Int))) (cnd (decide ((0:Int) ≤ v) && decide (v < (↑(List.length x.2) :
    Int))) (cnd (decide (List.getD x.1 (Int.toNat v) (0:Int) ≠ List.getD x.2 (Int.toNat v) (0:Int))) (some (Sum.inr (Sum.inr false))) (some (Sum.inl (wr
    .i64 (v + (1:Int)))))) none) none) (some (Sum.inr (Sum.inl ())))) (Int.ofNat (0:Nat))) fun (b : PUnit ⊕ Bool) => selim (fun (b : PUnit) => some
    true) (fun (c : Bool) => some c) b)
theorem q_ref1_SameInts : ∀ N x, u_ref1_SameInts.F L0 P0 (orcOf []) N x = V_ref1_SameInts N x := by intros; kernel_rfl
noncomputable def W_ref1_SameInts (N : Nat) := V_ref1_SameInts N
theorem con_ref1_SameInts_ok (N : Nat) : (u_ref1_SameInts.con (W_ref1_SameInts N)).ok P0 := Uf.ok mixed (q_ref1_SameInts N) trivial Try.func26 (by kernel_rfl) fun x y => by kernel_rfl
noncomputable def u_ref1_SameDist : Uf := ⟨13, 27, Try.f13, [.val (.list (.list (.int .i64))), .val (.list (.list (.int .i64)))], [],
⟨[(4, .val .bool)], []⟩, [],
[(4, .loop [] ⟨[(5, .val (.int .i64))], []⟩ [(.exit 0, ⟨[], []⟩), (.ret, ⟨[(4, .val .bool)], []⟩)])],
[], fun y => (valW .bool y, [], [])⟩
noncomputable def V_ref1_SameDist (w_ref1_SameInts : (List Int) × List Int → Option (Bool)) (N : Nat) (x : (List (List Int)) × List (List Int)) : Option (Bool) :=
  cnd (decide ((↑(List.length x.1) : Int) ≠ (↑(List.length x.2) : Int))) (some false) (obind (loopN N (fun (v : Int) => cnd (decide (v < (↑(List.length
    x.1) : Int))) (cnd (decide ((0:Int) ≤ v) && decide (v < (↑(List.length x.1) : Int))) (cnd (decide ((0:Int) ≤ v) && decide (v < (↑(List.length x.2) :
    Int))) (obind (w_ref1_SameInts (List.getD x.1 (Int.toNat v) [], List.getD x.2 (Int.toNat v) [])) fun b => cnd (!b) (some (Sum.inr (Sum.inr
    false))) (some (Sum.inl (wr .i64 (v + (1:Int)))))) none) none) (some (Sum.inr (Sum.inl ())))) (Int.ofNat (0:Nat))) fun (b : PUnit ⊕ Bool) => selim
    (fun (b : PUnit) => some true) (fun (c : Bool) => some c) b)
theorem q_ref1_SameDist : ∀ w_ref1_SameInts N x, u_ref1_SameDist.F L0 P0 (orcOf [u_ref1_SameInts.con w_ref1_SameInts]) N x = V_ref1_SameDist w_ref1_SameInts N x := by intros; kernel_rfl
noncomputable def W_ref1_SameDist (N : Nat) := V_ref1_SameDist (W_ref1_SameInts N) N
theorem con_ref1_SameDist_ok (N : Nat) : (u_ref1_SameDist.con (W_ref1_SameDist N)).ok P0 := Uf.ok mixed (q_ref1_SameDist (W_ref1_SameInts N) N) ⟨con_ref1_SameInts_ok N, trivial⟩ Try.func13 (by kernel_rfl) fun x y => by kernel_rfl
def as_law5_RttAll : List AS := [.val (.list (.int .u8)), .val (.int .i64), .val (.int .i64), .val (.int .i64), .val (.int .i64), .val (.list (.list (.int .i64))), .val (.int .u8), .val (.int .i64)]
def bs_law5_RttAll : List BS := []
def out_law5_RttAll (y : Bool) : V × List OK × List OK := (.bs y, [], [])
noncomputable def W_law5_RttAll (N : Nat) (x : (List Int) × Int × Int × Int × Int × (List (List Int)) × Int × Int) : Option (Bool) :=
  @ite (Option Bool) (W_law5_begun N () = some true ∧ (∀ n ∈ x.1, 0 ≤ n ∧ n ≤ 255) ∧ 0 ≤ x.2.2.2.2.2.2.1 ∧ x.2.2.2.2.2.2.1 ≤ 255 ∧ allP (W_rtt_May N)
    (W_ref1_MayDist N) (W_rtt_numbers N) (W_rtt_Smooth N) (W_ref1_Smooth N) (W_ref1_SameDist N) x.2.2.2.1 x.2.2.2.2.1 x.2.2.2.2.2.2.2 x.2.2.2.2.2.1)
    (Classical.propDecidable _) (some true) none
noncomputable def conw_law5_RttAll (w : (List Int) × Int × Int × Int × Int × (List (List Int)) × Int × Int → Option (Bool)) : Con := ⟨3, as_law5_RttAll, bs_law5_RttAll, Bool, w, out_law5_RttAll⟩
noncomputable def con_law5_RttAll (N : Nat) : Con := conw_law5_RttAll (W_law5_RttAll N)
theorem con_law5_RttAll_ok (N : Nat) : Con.ok P0 (con_law5_RttAll N) := ⟨⟨Try.f3, Try.func3, by kernel_rfl, by kernel_rfl⟩, fun (x : (List Int) × Int × Int × Int × Int × (List (List Int)) × Int × Int) (r : Bool) (hr : W_law5_RttAll N x = some r) => by
  unfold W_law5_RttAll at hr
  split at hr
  · rename_i h
    injection hr with hr; subst hr
    exact all_spec (bMay_of fun x r h => (con_rtt_May_ok N).2 x r h) (bMay_of fun x r h => (con_ref1_MayDist_ok N).2 x r h) (bNum_of fun x r h => (con_rtt_numbers_ok N).2 x r h) (bSm_of fun x r h => (con_rtt_Smooth_ok N).2 x r h) (bSm_of fun x r h => (con_ref1_Smooth_ok N).2 x r h) (bSame_of fun x r h => (con_ref1_SameDist_ok N).2 x r h) (bTrue_of ((con_law5_begun_ok N).2 () true h.1)) h.2.1 h.2.2.1 h.2.2.2.1 h.2.2.2.2
  · cases hr⟩
/-! What is reckoned. -/
-- PURE
theorem loopG {σ ρ : Type} {f : σ → Option (σ ⊕ ρ)} (I : Nat → σ → Prop) (B : Nat) (J : ρ → Prop) (hb : ∀ k x, I k x → k ≤ B) (hs : ∀ k x, I k x → (∃ y, f x = some (.inl y) ∧ I (k + 1) y) ∨ ∃ r, f x = some (.inr r) ∧ J r) :
    ∀ (M k : Nat) (x : σ), I k x → B < M + k → ∃ r, loopN M f x = some r ∧ J r
  | 0, k, x, h, hm => by have := hb k x h; omega
  | M + 1, k, x, h, hm => by
    rcases hs k x h with ⟨y, h1, h2⟩ | ⟨r, h1, h2⟩
    · obtain ⟨r, h4, h5⟩ := loopG I B J hb hs M (k + 1) y h2 (by omega)
      exact ⟨r, by simp only [loopN, h1]; exact h4, h5⟩
    · exact ⟨r, by simp only [loopN, h1], h2⟩
theorem loop_G {σ ρ β : Type} {f : σ → Option (σ ⊕ ρ)} {g : ρ → Option β} {x : σ} {N : Nat} (Q : Option β → Prop) (I : Nat → σ → Prop) (B : Nat) (J : ρ → Prop) (hx : I 0 x) (hm : B < N) (hk : ∀ r, J r → Q (g r)) (hb : ∀ k x, I k x → k ≤ B)
    (hs : ∀ k x, I k x → (∃ y, f x = some (.inl y) ∧ I (k + 1) y) ∨ ∃ r, f x = some (.inr r) ∧ J r) : Q (obind (loopN N f x) g) := by
  obtain ⟨r, h1, h2⟩ := loopG I B J hb hs N 0 x hx (by omega)
  rw [h1]; exact hk r h2
theorem wr_m {z : Int} (h : -140737488355328 ≤ z) (h2 : z ≤ 140737488355328) : wr .i64 z = z := wr_i64 (by omega) (by omega)
theorem cnd_T {α : Type} {p : Prop} {i : Decidable p} {x y : α} (h : p) : cnd (@decide p i) x y = x := by rw [decide_eq_true h]; rfl
theorem cnd_F {α : Type} {p : Prop} {i : Decidable p} {x y : α} (h : ¬ p) : cnd (@decide p i) x y = y := by rw [decide_eq_false h]; rfl
/-- A square of distances. -/
def gd (D : List (List Int)) (i j : Nat) : Int := (D.getD i []).getD j 0
structure GD (D : List (List Int)) : Prop where
  len : D.length = 8
  row : ∀ i, i < 8 → (D.getD i []).length = 8
  rng : ∀ i j, i < 8 → j < 8 → 0 ≤ gd D i j ∧ gd D i j ≤ 1000
  sym : ∀ i j, i < 8 → j < 8 → gd D i j = gd D j i
def Z0 (D : List (List Int)) : Prop := ∀ i, i < 8 → gd D i i = 0
theorem dTi {p : Prop} {i : Decidable p} (h : p) : @decide p i = true := decide_eq_true h
theorem dFi {p : Prop} {i : Decidable p} (h : ¬ p) : @decide p i = false := decide_eq_false h
theorem loop_congr {σ ρ : Type} {f g : σ → Option (σ ⊕ ρ)} (I : σ → Prop) (h : ∀ x, I x → f x = g x ∧ ∀ y, f x = some (.inl y) → I y) : ∀ (n : Nat) (x : σ), I x → loopN n f x = loopN n g x
  | 0, _, _ => rfl
  | n + 1, x, hx => by
    obtain ⟨h1, h2⟩ := h x hx
    simp only [loopN, ← h1]
    cases e : f x with
    | none => rfl
    | some r =>
      cases r with
      | inl y => exact loop_congr I h n y (h2 y e)
      | inr r => rfl
theorem within_any (N : Nat) (v : Int) : W_rtt_within N v = some (min (max v 0) 1000) := rfl
theorem cell {α : Type} {p1 p2 p3 p4 p5 p6 : Prop} {i1 : Decidable p1} {i2 i2' : Decidable p2} {i3 i3' : Decidable p3} {i4 i4' : Decidable p4} {i5 : Decidable p5} {i6 : Decidable p6} {X Y : Option α} (h : p1 ↔ p5 ∨ p6) :
    (obind (cnd (@decide p1 i1) (some true) (some (@decide p2 i2))) fun (b : Bool) => cnd b X (cnd (@decide p3 i3) (cnd (@decide p4 i4) X Y) Y)) = cnd (@decide p5 i5) X (cnd (@decide p6 i6) X (cnd (@decide p2 i2') X (cnd (@decide p3 i3') (cnd (@decide p4 i4') X Y) Y))) ∧
    ((obind (cnd (@decide p1 i1) (some true) (some (@decide p2 i2))) fun (b : Bool) => cnd b X (cnd (@decide p3 i3) (cnd (@decide p4 i4) X Y) Y)) = X ∨ (obind (cnd (@decide p1 i1) (some true) (some (@decide p2 i2))) fun (b : Bool) => cnd b X (cnd (@decide p3 i3) (cnd (@decide p4 i4) X Y) Y)) = Y) := by
  by_cases h5 : p5
  · rw [@dTi p1 i1 (h.2 (.inl h5)), cnd_t, obind_s, cnd_t, @dTi p5 i5 h5, cnd_t]; exact ⟨rfl, .inl rfl⟩
  by_cases h6 : p6
  · rw [@dTi p1 i1 (h.2 (.inr h6)), cnd_t, obind_s, cnd_t, @dFi p5 i5 h5, cnd_f, @dTi p6 i6 h6, cnd_t]; exact ⟨rfl, .inl rfl⟩
  rw [@dFi p1 i1 (fun q => Or.elim (h.1 q) h5 h6), cnd_f, obind_s, @dFi p5 i5 h5, cnd_f, @dFi p6 i6 h6, cnd_f]
  by_cases h2 : p2
  · rw [@dTi p2 i2 h2, cnd_t, @dTi p2 i2' h2, cnd_t]; exact ⟨rfl, .inl rfl⟩
  rw [@dFi p2 i2 h2, cnd_f, @dFi p2 i2' h2, cnd_f]
  by_cases h3 : p3
  · rw [@dTi p3 i3 h3, cnd_t, @dTi p3 i3' h3, cnd_t]
    by_cases h4 : p4
    · rw [@dTi p4 i4 h4, cnd_t, @dTi p4 i4' h4, cnd_t]; exact ⟨rfl, .inl rfl⟩
    · rw [@dFi p4 i4 h4, cnd_f, @dFi p4 i4' h4, cnd_f]; exact ⟨rfl, .inr rfl⟩
  · rw [@dFi p3 i3 h3, cnd_f, @dFi p3 i3' h3, cnd_f]; exact ⟨rfl, .inr rfl⟩
/-- Of any rows: the program's May is the reference's. -/
theorem May_same (N : Nat) (D : List (List Int)) (hN : 1000 ≤ N) : W_rtt_May N D = W_ref1_MayDist N D := by
  unfold W_rtt_May V_rtt_May W_ref1_MayDist V_ref1_MayDist
  by_cases hl : (D.length : Int) ≠ 8
  · rw [dT hl, cnd_t, cnd_t]
  have hl : D.length = 8 := by omega
  rw [dF (show ¬ (D.length : Int) ≠ 8 by omega), cnd_f, cnd_f]
  obtain ⟨r, e, hr⟩ := loopN_run (f := fun (v : Int) => cnd (decide (v < (↑(List.length D) : Int))) (cnd (decide ((0 : Int) ≤ v) && decide (v < (↑(List.length D) : Int))) (cnd (decide ((↑(List.length (List.getD D (Int.toNat v) [])) : Int) ≠ (8 : Int))) (some (Sum.inr (Sum.inr false : Unit ⊕ Bool))) (some (Sum.inl (wr .i64 (v + (1 : Int)))))) none) (some (Sum.inr (Sum.inl ())))) (fun v => ∃ i : Nat, v = i ∧ i ≤ 8 ∧ ∀ j, j < i → (D.getD j []).length = 8) (fun v => 8 - v.toNat) (fun r => (r = .inl () ∧ ∀ j, j < 8 → (D.getD j []).length = 8) ∨ r = .inr false) (fun v => by
    rintro ⟨i, rfl, hi, ha⟩
    by_cases c : (i : Int) < D.length
    case neg =>
      right
      rw [dF c, cnd_f]
      exact ⟨_, rfl, .inl ⟨rfl, fun j hj => ha j (by omega)⟩⟩
    rw [dT c, cnd_t, dT (show (0 : Int) ≤ (i : Int) by omega), Bool.and_self, cnd_t, Int.toNat_natCast]
    by_cases c2 : ((D.getD i []).length : Int) ≠ 8
    · right
      rw [dT c2, cnd_t]
      exact ⟨_, rfl, .inr rfl⟩
    · left
      rw [dF c2, cnd_f, wr_m (by omega) (by omega)]
      refine ⟨_, rfl, ⟨i + 1, by omega, by omega, fun j hj => ?_⟩, by omega⟩
      by_cases q : j = i
      · subst q; omega
      · exact ha j (by omega)) N 0 ⟨0, rfl, by omega, fun j hj => by omega⟩ (by simp; omega)
  refine (congrArg (fun o => obind o _) e).trans (Eq.symm ((congrArg (fun o => obind o _) e).trans (Eq.symm ?_)))
  rw [obind_s, obind_s]
  rcases hr with ⟨rfl, h8⟩ | rfl
  case inr => rfl
  rw [selim_l, selim_l]
  have key : ∀ (f g : Int → Option (Int ⊕ (Unit ⊕ Bool))) (k : Unit ⊕ Bool → Option Bool), (∀ i : Nat, i ≤ 8 → f i = g i ∧ ∀ y, f i = some (.inl y) → ∃ j : Nat, y = j ∧ j ≤ 8) → obind (loopN N f 0) k = obind (loopN N g 0) k := fun f g k h => by
    rw [loop_congr (fun v : Int => ∃ i : Nat, v = i ∧ i ≤ 8) (fun v ⟨i, hv, hi⟩ => by subst hv; exact h i hi) N 0 ⟨0, rfl, by omega⟩]
  refine key _ _ _ fun i hi => ?_
  by_cases c : (i : Int) < D.length
  case neg => rw [dF c, cnd_f, cnd_f]; exact ⟨rfl, fun y hy => by injection hy with hy; cases hy⟩
  have hr := h8 i (by omega)
  simp only [dT (show (i : Int) < ((8 : Nat) : Int) by omega), dT (show (0 : Int) ≤ (i : Int) by omega), Bool.and_self, cnd_t, Int.toNat_natCast, hr, hl]
  have key2 : ∀ (f g : Int → Option (Int ⊕ (Unit ⊕ Bool))), (∀ j : Nat, j ≤ 8 → f j = g j ∧ ∀ y, f j = some (.inl y) → ∃ i : Nat, y = i ∧ i ≤ 8) → loopN N f 0 = loopN N g 0 := fun f g h => loop_congr (fun v : Int => ∃ i : Nat, v = i ∧ i ≤ 8) (fun v ⟨i, hv, hi⟩ => by subst hv; exact h i hi) N 0 ⟨0, rfl, by omega⟩
  refine ⟨congrArg (fun o => obind o _) (key2 _ _ fun j hj => ?_), fun y hy => ?_⟩
  · by_cases c2 : (j : Int) < ((8 : Nat) : Int)
    case neg => rw [dF c2, cnd_f, cnd_f]; exact ⟨rfl, fun y hy => by injection hy with hy; cases hy⟩
    have hr2 := h8 j (by omega)
    simp only [dT c2, dT (show (0 : Int) ≤ (j : Int) by omega), dT (show (i : Int) < ((8 : Nat) : Int) by omega), Bool.and_self, cnd_t, Int.toNat_natCast, hr2, within_any, obind_s]
    rw [wr_m (z := (j : Int) + 1) (by omega) (by omega)]
    have key3 : ∀ (P Q X Y : Option (Int ⊕ (Unit ⊕ Bool))), (P = Q ∧ (P = X ∨ P = Y)) → X = some (.inr (.inr false)) → Y = some (.inl ((j : Int) + 1)) → P = Q ∧ ∀ y, P = some (.inl y) → ∃ i : Nat, y = i ∧ i ≤ 8 := fun P Q X Y h hX hY => by
      refine ⟨h.1, fun y hy => ?_⟩
      rcases h.2 with q | q
      · rw [q, hX] at hy; injection hy with hy; cases hy
      · rw [q, hY] at hy; injection hy with hy; injection hy with hy; exact ⟨j + 1, by omega, by omega⟩
    exact key3 _ _ _ _ (cell (by omega)) rfl rfl
  · have : ∀ (o : Option (Unit ⊕ Bool)), obind o (fun (b : Unit ⊕ Bool) => selim (fun (b : Unit) => some (Sum.inl (wr .i64 ((i : Int) + (1 : Int))) : Int ⊕ (Unit ⊕ Bool))) (fun (c : Bool) => some (Sum.inr (Sum.inr c))) b) = some (.inl y) → y = (i : Int) + 1 := fun o h => by
      cases o with
      | none => cases h
      | some b =>
        cases b with
        | inl u =>
          rw [obind_s, selim_l, wr_m (by omega) (by omega)] at h
          injection h with h; injection h with h; exact h.symm
        | inr b => rw [obind_s, selim_r] at h; injection h with h; cases h
    exact ⟨i + 1, by have := this _ hy; omega, by omega⟩
/-- What MayDist says of any rows. -/
theorem May_is (N : Nat) (hN : 1000 ≤ N) (D : List (List Int)) : ∃ b, W_ref1_MayDist N D = some b ∧ (b = true → GD D ∧ Z0 D) := by
  unfold W_ref1_MayDist V_ref1_MayDist
  by_cases c0 : (D.length : Int) ≠ 8
  · rw [cnd_T c0]; exact ⟨_, rfl, fun h => by cases h⟩
  rw [cnd_F c0]
  have hl : D.length = 8 := by omega
  refine loop_G (σ := Int) (ρ := PUnit ⊕ Bool) (β := Bool) (fun o => ∃ b, o = some b ∧ (b = true → GD D ∧ Z0 D)) (fun k v => v = (k : Int) ∧ k ≤ 8 ∧ ∀ i, i < k → (D.getD i []).length = 8) 8 (fun r => r = .inr false ∨ r = .inl () ∧ ∀ i, i < 8 → (D.getD i []).length = 8) ⟨rfl, by omega, fun i hi => by omega⟩ (by omega) ?_ (fun k v h => h.2.1) ?_
  · rintro r (rfl | ⟨rfl, hr⟩)
    · exact ⟨_, rfl, fun h => by cases h⟩
    rw [selim_l]
    have bb : ∀ k : Nat, k < 8 → (decide ((0 : Int) ≤ (k : Int)) && decide ((k : Int) < ((8 : Nat) : Int))) = true := fun k h => by rw [dT (by omega), dT (by omega)]; rfl
    refine loop_G (σ := Int) (ρ := PUnit ⊕ Bool) (β := Bool) (fun o => ∃ b, o = some b ∧ (b = true → GD D ∧ Z0 D)) (fun k v => v = (k : Int) ∧ k ≤ 8 ∧ ∀ i, i < k → ∀ j, j < 8 → (0 ≤ gd D i j ∧ gd D i j ≤ 1000) ∧ gd D i j = gd D j i ∧ (i = j → gd D i j = 0)) 8 (fun r => r = .inr false ∨ r = .inl () ∧ ∀ i, i < 8 → ∀ j, j < 8 → (0 ≤ gd D i j ∧ gd D i j ≤ 1000) ∧ gd D i j = gd D j i ∧ (i = j → gd D i j = 0)) ⟨rfl, by omega, fun i hi => by omega⟩ (by omega) ?_ (fun k v h => h.2.1) ?_
    · rintro r (rfl | ⟨rfl, h⟩)
      · exact ⟨_, rfl, fun h => by cases h⟩
      · exact ⟨_, rfl, fun _ => ⟨⟨hl, hr, fun i j hi hj => (h i hi j hj).1, fun i j hi hj => (h i hi j hj).2.1⟩, fun i hi => (h i hi i hi).2.2 rfl⟩⟩
    · rintro k v ⟨rfl, hk, hK⟩
      by_cases c : k < 8
      case neg =>
        right
        rw [cnd_F (by omega)]
        exact ⟨_, rfl, .inr ⟨rfl, fun i hi => hK i (by omega)⟩⟩
      rw [cnd_T (by omega)]
      have hrk := hr k c
      refine loop_G (σ := Int) (ρ := PUnit ⊕ Bool) (β := Int ⊕ (PUnit ⊕ Bool)) (fun o => (∃ y, o = some (.inl y) ∧ y = ((k + 1 : Nat) : Int) ∧ k + 1 ≤ 8 ∧ ∀ i, i < k + 1 → ∀ j, j < 8 → (0 ≤ gd D i j ∧ gd D i j ≤ 1000) ∧ gd D i j = gd D j i ∧ (i = j → gd D i j = 0)) ∨ ∃ r, o = some (.inr r) ∧ (r = .inr false ∨ r = .inl () ∧ ∀ i, i < 8 → ∀ j, j < 8 → (0 ≤ gd D i j ∧ gd D i j ≤ 1000) ∧ gd D i j = gd D j i ∧ (i = j → gd D i j = 0)))
        (fun j v => v = (j : Int) ∧ j ≤ 8 ∧ ∀ i, i < j → (0 ≤ gd D k i ∧ gd D k i ≤ 1000) ∧ gd D k i = gd D i k ∧ (k = i → gd D k i = 0)) 8 (fun r => r = .inr false ∨ r = .inl () ∧ ∀ j, j < 8 → (0 ≤ gd D k j ∧ gd D k j ≤ 1000) ∧ gd D k j = gd D j k ∧ (k = j → gd D k j = 0)) ⟨rfl, by omega, fun i hi => by omega⟩ (by omega) ?_ (fun k v h => h.2.1) ?_
      · rintro r (rfl | ⟨rfl, h⟩)
        · exact .inr ⟨_, rfl, .inl rfl⟩
        · refine .inl ⟨_, rfl, by rw [wr_m (by omega) (by omega)]; omega, by omega, fun i hi j hj => ?_⟩
          by_cases q : i = k
          · subst q; exact h j hj
          · exact hK i (by omega) j hj
      · rintro j v ⟨rfl, hj, hJ⟩
        by_cases d : j < 8
        case neg =>
          right
          rw [cnd_F (by omega)]
          exact ⟨_, rfl, .inr ⟨rfl, fun i hi => hJ i (by omega)⟩⟩
        have hrj := hr j d
        have b1 := bb k c
        have b2 := bb j d
        rw [cnd_T (by omega)]
        simp only [hl, hrk, hrj, b1, b2, cnd_t, Int.toNat_natCast]
        have ekj : (D.getD k []).getD j 0 = gd D k j := rfl
        have ejk : (D.getD j []).getD k 0 = gd D j k := rfl
        simp only [ekj, ejk]
        by_cases g1 : gd D k j < 0
        · right; rw [cnd_T g1]; exact ⟨_, rfl, .inl rfl⟩
        rw [cnd_F g1]
        by_cases g2 : 1000 < gd D k j
        · right; rw [cnd_T g2]; exact ⟨_, rfl, .inl rfl⟩
        rw [cnd_F g2]
        by_cases g3 : gd D k j ≠ gd D j k
        · right; rw [cnd_T g3]; exact ⟨_, rfl, .inl rfl⟩
        rw [cnd_F g3]
        have nx : (k = j → gd D k j = 0) → ∀ i, i < j + 1 → (0 ≤ gd D k i ∧ gd D k i ≤ 1000) ∧ gd D k i = gd D i k ∧ (k = i → gd D k i = 0) := fun h0 i hi => by
          by_cases q : i = j
          · subst q; exact ⟨⟨by omega, by omega⟩, by omega, h0⟩
          · exact hJ i (by omega)
        rw [wr_m (z := (j : Int) + 1) (by omega) (by omega)]
        by_cases g4 : (k : Int) = j
        · rw [cnd_T g4]
          by_cases g5 : gd D k j ≠ 0
          · right; rw [cnd_T g5]; exact ⟨_, rfl, .inl rfl⟩
          · left; rw [cnd_F g5]; exact ⟨_, rfl, by omega, by omega, nx (fun _ => by omega)⟩
        · left; rw [cnd_F g4]; exact ⟨_, rfl, by omega, by omega, nx (fun q => absurd (by omega) g4)⟩
  · rintro k v ⟨rfl, hk, hK⟩
    by_cases c : k < 8
    case neg =>
      right
      rw [cnd_F (by omega)]
      exact ⟨_, rfl, .inr ⟨rfl, fun i hi => hK i (by omega)⟩⟩
    rw [cnd_T (by omega), dT (by omega), dT (by omega), Bool.and_self, cnd_t, Int.toNat_natCast, wr_m (z := (k : Int) + 1) (by omega) (by omega)]
    by_cases d : ((D.getD k []).length : Int) ≠ 8
    · right; rw [cnd_T d]; exact ⟨_, rfl, .inl rfl⟩
    · left
      rw [cnd_F d]
      refine ⟨_, rfl, by omega, by omega, fun i hi => ?_⟩
      by_cases q : i = k
      · subst q; omega
      · exact hK i (by omega)
/-- What is reckoned by itself. -/
theorem within_p (N : Nat) (v : Int) : W_rtt_within N v = some (min (max v 0) 1000) := rfl
theorem May_yes (N : Nat) (hN : 1000 ≤ N) (D : List (List Int)) (h : GD D) (hz : Z0 D) : W_rtt_May N D = some true := by
  have hl := h.len
  have bb : ∀ k : Nat, k < 8 → (decide ((0 : Int) ≤ (k : Int)) && decide ((k : Int) < ((8 : Nat) : Int))) = true := fun k h => by rw [dT (by omega), dT (by omega)]; rfl
  unfold W_rtt_May V_rtt_May
  rw [cnd_F (show ¬ (D.length : Int) ≠ 8 by omega)]
  refine loop_G (σ := Int) (ρ := PUnit ⊕ Bool) (β := Bool) (fun o => o = some true) (fun k v => v = (k : Int) ∧ k ≤ 8) 8 (fun r => r = .inl ()) ⟨rfl, by omega⟩ (by omega) ?_ (fun k v h => h.2) ?_
  · rintro r rfl
    rw [selim_l]
    refine loop_G (σ := Int) (ρ := PUnit ⊕ Bool) (β := Bool) (fun o => o = some true) (fun k v => v = (k : Int) ∧ k ≤ 8) 8 (fun r => r = .inl ()) ⟨rfl, by omega⟩ (by omega) ?_ (fun k v h => h.2) ?_
    · rintro r rfl; rfl
    · rintro k v ⟨rfl, hk⟩
      by_cases c : k < 8
      case neg => right; rw [cnd_F (by omega)]; exact ⟨_, rfl, rfl⟩
      left
      have hrk := h.row k c
      rw [cnd_T (by omega)]
      simp only [hl, bb k c, cnd_t, Int.toNat_natCast]
      refine loop_G (σ := Int) (ρ := PUnit ⊕ Bool) (β := Int ⊕ (PUnit ⊕ Bool)) (fun o => ∃ y, o = some (.inl y) ∧ y = ((k + 1 : Nat) : Int) ∧ k + 1 ≤ 8) (fun j v => v = (j : Int) ∧ j ≤ 8) 8 (fun r => r = .inl ()) ⟨rfl, by omega⟩ (by omega) ?_ (fun k v h => h.2) ?_
      · rintro r rfl
        exact ⟨_, rfl, by rw [wr_m (by omega) (by omega)]; omega, by omega⟩
      · rintro j v ⟨rfl, hj⟩
        by_cases d : j < 8
        case neg => right; rw [cnd_F (by omega)]; exact ⟨_, rfl, rfl⟩
        left
        have hrj := h.row j d
        rw [cnd_T (by omega)]
        have ekj : (D.getD k []).getD j 0 = gd D k j := rfl
        have ejk : (D.getD j []).getD k 0 = gd D j k := rfl
        have hg := h.rng k j c d
        have hs := h.sym k j c d
        simp only [hl, hrk, hrj, bb j d, bb k c, cnd_t, Int.toNat_natCast, ekj, ejk, within_p, obind_s]
        rw [cnd_F (show ¬ gd D k j ≠ min (max (gd D k j) 0) 1000 by omega), dF (show ¬ gd D k j ≠ gd D j k by omega), obind_s, cnd_f]
        by_cases q : (k : Int) = j
        · rw [cnd_T q]
          have q2 : k = j := by omega
          subst q2
          rw [cnd_F (show ¬ gd D k k ≠ 0 by have := hz k c; omega)]
          exact ⟨_, rfl, by rw [wr_m (by omega) (by omega)]; omega, by omega⟩
        · rw [cnd_F q]
          exact ⟨_, rfl, by rw [wr_m (by omega) (by omega)]; omega, by omega⟩
  · rintro k v ⟨rfl, hk⟩
    by_cases c : k < 8
    case neg => right; rw [cnd_F (by omega)]; exact ⟨_, rfl, rfl⟩
    left
    rw [cnd_T (by omega)]
    simp only [hl, bb k c, cnd_t, Int.toNat_natCast, h.row k c]
    exact ⟨_, rfl, by rw [wr_m (by omega) (by omega)]; omega, by omega⟩
theorem Smooth_p (N : Nat) (x s : Int) (h0 : 0 ≤ x) (h1 : x ≤ 1000) : ∃ v, W_rtt_Smooth N (x, s) = some v ∧ 0 ≤ v ∧ v ≤ 1000 := by
  unfold W_rtt_Smooth V_rtt_Smooth W_rtt_before V_rtt_before
  simp only [within_p, obind_s]
  by_cases c : x ≤ 0
  · rw [cnd_T c, obind_s, selim_r]
    exact ⟨_, rfl, by omega, by omega⟩
  · rw [cnd_F c, obind_s, selim_l, wr_m (z := 7 * min (max x 0) 1000) (by omega) (by omega), wr_m (z := 7 * min (max x 0) 1000 + min (max s 0) 1000) (by omega) (by omega)]
    have e : Int.tdiv (7 * min (max x 0) 1000 + min (max s 0) 1000) 8 = (7 * min (max x 0) 1000 + min (max s 0) 1000) / 8 := Int.tdiv_eq_ediv_of_nonneg (by omega)
    rw [e, wr_m (by omega) (by omega)]
    exact ⟨_, rfl, by omega, by omega⟩
theorem GD_sized (D : List (List Int)) (h : GD D) : sized D = true := by
  unfold sized
  rw [dT (show D.length ≤ 1000 by have := h.len; omega), Bool.true_and, List.all_eq_true]
  intro l hl
  obtain ⟨i, hi, rfl⟩ := List.mem_iff_getElem.1 hl
  have := h.row i (by have := h.len; omega)
  rw [List.getD_eq_getElem?_getD, List.getElem?_eq_getElem hi] at this
  have : (D[i]).length = 8 := this
  rw [this]; rfl
def NN : Nat := 1000
theorem Smooth_same (N : Nat) (o s : Int) : ∃ r, W_rtt_Smooth N (o, s) = some r ∧ W_ref1_Smooth N (o, s) = some r := by
  unfold W_rtt_Smooth V_rtt_Smooth W_rtt_before V_rtt_before W_ref1_Smooth V_ref1_Smooth W_ref1_end V_ref1_end
  simp only [within_p, obind_s]
  by_cases c : o ≤ 0
  · rw [cnd_T c, obind_s, selim_r, cnd_T (show min (max o 0) 1000 = 0 by omega)]
    exact ⟨_, rfl, rfl⟩
  · rw [cnd_F c, obind_s, selim_l, cnd_F (show ¬ min (max o 0) 1000 = 0 by omega)]
    exact ⟨_, rfl, rfl⟩
theorem numbers_any (N : Nat) (a b : Int) : W_rtt_numbers N (a, b) = some (decide (1 ≤ a ∧ a ≤ 8 ∧ 1 ≤ b ∧ b ≤ 8 ∧ a ≠ b)) := by
  unfold W_rtt_numbers V_rtt_numbers
  simp only []
  by_cases c : a = b
  · rw [cnd_F (by omega), obind_s, cnd_f, dF (by omega)]
  · rw [cnd_T c, obind_s]
    by_cases c2 : 1 ≤ min a b
    · rw [dT c2, cnd_t]
      by_cases c3 : max a b ≤ 8
      · rw [dT c3, dT (by omega)]
      · rw [dF c3, dF (by omega)]
    · rw [dF c2, cnd_f, dF (by omega)]
theorem SameI_refl (N : Nat) (hN : 1000 ≤ N) (l : List Int) (hl : l.length ≤ 100) : W_ref1_SameInts N (l, l) = some true := by
  unfold W_ref1_SameInts V_ref1_SameInts
  simp only []
  rw [cnd_F (fun h => h rfl)]
  refine loop_G (σ := Int) (ρ := PUnit ⊕ Bool) (β := Bool) (fun o => o = some true) (fun k v => v = (k : Int) ∧ k ≤ l.length) l.length (fun r => r = .inl ()) ⟨rfl, by omega⟩ (by omega) ?_ (fun k v h => h.2) ?_
  · rintro r rfl; rfl
  rintro k v ⟨rfl, hk⟩
  by_cases c : k < l.length
  case neg => right; rw [cnd_F (by omega)]; exact ⟨_, rfl, rfl⟩
  left
  rw [cnd_T (by omega), dT (show (0 : Int) ≤ (k : Int) by omega), dT (show (k : Int) < (l.length : Int) by omega), Bool.and_self, cnd_t, cnd_t, cnd_F (fun h => h rfl), wr_m (by omega) (by omega)]
  exact ⟨_, rfl, by omega, by omega⟩
theorem SameD_refl (N : Nat) (hN : 1000 ≤ N) (R : List (List Int)) (hl : R.length ≤ 100) (hr : ∀ i, i < R.length → (R.getD i []).length ≤ 100) : W_ref1_SameDist N (R, R) = some true := by
  unfold W_ref1_SameDist V_ref1_SameDist
  simp only []
  rw [cnd_F (fun h => h rfl)]
  refine loop_G (σ := Int) (ρ := PUnit ⊕ Bool) (β := Bool) (fun o => o = some true) (fun k v => v = (k : Int) ∧ k ≤ R.length) R.length (fun r => r = .inl ()) ⟨rfl, by omega⟩ (by omega) ?_ (fun k v h => h.2) ?_
  · rintro r rfl; rfl
  rintro k v ⟨rfl, hk⟩
  by_cases c : k < R.length
  case neg => right; rw [cnd_F (by omega)]; exact ⟨_, rfl, rfl⟩
  left
  rw [cnd_T (by omega), dT (show (0 : Int) ≤ (k : Int) by omega), dT (show (k : Int) < (R.length : Int) by omega), Bool.and_self, cnd_t, cnd_t, Int.toNat_natCast, SameI_refl N hN _ (hr k c), obind_s, Bool.not_true, cnd_f, wr_m (by omega) (by omega)]
  exact ⟨_, rfl, by omega, by omega⟩
theorem sq_GD (D : List (List Int)) (h : SqD D) : GD D ∧ Z0 D := ⟨⟨h.len, h.row, h.rng, h.sym⟩, h.dia⟩
theorem learn_both (N : Nat) (hN : 1000 ≤ N) (D : List (List Int)) (h : SqD D) (a b s : Int) : ∃ R, learnT (W_rtt_May N) (W_rtt_numbers N) (W_rtt_Smooth N) D a b s = some R ∧ refT (W_ref1_Smooth N) D a b s = some R ∧ W_ref1_SameDist N (R, R) = some true := by
  obtain ⟨hg, hz⟩ := sq_GD D h
  have hl := h.len
  unfold learnT refT
  rw [GD_sized D hg, cnd_t, cnd_t, May_yes N hN D hg hz, obind_s, cnd_t, numbers_any, obind_s]
  by_cases c : 1 ≤ a ∧ a ≤ 8 ∧ 1 ≤ b ∧ b ≤ 8 ∧ a ≠ b
  · obtain ⟨c1, c2, c3, c4, c5⟩ := c
    have rA := h.row (a.toNat - 1) (by omega)
    have rB := h.row (b.toNat - 1) (by omega)
    obtain ⟨v, hv, hv'⟩ := Smooth_same N ((D.getD (a.toNat - 1) []).getD (b.toNat - 1) 0) s
    obtain ⟨v2, hv2, v0, v1⟩ := Smooth_p N ((D.getD (a.toNat - 1) []).getD (b.toNat - 1) 0) s (h.rng _ _ (by omega) (by omega)).1 (h.rng _ _ (by omega) (by omega)).2
    have e : v2 = v := by rw [hv] at hv2; injection hv2 with q; exact q.symm
    subst e
    rw [dT (show 1 ≤ a ∧ a ≤ 8 ∧ 1 ≤ b ∧ b ≤ 8 ∧ a ≠ b from ⟨c1, c2, c3, c4, c5⟩), cnd_t, cnd_t, dT (show 1 ≤ a ∧ 1 ≤ b ∧ a ≠ b ∧ b.toNat ≤ (D.getD (a.toNat - 1) []).length ∧ a.toNat ≤ (D.getD (b.toNat - 1) []).length from ⟨c1, c3, c5, by omega, by omega⟩), cnd_t, dT (show b.toNat ≤ (D.getD (a.toNat - 1) []).length ∧ a.toNat ≤ (D.getD (b.toNat - 1) []).length from ⟨by omega, by omega⟩), cnd_t, hv, hv', obind_s]
    have hs := sq_set2 D h (a.toNat - 1) (b.toNat - 1) v2 (by omega) (by omega) (by omega) v0 v1
    exact ⟨_, rfl, rfl, SameD_refl N hN _ (by have := hs.len; omega) fun i hi => by have := hs.row i (by have := hs.len; omega); omega⟩
  · rw [dF c, cnd_f, cnd_f]
    exact ⟨_, rfl, rfl, SameD_refl N hN _ (by omega) fun i hi => by have := h.row i (by omega); omega⟩
theorem begun_all : W_law5_begun NN () = some true := by decide +kernel
theorem law_true (y0 : List Int) (y1 : Int) (y2 : Int) (y3 : Int) (y4 : Int) (y5 : List (List Int)) (y6 : Int) (y7 : Int) (h0 : Twf (.list (.int .u8)) y0) (h1 : Twf (.int .i64) y1) (h2 : Twf (.int .i64) y2) (h3 : Twf (.int .i64) y3) (h4 : Twf (.int .i64) y4) (h5 : Twf (.list (.list (.int .i64))) y5) (h6 : Twf (.int .u8) y6) (h7 : Twf (.int .i64) y7) : W_law5_RttAll NN (y0, y1, y2, y3, y4, y5, y6, y7) = some true := by
  have hN : 1000 ≤ NN := Nat.le_refl _
  have hmay : ∀ D, ∃ r, W_rtt_May NN D = some r ∧ W_ref1_MayDist NN D = some r := fun D => by
    obtain ⟨b, hb, _⟩ := May_is NN hN D
    exact ⟨b, (May_same NN D hN).trans hb, hb⟩
  unfold W_law5_RttAll
  refine if_pos ⟨begun_all, h0.2, h6.1, h6.2, fun D hD => ⟨?_, fun i j _ _ => hmay _, fun a b => learn_both NN hN D hD a b _⟩, hmay _, Smooth_same NN _ _⟩
  obtain ⟨hg, hz⟩ := sq_GD D hD
  exact May_yes NN hN D hg hz

theorem spec (y0 : List Int) (y1 : Int) (y2 : Int) (y3 : Int) (y4 : Int) (y5 : List (List Int)) (y6 : Int) (y7 : Int) (h0 : Twf (.list (.int .u8)) y0) (h1 : Twf (.int .i64) y1) (h2 : Twf (.int .i64) y2) (h3 : Twf (.int .i64) y3) (h4 : Twf (.int .i64) y4) (h5 : Twf (.list (.list (.int .i64))) y5) (h6 : Twf (.int .u8) y6) (h7 : Twf (.int .i64) y7) : Spec2 P0 3 [valW (.list (.int .u8)) y0, valW (.int .i64) y1, valW (.int .i64) y2, valW (.int .i64) y3, valW (.int .i64) y4, valW (.list (.list (.int .i64))) y5, valW (.int .u8) y6, valW (.int .i64) y7] [] (.bs true) [] [] := (con_law5_RttAll_ok NN).2 (y0, y1, y2, y3, y4, y5, y6, y7) true (law_true y0 y1 y2 y3 y4 y5 y6 y7 h0 h1 h2 h3 h4 h5 h6 h7)
theorem lifted (os : Os) (started : os.Started) (H : Type) (enc : TypeId × Value → H) :
    ReturnsInHanded {} Try.checked os 3 .any (Rows.rttAllSpec.pre6 enc Try.prog Try.f3 Rows.rttAllRow.domain false) (Rows.rttAllSpec.post enc Try.prog Try.f3 false true false false) := by
  refine returnsInHanded_of_change (C := Try.checked) own started (by kernel_rfl) Try.func3
    (ChangeSpec.witness6 (enc := enc) (C := Try.checked) false ⟨#[], #[.slice none 0 0, .int .i64 0, .int .i64 0, .int .i64 0, .int .i64 0, .slice none 0 0, .int .u8 0, .int .i64 0], []⟩ 8 (by kernel_rfl) (by kernel_rfl) (by kernel_rfl) (by kernel_rfl)) ?_
  intro W base args ds gs before hval0 hW hcnd _
  have hval : ∀ (j : Nat) t v, Try.f3.params[j]? = some t → args[j]? = some v → Value.okWide Try.prog W .any base t v := hval0
  have hW' := hW
  obtain ⟨p, q, hA0, hV, rfl, hfz, hnd⟩ := hW
  have hA : DataW.TrodAll enc Try.prog W 0 (fun _ => true) true Try.f3.params.toList args.toList ds p := hA0
  rw [Try.params3] at hA hval
  obtain ⟨v0, vs0, d0, ds0, p0, q0, hargs, rfl, rfl, h0, r0⟩ := trodAll_cons hA
  obtain ⟨v1, vs1, d1, ds1, p1, q1, rfl, rfl, rfl, h1, r1⟩ := trodAll_cons r0
  obtain ⟨v2, vs2, d2, ds2, p2, q2, rfl, rfl, rfl, h2, r2⟩ := trodAll_cons r1
  obtain ⟨v3, vs3, d3, ds3, p3, q3, rfl, rfl, rfl, h3, r3⟩ := trodAll_cons r2
  obtain ⟨v4, vs4, d4, ds4, p4, q4, rfl, rfl, rfl, h4, r4⟩ := trodAll_cons r3
  obtain ⟨v5, vs5, d5, ds5, p5, q5, rfl, rfl, rfl, h5, r5⟩ := trodAll_cons r4
  obtain ⟨v6, vs6, d6, ds6, p6, q6, rfl, rfl, rfl, h6, r6⟩ := trodAll_cons r5
  obtain ⟨v7, vs7, d7, ds7, p7, q7, rfl, rfl, rfl, h7, r7⟩ := trodAll_cons r6
  obtain ⟨rfl, rfl, rfl⟩ := trodAll_nil r7
  obtain rfl : args = #[v0, v1, v2, v3, v4, v5, v6, v7] := by cases args; simp_all
  obtain ⟨rfl, rfl⟩ := trodVars_none hV
  have k0 := h0
  have lt0 : ∀ x ∈ p0, x.block < W.heap.size := by obtain ⟨m, hm⟩ := k0; exact DataW.trod_lt m _ _ _ hm
  obtain ⟨y0, rp0, wf0⟩ := arg_ok (n := 12) (ty := (.list (.int .u8))) (by kernel_rfl) (hval 0 _ v0 rfl rfl) h0
  have k1 := h1
  have lt1 : ∀ x ∈ p1, x.block < W.heap.size := by obtain ⟨m, hm⟩ := k1; exact DataW.trod_lt m _ _ _ hm
  obtain ⟨y1, rp1, wf1⟩ := arg_ok (n := 12) (ty := (.int .i64)) (by kernel_rfl) (hval 1 _ v1 rfl rfl) h1
  have k2 := h2
  have lt2 : ∀ x ∈ p2, x.block < W.heap.size := by obtain ⟨m, hm⟩ := k2; exact DataW.trod_lt m _ _ _ hm
  obtain ⟨y2, rp2, wf2⟩ := arg_ok (n := 12) (ty := (.int .i64)) (by kernel_rfl) (hval 2 _ v2 rfl rfl) h2
  have k3 := h3
  have lt3 : ∀ x ∈ p3, x.block < W.heap.size := by obtain ⟨m, hm⟩ := k3; exact DataW.trod_lt m _ _ _ hm
  obtain ⟨y3, rp3, wf3⟩ := arg_ok (n := 12) (ty := (.int .i64)) (by kernel_rfl) (hval 3 _ v3 rfl rfl) h3
  have k4 := h4
  have lt4 : ∀ x ∈ p4, x.block < W.heap.size := by obtain ⟨m, hm⟩ := k4; exact DataW.trod_lt m _ _ _ hm
  obtain ⟨y4, rp4, wf4⟩ := arg_ok (n := 12) (ty := (.int .i64)) (by kernel_rfl) (hval 4 _ v4 rfl rfl) h4
  have k5 := h5
  have lt5 : ∀ x ∈ p5, x.block < W.heap.size := by obtain ⟨m, hm⟩ := k5; exact DataW.trod_lt m _ _ _ hm
  obtain ⟨y5, rp5, wf5⟩ := arg_ok (n := 12) (ty := (.list (.list (.int .i64)))) (by kernel_rfl) (hval 5 _ v5 rfl rfl) h5
  have k6 := h6
  have lt6 : ∀ x ∈ p6, x.block < W.heap.size := by obtain ⟨m, hm⟩ := k6; exact DataW.trod_lt m _ _ _ hm
  obtain ⟨y6, rp6, wf6⟩ := arg_ok (n := 12) (ty := (.int .u8)) (by kernel_rfl) (hval 6 _ v6 rfl rfl) h6
  have k7 := h7
  have lt7 : ∀ x ∈ p7, x.block < W.heap.size := by obtain ⟨m, hm⟩ := k7; exact DataW.trod_lt m _ _ _ hm
  obtain ⟨y7, rp7, wf7⟩ := arg_ok (n := 12) (ty := (.int .i64)) (by kernel_rfl) (hval 7 _ v7 rfl rfl) h7
  clear hA0 hval0
  refine (law_of2 (spec y0 y1 y2 y3 y4 y5 y6 y7 wf0 wf1 wf2 wf3 wf4 wf5 wf6 wf7) W #[v0, v1, v2, v3, v4, v5, v6, v7] (.cons rp0 (.cons rp1 (.cons rp2 (.cons rp3 (.cons rp4 (.cons rp5 (.cons rp6 (.cons rp7 .nil))))))))).mono fun e W' ⟨he, bel⟩ => ?_
  subst he
  exact ⟨_, rfl, _, _, _, [], _, [], hW', trodAll_mk1 (shut_bool Try.underlying4 _), (trodAll_cons_mk (Below.trod laidOut (by kernel_rfl) (of_decide_eq_true (by kernel_rfl)) k0 bel lt0) (trodAll_cons_mk (Below.trod laidOut (by kernel_rfl) (of_decide_eq_true (by kernel_rfl)) k1 bel lt1) (trodAll_cons_mk (Below.trod laidOut (by kernel_rfl) (of_decide_eq_true (by kernel_rfl)) k2 bel lt2) (trodAll_cons_mk (Below.trod laidOut (by kernel_rfl) (of_decide_eq_true (by kernel_rfl)) k3 bel lt3) (trodAll_cons_mk (Below.trod laidOut (by kernel_rfl) (of_decide_eq_true (by kernel_rfl)) k4 bel lt4) (trodAll_cons_mk (Below.trod laidOut (by kernel_rfl) (of_decide_eq_true (by kernel_rfl)) k5 bel lt5) (trodAll_cons_mk (Below.trod laidOut (by kernel_rfl) (of_decide_eq_true (by kernel_rfl)) k6 bel lt6) (trodAll_cons_mk (Below.trod laidOut (by kernel_rfl) (of_decide_eq_true (by kernel_rfl)) k7 bel lt7) trodAll_mk0)))))))), rfl, bel.frame _, fun h => by cases h⟩

theorem over : Rows.rttAllRow.holds Try.pinned (OpenSpec.ofChange Rows.rttAllSpec) :=
  OpenClaim.holds_of_wide 3 Try.f3 rfl rfl rfl rfl rfl rfl rfl ⟨rfl, rfl, rfl, rfl, rfl⟩ rfl rfl rfl rfl rfl (by kernel_rfl) Try.func3 (by kernel_rfl)
    (of_decide_eq_true (by kernel_rfl)) (by unfold Func.isWrapper; first | (rw [if_pos (by decide +kernel)]; kernel_rfl) | (rw [if_neg (by decide +kernel)]; exact ⟨rfl, rfl⟩))
    (fun os started H enc _ => lifted os started H enc)

theorem holds : Rows.RttAllSaid := over
end Go.Proofs.Ytpohfnebmmjpdaa.rttAllX
