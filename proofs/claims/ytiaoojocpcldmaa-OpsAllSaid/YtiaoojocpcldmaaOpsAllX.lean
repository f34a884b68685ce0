/- OpsAll: for all arguments the call returns true. The law is brought to a function of Lean's own (W_..) by the machine of the texts beside it, and that is reckoned; no condition. -/
import Derived.Test.YtiaoojocpcldmaaExtCm
import Derived.Test.YtiaoojocpcldmaaRows
import Derived.WalkKit
import Derived.ProofKit
import Derived.OpenShut
import Derived.ShutString
import Derived.ChangeOld
import Derived.Below
namespace Go.Proofs.Ytiaoojocpcldmaa.opsAllX
open Go.Abs Go.RowKit Go.ChangeShapes Go.WideShapes Go.ChangeAt
set_option maxRecDepth 100000
set_option linter.unusedVariables false
set_option linter.unusedSimpArgs false
abbrev A0_ : Type := Bool × Int × List UInt8 × (Int × Int × Int × Int × Int × Int × List Int × Int × Int × Int × Int × Int × List (Int × Int × Int)) × (Int × Int × List (Int × List UInt8) × List (Int × List UInt8) × List (Int × Int × Int × List UInt8 × Int) × Int × Int) × Int
abbrev A1_ : Type := Int × List (List Int) × List (List (List Int × Int))
abbrev A2_ : Type := Int × Int × Int × Int × List UInt8
abbrev A3_ : Type := List A0_ × List (Int × List UInt8 × Bool) × List (List UInt8) × A1_
abbrev T0_ : Ty := .pair .bool (.pair (.int .i64) (.pair .str (.pair (.agg (.pair (.int .i64) (.pair (.int .i64) (.pair (.int .i64) (.pair (.int .i64) (.pair (.int .i64) (.pair (.int .i64) (.pair (.list (.int .i64)) (.pair (.int .i64) (.pair (.int .i64) (.pair (.int .i64) (.pair (.int .i64) (.pair (.int .i64) (.list (.agg (.pair (.int .i64) (.pair (.int .i64) (.int .i64)))))))))))))))))) (.pair (.agg (.pair (.int .i64) (.pair (.int .i64) (.pair (.list (.agg (.pair (.int .i64) .str))) (.pair (.list (.agg (.pair (.int .i64) .str))) (.pair (.list (.agg (.pair (.int .i64) (.pair (.int .i64) (.pair (.int .i64) (.pair .str (.int .i64))))))) (.agg (.pair (.int .i64) (.int .i64))))))))) (.int .i64)))))
abbrev T1_ : Ty := .pair (.int .i64) (.pair (.list (.list (.int .i64))) (.list (.list (.agg (.pair (.list (.int .i64)) (.int .i64))))))
abbrev T2_ : Ty := .pair (.int .i64) (.pair (.int .i64) (.pair (.int .i64) (.pair (.int .i64) .str)))
abbrev T3_ : Ty := .list (.agg (.pair (.list (.int .i64)) (.int .i64)))
abbrev T4_ : Ty := .pair (.list (.agg T0_)) (.pair (.list (.agg (.pair (.int .i64) (.pair .str .bool)))) (.pair (.list .str) (.agg T1_)))
abbrev T5_ : Ty := .pair (.list (.int .u8)) .bool
abbrev T6_ : Ty := .pair (.int .i64) (.pair (.int .i64) (.pair (.int .i64) (.pair (.int .i64) (.pair (.int .i64) (.pair (.int .i64) (.pair (.list (.int .i64)) (.pair (.int .i64) (.pair (.int .i64) (.pair (.int .i64) (.pair (.int .i64) (.pair (.int .i64) (.list (.agg (.pair (.int .i64) (.pair (.int .i64) (.int .i64))))))))))))))))
abbrev T7_ : Ty := .pair (.list (.int .u8)) (.int .i64)
noncomputable abbrev P0 : Program := Try.prog
noncomputable def bodyOf (fn : Func) : Code := fn.body.getD .skip
def L0 : Lend := fun f => aget [] [] f
def kpL (l : List Bool) : Nat → Bool := fun j => l.getD j true
theorem own : ownKnob Try.prog.godebug = none := by kernel_rfl
theorem laidOut : laidOutB Try.prog = true := by kernel_rfl
theorem mixed : P0.follows .mixedOrders = true := by decide +kernel
theorem progOk_ : progOk P0 = true := by decide +kernel
def as_bytes_Clone : List AS := [.val (.list (.int .u8))]
def bs_bytes_Clone : List BS := []
def pout_bytes_Clone : Pat := ⟨[(2, .acc 700005)], [(700005, .nrow 5 (.int .u8) false true)]⟩
noncomputable def G_bytes_Clone  (N : Nat) : OrcT := orcOf []
noncomputable def F_bytes_Clone  (N : Nat) (x : List Int) : Option (List Int) :=
  (evT (G_bytes_Clone  N) L0 P0 []
    [] N 400 (bodyOf Try.f42) ⟨8, slots 0 [.nl ⟨(.int .u8), x⟩], tabU (lbOf as_bytes_Clone bs_bytes_Clone x) [], []⟩).elim (kRet 8 pout_bytes_Clone (kpL []) (lbOf as_bytes_Clone bs_bytes_Clone x))
def out_bytes_Clone (y : List Int) : V × List OK × List OK := (.acc 2000000 0, [], [.nrow 5 false true ⟨(.int .u8), y⟩])
noncomputable def V_bytes_Clone  (N : Nat) (x : List Int) : Option (List Int) :=
  cnd (decide (List.length x * (1:Nat) ≤ (140737488355328:Nat))) (some x) none
theorem FV_bytes_Clone_eq  (N : Nat) (x : List Int) : F_bytes_Clone  N x = V_bytes_Clone  N x := by kernel_rfl
noncomputable def W_bytes_Clone (N : Nat) (x : List Int) : Option (List Int) := V_bytes_Clone  N x
theorem F_bytes_Clone_eq (N : Nat) (x : List Int) : F_bytes_Clone  N x = W_bytes_Clone N x := (FV_bytes_Clone_eq  N x).trans (by kernel_rfl)
noncomputable def conw_bytes_Clone (w : List Int → Option (List Int)) : Con := ⟨42, as_bytes_Clone, bs_bytes_Clone, List Int, w, out_bytes_Clone⟩
noncomputable def con_bytes_Clone (N : Nat) : Con := conw_bytes_Clone (W_bytes_Clone N)
theorem R_bytes_Clone_eq (x : List Int) (y : List Int) : retOf2 P0 Try.f42 (kpL []) (lbOf as_bytes_Clone bs_bytes_Clone x) (patS ⟨8, [], [], []⟩ pout_bytes_Clone y) = some (out_bytes_Clone y) := by kernel_rfl
noncomputable def FA_bytes_Clone : Option (List Int) := (evT (G_bytes_Clone 1) L0 P0 [] [] 1 400 (bodyOf Try.f42) ⟨8, slots 0 [.snil], tabU [] [], []⟩).elim (kRet 8 pout_bytes_Clone (kpL []) [])
theorem FA_bytes_Clone_eq : FA_bytes_Clone = some [] := by kernel_rfl
theorem WN_bytes_Clone (N : Nat) (r : List Int) (h : W_bytes_Clone N [] = some r) : r = [] := by
  have e : W_bytes_Clone N [] = some [] := by kernel_rfl
  rw [e] at h; injection h with h; exact h.symm
theorem con_bytes_Clone_ok (N : Nat) : Con.ok P0 (con_bytes_Clone N) := ⟨⟨Try.f42, Try.func42, by kernel_rfl, by kernel_rfl⟩, fun (x : List Int) (r : List Int) (hr : W_bytes_Clone N x = some r) =>
  clone_split (e := (.int .u8)) (ty := 5) (l := x) (r := r)
    (spec2_evT (Γ := G_bytes_Clone 1) (Λ := L0) (lb := []) (pout := pout_bytes_Clone) (kp := kpL []) mixed (orcOf_ok [] (by simp)) Try.func42 (c := bodyOf Try.f42) (by kernel_rfl) (by kernel_rfl) (of_decide_eq_true (by kernel_rfl)) FA_bytes_Clone_eq (R_bytes_Clone_eq x []))
    (spec2_evT (Γ := G_bytes_Clone N) (Λ := L0) (lb := []) (pout := pout_bytes_Clone) (kp := kpL []) mixed (orcOf_ok [] (by simp)) Try.func42 (c := bodyOf Try.f42) (by kernel_rfl) (by kernel_rfl) (of_decide_eq_true (by kernel_rfl)) ((F_bytes_Clone_eq N x).trans hr) (R_bytes_Clone_eq x r))
    (fun h => by subst h; exact WN_bytes_Clone N r hr)⟩
noncomputable def u_bits_Put : Uf := ⟨30, 31, Try.f30, [.val (.list (.int .u8)), .val (.int .i64)], [],
⟨[(4, .acc 700007)], [(700007, .nrow 5 (.int .u8) false true)]⟩, [],
[(4, .loop [] ⟨[(1, .val (.int .i64)), (5, .acc 700007)], [(700007, .nrow 5 (.int .u8) false true)]⟩ [(.exit 0, ⟨[(1, .val (.int .i64)), (5, .acc 700007)], [(700007, .nrow 5 (.int .u8) false true)]⟩)])],
[], fun y => (.acc 2000000 0, [], [.nrow 5 false true ⟨(.int .u8), y⟩])⟩
noncomputable def V_bits_Put (w_bytes_Clone : List Int → Option (List Int)) (N : Nat) (x : List Int × Int) : Option (List Int) :=
  obind (w_bytes_Clone x.1) fun b => cnd (decide (x.2 < (0:Int))) (some b) (cnd (decide ((1073741824:Int) < x.2)) (some b) (obind (loopN N (fun (v :
    Int × List Int) => cnd (decide ((128:Int) ≤ v.1)) (cnd (decide ((List.length v.2 + List.length [wr .u8 (wr .i64 (Int.tmod v.1 (128:Int) +
    (128:Int)))]) * (1:Nat) ≤ (140737488355328:Nat))) (some (Sum.inl (wr .i64 (Int.tdiv v.1 (128:Int)), v.2 ++ [wr .u8 (wr .i64 (Int.tmod v.1 (128:Int)
    + (128:Int)))]))) none) (some (Sum.inr v))) (x.2, b)) fun (b : Int × List Int) => cnd (decide ((List.length b.2 + List.length [wr .u8 b.1]) *
    (1:Nat) ≤ (140737488355328:Nat))) (some (b.2 ++ [wr .u8 b.1])) none))
theorem q_bits_Put : ∀ w_bytes_Clone N x, u_bits_Put.F L0 P0 (orcOf [conw_bytes_Clone w_bytes_Clone]) N x = V_bits_Put w_bytes_Clone N x := by intros; kernel_rfl
noncomputable def W_bits_Put (N : Nat) := V_bits_Put (W_bytes_Clone N) N
theorem con_bits_Put_ok (N : Nat) : (u_bits_Put.con (W_bits_Put N)).ok P0 := Uf.ok mixed (q_bits_Put (W_bytes_Clone N) N) ⟨con_bytes_Clone_ok N, trivial⟩ Try.func30 (by kernel_rfl) fun x y => by kernel_rfl
noncomputable def u_bits_PutText : Uf := ⟨29, 16, Try.f29, [.val (.list (.int .u8)), .val .str], [],
⟨[(4, .acc 700013)], [(700013, .nrow 5 (.int .u8) false true)]⟩, [],
[],
[], fun y => (.acc 2000000 0, [], [.nrow 5 false true ⟨(.int .u8), y⟩])⟩
noncomputable def V_bits_PutText (w_bytes_Clone : List Int → Option (List Int)) (w_bits_Put : List Int × Int → Option (List Int)) (N : Nat) (x : List Int × List UInt8) : Option (List Int) :=
  cnd (decide ((1073741824:Int) < (↑(List.length x.2) : Int))) (obind (w_bytes_Clone x.1) fun b => some b) (obind (w_bits_Put (x.1, (↑(List.length
    x.2) : Int))) fun b => cnd (decide ((List.length b + List.length (List.map (fun (b : UInt8) => (↑(UInt8.toNat b) : Int)) x.2)) * (1:Nat) ≤
    (140737488355328:Nat))) (some (b ++ List.map (fun (b : UInt8) => (↑(UInt8.toNat b) : Int)) x.2)) none)
theorem q_bits_PutText : ∀ w_bytes_Clone w_bits_Put N x, u_bits_PutText.F L0 P0 (orcOf [conw_bytes_Clone w_bytes_Clone, u_bits_Put.con w_bits_Put]) N x = V_bits_PutText w_bytes_Clone w_bits_Put N x := by intros; kernel_rfl
noncomputable def W_bits_PutText (N : Nat) := V_bits_PutText (W_bytes_Clone N) (W_bits_Put N) N
theorem con_bits_PutText_ok (N : Nat) : (u_bits_PutText.con (W_bits_PutText N)).ok P0 := Uf.ok mixed (q_bits_PutText (W_bytes_Clone N) (W_bits_Put N) N) ⟨con_bytes_Clone_ok N, con_bits_Put_ok N, trivial⟩ Try.func29 (by kernel_rfl) fun x y => by kernel_rfl
noncomputable def u_bits_read : Uf := ⟨50, 47, Try.f50, [.val (.list (.int .u8))], [],
⟨[(2, .val (.alt 102 (.agg (.pair (.int .i64) (.int .i64))) (.alt1 111 (.agg .unit))))], []⟩, [],
[(3, .loop [7] ⟨[(3, .val (.int .i64)), (4, .val (.int .i64)), (9, .val (.int .i64))], []⟩ [(.exit 0, ⟨[], []⟩), (.ret, ⟨[(2, .val (.alt 102 (.agg (.pair (.int .i64) (.int .i64))) (.alt1 111 (.agg .unit))))], []⟩)])],
[(1000007, .reg [(6, [7], ⟨[(28, .val .bool)], []⟩)])], fun y => (valW (.alt 102 (.agg (.pair (.int .i64) (.int .i64))) (.alt1 111 (.agg .unit))) y, [], [])⟩
noncomputable def V_bits_read (N : Nat) (x : List Int) : Option ((Int × Int) ⊕ Unit) :=
  obind (loopN N (fun (v : Int × Int × Int) => cnd (decide (v.2.2 < (↑(List.length x) : Int))) (cnd (decide ((0:Int) ≤ v.2.2) && decide (v.2.2 <
    (↑(List.length x) : Int))) (obind (cnd (decide (v.2.2 = (5:Int))) (some true) (some (decide ((1073741824:Int) < wr .i64 (v.1 + wr .i64 (wr .i64
    (Int.tmod (List.getD x (Int.toNat v.2.2) (0:Int)) (128:Int)) * v.2.1)))))) fun (b : Bool) => cnd b (some (Sum.inr (Sum.inl ()))) (cnd (decide
    (List.getD x (Int.toNat v.2.2) (0:Int) = (0:Int))) (cnd (decide ((0:Int) < v.2.2)) (some (Sum.inr (Sum.inl ()))) (cnd (decide (List.getD x
    (Int.toNat v.2.2) (0:Int) < (128:Int))) (some (Sum.inr (Sum.inr (Sum.inl (wr .i64 (v.1 + wr .i64 (wr .i64 (Int.tmod (List.getD x (Int.toNat v.2.2)
    (0:Int)) (128:Int)) * v.2.1)), wr .i64 (v.2.2 + (1:Int))))))) (some (Sum.inl (wr .i64 (v.1 + wr .i64 (wr .i64 (Int.tmod (List.getD x (Int.toNat
    v.2.2) (0:Int)) (128:Int)) * v.2.1)), wr .i64 (v.2.1 * (128:Int)), wr .i64 (v.2.2 + (1:Int))))))) (cnd (decide (List.getD x (Int.toNat v.2.2)
    (0:Int) < (128:Int))) (some (Sum.inr (Sum.inr (Sum.inl (wr .i64 (v.1 + wr .i64 (wr .i64 (Int.tmod (List.getD x (Int.toNat v.2.2) (0:Int)) (128:Int))
    * v.2.1)), wr .i64 (v.2.2 + (1:Int))))))) (some (Sum.inl (wr .i64 (v.1 + wr .i64 (wr .i64 (Int.tmod (List.getD x (Int.toNat v.2.2) (0:Int))
    (128:Int)) * v.2.1)), wr .i64 (v.2.1 * (128:Int)), wr .i64 (v.2.2 + (1:Int)))))))) none) (some (Sum.inr (Sum.inl ())))) ((0:Int), (1:Int), (0:Int)))
    fun (b : PUnit ⊕ Int × Int ⊕ PUnit) => selim (fun (b : PUnit) => some (Sum.inr ())) (fun (c : Int × Int ⊕ PUnit) => some c) b
theorem q_bits_read : ∀ N x, u_bits_read.F L0 P0 (orcOf []) N x = V_bits_read N x := by intros; kernel_rfl
noncomputable def W_bits_read (N : Nat) := V_bits_read N
theorem con_bits_read_ok (N : Nat) : (u_bits_read.con (W_bits_read N)).ok P0 := Uf.ok mixed (q_bits_read N) trivial Try.func50 (by kernel_rfl) fun x y => by kernel_rfl
noncomputable def u_bits_Take : Uf := ⟨40, 17, Try.f40, [.val (.list (.int .u8))], [],
⟨[(2, .val (.int .i64)), (3, .val (.int .i64)), (4, .val .bool)], []⟩, [],
[],
[], fun y => (.tup [valW (.int .i64) y.1, valW (.int .i64) y.2.1, valW .bool y.2.2], [], [])⟩
noncomputable def V_bits_Take (w_bits_read : List Int → Option ((Int × Int) ⊕ Unit)) (N : Nat) (x : List Int) : Option (Int × Int × Bool) :=
  obind (w_bits_read x) fun b => selim (fun (b : Int × Int) => some (b.1, b.2, true)) (fun (c : PUnit) => some ((0:Int), (0:Int), false)) b
theorem q_bits_Take : ∀ w_bits_read N x, u_bits_Take.F L0 P0 (orcOf [u_bits_read.con w_bits_read]) N x = V_bits_Take w_bits_read N x := by intros; kernel_rfl
noncomputable def W_bits_Take (N : Nat) := V_bits_Take (W_bits_read N) N
theorem con_bits_Take_ok (N : Nat) : (u_bits_Take.con (W_bits_Take N)).ok P0 := Uf.ok mixed (q_bits_Take (W_bits_read N) N) ⟨con_bits_read_ok N, trivial⟩ Try.func40 (by kernel_rfl) fun x y => by kernel_rfl
noncomputable def u_ops_reader_number : Uf := ⟨25, 36, Try.f25, [.ptr 0 0], [.box 52 T5_],
⟨[(0, .ptr 1000000 0), (2, .val (.int .i64))], [(1000000, .box 52 (.val T5_))]⟩, [true],
[],
[], fun y => (valW (.int .i64) y.1, [.box 52 (cellsW T5_ y.2)], [])⟩
noncomputable def V_ops_reader_number (w_bits_Take : List Int → Option (Int × Int × Bool)) (N : Nat) (x : List Int × Bool) : Option (Int × List Int × Bool) :=
  obind (w_bits_Take x.1) fun b => cnd (decide ((0:Int) ≤ b.2.1) && decide (b.2.1 ≤ (↑(List.length x.1) : Int))) (cnd x.2 (some (b.1, List.drop (Int.toNat b.2.1) (List.take (List.length x.1) x.1), true)) (some (b.1, List.drop (Int.toNat b.2.1) (List.take (List.length x.1) x.1), !b.2.2))) none
theorem q_ops_reader_number : ∀ w_bits_Take N x, u_ops_reader_number.F L0 P0 (orcOf [u_bits_Take.con w_bits_Take]) N x = V_ops_reader_number w_bits_Take N x := by intros; kernel_rfl
noncomputable def W_ops_reader_number (N : Nat) := V_ops_reader_number (W_bits_Take N) N
theorem con_ops_reader_number_ok (N : Nat) : (u_ops_reader_number.con (W_ops_reader_number N)).ok P0 := Uf.ok mixed (q_ops_reader_number (W_bits_Take N) N) ⟨con_bits_Take_ok N, trivial⟩ Try.func25 (by kernel_rfl) fun x y => by kernel_rfl
noncomputable def u_bits_TakeText : Uf := ⟨41, 39, Try.f41, [.val (.list (.int .u8))], [],
⟨[(2, .val .str), (3, .val (.int .i64)), (4, .val .bool)], []⟩, [],
[],
[], fun y => (.tup [valW .str y.1, valW (.int .i64) y.2.1, valW .bool y.2.2], [], [])⟩
noncomputable def V_bits_TakeText (w_bits_read : List Int → Option ((Int × Int) ⊕ Unit)) (N : Nat) (x : List Int) : Option (List UInt8 × Int × Bool) :=
  obind (w_bits_read x) fun b => selim (fun (b : Int × Int) => cnd (decide (wr .i64 ((↑(List.length x) : Int) - b.2) < b.1)) (some ([], (0:Int),
    false)) (cnd (decide ((0:Int) ≤ b.2) && decide (b.2 ≤ wr .i64 (b.2 + b.1)) && decide (wr .i64 (b.2 + b.1) ≤ (↑(List.length x) : Int))) (cnd
    (List.all (List.drop (Int.toNat b.2) (List.take (Int.toNat (wr .i64 (b.2 + b.1))) x)) fun (n : Int) => decide ((0:Int) ≤ n) && decide (n <
    (256:Int))) (some (bytesI (List.drop (Int.toNat b.2) (List.take (Int.toNat (wr .i64 (b.2 + b.1))) x)), wr .i64 (b.2 + b.1), true)) none) none)) (fun
    (c : PUnit) => some ([], (0:Int), false)) b
theorem q_bits_TakeText : ∀ w_bits_read N x, u_bits_TakeText.F L0 P0 (orcOf [u_bits_read.con w_bits_read]) N x = V_bits_TakeText w_bits_read N x := by intros; kernel_rfl
noncomputable def W_bits_TakeText (N : Nat) := V_bits_TakeText (W_bits_read N) N
theorem con_bits_TakeText_ok (N : Nat) : (u_bits_TakeText.con (W_bits_TakeText N)).ok P0 := Uf.ok mixed (q_bits_TakeText (W_bits_read N) N) ⟨con_bits_read_ok N, trivial⟩ Try.func41 (by kernel_rfl) fun x y => by kernel_rfl
noncomputable def u_ops_reader_text : Uf := ⟨26, 36, Try.f26, [.ptr 0 0], [.box 52 T5_],
⟨[(0, .ptr 1000000 0), (2, .val .str)], [(1000000, .box 52 (.val T5_))]⟩, [true],
[],
[], fun y => (valW .str y.1, [.box 52 (cellsW T5_ y.2)], [])⟩
noncomputable def V_ops_reader_text (w_bits_TakeText : List Int → Option (List UInt8 × Int × Bool)) (N : Nat) (x : List Int × Bool) : Option (List UInt8 × List Int × Bool) :=
  obind (w_bits_TakeText x.1) fun b => cnd (decide ((0:Int) ≤ b.2.1) && decide (b.2.1 ≤ (↑(List.length x.1) : Int))) (cnd x.2 (some (b.1, List.drop (Int.toNat b.2.1) (List.take (List.length x.1) x.1), true)) (some (b.1, List.drop (Int.toNat b.2.1) (List.take (List.length x.1) x.1), !b.2.2))) none
theorem q_ops_reader_text : ∀ w_bits_TakeText N x, u_ops_reader_text.F L0 P0 (orcOf [u_bits_TakeText.con w_bits_TakeText]) N x = V_ops_reader_text w_bits_TakeText N x := by intros; kernel_rfl
noncomputable def W_ops_reader_text (N : Nat) := V_ops_reader_text (W_bits_TakeText N) N
theorem con_ops_reader_text_ok (N : Nat) : (u_ops_reader_text.con (W_ops_reader_text N)).ok P0 := Uf.ok mixed (q_ops_reader_text (W_bits_TakeText N) N) ⟨con_bits_TakeText_ok N, trivial⟩ Try.func26 (by kernel_rfl) fun x y => by kernel_rfl
noncomputable def u_ops_reader_step : Uf := ⟨17, 46, Try.f17, [.ptr 0 0, .val (.int .i32)], [.box 52 T5_],
⟨[(0, .ptr 1000000 0), (4, .ptr 600004 0)], [(1000000, .box 52 (.val T5_)), (600004, .box 26 (.val T2_))]⟩, [true],
[],
[(14, .cut [] [(.normal, ⟨[(0, .ptr 1000000 0), (4, .ptr 600004 0), (5, .ptr 600005 0), (30, .val .bool)], [(1000000, .box 52 (.val T5_)), (600004, .box 26 (.val T2_)), (600005, .box 26 (.val T2_))]⟩)]),
(8, .cut [] [(.normal, ⟨[(0, .ptr 1000000 0), (4, .ptr 600004 0), (5, .ptr 600005 0), (18, .val .bool)], [(1000000, .box 52 (.val T5_)), (600004, .box 26 (.val T2_)), (600005, .box 26 (.val T2_))]⟩)])], fun y => (valW (.agg T2_) y.2, [.box 52 (cellsW T5_ y.1)], [])⟩
noncomputable def V_ops_reader_step (w_ops_reader_number : List Int × Bool → Option (Int × List Int × Bool)) (w_ops_reader_text : List Int × Bool → Option (List UInt8 × List Int × Bool)) (N : Nat) (x : Int × List Int × Bool) : Option ((List Int × Bool) × A2_) :=
  cnd (decide (x.1 = (1:Int))) (obind (w_ops_reader_number x.2) fun b => obind (w_ops_reader_text b.2) fun b_1 => some (b_1.2, wr .i64 x.1, b.1,
    (0:Int), (0:Int), b_1.1)) (obind (cnd (decide (x.1 = (2:Int))) (some (decide (x.1 = (2:Int)), x.2, ((0:Int), (0:Int), (0:Int), (0:Int), []), wr .i64
    x.1, (0:Int), (0:Int), (0:Int), [])) (cnd (decide (x.1 = (3:Int))) (some (decide (x.1 = (3:Int)), x.2, ((0:Int), (0:Int), (0:Int), (0:Int), []), wr
    .i64 x.1, (0:Int), (0:Int), (0:Int), [])) (some (decide (x.1 = (5:Int)), x.2, ((0:Int), (0:Int), (0:Int), (0:Int), []), wr .i64 x.1, (0:Int),
    (0:Int), (0:Int), [])))) fun (b : Bool × (List Int × Bool) × A2_ × A2_) => cnd b.1
    (obind (w_ops_reader_number b.2.1) fun b_1 => some (b_1.2, b.2.2.2.1, b_1.1, b.2.2.2.2.2)) (cnd (decide (x.1 = (4:Int))) (obind (w_ops_reader_text b.2.1) fun b_1 => some (b_1.2, b.2.2.2.1, b.2.2.2.2.1, b.2.2.2.2.2.1, b.2.2.2.2.2.2.1, b_1.1)) (obind (cnd (decide (x.1 = (6:Int))) (some (decide
    (x.1 = (6:Int)), b.2)) (cnd (decide (x.1 = (7:Int))) (some (decide (x.1 = (7:Int)), b.2)) (some (decide (x.1 = (8:Int)), b.2)))) fun (b : Bool × (List Int × Bool) × A2_ × A2_) => cnd b.1 (obind (w_ops_reader_number b.2.1) fun
    b_1 => some (b_1.2, b.2.2.2.1, b.2.2.2.2.1, b_1.1, b.2.2.2.2.2.2)) (cnd (decide (x.1 = (9:Int))) (obind (w_ops_reader_number b.2.1) fun b_1 =>
    obind (w_ops_reader_number b_1.2) fun b_2 => some (b_2.2, b.2.2.2.1, b.2.2.2.2.1, b_1.1, b_2.1, b.2.2.2.2.2.2.2)) (some (b.2.1, b.2.2.2))))))
theorem q_ops_reader_step : ∀ w_ops_reader_number w_ops_reader_text N x, u_ops_reader_step.F L0 P0 (orcOf [u_ops_reader_number.con w_ops_reader_number, u_ops_reader_text.con w_ops_reader_text]) N x = V_ops_reader_step w_ops_reader_number w_ops_reader_text N x := by intros; kernel_rfl
noncomputable def W_ops_reader_step (N : Nat) := V_ops_reader_step (W_ops_reader_number N) (W_ops_reader_text N) N
theorem con_ops_reader_step_ok (N : Nat) : (u_ops_reader_step.con (W_ops_reader_step N)).ok P0 := Uf.ok mixed (q_ops_reader_step (W_ops_reader_number N) (W_ops_reader_text N) N) ⟨con_ops_reader_number_ok N, con_ops_reader_text_ok N, trivial⟩ Try.func17 (by kernel_rfl) fun x y => by kernel_rfl
noncomputable def u_ops_Take : Uf := ⟨9, 40, Try.f9, [.val (.list (.int .u8))], [],
⟨[(2, .val (.list (.agg T2_)))], []⟩, [],
[(3, .loop [] ⟨[(3, .acc 700003), (4, .ptr 600004 0)], [(700003, .nrow 26 (.agg T2_) true true), (600004, .box 52 (.val T5_))]⟩ [(.exit 0, ⟨[(3, .val (.list (.agg T2_)))], []⟩)])],
[], fun y => (valW (.list (.agg T2_)) y, [], [])⟩
noncomputable def V_ops_Take (w_ops_reader_step : Int × List Int × Bool → Option ((List Int × Bool) × A2_)) (N : Nat) (x : List Int) : Option (List A2_) :=
  obind (loopN N (fun (v : List A2_ × List Int × Bool) => cnd (decide ((0:Int) < (↑(List.length v.2.1) : Int))) (cnd
    (!v.2.2) (cnd (decide ((0:Int) ≤ (0:Int)) && decide ((0:Int) < (↑(List.length v.2.1) : Int))) (cnd (decide ((0:Int) ≤ (1:Int)) && decide ((1:Int) ≤
    (↑(List.length v.2.1) : Int))) (cnd (decide (Int.tmod (wr .i32 (List.getD v.2.1 (0:Nat) (0:Int))) (10:Int) = (0:Int))) (some (Sum.inl (v.1,
    List.drop (1:Nat) (List.take (List.length v.2.1) v.2.1), v.2.2))) (obind (w_ops_reader_step (Int.tmod (wr .i32 (List.getD v.2.1 (0:Nat) (0:Int)))
    (10:Int), List.drop (1:Nat) (List.take (List.length v.2.1) v.2.1), v.2.2)) fun b => cnd (!b.1.2) (cnd (decide ((List.length v.1 + List.length [b.2])
    * (48:Nat) ≤ (140737488355328:Nat))) (some (Sum.inl (v.1 ++ [b.2], b.1))) none) (some (Sum.inl (v.1, b.1))))) none) none) (some (Sum.inr v.1)))
    (some (Sum.inr v.1))) ([], x, false)) fun (b : List A2_) => some b
theorem q_ops_Take : ∀ w_ops_reader_step N x, u_ops_Take.F L0 P0 (orcOf [u_ops_reader_step.con w_ops_reader_step]) N x = V_ops_Take w_ops_reader_step N x := by intros; kernel_rfl
noncomputable def W_ops_Take (N : Nat) := V_ops_Take (W_ops_reader_step N) N
theorem con_ops_Take_ok (N : Nat) : (u_ops_Take.con (W_ops_Take N)).ok P0 := Uf.ok mixed (q_ops_Take (W_ops_reader_step N) N) ⟨con_ops_reader_step_ok N, trivial⟩ Try.func9 (by kernel_rfl) fun x y => by kernel_rfl
noncomputable def u_ops_bytesOf : Uf := ⟨20, 65, Try.f20, [.val (.agg T2_)], [],
⟨[(2, .val (.list (.int .u8)))], []⟩, [],
[],
[(14, .cut [3] [(.normal, ⟨[(1, .ptr 600001 0), (35, .val .bool)], [(600001, .box 26 (.val T2_))]⟩)]),
(8, .cut [3] [(.normal, ⟨[(1, .ptr 600001 0), (21, .val .bool)], [(600001, .box 26 (.val T2_))]⟩)]),
(17, .cut [] [(.normal, ⟨[(1, .ptr 600001 0), (3, .val (.list (.int .u8)))], [(600001, .box 26 (.val T2_))]⟩)])], fun y => (valW (.list (.int .u8)) y, [], [])⟩
noncomputable def V_ops_bytesOf (w_bits_Put : List Int × Int → Option (List Int)) (w_bits_PutText : List Int × List UInt8 → Option (List Int)) (w_ops_Take : List Int → Option (List A2_)) (N : Nat) (x : A2_) : Option (List Int) :=
  obind (cnd (decide (wr .i32 x.1 = (1:Int))) (obind (w_bits_Put ([wr .u8 x.1], x.2.1)) fun b => obind (w_bits_PutText (b, x.2.2.2.2)) fun b => some
    (b, x)) (obind (cnd (decide (wr .i32 x.1 = (2:Int))) (some (decide (wr .i32 x.1 = (2:Int)), x)) (cnd (decide (wr .i32 x.1 = (3:Int))) (some (decide
    (wr .i32 x.1 = (3:Int)), x)) (some (decide (wr .i32 x.1 = (5:Int)), x)))) fun (b : Bool × A2_) => cnd b.1 (obind
    (w_bits_Put ([wr .u8 x.1], b.2.2.1)) fun b_1 => some (b_1, b.2)) (cnd (decide (wr .i32 x.1 = (4:Int))) (obind (w_bits_PutText ([wr .u8 x.1],
    b.2.2.2.2.2)) fun b_1 => some (b_1, b.2)) (obind (cnd (decide (wr .i32 x.1 = (6:Int))) (some (decide (wr .i32 x.1 = (6:Int)), b.2)) (cnd (decide (wr
    .i32 x.1 = (7:Int))) (some (decide (wr .i32 x.1 = (7:Int)), b.2)) (some (decide (wr .i32 x.1 = (8:Int)), b.2)))) fun (b : Bool × A2_) => cnd b.1 (obind (w_bits_Put ([wr .u8 x.1], b.2.2.2.1)) fun b_1 => some (b_1, b.2)) (cnd (decide (wr .i32 x.1 = (9:Int)))
    (obind (w_bits_Put ([wr .u8 x.1], b.2.2.2.1)) fun b_1 => obind (w_bits_Put (b_1, b.2.2.2.2.1)) fun b_2 => some (b_2, b.2)) (some ([wr .u8 x.1],
    b.2))))))) fun (b : List Int × A2_) => obind (w_ops_Take b.1) fun b_1 => cnd (decide ((↑(List.length b_1) : Int) ≠
    (1:Int))) (some []) (cnd (decide ((0:Int) ≤ (0:Int)) && decide ((0:Int) < (↑(List.length b_1) : Int))) (cnd (!(decide (Prod.fst (List.getD b_1
    (0:Nat) ((0:Int), (0:Int), (0:Int), (0:Int), [])) = b.2.1) && (decide (Prod.fst (Prod.snd (List.getD b_1 (0:Nat) ((0:Int), (0:Int), (0:Int),
    (0:Int), []))) = b.2.2.1) && (decide (Prod.fst (Prod.snd (Prod.snd (List.getD b_1 (0:Nat) ((0:Int), (0:Int), (0:Int), (0:Int), [])))) = b.2.2.2.1)
    && (decide (Prod.fst (Prod.snd (Prod.snd (Prod.snd (List.getD b_1 (0:Nat) ((0:Int), (0:Int), (0:Int), (0:Int), []))))) = b.2.2.2.2.1) && Prod.snd
    (Prod.snd (Prod.snd (Prod.snd (List.getD b_1 (0:Nat) ((0:Int), (0:Int), (0:Int), (0:Int), []))))) == b.2.2.2.2.2))))) (some []) (some b.1)) none)
theorem q_ops_bytesOf : ∀ w_bits_Put w_bits_PutText w_ops_Take N x, u_ops_bytesOf.F L0 P0 (orcOf [u_bits_Put.con w_bits_Put, u_bits_PutText.con w_bits_PutText, u_ops_Take.con w_ops_Take]) N x = V_ops_bytesOf w_bits_Put w_bits_PutText w_ops_Take N x := by intros; kernel_rfl
noncomputable def W_ops_bytesOf (N : Nat) := V_ops_bytesOf (W_bits_Put N) (W_bits_PutText N) (W_ops_Take N) N
theorem con_ops_bytesOf_ok (N : Nat) : (u_ops_bytesOf.con (W_ops_bytesOf N)).ok P0 := Uf.ok mixed (q_ops_bytesOf (W_bits_Put N) (W_bits_PutText N) (W_ops_Take N) N) ⟨con_bits_Put_ok N, con_bits_PutText_ok N, con_ops_Take_ok N, trivial⟩ Try.func20 (by kernel_rfl) fun x y => by kernel_rfl
noncomputable def u_ops_Put : Uf := ⟨11, 18, Try.f11, [.val (.list (.agg T2_))], [],
⟨[(2, .val (.list (.int .u8)))], []⟩, [],
[(3, .loop [6] ⟨[(3, .acc 700003), (8, .val (.int .i64))], [(700003, .nrow 5 (.int .u8) true true)]⟩ [(.exit 0, ⟨[(3, .val (.list (.int .u8)))], []⟩)])],
[], fun y => (valW (.list (.int .u8)) y, [], [])⟩
noncomputable def V_ops_Put (w_ops_bytesOf : A2_ → Option (List Int)) (N : Nat) (x : List A2_) : Option (List Int) :=
  obind (loopN N (fun (v : Int × List Int) => cnd (decide (v.1 < (↑(List.length x) : Int))) (cnd (decide ((0:Int) ≤ v.1) && decide (v.1 < (↑(List.length
    x) : Int))) (obind (w_ops_bytesOf (Prod.fst (List.getD x (Int.toNat v.1) ((0:Int), (0:Int), (0:Int), (0:Int), [])), Prod.fst (Prod.snd (List.getD
    x (Int.toNat v.1) ((0:Int), (0:Int), (0:Int), (0:Int), []))), Prod.fst (Prod.snd (Prod.snd (List.getD x (Int.toNat v.1) ((0:Int), (0:Int), (0:Int),
    (0:Int), [])))), Prod.fst (Prod.snd (Prod.snd (Prod.snd (List.getD x (Int.toNat v.1) ((0:Int), (0:Int), (0:Int), (0:Int), []))))), Prod.snd
    (Prod.snd (Prod.snd (Prod.snd (List.getD x (Int.toNat v.1) ((0:Int), (0:Int), (0:Int), (0:Int), []))))))) fun b => cnd (decide ((List.length v.2 +
    List.length b) * (1:Nat) ≤ (140737488355328:Nat))) (some (Sum.inl (wr .i64 (v.1 + (1:Int)), v.2 ++ b))) none) none) (some (Sum.inr v.2))) ((0:Int),
    [])) fun (b : List Int) => some b
theorem q_ops_Put : ∀ w_ops_bytesOf N x, u_ops_Put.F L0 P0 (orcOf [u_ops_bytesOf.con w_ops_bytesOf]) N x = V_ops_Put w_ops_bytesOf N x := by intros; kernel_rfl
noncomputable def W_ops_Put (N : Nat) := V_ops_Put (W_ops_bytesOf N) N
theorem con_ops_Put_ok (N : Nat) : (u_ops_Put.con (W_ops_Put N)).ok P0 := Uf.ok mixed (q_ops_Put (W_ops_bytesOf N) N) ⟨con_ops_bytesOf_ok N, trivial⟩ Try.func11 (by kernel_rfl) fun x y => by kernel_rfl
noncomputable def u_law25_begun : Uf := ⟨4, 24, Try.f4, [], [],
⟨[(0, .val .bool)], []⟩, [],
[],
[(1000003, .reg [(8, [2], ⟨[(16, .val .bool)], []⟩)])], fun y => (valW .bool y, [], [])⟩
noncomputable def V_law25_begun (w_ops_Put : List A2_ → Option (List Int)) (w_ops_Take : List Int → Option (List A2_)) (N : Nat) (x : Unit) : Option (Bool) :=
  obind (w_ops_Put [((5:Int), (1:Int), (0:Int), (0:Int), []), ((1:Int), (2:Int), (0:Int), (0:Int), [(98 : UInt8)])]) fun b => obind (w_ops_Take b)
    fun b_1 => obind (cnd (List.all b fun (n : Int) => decide ((0:Int) ≤ n) && decide (n < (256:Int))) (cnd (List.map (fun (n : Int) => UInt8.ofNat
    (Int.toNat n)) b == [(5 : UInt8), (1 : UInt8), (1 : UInt8), (2 : UInt8), (1 : UInt8), (98 : UInt8)]) (some (decide ((↑(List.length b_1) : Int) =
    (2:Int)))) (some false)) none) fun (b : Bool) => cnd b (cnd (decide ((0:Int) ≤ (1:Int)) && decide ((1:Int) < (↑(List.length b_1) : Int))) (some
    (Prod.snd (Prod.snd (Prod.snd (Prod.snd (List.getD b_1 (1:Nat) ((0:Int), (0:Int), (0:Int), (0:Int), []))))) == [(98 : UInt8)])) none) (some false)
theorem q_law25_begun : ∀ w_ops_Put w_ops_Take N x, u_law25_begun.F L0 P0 (orcOf [u_ops_Put.con w_ops_Put, u_ops_Take.con w_ops_Take]) N x = V_law25_begun w_ops_Put w_ops_Take N x := by intros; kernel_rfl
noncomputable def W_law25_begun (N : Nat) := V_law25_begun (W_ops_Put N) (W_ops_Take N) N
theorem con_law25_begun_ok (N : Nat) : (u_law25_begun.con (W_law25_begun N)).ok P0 := Uf.ok mixed (q_law25_begun (W_ops_Put N) (W_ops_Take N) N) ⟨con_ops_Put_ok N, con_ops_Take_ok N, trivial⟩ Try.func4 (by kernel_rfl) fun x y => by kernel_rfl
noncomputable def u_Made : Uf := ⟨5, 6, Try.f5, [.val (.list (.int .u8))], [],
⟨[(2, .ptr 600005 0)], [(600005, .box 45 (.val T7_))]⟩, [],
[],
[], fun y => (.ptr 2000000 0 0, [], [.box 45 (cellsW T7_ y)])⟩
noncomputable def V_Made (N : Nat) (x : List Int) : Option (List Int × Int) :=
  some (x, (0:Int))
theorem q_Made : ∀ N x, u_Made.F L0 P0 (orcOf []) N x = V_Made N x := by intros; kernel_rfl
noncomputable def W_Made (N : Nat) := V_Made N
theorem con_Made_ok (N : Nat) : (u_Made.con (W_Made N)).ok P0 := Uf.ok mixed (q_Made N) trivial Try.func5 (by kernel_rfl) fun x y => by kernel_rfl
noncomputable def u_Picks_Num : Uf := ⟨15, 40, Try.f15, [.ptr 0 0, .val (.int .i64)], [.box 45 T7_],
⟨[(0, .ptr 1000000 0), (4, .val (.int .i64))], [(1000000, .box 45 (.val T7_))]⟩, [true],
[],
[], fun y => (valW (.int .i64) y.1, [.box 45 (cellsW T7_ y.2)], [])⟩
noncomputable def V_Picks_Num (N : Nat) (x : Int × List Int × Int) : Option (Int × List Int × Int) :=
  cnd (decide ((↑(List.length x.2.1) : Int) ≤ x.2.2)) (some ((0:Int), x.2)) (cnd (decide (x.1 < (1:Int))) (some ((0:Int), x.2)) (cnd (decide ((0:Int) ≤
    wr .i64 (wr .i64 (x.2.2 + (1:Int)) - (1:Int))) && decide (wr .i64 (wr .i64 (x.2.2 + (1:Int)) - (1:Int)) < (↑(List.length x.2.1) : Int))) (cnd
    (!decide (x.1 = (0:Int))) (some (Int.tmod (wr .i64 (List.getD x.2.1 (Int.toNat (wr .i64 (wr .i64 (x.2.2 + (1:Int)) - (1:Int)))) (0:Int))) x.1,
    x.2.1, wr .i64 (x.2.2 + (1:Int)))) none) none))
theorem q_Picks_Num : ∀ N x, u_Picks_Num.F L0 P0 (orcOf []) N x = V_Picks_Num N x := by intros; kernel_rfl
noncomputable def W_Picks_Num (N : Nat) := V_Picks_Num N
theorem con_Picks_Num_ok (N : Nat) : (u_Picks_Num.con (W_Picks_Num N)).ok P0 := Uf.ok mixed (q_Picks_Num N) trivial Try.func15 (by kernel_rfl) fun x y => by kernel_rfl
noncomputable def u_Picks_Dist : Uf := ⟨14, 45, Try.f14, [.ptr 0 0], [.box 45 T7_],
⟨[(0, .ptr 1000000 0), (2, .val (.list (.list (.int .i64))))], [(1000000, .box 45 (.val T7_))]⟩, [true],
[(3, .unroll 9),
(10, .unroll 9),
(7, .unroll 9)],
[], fun y => (valW (.list (.list (.int .i64))) y.1, [.box 45 (cellsW T7_ y.2)], [])⟩
noncomputable def V_Picks_Dist (w_Picks_Num : Int × List Int × Int → Option (Int × List Int × Int)) (N : Nat) (x : List Int × Int) : Option (List (List Int) × List Int × Int) :=
  obind (w_Picks_Num ((9:Int), x)) fun b0 => cnd (decide ((0:Int) ≤ b0.1)) (cnd (decide (b0.1 < ((↑(9:Nat) : Int) : Int))) (obind (w_Picks_Num
    ((9:Int), b0.2)) fun b1 => cnd (decide ((0:Int) ≤ b1.1)) (cnd (decide (b1.1 < ((↑(9:Nat) : Int) : Int))) (obind (w_Picks_Num ((9:Int), b1.2)) fun
    b2 => cnd (decide ((0:Int) ≤ b2.1)) (cnd (decide (b2.1 < ((↑(9:Nat) : Int) : Int))) (obind (w_Picks_Num ((9:Int), b2.2)) fun b3 => cnd (decide
    ((0:Int) ≤ b3.1)) (cnd (decide (b3.1 < ((↑(9:Nat) : Int) : Int))) (obind (w_Picks_Num ((9:Int), b3.2)) fun b4 => cnd (decide ((0:Int) ≤ b4.1))
    (cnd (decide (b4.1 < ((↑(9:Nat) : Int) : Int))) (obind (w_Picks_Num ((9:Int), b4.2)) fun b5 => cnd (decide ((0:Int) ≤ b5.1)) (cnd (decide (b5.1 <
    ((↑(9:Nat) : Int) : Int))) (obind (w_Picks_Num ((9:Int), b5.2)) fun b6 => cnd (decide ((0:Int) ≤ b6.1)) (cnd (decide (b6.1 < ((↑(9:Nat) : Int) :
    Int))) (obind (w_Picks_Num ((9:Int), b6.2)) fun b7 => cnd (decide ((0:Int) ≤ b7.1)) (cnd (decide (b7.1 < ((↑(9:Nat) : Int) : Int))) (obind
    (w_Picks_Num ((9:Int), b7.2)) fun b8 => cnd (decide ((0:Int) ≤ b8.1)) (cnd (decide (b8.1 < ((↑(9:Nat) : Int) : Int))) (obind (w_Picks_Num
    ((9:Int), b8.2)) fun b9 => cnd (decide ((0:Int) ≤ b9.1)) (cnd (decide (b9.1 < ((↑(9:Nat) : Int) : Int))) (obind (w_Picks_Num ((9:Int), b9.2)) fun
    b10 => cnd (decide ((0:Int) ≤ b10.1)) (cnd (decide (b10.1 < ((↑(9:Nat) : Int) : Int))) (obind (w_Picks_Num ((9:Int), b10.2)) fun b11 => cnd
    (decide ((0:Int) ≤ b11.1)) (cnd (decide (b11.1 < ((↑(9:Nat) : Int) : Int))) (obind (w_Picks_Num ((9:Int), b11.2)) fun b12 => cnd (decide ((0:Int)
    ≤ b12.1)) (cnd (decide (b12.1 < ((↑(9:Nat) : Int) : Int))) (obind (w_Picks_Num ((9:Int), b12.2)) fun b13 => cnd (decide ((0:Int) ≤ b13.1)) (cnd
    (decide (b13.1 < ((↑(9:Nat) : Int) : Int))) (obind (w_Picks_Num ((9:Int), b13.2)) fun b14 => cnd (decide ((0:Int) ≤ b14.1)) (cnd (decide (b14.1 <
    ((↑(9:Nat) : Int) : Int))) (obind (w_Picks_Num ((9:Int), b14.2)) fun b15 => cnd (decide ((0:Int) ≤ b15.1)) (cnd (decide (b15.1 < ((↑(9:Nat) : Int)
    : Int))) (obind (w_Picks_Num ((9:Int), b15.2)) fun b16 => cnd (decide ((0:Int) ≤ b16.1)) (cnd (decide (b16.1 < ((↑(9:Nat) : Int) : Int))) (obind
    (w_Picks_Num ((9:Int), b16.2)) fun b17 => cnd (decide ((0:Int) ≤ b17.1)) (cnd (decide (b17.1 < ((↑(9:Nat) : Int) : Int))) (obind (w_Picks_Num
    ((9:Int), b17.2)) fun b18 => cnd (decide ((0:Int) ≤ b18.1)) (cnd (decide (b18.1 < ((↑(9:Nat) : Int) : Int))) (obind (w_Picks_Num ((9:Int), b18.2))
    fun b19 => cnd (decide ((0:Int) ≤ b19.1)) (cnd (decide (b19.1 < ((↑(9:Nat) : Int) : Int))) (obind (w_Picks_Num ((9:Int), b19.2)) fun b20 => cnd
    (decide ((0:Int) ≤ b20.1)) (cnd (decide (b20.1 < ((↑(9:Nat) : Int) : Int))) (obind (w_Picks_Num ((9:Int), b20.2)) fun b21 => cnd (decide ((0:Int)
    ≤ b21.1)) (cnd (decide (b21.1 < ((↑(9:Nat) : Int) : Int))) (obind (w_Picks_Num ((9:Int), b21.2)) fun b22 => cnd (decide ((0:Int) ≤ b22.1)) (cnd
    (decide (b22.1 < ((↑(9:Nat) : Int) : Int))) (obind (w_Picks_Num ((9:Int), b22.2)) fun b23 => cnd (decide ((0:Int) ≤ b23.1)) (cnd (decide (b23.1 <
    ((↑(9:Nat) : Int) : Int))) (obind (w_Picks_Num ((9:Int), b23.2)) fun b24 => cnd (decide ((0:Int) ≤ b24.1)) (cnd (decide (b24.1 < ((↑(9:Nat) : Int)
    : Int))) (obind (w_Picks_Num ((9:Int), b24.2)) fun b25 => cnd (decide ((0:Int) ≤ b25.1)) (cnd (decide (b25.1 < ((↑(9:Nat) : Int) : Int))) (obind
    (w_Picks_Num ((9:Int), b25.2)) fun b26 => cnd (decide ((0:Int) ≤ b26.1)) (cnd (decide (b26.1 < ((↑(9:Nat) : Int) : Int))) (obind (w_Picks_Num
    ((9:Int), b26.2)) fun b27 => cnd (decide ((0:Int) ≤ b27.1)) (cnd (decide (b27.1 < ((↑(9:Nat) : Int) : Int))) (some ([[(0:Int), List.getD [(1:Int),
    (2:Int), (3:Int), (5:Int), (9:Int), (9:Int), (20:Int), (1000:Int), (0:Int)] (Int.toNat b0.1) (0:Int), List.getD [(1:Int), (2:Int), (3:Int), (5:Int),
    (9:Int), (9:Int), (20:Int), (1000:Int), (0:Int)] (Int.toNat b1.1) (0:Int), List.getD [(1:Int), (2:Int), (3:Int), (5:Int), (9:Int), (9:Int),
    (20:Int), (1000:Int), (0:Int)] (Int.toNat b3.1) (0:Int), List.getD [(1:Int), (2:Int), (3:Int), (5:Int), (9:Int), (9:Int), (20:Int), (1000:Int),
    (0:Int)] (Int.toNat b6.1) (0:Int), List.getD [(1:Int), (2:Int), (3:Int), (5:Int), (9:Int), (9:Int), (20:Int), (1000:Int), (0:Int)] (Int.toNat b10.1)
    (0:Int), List.getD [(1:Int), (2:Int), (3:Int), (5:Int), (9:Int), (9:Int), (20:Int), (1000:Int), (0:Int)] (Int.toNat b15.1) (0:Int), List.getD
    [(1:Int), (2:Int), (3:Int), (5:Int), (9:Int), (9:Int), (20:Int), (1000:Int), (0:Int)] (Int.toNat b21.1) (0:Int)], [List.getD [(1:Int), (2:Int),
    (3:Int), (5:Int), (9:Int), (9:Int), (20:Int), (1000:Int), (0:Int)] (Int.toNat b0.1) (0:Int), (0:Int), List.getD [(1:Int), (2:Int), (3:Int), (5:Int),
    (9:Int), (9:Int), (20:Int), (1000:Int), (0:Int)] (Int.toNat b2.1) (0:Int), List.getD [(1:Int), (2:Int), (3:Int), (5:Int), (9:Int), (9:Int),
    (20:Int), (1000:Int), (0:Int)] (Int.toNat b4.1) (0:Int), List.getD [(1:Int), (2:Int), (3:Int), (5:Int), (9:Int), (9:Int), (20:Int), (1000:Int),
    (0:Int)] (Int.toNat b7.1) (0:Int), List.getD [(1:Int), (2:Int), (3:Int), (5:Int), (9:Int), (9:Int), (20:Int), (1000:Int), (0:Int)] (Int.toNat b11.1)
    (0:Int), List.getD [(1:Int), (2:Int), (3:Int), (5:Int), (9:Int), (9:Int), (20:Int), (1000:Int), (0:Int)] (Int.toNat b16.1) (0:Int), List.getD
    [(1:Int), (2:Int), (3:Int), (5:Int), (9:Int), (9:Int), (20:Int), (1000:Int), (0:Int)] (Int.toNat b22.1) (0:Int)], [List.getD [(1:Int), (2:Int),
    (3:Int), (5:Int), (9:Int), (9:Int), (20:Int), (1000:Int), (0:Int)] (Int.toNat b1.1) (0:Int), List.getD [(1:Int), (2:Int), (3:Int), (5:Int), (9:Int),
    (9:Int), (20:Int), (1000:Int), (0:Int)] (Int.toNat b2.1) (0:Int), (0:Int), List.getD [(1:Int), (2:Int), (3:Int), (5:Int), (9:Int), (9:Int),
    (20:Int), (1000:Int), (0:Int)] (Int.toNat b5.1) (0:Int), List.getD [(1:Int), (2:Int), (3:Int), (5:Int), (9:Int), (9:Int), (20:Int), (1000:Int),
    (0:Int)] (Int.toNat b8.1) (0:Int), List.getD [(1:Int), (2:Int), (3:Int), (5:Int), (9:Int), (9:Int), (20:Int), (1000:Int), (0:Int)] (Int.toNat b12.1)
    (0:Int), List.getD [(1:Int), (2:Int), (3:Int), (5:Int), (9:Int), (9:Int), (20:Int), (1000:Int), (0:Int)] (Int.toNat b17.1) (0:Int), List.getD
    [(1:Int), (2:Int), (3:Int), (5:Int), (9:Int), (9:Int), (20:Int), (1000:Int), (0:Int)] (Int.toNat b23.1) (0:Int)], [List.getD [(1:Int), (2:Int),
    (3:Int), (5:Int), (9:Int), (9:Int), (20:Int), (1000:Int), (0:Int)] (Int.toNat b3.1) (0:Int), List.getD [(1:Int), (2:Int), (3:Int), (5:Int), (9:Int),
    (9:Int), (20:Int), (1000:Int), (0:Int)] (Int.toNat b4.1) (0:Int), List.getD [(1:Int), (2:Int), (3:Int), (5:Int), (9:Int), (9:Int), (20:Int),
    (1000:Int), (0:Int)] (Int.toNat b5.1) (0:Int), (0:Int), List.getD [(1:Int), (2:Int), (3:Int), (5:Int), (9:Int), (9:Int), (20:Int), (1000:Int),
    (0:Int)] (Int.toNat b9.1) (0:Int), List.getD [(1:Int), (2:Int), (3:Int), (5:Int), (9:Int), (9:Int), (20:Int), (1000:Int), (0:Int)] (Int.toNat b13.1)
    (0:Int), List.getD [(1:Int), (2:Int), (3:Int), (5:Int), (9:Int), (9:Int), (20:Int), (1000:Int), (0:Int)] (Int.toNat b18.1) (0:Int), List.getD
    [(1:Int), (2:Int), (3:Int), (5:Int), (9:Int), (9:Int), (20:Int), (1000:Int), (0:Int)] (Int.toNat b24.1) (0:Int)], [List.getD [(1:Int), (2:Int),
    (3:Int), (5:Int), (9:Int), (9:Int), (20:Int), (1000:Int), (0:Int)] (Int.toNat b6.1) (0:Int), List.getD [(1:Int), (2:Int), (3:Int), (5:Int), (9:Int),
    (9:Int), (20:Int), (1000:Int), (0:Int)] (Int.toNat b7.1) (0:Int), List.getD [(1:Int), (2:Int), (3:Int), (5:Int), (9:Int), (9:Int), (20:Int),
    (1000:Int), (0:Int)] (Int.toNat b8.1) (0:Int), List.getD [(1:Int), (2:Int), (3:Int), (5:Int), (9:Int), (9:Int), (20:Int), (1000:Int), (0:Int)]
    (Int.toNat b9.1) (0:Int), (0:Int), List.getD [(1:Int), (2:Int), (3:Int), (5:Int), (9:Int), (9:Int), (20:Int), (1000:Int), (0:Int)] (Int.toNat b14.1)
    (0:Int), List.getD [(1:Int), (2:Int), (3:Int), (5:Int), (9:Int), (9:Int), (20:Int), (1000:Int), (0:Int)] (Int.toNat b19.1) (0:Int), List.getD
    [(1:Int), (2:Int), (3:Int), (5:Int), (9:Int), (9:Int), (20:Int), (1000:Int), (0:Int)] (Int.toNat b25.1) (0:Int)], [List.getD [(1:Int), (2:Int),
    (3:Int), (5:Int), (9:Int), (9:Int), (20:Int), (1000:Int), (0:Int)] (Int.toNat b10.1) (0:Int), List.getD [(1:Int), (2:Int), (3:Int), (5:Int),
    (9:Int), (9:Int), (20:Int), (1000:Int), (0:Int)] (Int.toNat b11.1) (0:Int), List.getD [(1:Int), (2:Int), (3:Int), (5:Int), (9:Int), (9:Int),
    (20:Int), (1000:Int), (0:Int)] (Int.toNat b12.1) (0:Int), List.getD [(1:Int), (2:Int), (3:Int), (5:Int), (9:Int), (9:Int), (20:Int), (1000:Int),
    (0:Int)] (Int.toNat b13.1) (0:Int), List.getD [(1:Int), (2:Int), (3:Int), (5:Int), (9:Int), (9:Int), (20:Int), (1000:Int), (0:Int)] (Int.toNat
    b14.1) (0:Int), (0:Int), List.getD [(1:Int), (2:Int), (3:Int), (5:Int), (9:Int), (9:Int), (20:Int), (1000:Int), (0:Int)] (Int.toNat b20.1) (0:Int),
    List.getD [(1:Int), (2:Int), (3:Int), (5:Int), (9:Int), (9:Int), (20:Int), (1000:Int), (0:Int)] (Int.toNat b26.1) (0:Int)], [List.getD [(1:Int),
    (2:Int), (3:Int), (5:Int), (9:Int), (9:Int), (20:Int), (1000:Int), (0:Int)] (Int.toNat b15.1) (0:Int), List.getD [(1:Int), (2:Int), (3:Int),
    (5:Int), (9:Int), (9:Int), (20:Int), (1000:Int), (0:Int)] (Int.toNat b16.1) (0:Int), List.getD [(1:Int), (2:Int), (3:Int), (5:Int), (9:Int),
    (9:Int), (20:Int), (1000:Int), (0:Int)] (Int.toNat b17.1) (0:Int), List.getD [(1:Int), (2:Int), (3:Int), (5:Int), (9:Int), (9:Int), (20:Int),
    (1000:Int), (0:Int)] (Int.toNat b18.1) (0:Int), List.getD [(1:Int), (2:Int), (3:Int), (5:Int), (9:Int), (9:Int), (20:Int), (1000:Int), (0:Int)]
    (Int.toNat b19.1) (0:Int), List.getD [(1:Int), (2:Int), (3:Int), (5:Int), (9:Int), (9:Int), (20:Int), (1000:Int), (0:Int)] (Int.toNat b20.1)
    (0:Int), (0:Int), List.getD [(1:Int), (2:Int), (3:Int), (5:Int), (9:Int), (9:Int), (20:Int), (1000:Int), (0:Int)] (Int.toNat b27.1) (0:Int)],
    [List.getD [(1:Int), (2:Int), (3:Int), (5:Int), (9:Int), (9:Int), (20:Int), (1000:Int), (0:Int)] (Int.toNat b21.1) (0:Int), List.getD [(1:Int),
    (2:Int), (3:Int), (5:Int), (9:Int), (9:Int), (20:Int), (1000:Int), (0:Int)] (Int.toNat b22.1) (0:Int), List.getD [(1:Int), (2:Int), (3:Int),
    (5:Int), (9:Int), (9:Int), (20:Int), (1000:Int), (0:Int)] (Int.toNat b23.1) (0:Int), List.getD [(1:Int), (2:Int), (3:Int), (5:Int), (9:Int),
    (9:Int), (20:Int), (1000:Int), (0:Int)] (Int.toNat b24.1) (0:Int), List.getD [(1:Int), (2:Int), (3:Int), (5:Int), (9:Int), (9:Int), (20:Int),
    (1000:Int), (0:Int)] (Int.toNat b25.1) (0:Int), List.getD [(1:Int), (2:Int), (3:Int), (5:Int), (9:Int), (9:Int), (20:Int), (1000:Int), (0:Int)]
    (Int.toNat b26.1) (0:Int), List.getD [(1:Int), (2:Int), (3:Int), (5:Int), (9:Int), (9:Int), (20:Int), (1000:Int), (0:Int)] (Int.toNat b27.1)
    (0:Int), (0:Int)]], b27.2)) none) none) none) none) none) none) none) none) none) none) none) none) none) none) none) none) none) none) none) none)
    none) none) none) none) none) none) none) none) none) none) none) none) none) none) none) none) none) none) none) none) none) none) none) none)
    none) none) none) none) none) none) none) none) none) none) none) none
theorem q_Picks_Dist : ∀ w_Picks_Num N x, u_Picks_Dist.F L0 P0 (orcOf [u_Picks_Num.con w_Picks_Num]) N x = V_Picks_Dist w_Picks_Num N x := by intros; kernel_rfl
noncomputable def W_Picks_Dist (N : Nat) := V_Picks_Dist (W_Picks_Num N) N
theorem con_Picks_Dist_ok (N : Nat) : (u_Picks_Dist.con (W_Picks_Dist N)).ok P0 := Uf.ok mixed (q_Picks_Dist (W_Picks_Num N) N) ⟨con_Picks_Num_ok N, trivial⟩ Try.func14 (by kernel_rfl) fun x y => by kernel_rfl
noncomputable def u_ref1_MayDist : Uf := ⟨33, 83, Try.f33, [.val (.list (.list (.int .i64)))], [],
⟨[(2, .val .bool)], []⟩, [],
[(4, .loop [] ⟨[(3, .val (.int .i64))], []⟩ [(.exit 0, ⟨[], []⟩), (.ret, ⟨[(2, .val .bool)], []⟩)]),
(12, .loop [] ⟨[(5, .val (.int .i64))], []⟩ [(.exit 4, ⟨[], []⟩), (.ret, ⟨[(2, .val .bool)], []⟩)]),
(9, .loop [] ⟨[(4, .val (.int .i64))], []⟩ [(.exit 2, ⟨[], []⟩), (.ret, ⟨[(2, .val .bool)], []⟩)])],
[], fun y => (valW .bool y, [], [])⟩
noncomputable def V_ref1_MayDist (N : Nat) (x : List (List Int)) : Option (Bool) :=
  cnd (decide ((↑(List.length x) : Int) ≠ (8:Int))) (some false) (obind (loopN N (fun (v : Int) => cnd (decide (v < (↑(List.length x) : Int))) (cnd
    (decide ((0:Int) ≤ v) && decide (v < (↑(List.length x) : Int))) (cnd (decide ((↑(List.length (List.getD x (Int.toNat v) [])) : Int) ≠ (8:Int)))
    (some (Sum.inr (Sum.inr false))) (some (Sum.inl (wr .i64 (v + (1:Int)))))) none) (some (Sum.inr (Sum.inl ())))) (Int.ofNat (0:Nat))) fun (b : PUnit
    ⊕ Bool) => selim (fun (b : PUnit) => obind (loopN N (fun (v : Int) => cnd (decide (v < (↑(List.length x) : Int))) (obind (loopN N (fun (v_1 : Int)
    => cnd (decide (v_1 < (↑(List.length x) : Int))) (cnd (decide ((0:Int) ≤ v) && decide (v < (↑(List.length x) : Int))) (cnd (decide ((0:Int) ≤ v_1)
    && decide (v_1 < (↑(List.length (List.getD x (Int.toNat v) [])) : Int))) (cnd (decide (List.getD (List.getD x (Int.toNat v) []) (Int.toNat v_1)
    (0:Int) < (0:Int))) (some (Sum.inr (Sum.inr false))) (cnd (decide ((0:Int) ≤ v) && decide (v < (↑(List.length x) : Int))) (cnd (decide ((0:Int) ≤
    v_1) && decide (v_1 < (↑(List.length (List.getD x (Int.toNat v) [])) : Int))) (cnd (decide ((1000:Int) < List.getD (List.getD x (Int.toNat v) [])
    (Int.toNat v_1) (0:Int))) (some (Sum.inr (Sum.inr false))) (cnd (decide ((0:Int) ≤ v) && decide (v < (↑(List.length x) : Int))) (cnd (decide
    ((0:Int) ≤ v_1) && decide (v_1 < (↑(List.length (List.getD x (Int.toNat v) [])) : Int))) (cnd (decide ((0:Int) ≤ v_1) && decide (v_1 <
    (↑(List.length x) : Int))) (cnd (decide ((0:Int) ≤ v) && decide (v < (↑(List.length (List.getD x (Int.toNat v_1) [])) : Int))) (cnd (decide
    (List.getD (List.getD x (Int.toNat v) []) (Int.toNat v_1) (0:Int) ≠ List.getD (List.getD x (Int.toNat v_1) []) (Int.toNat v) (0:Int))) (some
    (Sum.inr (Sum.inr false))) (cnd (decide (v = v_1)) (cnd (decide ((0:Int) ≤ v) && decide (v < (↑(List.length x) : Int))) (cnd (decide ((0:Int) ≤ v_1)
    && decide (v_1 < (↑(List.length (List.getD x (Int.toNat v) [])) : Int))) (cnd (decide (List.getD (List.getD x (Int.toNat v) []) (Int.toNat v_1)
    (0:Int) ≠ (0:Int))) (some (Sum.inr (Sum.inr false))) (some (Sum.inl (wr .i64 (v_1 + (1:Int)))))) none) none) (some (Sum.inl (wr .i64 (v_1 +
    (1:Int))))))) none) none) none) none)) none) none)) none) none) (some (Sum.inr (Sum.inl ())))) (Int.ofNat (0:Nat))) fun (b : PUnit ⊕ Bool) => selim
    (fun (b : PUnit) => some (Sum.inl (wr .i64 (v + (1:Int))))) (fun (c : Bool) => some (Sum.inr (Sum.inr c))) b) (some (Sum.inr (Sum.inl ()))))
    (Int.ofNat (0:Nat))) fun (b : PUnit ⊕ Bool) => selim (fun (b : PUnit) => some true) (fun (c : Bool) => some c) b) (fun (c : Bool) => some c) b)
theorem q_ref1_MayDist : ∀ N x, u_ref1_MayDist.F L0 P0 (orcOf []) N x = V_ref1_MayDist N x := by intros; kernel_rfl
noncomputable def W_ref1_MayDist (N : Nat) := V_ref1_MayDist N
theorem con_ref1_MayDist_ok (N : Nat) : (u_ref1_MayDist.con (W_ref1_MayDist N)).ok P0 := Uf.ok mixed (q_ref1_MayDist N) trivial Try.func33 (by kernel_rfl) fun x y => by kernel_rfl
noncomputable def u_ref7_New : Uf := ⟨22, 40, Try.f22, [.val (.list (.list (.int .i64))), .val (.int .i64)], [],
⟨[(4, .ptr 600004 0), (5, .val .bool)], [(600004, .box 35 (.val T1_))]⟩, [],
[(5, .loop [] ⟨[(4, .ptr 600004 0), (6, .ptr 600006 0), (7, .val (.int .i64))], [(600004, .box 35 (.val T1_)), (600006, .box 35 (.pair (.val (.int .i64)) (.pair (.acc 602006) (.val (.list T3_))))), (602006, .nrow 62 (.list (.int .i64)) false true)]⟩ [(.exit 0, ⟨[(4, .ptr 600004 0), (6, .ptr 600006 0)], [(600004, .box 35 (.val T1_)), (600006, .box 35 (.pair (.val (.int .i64)) (.pair (.acc 602006) (.val (.list T3_))))), (602006, .nrow 62 (.list (.int .i64)) false true)]⟩)])],
[(1000001, .reg [(7, [], ⟨[(4, .ptr 600004 0), (14, .val .bool)], [(600004, .box 35 (.val T1_))]⟩)])], fun y => (.tup [valW (.agg T1_) y.2, valW .bool y.1], [], [])⟩
noncomputable def V_ref7_New (w_ref1_MayDist : List (List Int) → Option (Bool)) (N : Nat) (x : List (List Int) × Int) : Option (Bool × A1_) :=
  obind (obind (w_ref1_MayDist x.1) fun b => cnd (!b) (some (true, (0:Int), [], [])) (some (decide (x.2 < (1:Int)), (0:Int), [], []))) fun (b : Bool × A1_) => cnd b.1 (some (false, (0:Int), [], [])) (cnd (decide ((3:Int) < x.2)) (some (false,
    (0:Int), [], [])) (obind (loopN N (fun (v : Int × A1_ × Int × List (List (List Int × Int)) × List (List Int)) => cnd (decide (v.1 < (↑(List.length x.1) : Int))) (cnd (decide ((0:Int) ≤ v.1) && decide (v.1 < (↑(List.length x.1) : Int))) (cnd
    (decide (List.length (List.getD x.1 (Int.toNat v.1) []) * (8:Nat) ≤ (140737488355328:Nat))) (cnd (decide ((List.length v.2.2.2.2 + (1:Nat)) *
    (24:Nat) ≤ (140737488355328:Nat))) (some (Sum.inl (wr .i64 (v.1 + (1:Int)), v.2.1, v.2.2.1, v.2.2.2.1, v.2.2.2.2 ++ [List.getD x.1 (Int.toNat v.1)
    []]))) none) none) none) (some (Sum.inr v.2))) ((0:Int), b.2, x.2, [], [])) fun (b : A1_ × Int × List (List (List Int × Int)) × List (List Int)) => some (true, b.2.1, b.2.2.2, b.2.2.1)))
theorem q_ref7_New : ∀ w_ref1_MayDist N x, u_ref7_New.F L0 P0 (orcOf [u_ref1_MayDist.con w_ref1_MayDist]) N x = V_ref7_New w_ref1_MayDist N x := by intros; kernel_rfl
noncomputable def W_ref7_New (N : Nat) := V_ref7_New (W_ref1_MayDist N) N
theorem con_ref7_New_ok (N : Nat) : (u_ref7_New.con (W_ref7_New N)).ok P0 := Uf.ok mixed (q_ref7_New (W_ref1_MayDist N) N) ⟨con_ref1_MayDist_ok N, trivial⟩ Try.func22 (by kernel_rfl) fun x y => by kernel_rfl
noncomputable def u_ref1_Has : Uf := ⟨43, 18, Try.f43, [.val (.list (.int .i64)), .val (.int .i64)], [],
⟨[(4, .val .bool)], []⟩, [],
[(2, .loop [] ⟨[(5, .val (.int .i64))], []⟩ [(.exit 0, ⟨[], []⟩), (.ret, ⟨[(4, .val .bool)], []⟩)])],
[], fun y => (valW .bool y, [], [])⟩
noncomputable def V_ref1_Has (N : Nat) (x : List Int × Int) : Option (Bool) :=
  obind (loopN N (fun (v : Int) => cnd (decide (v < (↑(List.length x.1) : Int))) (cnd (decide ((0:Int) ≤ v) && decide (v < (↑(List.length x.1) : Int)))
    (cnd (decide (List.getD x.1 (Int.toNat v) (0:Int) = x.2)) (some (Sum.inr (Sum.inr true))) (some (Sum.inl (wr .i64 (v + (1:Int)))))) none) (some
    (Sum.inr (Sum.inl ())))) (Int.ofNat (0:Nat))) fun (b : PUnit ⊕ Bool) => selim (fun (b : PUnit) => some false) (fun (c : Bool) => some c) b
theorem q_ref1_Has : ∀ N x, u_ref1_Has.F L0 P0 (orcOf []) N x = V_ref1_Has N x := by intros; kernel_rfl
noncomputable def W_ref1_Has (N : Nat) := V_ref1_Has N
theorem con_ref1_Has_ok (N : Nat) : (u_ref1_Has.con (W_ref1_Has N)).ok P0 := Uf.ok mixed (q_ref1_Has N) trivial Try.func43 (by kernel_rfl) fun x y => by kernel_rfl
noncomputable def u_ref7_Home : Uf := ⟨34, 20, Try.f34, [.val T3_, .val (.int .i64)], [],
⟨[(4, .val (.int .i64))], []⟩, [],
[(2, .loop [] ⟨[(5, .val (.int .i64))], []⟩ [(.exit 0, ⟨[], []⟩), (.ret, ⟨[(4, .val (.int .i64))], []⟩)])],
[], fun y => (valW (.int .i64) y, [], [])⟩
noncomputable def V_ref7_Home (w_ref1_Has : List Int × Int → Option (Bool)) (N : Nat) (x : List (List Int × Int) × Int) : Option (Int) :=
  obind (loopN N (fun (v : Int) => cnd (decide (v < (↑(List.length x.1) : Int))) (cnd (decide ((0:Int) ≤ v) && decide (v < (↑(List.length x.1) : Int)))
    (obind (w_ref1_Has (Prod.fst (List.getD x.1 (Int.toNat v) ([], (0:Int))), x.2)) fun b => cnd b (some (Sum.inr (Sum.inr v))) (some (Sum.inl (wr
    .i64 (v + (1:Int)))))) none) (some (Sum.inr (Sum.inl ())))) (Int.ofNat (0:Nat))) fun (b : PUnit ⊕ Int) => selim (fun (b : PUnit) => some (-1 : Int))
    (fun (c : Int) => some c) b
theorem q_ref7_Home : ∀ w_ref1_Has N x, u_ref7_Home.F L0 P0 (orcOf [u_ref1_Has.con w_ref1_Has]) N x = V_ref7_Home w_ref1_Has N x := by intros; kernel_rfl
noncomputable def W_ref7_Home (N : Nat) := V_ref7_Home (W_ref1_Has N) N
theorem con_ref7_Home_ok (N : Nat) : (u_ref7_Home.con (W_ref7_Home N)).ok P0 := Uf.ok mixed (q_ref7_Home (W_ref1_Has N) N) ⟨con_ref1_Has_ok N, trivial⟩ Try.func34 (by kernel_rfl) fun x y => by kernel_rfl
noncomputable def u_ref7_Near : Uf := ⟨35, 48, Try.f35, [.val (.list (.list (.int .i64))), .val (.int .i64), .val (.list (.int .i64))], [],
⟨[(6, .val (.int .i64))], []⟩, [],
[(3, .loop [] ⟨[(7, .val (.int .i64)), (8, .val (.int .i64))], []⟩ [(.exit 0, ⟨[(7, .val (.int .i64))], []⟩)])],
[], fun y => (valW (.int .i64) y, [], [])⟩
noncomputable def V_ref7_Near (w_ref1_Has : List Int × Int → Option (Bool)) (N : Nat) (x : List (List Int) × Int × List Int) : Option (Int) :=
  obind (loopN N (fun (v : Int × Int) => cnd (decide (v.2 ≤ (8:Int))) (cnd (decide (v.2 ≠ x.2.1)) (obind (w_ref1_Has (x.2.2, v.2)) fun b => cnd b (cnd
    (decide (v.1 = (0:Int))) (some (Sum.inl (v.2, wr .i64 (v.2 + (1:Int))))) (cnd (decide ((0:Int) ≤ wr .i64 (x.2.1 - (1:Int))) && decide (wr .i64
    (x.2.1 - (1:Int)) < (↑(List.length x.1) : Int))) (cnd (decide ((0:Int) ≤ wr .i64 (v.2 - (1:Int))) && decide (wr .i64 (v.2 - (1:Int)) <
    (↑(List.length (List.getD x.1 (Int.toNat (wr .i64 (x.2.1 - (1:Int)))) [])) : Int))) (cnd (decide ((0:Int) ≤ wr .i64 (x.2.1 - (1:Int))) && decide (wr
    .i64 (x.2.1 - (1:Int)) < (↑(List.length x.1) : Int))) (cnd (decide ((0:Int) ≤ wr .i64 (v.1 - (1:Int))) && decide (wr .i64 (v.1 - (1:Int)) <
    (↑(List.length (List.getD x.1 (Int.toNat (wr .i64 (x.2.1 - (1:Int)))) [])) : Int))) (cnd (decide (List.getD (List.getD x.1 (Int.toNat (wr .i64
    (x.2.1 - (1:Int)))) []) (Int.toNat (wr .i64 (v.2 - (1:Int)))) (0:Int) < List.getD (List.getD x.1 (Int.toNat (wr .i64 (x.2.1 - (1:Int)))) [])
    (Int.toNat (wr .i64 (v.1 - (1:Int)))) (0:Int))) (some (Sum.inl (v.2, wr .i64 (v.2 + (1:Int))))) (some (Sum.inl (v.1, wr .i64 (v.2 + (1:Int))))))
    none) none) none) none)) (some (Sum.inl (v.1, wr .i64 (v.2 + (1:Int)))))) (some (Sum.inl (v.1, wr .i64 (v.2 + (1:Int)))))) (some (Sum.inr v.1)))
    ((0:Int), (1:Int))) fun (b : Int) => some b
theorem q_ref7_Near : ∀ w_ref1_Has N x, u_ref7_Near.F L0 P0 (orcOf [u_ref1_Has.con w_ref1_Has]) N x = V_ref7_Near w_ref1_Has N x := by intros; kernel_rfl
noncomputable def W_ref7_Near (N : Nat) := V_ref7_Near (W_ref1_Has N) N
theorem con_ref7_Near_ok (N : Nat) : (u_ref7_Near.con (W_ref7_Near N)).ok P0 := Uf.ok mixed (q_ref7_Near (W_ref1_Has N) N) ⟨con_ref1_Has_ok N, trivial⟩ Try.func35 (by kernel_rfl) fun x y => by kernel_rfl
noncomputable def u_ref7_Far : Uf := ⟨54, 30, Try.f54, [.val (.list (.list (.int .i64))), .val (.int .i64), .val (.list (.int .i64))], [],
⟨[(6, .val (.int .i64))], []⟩, [],
[(3, .loop [] ⟨[(7, .val (.int .i64)), (8, .val (.int .i64))], []⟩ [(.exit 0, ⟨[(7, .val (.int .i64))], []⟩)])],
[], fun y => (valW (.int .i64) y, [], [])⟩
noncomputable def V_ref7_Far (N : Nat) (x : List (List Int) × Int × List Int) : Option (Int) :=
  obind (loopN N (fun (v : Int × Int) => cnd (decide (v.2 < (↑(List.length x.2.2) : Int))) (cnd (decide ((0:Int) ≤ wr .i64 (x.2.1 - (1:Int))) && decide
    (wr .i64 (x.2.1 - (1:Int)) < (↑(List.length x.1) : Int))) (cnd (decide ((0:Int) ≤ v.2) && decide (v.2 < (↑(List.length x.2.2) : Int))) (cnd (decide
    ((0:Int) ≤ wr .i64 (List.getD x.2.2 (Int.toNat v.2) (0:Int) - (1:Int))) && decide (wr .i64 (List.getD x.2.2 (Int.toNat v.2) (0:Int) - (1:Int)) <
    (↑(List.length (List.getD x.1 (Int.toNat (wr .i64 (x.2.1 - (1:Int)))) [])) : Int))) (some (Sum.inl (max v.1 (List.getD (List.getD x.1 (Int.toNat (wr
    .i64 (x.2.1 - (1:Int)))) []) (Int.toNat (wr .i64 (List.getD x.2.2 (Int.toNat v.2) (0:Int) - (1:Int)))) (0:Int)), wr .i64 (v.2 + (1:Int))))) none)
    none) none) (some (Sum.inr v.1))) ((0:Int), (0:Int))) fun (b : Int) => some b
theorem q_ref7_Far : ∀ N x, u_ref7_Far.F L0 P0 (orcOf []) N x = V_ref7_Far N x := by intros; kernel_rfl
noncomputable def W_ref7_Far (N : Nat) := V_ref7_Far N
theorem con_ref7_Far_ok (N : Nat) : (u_ref7_Far.con (W_ref7_Far N)).ok P0 := Uf.ok mixed (q_ref7_Far N) trivial Try.func54 (by kernel_rfl) fun x y => by kernel_rfl
noncomputable def u_ref7_Mid : Uf := ⟨51, 31, Try.f51, [.val (.list (.list (.int .i64))), .val (.list (.int .i64))], [],
⟨[(4, .val (.int .i64))], []⟩, [],
[(3, .loop [] ⟨[(5, .val (.int .i64)), (6, .val (.int .i64))], []⟩ [(.exit 0, ⟨[(5, .val (.int .i64))], []⟩)])],
[], fun y => (valW (.int .i64) y, [], [])⟩
noncomputable def V_ref7_Mid (w_ref1_Has : List Int × Int → Option (Bool)) (w_ref7_Far : List (List Int) × Int × List Int → Option (Int)) (N : Nat) (x : List (List Int) × List Int) : Option (Int) :=
  obind (loopN N (fun (v : Int × Int) => cnd (decide (v.2 ≤ (8:Int))) (obind (w_ref1_Has (x.2, v.2)) fun b => cnd b (cnd (decide (v.1 = (0:Int)))
    (some (Sum.inl (v.2, wr .i64 (v.2 + (1:Int))))) (obind (w_ref7_Far (x.1, v.2, x.2)) fun b => obind (w_ref7_Far (x.1, v.1, x.2)) fun b_1 => cnd
    (decide (b < b_1)) (some (Sum.inl (v.2, wr .i64 (v.2 + (1:Int))))) (some (Sum.inl (v.1, wr .i64 (v.2 + (1:Int))))))) (some (Sum.inl (v.1, wr .i64
    (v.2 + (1:Int)))))) (some (Sum.inr v.1))) ((0:Int), (1:Int))) fun (b : Int) => some b
theorem q_ref7_Mid : ∀ w_ref1_Has w_ref7_Far N x, u_ref7_Mid.F L0 P0 (orcOf [u_ref1_Has.con w_ref1_Has, u_ref7_Far.con w_ref7_Far]) N x = V_ref7_Mid w_ref1_Has w_ref7_Far N x := by intros; kernel_rfl
noncomputable def W_ref7_Mid (N : Nat) := V_ref7_Mid (W_ref1_Has N) (W_ref7_Far N) N
theorem con_ref7_Mid_ok (N : Nat) : (u_ref7_Mid.con (W_ref7_Mid N)).ok P0 := Uf.ok mixed (q_ref7_Mid (W_ref1_Has N) (W_ref7_Far N) N) ⟨con_ref1_Has_ok N, con_ref7_Far_ok N, trivial⟩ Try.func51 (by kernel_rfl) fun x y => by kernel_rfl
noncomputable def u_ref7_Of : Uf := ⟨46, 12, Try.f46, [.val (.list (.list (.int .i64))), .val (.list (.int .i64))], [],
⟨[(4, .ptr 600004 0)], [(600004, .box 88 (.val (.pair (.list (.int .i64)) (.int .i64))))]⟩, [],
[],
[], fun y => (valW (.agg (.pair (.list (.int .i64)) (.int .i64))) y, [], [])⟩
noncomputable def V_ref7_Of (w_ref7_Mid : List (List Int) × List Int → Option (Int)) (N : Nat) (x : List (List Int) × List Int) : Option (List Int × Int) :=
  cnd (decide (List.length x.2 * (8:Nat) ≤ (140737488355328:Nat))) (obind (w_ref7_Mid x) fun b => some (x.2, b)) none
theorem q_ref7_Of : ∀ w_ref7_Mid N x, u_ref7_Of.F L0 P0 (orcOf [u_ref7_Mid.con w_ref7_Mid]) N x = V_ref7_Of w_ref7_Mid N x := by intros; kernel_rfl
noncomputable def W_ref7_Of (N : Nat) := V_ref7_Of (W_ref7_Mid N) N
theorem con_ref7_Of_ok (N : Nat) : (u_ref7_Of.con (W_ref7_Of N)).ok P0 := Uf.ok mixed (q_ref7_Of (W_ref7_Mid N) N) ⟨con_ref7_Mid_ok N, trivial⟩ Try.func46 (by kernel_rfl) fun x y => by kernel_rfl
noncomputable def u_ref7_Rising : Uf := ⟨47, 17, Try.f47, [.val (.list (.int .i64))], [],
⟨[(2, .acc 700003)], [(700003, .nrow 3 (.int .i64) true true)]⟩, [],
[(3, .loop [] ⟨[(3, .acc 700003), (4, .val (.int .i64))], [(700003, .nrow 3 (.int .i64) true true)]⟩ [(.exit 0, ⟨[(3, .acc 700003)], [(700003, .nrow 3 (.int .i64) true true)]⟩)])],
[], fun y => (.acc 2000000 0, [], [.nrow 3 true true ⟨(.int .i64), y⟩])⟩
noncomputable def V_ref7_Rising (w_ref1_Has : List Int × Int → Option (Bool)) (N : Nat) (x : List Int) : Option (List Int) :=
  obind (loopN N (fun (v : Int × List Int) => cnd (decide (v.1 ≤ (8:Int))) (obind (w_ref1_Has (x, v.1)) fun b => cnd b (cnd (decide ((List.length v.2
    + List.length [v.1]) * (8:Nat) ≤ (140737488355328:Nat))) (some (Sum.inl (wr .i64 (v.1 + (1:Int)), v.2 ++ [v.1]))) none) (some (Sum.inl (wr .i64 (v.1
    + (1:Int)), v.2)))) (some (Sum.inr v.2))) ((1:Int), [])) fun (b : List Int) => some b
theorem q_ref7_Rising : ∀ w_ref1_Has N x, u_ref7_Rising.F L0 P0 (orcOf [u_ref1_Has.con w_ref1_Has]) N x = V_ref7_Rising w_ref1_Has N x := by intros; kernel_rfl
noncomputable def W_ref7_Rising (N : Nat) := V_ref7_Rising (W_ref1_Has N) N
theorem con_ref7_Rising_ok (N : Nat) : (u_ref7_Rising.con (W_ref7_Rising N)).ok P0 := Uf.ok mixed (q_ref7_Rising (W_ref1_Has N) N) ⟨con_ref1_Has_ok N, trivial⟩ Try.func47 (by kernel_rfl) fun x y => by kernel_rfl
noncomputable def u_ref7_without : Uf := ⟨55, 27, Try.f55, [.val (.list (.int .i64)), .val (.int .i64)], [],
⟨[(4, .acc 700005)], [(700005, .nrow 3 (.int .i64) true true)]⟩, [],
[(3, .loop [] ⟨[(5, .acc 700005), (6, .val (.int .i64))], [(700005, .nrow 3 (.int .i64) true true)]⟩ [(.exit 0, ⟨[(5, .acc 700005)], [(700005, .nrow 3 (.int .i64) true true)]⟩)])],
[], fun y => (.acc 2000000 0, [], [.nrow 3 true true ⟨(.int .i64), y⟩])⟩
noncomputable def V_ref7_without (N : Nat) (x : List Int × Int) : Option (List Int) :=
  obind (loopN N (fun (v : Int × List Int) => cnd (decide (v.1 < (↑(List.length x.1) : Int))) (cnd (decide ((0:Int) ≤ v.1) && decide (v.1 <
    (↑(List.length x.1) : Int))) (cnd (decide (List.getD x.1 (Int.toNat v.1) (0:Int) ≠ x.2)) (cnd (decide ((0:Int) ≤ v.1) && decide (v.1 <
    (↑(List.length x.1) : Int))) (cnd (decide ((List.length v.2 + List.length [List.getD x.1 (Int.toNat v.1) (0:Int)]) * (8:Nat) ≤
    (140737488355328:Nat))) (some (Sum.inl (wr .i64 (v.1 + (1:Int)), v.2 ++ [List.getD x.1 (Int.toNat v.1) (0:Int)]))) none) none) (some (Sum.inl (wr
    .i64 (v.1 + (1:Int)), v.2)))) none) (some (Sum.inr v.2))) ((0:Int), [])) fun (b : List Int) => some b
theorem q_ref7_without : ∀ N x, u_ref7_without.F L0 P0 (orcOf []) N x = V_ref7_without N x := by intros; kernel_rfl
noncomputable def W_ref7_without (N : Nat) := V_ref7_without N
theorem con_ref7_without_ok (N : Nat) : (u_ref7_without.con (W_ref7_without N)).ok P0 := Uf.ok mixed (q_ref7_without N) trivial Try.func55 (by kernel_rfl) fun x y => by kernel_rfl
noncomputable def u_ref7_Split : Uf := ⟨52, 172, Try.f52, [.val (.list (.list (.int .i64))), .val (.list (.int .i64)), .val (.int .i64)], [],
⟨[(6, .val (.list (.int .i64))), (7, .val (.list (.int .i64)))], []⟩, [],
[(8, .loop [] ⟨[(8, .val (.int .i64)), (9, .val (.int .i64)), (11, .val (.int .i64))], []⟩ [(.exit 2, ⟨[(8, .val (.int .i64)), (9, .val (.int .i64))], []⟩)]),
(5, .loop [] ⟨[(8, .val (.int .i64)), (9, .val (.int .i64)), (10, .val (.int .i64))], []⟩ [(.exit 0, ⟨[(8, .val (.int .i64)), (9, .val (.int .i64))], []⟩)]),
(14, .loop [] ⟨[(12, .acc 700169), (13, .acc 700166), (14, .val (.int .i64))], [(700169, .nrow 3 (.int .i64) true true), (700166, .nrow 3 (.int .i64) true true)]⟩ [(.exit 4, ⟨[(12, .acc 700169), (13, .acc 700166)], [(700169, .nrow 3 (.int .i64) true true), (700166, .nrow 3 (.int .i64) true true)]⟩)]),
(20, .loop [] ⟨[(12, .acc 700169), (13, .acc 700166)], [(700169, .nrow 3 (.int .i64) true true), (700166, .nrow 3 (.int .i64) true true)]⟩ [(.exit 6, ⟨[(12, .val (.list (.int .i64))), (13, .acc 700166)], [(700166, .nrow 3 (.int .i64) true true)]⟩)]),
(23, .loop [] ⟨[(12, .val (.list (.int .i64))), (13, .acc 700166)], [(700166, .nrow 3 (.int .i64) true true)]⟩ [(.exit 8, ⟨[(12, .val (.list (.int .i64))), (13, .val (.list (.int .i64)))], []⟩)])],
[], fun y => (.tup [valW (.list (.int .i64)) y.1, valW (.list (.int .i64)) y.2], [], [])⟩
noncomputable def V_ref7_Split (w_ref7_without : List Int × Int → Option (List Int)) (w_ref7_Near : List (List Int) × Int × List Int → Option (Int)) (w_ref7_Rising : List Int → Option (List Int)) (N : Nat) (x : List (List Int) × List Int × Int) : Option (List Int × List Int) :=
  cnd (decide ((↑(List.length x.2.1) : Int) < (2:Int))) (cnd (decide (List.length x.2.1 * (8:Nat) ≤ (140737488355328:Nat))) (some (x.2.1, [])) none)
    (obind (loopN N (fun (v : Int × Int × Int) => cnd (decide (v.2.2 < (↑(List.length x.2.1) : Int))) (obind (loopN N (fun (v_1 : Int × Int × Int) =>
    cnd (decide (v_1.2.2 < (↑(List.length x.2.1) : Int))) (cnd (decide (v_1.1 = (0:Int))) (cnd (decide ((0:Int) ≤ v.2.2) && decide (v.2.2 <
    (↑(List.length x.2.1) : Int))) (cnd (decide ((0:Int) ≤ v_1.2.2) && decide (v_1.2.2 < (↑(List.length x.2.1) : Int))) (some (Sum.inl (List.getD x.2.1
    (Int.toNat v.2.2) (0:Int), List.getD x.2.1 (Int.toNat v_1.2.2) (0:Int), wr .i64 (v_1.2.2 + (1:Int))))) none) none) (cnd (decide ((0:Int) ≤ v.2.2) &&
    decide (v.2.2 < (↑(List.length x.2.1) : Int))) (cnd (decide ((0:Int) ≤ wr .i64 (List.getD x.2.1 (Int.toNat v.2.2) (0:Int) - (1:Int))) && decide (wr
    .i64 (List.getD x.2.1 (Int.toNat v.2.2) (0:Int) - (1:Int)) < (↑(List.length x.1) : Int))) (cnd (decide ((0:Int) ≤ v_1.2.2) && decide (v_1.2.2 <
    (↑(List.length x.2.1) : Int))) (cnd (decide ((0:Int) ≤ wr .i64 (List.getD x.2.1 (Int.toNat v_1.2.2) (0:Int) - (1:Int))) && decide (wr .i64
    (List.getD x.2.1 (Int.toNat v_1.2.2) (0:Int) - (1:Int)) < (↑(List.length (List.getD x.1 (Int.toNat (wr .i64 (List.getD x.2.1 (Int.toNat v.2.2)
    (0:Int) - (1:Int)))) [])) : Int))) (cnd (decide ((0:Int) ≤ wr .i64 (v_1.1 - (1:Int))) && decide (wr .i64 (v_1.1 - (1:Int)) < (↑(List.length x.1) :
    Int))) (cnd (decide ((0:Int) ≤ wr .i64 (v_1.2.1 - (1:Int))) && decide (wr .i64 (v_1.2.1 - (1:Int)) < (↑(List.length (List.getD x.1 (Int.toNat (wr
    .i64 (v_1.1 - (1:Int)))) [])) : Int))) (cnd (decide (List.getD (List.getD x.1 (Int.toNat (wr .i64 (v_1.1 - (1:Int)))) []) (Int.toNat (wr .i64
    (v_1.2.1 - (1:Int)))) (0:Int) < List.getD (List.getD x.1 (Int.toNat (wr .i64 (List.getD x.2.1 (Int.toNat v.2.2) (0:Int) - (1:Int)))) []) (Int.toNat
    (wr .i64 (List.getD x.2.1 (Int.toNat v_1.2.2) (0:Int) - (1:Int)))) (0:Int))) (cnd (decide ((0:Int) ≤ v.2.2) && decide (v.2.2 < (↑(List.length x.2.1)
    : Int))) (cnd (decide ((0:Int) ≤ v_1.2.2) && decide (v_1.2.2 < (↑(List.length x.2.1) : Int))) (some (Sum.inl (List.getD x.2.1 (Int.toNat v.2.2)
    (0:Int), List.getD x.2.1 (Int.toNat v_1.2.2) (0:Int), wr .i64 (v_1.2.2 + (1:Int))))) none) none) (some (Sum.inl (v_1.1, v_1.2.1, wr .i64 (v_1.2.2 +
    (1:Int)))))) none) none) none) none) none) none)) (some (Sum.inr (v_1.1, v_1.2.1)))) (v.1, v.2.1, wr .i64 (v.2.2 + (1:Int)))) fun (b : Int × Int) =>
    some (Sum.inl (b.1, b.2, wr .i64 (v.2.2 + (1:Int))))) (some (Sum.inr (v.1, v.2.1)))) ((0:Int), (0:Int), (0:Int))) fun (b : Int × Int) => obind
    (loopN N (fun (v : Int × List Int × List Int) => cnd (decide (v.1 < (↑(List.length x.2.1) : Int))) (cnd (decide ((0:Int) ≤ v.1) && decide (v.1 <
    (↑(List.length x.2.1) : Int))) (cnd (decide (List.getD x.2.1 (Int.toNat v.1) (0:Int) ≠ b.2)) (cnd (decide (List.getD x.2.1 (Int.toNat v.1) (0:Int) =
    b.1)) (cnd (decide ((List.length v.2.1 + List.length [List.getD x.2.1 (Int.toNat v.1) (0:Int)]) * (8:Nat) ≤ (140737488355328:Nat))) (some (Sum.inl
    (wr .i64 (v.1 + (1:Int)), v.2.1 ++ [List.getD x.2.1 (Int.toNat v.1) (0:Int)], v.2.2))) none) (cnd (decide ((0:Int) ≤ wr .i64 (List.getD x.2.1
    (Int.toNat v.1) (0:Int) - (1:Int))) && decide (wr .i64 (List.getD x.2.1 (Int.toNat v.1) (0:Int) - (1:Int)) < (↑(List.length x.1) : Int))) (cnd
    (decide ((0:Int) ≤ wr .i64 (b.1 - (1:Int))) && decide (wr .i64 (b.1 - (1:Int)) < (↑(List.length (List.getD x.1 (Int.toNat (wr .i64 (List.getD x.2.1
    (Int.toNat v.1) (0:Int) - (1:Int)))) [])) : Int))) (cnd (decide ((0:Int) ≤ wr .i64 (List.getD x.2.1 (Int.toNat v.1) (0:Int) - (1:Int))) && decide
    (wr .i64 (List.getD x.2.1 (Int.toNat v.1) (0:Int) - (1:Int)) < (↑(List.length x.1) : Int))) (cnd (decide ((0:Int) ≤ wr .i64 (b.2 - (1:Int))) &&
    decide (wr .i64 (b.2 - (1:Int)) < (↑(List.length (List.getD x.1 (Int.toNat (wr .i64 (List.getD x.2.1 (Int.toNat v.1) (0:Int) - (1:Int)))) [])) :
    Int))) (cnd (decide (List.getD (List.getD x.1 (Int.toNat (wr .i64 (List.getD x.2.1 (Int.toNat v.1) (0:Int) - (1:Int)))) []) (Int.toNat (wr .i64 (b.1
    - (1:Int)))) (0:Int) ≤ List.getD (List.getD x.1 (Int.toNat (wr .i64 (List.getD x.2.1 (Int.toNat v.1) (0:Int) - (1:Int)))) []) (Int.toNat (wr .i64
    (b.2 - (1:Int)))) (0:Int))) (cnd (decide ((List.length v.2.1 + List.length [List.getD x.2.1 (Int.toNat v.1) (0:Int)]) * (8:Nat) ≤
    (140737488355328:Nat))) (some (Sum.inl (wr .i64 (v.1 + (1:Int)), v.2.1 ++ [List.getD x.2.1 (Int.toNat v.1) (0:Int)], v.2.2))) none) (cnd (decide
    ((List.length v.2.2 + List.length [List.getD x.2.1 (Int.toNat v.1) (0:Int)]) * (8:Nat) ≤ (140737488355328:Nat))) (some (Sum.inl (wr .i64 (v.1 +
    (1:Int)), v.2.1, v.2.2 ++ [List.getD x.2.1 (Int.toNat v.1) (0:Int)]))) none)) none) none) none) none)) (cnd (decide ((List.length v.2.2 +
    List.length [List.getD x.2.1 (Int.toNat v.1) (0:Int)]) * (8:Nat) ≤ (140737488355328:Nat))) (some (Sum.inl (wr .i64 (v.1 + (1:Int)), v.2.1, v.2.2 ++
    [List.getD x.2.1 (Int.toNat v.1) (0:Int)]))) none)) none) (some (Sum.inr v.2))) ((0:Int), [], [])) fun (b_1 : List Int × List Int) => obind (loopN N
    (fun (v : List Int × List Int) => cnd (decide ((↑(List.length v.1) : Int) < x.2.2)) (cnd (decide (x.2.2 < (↑(List.length v.2) : Int))) (obind
    (w_ref7_without (v.2, b.2)) fun b_2 => obind (w_ref7_Near (x.1, b.1, b_2)) fun b => cnd (decide ((List.length v.1 + List.length [b]) * (8:Nat) ≤
    (140737488355328:Nat))) (obind (w_ref7_Rising (v.1 ++ [b])) fun b_3 => obind (w_ref7_without (v.2, b)) fun b => some (Sum.inl (b_3, b))) none)
    (some (Sum.inr v))) (some (Sum.inr v))) b_1) fun (b_2 : List Int × List Int) => obind (loopN N (fun (v : List Int × List Int) => cnd (decide
    ((↑(List.length v.2) : Int) < x.2.2)) (cnd (decide (x.2.2 < (↑(List.length v.1) : Int))) (obind (w_ref7_without (v.1, b.1)) fun b_3 => obind
    (w_ref7_Near (x.1, b.2, b_3)) fun b => cnd (decide ((List.length v.2 + List.length [b]) * (8:Nat) ≤ (140737488355328:Nat))) (obind (w_ref7_Rising (v.2 ++ [b])) fun b_4 => obind (w_ref7_without (v.1, b)) fun b => some (Sum.inl (b, b_4))) none) (some (Sum.inr v))) (some (Sum.inr v))) b_2)
    fun (b : List Int × List Int) => some b)
theorem q_ref7_Split : ∀ w_ref7_without w_ref7_Near w_ref7_Rising N x, u_ref7_Split.F L0 P0 (orcOf [u_ref7_without.con w_ref7_without, u_ref7_Near.con w_ref7_Near, u_ref7_Rising.con w_ref7_Rising]) N x = V_ref7_Split w_ref7_without w_ref7_Near w_ref7_Rising N x := by intros; kernel_rfl
noncomputable def W_ref7_Split (N : Nat) := V_ref7_Split (W_ref7_without N) (W_ref7_Near N) (W_ref7_Rising N) N
theorem con_ref7_Split_ok (N : Nat) : (u_ref7_Split.con (W_ref7_Split N)).ok P0 := Uf.ok mixed (q_ref7_Split (W_ref7_without N) (W_ref7_Near N) (W_ref7_Rising N) N) ⟨con_ref7_without_ok N, con_ref7_Near_ok N, con_ref7_Rising_ok N, trivial⟩ Try.func52 (by kernel_rfl) fun x y => by kernel_rfl
noncomputable def u_ref7_parted : Uf := ⟨48, 42, Try.f48, [.val (.list (.list (.int .i64))), .val T3_, .val (.int .i64), .val (.int .i64)], [],
⟨[(8, .val T3_)], []⟩, [],
[],
[], fun y => (valW T3_ y, [], [])⟩
noncomputable def V_ref7_parted (w_ref7_Split : List (List Int) × List Int × Int → Option (List Int × List Int)) (w_ref7_Of : List (List Int) × List Int → Option (List Int × Int)) (N : Nat) (x : List (List Int) × List (List Int × Int) × Int × Int) : Option (List (List Int × Int)) :=
  cnd (decide ((0:Int) ≤ x.2.2.1) && decide (x.2.2.1 < (↑(List.length x.2.1) : Int))) (obind (w_ref7_Split (x.1, Prod.fst (List.getD x.2.1 (Int.toNat
    x.2.2.1) ([], (0:Int))), x.2.2.2)) fun b => cnd (decide ((0:Int) ≤ x.2.2.1) && decide (x.2.2.1 ≤ (↑(List.length x.2.1) : Int))) (cnd (decide
    (List.length (List.drop (0:Nat) (List.take (Int.toNat x.2.2.1) x.2.1)) * (32:Nat) ≤ (140737488355328:Nat))) (obind (w_ref7_Of (x.1, b.1)) fun b_1
    => obind (w_ref7_Of (x.1, b.2)) fun b => cnd (decide ((List.length (List.drop (0:Nat) (List.take (Int.toNat x.2.2.1) x.2.1)) + List.length [b_1,
    b]) * (32:Nat) ≤ (140737488355328:Nat))) (cnd (decide ((0:Int) ≤ wr .i64 (x.2.2.1 + (1:Int))) && decide (wr .i64 (x.2.2.1 + (1:Int)) ≤
    (↑(List.length x.2.1) : Int))) (cnd (decide ((List.length (List.drop (0:Nat) (List.take (Int.toNat x.2.2.1) x.2.1) ++ [b_1, b]) + List.length
    (List.drop (Int.toNat (wr .i64 (x.2.2.1 + (1:Int)))) (List.take (List.length x.2.1) x.2.1))) * (32:Nat) ≤ (140737488355328:Nat))) (some (List.drop
    (0:Nat) (List.take (Int.toNat x.2.2.1) x.2.1) ++ [b_1, b] ++ List.drop (Int.toNat (wr .i64 (x.2.2.1 + (1:Int)))) (List.take (List.length x.2.1)
    x.2.1))) none) none) none) none) none) none
theorem q_ref7_parted : ∀ w_ref7_Split w_ref7_Of N x, u_ref7_parted.F L0 P0 (orcOf [u_ref7_Split.con w_ref7_Split, u_ref7_Of.con w_ref7_Of]) N x = V_ref7_parted w_ref7_Split w_ref7_Of N x := by intros; kernel_rfl
noncomputable def W_ref7_parted (N : Nat) := V_ref7_parted (W_ref7_Split N) (W_ref7_Of N) N
theorem con_ref7_parted_ok (N : Nat) : (u_ref7_parted.con (W_ref7_parted N)).ok P0 := Uf.ok mixed (q_ref7_parted (W_ref7_Split N) (W_ref7_Of N) N) ⟨con_ref7_Split_ok N, con_ref7_Of_ok N, trivial⟩ Try.func48 (by kernel_rfl) fun x y => by kernel_rfl
noncomputable def u_ref7_JoinClus : Uf := ⟨37, 70, Try.f37, [.val (.list (.list (.int .i64))), .val T3_, .val (.int .i64), .val (.int .i64), .val (.int .i64)], [],
⟨[(10, .val T3_)], []⟩, [],
[],
[(1000004, .reg [(8, [], ⟨[(11, .acc 700068), (30, .val .bool)], [(700068, .nrow 88 (.agg (.pair (.list (.int .i64)) (.int .i64))) false true)]⟩)])], fun y => (valW T3_ y, [], [])⟩
noncomputable def V_ref7_JoinClus (w_ref7_Of : List (List Int) × List Int → Option (List Int × Int)) (w_ref7_Home : List (List Int × Int) × Int → Option (Int)) (w_ref7_Rising : List Int → Option (List Int)) (w_ref7_parted : List (List Int) × List (List Int × Int) × Int × Int → Option (List (List Int × Int))) (N : Nat) (x : List (List Int) × List (List Int × Int) × Int × Int × Int) : Option (List (List Int × Int)) :=
  cnd (decide (List.length x.2.1 * (32:Nat) ≤ (140737488355328:Nat))) (cnd (decide ((↑(List.length x.2.1) : Int) = (0:Int))) (obind (w_ref7_Of (x.1,
    [x.2.2.2.1])) fun b => some [b]) (obind (cnd (decide (x.2.2.1 < (0:Int))) (some (true, x.2.1)) (some (decide ((↑(List.length x.2.1) : Int) ≤
    x.2.2.1), x.2.1))) fun (b : Bool × List (List Int × Int)) => cnd b.1 (some b.2) (obind (w_ref7_Home (x.2.1, x.2.2.2.1)) fun b_1 => cnd (decide
    ((0:Int) ≤ b_1)) (some b.2) (cnd (decide ((0:Int) ≤ x.2.2.1) && decide (x.2.2.1 < (↑(List.length x.2.1) : Int))) (cnd (decide (List.length (Prod.fst
    (List.getD x.2.1 (Int.toNat x.2.2.1) ([], (0:Int)))) * (8:Nat) ≤ (140737488355328:Nat))) (cnd (decide ((List.length (Prod.fst (List.getD x.2.1
    (Int.toNat x.2.2.1) ([], (0:Int)))) + List.length [x.2.2.2.1]) * (8:Nat) ≤ (140737488355328:Nat))) (obind (w_ref7_Rising (Prod.fst (List.getD
    x.2.1 (Int.toNat x.2.2.1) ([], (0:Int))) ++ [x.2.2.2.1])) fun b_2 => obind (w_ref7_Of (x.1, b_2)) fun b_3 => cnd (decide ((0:Int) ≤ x.2.2.1) &&
    decide (x.2.2.1 < (↑(List.length b.2) : Int))) (cnd (decide ((0:Int) ≤ x.2.2.1) && decide (x.2.2.1 < (↑(List.length (putL b.2 [b_3] (Int.toNat
    x.2.2.1))) : Int))) (cnd (decide (wr .i64 (wr .i64 ((3:Int) * x.2.2.2.2) - (1:Int)) < (↑(List.length (Prod.fst (List.getD (putL b.2 [b_3] (Int.toNat
    x.2.2.1)) (Int.toNat x.2.2.1) ([], (0:Int))))) : Int))) (obind (w_ref7_parted (x.1, putL b.2 [b_3] (Int.toNat x.2.2.1), x.2.2.1, x.2.2.2.2)) fun b
    => some b) (some (putL b.2 [b_3] (Int.toNat x.2.2.1)))) none) none) none) none) none)))) none
theorem q_ref7_JoinClus : ∀ w_ref7_Of w_ref7_Home w_ref7_Rising w_ref7_parted N x, u_ref7_JoinClus.F L0 P0 (orcOf [u_ref7_Of.con w_ref7_Of, u_ref7_Home.con w_ref7_Home, u_ref7_Rising.con w_ref7_Rising, u_ref7_parted.con w_ref7_parted]) N x = V_ref7_JoinClus w_ref7_Of w_ref7_Home w_ref7_Rising w_ref7_parted N x := by intros; kernel_rfl
noncomputable def W_ref7_JoinClus (N : Nat) := V_ref7_JoinClus (W_ref7_Of N) (W_ref7_Home N) (W_ref7_Rising N) (W_ref7_parted N) N
theorem con_ref7_JoinClus_ok (N : Nat) : (u_ref7_JoinClus.con (W_ref7_JoinClus N)).ok P0 := Uf.ok mixed (q_ref7_JoinClus (W_ref7_Of N) (W_ref7_Home N) (W_ref7_Rising N) (W_ref7_parted N) N) ⟨con_ref7_Of_ok N, con_ref7_Home_ok N, con_ref7_Rising_ok N, con_ref7_parted_ok N, trivial⟩ Try.func37 (by kernel_rfl) fun x y => by kernel_rfl
noncomputable def u_ref7_leaders : Uf := ⟨45, 21, Try.f45, [.val T3_], [],
⟨[(2, .val (.list (.int .i64)))], []⟩, [],
[(3, .loop [] ⟨[(3, .acc 700003), (4, .val (.int .i64))], [(700003, .nrow 3 (.int .i64) true true)]⟩ [(.exit 0, ⟨[(3, .val (.list (.int .i64)))], []⟩)])],
[], fun y => (valW (.list (.int .i64)) y, [], [])⟩
noncomputable def V_ref7_leaders (w_ref7_Rising : List Int → Option (List Int)) (N : Nat) (x : List (List Int × Int)) : Option (List Int) :=
  obind (loopN N (fun (v : Int × List Int) => cnd (decide (v.1 < (↑(List.length x) : Int))) (cnd (decide ((0:Int) ≤ v.1) && decide (v.1 < (↑(List.length
    x) : Int))) (cnd (decide ((List.length v.2 + (1:Nat)) * (8:Nat) ≤ (140737488355328:Nat))) (some (Sum.inl (wr .i64 (v.1 + (1:Int)), v.2 ++ [Prod.snd
    (List.getD x (Int.toNat v.1) ([], (0:Int)))]))) none) none) (some (Sum.inr v.2))) ((0:Int), [])) fun (b : List Int) => obind (w_ref7_Rising b) fun
    b => some b
theorem q_ref7_leaders : ∀ w_ref7_Rising N x, u_ref7_leaders.F L0 P0 (orcOf [u_ref7_Rising.con w_ref7_Rising]) N x = V_ref7_leaders w_ref7_Rising N x := by intros; kernel_rfl
noncomputable def W_ref7_leaders (N : Nat) := V_ref7_leaders (W_ref7_Rising N) N
theorem con_ref7_leaders_ok (N : Nat) : (u_ref7_leaders.con (W_ref7_leaders N)).ok P0 := Uf.ok mixed (q_ref7_leaders (W_ref7_Rising N) N) ⟨con_ref7_Rising_ok N, trivial⟩ Try.func45 (by kernel_rfl) fun x y => by kernel_rfl
noncomputable def u_ref7_Group : Uf := ⟨44, 38, Try.f44, [.val (.list (.list (.int .i64))), .val (.list (.int .i64)), .val (.int .i64)], [],
⟨[(6, .val T3_)], []⟩, [],
[(7, .loop [] ⟨[(7, .val T3_)], []⟩ [(.exit 2, ⟨[(7, .val T3_)], []⟩)]),
(5, .loop [] ⟨[(7, .val T3_), (8, .val (.int .i64))], []⟩ [(.exit 0, ⟨[(7, .val T3_)], []⟩)])],
[], fun y => (valW T3_ y, [], [])⟩
noncomputable def V_ref7_Group (w_ref7_Of : List (List Int) × List Int → Option (List Int × Int)) (w_ref7_parted : List (List Int) × List (List Int × Int) × Int × Int → Option (List (List Int × Int))) (N : Nat) (x : List (List Int) × List Int × Int) : Option (List (List Int × Int)) :=
  cnd (decide ((↑(List.length x.2.1) : Int) = (0:Int))) (some []) (obind (w_ref7_Of (x.1, x.2.1)) fun b => obind (loopN N (fun (v : List (List Int × Int) × Int) => cnd (decide (v.2 < (↑(List.length v.1) : Int))) (obind (loopN N (fun (v_1 : List (List Int × Int)) => cnd (decide ((0:Int) ≤ v.2) &&
    decide (v.2 < (↑(List.length v_1) : Int))) (cnd (decide (wr .i64 (wr .i64 ((3:Int) * x.2.2) - (1:Int)) < (↑(List.length (Prod.fst (List.getD v_1
    (Int.toNat v.2) ([], (0:Int))))) : Int))) (obind (w_ref7_parted (x.1, v_1, v.2, x.2.2)) fun b => some (Sum.inl b)) (some (Sum.inr v_1))) none)
    v.1) fun (b : List (List Int × Int)) => some (Sum.inl (b, wr .i64 (v.2 + (1:Int))))) (some (Sum.inr v.1))) ([b], (0:Int))) fun (b : List (List Int × Int)) => some b)
theorem q_ref7_Group : ∀ w_ref7_Of w_ref7_parted N x, u_ref7_Group.F L0 P0 (orcOf [u_ref7_Of.con w_ref7_Of, u_ref7_parted.con w_ref7_parted]) N x = V_ref7_Group w_ref7_Of w_ref7_parted N x := by intros; kernel_rfl
noncomputable def W_ref7_Group (N : Nat) := V_ref7_Group (W_ref7_Of N) (W_ref7_parted N) N
theorem con_ref7_Group_ok (N : Nat) : (u_ref7_Group.con (W_ref7_Group N)).ok P0 := Uf.ok mixed (q_ref7_Group (W_ref7_Of N) (W_ref7_parted N) N) ⟨con_ref7_Of_ok N, con_ref7_parted_ok N, trivial⟩ Try.func44 (by kernel_rfl) fun x y => by kernel_rfl
noncomputable def u_ref7_above : Uf := ⟨36, 31, Try.f36, [.val (.agg T1_), .val T3_], [],
⟨[(4, .ptr 600004 0)], [(600004, .box 35 (.val T1_))]⟩, [],
[(2, .loop [] ⟨[(1, .val T3_), (2, .ptr 600002 0), (4, .ptr 600004 0), (5, .ptr 600005 0)], [(600002, .box 35 (.val T1_)), (600004, .box 35 (.val T1_)), (600005, .box 35 (.pair (.val (.int .i64)) (.pair (.val (.list (.list (.int .i64)))) (.acc 603005)))), (603005, .nrow 85 T3_ false true)]⟩ [(.exit 0, ⟨[(4, .ptr 600004 0), (5, .ptr 600005 0)], [(600004, .box 35 (.val T1_)), (600005, .box 35 (.pair (.val (.int .i64)) (.pair (.val (.list (.list (.int .i64)))) (.acc 603005)))), (603005, .nrow 85 T3_ false true)]⟩)])],
[], fun y => (valW (.agg T1_) y, [], [])⟩
noncomputable def V_ref7_above (w_ref7_leaders : List (List Int × Int) → Option (List Int)) (w_ref7_Group : List (List Int) × List Int × Int → Option (List (List Int × Int))) (N : Nat) (x : A1_ × List (List Int × Int)) : Option A1_ :=
  obind (loopN N (fun (v : List (List Int × Int) × A1_ × A1_ × A1_) => cnd (decide ((0:Int) < (↑(List.length v.1) : Int))) (cnd (decide
    ((List.length v.2.2.2.2.2 + List.length [v.1]) * (24:Nat) ≤ (140737488355328:Nat))) (cnd (decide ((↑(List.length v.1) : Int) = (1:Int))) (some
    (Sum.inr (v.2.2.1, v.2.2.2.1, v.2.2.2.2.1, v.2.2.2.2.2 ++ [v.1]))) (obind (w_ref7_leaders v.1) fun b => obind (w_ref7_Group (v.2.1.2.1, b,
    v.2.1.1)) fun b => some (Sum.inl (b, v.2.1, v.2.2.1, v.2.2.2.1, v.2.2.2.2.1, v.2.2.2.2.2 ++ [v.1])))) none) (some (Sum.inr v.2.2))) (x.2, x.1,
    ((0:Int), [], []), x.1.1, x.1.2.1, [])) fun (b : A1_ × A1_) => some b.2
theorem q_ref7_above : ∀ w_ref7_leaders w_ref7_Group N x, u_ref7_above.F L0 P0 (orcOf [u_ref7_leaders.con w_ref7_leaders, u_ref7_Group.con w_ref7_Group]) N x = V_ref7_above w_ref7_leaders w_ref7_Group N x := by intros; kernel_rfl
noncomputable def W_ref7_above (N : Nat) := V_ref7_above (W_ref7_leaders N) (W_ref7_Group N) N
theorem con_ref7_above_ok (N : Nat) : (u_ref7_above.con (W_ref7_above N)).ok P0 := Uf.ok mixed (q_ref7_above (W_ref7_leaders N) (W_ref7_Group N) N) ⟨con_ref7_leaders_ok N, con_ref7_Group_ok N, trivial⟩ Try.func36 (by kernel_rfl) fun x y => by kernel_rfl
noncomputable def u_ref7_Join : Uf := ⟨23, 84, Try.f23, [.val (.agg T1_), .val (.int .i64)], [],
⟨[(4, .ptr 600004 0)], [(600004, .box 35 (.val T1_))]⟩, [],
[(5, .loop [] ⟨[(2, .ptr 600002 0), (4, .ptr 600004 0), (5, .val (.int .i64)), (6, .val (.int .i64))], [(600002, .box 35 (.val T1_)), (600004, .box 35 (.val T1_))]⟩ [(.exit 0, ⟨[(2, .ptr 600002 0), (4, .ptr 600004 0), (5, .val (.int .i64))], [(600002, .box 35 (.val T1_)), (600004, .box 35 (.val T1_))]⟩)])],
[(1000001, .reg [(8, [], ⟨[(2, .ptr 600002 0), (4, .ptr 600004 0), (16, .val .bool)], [(600002, .box 35 (.val T1_)), (600004, .box 35 (.val T1_))]⟩), (4, [], ⟨[(2, .ptr 600002 0), (4, .ptr 600004 0), (20, .val .bool)], [(600002, .box 35 (.val T1_)), (600004, .box 35 (.val T1_))]⟩)]),
(12, .cut [] [(.normal, ⟨[(2, .ptr 600002 0), (4, .ptr 600004 0), (8, .val T3_)], [(600002, .box 35 (.val T1_)), (600004, .box 35 (.val T1_))]⟩)])], fun y => (valW (.agg T1_) y, [], [])⟩
noncomputable def V_ref7_Join (w_ref1_MayDist : List (List Int) → Option (Bool)) (w_ref7_Home : List (List Int × Int) × Int → Option (Int)) (w_ref7_Near : List (List Int) × Int × List Int → Option (Int)) (w_ref7_JoinClus : List (List Int) × List (List Int × Int) × Int × Int × Int → Option (List (List Int × Int))) (w_ref7_above : A1_ × List (List Int × Int) → Option A1_) (N : Nat) (x : A1_ × Int) : Option A1_ :=
  obind (obind (w_ref1_MayDist x.1.2.1) fun b => cnd (!b) (some (true, x.1, (0:Int), [], [])) (some (decide (x.2 < (1:Int)), x.1, (0:Int), [], [])))
    fun (b : Bool × A1_ × A1_) => obind (cnd b.1
    (some (true, b.2)) (some (decide ((8:Int) < x.2), b.2))) fun (b : Bool × A1_ × A1_) => cnd b.1 (some b.2.1) (cnd (decide ((0:Int) < (↑(List.length b.2.1.2.2) : Int))) (cnd (decide ((0:Int) ≤
    (0:Int)) && decide ((0:Int) < (↑(List.length b.2.1.2.2) : Int))) (obind (w_ref7_Home (List.getD b.2.1.2.2 (0:Nat) [], x.2)) fun b_1 => cnd (decide
    ((0:Int) ≤ b_1)) (some b.2.1) (obind (loopN N (fun (v : Int × Int × A1_ × A1_) => cnd (decide ((0:Int) < v.2.1)) (cnd (decide ((0:Int) ≤ v.2.1) && decide (v.2.1 < (↑(List.length v.2.2.1.2.2) :
    Int))) (cnd (decide ((0:Int) ≤ v.1) && decide (v.1 < (↑(List.length (List.getD v.2.2.1.2.2 (Int.toNat v.2.1) [])) : Int))) (obind (w_ref7_Near
    (v.2.2.1.2.1, x.2, Prod.fst (List.getD (List.getD v.2.2.1.2.2 (Int.toNat v.2.1) []) (Int.toNat v.1) ([], (0:Int))))) fun b => cnd (decide ((0:Int) ≤
    wr .i64 (v.2.1 - (1:Int))) && decide (wr .i64 (v.2.1 - (1:Int)) < (↑(List.length v.2.2.1.2.2) : Int))) (obind (w_ref7_Home (List.getD v.2.2.1.2.2
    (Int.toNat (wr .i64 (v.2.1 - (1:Int)))) [], b)) fun b => some (Sum.inl (b, wr .i64 (v.2.1 - (1:Int)), v.2.2))) none) none) none) (some (Sum.inr
    (v.1, v.2.2)))) ((0:Int), wr .i64 ((↑(List.length b.2.1.2.2) : Int) - (1:Int)), b.2)) fun (b : Int × A1_ × A1_) => obind (cnd (decide ((0:Int) < (↑(List.length b.2.1.2.2) : Int))) (cnd (decide
    ((0:Int) ≤ (0:Int)) && decide ((0:Int) < (↑(List.length b.2.1.2.2) : Int))) (some (List.getD b.2.1.2.2 (0:Nat) [], b.2)) none) (some ([], b.2))) fun
    (b_2 : List (List Int × Int) × A1_ × A1_) =>
    obind (w_ref7_JoinClus (b_2.2.1.2.1, b_2.1, b.1, x.2, b_2.2.1.1)) fun b => obind (w_ref7_above (b_2.2.1, b)) fun b => some b)) none) (obind
    (loopN N (fun (v : Int × Int × A1_ × A1_) => cnd
    (decide ((0:Int) < v.2.1)) (cnd (decide ((0:Int) ≤ v.2.1) && decide (v.2.1 < (↑(List.length v.2.2.1.2.2) : Int))) (cnd (decide ((0:Int) ≤ v.1) &&
    decide (v.1 < (↑(List.length (List.getD v.2.2.1.2.2 (Int.toNat v.2.1) [])) : Int))) (obind (w_ref7_Near (v.2.2.1.2.1, x.2, Prod.fst (List.getD
    (List.getD v.2.2.1.2.2 (Int.toNat v.2.1) []) (Int.toNat v.1) ([], (0:Int))))) fun b => cnd (decide ((0:Int) ≤ wr .i64 (v.2.1 - (1:Int))) && decide
    (wr .i64 (v.2.1 - (1:Int)) < (↑(List.length v.2.2.1.2.2) : Int))) (obind (w_ref7_Home (List.getD v.2.2.1.2.2 (Int.toNat (wr .i64 (v.2.1 -
    (1:Int)))) [], b)) fun b => some (Sum.inl (b, wr .i64 (v.2.1 - (1:Int)), v.2.2))) none) none) none) (some (Sum.inr (v.1, v.2.2)))) ((0:Int), wr .i64
    ((↑(List.length b.2.1.2.2) : Int) - (1:Int)), b.2)) fun (b : Int × A1_ × A1_) => obind (cnd (decide ((0:Int) < (↑(List.length b.2.1.2.2) : Int))) (cnd (decide ((0:Int) ≤ (0:Int)) && decide
    ((0:Int) < (↑(List.length b.2.1.2.2) : Int))) (some (List.getD b.2.1.2.2 (0:Nat) [], b.2)) none) (some ([], b.2))) fun (b_1 : List (List Int × Int) × A1_ × A1_) => obind (w_ref7_JoinClus
    (b_1.2.1.2.1, b_1.1, b.1, x.2, b_1.2.1.1)) fun b => obind (w_ref7_above (b_1.2.1, b)) fun b => some b))
theorem q_ref7_Join : ∀ w_ref1_MayDist w_ref7_Home w_ref7_Near w_ref7_JoinClus w_ref7_above N x, u_ref7_Join.F L0 P0 (orcOf [u_ref1_MayDist.con w_ref1_MayDist, u_ref7_Home.con w_ref7_Home, u_ref7_Near.con w_ref7_Near, u_ref7_JoinClus.con w_ref7_JoinClus, u_ref7_above.con w_ref7_above]) N x = V_ref7_Join w_ref1_MayDist w_ref7_Home w_ref7_Near w_ref7_JoinClus w_ref7_above N x := by intros; kernel_rfl
noncomputable def W_ref7_Join (N : Nat) := V_ref7_Join (W_ref1_MayDist N) (W_ref7_Home N) (W_ref7_Near N) (W_ref7_JoinClus N) (W_ref7_above N) N
theorem con_ref7_Join_ok (N : Nat) : (u_ref7_Join.con (W_ref7_Join N)).ok P0 := Uf.ok mixed (q_ref7_Join (W_ref1_MayDist N) (W_ref7_Home N) (W_ref7_Near N) (W_ref7_JoinClus N) (W_ref7_above N) N) ⟨con_ref1_MayDist_ok N, con_ref7_Home_ok N, con_ref7_Near_ok N, con_ref7_JoinClus_ok N, con_ref7_above_ok N, trivial⟩ Try.func23 (by kernel_rfl) fun x y => by kernel_rfl
noncomputable def u_ref1_Letter : Uf := ⟨53, 86, Try.f53, [.val .str], [],
⟨[(2, .val (.int .i64)), (3, .val (.int .i64))], []⟩, [],
[(15, .loop [] ⟨[(4, .val (.int .i64)), (7, .val (.int .i64))], []⟩ [(.exit 1, ⟨[(4, .val (.int .i64))], []⟩), (.ret, ⟨[(2, .val (.int .i64)), (3, .val (.int .i64))], []⟩)])],
[(1000020, .reg [(7, [], ⟨[(75, .val .bool)], []⟩)]),
(12, .cut [] [(.normal, ⟨[(4, .val (.int .i64)), (5, .val (.int .i64)), (6, .val (.int .i64))], []⟩), (.ret, ⟨[(2, .val (.int .i64)), (3, .val (.int .i64))], []⟩)])], fun y => (.tup [valW (.int .i64) y.1, valW (.int .i64) y.2], [], [])⟩
noncomputable def V_ref1_Letter (N : Nat) (x : List UInt8) : Option (Int × Int) :=
  cnd (decide ((0:Int) ≤ (0:Int)) && decide ((0:Int) < (↑(List.length x) : Int))) (obind (cnd (decide (wr .i64 (↑(UInt8.toNat (List.getD x (0:Nat) (0 :
    UInt8))) : Int) < (128:Int))) (some (Sum.inr (wr .i64 (↑(UInt8.toNat (List.getD x (0:Nat) (0 : UInt8))) : Int), (1:Int)))) (cnd (decide ((194:Int) ≤
    wr .i64 (↑(UInt8.toNat (List.getD x (0:Nat) (0 : UInt8))) : Int))) (cnd (decide (wr .i64 (↑(UInt8.toNat (List.getD x (0:Nat) (0 : UInt8))) : Int) ≤
    (223:Int))) (some (Sum.inl (wr .i64 (wr .i64 (↑(UInt8.toNat (List.getD x (0:Nat) (0 : UInt8))) : Int) - (192:Int)), (2:Int), (128:Int)))) (cnd
    (decide ((224:Int) ≤ wr .i64 (↑(UInt8.toNat (List.getD x (0:Nat) (0 : UInt8))) : Int))) (cnd (decide (wr .i64 (↑(UInt8.toNat (List.getD x (0:Nat) (0
    : UInt8))) : Int) ≤ (239:Int))) (some (Sum.inl (wr .i64 (wr .i64 (↑(UInt8.toNat (List.getD x (0:Nat) (0 : UInt8))) : Int) - (224:Int)), (3:Int),
    (2048:Int)))) (cnd (decide ((240:Int) ≤ wr .i64 (↑(UInt8.toNat (List.getD x (0:Nat) (0 : UInt8))) : Int))) (cnd (decide (wr .i64 (↑(UInt8.toNat
    (List.getD x (0:Nat) (0 : UInt8))) : Int) ≤ (244:Int))) (some (Sum.inl (wr .i64 (wr .i64 (↑(UInt8.toNat (List.getD x (0:Nat) (0 : UInt8))) : Int) -
    (240:Int)), (4:Int), (65536:Int)))) (some (Sum.inr ((-1 : Int), (1:Int))))) (some (Sum.inr ((-1 : Int), (1:Int)))))) (cnd (decide ((240:Int) ≤ wr
    .i64 (↑(UInt8.toNat (List.getD x (0:Nat) (0 : UInt8))) : Int))) (cnd (decide (wr .i64 (↑(UInt8.toNat (List.getD x (0:Nat) (0 : UInt8))) : Int) ≤
    (244:Int))) (some (Sum.inl (wr .i64 (wr .i64 (↑(UInt8.toNat (List.getD x (0:Nat) (0 : UInt8))) : Int) - (240:Int)), (4:Int), (65536:Int)))) (some
    (Sum.inr ((-1 : Int), (1:Int))))) (some (Sum.inr ((-1 : Int), (1:Int))))))) (cnd (decide ((224:Int) ≤ wr .i64 (↑(UInt8.toNat (List.getD x (0:Nat) (0
    : UInt8))) : Int))) (cnd (decide (wr .i64 (↑(UInt8.toNat (List.getD x (0:Nat) (0 : UInt8))) : Int) ≤ (239:Int))) (some (Sum.inl (wr .i64 (wr .i64
    (↑(UInt8.toNat (List.getD x (0:Nat) (0 : UInt8))) : Int) - (224:Int)), (3:Int), (2048:Int)))) (cnd (decide ((240:Int) ≤ wr .i64 (↑(UInt8.toNat
    (List.getD x (0:Nat) (0 : UInt8))) : Int))) (cnd (decide (wr .i64 (↑(UInt8.toNat (List.getD x (0:Nat) (0 : UInt8))) : Int) ≤ (244:Int))) (some
    (Sum.inl (wr .i64 (wr .i64 (↑(UInt8.toNat (List.getD x (0:Nat) (0 : UInt8))) : Int) - (240:Int)), (4:Int), (65536:Int)))) (some (Sum.inr ((-1 :
    Int), (1:Int))))) (some (Sum.inr ((-1 : Int), (1:Int)))))) (cnd (decide ((240:Int) ≤ wr .i64 (↑(UInt8.toNat (List.getD x (0:Nat) (0 : UInt8))) :
    Int))) (cnd (decide (wr .i64 (↑(UInt8.toNat (List.getD x (0:Nat) (0 : UInt8))) : Int) ≤ (244:Int))) (some (Sum.inl (wr .i64 (wr .i64 (↑(UInt8.toNat
    (List.getD x (0:Nat) (0 : UInt8))) : Int) - (240:Int)), (4:Int), (65536:Int)))) (some (Sum.inr ((-1 : Int), (1:Int))))) (some (Sum.inr ((-1 : Int),
    (1:Int)))))))) fun (b : Int × Int × Int ⊕ Int × Int) => selim (fun (b : Int × Int × Int) => cnd (decide ((↑(List.length x) : Int) < b.2.1)) (some
    ((-1 : Int), (1:Int))) (obind (loopN N (fun (v : Int × Int) => cnd (decide (v.2 < b.2.1)) (cnd (decide ((0:Int) ≤ v.2) && decide (v.2 <
    (↑(List.length x) : Int))) (cnd (decide ((↑(UInt8.toNat (List.getD x (Int.toNat v.2) (0 : UInt8))) : Int) < (128:Int))) (some (Sum.inr (Sum.inr ((-1
    : Int), (1:Int))))) (cnd (decide ((0:Int) ≤ v.2) && decide (v.2 < (↑(List.length x) : Int))) (cnd (decide ((191:Int) < (↑(UInt8.toNat (List.getD x
    (Int.toNat v.2) (0 : UInt8))) : Int))) (some (Sum.inr (Sum.inr ((-1 : Int), (1:Int))))) (cnd (decide ((0:Int) ≤ v.2) && decide (v.2 < (↑(List.length
    x) : Int))) (some (Sum.inl (wr .i64 (wr .i64 (wr .i64 (v.1 * (64:Int)) + wr .i64 (↑(UInt8.toNat (List.getD x (Int.toNat v.2) (0 : UInt8))) : Int)) -
    (128:Int)), wr .i64 (v.2 + (1:Int))))) none)) none)) none) (some (Sum.inr (Sum.inl v.1)))) (b.1, (1:Int))) fun (b_1 : Int ⊕ Int × Int) => selim (fun
    (b_2 : Int) => obind (cnd (decide (b_2 < b.2.2)) (some true) (some (decide ((1114111:Int) < b_2)))) fun (b_3 : Bool) => cnd b_3 (some ((-1 : Int),
    (1:Int))) (cnd (decide ((55296:Int) ≤ b_2)) (cnd (decide (b_2 ≤ (57343:Int))) (some ((-1 : Int), (1:Int))) (some (b_2, b.2.1))) (some (b_2,
    b.2.1)))) (fun (c : Int × Int) => some c) b_1)) (fun (c : Int × Int) => some c) b) none
theorem q_ref1_Letter : ∀ N x, u_ref1_Letter.F L0 P0 (orcOf []) N x = V_ref1_Letter N x := by intros; kernel_rfl
noncomputable def W_ref1_Letter (N : Nat) := V_ref1_Letter N
theorem con_ref1_Letter_ok (N : Nat) : (u_ref1_Letter.con (W_ref1_Letter N)).ok P0 := Uf.ok mixed (q_ref1_Letter N) trivial Try.func53 (by kernel_rfl) fun x y => by kernel_rfl
noncomputable def u_ref1_Letters : Uf := ⟨49, 22, Try.f49, [.val .str], [],
⟨[(2, .val (.list (.int .i64)))], []⟩, [],
[(2, .loop [] ⟨[(0, .val .str), (3, .acc 700003)], [(700003, .nrow 3 (.int .i64) true true)]⟩ [(.exit 0, ⟨[(3, .val (.list (.int .i64)))], []⟩)])],
[], fun y => (valW (.list (.int .i64)) y, [], [])⟩
noncomputable def V_ref1_Letters (w_ref1_Letter : List UInt8 → Option (Int × Int)) (N : Nat) (x : List UInt8) : Option (List Int) :=
  obind (loopN N (fun (v : List UInt8 × List Int) => cnd (decide ((0:Int) < (↑(List.length v.1) : Int))) (obind (w_ref1_Letter v.1) fun b => cnd
    (decide ((List.length v.2 + List.length [b.1]) * (8:Nat) ≤ (140737488355328:Nat))) (cnd (decide ((0:Int) ≤ b.2) && decide (b.2 ≤ (↑(List.length v.1)
    : Int))) (some (Sum.inl (List.drop (Int.toNat b.2) (List.take (List.length v.1) v.1), v.2 ++ [b.1]))) none) none) (some (Sum.inr v.2))) (x, [])) fun
    (b : List Int) => some b
theorem q_ref1_Letters : ∀ w_ref1_Letter N x, u_ref1_Letters.F L0 P0 (orcOf [u_ref1_Letter.con w_ref1_Letter]) N x = V_ref1_Letters w_ref1_Letter N x := by intros; kernel_rfl
noncomputable def W_ref1_Letters (N : Nat) := V_ref1_Letters (W_ref1_Letter N) N
theorem con_ref1_Letters_ok (N : Nat) : (u_ref1_Letters.con (W_ref1_Letters N)).ok P0 := Uf.ok mixed (q_ref1_Letters (W_ref1_Letter N) N) ⟨con_ref1_Letter_ok N, trivial⟩ Try.func49 (by kernel_rfl) fun x y => by kernel_rfl
noncomputable def u_ref1_Name : Uf := ⟨38, 40, Try.f38, [.val .str], [],
⟨[(2, .val .bool)], []⟩, [],
[(3, .loop [3] ⟨[(4, .val (.int .i64))], []⟩ [(.exit 0, ⟨[], []⟩), (.ret, ⟨[(2, .val .bool)], []⟩)])],
[], fun y => (valW .bool y, [], [])⟩
noncomputable def V_ref1_Name (w_ref1_Letters : List UInt8 → Option (List Int)) (N : Nat) (x : List UInt8) : Option (Bool) :=
  obind (w_ref1_Letters x) fun b => obind (loopN N (fun (v : Int) => cnd (decide (v < (↑(List.length b) : Int))) (cnd (decide ((0:Int) ≤ v) && decide
    (v < (↑(List.length b) : Int))) (cnd (decide (List.getD b (Int.toNat v) (0:Int) < (33:Int))) (some (Sum.inr (Sum.inr false))) (cnd (decide ((0:Int)
    ≤ v) && decide (v < (↑(List.length b) : Int))) (cnd (decide ((127:Int) ≤ List.getD b (Int.toNat v) (0:Int))) (cnd (decide ((0:Int) ≤ v) && decide (v
    < (↑(List.length b) : Int))) (cnd (decide (List.getD b (Int.toNat v) (0:Int) ≤ (159:Int))) (some (Sum.inr (Sum.inr false))) (some (Sum.inl (wr .i64
    (v + (1:Int)))))) none) (some (Sum.inl (wr .i64 (v + (1:Int)))))) none)) none) (some (Sum.inr (Sum.inl ())))) (Int.ofNat (0:Nat))) fun (b_1 : PUnit
    ⊕ Bool) => selim (fun (b_2 : PUnit) => cnd (decide ((1:Int) ≤ (↑(List.length b) : Int))) (some (decide ((↑(List.length b) : Int) ≤ (8:Int)))) (some
    false)) (fun (c : Bool) => some c) b_1
theorem q_ref1_Name : ∀ w_ref1_Letters N x, u_ref1_Name.F L0 P0 (orcOf [u_ref1_Letters.con w_ref1_Letters]) N x = V_ref1_Name w_ref1_Letters N x := by intros; kernel_rfl
noncomputable def W_ref1_Name (N : Nat) := V_ref1_Name (W_ref1_Letters N) N
theorem con_ref1_Name_ok (N : Nat) : (u_ref1_Name.con (W_ref1_Name N)).ok P0 := Uf.ok mixed (q_ref1_Name (W_ref1_Letters N) N) ⟨con_ref1_Letters_ok N, trivial⟩ Try.func38 (by kernel_rfl) fun x y => by kernel_rfl
noncomputable def u_ref19_New : Uf := ⟨39, 22, Try.f39, [.val (.int .i64), .val (.int .i64), .val (.int .i64), .val (.int .i64)], [],
⟨[(8, .ptr 600008 0)], [(600008, .box 65 (.val T6_))]⟩, [],
[],
[], fun y => (valW (.agg T6_) y, [], [])⟩
noncomputable def V_ref19_New (N : Nat) (x : Int × Int × Int × Int) : Option (Int × Int × Int × Int × Int × Int × List Int × Int × Int × Int × Int × Int × List (Int × Int × Int)) :=
  cnd (decide (x.1 = (1:Int))) (some (x.1, x.2.1, x.2.2.1, (0:Int), (0:Int), x.2.2.2, [(1:Int)], (0:Int), x.2.2.1, (0:Int), (0:Int), (0:Int), [])) (some (x.1, x.2.1, x.2.2.1, (0:Int), (0:Int), x.2.2.2, [], (0:Int), (0:Int), (0:Int), (0:Int), (0:Int), []))
theorem q_ref19_New : ∀ N x, u_ref19_New.F L0 P0 (orcOf []) N x = V_ref19_New N x := by intros; kernel_rfl
noncomputable def W_ref19_New (N : Nat) := V_ref19_New N
theorem con_ref19_New_ok (N : Nat) : (u_ref19_New.con (W_ref19_New N)).ok P0 := Uf.ok mixed (q_ref19_New N) trivial Try.func39 (by kernel_rfl) fun x y => by kernel_rfl
noncomputable def u_ref19_Join : Uf := ⟨24, 42, Try.f24, [.val (.agg T0_), .val (.int .i64), .val .str, .val (.int .i64)], [],
⟨[(8, .ptr 600008 0), (9, .val .bool)], [(600008, .box 73 (.val T0_))]⟩, [],
[],
[(1000001, .reg [(7, [], ⟨[(4, .ptr 600004 0), (8, .ptr 600008 0), (16, .val .bool)], [(600004, .box 73 (.val T0_)), (600008, .box 73 (.val T0_))]⟩), (4, [], ⟨[(4, .ptr 600004 0), (8, .ptr 600008 0), (20, .val .bool)], [(600004, .box 73 (.val T0_)), (600008, .box 73 (.val T0_))]⟩), (4, [], ⟨[(4, .ptr 600004 0), (8, .ptr 600008 0), (24, .val .bool)], [(600004, .box 73 (.val T0_)), (600008, .box 73 (.val T0_))]⟩)])], fun y => (.tup [valW (.agg T0_) y.2, valW .bool y.1], [], [])⟩
noncomputable def V_ref19_Join (w_ref1_Name : List UInt8 → Option (Bool)) (w_ref19_New : Int × Int × Int × Int → Option (Int × Int × Int × Int × Int × Int × List Int × Int × Int × Int × Int × Int × List (Int × Int × Int))) (N : Nat) (x : A0_ × Int × List UInt8 × Int) : Option (Bool × A0_) :=
  obind (cnd x.1.1 (some (true, x.1, false, (0:Int), [], ((0:Int), (0:Int), (0:Int), (0:Int), (0:Int), (0:Int), [], (0:Int), (0:Int), (0:Int), (0:Int),
    (0:Int), []), ((0:Int), (0:Int), [], [], [], (0:Int), (0:Int)), (0:Int))) (obind (w_ref1_Name x.2.2.1) fun b => some (!b, x.1, false, (0:Int), [],
    ((0:Int), (0:Int), (0:Int), (0:Int), (0:Int), (0:Int), [], (0:Int), (0:Int), (0:Int), (0:Int), (0:Int), []), ((0:Int), (0:Int), [], [], [], (0:Int),
    (0:Int)), (0:Int)))) fun (b : Bool × A0_ × A0_) => obind (cnd b.1 (some (true,
    b.2)) (some (decide (x.2.1 < (1:Int)), b.2))) fun (b : Bool × A0_ × A0_) => obind (cnd
    b.1 (some (true, b.2)) (some (decide ((8:Int) < x.2.1), b.2))) fun (b : Bool × A0_ × A0_) => cnd b.1 (some (false, b.2.1)) (cnd (decide ((1073741824:Int) ≤ b.2.1.2.1)) (some (false, b.2.1)) (obind (w_ref19_New (x.2.1, wr .i64
    (b.2.1.2.1 + (1:Int)), (0:Int), x.2.2.2)) fun b_1 => some (true, true, wr .i64 (b.2.1.2.1 + (1:Int)), x.2.2.1, b_1, ((0:Int), (0:Int), [], [], [],
    (0:Int), (0:Int)), (0:Int))))
theorem q_ref19_Join : ∀ w_ref1_Name w_ref19_New N x, u_ref19_Join.F L0 P0 (orcOf [u_ref1_Name.con w_ref1_Name, u_ref19_New.con w_ref19_New]) N x = V_ref19_Join w_ref1_Name w_ref19_New N x := by intros; kernel_rfl
noncomputable def W_ref19_Join (N : Nat) := V_ref19_Join (W_ref1_Name N) (W_ref19_New N) N
theorem con_ref19_Join_ok (N : Nat) : (u_ref19_Join.con (W_ref19_Join N)).ok P0 := Uf.ok mixed (q_ref19_Join (W_ref1_Name N) (W_ref19_New N) N) ⟨con_ref1_Name_ok N, con_ref19_New_ok N, trivial⟩ Try.func24 (by kernel_rfl) fun x y => by kernel_rfl
noncomputable def u_ref21_New : Uf := ⟨13, 34, Try.f13, [.val (.list (.list (.int .i64))), .val (.int .i64)], [],
⟨[(4, .ptr 600004 0), (5, .val .bool)], [(600004, .box 37 (.val T4_))]⟩, [],
[],
[], fun y => (.tup [valW (.agg T4_) y.2, valW .bool y.1], [], [])⟩
noncomputable def V_ref21_New (w_ref7_New : List (List Int) × Int → Option (Bool × A1_)) (w_ref7_Join : A1_ × Int → Option A1_) (w_ref19_Join : A0_ × Int × List UInt8 × Int → Option (Bool × A0_)) (N : Nat) (x : List (List Int) × Int) : Option (Bool × A3_) :=
  obind (w_ref7_New x) fun b => cnd (!b.1) (some (false, [], [], [], (0:Int), [], [])) (obind (w_ref7_Join (b.2, (1:Int))) fun b => obind
    (w_ref19_Join ((false, (0:Int), [], ((0:Int), (0:Int), (0:Int), (0:Int), (0:Int), (0:Int), [], (0:Int), (0:Int), (0:Int), (0:Int), (0:Int), []),
    ((0:Int), (0:Int), [], [], [], (0:Int), (0:Int)), (0:Int)), (1:Int), [(114 : UInt8), (111 : UInt8), (111 : UInt8), (116 : UInt8)], (0:Int))) fun b_1
    => some (true, [b_1.2, (false, (0:Int), [], ((0:Int), (0:Int), (0:Int), (0:Int), (0:Int), (0:Int), [], (0:Int), (0:Int), (0:Int), (0:Int), (0:Int),
    []), ((0:Int), (0:Int), [], [], [], (0:Int), (0:Int)), (0:Int)), (false, (0:Int), [], ((0:Int), (0:Int), (0:Int), (0:Int), (0:Int), (0:Int), [],
    (0:Int), (0:Int), (0:Int), (0:Int), (0:Int), []), ((0:Int), (0:Int), [], [], [], (0:Int), (0:Int)), (0:Int)), (false, (0:Int), [], ((0:Int),
    (0:Int), (0:Int), (0:Int), (0:Int), (0:Int), [], (0:Int), (0:Int), (0:Int), (0:Int), (0:Int), []), ((0:Int), (0:Int), [], [], [], (0:Int), (0:Int)),
    (0:Int)), (false, (0:Int), [], ((0:Int), (0:Int), (0:Int), (0:Int), (0:Int), (0:Int), [], (0:Int), (0:Int), (0:Int), (0:Int), (0:Int), []),
    ((0:Int), (0:Int), [], [], [], (0:Int), (0:Int)), (0:Int)), (false, (0:Int), [], ((0:Int), (0:Int), (0:Int), (0:Int), (0:Int), (0:Int), [], (0:Int),
    (0:Int), (0:Int), (0:Int), (0:Int), []), ((0:Int), (0:Int), [], [], [], (0:Int), (0:Int)), (0:Int)), (false, (0:Int), [], ((0:Int), (0:Int),
    (0:Int), (0:Int), (0:Int), (0:Int), [], (0:Int), (0:Int), (0:Int), (0:Int), (0:Int), []), ((0:Int), (0:Int), [], [], [], (0:Int), (0:Int)),
    (0:Int)), (false, (0:Int), [], ((0:Int), (0:Int), (0:Int), (0:Int), (0:Int), (0:Int), [], (0:Int), (0:Int), (0:Int), (0:Int), (0:Int), []),
    ((0:Int), (0:Int), [], [], [], (0:Int), (0:Int)), (0:Int))], [], [], b))
theorem q_ref21_New : ∀ w_ref7_New w_ref7_Join w_ref19_Join N x, u_ref21_New.F L0 P0 (orcOf [u_ref7_New.con w_ref7_New, u_ref7_Join.con w_ref7_Join, u_ref19_Join.con w_ref19_Join]) N x = V_ref21_New w_ref7_New w_ref7_Join w_ref19_Join N x := by intros; kernel_rfl
noncomputable def W_ref21_New (N : Nat) := V_ref21_New (W_ref7_New N) (W_ref7_Join N) (W_ref19_Join N) N
theorem con_ref21_New_ok (N : Nat) : (u_ref21_New.con (W_ref21_New N)).ok P0 := Uf.ok mixed (q_ref21_New (W_ref7_New N) (W_ref7_Join N) (W_ref19_Join N) N) ⟨con_ref7_New_ok N, con_ref7_Join_ok N, con_ref19_Join_ok N, trivial⟩ Try.func13 (by kernel_rfl) fun x y => by kernel_rfl
noncomputable def u_Picks_World : Uf := ⟨6, 15, Try.f6, [.ptr 0 0], [.box 45 T7_],
⟨[(0, .ptr 1000000 0), (2, .ptr 600002 0)], [(1000000, .box 45 (.val T7_)), (600002, .box 37 (.val T4_))]⟩, [true],
[],
[], fun y => (valW (.agg T4_) y.2, [.box 45 (cellsW T7_ y.1)], [])⟩
noncomputable def V_Picks_World (w_Picks_Dist : List Int × Int → Option (List (List Int) × List Int × Int)) (w_Picks_Num : Int × List Int × Int → Option (Int × List Int × Int)) (w_ref21_New : List (List Int) × Int → Option (Bool × A3_)) (N : Nat) (x : List Int × Int) : Option ((List Int × Int) × A3_) :=
  obind (w_Picks_Dist x) fun b => obind (w_Picks_Num ((3:Int), b.2)) fun b_1 => obind (w_ref21_New (b.1, wr .i64 ((1:Int) + b_1.1))) fun b => some (b_1.2, b.2)
theorem q_Picks_World : ∀ w_Picks_Dist w_Picks_Num w_ref21_New N x, u_Picks_World.F L0 P0 (orcOf [u_Picks_Dist.con w_Picks_Dist, u_Picks_Num.con w_Picks_Num, u_ref21_New.con w_ref21_New]) N x = V_Picks_World w_Picks_Dist w_Picks_Num w_ref21_New N x := by intros; kernel_rfl
noncomputable def W_Picks_World (N : Nat) := V_Picks_World (W_Picks_Dist N) (W_Picks_Num N) (W_ref21_New N) N
theorem con_Picks_World_ok (N : Nat) : (u_Picks_World.con (W_Picks_World N)).ok P0 := Uf.ok mixed (q_Picks_World (W_Picks_Dist N) (W_Picks_Num N) (W_ref21_New N) N) ⟨con_Picks_Dist_ok N, con_Picks_Num_ok N, con_ref21_New_ok N, trivial⟩ Try.func6 (by kernel_rfl) fun x y => by kernel_rfl
noncomputable def u_Picks_Text : Uf := ⟨16, 8, Try.f16, [.ptr 0 0], [.box 45 T7_],
⟨[(0, .ptr 1000000 0), (2, .val .str)], [(1000000, .box 45 (.val T7_))]⟩, [true],
[],
[], fun y => (valW .str y.1, [.box 45 (cellsW T7_ y.2)], [])⟩
noncomputable def V_Picks_Text (w_Picks_Num : Int × List Int × Int → Option (Int × List Int × Int)) (N : Nat) (x : List Int × Int) : Option (List UInt8 × List Int × Int) :=
  obind (w_Picks_Num ((5:Int), x)) fun b => cnd (decide ((0:Int) ≤ b.1)) (cnd (decide (b.1 < (↑(5:Nat) : Int))) (some (List.getD [[], [(97 : UInt8)],
    [(98 : UInt8), (99 : UInt8)], [(104 : UInt8), (101 : UInt8), (108 : UInt8), (108 : UInt8), (111 : UInt8)], [(116 : UInt8), (119 : UInt8), (101 :
    UInt8), (108 : UInt8), (118 : UInt8), (101 : UInt8), (32 : UInt8), (98 : UInt8), (121 : UInt8), (116 : UInt8), (101 : UInt8), (115 : UInt8)]]
    (Int.toNat b.1) [], b.2)) none) none
theorem q_Picks_Text : ∀ w_Picks_Num N x, u_Picks_Text.F L0 P0 (orcOf [u_Picks_Num.con w_Picks_Num]) N x = V_Picks_Text w_Picks_Num N x := by intros; kernel_rfl
noncomputable def W_Picks_Text (N : Nat) := V_Picks_Text (W_Picks_Num N) N
theorem con_Picks_Text_ok (N : Nat) : (u_Picks_Text.con (W_Picks_Text N)).ok P0 := Uf.ok mixed (q_Picks_Text (W_Picks_Num N) N) ⟨con_Picks_Num_ok N, trivial⟩ Try.func16 (by kernel_rfl) fun x y => by kernel_rfl
noncomputable def u_Picks_Step : Uf := ⟨7, 96, Try.f7, [.ptr 0 0, .val (.agg T4_)], [.box 45 T7_],
⟨[(0, .ptr 1000000 0), (4, .ptr 600004 0)], [(1000000, .box 45 (.val T7_)), (600004, .box 26 (.val T2_))]⟩, [true],
[],
[], fun y => (valW (.agg T2_) y.2, [.box 45 (cellsW T7_ y.1)], [])⟩
noncomputable def V_Picks_Step (w_Picks_Num : Int × List Int × Int → Option (Int × List Int × Int)) (w_Picks_Text : List Int × Int → Option (List UInt8 × List Int × Int)) (N : Nat) (x : A3_ × List Int × Int) : Option ((List Int × Int) × A2_) :=
  obind (w_Picks_Num ((8:Int), x.2)) fun b => obind (w_Picks_Num ((24:Int), b.2)) fun b_1 => cnd (decide (b_1.1 < (3:Int))) (obind (w_Picks_Num
    ((4:Int), b_1.2)) fun b_2 => cnd (decide ((0:Int) ≤ b_2.1)) (cnd (decide (b_2.1 < (↑(4:Nat) : Int))) (some (b_2.2, (1:Int), wr .i64 ((1:Int) + b.1),
    (0:Int), (0:Int), List.getD [[(97 : UInt8), (110 : UInt8), (110 : UInt8)], [(98 : UInt8), (195 : UInt8), (182 : UInt8), (98 : UInt8)], [(230 :
    UInt8), (151 : UInt8), (165 : UInt8), (230 : UInt8), (156 : UInt8), (172 : UInt8)], []] (Int.toNat b_2.1) [])) none) none) (cnd (decide (b_1.1 =
    (3:Int))) (some (b_1.2, (2:Int), wr .i64 ((1:Int) + b.1), (0:Int), (0:Int), [])) (cnd (decide (b_1.1 = (4:Int))) (some (b_1.2, (3:Int), wr .i64
    ((1:Int) + b.1), (0:Int), (0:Int), [])) (cnd (decide (b_1.1 < (7:Int))) (obind (w_Picks_Text b_1.2) fun b => some (b.2, (4:Int), (0:Int), (0:Int),
    (0:Int), b.1)) (cnd (decide (b_1.1 < (13:Int))) (some (b_1.2, (5:Int), wr .i64 ((1:Int) + b.1), (0:Int), (0:Int), [])) (cnd (decide (b_1.1 <
    (20:Int))) (obind (w_Picks_Num (wr .i64 (min (↑(List.length x.1.2.1) : Int) (200:Int) + (1:Int)), b_1.2)) fun b => some (b.2, (6:Int), (0:Int),
    b.1, (0:Int), [])) (cnd (decide (b_1.1 = (20:Int))) (obind (w_Picks_Num (wr .i64 (min (↑(List.length x.1.2.1) : Int) (200:Int) + (1:Int)), b_1.2))
    fun b => some (b.2, (7:Int), (0:Int), b.1, (0:Int), [])) (cnd (decide (b_1.1 = (21:Int))) (obind (w_Picks_Num (wr .i64 (min (↑(List.length
    x.1.2.1) : Int) (200:Int) + (1:Int)), b_1.2)) fun b => some (b.2, (8:Int), (0:Int), b.1, (0:Int), [])) (cnd (decide (b_1.1 = (22:Int))) (obind
    (w_Picks_Num (wr .i64 (min (↑(List.length x.1.2.1) : Int) (200:Int) + (1:Int)), b_1.2)) fun b => obind (w_Picks_Num ((40:Int), b.2)) fun b_2 =>
    obind (w_Picks_Num ((255:Int), b_2.2)) fun b_3 => some (b_3.2, (9:Int), (0:Int), b.1, wr .i64 (wr .i64 (wr .i64 (b_2.1 * (256:Int)) + (1:Int)) +
    b_3.1), [])) (some (b_1.2, (5:Int), wr .i64 ((1:Int) + b.1), (0:Int), (0:Int), []))))))))))
theorem q_Picks_Step : ∀ w_Picks_Num w_Picks_Text N x, u_Picks_Step.F L0 P0 (orcOf [u_Picks_Num.con w_Picks_Num, u_Picks_Text.con w_Picks_Text]) N x = V_Picks_Step w_Picks_Num w_Picks_Text N x := by intros; kernel_rfl
noncomputable def W_Picks_Step (N : Nat) := V_Picks_Step (W_Picks_Num N) (W_Picks_Text N) N
theorem con_Picks_Step_ok (N : Nat) : (u_Picks_Step.con (W_Picks_Step N)).ok P0 := Uf.ok mixed (q_Picks_Step (W_Picks_Num N) (W_Picks_Text N) N) ⟨con_Picks_Num_ok N, con_Picks_Text_ok N, trivial⟩ Try.func7 (by kernel_rfl) fun x y => by kernel_rfl
noncomputable def u_ref10_TakeNum : Uf := ⟨27, 51, Try.f27, [.val (.list (.int .u8))], [],
⟨[(2, .val (.int .i64)), (3, .val (.int .i64)), (4, .val .bool)], []⟩, [],
[(3, .loop [] ⟨[(5, .val (.int .i64)), (6, .val (.int .i64)), (7, .val (.int .i64))], []⟩ [(.exit 0, ⟨[], []⟩), (.ret, ⟨[(2, .val (.int .i64)), (3, .val (.int .i64)), (4, .val .bool)], []⟩)])],
[(1000008, .reg [(9, [], ⟨[(43, .val .bool)], []⟩)])], fun y => (.tup [valW (.int .i64) y.1, valW (.int .i64) y.2.1, valW .bool y.2.2], [], [])⟩
noncomputable def V_ref10_TakeNum (N : Nat) (x : List Int) : Option (Int × Int × Bool) :=
  obind (loopN N (fun (v : Int × Int × Int) => cnd (decide (v.2.2 < (↑(List.length x) : Int))) (cnd (decide (v.2.2 < (5:Int))) (cnd (decide ((0:Int) ≤
    v.2.2) && decide (v.2.2 < (↑(List.length x) : Int))) (cnd (decide ((0:Int) ≤ v.2.2) && decide (v.2.2 < (↑(List.length x) : Int))) (cnd (decide
    (List.getD x (Int.toNat v.2.2) (0:Int) < (128:Int))) (obind (cnd (decide ((0:Int) < v.2.2)) (cnd (decide ((0:Int) ≤ v.2.2) && decide (v.2.2 <
    (↑(List.length x) : Int))) (some (decide (List.getD x (Int.toNat v.2.2) (0:Int) = (0:Int)))) none) (some false)) fun (b : Bool) => cnd b (some
    (Sum.inr (Sum.inr ((0:Int), (0:Int), false)))) (cnd (decide ((1073741824:Int) < wr .i64 (v.1 + wr .i64 (wr .i64 (Int.tmod (List.getD x (Int.toNat
    v.2.2) (0:Int)) (128:Int)) * v.2.1)))) (some (Sum.inr (Sum.inr ((0:Int), (0:Int), false)))) (some (Sum.inr (Sum.inr (wr .i64 (v.1 + wr .i64 (wr .i64
    (Int.tmod (List.getD x (Int.toNat v.2.2) (0:Int)) (128:Int)) * v.2.1)), wr .i64 (v.2.2 + (1:Int)), true)))))) (some (Sum.inl (wr .i64 (v.1 + wr .i64
    (wr .i64 (Int.tmod (List.getD x (Int.toNat v.2.2) (0:Int)) (128:Int)) * v.2.1)), wr .i64 (v.2.1 * (128:Int)), wr .i64 (v.2.2 + (1:Int)))))) none)
    none) (some (Sum.inr (Sum.inl ())))) (some (Sum.inr (Sum.inl ())))) ((0:Int), (1:Int), (0:Int))) fun (b : PUnit ⊕ Int × Int × Bool) => selim (fun (b
    : PUnit) => some ((0:Int), (0:Int), false)) (fun (c : Int × Int × Bool) => some c) b
theorem q_ref10_TakeNum : ∀ N x, u_ref10_TakeNum.F L0 P0 (orcOf []) N x = V_ref10_TakeNum N x := by intros; kernel_rfl
noncomputable def W_ref10_TakeNum (N : Nat) := V_ref10_TakeNum N
theorem con_ref10_TakeNum_ok (N : Nat) : (u_ref10_TakeNum.con (W_ref10_TakeNum N)).ok P0 := Uf.ok mixed (q_ref10_TakeNum N) trivial Try.func27 (by kernel_rfl) fun x y => by kernel_rfl
noncomputable def u_ref10_reader_num : Uf := ⟨18, 34, Try.f18, [.ptr 0 0], [.box 56 T5_],
⟨[(0, .ptr 1000000 0), (2, .val (.int .i64))], [(1000000, .box 56 (.val T5_))]⟩, [true],
[],
[(4, .cut [] [(.normal, ⟨[(0, .ptr 1000000 0)], [(1000000, .box 56 (.val T5_))]⟩)])], fun y => (valW (.int .i64) y.1, [.box 56 (cellsW T5_ y.2)], [])⟩
noncomputable def V_ref10_reader_num (w_ref10_TakeNum : List Int → Option (Int × Int × Bool)) (N : Nat) (x : List Int × Bool) : Option (Int × List Int × Bool) :=
  obind (w_ref10_TakeNum x.1) fun b => obind (cnd (!b.2.2) (some (x.1, true)) (some x)) fun (b_1 : List Int × Bool) => cnd b_1.2 (some ((0:Int), b_1))
    (cnd (decide ((0:Int) ≤ b.2.1) && decide (b.2.1 ≤ (↑(List.length b_1.1) : Int))) (some (b.1, List.drop (Int.toNat b.2.1) (List.take (List.length
    b_1.1) b_1.1), b_1.2)) none)
theorem q_ref10_reader_num : ∀ w_ref10_TakeNum N x, u_ref10_reader_num.F L0 P0 (orcOf [u_ref10_TakeNum.con w_ref10_TakeNum]) N x = V_ref10_reader_num w_ref10_TakeNum N x := by intros; kernel_rfl
noncomputable def W_ref10_reader_num (N : Nat) := V_ref10_reader_num (W_ref10_TakeNum N) N
theorem con_ref10_reader_num_ok (N : Nat) : (u_ref10_reader_num.con (W_ref10_reader_num N)).ok P0 := Uf.ok mixed (q_ref10_reader_num (W_ref10_TakeNum N) N) ⟨con_ref10_TakeNum_ok N, trivial⟩ Try.func18 (by kernel_rfl) fun x y => by kernel_rfl
noncomputable def u_ref10_TakeText : Uf := ⟨28, 34, Try.f28, [.val (.list (.int .u8))], [],
⟨[(2, .val .str), (3, .val (.int .i64)), (4, .val .bool)], []⟩, [],
[],
[], fun y => (.tup [valW .str y.1, valW (.int .i64) y.2.1, valW .bool y.2.2], [], [])⟩
noncomputable def V_ref10_TakeText (w_ref10_TakeNum : List Int → Option (Int × Int × Bool)) (N : Nat) (x : List Int) : Option (List UInt8 × Int × Bool) :=
  obind (w_ref10_TakeNum x) fun b => cnd (!b.2.2) (some ([], (0:Int), false)) (cnd (decide (wr .i64 ((↑(List.length x) : Int) - b.2.1) < b.1)) (some
    ([], (0:Int), false)) (cnd (decide ((0:Int) ≤ b.2.1) && decide (b.2.1 ≤ wr .i64 (b.2.1 + b.1)) && decide (wr .i64 (b.2.1 + b.1) ≤ (↑(List.length x)
    : Int))) (cnd (List.all (List.drop (Int.toNat b.2.1) (List.take (Int.toNat (wr .i64 (b.2.1 + b.1))) x)) fun (n : Int) => decide ((0:Int) ≤ n) &&
    decide (n < (256:Int))) (some (List.map (fun (n : Int) => UInt8.ofNat (Int.toNat n)) (List.drop (Int.toNat b.2.1) (List.take (Int.toNat (wr .i64
    (b.2.1 + b.1))) x)), wr .i64 (b.2.1 + b.1), true)) none) none))
theorem q_ref10_TakeText : ∀ w_ref10_TakeNum N x, u_ref10_TakeText.F L0 P0 (orcOf [u_ref10_TakeNum.con w_ref10_TakeNum]) N x = V_ref10_TakeText w_ref10_TakeNum N x := by intros; kernel_rfl
noncomputable def W_ref10_TakeText (N : Nat) := V_ref10_TakeText (W_ref10_TakeNum N) N
theorem con_ref10_TakeText_ok (N : Nat) : (u_ref10_TakeText.con (W_ref10_TakeText N)).ok P0 := Uf.ok mixed (q_ref10_TakeText (W_ref10_TakeNum N) N) ⟨con_ref10_TakeNum_ok N, trivial⟩ Try.func28 (by kernel_rfl) fun x y => by kernel_rfl
noncomputable def u_ref10_reader_text : Uf := ⟨19, 34, Try.f19, [.ptr 0 0], [.box 56 T5_],
⟨[(0, .ptr 1000000 0), (2, .val .str)], [(1000000, .box 56 (.val T5_))]⟩, [true],
[],
[(4, .cut [] [(.normal, ⟨[(0, .ptr 1000000 0)], [(1000000, .box 56 (.val T5_))]⟩)])], fun y => (valW .str y.1, [.box 56 (cellsW T5_ y.2)], [])⟩
noncomputable def V_ref10_reader_text (w_ref10_TakeText : List Int → Option (List UInt8 × Int × Bool)) (N : Nat) (x : List Int × Bool) : Option (List UInt8 × List Int × Bool) :=
  obind (w_ref10_TakeText x.1) fun b => obind (cnd (!b.2.2) (some (x.1, true)) (some x)) fun (b_1 : List Int × Bool) => cnd b_1.2 (some ([], b_1))
    (cnd (decide ((0:Int) ≤ b.2.1) && decide (b.2.1 ≤ (↑(List.length b_1.1) : Int))) (some (b.1, List.drop (Int.toNat b.2.1) (List.take (List.length
    b_1.1) b_1.1), b_1.2)) none)
theorem q_ref10_reader_text : ∀ w_ref10_TakeText N x, u_ref10_reader_text.F L0 P0 (orcOf [u_ref10_TakeText.con w_ref10_TakeText]) N x = V_ref10_reader_text w_ref10_TakeText N x := by intros; kernel_rfl
noncomputable def W_ref10_reader_text (N : Nat) := V_ref10_reader_text (W_ref10_TakeText N) N
theorem con_ref10_reader_text_ok (N : Nat) : (u_ref10_reader_text.con (W_ref10_reader_text N)).ok P0 := Uf.ok mixed (q_ref10_reader_text (W_ref10_TakeText N) N) ⟨con_ref10_TakeText_ok N, trivial⟩ Try.func19 (by kernel_rfl) fun x y => by kernel_rfl
noncomputable def u_ref10_TakeSteps : Uf := ⟨10, 77, Try.f10, [.val (.list (.int .u8))], [],
⟨[(2, .val (.list (.agg T2_)))], []⟩, [],
[(3, .loop [] ⟨[(3, .ptr 600008 0), (4, .acc 700004)], [(600008, .box 56 (.val T5_)), (700004, .nrow 26 (.agg T2_) true true)]⟩ [(.exit 0, ⟨[(4, .val (.list (.agg T2_)))], []⟩), (.ret, ⟨[(2, .val (.list (.agg T2_)))], []⟩)])],
[(15, .cut [] [(.normal, ⟨[(3, .ptr 600008 0), (4, .acc 700004), (5, .ptr 600005 0), (47, .val .bool)], [(600008, .box 56 (.val T5_)), (700004, .nrow 26 (.agg T2_) true true), (600005, .box 26 (.val T2_))]⟩)]),
(21, .cut [] [(.normal, ⟨[(3, .ptr 600008 0), (4, .acc 700004), (5, .ptr 600005 0)], [(600008, .box 56 (.val T5_)), (700004, .nrow 26 (.agg T2_) true true), (600005, .box 26 (.val T2_))]⟩), (.exit 1, ⟨[(3, .ptr 600008 0), (4, .acc 700004)], [(600008, .box 56 (.val T5_)), (700004, .nrow 26 (.agg T2_) true true)]⟩)])], fun y => (valW (.list (.agg T2_)) y, [], [])⟩
noncomputable def V_ref10_TakeSteps (w_ref10_reader_num : List Int × Bool → Option (Int × List Int × Bool)) (w_ref10_reader_text : List Int × Bool → Option (List UInt8 × List Int × Bool)) (N : Nat) (x : List Int) : Option (List A2_) :=
  obind (loopN N (fun (v : (List Int × Bool) × List A2_) => cnd (decide ((0:Int) < (↑(List.length v.1.1) : Int))) (cnd
    (decide ((0:Int) ≤ (0:Int)) && decide ((0:Int) < (↑(List.length v.1.1) : Int))) (cnd (decide ((0:Int) ≤ (1:Int)) && decide ((1:Int) ≤ (↑(List.length
    v.1.1) : Int))) (obind (cnd (decide (wr .i64 (Int.tmod (List.getD v.1.1 (0:Nat) (0:Int)) (10:Int)) = (0:Int))) (some (Sum.inr ((List.drop (1:Nat)
    (List.take (List.length v.1.1) v.1.1), v.1.2), v.2))) (cnd (decide (wr .i64 (Int.tmod (List.getD v.1.1 (0:Nat) (0:Int)) (10:Int)) = (1:Int))) (obind
    (w_ref10_reader_num (List.drop (1:Nat) (List.take (List.length v.1.1) v.1.1), v.1.2)) fun b => obind (w_ref10_reader_text b.2) fun b_1 => some
    (Sum.inl (b_1.2, v.2, wr .i64 (Int.tmod (List.getD v.1.1 (0:Nat) (0:Int)) (10:Int)), b.1, (0:Int), (0:Int), b_1.1))) (obind (cnd (decide (wr .i64
    (Int.tmod (List.getD v.1.1 (0:Nat) (0:Int)) (10:Int)) = (2:Int))) (some (decide (wr .i64 (Int.tmod (List.getD v.1.1 (0:Nat) (0:Int)) (10:Int)) =
    (2:Int)), (List.drop (1:Nat) (List.take (List.length v.1.1) v.1.1), v.1.2), v.2, wr .i64 (Int.tmod (List.getD v.1.1 (0:Nat) (0:Int)) (10:Int)),
    (0:Int), (0:Int), (0:Int), [])) (cnd (decide (wr .i64 (Int.tmod (List.getD v.1.1 (0:Nat) (0:Int)) (10:Int)) = (3:Int))) (some (decide (wr .i64
    (Int.tmod (List.getD v.1.1 (0:Nat) (0:Int)) (10:Int)) = (3:Int)), (List.drop (1:Nat) (List.take (List.length v.1.1) v.1.1), v.1.2), v.2, wr .i64
    (Int.tmod (List.getD v.1.1 (0:Nat) (0:Int)) (10:Int)), (0:Int), (0:Int), (0:Int), [])) (some (decide (wr .i64 (Int.tmod (List.getD v.1.1 (0:Nat)
    (0:Int)) (10:Int)) = (5:Int)), (List.drop (1:Nat) (List.take (List.length v.1.1) v.1.1), v.1.2), v.2, wr .i64 (Int.tmod (List.getD v.1.1 (0:Nat)
    (0:Int)) (10:Int)), (0:Int), (0:Int), (0:Int), [])))) fun (b : Bool × (List Int × Bool) × List A2_ × A2_) => cnd b.1 (obind (w_ref10_reader_num b.2.1) fun b_1 => some (Sum.inl (b_1.2, b.2.2.1, b.2.2.2.1, b_1.1, b.2.2.2.2.2)))
    (cnd (decide (wr .i64 (Int.tmod (List.getD v.1.1 (0:Nat) (0:Int)) (10:Int)) = (4:Int))) (obind (w_ref10_reader_text b.2.1) fun b_1 => some
    (Sum.inl (b_1.2, b.2.2.1, b.2.2.2.1, b.2.2.2.2.1, b.2.2.2.2.2.1, b.2.2.2.2.2.2.1, b_1.1))) (cnd (decide (wr .i64 (Int.tmod (List.getD v.1.1 (0:Nat)
    (0:Int)) (10:Int)) = (9:Int))) (obind (w_ref10_reader_num b.2.1) fun b_1 => obind (w_ref10_reader_num b_1.2) fun b_2 => some (Sum.inl (b_2.2,
    b.2.2.1, b.2.2.2.1, b.2.2.2.2.1, b_1.1, b_2.1, b.2.2.2.2.2.2.2))) (obind (w_ref10_reader_num b.2.1) fun b_1 => some (Sum.inl (b_1.2, b.2.2.1,
    b.2.2.2.1, b.2.2.2.2.1, b_1.1, b.2.2.2.2.2.2)))))))) fun (b : (List Int × Bool) × List A2_ × Int × Int × Int × Int × List UInt8 ⊕ (List Int × Bool) × List A2_) => selim (fun (b : (List Int × Bool) × List A2_ × A2_) => cnd b.1.2 (some (Sum.inr (Sum.inr b.2.1))) (cnd (decide ((List.length b.2.1 + List.length
    [b.2.2]) * (48:Nat) ≤ (140737488355328:Nat))) (some (Sum.inl (b.1, b.2.1 ++ [b.2.2]))) none)) (fun (c : (List Int × Bool) × List A2_) => some (Sum.inl c)) b) none) none) (some (Sum.inr (Sum.inl v.2)))) ((x, false), [])) fun (b : List A2_ ⊕ List A2_) => selim (fun (b : List A2_) => some b) (fun (c : List A2_) => some c) b
theorem q_ref10_TakeSteps : ∀ w_ref10_reader_num w_ref10_reader_text N x, u_ref10_TakeSteps.F L0 P0 (orcOf [u_ref10_reader_num.con w_ref10_reader_num, u_ref10_reader_text.con w_ref10_reader_text]) N x = V_ref10_TakeSteps w_ref10_reader_num w_ref10_reader_text N x := by intros; kernel_rfl
noncomputable def W_ref10_TakeSteps (N : Nat) := V_ref10_TakeSteps (W_ref10_reader_num N) (W_ref10_reader_text N) N
theorem con_ref10_TakeSteps_ok (N : Nat) : (u_ref10_TakeSteps.con (W_ref10_TakeSteps N)).ok P0 := Uf.ok mixed (q_ref10_TakeSteps (W_ref10_reader_num N) (W_ref10_reader_text N) N) ⟨con_ref10_reader_num_ok N, con_ref10_reader_text_ok N, trivial⟩ Try.func10 (by kernel_rfl) fun x y => by kernel_rfl
noncomputable def u_ref10_SameSteps : Uf := ⟨8, 26, Try.f8, [.val (.list (.agg T2_)), .val (.list (.agg T2_))], [],
⟨[(4, .val .bool)], []⟩, [],
[(4, .loop [] ⟨[(5, .val (.int .i64))], []⟩ [(.exit 0, ⟨[], []⟩), (.ret, ⟨[(4, .val .bool)], []⟩)])],
[], fun y => (valW .bool y, [], [])⟩
noncomputable def V_ref10_SameSteps (N : Nat) (x : List A2_ × List A2_) : Option (Bool) :=
  cnd (decide ((↑(List.length x.1) : Int) ≠ (↑(List.length x.2) : Int))) (some false) (obind (loopN N (fun (v : Int) => cnd (decide (v < (↑(List.length
    x.1) : Int))) (cnd (decide ((0:Int) ≤ v) && decide (v < (↑(List.length x.1) : Int))) (cnd (decide ((0:Int) ≤ v) && decide (v < (↑(List.length x.2) :
    Int))) (cnd (!(decide (Prod.fst (List.getD x.1 (Int.toNat v) ((0:Int), (0:Int), (0:Int), (0:Int), [])) = Prod.fst (List.getD x.2 (Int.toNat v)
    ((0:Int), (0:Int), (0:Int), (0:Int), []))) && (decide (Prod.fst (Prod.snd (List.getD x.1 (Int.toNat v) ((0:Int), (0:Int), (0:Int), (0:Int), []))) =
    Prod.fst (Prod.snd (List.getD x.2 (Int.toNat v) ((0:Int), (0:Int), (0:Int), (0:Int), [])))) && (decide (Prod.fst (Prod.snd (Prod.snd (List.getD x.1
    (Int.toNat v) ((0:Int), (0:Int), (0:Int), (0:Int), [])))) = Prod.fst (Prod.snd (Prod.snd (List.getD x.2 (Int.toNat v) ((0:Int), (0:Int), (0:Int),
    (0:Int), []))))) && (decide (Prod.fst (Prod.snd (Prod.snd (Prod.snd (List.getD x.1 (Int.toNat v) ((0:Int), (0:Int), (0:Int), (0:Int), []))))) =
    Prod.fst (Prod.snd (Prod.snd (Prod.snd (List.getD x.2 (Int.toNat v) ((0:Int), (0:Int), (0:Int), (0:Int), [])))))) && Prod.snd (Prod.snd (Prod.snd
    (Prod.snd (List.getD x.1 (Int.toNat v) ((0:Int), (0:Int), (0:Int), (0:Int), []))))) == Prod.snd (Prod.snd (Prod.snd (Prod.snd (List.getD x.2
    (Int.toNat v) ((0:Int), (0:Int), (0:Int), (0:Int), [])))))))))) (some (Sum.inr (Sum.inr false))) (some (Sum.inl (wr .i64 (v + (1:Int)))))) none)
    none) (some (Sum.inr (Sum.inl ())))) (Int.ofNat (0:Nat))) fun (b : PUnit ⊕ Bool) => selim (fun (b : PUnit) => some true) (fun (c : Bool) => some c)
    b)
theorem q_ref10_SameSteps : ∀ N x, u_ref10_SameSteps.F L0 P0 (orcOf []) N x = V_ref10_SameSteps N x := by intros; kernel_rfl
noncomputable def W_ref10_SameSteps (N : Nat) := V_ref10_SameSteps N
theorem con_ref10_SameSteps_ok (N : Nat) : (u_ref10_SameSteps.con (W_ref10_SameSteps N)).ok P0 := Uf.ok mixed (q_ref10_SameSteps N) trivial Try.func8 (by kernel_rfl) fun x y => by kernel_rfl
noncomputable def u_ref10_PutNum : Uf := ⟨32, 25, Try.f32, [.val (.list (.int .u8)), .val (.int .i64)], [],
⟨[(4, .acc 700006)], [(700006, .nrow 5 (.int .u8) false true)]⟩, [],
[(2, .loop [] ⟨[(1, .val (.int .i64)), (5, .acc 700006)], [(700006, .nrow 5 (.int .u8) false true)]⟩ [(.exit 0, ⟨[(1, .val (.int .i64)), (5, .acc 700006)], [(700006, .nrow 5 (.int .u8) false true)]⟩)])],
[], fun y => (.acc 2000000 0, [], [.nrow 5 false true ⟨(.int .u8), y⟩])⟩
noncomputable def V_ref10_PutNum (N : Nat) (x : List Int × Int) : Option (List Int) :=
  cnd (decide (List.length x.1 * (1:Nat) ≤ (140737488355328:Nat))) (obind (loopN N (fun (v : Int × List Int) => cnd (decide ((128:Int) ≤ v.1)) (cnd
    (decide ((List.length v.2 + List.length [wr .u8 (wr .i64 (Int.tmod v.1 (128:Int) + (128:Int)))]) * (1:Nat) ≤ (140737488355328:Nat))) (some (Sum.inl
    (wr .i64 (Int.tdiv v.1 (128:Int)), v.2 ++ [wr .u8 (wr .i64 (Int.tmod v.1 (128:Int) + (128:Int)))]))) none) (some (Sum.inr v))) (x.2, x.1)) fun (b :
    Int × List Int) => cnd (decide ((List.length b.2 + List.length [wr .u8 b.1]) * (1:Nat) ≤ (140737488355328:Nat))) (some (b.2 ++ [wr .u8 b.1])) none)
    none
theorem q_ref10_PutNum : ∀ N x, u_ref10_PutNum.F L0 P0 (orcOf []) N x = V_ref10_PutNum N x := by intros; kernel_rfl
noncomputable def W_ref10_PutNum (N : Nat) := V_ref10_PutNum N
theorem con_ref10_PutNum_ok (N : Nat) : (u_ref10_PutNum.con (W_ref10_PutNum N)).ok P0 := Uf.ok mixed (q_ref10_PutNum N) trivial Try.func32 (by kernel_rfl) fun x y => by kernel_rfl
noncomputable def u_ref10_PutText : Uf := ⟨31, 11, Try.f31, [.val (.list (.int .u8)), .val .str], [],
⟨[(4, .acc 700008)], [(700008, .nrow 5 (.int .u8) false true)]⟩, [],
[],
[], fun y => (.acc 2000000 0, [], [.nrow 5 false true ⟨(.int .u8), y⟩])⟩
noncomputable def V_ref10_PutText (w_ref10_PutNum : List Int × Int → Option (List Int)) (N : Nat) (x : List Int × List UInt8) : Option (List Int) :=
  obind (w_ref10_PutNum (x.1, (↑(List.length x.2) : Int))) fun b => cnd (decide ((List.length b + List.length (List.map (fun (b : UInt8) => (↑(UInt8.toNat b) : Int)) x.2)) * (1:Nat) ≤ (140737488355328:Nat))) (some (b ++ List.map (fun (b : UInt8) => (↑(UInt8.toNat b) : Int)) x.2)) none
theorem q_ref10_PutText : ∀ w_ref10_PutNum N x, u_ref10_PutText.F L0 P0 (orcOf [u_ref10_PutNum.con w_ref10_PutNum]) N x = V_ref10_PutText w_ref10_PutNum N x := by intros; kernel_rfl
noncomputable def W_ref10_PutText (N : Nat) := V_ref10_PutText (W_ref10_PutNum N) N
theorem con_ref10_PutText_ok (N : Nat) : (u_ref10_PutText.con (W_ref10_PutText N)).ok P0 := Uf.ok mixed (q_ref10_PutText (W_ref10_PutNum N) N) ⟨con_ref10_PutNum_ok N, trivial⟩ Try.func31 (by kernel_rfl) fun x y => by kernel_rfl
noncomputable def u_ref10_putStep : Uf := ⟨21, 59, Try.f21, [.val (.agg T2_)], [],
⟨[(2, .val (.list (.int .u8)))], []⟩, [],
[],
[(1000001, .reg [(8, [], ⟨[(1, .ptr 600001 0), (11, .val .bool)], [(600001, .box 26 (.val T2_))]⟩)]),
(10, .cut [3] [(.normal, ⟨[(1, .ptr 600001 0), (32, .val .bool)], [(600001, .box 26 (.val T2_))]⟩)])], fun y => (valW (.list (.int .u8)) y, [], [])⟩
noncomputable def V_ref10_putStep (w_ref10_PutNum : List Int × Int → Option (List Int)) (w_ref10_PutText : List Int × List UInt8 → Option (List Int)) (N : Nat) (x : A2_) : Option (List Int) :=
  obind (cnd (decide (x.2.1 < (0:Int))) (some (true, x)) (some (decide (x.2.2.1 < (0:Int)), x))) fun (b : Bool × A2_) =>
    cnd b.1 (some []) (cnd (decide (b.2.2.2.2.1 < (0:Int))) (some []) (cnd (decide (b.2.1 = (1:Int))) (obind (w_ref10_PutNum ([wr .u8 b.2.1],
    b.2.2.1)) fun b_1 => obind (w_ref10_PutText (b_1, b.2.2.2.2.2)) fun b => some b) (obind (cnd (decide (b.2.1 = (2:Int))) (some (decide (b.2.1 =
    (2:Int)), b.2)) (cnd (decide (b.2.1 = (3:Int))) (some (decide (b.2.1 = (3:Int)), b.2)) (some (decide (b.2.1 = (5:Int)), b.2)))) fun (b_1 : Bool × A2_) => cnd b_1.1 (obind (w_ref10_PutNum ([wr .u8 b.2.1], b_1.2.2.1)) fun b => some b) (cnd (decide (b.2.1 =
    (4:Int))) (obind (w_ref10_PutText ([wr .u8 b.2.1], b_1.2.2.2.2.2)) fun b => some b) (cnd (decide (b.2.1 = (9:Int))) (obind (w_ref10_PutNum ([wr
    .u8 b.2.1], b_1.2.2.2.1)) fun b => obind (w_ref10_PutNum (b, b_1.2.2.2.2.1)) fun b => some b) (obind (w_ref10_PutNum ([wr .u8 b.2.1],
    b_1.2.2.2.1)) fun b => some b))))))
theorem q_ref10_putStep : ∀ w_ref10_PutNum w_ref10_PutText N x, u_ref10_putStep.F L0 P0 (orcOf [u_ref10_PutNum.con w_ref10_PutNum, u_ref10_PutText.con w_ref10_PutText]) N x = V_ref10_putStep w_ref10_PutNum w_ref10_PutText N x := by intros; kernel_rfl
noncomputable def W_ref10_putStep (N : Nat) := V_ref10_putStep (W_ref10_PutNum N) (W_ref10_PutText N) N
theorem con_ref10_putStep_ok (N : Nat) : (u_ref10_putStep.con (W_ref10_putStep N)).ok P0 := Uf.ok mixed (q_ref10_putStep (W_ref10_PutNum N) (W_ref10_PutText N) N) ⟨con_ref10_PutNum_ok N, con_ref10_PutText_ok N, trivial⟩ Try.func21 (by kernel_rfl) fun x y => by kernel_rfl
noncomputable def u_ref10_PutSteps : Uf := ⟨12, 37, Try.f12, [.val (.list (.agg T2_))], [],
⟨[(2, .val (.list (.int .u8)))], []⟩, [],
[(3, .loop [] ⟨[(3, .acc 700003), (4, .val (.int .i64))], [(700003, .nrow 5 (.int .u8) true true)]⟩ [(.exit 0, ⟨[(3, .val (.list (.int .u8)))], []⟩)])],
[], fun y => (valW (.list (.int .u8)) y, [], [])⟩
noncomputable def V_ref10_PutSteps (w_ref10_putStep : A2_ → Option (List Int)) (w_ref10_TakeSteps : List Int → Option (List A2_)) (N : Nat) (x : List A2_) : Option (List Int) :=
  obind (loopN N (fun (v : Int × List Int) => cnd (decide (v.1 < (↑(List.length x) : Int))) (cnd (decide ((0:Int) ≤ v.1) && decide (v.1 < (↑(List.length
    x) : Int))) (obind (w_ref10_putStep (Prod.fst (List.getD x (Int.toNat v.1) ((0:Int), (0:Int), (0:Int), (0:Int), [])), Prod.fst (Prod.snd
    (List.getD x (Int.toNat v.1) ((0:Int), (0:Int), (0:Int), (0:Int), []))), Prod.fst (Prod.snd (Prod.snd (List.getD x (Int.toNat v.1) ((0:Int),
    (0:Int), (0:Int), (0:Int), [])))), Prod.fst (Prod.snd (Prod.snd (Prod.snd (List.getD x (Int.toNat v.1) ((0:Int), (0:Int), (0:Int), (0:Int), []))))),
    Prod.snd (Prod.snd (Prod.snd (Prod.snd (List.getD x (Int.toNat v.1) ((0:Int), (0:Int), (0:Int), (0:Int), []))))))) fun b => obind (w_ref10_TakeSteps b) fun b_1 => cnd (decide ((↑(List.length b_1) : Int) = (1:Int))) (cnd (decide ((0:Int) ≤ (0:Int)) && decide ((0:Int) < (↑(List.length b_1) :
    Int))) (cnd (decide ((0:Int) ≤ v.1) && decide (v.1 < (↑(List.length x) : Int))) (cnd (decide (Prod.fst (List.getD b_1 (0:Nat) ((0:Int), (0:Int),
    (0:Int), (0:Int), [])) = Prod.fst (List.getD x (Int.toNat v.1) ((0:Int), (0:Int), (0:Int), (0:Int), []))) && (decide (Prod.fst (Prod.snd (List.getD
    b_1 (0:Nat) ((0:Int), (0:Int), (0:Int), (0:Int), []))) = Prod.fst (Prod.snd (List.getD x (Int.toNat v.1) ((0:Int), (0:Int), (0:Int), (0:Int), []))))
    && (decide (Prod.fst (Prod.snd (Prod.snd (List.getD b_1 (0:Nat) ((0:Int), (0:Int), (0:Int), (0:Int), [])))) = Prod.fst (Prod.snd (Prod.snd
    (List.getD x (Int.toNat v.1) ((0:Int), (0:Int), (0:Int), (0:Int), []))))) && (decide (Prod.fst (Prod.snd (Prod.snd (Prod.snd (List.getD b_1 (0:Nat)
    ((0:Int), (0:Int), (0:Int), (0:Int), []))))) = Prod.fst (Prod.snd (Prod.snd (Prod.snd (List.getD x (Int.toNat v.1) ((0:Int), (0:Int), (0:Int),
    (0:Int), [])))))) && Prod.snd (Prod.snd (Prod.snd (Prod.snd (List.getD b_1 (0:Nat) ((0:Int), (0:Int), (0:Int), (0:Int), []))))) == Prod.snd
    (Prod.snd (Prod.snd (Prod.snd (List.getD x (Int.toNat v.1) ((0:Int), (0:Int), (0:Int), (0:Int), []))))))))) (cnd (decide ((List.length v.2 +
    List.length b) * (1:Nat) ≤ (140737488355328:Nat))) (some (Sum.inl (wr .i64 (v.1 + (1:Int)), v.2 ++ b))) none) (some (Sum.inl (wr .i64 (v.1 +
    (1:Int)), v.2)))) none) none) (some (Sum.inl (wr .i64 (v.1 + (1:Int)), v.2)))) none) (some (Sum.inr v.2))) ((0:Int), [])) fun (b : List Int) => some
    b
theorem q_ref10_PutSteps : ∀ w_ref10_putStep w_ref10_TakeSteps N x, u_ref10_PutSteps.F L0 P0 (orcOf [u_ref10_putStep.con w_ref10_putStep, u_ref10_TakeSteps.con w_ref10_TakeSteps]) N x = V_ref10_PutSteps w_ref10_putStep w_ref10_TakeSteps N x := by intros; kernel_rfl
noncomputable def W_ref10_PutSteps (N : Nat) := V_ref10_PutSteps (W_ref10_putStep N) (W_ref10_TakeSteps N) N
theorem con_ref10_PutSteps_ok (N : Nat) : (u_ref10_PutSteps.con (W_ref10_PutSteps N)).ok P0 := Uf.ok mixed (q_ref10_PutSteps (W_ref10_putStep N) (W_ref10_TakeSteps N) N) ⟨con_ref10_putStep_ok N, con_ref10_TakeSteps_ok N, trivial⟩ Try.func12 (by kernel_rfl) fun x y => by kernel_rfl
noncomputable def u_law25_OpsAll : Uf := ⟨3, 75, Try.f3, [.val (.list (.int .u8)), .val (.list (.agg T2_)), .val (.list (.int .u8))], [],
⟨[(6, .val .bool)], []⟩, [],
[(6, .loop [] ⟨[(7, .val (.int .i64))], []⟩ [(.exit 0, ⟨[], []⟩), (.ret, ⟨[(6, .val .bool)], []⟩)]),
(14, .loop [] ⟨[(8, .ptr 600041 0), (9, .ptr 600009 0), (10, .acc 700010), (11, .val (.int .i64))], [(600041, .box 45 (.val T7_)), (600009, .box 37 (.val T4_)), (700010, .nrow 26 (.agg T2_) true true)]⟩ [(.exit 2, ⟨[(10, .val (.list (.agg T2_)))], []⟩)])],
[(1000003, .reg [(8, [], ⟨[(21, .val .bool)], []⟩)])], fun y => (valW .bool y, [], [])⟩
noncomputable def V_law25_OpsAll (w_law25_begun : Unit → Option (Bool)) (w_Made : List Int → Option (List Int × Int)) (w_Picks_World : List Int × Int → Option ((List Int × Int) × A3_)) (w_Picks_Step : A3_ × List Int × Int → Option ((List Int × Int) × A2_)) (w_ops_Take : List Int → Option (List A2_)) (w_ref10_TakeSteps : List Int → Option (List A2_)) (w_ref10_SameSteps : List A2_ × List A2_ → Option (Bool)) (w_ops_Put : List A2_ → Option (List Int)) (w_ref10_PutSteps : List A2_ → Option (List Int)) (N : Nat) (x : List Int × List A2_ × List Int) : Option (Bool) :=
  obind (w_law25_begun ()) fun b => cnd (!b) (some false) (obind (cnd (decide ((200:Int) < (↑(List.length x.1) : Int))) (some true) (some (decide
    ((10:Int) < (↑(List.length x.2.1) : Int))))) fun (b : Bool) => cnd b (some true) (cnd (decide ((100:Int) < (↑(List.length x.2.2) : Int))) (some
    true) (obind (loopN N (fun (v : Int) => cnd (decide (v < (↑(List.length x.2.1) : Int))) (cnd (decide ((0:Int) ≤ v) && decide (v < (↑(List.length
    x.2.1) : Int))) (cnd (decide ((100:Int) < (↑(List.length (Prod.snd (Prod.snd (Prod.snd (Prod.snd (List.getD x.2.1 (Int.toNat v) ((0:Int), (0:Int),
    (0:Int), (0:Int), []))))))) : Int))) (some (Sum.inr (Sum.inr true))) (some (Sum.inl (wr .i64 (v + (1:Int)))))) none) (some (Sum.inr (Sum.inl ()))))
    (Int.ofNat (0:Nat))) fun (b : PUnit ⊕ Bool) => selim (fun (b : PUnit) => obind (w_Made x.2.2) fun b => obind (w_Picks_World b) fun b => obind
    (loopN N (fun (v : Int × (List Int × Int) × A3_ × List A2_) => cnd (decide (v.1 < (20:Int))) (obind (w_Picks_Step (v.2.2.1, v.2.1)) fun b => cnd (decide ((List.length v.2.2.2 +
    List.length [b.2]) * (48:Nat) ≤ (140737488355328:Nat))) (some (Sum.inl (wr .i64 (v.1 + (1:Int)), b.1, v.2.2.1, v.2.2.2 ++ [b.2]))) none) (some
    (Sum.inr v.2.2.2))) ((0:Int), b.1, b.2, [])) fun (b : List A2_) => obind (w_ops_Take x.1) fun b_1 => obind
    (w_ref10_TakeSteps x.1) fun b_2 => obind (w_ref10_SameSteps (b_1, b_2)) fun b_3 => cnd b_3 (obind (w_ops_Put x.2.1) fun b_4 => cnd (List.all
    b_4 fun (n : Int) => decide ((0:Int) ≤ n) && decide (n < (256:Int))) (obind (w_ref10_PutSteps x.2.1) fun b_5 => cnd (List.all b_5 fun (n : Int) =>
    decide ((0:Int) ≤ n) && decide (n < (256:Int))) (cnd (bytesI b_4 == bytesI b_5) (obind (w_ops_Put b) fun b_6 => obind (w_ops_Take b_6) fun b_7
    => obind (w_ref10_SameSteps (b_7, b)) fun b => some b) (some false)) none) none) (some false)) (fun (c : Bool) => some c) b)))
theorem q_law25_OpsAll : ∀ w_law25_begun w_Made w_Picks_World w_Picks_Step w_ops_Take w_ref10_TakeSteps w_ref10_SameSteps w_ops_Put w_ref10_PutSteps N x, u_law25_OpsAll.F L0 P0 (orcOf [u_law25_begun.con w_law25_begun, u_Made.con w_Made, u_Picks_World.con w_Picks_World, u_Picks_Step.con w_Picks_Step, u_ops_Take.con w_ops_Take, u_ref10_TakeSteps.con w_ref10_TakeSteps, u_ref10_SameSteps.con w_ref10_SameSteps, u_ops_Put.con w_ops_Put, u_ref10_PutSteps.con w_ref10_PutSteps]) N x = V_law25_OpsAll w_law25_begun w_Made w_Picks_World w_Picks_Step w_ops_Take w_ref10_TakeSteps w_ref10_SameSteps w_ops_Put w_ref10_PutSteps N x := by intros; kernel_rfl
noncomputable def W_law25_OpsAll (N : Nat) := V_law25_OpsAll (W_law25_begun N) (W_Made N) (W_Picks_World N) (W_Picks_Step N) (W_ops_Take N) (W_ref10_TakeSteps N) (W_ref10_SameSteps N) (W_ops_Put N) (W_ref10_PutSteps N) N
theorem con_law25_OpsAll_ok (N : Nat) : (u_law25_OpsAll.con (W_law25_OpsAll N)).ok P0 := Uf.ok mixed (q_law25_OpsAll (W_law25_begun N) (W_Made N) (W_Picks_World N) (W_Picks_Step N) (W_ops_Take N) (W_ref10_TakeSteps N) (W_ref10_SameSteps N) (W_ops_Put N) (W_ref10_PutSteps N) N) ⟨con_law25_begun_ok N, con_Made_ok N, con_Picks_World_ok N, con_Picks_Step_ok N, con_ops_Take_ok N, con_ref10_TakeSteps_ok N, con_ref10_SameSteps_ok N, con_ops_Put_ok N, con_ref10_PutSteps_ok N, trivial⟩ Try.func3 (by kernel_rfl) fun x y => by kernel_rfl
/-! What is reckoned. -/
-- PURE
theorem wr_m {z : Int} (h : -140737488355328 ≤ z) (h2 : z ≤ 140737488355328) : wr .i64 z = z := wr_i64 (by omega) (by omega)
theorem cnd_T {α : Type} {p : Prop} {i : Decidable p} {x y : α} (h : p) : cnd (@decide p i) x y = x := by rw [decide_eq_true h]; rfl
theorem cnd_F {α : Type} {p : Prop} {i : Decidable p} {x y : α} (h : ¬ p) : cnd (@decide p i) x y = y := by rw [decide_eq_false h]; rfl
def U8 (l : List Int) : Prop := ∀ n ∈ l, 0 ≤ n ∧ n ≤ 255
theorem U8_all {l : List Int} (h : U8 l) : (List.all l fun (n : Int) => decide ((0 : Int) ≤ n) && decide (n < (256 : Int))) = true := by
  rw [List.all_eq_true]
  intro n hn
  have := h n hn
  simp only [Bool.and_eq_true, decide_eq_true_eq]; omega
theorem U8_app {a b : List Int} (ha : U8 a) (hb : U8 b) : U8 (a ++ b) := fun n hn => (List.mem_append.1 hn).elim (ha n) (hb n)
theorem U8_take {a : List Int} (ha : U8 a) (k : Nat) : U8 (a.take k) := fun n hn => ha n (List.mem_of_mem_take hn)
theorem U8_drop {a : List Int} (ha : U8 a) (k : Nat) : U8 (a.drop k) := fun n hn => ha n (List.mem_of_mem_drop hn)
theorem U8_get {a : List Int} (ha : U8 a) (j : Nat) (hj : j < a.length) : 0 ≤ a.getD j 0 ∧ a.getD j 0 ≤ 255 := by
  rw [List.getD_eq_getElem?_getD, List.getElem?_eq_getElem hj]
  exact ha _ (List.getElem_mem hj)
def encF : Nat → Int → List Int
  | 0, v => [v]
  | k + 1, v => if v < 128 then [v] else (v % 128 + 128) :: encF k (v / 128)
theorem encF_U8 : ∀ (k : Nat) (v : Int), 0 ≤ v → v < 128 * 128 ^ k → U8 (encF k v) ∧ (encF k v).length ≤ k + 1 ∧ 0 < (encF k v).length
  | 0, v, h, h2 => by
    refine ⟨fun n hn => ?_, by simp [encF], by simp [encF]⟩
    simp only [encF, List.mem_singleton] at hn
    subst hn
    simp at h2
    omega
  | k + 1, v, h, h2 => by
    simp only [encF]
    split
    · refine ⟨fun n hn => ?_, by simp, by simp⟩
      simp only [List.mem_singleton] at hn
      subst hn; omega
    · have h3 : v < 128 * 128 ^ k * 128 := by rw [Int.pow_succ] at h2; omega
      obtain ⟨a, b, _⟩ := encF_U8 k (v / 128) (by omega) (by omega)
      refine ⟨fun n hn => ?_, by simp only [List.length_cons]; omega, by simp⟩
      rcases List.mem_cons.1 hn with rfl | hn
      · omega
      · exact a n hn
theorem putLoop {f : Int × List Int → Option ((Int × List Int) ⊕ (Int × List Int))} (h1 : ∀ v l, 0 ≤ v → v < 128 → f (v, l) = some (.inr (v, l)))
    (h2 : ∀ v l, 128 ≤ v → v ≤ 1073741824 → l.length ≤ 2000 → f (v, l) = some (.inl (v / 128, l ++ [v % 128 + 128]))) :
    ∀ (k N : Nat) (v : Int) (l : List Int), k < N → 0 ≤ v → v ≤ 1073741824 → v < 128 * 128 ^ k → l.length + k ≤ 2000 → ∃ v' l', loopN N f (v, l) = some (v', l') ∧ l' ++ [v'] = l ++ encF k v ∧ 0 ≤ v' ∧ v' < 128
  | k, 0, v, l, hN, _, _, _, _ => by omega
  | 0, N + 1, v, l, hN, hv, hm, hk, hl => by
    simp at hk
    exact ⟨v, l, by simp only [loopN, h1 v l hv hk], rfl, hv, hk⟩
  | k + 1, N + 1, v, l, hN, hv, hm, hk, hl => by
    by_cases c : v < 128
    · exact ⟨v, l, by simp only [loopN, h1 v l hv c], by simp only [encF, if_pos c], hv, c⟩
    · have h3 : v < 128 * 128 ^ k * 128 := by rw [Int.pow_succ] at hk; omega
      obtain ⟨v', l', e1, e2, e3, e4⟩ := putLoop h1 h2 k N (v / 128) (l ++ [v % 128 + 128]) (by omega) (by omega) (by omega) (by omega) (by simp only [List.length_append, List.length_singleton]; omega)
      refine ⟨v', l', by simp only [loopN, h2 v l (by omega) hm (by omega)]; exact e1, ?_, e3, e4⟩
      rw [e2]
      simp only [encF, if_neg c, List.append_assoc, List.singleton_append]
def enc (v : Int) : List Int := encF 4 v
theorem Clone_b (N : Nat) (l : List Int) (hl : l.length ≤ 1000) : W_bytes_Clone N l = some l := by
  unfold W_bytes_Clone V_bytes_Clone
  rw [dT (by omega), cnd_t]
theorem stepP1 (v : Int) (l : List Int) (h : v < 128) : cnd (decide ((128 : Int) ≤ v))
              (cnd (decide ((List.length l + List.length [wr IntKind.u8 (wr IntKind.i64 (Int.tmod v (128 : Int) + (128 : Int)))]) * (1 : Nat) ≤ (140737488355328 : Nat)))
                (some (Sum.inl (wr IntKind.i64 (Int.tdiv v (128 : Int)), l ++ [wr IntKind.u8 (wr IntKind.i64 (Int.tmod v (128 : Int) + (128 : Int)))])))
                none)
              (some (Sum.inr (v, l) : (Int × List Int) ⊕ (Int × List Int))) = some (Sum.inr (v, l)) := by rw [dF (by omega), cnd_f]
theorem stepP2 (v : Int) (l : List Int) (h : 128 ≤ v) (h2 : v ≤ 1073741824) (hl : l.length ≤ 2000) : cnd (decide ((128 : Int) ≤ v))
              (cnd (decide ((List.length l + List.length [wr IntKind.u8 (wr IntKind.i64 (Int.tmod v (128 : Int) + (128 : Int)))]) * (1 : Nat) ≤ (140737488355328 : Nat)))
                (some (Sum.inl (wr IntKind.i64 (Int.tdiv v (128 : Int)), l ++ [wr IntKind.u8 (wr IntKind.i64 (Int.tmod v (128 : Int) + (128 : Int)))])))
                none)
              (some (Sum.inr (v, l) : (Int × List Int) ⊕ (Int × List Int))) = some (Sum.inl (v / 128, l ++ [v % 128 + 128])) := by
  rw [dT h, cnd_t, Int.tmod_eq_emod_of_nonneg (by omega), Int.tdiv_eq_ediv_of_nonneg (by omega), wr_m (by omega) (by omega), wr_m (by omega) (by omega), wr_u8 (by omega) (by omega), dT (by simp only [List.length_singleton]; omega), cnd_t]
theorem Put_eq (N : Nat) (hN : 100 ≤ N) (l : List Int) (v : Int) (hl : l.length ≤ 1000) (h0 : 0 ≤ v) (h1 : v ≤ 1073741824) : W_bits_Put N (l, v) = some (l ++ enc v) := by
  unfold W_bits_Put V_bits_Put
  simp only [Clone_b N l hl, obind_s]
  rw [dF (by omega), cnd_f, dF (by omega), cnd_f]
  obtain ⟨v', l', e1, e2, e3, e4⟩ := putLoop (f := fun (v : Int × List Int) => cnd (decide ((128 : Int) ≤ Prod.fst v))
              (cnd (decide ((List.length (Prod.snd v) + List.length [wr IntKind.u8 (wr IntKind.i64 (Int.tmod (Prod.fst v) (128 : Int) + (128 : Int)))]) * (1 : Nat) ≤ (140737488355328 : Nat)))
                (some (Sum.inl (wr IntKind.i64 (Int.tdiv (Prod.fst v) (128 : Int)), Prod.snd v ++ [wr IntKind.u8 (wr IntKind.i64 (Int.tmod (Prod.fst v) (128 : Int) + (128 : Int)))])))
                none)
              (some (Sum.inr (Prod.fst v, Prod.snd v)))) (fun v l h h2 => stepP1 v l h2) (fun v l h h2 hl => stepP2 v l h h2 hl) 4 N v l (by omega) h0 h1 (by omega) (by omega)
  rw [e1, obind_s]
  try simp only
  have hlen : l'.length ≤ 1010 := by
    have := congrArg List.length e2
    have h3 := (encF_U8 4 v h0 (by omega)).2.1
    simp only [List.length_append, List.length_singleton] at this
    omega
  rw [wr_u8 e3 (by omega), dT (by simp only [List.length_singleton]; omega), cnd_t, e2]
  rfl
theorem PutNum_eq (N : Nat) (hN : 100 ≤ N) (l : List Int) (v : Int) (hl : l.length ≤ 1000) (h0 : 0 ≤ v) (h1 : v ≤ 1073741824) : W_ref10_PutNum N (l, v) = some (l ++ enc v) := by
  unfold W_ref10_PutNum V_ref10_PutNum
  try simp only
  rw [dT (by omega), cnd_t]
  obtain ⟨v', l', e1, e2, e3, e4⟩ := putLoop (f := fun (v : Int × List Int) => cnd (decide ((128 : Int) ≤ Prod.fst v))
              (cnd (decide ((List.length (Prod.snd v) + List.length [wr IntKind.u8 (wr IntKind.i64 (Int.tmod (Prod.fst v) (128 : Int) + (128 : Int)))]) * (1 : Nat) ≤ (140737488355328 : Nat)))
                (some (Sum.inl (wr IntKind.i64 (Int.tdiv (Prod.fst v) (128 : Int)), Prod.snd v ++ [wr IntKind.u8 (wr IntKind.i64 (Int.tmod (Prod.fst v) (128 : Int) + (128 : Int)))])))
                none)
              (some (Sum.inr (Prod.fst v, Prod.snd v)))) (fun v l h h2 => stepP1 v l h2) (fun v l h h2 hl => stepP2 v l h h2 hl) 4 N v l (by omega) h0 h1 (by omega) (by omega)
  rw [e1, obind_s]
  try simp only
  have hlen : l'.length ≤ 1010 := by
    have := congrArg List.length e2
    have h3 := (encF_U8 4 v h0 (by omega)).2.1
    simp only [List.length_append, List.length_singleton] at this
    omega
  rw [wr_u8 e3 (by omega), dT (by simp only [List.length_singleton]; omega), cnd_t, e2]
  rfl
theorem enc_U8 {v : Int} (h0 : 0 ≤ v) (h1 : v ≤ 1073741824) : U8 (enc v) ∧ (enc v).length ≤ 5 ∧ 0 < (enc v).length := encF_U8 4 v h0 (by omega)
def by8 (s : List UInt8) : List Int := List.map (fun (b : UInt8) => (↑(UInt8.toNat b) : Int)) s
theorem by8_U8 (s : List UInt8) : U8 (by8 s) := by
  intro n hn
  obtain ⟨b, _, rfl⟩ := List.mem_map.1 hn
  have := b.toNat_lt
  omega
theorem PutText_eq (N : Nat) (hN : 100 ≤ N) (l : List Int) (s : List UInt8) (hl : l.length ≤ 1000) (hs : s.length ≤ 200) : W_bits_PutText N (l, s) = some (l ++ enc s.length ++ by8 s) := by
  have h3 := (enc_U8 (v := (s.length : Int)) (by omega) (by omega)).2.1
  unfold W_bits_PutText V_bits_PutText
  try simp only
  rw [dF (by omega), cnd_f, Put_eq N hN l _ hl (by omega) (by omega), obind_s, dT (by simp only [List.length_append, List.length_map]; omega), cnd_t]
  rfl
theorem rPutText_eq (N : Nat) (hN : 100 ≤ N) (l : List Int) (s : List UInt8) (hl : l.length ≤ 1000) (hs : s.length ≤ 200) : W_ref10_PutText N (l, s) = some (l ++ enc s.length ++ by8 s) := by
  have h3 := (enc_U8 (v := (s.length : Int)) (by omega) (by omega)).2.1
  unfold W_ref10_PutText V_ref10_PutText
  try simp only
  rw [PutNum_eq N hN l _ hl (by omega) (by omega), obind_s, dT (by simp only [List.length_append, List.length_map]; omega), cnd_t]
  rfl
def rd : List Int → Nat → Int → Int → Option (Int × Int)
  | [], _, _, _ => none
  | c :: r, i, v, u => if 5 ≤ i then none else if c < 128 then (if (0 < i ∧ c = 0) ∨ 1073741824 < v + c % 128 * u then none else some (v + c % 128 * u, (i : Int) + 1)) else rd r (i + 1) (v + c % 128 * u) (u * 128)
theorem rd_big : ∀ (l : List Int) (i : Nat) (v u : Int), U8 l → 1073741824 < v → 0 ≤ u → rd l i v u = none
  | [], _, _, _, _, _, _ => rfl
  | c :: r, i, v, u, hU, hv, hu => by
    have hc := hU c (by simp)
    have hm : 0 ≤ c % 128 * u := Int.mul_nonneg (by omega) hu
    simp only [rd]
    split
    · rfl
    · split
      · rw [if_pos (.inr (by omega))]
      · exact rd_big r _ _ _ (fun n hn => hU n (by simp [hn])) (by omega) (by omega)
theorem rd_rng : ∀ (l : List Int) (i : Nat) (v u : Int) (x n : Int), U8 l → 0 ≤ v → 0 ≤ u → rd l i v u = some (x, n) → 0 ≤ x ∧ x ≤ 1073741824 ∧ (i : Int) + 1 ≤ n ∧ n ≤ i + l.length ∧ n ≤ 5
  | [], _, _, _, _, _, _, _, _, h => by cases h
  | c :: r, i, v, u, x, n, hU, hv, hu, h => by
    have hc := hU c (by simp)
    have hm : 0 ≤ c % 128 * u := Int.mul_nonneg (by omega) hu
    simp only [rd] at h
    split at h
    · cases h
    · split at h
      · split at h
        · cases h
        · rename_i h5 _ hn
          have hn2 : ¬ 1073741824 < v + c % 128 * u := fun q => hn (.inr q)
          injection h with h
          injection h with h1 h2
          subst h1 h2
          simp only [List.length_cons]
          omega
      · have := rd_rng r (i + 1) _ _ x n (fun n hn => hU n (by simp [hn])) (by omega) (by omega) h
        simp only [List.length_cons]
        omega
theorem drop_cons {l : List Int} {i : Nat} (h : i < l.length) : l.drop i = l.getD i 0 :: l.drop (i + 1) := by
  rw [List.drop_eq_getElem_cons h, List.getD_eq_getElem?_getD, List.getElem?_eq_getElem h]; rfl
def pw (i : Nat) : Int := 128 ^ i
theorem pw_succ (i : Nat) : pw (i + 1) = pw i * 128 := Int.pow_succ _ _
theorem pw_pos (i : Nat) : 0 < pw i := Int.pow_pos (by omega)
theorem pw_le {i : Nat} (h : i ≤ 5) : pw i ≤ 34359738368 := by
  have : i = 0 ∨ i = 1 ∨ i = 2 ∨ i = 3 ∨ i = 4 ∨ i = 5 := by omega
  rcases this with rfl | rfl | rfl | rfl | rfl | rfl <;> decide
structure RdI (x : List Int) (v u : Int) (i : Nat) : Prop where
  le : i ≤ x.length
  i5 : i ≤ 5
  eu : u = pw i
  v0 : 0 ≤ v
  v1 : v < pw i
  same : rd (x.drop i) i v u = rd x 0 0 1
theorem RdI.zero (x : List Int) : RdI x 0 1 0 := ⟨by omega, by omega, rfl, by omega, by decide, rfl⟩
theorem RdI.bnd {x : List Int} {v u : Int} {i : Nat} (h : RdI x v u i) (hU : U8 x) (hi : i < x.length) : 0 ≤ v + x.getD i 0 % 128 * u ∧ v + x.getD i 0 % 128 * u < pw (i + 1) ∧ 0 ≤ x.getD i 0 % 128 * u ∧ x.getD i 0 % 128 * u ≤ 127 * pw i := by
  have hc := U8_get hU i hi
  have hp := pw_pos i
  have e := h.eu
  have v0 := h.v0
  have v1 := h.v1
  have h1 : 0 ≤ x.getD i 0 % 128 * u := Int.mul_nonneg (by omega) (by omega)
  have h2 : x.getD i 0 % 128 * u ≤ 127 * u := Int.mul_le_mul_of_nonneg_right (by omega) (by omega)
  rw [pw_succ]
  refine ⟨by omega, by omega, h1, by omega⟩
theorem RdI.next {x : List Int} {v u : Int} {i : Nat} (h : RdI x v u i) (hU : U8 x) (hi : i < x.length) (h5 : i < 5) (hc : ¬ x.getD i 0 < 128) : RdI x (v + x.getD i 0 % 128 * u) (u * 128) (i + 1) := by
  obtain ⟨b1, b2, _⟩ := h.bnd hU hi
  refine ⟨by omega, by omega, by rw [h.eu, pw_succ], b1, b2, ?_⟩
  rw [← h.same, drop_cons hi]
  simp only [rd]
  rw [if_neg (by omega), if_neg hc]
theorem RdI.at_ {x : List Int} {v u : Int} {i : Nat} (h : RdI x v u i) (hi : i < x.length) : rd x 0 0 1 = if 5 ≤ i then none else if x.getD i 0 < 128 then (if (0 < i ∧ x.getD i 0 = 0) ∨ 1073741824 < v + x.getD i 0 % 128 * u then none else some (v + x.getD i 0 % 128 * u, (i : Int) + 1)) else rd (x.drop (i + 1)) (i + 1) (v + x.getD i 0 % 128 * u) (u * 128) := by
  rw [← h.same, drop_cons hi]
  rfl
theorem RdI.stop {x : List Int} {v u : Int} {i : Nat} (h : RdI x v u i) (hi : x.length ≤ i) : rd x 0 0 1 = none := by
  rw [← h.same, List.drop_eq_nil_of_le hi]; rfl
def tk (o : Option (Int × Int)) : Int × Int × Bool := match o with
  | some (v, n) => (v, n, true)
  | none => (0, 0, false)
theorem TakeNum_eq (N : Nat) (hN : 100 ≤ N) (x : List Int) (hx : x.length ≤ 1000) (hU : U8 x) : W_ref10_TakeNum N x = some (tk (rd x 0 0 1)) := by
  unfold W_ref10_TakeNum V_ref10_TakeNum
  refine obind_loop (fun v : Int × Int × Int => ∃ i : Nat, v.2.2 = i ∧ RdI x v.1 v.2.1 i) (fun v => 6 - v.2.2.toNat) (fun r : PUnit ⊕ Int × Int × Bool => (r = .inl () ∧ rd x 0 0 1 = none) ∨ r = .inr (tk (rd x 0 0 1))) ⟨0, rfl, RdI.zero x⟩ (by show 6 - Int.toNat 0 < N; omega) ?_ ?_
  · rintro r (⟨rfl, h⟩ | rfl)
    · rw [selim_l, h]; rfl
    · rw [selim_r]
  · rintro ⟨v, u, w⟩ ⟨i, hi, hI⟩
    simp only at hi hI ⊢
    subst hi
    by_cases hlt : (i : Int) < x.length
    case neg => right; rw [dF hlt, cnd_f]; exact ⟨_, rfl, .inl ⟨rfl, hI.stop (by omega)⟩⟩
    have hix : i < x.length := by omega
    rw [dT hlt, cnd_t, Int.toNat_natCast]
    have hat := hI.at_ hix
    by_cases h5 : (i : Int) < 5
    case neg =>
      right; rw [dF h5, cnd_f]; rw [if_pos (by omega)] at hat
      exact ⟨_, rfl, .inl ⟨rfl, hat⟩⟩
    rw [if_neg (by omega)] at hat
    have hp := pw_le (i := i) (by omega)
    have hp1 := pw_le (i := i + 1) (by omega)
    have hp0 := pw_pos i
    obtain ⟨b1, b2, b3, b4⟩ := hI.bnd hU hix
    have hc := U8_get hU i hix
    have hu := hI.eu
    have w1 : wr .i64 (Int.tmod (x.getD i 0) 128) = x.getD i 0 % 128 := by rw [Int.tmod_eq_emod_of_nonneg hc.1, wr_m (by omega) (by omega)]
    have w2 : wr .i64 (x.getD i 0 % 128 * u) = x.getD i 0 % 128 * u := wr_m (by omega) (by omega)
    have w3 : wr .i64 (v + x.getD i 0 % 128 * u) = v + x.getD i 0 % 128 * u := wr_m (by omega) (by omega)
    have w4 : wr .i64 (u * 128) = u * 128 := wr_m (by omega) (by omega)
    have w5 : wr .i64 ((i : Int) + 1) = (i : Int) + 1 := wr_m (by omega) (by omega)
    rw [dT h5, cnd_t, dT (Int.natCast_nonneg i), Bool.and_self, cnd_t, cnd_t, w1, w2, w3, w4, w5]
    clear w1 w2 w3 w4 w5
    by_cases hs : x.getD i 0 < 128
    case neg =>
      left
      rw [dF hs, cnd_f]
      refine ⟨(v + x.getD i 0 % 128 * u, u * 128, (i : Int) + 1), rfl, ⟨i + 1, (Int.natCast_succ i).symm, hI.next hU hix (by omega) hs⟩, ?_⟩
      show 6 - ((i : Int) + 1).toNat < 6 - (i : Int).toNat
      omega
    right
    rw [if_pos hs] at hat
    rw [dT hs, cnd_t]
    by_cases hz : 0 < i ∧ x.getD i 0 = 0
    · rw [dT (show (0 : Int) < (i : Int) by omega), cnd_t, cnd_t, dT hz.2, obind_s, cnd_t]
      rw [if_pos (.inl hz)] at hat
      exact ⟨_, rfl, .inr (by rw [hat]; rfl)⟩
    · have e1 : cnd (decide ((0 : Int) < (i : Int))) (cnd true (some (decide (x.getD i 0 = 0))) none) (some false) = some false := by
        by_cases h0 : (0 : Int) < (i : Int)
        · rw [dT h0, cnd_t, cnd_t, dF (fun q => hz ⟨by omega, q⟩)]
        · rw [dF h0, cnd_f]
      rw [e1, obind_s, cnd_f]
      by_cases hm : 1073741824 < v + x.getD i 0 % 128 * u
      · rw [dT hm, cnd_t]
        rw [if_pos (.inr hm)] at hat
        exact ⟨_, rfl, .inr (by rw [hat]; rfl)⟩
      · rw [dF hm, cnd_f]
        rw [if_neg (fun q => q.elim hz hm)] at hat
        exact ⟨_, rfl, .inr (by rw [hat]; rfl)⟩
theorem read_eq (N : Nat) (hN : 100 ≤ N) (x : List Int) (hx : x.length ≤ 1000) (hU : U8 x) : W_bits_read N x = some (match rd x 0 0 1 with | some p => .inl p | none => .inr ()) := by
  unfold W_bits_read V_bits_read
  refine obind_loop (fun v : Int × Int × Int => ∃ i : Nat, v.2.2 = i ∧ RdI x v.1 v.2.1 i) (fun v => 6 - v.2.2.toNat) (fun r : PUnit ⊕ Int × Int ⊕ PUnit => (r = .inl () ∧ rd x 0 0 1 = none) ∨ ∃ p, r = .inr (.inl p) ∧ rd x 0 0 1 = some p) ⟨0, rfl, RdI.zero x⟩ (by show 6 - Int.toNat 0 < N; omega) ?_ ?_
  · rintro r (⟨rfl, h⟩ | ⟨p, rfl, h⟩)
    · rw [selim_l, h]
    · rw [selim_r, h]
  · rintro ⟨v, u, w⟩ ⟨i, hi, hI⟩
    simp only at hi hI ⊢
    subst hi
    by_cases hlt : (i : Int) < x.length
    case neg => right; rw [dF hlt, cnd_f]; exact ⟨_, rfl, .inl ⟨rfl, hI.stop (by omega)⟩⟩
    have hix : i < x.length := by omega
    rw [dT hlt, cnd_t, Int.toNat_natCast]
    have hat := hI.at_ hix
    rw [dT (Int.natCast_nonneg i), Bool.and_self, cnd_t]
    by_cases h5 : (i : Int) = 5
    · right; rw [dT h5, cnd_t, obind_s, cnd_t]; rw [if_pos (by omega)] at hat
      exact ⟨_, rfl, .inl ⟨rfl, hat⟩⟩
    have hi5 := hI.i5
    rw [if_neg (by omega)] at hat
    have hp := pw_le (i := i) (by omega)
    have hp1 := pw_le (i := i + 1) (by omega)
    have hp0 := pw_pos i
    obtain ⟨b1, b2, b3, b4⟩ := hI.bnd hU hix
    have hc := U8_get hU i hix
    have hu := hI.eu
    have w1 : wr .i64 (Int.tmod (x.getD i 0) 128) = x.getD i 0 % 128 := by rw [Int.tmod_eq_emod_of_nonneg hc.1, wr_m (by omega) (by omega)]
    have w2 : wr .i64 (x.getD i 0 % 128 * u) = x.getD i 0 % 128 * u := wr_m (by omega) (by omega)
    have w3 : wr .i64 (v + x.getD i 0 % 128 * u) = v + x.getD i 0 % 128 * u := wr_m (by omega) (by omega)
    have w4 : wr .i64 (u * 128) = u * 128 := wr_m (by omega) (by omega)
    have w5 : wr .i64 ((i : Int) + 1) = (i : Int) + 1 := wr_m (by omega) (by omega)
    rw [dF h5, cnd_f, obind_s, w1, w2, w3, w4, w5]
    clear w1 w2 w3 w4 w5
    by_cases hm : 1073741824 < v + x.getD i 0 % 128 * u
    · right
      rw [dT hm, cnd_t]
      refine ⟨_, rfl, .inl ⟨rfl, ?_⟩⟩
      rw [hat]
      split
      · rw [if_pos (.inr hm)]
      · exact rd_big _ _ _ _ (U8_drop hU _) hm (by omega)
    rw [dF hm, cnd_f]
    have go : ¬ (0 < i ∧ x.getD i 0 = 0) → (∃ y : Int × Int × Int, cnd (decide (x.getD i 0 < (128 : Int))) (some (Sum.inr (Sum.inr (Sum.inl (v + x.getD i 0 % 128 * u, (i : Int) + 1))))) (some (Sum.inl (v + x.getD i 0 % 128 * u, u * 128, (i : Int) + 1))) = some (.inl y : (Int × Int × Int) ⊕ (PUnit ⊕ Int × Int ⊕ PUnit)) ∧ (∃ i : Nat, y.2.2 = i ∧ RdI x y.1 y.2.1 i) ∧ 6 - y.2.2.toNat < 6 - (i : Int).toNat) ∨
        ∃ r, cnd (decide (x.getD i 0 < (128 : Int))) (some (Sum.inr (Sum.inr (Sum.inl (v + x.getD i 0 % 128 * u, (i : Int) + 1))))) (some (Sum.inl (v + x.getD i 0 % 128 * u, u * 128, (i : Int) + 1))) = some (.inr r : (Int × Int × Int) ⊕ (PUnit ⊕ Int × Int ⊕ PUnit)) ∧ ((r = .inl () ∧ rd x 0 0 1 = none) ∨ ∃ p, r = .inr (.inl p) ∧ rd x 0 0 1 = some p) := by
      intro hz
      by_cases hs : x.getD i 0 < 128
      · right
        rw [dT hs, cnd_t]
        rw [if_pos hs, if_neg (fun q => q.elim hz hm)] at hat
        exact ⟨_, rfl, .inr ⟨_, rfl, hat⟩⟩
      · left
        rw [dF hs, cnd_f]
        refine ⟨(v + x.getD i 0 % 128 * u, u * 128, (i : Int) + 1), rfl, ⟨i + 1, (Int.natCast_succ i).symm, hI.next hU hix (by omega) hs⟩, ?_⟩
        show 6 - ((i : Int) + 1).toNat < 6 - (i : Int).toNat
        omega
    by_cases hz0 : x.getD i 0 = 0
    · rw [dT hz0, cnd_t]
      by_cases hi0 : (0 : Int) < (i : Int)
      · right
        rw [dT hi0, cnd_t]
        rw [if_pos (show x.getD i 0 < 128 by omega), if_pos (.inl ⟨by omega, hz0⟩)] at hat
        exact ⟨_, rfl, .inl ⟨rfl, hat⟩⟩
      · rw [dF hi0, cnd_f]
        exact go (fun q => hi0 (by omega))
    · rw [dF hz0, cnd_f]
      exact go (fun q => hz0 q.2)
theorem Take_eq (N : Nat) (hN : 100 ≤ N) (x : List Int) (hx : x.length ≤ 1000) (hU : U8 x) : W_bits_Take N x = some (tk (rd x 0 0 1)) := by
  unfold W_bits_Take V_bits_Take
  rw [read_eq N hN x hx hU, obind_s]
  cases rd x 0 0 1 with
  | none => rfl
  | some p => rfl
def tt (x : List Int) : List UInt8 × Int × Bool := match rd x 0 0 1 with
  | some (v, n) => if (x.length : Int) - n < v then ([], 0, false) else (bytesI ((x.take (n + v).toNat).drop n.toNat), n + v, true)
  | none => ([], 0, false)
theorem TakeText_eq (N : Nat) (hN : 100 ≤ N) (x : List Int) (hx : x.length ≤ 1000) (hU : U8 x) : W_bits_TakeText N x = some (tt x) := by
  unfold W_bits_TakeText V_bits_TakeText tt
  rw [read_eq N hN x hx hU, obind_s]
  cases hr : rd x 0 0 1 with
  | none => rfl
  | some p =>
    obtain ⟨v, n⟩ := p
    obtain ⟨h1, h2, h3, h4, h5⟩ := rd_rng x 0 0 1 v n hU (by omega) (by omega) hr
    simp only [selim_l]
    have w1 : wr .i64 ((x.length : Int) - n) = (x.length : Int) - n := wr_m (by omega) (by omega)
    have w2 : wr .i64 (n + v) = n + v := wr_m (by omega) (by omega)
    rw [w1, w2]
    clear w1 w2
    by_cases hc : (x.length : Int) - n < v
    · rw [dT hc, cnd_t, if_pos hc]
    · rw [dF hc, cnd_f, if_neg hc, dT (by omega), dT (by omega), dT (by omega), Bool.and_self, Bool.and_self, cnd_t, U8_all (U8_drop (U8_take hU _) _), cnd_t]
theorem rTakeText_eq (N : Nat) (hN : 100 ≤ N) (x : List Int) (hx : x.length ≤ 1000) (hU : U8 x) : W_ref10_TakeText N x = some (tt x) := by
  unfold W_ref10_TakeText V_ref10_TakeText tt
  rw [TakeNum_eq N hN x hx hU]
  cases hr : rd x 0 0 1 with
  | none => rfl
  | some p =>
    obtain ⟨v, n⟩ := p
    obtain ⟨h1, h2, h3, h4, h5⟩ := rd_rng x 0 0 1 v n hU (by omega) (by omega) hr
    have e : tk (some (v, n)) = (v, n, true) := rfl
    rw [e, obind_s]
    simp only [Bool.not_true, cnd_f]
    have w1 : wr .i64 ((x.length : Int) - n) = (x.length : Int) - n := wr_m (by omega) (by omega)
    have w2 : wr .i64 (n + v) = n + v := wr_m (by omega) (by omega)
    rw [w1, w2]
    clear w1 w2
    by_cases hc : (x.length : Int) - n < v
    · rw [dT hc, cnd_t, if_pos hc]
    · rw [dF hc, cnd_f, if_neg hc, dT (by omega), dT (by omega), dT (by omega), Bool.and_self, Bool.and_self, cnd_t, U8_all (U8_drop (U8_take hU _) _), cnd_t]
      rfl
theorem mul_split (v u : Int) : v % 128 * u + v / 128 * (u * 128) = v * u := by
  have h := Int.emod_add_mul_ediv v 128
  have e : v / 128 * (u * 128) = 128 * (v / 128) * u := by rw [Int.mul_comm u 128, ← Int.mul_assoc, Int.mul_comm (v / 128) 128]
  rw [e, ← Int.add_mul, h]
theorem rd_enc : ∀ (k : Nat) (v : Int) (r : List Int) (i : Nat) (acc u : Int), 0 ≤ v → v < 128 * 128 ^ k → i + k ≤ 4 → (0 < i → 0 < v) → acc + v * u ≤ 1073741824 → 0 ≤ u → rd (encF k v ++ r) i acc u = some (acc + v * u, (i : Int) + ((encF k v).length : Int))
  | 0, v, r, i, acc, u, h0, h1, hi, hp, hm, hu => by
    simp at h1
    simp only [encF, List.singleton_append, rd]
    rw [if_neg (by omega), if_pos h1, if_neg (by
      rintro (⟨a, b⟩ | a)
      · have := hp a; omega
      · rw [Int.emod_eq_of_lt h0 h1] at a; omega), Int.emod_eq_of_lt h0 h1]
    rfl
  | k + 1, v, r, i, acc, u, h0, h1, hi, hp, hm, hu => by
    simp only [encF]
    split
    · rename_i hv
      simp only [List.singleton_append, rd]
      rw [if_neg (by omega), if_pos hv, if_neg (by
        rintro (⟨a, b⟩ | a)
        · have := hp a; omega
        · rw [Int.emod_eq_of_lt h0 hv] at a; omega), Int.emod_eq_of_lt h0 hv]
      rfl
    · rename_i hv
      have h3 : v < 128 * 128 ^ k * 128 := by rw [Int.pow_succ] at h1; omega
      have e1 : (v % 128 + 128) % 128 = v % 128 := by omega
      have e2 : acc + v % 128 * u + v / 128 * (u * 128) = acc + v * u := by rw [Int.add_assoc, mul_split]
      simp only [List.cons_append, rd]
      rw [if_neg (by omega), if_neg (by omega), e1, rd_enc k (v / 128) r (i + 1) (acc + v % 128 * u) (u * 128) (by omega) (by omega) (by omega) (fun _ => by omega) (by rw [e2]; exact hm) (by omega), e2]
      simp only [List.length_cons]
      congr 2
      omega
theorem rd_back : ∀ (l : List Int) (i : Nat) (acc u x n : Int), U8 l → 0 ≤ u → rd l i acc u = some (x, n) → ∃ d : Int, ∃ m : Nat, x = acc + d * u ∧ 0 ≤ d ∧ (0 < i → 0 < d) ∧ n = (i : Int) + m ∧ i ≤ 4 ∧ encF (4 - i) d = l.take m
  | [], _, _, _, _, _, _, _, h => by cases h
  | c :: r, i, acc, u, x, n, hU, hu, h => by
    have hc := hU c (by simp)
    simp only [rd] at h
    split at h
    · cases h
    · rename_i h5
      split at h
      · rename_i hs
        split at h
        · cases h
        · rename_i hno
          injection h with h
          injection h with h1 h2
          have e1 : c % 128 = c := Int.emod_eq_of_lt hc.1 hs
          refine ⟨c, 1, by rw [← h1, e1], hc.1, fun hi => ?_, by omega, by omega, ?_⟩
          · have : ¬ c = 0 := fun e => hno (.inl ⟨hi, e⟩)
            omega
          · rw [List.take_succ_cons, List.take_zero]
            cases 4 - i with
            | zero => rfl
            | succ k => simp only [encF, if_pos hs]
      · rename_i hs
        obtain ⟨d, m, e1, e2, e3, e4, e5, e6⟩ := rd_back r (i + 1) _ _ x n (fun n hn => hU n (by simp [hn])) (by omega) h
        have hd := e3 (by omega)
        refine ⟨c % 128 + 128 * d, m + 1, ?_, by omega, fun _ => by omega, by omega, by omega, ?_⟩
        · rw [e1, Int.add_mul, ← Int.add_assoc, Int.mul_comm u 128, ← Int.mul_assoc, Int.mul_comm d 128]
        · have e7 : 4 - i = 4 - (i + 1) + 1 := by omega
          rw [e7]
          simp only [encF]
          rw [if_neg (by omega), show (c % 128 + 128 * d) % 128 + 128 = c by omega, show (c % 128 + 128 * d) / 128 = d by omega, e6, List.take_succ_cons]
theorem bytes_by8 (s : List UInt8) : bytesI (by8 s) = s := by
  unfold bytesI by8
  rw [List.map_map]
  conv => rhs; rw [← List.map_id s]
  apply List.map_congr_left
  intro b _
  simp
theorem rd_put {v : Int} (h0 : 0 ≤ v) (h1 : v ≤ 1073741824) (r : List Int) : rd (enc v ++ r) 0 0 1 = some (v, ((enc v).length : Int)) := by
  have := rd_enc 4 v r 0 0 1 h0 (by omega) (by omega) (fun h => by omega) (by omega) (by omega)
  unfold enc
  rw [this]
  congr 2 <;> omega
theorem tt_put (s : List UInt8) (r : List Int) (hs : s.length ≤ 200) : tt (enc s.length ++ by8 s ++ r) = (s, (((enc s.length ++ by8 s).length : Nat) : Int), true) := by
  have hb : (by8 s).length = s.length := by simp [by8]
  unfold tt
  rw [List.append_assoc, rd_put (by omega) (by omega)]
  try simp only
  rw [if_neg (by simp only [List.length_append, hb]; omega)]
  have e1 : (((enc s.length).length : Int) + (s.length : Int)).toNat = (enc s.length ++ by8 s).length := by rw [List.length_append, hb]; omega
  rw [e1, ← List.append_assoc, List.take_left, Int.toNat_natCast, List.drop_left, bytes_by8]
  rw [List.length_append, hb]
  congr 2
theorem by8_bytes {l : List Int} (h : U8 l) : by8 (bytesI l) = l := by
  unfold bytesI by8
  rw [List.map_map]
  conv => rhs; rw [← List.map_id l]
  apply List.map_congr_left
  intro n hn
  have := h n hn
  simp
  omega
theorem wr_i32 {z : Int} (h : -2147483648 ≤ z) (h2 : z ≤ 2147483647) : wr .i32 z = z := by
  rw [wr_eq]; simp only [IntKind.wrap, IntKind.bits, IntKind.signed]; simp; omega
abbrev St := Int × Int × Int × Int × List UInt8
def nu (b : List Int) : Option (Int × List Int) := match rd b 0 0 1 with
  | some (v, n) => some (v, b.drop n.toNat)
  | none => none
def tx (b : List Int) : Option (List UInt8 × List Int) := match rd b 0 0 1 with
  | some (v, n) => if (b.length : Int) - n < v then none else some (bytesI ((b.take (n + v).toNat).drop n.toNat), b.drop (n + v).toNat)
  | none => none
theorem number_some (N : Nat) (hN : 100 ≤ N) {b r : List Int} {v : Int} (e : Bool) (hb : b.length ≤ 1000) (hU : U8 b) (h : nu b = some (v, r)) : W_ops_reader_number N (b, e) = some (v, r, e) := by
  unfold W_ops_reader_number V_ops_reader_number
  unfold nu at h
  have ht := Take_eq N hN b hb hU
  cases hr : rd b 0 0 1 with
  | none => rw [hr] at h; cases h
  | some p =>
    obtain ⟨w, n⟩ := p
    rw [hr] at h ht
    replace ht : W_bits_Take N b = some (w, n, true) := ht
    obtain ⟨h1, h2, h3, h4, h5⟩ := rd_rng b 0 0 1 w n hU (by omega) (by omega) hr
    injection h with h
    injection h with q1 q2
    subst q1 q2
    rw [ht, obind_s]
    try simp only
    rw [dT (by omega), dT (by omega), Bool.and_self, cnd_t, List.take_length]
    cases e <;> rfl
theorem number_none (N : Nat) (hN : 100 ≤ N) {b : List Int} (e : Bool) (hb : b.length ≤ 1000) (hU : U8 b) (h : nu b = none) : W_ops_reader_number N (b, e) = some (0, b, true) := by
  unfold W_ops_reader_number V_ops_reader_number
  unfold nu at h
  have ht := Take_eq N hN b hb hU
  cases hr : rd b 0 0 1 with
  | some p => rw [hr] at h; cases h
  | none =>
    rw [hr] at ht
    replace ht : W_bits_Take N b = some (0, 0, false) := ht
    rw [ht, obind_s]
    try simp only
    rw [dT (by omega), dT (by omega), Bool.and_self, cnd_t, List.take_length]
    cases e <;> rfl
theorem text_some (N : Nat) (hN : 100 ≤ N) {b r : List Int} {s : List UInt8} (e : Bool) (hb : b.length ≤ 1000) (hU : U8 b) (h : tx b = some (s, r)) : W_ops_reader_text N (b, e) = some (s, r, e) := by
  unfold W_ops_reader_text V_ops_reader_text
  unfold tx at h
  have ht := TakeText_eq N hN b hb hU
  unfold tt at ht
  cases hr : rd b 0 0 1 with
  | none => rw [hr] at h; cases h
  | some p =>
    obtain ⟨w, n⟩ := p
    rw [hr] at h ht
    obtain ⟨h1, h2, h3, h4, h5⟩ := rd_rng b 0 0 1 w n hU (by omega) (by omega) hr
    simp only at h ht
    by_cases c : (b.length : Int) - n < w
    · rw [if_pos c] at h; cases h
    rw [if_neg c] at h ht
    injection h with h
    injection h with q1 q2
    subst q1 q2
    rw [ht, obind_s]
    try simp only
    rw [dT (by omega), dT (by omega), Bool.and_self, cnd_t, List.take_length]
    cases e <;> rfl
theorem text_none (N : Nat) (hN : 100 ≤ N) {b : List Int} (e : Bool) (hb : b.length ≤ 1000) (hU : U8 b) (h : tx b = none) : W_ops_reader_text N (b, e) = some ([], b, true) := by
  unfold W_ops_reader_text V_ops_reader_text
  unfold tx at h
  have hT := TakeText_eq N hN b hb hU
  have ht : tt b = ([], 0, false) := by
    unfold tt
    cases hr : rd b 0 0 1 with
    | none => rfl
    | some p =>
      obtain ⟨w, n⟩ := p
      rw [hr] at h
      simp only at h ⊢
      by_cases c : (b.length : Int) - n < w
      · rw [if_pos c]
      · rw [if_neg c] at h; cases h
  rw [ht] at hT
  rw [hT, obind_s]
  try simp only
  rw [dT (by omega), dT (by omega), Bool.and_self, cnd_t, List.take_length]
  cases e <;> rfl
theorem nu_len {b r : List Int} {v : Int} (h : nu b = some (v, r)) : r.length ≤ b.length := by
  unfold nu at h
  cases hr : rd b 0 0 1 with
  | none => rw [hr] at h; cases h
  | some p => rw [hr] at h; injection h with h; injection h with _ h; rw [← h, List.length_drop]; omega
theorem tx_len {b r : List Int} {v : List UInt8} (h : tx b = some (v, r)) : r.length ≤ b.length := by
  unfold tx at h
  cases hr : rd b 0 0 1 with
  | none => rw [hr] at h; cases h
  | some p =>
    rw [hr] at h
    simp only at h
    split at h
    · cases h
    injection h with h; injection h with _ h; rw [← h, List.length_drop]; omega
theorem nu_back {b r : List Int} {v : Int} (hU : U8 b) (h : nu b = some (v, r)) : 0 ≤ v ∧ v ≤ 1073741824 ∧ enc v ++ r = b := by
  unfold nu at h
  cases hr : rd b 0 0 1 with
  | none => rw [hr] at h; cases h
  | some p =>
    obtain ⟨w, n⟩ := p
    rw [hr] at h; injection h with h; injection h with q h
    subst q
    obtain ⟨h1, h2, h3, h4, h5⟩ := rd_rng b 0 0 1 w n hU (by omega) (by omega) hr
    obtain ⟨d, m, e1, e2, e3, e4, e5, e6⟩ := rd_back b 0 0 1 w n hU (by omega) hr
    have hd : d = w := by omega
    subst hd
    have hm : n.toNat = m := by omega
    rw [hm] at h
    refine ⟨h1, h2, ?_⟩
    rw [← h]
    show encF (4 - 0) d ++ _ = _
    rw [e6, List.take_append_drop]
theorem tx_back {b r : List Int} {s : List UInt8} (hU : U8 b) (h : tx b = some (s, r)) : s.length ≤ b.length ∧ enc s.length ++ by8 s ++ r = b := by
  unfold tx at h
  cases hr : rd b 0 0 1 with
  | none => rw [hr] at h; cases h
  | some p =>
    obtain ⟨w, n⟩ := p
    rw [hr] at h
    simp only at h
    split at h
    · cases h
    rename_i hc
    injection h with h; injection h with q h
    obtain ⟨h1, h2, h3, h4, h5⟩ := rd_rng b 0 0 1 w n hU (by omega) (by omega) hr
    obtain ⟨d, m, e1, e2, e3, e4, e5, e6⟩ := rd_back b 0 0 1 w n hU (by omega) hr
    have hd : d = w := by omega
    subst hd
    have hm : n.toNat = m := by omega
    have hl : s.length = d.toNat := by
      rw [← q]; simp only [bytesI, List.length_map, List.length_drop, List.length_take]; omega
    have hld : (s.length : Int) = d := by omega
    refine ⟨by omega, ?_⟩
    rw [hld, ← q, ← h, by8_bytes (U8_drop (U8_take hU _) _), hm]
    have e7 : enc d = b.take m := e6
    have hk : (n + d).toNat = m + d.toNat := by omega
    rw [e7, hk]
    have e8 : List.take m b = List.take m (List.take (m + d.toNat) b) := by rw [List.take_take]; congr 1; omega
    rw [e8, List.take_append_drop, List.take_append_drop]
def body (k : Int) (b : List Int) : Option (St × List Int) :=
  if k = 1 then (nu b).bind fun p => (tx p.2).bind fun q => some ((1, p.1, 0, 0, q.1), q.2)
  else if k = 4 then (tx b).bind fun q => some ((4, 0, 0, 0, q.1), q.2)
  else if k = 9 then (nu b).bind fun p => (nu p.2).bind fun q => some ((9, 0, p.1, q.1, []), q.2)
  else if k = 6 ∨ k = 7 ∨ k = 8 then (nu b).bind fun p => some ((k, 0, p.1, 0, []), p.2)
  else (nu b).bind fun p => some ((k, p.1, 0, 0, []), p.2)
def rng (v : Int) : Prop := 0 ≤ v ∧ v ≤ 1073741824
inductive Good : St → Prop
  | join (r t) : rng r → t.length ≤ 200 → Good (1, r, 0, 0, t)
  | pub (t) : t.length ≤ 200 → Good (4, 0, 0, 0, t)
  | turned (i o) : rng i → rng o → Good (9, 0, i, o, [])
  | fly (k i) : k = 6 ∨ k = 7 ∨ k = 8 → rng i → Good (k, 0, i, 0, [])
  | one (k r) : k = 2 ∨ k = 3 ∨ k = 5 → rng r → Good (k, r, 0, 0, [])
def pay (s : St) : List Int :=
  if s.1 = 1 then enc s.2.1 ++ (enc s.2.2.2.2.length ++ by8 s.2.2.2.2)
  else if s.1 = 4 then enc s.2.2.2.2.length ++ by8 s.2.2.2.2
  else if s.1 = 9 then enc s.2.2.1 ++ enc s.2.2.2.1
  else if s.1 = 6 ∨ s.1 = 7 ∨ s.1 = 8 then enc s.2.2.1
  else enc s.2.1
theorem Good.kind {s : St} (h : Good s) : 1 ≤ s.1 ∧ s.1 ≤ 9 := by cases h <;> simp only <;> omega
theorem nu_enc {v : Int} (h : rng v) (r : List Int) : nu (enc v ++ r) = some (v, r) := by
  unfold nu
  rw [rd_put h.1 h.2]
  simp only [Int.toNat_natCast, List.drop_left]
theorem tx_put (s : List UInt8) (r : List Int) (hs : s.length ≤ 200) : tx (enc s.length ++ by8 s ++ r) = some (s, r) := by
  have h := tt_put s r hs
  unfold tt at h
  unfold tx
  rw [List.append_assoc, rd_put (by omega) (by omega)] at h ⊢
  simp only at h ⊢
  split at h
  · cases h
  rename_i hc
  rw [if_neg hc]
  injection h with h1 h2
  injection h2 with h2 _
  rw [h1, h2, Int.toNat_natCast, ← List.append_assoc, List.drop_left]
theorem body_pay {s : St} (h : Good s) (r : List Int) : body s.1 (pay s ++ r) = some (s, r) := by
  cases h with
  | join a t h1 h2 =>
    simp only [body, pay, if_true, List.append_assoc]
    rw [nu_enc h1]
    simp only [Option.bind_some]
    rw [← List.append_assoc, tx_put t r h2]
    rfl
  | pub t h2 =>
    simp only [body, pay, if_true]
    rw [if_neg (by omega), if_neg (by omega), tx_put t r h2]
    rfl
  | turned i o h1 h2 =>
    simp only [body, pay]
    rw [if_neg (by omega), if_neg (by omega), if_pos trivial, if_neg (by omega), if_neg (by omega), if_pos trivial, List.append_assoc, nu_enc h1]
    simp only [Option.bind_some]
    rw [nu_enc h2]
    rfl
  | fly k i hk h1 =>
    simp only [body, pay]
    rw [if_neg (by omega), if_neg (by omega), if_neg (by omega), if_pos hk, if_neg (by omega), if_neg (by omega), if_neg (by omega), if_pos hk, nu_enc h1]
    rfl
  | one k i hk h1 =>
    simp only [body, pay]
    rw [if_neg (by omega), if_neg (by omega), if_neg (by omega), if_neg (by omega), if_neg (by omega), if_neg (by omega), if_neg (by omega), if_neg (by omega), nu_enc h1]
    rfl
theorem bind_ex {α β : Type} {o : Option α} {f : α → Option β} {b : β} (h : o.bind f = some b) : ∃ a, o = some a ∧ f a = some b := by
  cases o with
  | none => cases h
  | some a => exact ⟨a, rfl, h⟩
theorem body_back {k : Int} {b r : List Int} {s : St} (hk : 1 ≤ k ∧ k ≤ 9) (hU : U8 b) (hb : b.length ≤ 200) (h : body k b = some (s, r)) : Good s ∧ s.1 = k ∧ pay s ++ r = b := by
  unfold body at h
  split at h
  · subst k
    obtain ⟨⟨v, b1⟩, e1, h⟩ := bind_ex h
    obtain ⟨⟨t, b2⟩, e2, h⟩ := bind_ex h
    injection h with h; injection h with h h2
    subst h h2
    obtain ⟨g1, g2, g3⟩ := nu_back hU e1
    have hU1 : U8 b1 := fun n hn => hU n (by rw [← g3]; simp [hn])
    obtain ⟨g4, g5⟩ := tx_back hU1 e2
    have := nu_len e1
    refine ⟨.join v t ⟨g1, g2⟩ (by simp only at *; omega), rfl, ?_⟩
    simp only [pay, if_true]
    rw [List.append_assoc, g5, g3]
  split at h
  · subst k
    obtain ⟨⟨t, b2⟩, e2, h⟩ := bind_ex h
    injection h with h; injection h with h h2
    subst h h2
    obtain ⟨g4, g5⟩ := tx_back hU e2
    exact ⟨.pub t (by omega), rfl, g5⟩
  split at h
  · subst k
    obtain ⟨⟨v, b1⟩, e1, h⟩ := bind_ex h
    obtain ⟨⟨t, b2⟩, e2, h⟩ := bind_ex h
    injection h with h; injection h with h h2
    subst h h2
    obtain ⟨g1, g2, g3⟩ := nu_back hU e1
    have hU1 : U8 b1 := fun n hn => hU n (by rw [← g3]; simp [hn])
    obtain ⟨g4, g5, g6⟩ := nu_back hU1 e2
    refine ⟨.turned v t ⟨g1, g2⟩ ⟨g4, g5⟩, rfl, ?_⟩
    show enc v ++ enc t ++ b2 = b
    rw [List.append_assoc, g6, g3]
  split at h
  · rename_i c1 c2 c3 c4
    obtain ⟨⟨v, b1⟩, e1, h⟩ := bind_ex h
    injection h with h; injection h with h h2
    subst h h2
    obtain ⟨g1, g2, g3⟩ := nu_back hU e1
    refine ⟨.fly k v c4 ⟨g1, g2⟩, rfl, ?_⟩
    simp only [pay]
    rw [if_neg c1, if_neg c2, if_neg c3, if_pos c4, g3]
  · rename_i c1 c2 c3 c4
    obtain ⟨⟨v, b1⟩, e1, h⟩ := bind_ex h
    injection h with h; injection h with h h2
    subst h h2
    obtain ⟨g1, g2, g3⟩ := nu_back hU e1
    refine ⟨.one k v (by omega) ⟨g1, g2⟩, rfl, ?_⟩
    simp only [pay]
    rw [if_neg c1, if_neg c2, if_neg c3, if_neg c4, g3]
theorem body_len {k : Int} {b r : List Int} {s : St} (h : body k b = some (s, r)) : r.length ≤ b.length := by
  unfold body at h
  split at h
  · obtain ⟨⟨v, b1⟩, e1, h⟩ := bind_ex h
    obtain ⟨⟨t, b2⟩, e2, h⟩ := bind_ex h
    injection h with h; injection h with h h2
    have := nu_len e1; have := tx_len e2; simp only at *; rw [← h2]; omega
  split at h
  · obtain ⟨⟨t, b2⟩, e2, h⟩ := bind_ex h
    injection h with h; injection h with h h2
    have := tx_len e2; simp only at *; rw [← h2]; omega
  split at h
  · obtain ⟨⟨v, b1⟩, e1, h⟩ := bind_ex h
    obtain ⟨⟨t, b2⟩, e2, h⟩ := bind_ex h
    injection h with h; injection h with h h2
    have := nu_len e1; have := nu_len e2; simp only at *; rw [← h2]; omega
  split at h <;>
  · obtain ⟨⟨v, b1⟩, e1, h⟩ := bind_ex h
    injection h with h; injection h with h h2
    have := nu_len e1; simp only at *; rw [← h2]; omega
theorem step_some (N : Nat) (hN : 100 ≤ N) {k : Int} {b r : List Int} {s : St} (hk : 1 ≤ k ∧ k ≤ 9) (hb : b.length ≤ 1000) (hU : U8 b) (h : body k b = some (s, r)) : W_ops_reader_step N (k, b, false) = some ((r, false), s) := by
  unfold W_ops_reader_step V_ops_reader_step
  have w : wr .i64 k = k := wr_m (by omega) (by omega)
  simp only [w]
  unfold body at h
  split at h
  · subst k
    obtain ⟨⟨v, b1⟩, e1, h⟩ := bind_ex h
    obtain ⟨⟨t, b2⟩, e2, h⟩ := bind_ex h
    injection h with h; injection h with h h2
    subst h h2
    obtain ⟨g1, g2, g3⟩ := nu_back hU e1
    have hU1 : U8 b1 := fun n hn => hU n (by rw [← g3]; simp [hn])
    have := nu_len e1
    simp only [Int.reduceEq, decide_true, decide_false, cnd_t, cnd_f, obind_s]
    rw [number_some N hN false hb hU e1, obind_s]
    try simp only
    rw [text_some N hN false (by omega) hU1 e2, obind_s]
  split at h
  · subst k
    obtain ⟨⟨t, b2⟩, e2, h⟩ := bind_ex h
    injection h with h; injection h with h h2
    subst h h2
    simp only [Int.reduceEq, decide_true, decide_false, cnd_t, cnd_f, obind_s]
    rw [text_some N hN false hb hU e2, obind_s]
  split at h
  · subst k
    obtain ⟨⟨v, b1⟩, e1, h⟩ := bind_ex h
    obtain ⟨⟨t, b2⟩, e2, h⟩ := bind_ex h
    injection h with h; injection h with h h2
    subst h h2
    obtain ⟨g1, g2, g3⟩ := nu_back hU e1
    have hU1 : U8 b1 := fun n hn => hU n (by rw [← g3]; simp [hn])
    have := nu_len e1
    simp only [Int.reduceEq, decide_true, decide_false, cnd_t, cnd_f, obind_s]
    rw [number_some N hN false hb hU e1, obind_s]
    try simp only
    rw [number_some N hN false (by omega) hU1 e2, obind_s]
  split at h
  · rename_i c1 c2 c3 c4
    obtain ⟨⟨v, b1⟩, e1, h⟩ := bind_ex h
    injection h with h; injection h with h h2
    subst h h2
    have nn := number_some N hN false hb hU e1
    rcases c4 with c4 | c4 | c4 <;> subst c4
    · simp only [Int.reduceEq, decide_true, decide_false, cnd_t, cnd_f, obind_s]
      rw [nn, obind_s]
    · simp only [Int.reduceEq, decide_true, decide_false, cnd_t, cnd_f, obind_s]
      rw [nn, obind_s]
    · simp only [Int.reduceEq, decide_true, decide_false, cnd_t, cnd_f, obind_s]
      rw [nn, obind_s]
  · rename_i c1 c2 c3 c4
    obtain ⟨⟨v, b1⟩, e1, h⟩ := bind_ex h
    injection h with h; injection h with h h2
    subst h h2
    have nn := number_some N hN false hb hU e1
    have : k = 2 ∨ k = 3 ∨ k = 5 := by omega
    rcases this with c | c | c <;> subst c
    · simp only [Int.reduceEq, decide_true, decide_false, cnd_t, cnd_f, obind_s]
      rw [nn, obind_s]
    · simp only [Int.reduceEq, decide_true, decide_false, cnd_t, cnd_f, obind_s]
      rw [nn, obind_s]
    · simp only [Int.reduceEq, decide_true, decide_false, cnd_t, cnd_f, obind_s]
      rw [nn, obind_s]
theorem bind_no {α β : Type} {o : Option α} {f : α → Option β} (h : o.bind f = none) : o = none ∨ ∃ a, o = some a ∧ f a = none := by
  cases o with
  | none => exact .inl rfl
  | some a => exact .inr ⟨a, rfl, h⟩
theorem number_end (N : Nat) (hN : 100 ≤ N) {b : List Int} (hb : b.length ≤ 1000) (hU : U8 b) : ∃ v b', W_ops_reader_number N (b, true) = some (v, b', true) := by
  cases h : nu b with
  | none => exact ⟨_, _, number_none N hN true hb hU h⟩
  | some p => exact ⟨_, _, number_some N hN true hb hU h⟩
theorem text_end (N : Nat) (hN : 100 ≤ N) {b : List Int} (hb : b.length ≤ 1000) (hU : U8 b) : ∃ v b', W_ops_reader_text N (b, true) = some (v, b', true) := by
  cases h : tx b with
  | none => exact ⟨_, _, text_none N hN true hb hU h⟩
  | some p => exact ⟨_, _, text_some N hN true hb hU h⟩
theorem step_none (N : Nat) (hN : 100 ≤ N) {k : Int} {b : List Int} (hk : 1 ≤ k ∧ k ≤ 9) (hb : b.length ≤ 1000) (hU : U8 b) (h : body k b = none) : ∃ b' s, W_ops_reader_step N (k, b, false) = some ((b', true), s) := by
  unfold W_ops_reader_step V_ops_reader_step
  have w : wr .i64 k = k := wr_m (by omega) (by omega)
  simp only [w]
  unfold body at h
  split at h
  · subst k
    simp only [Int.reduceEq, decide_true, decide_false, cnd_t, cnd_f, obind_s]
    rcases bind_no h with e1 | ⟨⟨v, b1⟩, e1, h⟩
    · rw [number_none N hN false hb hU e1, obind_s]
      try simp only
      obtain ⟨t, b2, e2⟩ := text_end N hN hb hU
      rw [e2, obind_s]
      exact ⟨_, _, rfl⟩
    · obtain ⟨g1, g2, g3⟩ := nu_back hU e1
      have hU1 : U8 b1 := fun n hn => hU n (by rw [← g3]; simp [hn])
      have := nu_len e1
      rcases bind_no h with e2 | ⟨_, _, h⟩
      · rw [number_some N hN false hb hU e1, obind_s]
        simp only at e2 ⊢
        rw [text_none N hN false (by omega) hU1 e2, obind_s]
        exact ⟨_, _, rfl⟩
      · cases h
  split at h
  · subst k
    rcases bind_no h with e2 | ⟨_, _, h⟩
    · simp only [Int.reduceEq, decide_true, decide_false, cnd_t, cnd_f, obind_s]
      rw [text_none N hN false hb hU e2, obind_s]
      exact ⟨_, _, rfl⟩
    · cases h
  split at h
  · subst k
    simp only [Int.reduceEq, decide_true, decide_false, cnd_t, cnd_f, obind_s]
    rcases bind_no h with e1 | ⟨⟨v, b1⟩, e1, h⟩
    · rw [number_none N hN false hb hU e1, obind_s]
      try simp only
      obtain ⟨t, b2, e2⟩ := number_end N hN hb hU
      rw [e2, obind_s]
      exact ⟨_, _, rfl⟩
    · obtain ⟨g1, g2, g3⟩ := nu_back hU e1
      have hU1 : U8 b1 := fun n hn => hU n (by rw [← g3]; simp [hn])
      have := nu_len e1
      rcases bind_no h with e2 | ⟨_, _, h⟩
      · rw [number_some N hN false hb hU e1, obind_s]
        simp only at e2 ⊢
        rw [number_none N hN false (by omega) hU1 e2, obind_s]
        exact ⟨_, _, rfl⟩
      · cases h
  split at h
  · rename_i c1 c2 c3 c4
    rcases bind_no h with e1 | ⟨⟨v, b1⟩, e1, h⟩
    case inr => cases h
    have nn := number_none N hN false hb hU e1
    rcases c4 with c4 | c4 | c4 <;> subst c4
    · simp only [Int.reduceEq, decide_true, decide_false, cnd_t, cnd_f, obind_s]
      rw [nn, obind_s]
      exact ⟨_, _, rfl⟩
    · simp only [Int.reduceEq, decide_true, decide_false, cnd_t, cnd_f, obind_s]
      rw [nn, obind_s]
      exact ⟨_, _, rfl⟩
    · simp only [Int.reduceEq, decide_true, decide_false, cnd_t, cnd_f, obind_s]
      rw [nn, obind_s]
      exact ⟨_, _, rfl⟩
  · rename_i c1 c2 c3 c4
    rcases bind_no h with e1 | ⟨⟨v, b1⟩, e1, h⟩
    case inr => cases h
    have nn := number_none N hN false hb hU e1
    have : k = 2 ∨ k = 3 ∨ k = 5 := by omega
    rcases this with c | c | c <;> subst c
    · simp only [Int.reduceEq, decide_true, decide_false, cnd_t, cnd_f, obind_s]
      rw [nn, obind_s]
      exact ⟨_, _, rfl⟩
    · simp only [Int.reduceEq, decide_true, decide_false, cnd_t, cnd_f, obind_s]
      rw [nn, obind_s]
      exact ⟨_, _, rfl⟩
    · simp only [Int.reduceEq, decide_true, decide_false, cnd_t, cnd_f, obind_s]
      rw [nn, obind_s]
      exact ⟨_, _, rfl⟩
def TF : Nat → List Int → List St
  | 0, _ => []
  | _ + 1, [] => []
  | f + 1, c :: r => if c % 10 = 0 then TF f r else match body (c % 10) r with
    | none => []
    | some (s, r') => s :: TF f r'
theorem TF_more : ∀ (f g : Nat) (b : List Int), b.length ≤ f → b.length ≤ g → TF f b = TF g b
  | 0, 0, _, _, _ => rfl
  | 0, g + 1, [], _, _ => rfl
  | 0, _ + 1, c :: r, h, _ => by simp at h
  | f + 1, 0, [], _, _ => rfl
  | _ + 1, 0, c :: r, _, h => by simp at h
  | f + 1, g + 1, [], _, _ => rfl
  | f + 1, g + 1, c :: r, h1, h2 => by
    simp only [List.length_cons] at h1 h2
    simp only [TF]
    split
    · exact TF_more f g r (by omega) (by omega)
    · split
      · rfl
      · rename_i s r' hb
        have := body_len hb
        rw [TF_more f g r' (by omega) (by omega)]
def Tk (b : List Int) : List St := TF b.length b
theorem Tk_nil : Tk [] = [] := rfl
theorem Tk_cons (c : Int) (r : List Int) : Tk (c :: r) = if c % 10 = 0 then Tk r else match body (c % 10) r with
    | none => []
    | some (s, r') => s :: Tk r' := by
  show TF (r.length + 1) (c :: r) = _
  simp only [TF]
  split
  · rfl
  · split
    · rename_i hb; rfl
    · rename_i s r' hb
      have := body_len hb
      unfold Tk
      rw [TF_more r.length r'.length r' (by omega) (Nat.le_refl _)]
theorem takeLoop {f : List St × List Int × Bool → Option ((List St × List Int × Bool) ⊕ List St)}
    (h0 : ∀ l e, f (l, [], e) = some (.inr l)) (h1 : ∀ l b, f (l, b, true) = some (.inr l))
    (h2 : ∀ l c r, c % 10 = 0 → 0 ≤ c → c ≤ 255 → f (l, c :: r, false) = some (.inl (l, r, false)))
    (h3 : ∀ l c r s r', l.length ≤ 2000 → r.length ≤ 1000 → U8 (c :: r) → ¬ c % 10 = 0 → body (c % 10) r = some (s, r') → f (l, c :: r, false) = some (.inl (l ++ [s], r', false)))
    (h4 : ∀ l c r, r.length ≤ 1000 → U8 (c :: r) → ¬ c % 10 = 0 → body (c % 10) r = none → ∃ b', f (l, c :: r, false) = some (.inl (l, b', true))) :
    ∀ (k N : Nat) (l : List St) (b : List Int), k + 1 < N → b.length ≤ k → b.length ≤ 1000 → l.length + k ≤ 2000 → U8 b → loopN N f (l, b, false) = some (l ++ TF k b)
  | k, 0, l, b, hN, _, _, _, _ => by omega
  | 0, N + 1, l, [], _, _, _, _, _ => by simp only [loopN, h0, TF, List.append_nil]
  | 0, N + 1, l, c :: r, _, h, _, _, _ => by simp at h
  | k + 1, N + 1, l, [], _, _, _, _, _ => by simp only [loopN, h0, TF, List.append_nil]
  | k + 1, N + 1, l, c :: r, hN, hk, hb, hl, hU => by
    simp only [List.length_cons] at hk hb
    have hc := hU c (by simp)
    have hUr : U8 r := fun n hn => hU n (by simp [hn])
    simp only [TF]
    by_cases e : c % 10 = 0
    · rw [if_pos e]
      simp only [loopN, h2 l c r e hc.1 hc.2]
      exact takeLoop h0 h1 h2 h3 h4 k N l r (by omega) (by omega) (by omega) (by omega) hUr
    · rw [if_neg e]
      cases hb2 : body (c % 10) r with
      | none =>
        obtain ⟨b', h5⟩ := h4 l c r (by omega) hU e hb2
        obtain ⟨N', rfl⟩ : ∃ N', N = N' + 1 := ⟨N - 1, by omega⟩
        simp only [loopN, h5, h1 l b', List.append_nil]
      | some p =>
        obtain ⟨s, r'⟩ := p
        have h5 := h3 l c r s r' (by omega) (by omega) hU e hb2
        have h6 := body_len hb2
        have hU' : U8 r' := fun n hn => hUr n (by
          have hk9 : 1 ≤ c % 10 ∧ c % 10 ≤ 9 := by omega
          unfold body at hb2
          have suf : ∀ {v : Int} {a b : List Int}, nu a = some (v, b) → ∀ n ∈ b, n ∈ a := by
            intro v a b h n hn
            unfold nu at h
            split at h
            · injection h with h; injection h with _ h; rw [← h] at hn; exact List.mem_of_mem_drop hn
            · cases h
          have sut : ∀ {v : List UInt8} {a b : List Int}, tx a = some (v, b) → ∀ n ∈ b, n ∈ a := by
            intro v a b h n hn
            unfold tx at h
            split at h
            · split at h
              · cases h
              · injection h with h; injection h with _ h; rw [← h] at hn; exact List.mem_of_mem_drop hn
            · cases h
          split at hb2
          · obtain ⟨⟨v, b1⟩, e1, h⟩ := bind_ex hb2
            obtain ⟨⟨t, b2⟩, e2, h⟩ := bind_ex h
            injection h with h; injection h with h h2
            rw [← h2] at hn
            exact suf e1 n (sut e2 n hn)
          split at hb2
          · obtain ⟨⟨t, b2⟩, e2, h⟩ := bind_ex hb2
            injection h with h; injection h with h h2
            rw [← h2] at hn
            exact sut e2 n hn
          split at hb2
          · obtain ⟨⟨v, b1⟩, e1, h⟩ := bind_ex hb2
            obtain ⟨⟨t, b2⟩, e2, h⟩ := bind_ex h
            injection h with h; injection h with h h2
            rw [← h2] at hn
            exact suf e1 n (suf e2 n hn)
          split at hb2 <;>
          · obtain ⟨⟨v, b1⟩, e1, h⟩ := bind_ex hb2
            injection h with h; injection h with h h2
            rw [← h2] at hn
            exact suf e1 n hn)
        simp only [loopN, h5]
        rw [takeLoop h0 h1 h2 h3 h4 k N (l ++ [s]) r' (by omega) (by omega) (by omega) (by simp only [List.length_append, List.length_singleton]; omega) hU', List.append_assoc, List.singleton_append]
theorem Take_spec (N : Nat) (hN : 2000 ≤ N) (b : List Int) (hb : b.length ≤ 1000) (hU : U8 b) : W_ops_Take N b = some (Tk b) := by
  unfold W_ops_Take V_ops_Take
  rw [takeLoop (k := b.length) (l := []) (b := b)]
  · rw [List.nil_append, obind_s]; rfl
  · intro l e
    simp only [List.length_nil]
    rw [dF (by omega), cnd_f]
  · intro l b
    simp only [Bool.not_true, cnd_f]
    cases decide ((0 : Int) < (b.length : Int)) <;> rfl
  · intro l c r h hc hc2
    simp only [List.length_cons, Bool.not_false, cnd_t]
    rw [dT (by omega), cnd_t, dT (by omega), Bool.and_self, cnd_t, dT (by omega), dT (by omega), Bool.and_self, cnd_t]
    rw [show (c :: r).getD 0 0 = c from rfl, wr_i32 (by omega) (by omega), Int.tmod_eq_emod_of_nonneg hc, dT h, cnd_t]
    simp
  · intro l c r s r' hl hr hU2 h hb2
    have hc := hU2 c (by simp)
    simp only [List.length_cons, Bool.not_false, cnd_t]
    rw [dT (by omega), cnd_t, dT (by omega), Bool.and_self, cnd_t, dT (by omega), dT (by omega), Bool.and_self, cnd_t]
    rw [show (c :: r).getD 0 0 = c from rfl, wr_i32 (by omega) (by omega), Int.tmod_eq_emod_of_nonneg hc.1, dF h, cnd_f]
    have e : List.drop 1 (List.take (r.length + 1) (c :: r)) = r := by simp
    rw [e, step_some N (by omega) (by omega) hr (fun n hn => hU2 n (by simp [hn])) hb2, obind_s]
    simp only [Bool.not_false, cnd_t, List.length_cons, List.length_nil]
    rw [dT (by omega), cnd_t]
  · intro l c r hr hU2 h hb2
    have hc := hU2 c (by simp)
    have hUr : U8 r := fun n hn => hU2 n (by simp [hn])
    simp only [List.length_cons, Bool.not_false, cnd_t]
    rw [dT (by omega), cnd_t, dT (by omega), Bool.and_self, cnd_t, dT (by omega), dT (by omega), Bool.and_self, cnd_t]
    rw [show (c :: r).getD 0 0 = c from rfl, wr_i32 (by omega) (by omega), Int.tmod_eq_emod_of_nonneg hc.1, dF h, cnd_f]
    have e : List.drop 1 (List.take (r.length + 1) (c :: r)) = r := by simp
    obtain ⟨b', s, h5⟩ := step_none N (by omega) (k := c % 10) (by omega) hr hUr hb2
    rw [e, h5, obind_s]
    simp only [Bool.not_true, cnd_f]
    exact ⟨_, rfl⟩
  · omega
  · exact Nat.le_refl _
  · exact hb
  · simp only [List.length_nil]; omega
  · exact hU
def es (s : St) : List Int := s.1 :: pay s
theorem pay_U8 {s : St} (h : Good s) : U8 (pay s) := by
  cases h with
  | join a t h1 h2 => exact U8_app (enc_U8 h1.1 h1.2).1 (U8_app (enc_U8 (by omega) (by simp only; omega)).1 (by8_U8 t))
  | pub t h2 => exact U8_app (enc_U8 (by omega) (by simp only; omega)).1 (by8_U8 t)
  | turned i o h1 h2 => exact U8_app (enc_U8 h1.1 h1.2).1 (enc_U8 h2.1 h2.2).1
  | fly k i hk h1 =>
    simp only [pay]
    rw [if_neg (by omega), if_neg (by omega), if_neg (by omega), if_pos hk]
    exact (enc_U8 h1.1 h1.2).1
  | one k i hk h1 =>
    simp only [pay]
    rw [if_neg (by omega), if_neg (by omega), if_neg (by omega), if_neg (by omega)]
    exact (enc_U8 h1.1 h1.2).1
theorem es_U8 {s : St} (h : Good s) : U8 (es s) := by
  intro n hn
  rcases List.mem_cons.1 hn with rfl | hn
  · have := h.kind; omega
  · exact pay_U8 h n hn
theorem pay_len {s : St} (h : Good s) : (pay s).length ≤ 300 := by
  cases h with
  | join a t h1 h2 =>
    have q1 := (enc_U8 h1.1 h1.2).2.1
    have q2 := (enc_U8 (v := (t.length : Int)) (by omega) (by omega)).2.1
    show (enc a ++ (enc t.length ++ by8 t)).length ≤ 300
    simp only [List.length_append, by8, List.length_map]; omega
  | pub t h2 =>
    have q2 := (enc_U8 (v := (t.length : Int)) (by omega) (by omega)).2.1
    show (enc t.length ++ by8 t).length ≤ 300
    simp only [List.length_append, by8, List.length_map]; omega
  | turned i o h1 h2 =>
    have q1 := (enc_U8 h1.1 h1.2).2.1
    have q2 := (enc_U8 h2.1 h2.2).2.1
    show (enc i ++ enc o).length ≤ 300
    simp only [List.length_append]; omega
  | fly k i hk h1 =>
    have q1 := (enc_U8 h1.1 h1.2).2.1
    simp only [pay]
    rw [if_neg (by omega), if_neg (by omega), if_neg (by omega), if_pos hk]
    omega
  | one k i hk h1 =>
    have q1 := (enc_U8 h1.1 h1.2).2.1
    simp only [pay]
    rw [if_neg (by omega), if_neg (by omega), if_neg (by omega), if_neg (by omega)]
    omega
theorem Tk_es {s : St} (h : Good s) (r : List Int) : Tk (es s ++ r) = s :: Tk r := by
  have hk := h.kind
  show Tk (s.1 :: (pay s ++ r)) = _
  have e : s.1 % 10 = s.1 := by omega
  rw [Tk_cons, if_neg (by omega), e, body_pay h]
theorem Tk_flat : ∀ (l : List St) (r : List Int), (∀ s ∈ l, Good s) → Tk (l.flatMap es ++ r) = l ++ Tk r
  | [], r, _ => rfl
  | s :: l, r, h => by
    rw [List.flatMap_cons, List.append_assoc, Tk_es (h s (by simp)), Tk_flat l r (fun s hs => h s (by simp [hs]))]
    rfl
theorem Tk_flat0 (l : List St) (h : ∀ s ∈ l, Good s) : Tk (l.flatMap es) = l := by
  have := Tk_flat l [] h
  rwa [List.append_nil, Tk_nil, List.append_nil] at this
theorem Tk_good : ∀ (n : Nat) (b : List Int), b.length ≤ n → b.length ≤ 200 → U8 b → (∀ s ∈ Tk b, Good s) ∧ ((Tk b).flatMap es).length ≤ b.length
  | 0, [], _, _, _ => ⟨fun s hs => by simp [Tk_nil] at hs, by simp [Tk_nil]⟩
  | _ + 1, [], _, _, _ => ⟨fun s hs => by simp [Tk_nil] at hs, by simp [Tk_nil]⟩
  | 0, c :: r, h, _, _ => by simp at h
  | n + 1, c :: r, h, h2, hU => by
    simp only [List.length_cons] at h h2
    have hc := hU c (by simp)
    have hUr : U8 r := fun n hn => hU n (by simp [hn])
    rw [Tk_cons]
    split
    · obtain ⟨g1, g2⟩ := Tk_good n r (by omega) (by omega) hUr
      exact ⟨g1, by simp only [List.length_cons]; omega⟩
    · cases hb : body (c % 10) r with
      | none => exact ⟨fun s hs => by simp at hs, by simp⟩
      | some p =>
        obtain ⟨s, r'⟩ := p
        obtain ⟨g1, g2, g3⟩ := body_back (by omega) hUr (by omega) hb
        have hU' : U8 r' := fun n hn => hUr n (by rw [← g3]; simp [hn])
        have hl := congrArg List.length g3
        rw [List.length_append] at hl
        obtain ⟨g4, g5⟩ := Tk_good n r' (by omega) (by omega) hU'
        try simp only
        refine ⟨fun x hx => ?_, ?_⟩
        · rcases List.mem_cons.1 hx with rfl | hx
          · exact g1
          · exact g4 x hx
        · simp only [List.flatMap_cons, List.length_append, es, List.length_cons] at g5 ⊢
          omega
theorem stEq_refl (s : St) : (decide (s.1 = s.1) && (decide (s.2.1 = s.2.1) && (decide (s.2.2.1 = s.2.2.1) && (decide (s.2.2.2.1 = s.2.2.2.1) && s.2.2.2.2 == s.2.2.2.2)))) = true := by simp
theorem bytesOf_tail (N : Nat) (hN : 2000 ≤ N) {s : St} (h : Good s) (d : St) : (obind (W_ops_Take N (es s)) fun (b_1 : List St) =>
    cnd (decide ((↑(List.length b_1) : Int) ≠ (1 : Int))) (some ([] : List Int))
      (cnd (decide ((0 : Int) ≤ (0 : Int)) && decide ((0 : Int) < (↑(List.length b_1) : Int)))
        (cnd
          (!(decide ((List.getD b_1 (0 : Nat) d).1 = s.1) && (decide ((List.getD b_1 (0 : Nat) d).2.1 = s.2.1) && (decide ((List.getD b_1 (0 : Nat) d).2.2.1 = s.2.2.1) && (decide ((List.getD b_1 (0 : Nat) d).2.2.2.1 = s.2.2.2.1) && (List.getD b_1 (0 : Nat) d).2.2.2.2 == s.2.2.2.2)))))
          (some []) (some (es s)))
        none)) = some (es s) := by
  have hl := pay_len h
  have e : Tk (es s) = [s] := by
    have := Tk_es h []
    rwa [List.append_nil, Tk_nil] at this
  rw [Take_spec N hN _ (by simp only [es, List.length_cons]; omega) (es_U8 h), obind_s, e]
  have g : List.getD [s] 0 d = s := rfl
  rw [g, stEq_refl]
  simp only [List.length_singleton, Bool.not_true, cnd_f]
  rw [dF (by omega), cnd_f, dT (by omega), dT (by omega), Bool.and_self, cnd_t]
theorem bytesOf_spec (N : Nat) (hN : 2000 ≤ N) {s : St} (h : Good s) : W_ops_bytesOf N s = some (es s) := by
  have tl := bytesOf_tail N hN h ((0 : Int), (0 : Int), (0 : Int), (0 : Int), [])
  have hk := h.kind
  unfold W_ops_bytesOf V_ops_bytesOf
  have w1 : wr .i32 s.1 = s.1 := wr_i32 (by omega) (by omega)
  have w2 : wr .u8 s.1 = s.1 := wr_u8 (by omega) (by omega)
  rw [w1, w2]
  clear w1 w2
  cases h with
  | join a t h1 h2 =>
    have q1 := (enc_U8 h1.1 h1.2).2.1
    simp only [Int.reduceEq, decide_true, decide_false, cnd_t, cnd_f, obind_s] at tl ⊢
    rw [Put_eq N (by omega) [1] a (by simp) h1.1 h1.2, obind_s, PutText_eq N (by omega) _ t (by simp only [List.length_append, List.length_cons, List.length_nil]; omega) h2, obind_s, obind_s]
    have e : es (1, a, 0, 0, t) = [1] ++ enc a ++ enc t.length ++ by8 t := by simp only [es, pay, if_true, List.append_assoc, List.cons_append, List.nil_append]
    rw [← e]
    exact tl
  | pub t h2 =>
    simp only [Int.reduceEq, decide_true, decide_false, cnd_t, cnd_f, obind_s] at tl ⊢
    rw [PutText_eq N (by omega) [4] t (by simp) h2, obind_s, obind_s]
    have e : es (4, 0, 0, 0, t) = [4] ++ enc t.length ++ by8 t := by simp only [es, pay, if_true, List.append_assoc, List.cons_append, List.nil_append]; rfl
    rw [← e]
    exact tl
  | turned i o h1 h2 =>
    have q1 := (enc_U8 h1.1 h1.2).2.1
    simp only [Int.reduceEq, decide_true, decide_false, cnd_t, cnd_f, obind_s] at tl ⊢
    rw [Put_eq N (by omega) [9] i (by simp) h1.1 h1.2, obind_s, Put_eq N (by omega) _ o (by simp only [List.length_append, List.length_cons, List.length_nil]; omega) h2.1 h2.2, obind_s, obind_s]
    have e : es (9, 0, i, o, []) = [9] ++ enc i ++ enc o := by simp only [es, pay, if_true, List.append_assoc, List.cons_append, List.nil_append]; rfl
    rw [← e]
    exact tl
  | fly k i hk2 h1 =>
    have e : es (k, 0, i, 0, []) = [k] ++ enc i := by
      simp only [es, pay]
      rw [if_neg (by omega), if_neg (by omega), if_neg (by omega), if_pos hk2]; rfl
    rcases hk2 with hk2 | hk2 | hk2 <;> subst hk2 <;>
    · simp only [Int.reduceEq, decide_true, decide_false, cnd_t, cnd_f, obind_s] at tl ⊢
      rw [Put_eq N (by omega) _ i (by simp) h1.1 h1.2, obind_s]
      rw [← e]
      exact tl
  | one k i hk2 h1 =>
    have e : es (k, i, 0, 0, []) = [k] ++ enc i := by
      simp only [es, pay]
      rw [if_neg (by omega), if_neg (by omega), if_neg (by omega), if_neg (by omega)]; rfl
    rcases hk2 with hk2 | hk2 | hk2 <;> subst hk2 <;>
    · simp only [Int.reduceEq, decide_true, decide_false, cnd_t, cnd_f, obind_s] at tl ⊢
      rw [Put_eq N (by omega) _ i (by simp) h1.1 h1.2, obind_s]
      rw [← e]
      exact tl
theorem putLoopS (N : Nat) (x : List St) (F : List St → Option (List Int)) {f : Int × List Int → Option ((Int × List Int) ⊕ List Int)} (hx : x.length ≤ 1000)
    (h0 : ∀ b, f ((x.length : Int), b) = some (.inr b)) (h1 : ∀ (i : Nat) b, i < x.length → b.length ≤ 400000 → f ((i : Int), b) = some (.inl ((i : Int) + 1, b ++ es (x.getD i ((0 : Int), (0 : Int), (0 : Int), (0 : Int), [])))))
    (hb : ∀ s ∈ x, (es s).length ≤ 301) : ∀ (k i M : Nat) (b : List Int), i + k = x.length → k < M → b.length ≤ i * 301 → loopN M f ((i : Int), b) = some (b ++ (x.drop i).flatMap es)
  | 0, i, 0, b, _, hM, _ => by omega
  | 0, i, M + 1, b, hi, _, _ => by
    have : i = x.length := by omega
    subst this
    simp only [loopN, h0, List.drop_length, List.flatMap_nil, List.append_nil]
  | k + 1, i, 0, b, _, hM, _ => by omega
  | k + 1, i, M + 1, b, hi, hM, hbl => by
    have hix : i < x.length := by omega
    have e : x.getD i ((0 : Int), (0 : Int), (0 : Int), (0 : Int), []) = x[i] := by rw [List.getD_eq_getElem?_getD, List.getElem?_eq_getElem hix]; rfl
    have hl := hb x[i] (List.getElem_mem hix)
    simp only [loopN, h1 i b hix (by omega)]
    rw [show (i : Int) + 1 = ((i + 1 : Nat) : Int) by omega, e, putLoopS N x F hx h0 h1 hb k (i + 1) M _ (by omega) (by omega) (by rw [List.length_append]; omega), List.append_assoc, List.drop_eq_getElem_cons hix, List.flatMap_cons]
theorem Put_spec (N : Nat) (hN : 2000 ≤ N) (x : List St) (hx : x.length ≤ 1000) (h : ∀ s ∈ x, Good s) : W_ops_Put N x = some (x.flatMap es) := by
  unfold W_ops_Put V_ops_Put
  rw [show ((0 : Int), ([] : List Int)) = (((0 : Nat) : Int), []) from rfl, putLoopS N x (fun _ => none) hx _ _ (fun s hs => by have := pay_len (h s hs); simp only [es, List.length_cons]; omega) x.length 0 N [] (by omega) (by omega) (by simp), obind_s, List.drop_zero, List.nil_append]
  · intro b
    try simp only
    rw [dF (by omega), cnd_f]
  · intro i b hi hb
    simp only [Int.toNat_natCast]
    have e : x.getD i ((0 : Int), (0 : Int), (0 : Int), (0 : Int), []) = x[i] := by rw [List.getD_eq_getElem?_getD, List.getElem?_eq_getElem hi]; rfl
    have hg := h x[i] (List.getElem_mem hi)
    have hl := pay_len hg
    rw [dT (by omega), cnd_t, dT (by omega), Bool.true_and, cnd_t]
    have hs := bytesOf_spec N hN hg
    rw [← e] at hs hl
    rw [show (Prod.fst (x.getD i ((0 : Int), (0 : Int), (0 : Int), (0 : Int), [])), Prod.fst (Prod.snd (x.getD i ((0 : Int), (0 : Int), (0 : Int), (0 : Int), []))), Prod.fst (Prod.snd (Prod.snd (x.getD i ((0 : Int), (0 : Int), (0 : Int), (0 : Int), [])))), Prod.fst (Prod.snd (Prod.snd (Prod.snd (x.getD i ((0 : Int), (0 : Int), (0 : Int), (0 : Int), []))))), Prod.snd (Prod.snd (Prod.snd (Prod.snd (x.getD i ((0 : Int), (0 : Int), (0 : Int), (0 : Int), [])))))) = x.getD i ((0 : Int), (0 : Int), (0 : Int), (0 : Int), []) from rfl, hs, obind_s]
    rw [dT (by simp only [es, List.length_cons]; omega), cnd_t, wr_m (by omega) (by omega)]
theorem Same_refl (N : Nat) (hN : 2000 ≤ N) (l : List St) (hl : l.length ≤ 1000) : W_ref10_SameSteps N (l, l) = some true := by
  unfold W_ref10_SameSteps V_ref10_SameSteps
  simp only [ne_eq, not_true_eq_false, decide_false, cnd_f]
  refine obind_loop (fun v : Int => ∃ i : Nat, v = i ∧ i ≤ l.length) (fun v => l.length - v.toNat) (fun r : PUnit ⊕ Bool => r = .inl ()) ⟨0, rfl, Nat.zero_le _⟩ (by show l.length - (Int.ofNat 0).toNat < N; omega) ?_ ?_
  · rintro r rfl
    rw [selim_l]
  · rintro v ⟨i, rfl, hi⟩
    by_cases h : i < l.length
    · left
      rw [dT (by omega), cnd_t, dT (by omega), Bool.and_self, cnd_t, cnd_t]
      simp only [decide_true, beq_self_eq_true, Bool.and_self, Bool.not_true, cnd_f]
      rw [wr_m (by omega) (by omega)]
      exact ⟨_, rfl, ⟨i + 1, by omega, by omega⟩, by omega⟩
    · right
      rw [dF (by omega), cnd_f]
      exact ⟨_, rfl, rfl⟩
theorem flat_U8 {l : List St} (h : ∀ s ∈ l, Good s) : U8 (l.flatMap es) := by
  intro n hn
  obtain ⟨s, hs, hn⟩ := List.mem_flatMap.1 hn
  exact es_U8 (h s hs) n hn
theorem flat_len : ∀ (l : List St), l.length ≤ (l.flatMap es).length
  | [] => by simp
  | s :: l => by have := flat_len l; simp only [List.flatMap_cons, List.length_append, List.length_cons, es]; omega
theorem rrn_bad (N : Nat) (hN : 1000 ≤ N) {b : List Int} (hb : b.length ≤ 900) (hU : U8 b) : W_ref10_reader_num N (b, true) = some (0, b, true) := by
  unfold W_ref10_reader_num V_ref10_reader_num
  try simp only
  rw [TakeNum_eq N (by omega) b (by omega) hU, obind_s]
  cases (tk (rd b 0 0 1)).2.2 <;> rfl
theorem rrn_eq (N : Nat) (hN : 1000 ≤ N) {b : List Int} (hb : b.length ≤ 900) (hU : U8 b) : W_ref10_reader_num N (b, false) = some (match rd b 0 0 1 with
    | some (v, n) => (v, b.drop n.toNat, false)
    | none => (0, b, true)) := by
  unfold W_ref10_reader_num V_ref10_reader_num
  have ht := TakeNum_eq N (by omega) b (by omega) hU
  try simp only
  cases hr : rd b 0 0 1 with
  | none =>
    rw [hr] at ht
    replace ht : W_ref10_TakeNum N b = some (0, 0, false) := ht
    rw [ht, obind_s]
    rfl
  | some p =>
    obtain ⟨v, n⟩ := p
    obtain ⟨g1, g2, g3, g4, g5⟩ := rd_rng _ 0 0 1 v n hU (by omega) (by omega) hr
    rw [hr] at ht
    replace ht : W_ref10_TakeNum N b = some (v, n, true) := ht
    rw [ht, obind_s]
    simp only [Bool.not_true, cnd_f, obind_s]
    rw [dT (by omega), dT (by omega), Bool.and_self, cnd_t, List.take_length]
theorem loopG {σ ρ : Type} {f : σ → Option (σ ⊕ ρ)} (I : Nat → σ → Prop) (B : Nat) (J : ρ → Prop) (hb : ∀ k x, I k x → k ≤ B) (hs : ∀ k x, I k x → (∃ y, f x = some (.inl y) ∧ I (k + 1) y) ∨ ∃ r, f x = some (.inr r) ∧ J r) :
    ∀ (M k : Nat) (x : σ), I k x → B < M + k → ∃ r, loopN M f x = some r ∧ J r
  | 0, k, x, h, hm => by have := hb k x h; omega
  | M + 1, k, x, h, hm => by
    rcases hs k x h with ⟨y, h1, h2⟩ | ⟨r, h1, h2⟩
    · obtain ⟨r, h4, h5⟩ := loopG I B J hb hs M (k + 1) y h2 (by omega)
      exact ⟨r, by simp only [loopN, h1]; exact h4, h5⟩
    · exact ⟨r, by simp only [loopN, h1], h2⟩
theorem loop_G {σ ρ β : Type} {f : σ → Option (σ ⊕ ρ)} {g : ρ → Option β} {x : σ} {N : Nat} (Q : Option β → Prop) (I : Nat → σ → Prop) (B : Nat) (J : ρ → Prop) (hx : I 0 x) (hm : B < N) (hk : ∀ r, J r → Q (g r)) (hb : ∀ k x, I k x → k ≤ B)
    (hs : ∀ k x, I k x → (∃ y, f x = some (.inl y) ∧ I (k + 1) y) ∨ ∃ r, f x = some (.inr r) ∧ J r) : Q (obind (loopN N f x) g) := by
  obtain ⟨r, h1, h2⟩ := loopG I B J hb hs N 0 x hx (by omega)
  rw [h1]; exact hk r h2
theorem ob_q {α β : Type} {o : Option α} {g : α → Option β} {r : Option β} (V : α → Prop) (h : ∃ v, o = some v ∧ V v) (hg : ∀ v, V v → g v = r) : obind o g = r := by
  obtain ⟨v, e, hv⟩ := h
  rw [e]; exact hg v hv
/-! The reference's reader. -/
theorem rrn_nu (N : Nat) (hN : 1000 ≤ N) {b : List Int} (hb : b.length ≤ 900) (hU : U8 b) : W_ref10_reader_num N (b, false) = some (match nu b with
    | some (v, r) => (v, r, false)
    | none => (0, b, true)) := by
  rw [rrn_eq N hN hb hU]
  unfold nu
  cases rd b 0 0 1 with
  | none => rfl
  | some p => obtain ⟨v, n⟩ := p; rfl
theorem rrt_tx (N : Nat) (hN : 1000 ≤ N) {b : List Int} (hb : b.length ≤ 900) (hU : U8 b) : W_ref10_reader_text N (b, false) = some (match tx b with
    | some (s, r) => (s, r, false)
    | none => ([], b, true)) := by
  have ht := rTakeText_eq N (by omega) b (by omega) hU
  unfold W_ref10_reader_text V_ref10_reader_text
  try simp only
  cases hr : rd b 0 0 1 with
  | none =>
    have e : tt b = ([], 0, false) := by unfold tt; rw [hr]
    have e2 : tx b = none := by unfold tx; rw [hr]
    rw [ht, obind_s, e, e2]; rfl
  | some p =>
    obtain ⟨v, n⟩ := p
    obtain ⟨g1, g2, g3, g4, g5⟩ := rd_rng _ 0 0 1 v n hU (by omega) (by omega) hr
    by_cases c : (b.length : Int) - n < v
    · have e : tt b = ([], 0, false) := by unfold tt; rw [hr]; exact if_pos c
      have e2 : tx b = none := by unfold tx; rw [hr]; exact if_pos c
      rw [ht, obind_s, e, e2]; rfl
    · have e : tt b = (bytesI ((b.take (n + v).toNat).drop n.toNat), n + v, true) := by unfold tt; rw [hr]; exact if_neg c
      have e2 : tx b = some (bytesI ((b.take (n + v).toNat).drop n.toNat), b.drop (n + v).toNat) := by unfold tx; rw [hr]; exact if_neg c
      rw [ht, obind_s, e, e2]
      simp only [Bool.not_true, cnd_f, obind_s]
      rw [dT (by omega), dT (by omega), Bool.and_self, cnd_t, List.take_length]
theorem rrt_bad (N : Nat) (hN : 1000 ≤ N) {b : List Int} (hb : b.length ≤ 900) (hU : U8 b) : W_ref10_reader_text N (b, true) = some ([], b, true) := by
  unfold W_ref10_reader_text V_ref10_reader_text
  try simp only
  rw [rTakeText_eq N (by omega) b (by omega) hU, obind_s]
  cases (tt b).2.2 <;> rfl
theorem nu_U8 {b r : List Int} {v : Int} (hU : U8 b) (h : nu b = some (v, r)) : U8 r := by
  unfold nu at h
  cases hr : rd b 0 0 1 with
  | none => rw [hr] at h; cases h
  | some p => obtain ⟨w, n⟩ := p; rw [hr] at h; simp only [Option.some.injEq, Prod.mk.injEq] at h; rw [← h.2]; exact U8_drop hU _
theorem tx_U8 {b r : List Int} {v : List UInt8} (hU : U8 b) (h : tx b = some (v, r)) : U8 r := by
  unfold tx at h
  cases hr : rd b 0 0 1 with
  | none => rw [hr] at h; cases h
  | some p =>
    obtain ⟨w, n⟩ := p
    rw [hr] at h
    simp only at h
    split at h
    · cases h
    · simp only [Option.some.injEq, Prod.mk.injEq] at h; rw [← h.2]; exact U8_drop hU _
theorem body_U8 {k : Int} {b r : List Int} {s : St} (hU : U8 b) (h : body k b = some (s, r)) : U8 r := by
  unfold body at h
  split at h
  · obtain ⟨⟨v, p⟩, h1, h⟩ := bind_ex h
    obtain ⟨⟨t, q⟩, h2, h⟩ := bind_ex h
    injection h with h; injection h with _ h; rw [← h]; exact tx_U8 (nu_U8 hU h1) h2
  split at h
  · obtain ⟨⟨t, q⟩, h2, h⟩ := bind_ex h
    injection h with h; injection h with _ h; rw [← h]; exact tx_U8 hU h2
  split at h
  · obtain ⟨⟨v, p⟩, h1, h⟩ := bind_ex h
    obtain ⟨⟨t, q⟩, h2, h⟩ := bind_ex h
    injection h with h; injection h with _ h; rw [← h]; exact nu_U8 (nu_U8 hU h1) h2
  split at h
  · obtain ⟨⟨v, p⟩, h1, h⟩ := bind_ex h
    injection h with h; injection h with _ h; rw [← h]; exact nu_U8 hU h1
  · obtain ⟨⟨v, p⟩, h1, h⟩ := bind_ex h
    injection h with h; injection h with _ h; rw [← h]; exact nu_U8 hU h1
theorem rTakeLoop {f : (List Int × Bool) × List St → Option (((List Int × Bool) × List St) ⊕ (List St ⊕ List St))}
    (h0 : ∀ l, f (([], false), l) = some (.inr (.inl l)))
    (h2 : ∀ l c r, c % 10 = 0 → 0 ≤ c → c ≤ 255 → f ((c :: r, false), l) = some (.inl ((r, false), l)))
    (h3 : ∀ l c r s r', l.length ≤ 2000 → r.length ≤ 800 → U8 (c :: r) → ¬ c % 10 = 0 → body (c % 10) r = some (s, r') → f ((c :: r, false), l) = some (.inl ((r', false), l ++ [s])))
    (h4 : ∀ l c r, r.length ≤ 800 → U8 (c :: r) → ¬ c % 10 = 0 → body (c % 10) r = none → f ((c :: r, false), l) = some (.inr (.inr l))) :
    ∀ (k N : Nat) (l : List St) (b : List Int), k + 1 < N → b.length ≤ k → b.length ≤ 800 → l.length + k ≤ 2000 → U8 b → ∃ r, loopN N f ((b, false), l) = some r ∧ (r = .inl (l ++ TF k b) ∨ r = .inr (l ++ TF k b))
  | k, 0, l, b, hN, _, _, _, _ => by omega
  | 0, N + 1, l, [], _, _, _, _, _ => ⟨.inl l, by simp only [loopN, h0], .inl (by simp only [TF, List.append_nil])⟩
  | 0, N + 1, l, c :: r, _, h, _, _, _ => by simp at h
  | k + 1, N + 1, l, [], _, _, _, _, _ => ⟨.inl l, by simp only [loopN, h0], .inl (by simp only [TF, List.append_nil])⟩
  | k + 1, N + 1, l, c :: r, hN, hk, hb, hl, hU => by
    simp only [List.length_cons] at hk hb
    have hc := hU c (by simp)
    have hr : U8 r := fun x hx => hU x (List.mem_cons_of_mem _ hx)
    by_cases c0 : c % 10 = 0
    · obtain ⟨q, e1, e2⟩ := rTakeLoop h0 h2 h3 h4 k N l r (by omega) (by omega) (by omega) (by omega) hr
      refine ⟨q, by simp only [loopN, h2 l c r c0 hc.1 hc.2]; exact e1, ?_⟩
      simp only [TF, if_pos c0]; exact e2
    · cases hbd : body (c % 10) r with
      | none =>
        refine ⟨.inr l, by simp only [loopN, h4 l c r (by omega) hU c0 hbd], .inr ?_⟩
        simp only [TF, if_neg c0, hbd, List.append_nil]
      | some p =>
        obtain ⟨s, r'⟩ := p
        have hlen := body_len hbd
        obtain ⟨q, e1, e2⟩ := rTakeLoop h0 h2 h3 h4 k N (l ++ [s]) r' (by omega) (by omega) (by omega) (by simp only [List.length_append, List.length_singleton]; omega) (body_U8 hr hbd)
        refine ⟨q, by simp only [loopN, h3 l c r s r' (by omega) (by omega) hU c0 hbd]; exact e1, ?_⟩
        simp only [TF, if_neg c0, hbd]
        simpa only [List.append_assoc, List.singleton_append] using e2
theorem rTake_spec (N : Nat) (hN : 2000 ≤ N) (b : List Int) (hb : b.length ≤ 800) (hU : U8 b) : W_ref10_TakeSteps N b = some (Tk b) := by
  unfold W_ref10_TakeSteps V_ref10_TakeSteps
  refine ob_q (fun r : List St ⊕ List St => r = .inl (Tk b) ∨ r = .inr (Tk b)) ?_ ?_
  · refine (rTakeLoop ?_ ?_ ?_ ?_ b.length N [] b (by omega) (Nat.le_refl _) hb (by simp; omega) hU)
    · intro l
      simp only [List.length_nil]
      rw [dF (by omega), cnd_f]
    · intro l c r c0 c1 c2
      have hw : wr .i64 (Int.tmod c 10) = 0 := by rw [Int.tmod_eq_emod_of_nonneg c1, c0]; exact wr_m (by omega) (by omega)
      have e1 : List.getD (c :: r) (0 : Nat) (0 : Int) = c := rfl
      simp only [e1, hw, List.length_cons, List.take_succ_cons, List.drop_succ_cons, List.drop_zero, List.take_length]
      rw [dT (by omega), cnd_t, dT (by omega), Bool.and_self, cnd_t, dT (by omega), dT (by omega), Bool.and_self, cnd_t]
      rfl
    · intro l c r s r' hl hr hU c0 hbd
      have hc := hU c (by simp)
      have hrU : U8 r := fun x hx => hU x (List.mem_cons_of_mem _ hx)
      have hw : wr .i64 (Int.tmod c 10) = c % 10 := by rw [Int.tmod_eq_emod_of_nonneg hc.1]; exact wr_m (by omega) (by omega)
      have e1 : List.getD (c :: r) (0 : Nat) (0 : Int) = c := rfl
      have hn := rrn_nu N (by omega) (b := r) (by omega) hrU
      have ht := rrt_tx N (by omega) (b := r) (by omega) hrU
      simp only [e1, hw, List.length_cons, List.take_succ_cons, List.drop_succ_cons, List.drop_zero, List.take_length]
      rw [dT (by omega), cnd_t, dT (by omega), Bool.and_self, cnd_t, dT (by omega), dT (by omega), Bool.and_self, cnd_t]
      have k9 : 1 ≤ c % 10 ∧ c % 10 ≤ 9 := by omega
      generalize c % 10 = k at *
      have fin : ∀ (x : St) (q : List Int), (obind (some (Sum.inl ((q, false), l, x)) : Option (((List Int × Bool) × List St × St) ⊕ ((List Int × Bool) × List St))) fun b => selim (fun b : (List Int × Bool) × List St × St => cnd b.1.2 (some (Sum.inr (Sum.inr b.2.1))) (cnd (decide ((List.length b.2.1 + List.length [b.2.2]) * (48 : Nat) ≤ (140737488355328 : Nat))) (some (Sum.inl (b.1, b.2.1 ++ [b.2.2]))) none)) (fun c : (List Int × Bool) × List St => some (Sum.inl c)) b) = (some (.inl ((q, false), l ++ [x])) : Option (((List Int × Bool) × List St) ⊕ (List St ⊕ List St))) := by
        intro x q
        rw [obind_s, selim_l]
        simp only [cnd_f, List.length_singleton]
        rw [dT (by omega), cnd_t]
      have kk : k = 1 ∨ k = 4 ∨ k = 9 ∨ (k = 6 ∨ k = 7 ∨ k = 8) ∨ (k = 2 ∨ k = 3 ∨ k = 5) := by omega
      unfold body at hbd
      rcases kk with e | e | e | e | e
      · subst e
        rw [if_pos rfl] at hbd
        obtain ⟨⟨v, p⟩, q1, hbd⟩ := bind_ex hbd
        obtain ⟨⟨t, q⟩, q2, hbd⟩ := bind_ex hbd
        injection hbd with hbd; injection hbd with g1 g2
        simp only at q2 g1 g2
        have h2 := rrt_tx N (by omega) (b := p) (by have := nu_len q1; omega) (nu_U8 hrU q1)
        rw [q2] at h2; rw [q1] at hn
        simp only at h2 hn
        subst g1 g2
        rw [dF (by omega), cnd_f, dT rfl, cnd_t, hn, obind_s]
        try simp only
        rw [h2, obind_s]
        exact fin _ _
      · subst e
        rw [if_neg (by omega), if_pos rfl] at hbd
        obtain ⟨⟨t, q⟩, q2, hbd⟩ := bind_ex hbd
        injection hbd with hbd; injection hbd with g1 g2
        rw [q2] at ht
        simp only at ht g1 g2
        subst g1 g2
        rw [dF (by omega), cnd_f, dF (by omega), cnd_f, dF (by omega), cnd_f, dF (by omega), cnd_f, dF (by omega), obind_s]
        simp only [cnd_f]
        rw [cnd_T True.intro, ht, obind_s]
        exact fin _ _
      · subst e
        rw [if_neg (by omega), if_neg (by omega), if_pos rfl] at hbd
        obtain ⟨⟨v, p⟩, q1, hbd⟩ := bind_ex hbd
        obtain ⟨⟨t, q⟩, q2, hbd⟩ := bind_ex hbd
        injection hbd with hbd; injection hbd with g1 g2
        simp only at q2 g1 g2
        have h2 := rrn_nu N (by omega) (b := p) (by have := nu_len q1; omega) (nu_U8 hrU q1)
        rw [q2] at h2; rw [q1] at hn
        simp only at h2 hn
        subst g1 g2
        rw [dF (by omega), cnd_f, dF (by omega), cnd_f, dF (by omega), cnd_f, dF (by omega), cnd_f, dF (by omega), obind_s]
        simp only [cnd_f]
        rw [dF (by omega), cnd_f, cnd_T True.intro, hn, obind_s]
        try simp only
        rw [h2, obind_s]
        exact fin _ _
      · rw [if_neg (by omega), if_neg (by omega), if_neg (by omega), if_pos e] at hbd
        obtain ⟨⟨v, p⟩, q1, hbd⟩ := bind_ex hbd
        injection hbd with hbd; injection hbd with g1 g2
        rw [q1] at hn
        simp only at hn g1 g2
        subst g1 g2
        rw [dF (by omega), cnd_f, dF (by omega), cnd_f, dF (by omega), cnd_f, dF (by omega), cnd_f, dF (by omega), obind_s]
        simp only [cnd_f]
        rw [dF (by omega), cnd_f, dF (by omega), cnd_f, hn, obind_s]
        exact fin _ _
      · rw [if_neg (by omega), if_neg (by omega), if_neg (by omega), if_neg (by omega)] at hbd
        obtain ⟨⟨v, p⟩, q1, hbd⟩ := bind_ex hbd
        injection hbd with hbd; injection hbd with g1 g2
        rw [q1] at hn
        simp only at hn g1 g2
        subst g1 g2
        rw [dF (by omega), cnd_f, dF (by omega), cnd_f]
        rcases e with e | e | e
        · subst e
          rw [dT rfl, cnd_t, obind_s]
          simp only [cnd_t]
          rw [hn, obind_s]
          exact fin _ _
        · subst e
          rw [dF (by omega), cnd_f, dT rfl, cnd_t, obind_s]
          simp only [cnd_t]
          rw [hn, obind_s]
          exact fin _ _
        · subst e
          rw [dF (by omega), cnd_f, dF (by omega), cnd_f, dT rfl, obind_s]
          simp only [cnd_t]
          rw [hn, obind_s]
          exact fin _ _
    · intro l c r hr hU c0 hbd
      have hc := hU c (by simp)
      have hrU : U8 r := fun x hx => hU x (List.mem_cons_of_mem _ hx)
      have hw : wr .i64 (Int.tmod c 10) = c % 10 := by rw [Int.tmod_eq_emod_of_nonneg hc.1]; exact wr_m (by omega) (by omega)
      have e1 : List.getD (c :: r) (0 : Nat) (0 : Int) = c := rfl
      have hn := rrn_nu N (by omega) (b := r) (by omega) hrU
      have ht := rrt_tx N (by omega) (b := r) (by omega) hrU
      simp only [e1, hw, List.length_cons, List.take_succ_cons, List.drop_succ_cons, List.drop_zero, List.take_length]
      rw [dT (by omega), cnd_t, dT (by omega), Bool.and_self, cnd_t, dT (by omega), dT (by omega), Bool.and_self, cnd_t]
      have k9 : 1 ≤ c % 10 ∧ c % 10 ≤ 9 := by omega
      generalize c % 10 = k at *
      have fin : ∀ (x : St) (q : List Int), (obind (some (Sum.inl ((q, true), l, x)) : Option (((List Int × Bool) × List St × St) ⊕ ((List Int × Bool) × List St))) fun b => selim (fun b : (List Int × Bool) × List St × St => cnd b.1.2 (some (Sum.inr (Sum.inr b.2.1))) (cnd (decide ((List.length b.2.1 + List.length [b.2.2]) * (48 : Nat) ≤ (140737488355328 : Nat))) (some (Sum.inl (b.1, b.2.1 ++ [b.2.2]))) none)) (fun c : (List Int × Bool) × List St => some (Sum.inl c)) b) = (some (.inr (.inr l)) : Option (((List Int × Bool) × List St) ⊕ (List St ⊕ List St))) := by
        intro x q
        rfl
      have kk : k = 1 ∨ k = 4 ∨ k = 9 ∨ (k = 6 ∨ k = 7 ∨ k = 8) ∨ (k = 2 ∨ k = 3 ∨ k = 5) := by omega
      unfold body at hbd
      rcases kk with e | e | e | e | e
      · subst e
        rw [if_pos rfl] at hbd
        rw [dF (by omega), cnd_f, dT rfl, cnd_t]
        cases hv : nu r with
        | none =>
          rw [hv] at hn
          simp only at hn
          rw [hn, obind_s]
          try simp only
          rw [rrt_bad N (by omega) (by omega) hrU, obind_s]
          exact fin _ _
        | some p =>
          obtain ⟨v, p⟩ := p
          rw [hv] at hn hbd
          simp only [Option.bind_some] at hn hbd
          have h2 := rrt_tx N (by omega) (b := p) (by have := nu_len hv; omega) (nu_U8 hrU hv)
          cases hv2 : tx p with
          | some q => rw [hv2] at hbd; cases hbd
          | none =>
            rw [hv2] at h2
            rw [hn, obind_s]
            simp only at h2 ⊢
            rw [h2, obind_s]
            exact fin _ _
      · subst e
        rw [if_neg (by omega), if_pos rfl] at hbd
        cases hv2 : tx r with
        | some q => rw [hv2] at hbd; cases hbd
        | none =>
          rw [hv2] at ht
          simp only at ht
          rw [dF (by omega), cnd_f, dF (by omega), cnd_f, dF (by omega), cnd_f, dF (by omega), cnd_f, dF (by omega), obind_s]
          simp only [cnd_f]
          rw [cnd_T True.intro, ht, obind_s]
          exact fin _ _
      · subst e
        rw [if_neg (by omega), if_neg (by omega), if_pos rfl] at hbd
        rw [dF (by omega), cnd_f, dF (by omega), cnd_f, dF (by omega), cnd_f, dF (by omega), cnd_f, dF (by omega), obind_s]
        simp only [cnd_f]
        rw [dF (by omega), cnd_f, cnd_T True.intro]
        cases hv : nu r with
        | none =>
          rw [hv] at hn
          simp only at hn
          rw [hn, obind_s]
          try simp only
          rw [rrn_bad N (by omega) (by omega) hrU, obind_s]
          exact fin _ _
        | some p =>
          obtain ⟨v, p⟩ := p
          rw [hv] at hn hbd
          simp only [Option.bind_some] at hn hbd
          have h2 := rrn_nu N (by omega) (b := p) (by have := nu_len hv; omega) (nu_U8 hrU hv)
          cases hv2 : nu p with
          | some q => rw [hv2] at hbd; cases hbd
          | none =>
            rw [hv2] at h2
            rw [hn, obind_s]
            simp only at h2 ⊢
            rw [h2, obind_s]
            exact fin _ _
      · rw [if_neg (by omega), if_neg (by omega), if_neg (by omega), if_pos e] at hbd
        cases hv : nu r with
        | some q => rw [hv] at hbd; cases hbd
        | none =>
          rw [hv] at hn
          simp only at hn
          rw [dF (by omega), cnd_f, dF (by omega), cnd_f, dF (by omega), cnd_f, dF (by omega), cnd_f, dF (by omega), obind_s]
          simp only [cnd_f]
          rw [dF (by omega), cnd_f, dF (by omega), cnd_f, hn, obind_s]
          exact fin _ _
      · rw [if_neg (by omega), if_neg (by omega), if_neg (by omega), if_neg (by omega)] at hbd
        cases hv : nu r with
        | some q => rw [hv] at hbd; cases hbd
        | none =>
          rw [hv] at hn
          simp only at hn
          rw [dF (by omega), cnd_f, dF (by omega), cnd_f]
          rcases e with e | e | e
          · subst e
            rw [dT rfl, cnd_t, obind_s]
            simp only [cnd_t]
            rw [hn, obind_s]
            exact fin _ _
          · subst e
            rw [dF (by omega), cnd_f, dT rfl, cnd_t, obind_s]
            simp only [cnd_t]
            rw [hn, obind_s]
            exact fin _ _
          · subst e
            rw [dF (by omega), cnd_f, dF (by omega), cnd_f, dT rfl, obind_s]
            simp only [cnd_t]
            rw [hn, obind_s]
            exact fin _ _
  · rintro r (rfl | rfl) <;> rfl
theorem wr_u8e {z : Int} : wr .u8 z = z % 256 := by rw [wr_eq]; simp [IntKind.wrap, IntKind.bits, IntKind.signed]
theorem U8_one (z : Int) : U8 [wr .u8 z] := fun n hn => by rw [List.mem_singleton.1 hn, wr_u8e]; omega
theorem putAny (N : Nat) (hN : 100 ≤ N) {l : List Int} (v : Int) (hl : l.length ≤ 500) (hU : U8 l) : ∃ b, W_bits_Put N (l, v) = some b ∧ U8 b ∧ b.length ≤ l.length + 5 := by
  by_cases c1 : v < 0
  · refine ⟨l, ?_, hU, by omega⟩
    unfold W_bits_Put V_bits_Put
    try simp only
    rw [Clone_b N l (by omega), obind_s, cnd_T c1]
  by_cases c2 : 1073741824 < v
  · refine ⟨l, ?_, hU, by omega⟩
    unfold W_bits_Put V_bits_Put
    try simp only
    rw [Clone_b N l (by omega), obind_s, cnd_F c1, cnd_T c2]
  · have he := enc_U8 (v := v) (by omega) (by omega)
    exact ⟨_, Put_eq N hN l v (by omega) (by omega) (by omega), U8_app hU he.1, by rw [List.length_append]; omega⟩
theorem putTextAny (N : Nat) (hN : 100 ≤ N) {l : List Int} (s : List UInt8) (hl : l.length ≤ 50) (hU : U8 l) (hs : s.length ≤ 100) : ∃ b, W_bits_PutText N (l, s) = some b ∧ U8 b ∧ b.length ≤ 160 := by
  have he := enc_U8 (v := (s.length : Int)) (by omega) (by omega)
  exact ⟨_, PutText_eq N hN l s (by omega) (by omega), U8_app (U8_app hU he.1) (by8_U8 s), by simp only [List.length_append, by8, List.length_map]; omega⟩
theorem rputAny (N : Nat) (hN : 100 ≤ N) {l : List Int} (v : Int) (hl : l.length ≤ 500) (hU : U8 l) (h0 : 0 ≤ v) (h1 : v ≤ 9223372036854775807) : ∃ b, W_ref10_PutNum N (l, v) = some b ∧ U8 b ∧ b.length ≤ l.length + 11 := by
  unfold W_ref10_PutNum V_ref10_PutNum
  try simp only
  rw [cnd_T (by omega)]
  refine loop_G (σ := Int × List Int) (ρ := Int × List Int) (β := List Int) (fun o => ∃ b, o = some b ∧ U8 b ∧ b.length ≤ l.length + 11) (fun k x => k ≤ 9 ∧ (0 ≤ x.1 ∧ x.1 ≤ 9223372036854775807) ∧ x.1 < 128 ^ (10 - k) ∧ U8 x.2 ∧ x.2.length = l.length + k) 9 (fun r => U8 r.2 ∧ r.2.length ≤ l.length + 9) ⟨by omega, ⟨h0, h1⟩, by show v < 128 ^ 10; omega, hU, rfl⟩ (by omega) ?_ (fun k x h => h.1) ?_
  · rintro ⟨a, b⟩ ⟨hb, hbl⟩
    simp only at hb hbl ⊢
    simp only [List.length_singleton]
    rw [cnd_T (by omega)]
    exact ⟨_, rfl, U8_app hb (U8_one a), by rw [List.length_append, List.length_singleton]; omega⟩
  · rintro k ⟨a, b⟩ ⟨hk, ha, hp, hb, hbl⟩
    simp only at ha hp hb hbl ⊢
    by_cases c : 128 ≤ a
    · left
      have hk9 : k ≤ 8 := by
        by_cases q : k = 9
        · subst q; simp at hp; omega
        · omega
      have e : (128 : Int) ^ (10 - k) = 128 ^ (10 - (k + 1)) * 128 := by rw [← Int.pow_succ]; congr 1; omega
      rw [e] at hp
      have hd : a / 128 < 128 ^ (10 - (k + 1)) := Int.ediv_lt_of_lt_mul (by omega) hp
      rw [cnd_T c]
      simp only [List.length_singleton]
      rw [cnd_T (by omega), Int.tdiv_eq_ediv_of_nonneg ha.1, wr_i64 (z := a / 128) (by omega) (by omega)]
      exact ⟨_, rfl, by omega, ⟨by simp only; omega, by simp only; omega⟩, hd, U8_app hb (U8_one _), by simp only [List.length_append, List.length_singleton]; omega⟩
    · right
      rw [cnd_F c]
      exact ⟨_, rfl, hb, by simp only; omega⟩
theorem Tk_one {s : St} {b : List Int} (hU : U8 b) (hb : b.length ≤ 200) (h : Tk b = [s]) : Good s := by
  have := (Tk_good b.length b (Nat.le_refl _) hb hU).1 s (by rw [h]; simp)
  exact this
theorem st_eq {a s : St} (h : (decide (a.1 = s.1) && (decide (a.2.1 = s.2.1) && (decide (a.2.2.1 = s.2.2.1) && (decide (a.2.2.2.1 = s.2.2.2.1) && a.2.2.2.2 == s.2.2.2.2)))) = true) : a = s := by
  obtain ⟨a1, a2, a3, a4, a5⟩ := a
  obtain ⟨s1, s2, s3, s4, s5⟩ := s
  simp at h
  obtain ⟨rfl, rfl, rfl, rfl, rfl⟩ := h
  rfl
theorem tail_no (N : Nat) (hN : 2000 ≤ N) {s : St} {b : List Int} (hU : U8 b) (hb : b.length ≤ 200) (h : ¬ Good s) (d : St) : (obind (W_ops_Take N b) fun (b_1 : List St) =>
    cnd (decide ((↑(List.length b_1) : Int) ≠ (1 : Int))) (some ([] : List Int))
      (cnd (decide ((0 : Int) ≤ (0 : Int)) && decide ((0 : Int) < (↑(List.length b_1) : Int)))
        (cnd
          (!(decide ((List.getD b_1 (0 : Nat) d).1 = s.1) && (decide ((List.getD b_1 (0 : Nat) d).2.1 = s.2.1) && (decide ((List.getD b_1 (0 : Nat) d).2.2.1 = s.2.2.1) && (decide ((List.getD b_1 (0 : Nat) d).2.2.2.1 = s.2.2.2.1) && (List.getD b_1 (0 : Nat) d).2.2.2.2 == s.2.2.2.2)))))
          (some []) (some b))
        none)) = some [] := by
  have ht := Tk_one (s := s) hU hb
  rw [Take_spec N hN _ (by omega) hU, obind_s]
  generalize Tk b = L at ht ⊢
  by_cases c : (L.length : Int) = 1
  · rw [cnd_F (fun q => q c), dT (by omega), dT (by omega), Bool.and_self, cnd_t]
    match L, c, ht with
    | [a], _, ht =>
      have e : List.getD [a] 0 d = a := rfl
      rw [e]
      cases hq : (decide (a.1 = s.1) && (decide (a.2.1 = s.2.1) && (decide (a.2.2.1 = s.2.2.1) && (decide (a.2.2.2.1 = s.2.2.2.1) && a.2.2.2.2 == s.2.2.2.2)))) with
      | true => exact absurd (ht (by rw [st_eq hq])) h
      | false => rfl
  · rw [cnd_T c]
theorem es_len {s : St} (h : Good s) : (es s).length ≤ s.2.2.2.2.length + 11 := by
  cases h with
  | join a t h1 h2 =>
    have q1 := (enc_U8 h1.1 h1.2).2.1
    have q2 := (enc_U8 (v := (t.length : Int)) (by omega) (by omega)).2.1
    simp only [es, pay, if_true, List.length_cons, List.length_append, by8, List.length_map]; omega
  | pub t h2 =>
    have q2 := (enc_U8 (v := (t.length : Int)) (by omega) (by omega)).2.1
    simp only [es, pay]
    rw [if_neg (by omega), if_pos True.intro]
    simp only [List.length_cons, List.length_append, by8, List.length_map]; omega
  | turned i o h1 h2 =>
    have q1 := (enc_U8 h1.1 h1.2).2.1
    have q2 := (enc_U8 h2.1 h2.2).2.1
    simp only [es, pay]
    rw [if_neg (by omega), if_neg (by omega), if_pos True.intro]
    simp only [List.length_cons, List.length_append]; omega
  | fly k i hk2 h1 =>
    have q1 := (enc_U8 h1.1 h1.2).2.1
    simp only [es, pay]
    rw [if_neg (by omega), if_neg (by omega), if_neg (by omega), if_pos hk2]
    simp only [List.length_cons]; omega
  | one k i hk2 h1 =>
    have q1 := (enc_U8 h1.1 h1.2).2.1
    simp only [es, pay]
    rw [if_neg (by omega), if_neg (by omega), if_neg (by omega), if_neg (by omega)]
    simp only [List.length_cons]; omega
open Classical in
noncomputable def gs (s : St) : List Int := if Good s then es s else []
theorem gs_len (s : St) : (gs s).length ≤ 301 := by
  unfold gs
  split
  · rename_i h
    have := pay_len h
    simp only [es, List.length_cons]; omega
  · simp
theorem bytesOf_any (N : Nat) (hN : 2000 ≤ N) (s : St) (hs : s.2.2.2.2.length ≤ 100) : W_ops_bytesOf N s = some (gs s) := by
  by_cases g : Good s
  · rw [bytesOf_spec N hN g, gs, if_pos g]
  rw [gs, if_neg g]
  unfold W_ops_bytesOf V_ops_bytesOf
  refine ob_q (fun v : List Int × St => ∃ b, v = (b, s) ∧ U8 b ∧ b.length ≤ 200) ?_ ?_
  · have h1 := U8_one s.1
    by_cases c1 : wr .i32 s.1 = 1
    · rw [cnd_T c1]
      obtain ⟨b, e, hb, hl⟩ := putAny N (by omega) s.2.1 (l := [wr .u8 s.1]) (by simp) h1
      obtain ⟨b2, e2, hb2, hl2⟩ := putTextAny N (by omega) (l := b) s.2.2.2.2 (by simp only [List.length_singleton] at hl; omega) hb hs
      rw [e, obind_s, e2, obind_s]
      exact ⟨_, rfl, _, rfl, hb2, by omega⟩
    rw [cnd_F c1]
    have one : ∃ v : List Int × St, (obind (W_bits_Put N ([wr .u8 s.1], s.2.1)) fun b_1 => some (b_1, s)) = some v ∧ ∃ b, v = (b, s) ∧ U8 b ∧ b.length ≤ 200 := by
      obtain ⟨b, e, hb, hl⟩ := putAny N (by omega) s.2.1 (l := [wr .u8 s.1]) (by simp) h1
      rw [e, obind_s]
      exact ⟨_, rfl, _, rfl, hb, by simp only [List.length_singleton] at hl; omega⟩
    have two : ∃ v : List Int × St, (obind (W_bits_Put N ([wr .u8 s.1], s.2.2.1)) fun b_1 => some (b_1, s)) = some v ∧ ∃ b, v = (b, s) ∧ U8 b ∧ b.length ≤ 200 := by
      obtain ⟨b, e, hb, hl⟩ := putAny N (by omega) s.2.2.1 (l := [wr .u8 s.1]) (by simp) h1
      rw [e, obind_s]
      exact ⟨_, rfl, _, rfl, hb, by simp only [List.length_singleton] at hl; omega⟩
    by_cases c2 : wr .i32 s.1 = 2
    · rw [cnd_T c2, obind_s, cnd_T c2]; exact one
    rw [cnd_F c2]
    by_cases c3 : wr .i32 s.1 = 3
    · rw [cnd_T c3, obind_s, cnd_T c3]; exact one
    rw [cnd_F c3, obind_s]
    by_cases c5 : wr .i32 s.1 = 5
    · rw [cnd_T c5]; exact one
    rw [cnd_F c5]
    by_cases c4 : wr .i32 s.1 = 4
    · rw [cnd_T c4]
      obtain ⟨b2, e2, hb2, hl2⟩ := putTextAny N (by omega) (l := [wr .u8 s.1]) s.2.2.2.2 (by simp) h1 hs
      rw [e2, obind_s]
      exact ⟨_, rfl, _, rfl, hb2, by omega⟩
    rw [cnd_F c4]
    by_cases c6 : wr .i32 s.1 = 6
    · rw [cnd_T c6, obind_s, cnd_T c6]; exact two
    rw [cnd_F c6]
    by_cases c7 : wr .i32 s.1 = 7
    · rw [cnd_T c7, obind_s, cnd_T c7]; exact two
    rw [cnd_F c7, obind_s]
    by_cases c8 : wr .i32 s.1 = 8
    · rw [cnd_T c8]; exact two
    rw [cnd_F c8]
    by_cases c9 : wr .i32 s.1 = 9
    · rw [cnd_T c9]
      obtain ⟨b, e, hb, hl⟩ := putAny N (by omega) s.2.2.1 (l := [wr .u8 s.1]) (by simp) h1
      simp only [List.length_singleton] at hl
      obtain ⟨b2, e2, hb2, hl2⟩ := putAny N (by omega) s.2.2.2.1 (l := b) (by omega) hb
      try simp only
      rw [e, obind_s, e2, obind_s]
      exact ⟨_, rfl, _, rfl, hb2, by omega⟩
    · rw [cnd_F c9]
      exact ⟨_, rfl, _, rfl, h1, by simp⟩
  · rintro v ⟨b, rfl, hb, hl⟩
    exact tail_no N hN hb hl g _
theorem rputStep_any (N : Nat) (hN : 2000 ≤ N) (s : St) (hs : s.2.2.2.2.length ≤ 100) (b1 : s.2.1 ≤ 9223372036854775807) (b2 : s.2.2.1 ≤ 9223372036854775807) (b3 : s.2.2.2.1 ≤ 9223372036854775807) : ∃ b, W_ref10_putStep N s = some b ∧ U8 b ∧ b.length ≤ 200 ∧ (Good s → b = es s) := by
  have no : ¬ (0 ≤ s.2.1 ∧ 0 ≤ s.2.2.1 ∧ 0 ≤ s.2.2.2.1) → ¬ Good s := by
    intro h g
    apply h
    cases g <;> simp only [rng] at * <;> omega
  have nil : ¬ Good s → ∃ b, (some [] : Option (List Int)) = some b ∧ U8 b ∧ b.length ≤ 200 ∧ (Good s → b = es s) := fun h => ⟨[], rfl, fun n hn => (by cases hn), by simp, fun g => absurd g h⟩
  unfold W_ref10_putStep V_ref10_putStep
  by_cases c1 : s.2.1 < 0
  · rw [cnd_T c1, obind_s, cnd_t]
    exact nil (no (by omega))
  rw [cnd_F c1, obind_s]
  by_cases c2 : s.2.2.1 < 0
  · rw [cnd_T c2]
    exact nil (no (by omega))
  rw [cnd_F c2]
  by_cases c3 : s.2.2.2.1 < 0
  · simp only
    rw [cnd_T c3]
    exact nil (no (by omega))
  try simp only
  rw [cnd_F c3]
  have h1 := U8_one s.1
  by_cases g : Good s
  · have hk := g.kind
    have w2 : wr .u8 s.1 = s.1 := wr_u8 (by omega) (by omega)
    rw [w2]
    have hl := es_len g
    have key : ∀ o : Option (List Int), o = some (es s) → ∃ b, o = some b ∧ U8 b ∧ b.length ≤ 200 ∧ (Good s → b = es s) := fun o h => ⟨_, h, es_U8 g, by omega, fun _ => rfl⟩
    refine key _ ?_
    clear key nil no c1 c2 c3 h1 hl w2 hk b1 b2 b3
    cases g with
    | join a t h1 h2 =>
      have q1 := (enc_U8 h1.1 h1.2).2.1
      simp only [Int.reduceEq, decide_true, decide_false, cnd_t, cnd_f, obind_s]
      rw [PutNum_eq N (by omega) [1] a (by simp) h1.1 h1.2, obind_s, rPutText_eq N (by omega) _ t (by simp only [List.length_append, List.length_cons, List.length_nil]; omega) h2, obind_s]
      simp only [es, pay, if_true, List.append_assoc, List.cons_append, List.nil_append]
    | pub t h2 =>
      simp only [Int.reduceEq, decide_true, decide_false, cnd_t, cnd_f, obind_s]
      rw [rPutText_eq N (by omega) [4] t (by simp) h2, obind_s]
      simp only [es, pay, if_true, List.append_assoc, List.cons_append, List.nil_append]; rfl
    | turned i o h1 h2 =>
      have q1 := (enc_U8 h1.1 h1.2).2.1
      simp only [Int.reduceEq, decide_true, decide_false, cnd_t, cnd_f, obind_s]
      rw [PutNum_eq N (by omega) [9] i (by simp) h1.1 h1.2, obind_s, PutNum_eq N (by omega) _ o (by simp only [List.length_append, List.length_cons, List.length_nil]; omega) h2.1 h2.2, obind_s]
      simp only [es, pay, if_true, List.append_assoc, List.cons_append, List.nil_append]; rfl
    | fly k i hk2 h1 =>
      have e : es (k, 0, i, 0, []) = [k] ++ enc i := by
        simp only [es, pay]
        rw [if_neg (by omega), if_neg (by omega), if_neg (by omega), if_pos hk2]; rfl
      rw [e]
      rcases hk2 with hk2 | hk2 | hk2 <;> subst hk2 <;>
      · simp only [Int.reduceEq, decide_true, decide_false, cnd_t, cnd_f, obind_s]
        rw [PutNum_eq N (by omega) _ i (by simp) h1.1 h1.2, obind_s]
    | one k i hk2 h1 =>
      have e : es (k, i, 0, 0, []) = [k] ++ enc i := by
        simp only [es, pay]
        rw [if_neg (by omega), if_neg (by omega), if_neg (by omega), if_neg (by omega)]; rfl
      rw [e]
      rcases hk2 with hk2 | hk2 | hk2 <;> subst hk2 <;>
      · simp only [Int.reduceEq, decide_true, decide_false, cnd_t, cnd_f, obind_s]
        rw [PutNum_eq N (by omega) _ i (by simp) h1.1 h1.2, obind_s]
  · have one : ∀ v, 0 ≤ v → v ≤ 9223372036854775807 → ∃ b, (obind (W_ref10_PutNum N ([wr .u8 s.1], v)) fun b => some b) = some b ∧ U8 b ∧ b.length ≤ 200 ∧ (Good s → b = es s) := by
      intro v v1 v2
      obtain ⟨b, e, hb, hl⟩ := rputAny N (by omega) v (l := [wr .u8 s.1]) (by simp) h1 v1 v2
      rw [e, obind_s]
      exact ⟨_, rfl, hb, by simp only [List.length_singleton] at hl; omega, fun q => absurd q g⟩
    have tex : ∀ l : List Int, U8 l → l.length ≤ 50 → ∃ b, (obind (W_ref10_PutText N (l, s.2.2.2.2)) fun b => some b) = some b ∧ U8 b ∧ b.length ≤ 200 ∧ (Good s → b = es s) := by
      intro l hl h50
      have he := enc_U8 (v := (s.2.2.2.2.length : Int)) (by omega) (by omega)
      rw [rPutText_eq N (by omega) l _ (by omega) (by omega), obind_s]
      exact ⟨_, rfl, U8_app (U8_app hl he.1) (by8_U8 _), by simp only [List.length_append, by8, List.length_map]; omega, fun q => absurd q g⟩
    by_cases k1 : s.1 = 1
    · rw [cnd_T k1]
      obtain ⟨b, e, hb, hl⟩ := rputAny N (by omega) s.2.1 (l := [wr .u8 s.1]) (by simp) h1 (by omega) b1
      rw [e, obind_s]
      exact tex b hb (by simp only [List.length_singleton] at hl; omega)
    rw [cnd_F k1]
    by_cases k2 : s.1 = 2
    · rw [cnd_T k2, obind_s, cnd_T k2]; exact one s.2.1 (by omega) b1
    rw [cnd_F k2]
    by_cases k3 : s.1 = 3
    · rw [cnd_T k3, obind_s, cnd_T k3]; exact one s.2.1 (by omega) b1
    rw [cnd_F k3, obind_s]
    by_cases k5 : s.1 = 5
    · rw [cnd_T k5]; exact one s.2.1 (by omega) b1
    rw [cnd_F k5]
    by_cases k4 : s.1 = 4
    · rw [cnd_T k4]; exact tex _ h1 (by simp)
    rw [cnd_F k4]
    by_cases k9 : s.1 = 9
    · rw [cnd_T k9]
      obtain ⟨b, e, hb, hl⟩ := rputAny N (by omega) s.2.2.1 (l := [wr .u8 s.1]) (by simp) h1 (by omega) b2
      simp only [List.length_singleton] at hl
      obtain ⟨b', e', hb', hl'⟩ := rputAny N (by omega) s.2.2.2.1 (l := b) (by omega) hb (by omega) b3
      try simp only
      rw [e, obind_s, e', obind_s]
      exact ⟨_, rfl, hb', by omega, fun q => absurd q g⟩
    · rw [cnd_F k9]; exact one s.2.2.1 (by omega) b2
theorem rPut_spec (N : Nat) (hN : 2000 ≤ N) (x : List St) (hx : x.length ≤ 1000) (h : ∀ s ∈ x, s.2.2.2.2.length ≤ 100 ∧ s.2.1 ≤ 9223372036854775807 ∧ s.2.2.1 ≤ 9223372036854775807 ∧ s.2.2.2.1 ≤ 9223372036854775807) : W_ref10_PutSteps N x = some (x.flatMap gs) := by
  have hfl : ∀ l : List St, (l.flatMap gs).length ≤ 301 * l.length := by
    intro l
    induction l with
    | nil => simp
    | cons a l ih => have := gs_len a; rw [List.flatMap_cons, List.length_append, List.length_cons, Nat.mul_add]; omega
  unfold W_ref10_PutSteps V_ref10_PutSteps
  refine loop_G (σ := Int × List Int) (ρ := List Int) (β := List Int) (· = some (x.flatMap gs)) (fun k v => v = ((k : Int), (x.take k).flatMap gs) ∧ k ≤ x.length) x.length (fun r => r = x.flatMap gs) ⟨by simp, by omega⟩ (by omega) ?_ (fun k v h => h.2) ?_
  · rintro r rfl; rfl
  · rintro k v ⟨rfl, hk⟩
    try simp only
    by_cases c : k < x.length
    case neg =>
      right
      rw [cnd_F (by omega), List.take_of_length_le (by omega)]
      exact ⟨_, rfl, rfl⟩
    left
    have hkt : (x.take k).length ≤ 1000 := by rw [List.length_take]; omega
    have hfk := hfl (x.take k)
    have es1 : (x.take (k + 1)).flatMap gs = (x.take k).flatMap gs ++ gs (x.getD k ((0 : Int), (0 : Int), (0 : Int), (0 : Int), [])) := by
      rw [List.take_add_one, List.getElem?_eq_getElem c, List.getD_eq_getElem?_getD, List.getElem?_eq_getElem c, List.flatMap_append]
      simp
    have hm : x.getD k ((0 : Int), (0 : Int), (0 : Int), (0 : Int), []) ∈ x := by rw [List.getD_eq_getElem?_getD, List.getElem?_eq_getElem c]; exact List.getElem_mem c
    obtain ⟨a1, a2, a3, a4⟩ := h _ hm
    obtain ⟨s, hs⟩ : ∃ s, x.getD k ((0 : Int), (0 : Int), (0 : Int), (0 : Int), []) = s := ⟨_, rfl⟩
    rw [hs] at a1 a2 a3 a4 es1
    simp only [Int.toNat_natCast, hs]
    rw [cnd_T (by omega), dT (by omega), dT (by omega), Bool.and_self, cnd_t, wr_m (z := (k : Int) + 1) (by omega) (by omega)]
    obtain ⟨b, eb, hb, hbl, hg⟩ := rputStep_any N hN s a1 a2 a3 a4
    have e2 : ((s.1, s.2.1, s.2.2.1, s.2.2.2.1, s.2.2.2.2) : St) = s := rfl
    rw [e2, eb, obind_s, rTake_spec N hN b (by omega) hb, obind_s, es1]
    have ht := Tk_one (s := s) hb hbl
    by_cases g : Good s
    · have hb2 := hg g
      have eT : Tk b = [s] := by
        have := Tk_es g []
        rw [List.append_nil, Tk_nil] at this
        rw [hb2]; exact this
      rw [eT]
      have e3 : List.getD [s] 0 ((0 : Int), (0 : Int), (0 : Int), (0 : Int), ([] : List UInt8)) = s := rfl
      rw [e3, stEq_refl]
      simp only [List.length_singleton]
      rw [cnd_T (by omega), dT (by omega), dT (by omega), Bool.and_self, cnd_t, cnd_t, cnd_t, cnd_T (by omega)]
      exact ⟨_, rfl, by rw [gs, if_pos g, hb2]; simp, by omega⟩
    · have e4 : gs s = [] := if_neg g
      rw [e4, List.append_nil]
      generalize Tk b = L at ht ⊢
      by_cases c1 : (L.length : Int) = 1
      · rw [cnd_T c1, dT (by omega), dT (by omega), Bool.and_self, cnd_t, cnd_t]
        match L, c1, ht with
        | [a], _, ht =>
          have e : List.getD [a] 0 ((0 : Int), (0 : Int), (0 : Int), (0 : Int), ([] : List UInt8)) = a := rfl
          rw [e]
          cases hq : (decide (a.1 = s.1) && (decide (a.2.1 = s.2.1) && (decide (a.2.2.1 = s.2.2.1) && (decide (a.2.2.2.1 = s.2.2.2.1) && a.2.2.2.2 == s.2.2.2.2)))) with
          | true => exact absurd (ht (by rw [st_eq hq])) g
          | false => exact ⟨_, rfl, by simp, by omega⟩
      · rw [cnd_F c1]
        exact ⟨_, rfl, by simp, by omega⟩
theorem pPut_spec (N : Nat) (hN : 2000 ≤ N) (x : List St) (hx : x.length ≤ 1000) (h : ∀ s ∈ x, s.2.2.2.2.length ≤ 100) : W_ops_Put N x = some (x.flatMap gs) := by
  have hfl : ∀ l : List St, (l.flatMap gs).length ≤ 301 * l.length := by
    intro l
    induction l with
    | nil => simp
    | cons a l ih => have := gs_len a; rw [List.flatMap_cons, List.length_append, List.length_cons, Nat.mul_add]; omega
  unfold W_ops_Put V_ops_Put
  refine loop_G (σ := Int × List Int) (ρ := List Int) (β := List Int) (· = some (x.flatMap gs)) (fun k v => v = ((k : Int), (x.take k).flatMap gs) ∧ k ≤ x.length) x.length (fun r => r = x.flatMap gs) ⟨by simp, by omega⟩ (by omega) ?_ (fun k v h => h.2) ?_
  · rintro r rfl; rfl
  · rintro k v ⟨rfl, hk⟩
    try simp only
    by_cases c : k < x.length
    case neg =>
      right
      rw [cnd_F (by omega), List.take_of_length_le (by omega)]
      exact ⟨_, rfl, rfl⟩
    left
    have hkt : (x.take k).length ≤ 1000 := by rw [List.length_take]; omega
    have hfk := hfl (x.take k)
    have es1 : (x.take (k + 1)).flatMap gs = (x.take k).flatMap gs ++ gs (x.getD k ((0 : Int), (0 : Int), (0 : Int), (0 : Int), [])) := by
      rw [List.take_add_one, List.getElem?_eq_getElem c, List.getD_eq_getElem?_getD, List.getElem?_eq_getElem c, List.flatMap_append]
      simp
    have hm : x.getD k ((0 : Int), (0 : Int), (0 : Int), (0 : Int), []) ∈ x := by rw [List.getD_eq_getElem?_getD, List.getElem?_eq_getElem c]; exact List.getElem_mem c
    have hgl := gs_len (x.getD k ((0 : Int), (0 : Int), (0 : Int), (0 : Int), []))
    simp only [Int.toNat_natCast]
    rw [cnd_T (by omega), dT (by omega), dT (by omega), Bool.and_self, cnd_t, wr_m (z := (k : Int) + 1) (by omega) (by omega)]
    have e2 := bytesOf_any N hN _ (h _ hm)
    obtain ⟨s, hs⟩ : ∃ s, x.getD k ((0 : Int), (0 : Int), (0 : Int), (0 : Int), []) = s := ⟨_, rfl⟩
    rw [hs] at e2 hgl es1 ⊢
    have e3 : ((s.1, s.2.1, s.2.2.1, s.2.2.2.1, s.2.2.2.2) : St) = s := rfl
    rw [e3, e2, obind_s, cnd_T (by omega), es1]
    exact ⟨_, rfl, by simp, by omega⟩
def dv (k : Int) : Int := List.getD [(1 : Int), (2 : Int), (3 : Int), (5 : Int), (9 : Int), (9 : Int), (20 : Int), (1000 : Int), (0 : Int)] (Int.toNat k) (0 : Int)
theorem dv_rng (k : Int) : 0 ≤ dv k ∧ dv k ≤ 1000 := by
  unfold dv
  generalize k.toNat = j
  match j with
  | 0 | 1 | 2 | 3 | 4 | 5 | 6 | 7 | 8 => decide
  | j + 9 => simp [List.getD_eq_getElem?_getD]
def gd (D : List (List Int)) (i j : Nat) : Int := (D.getD i []).getD j 0
structure GD (D : List (List Int)) : Prop where
  len : D.length = 8
  row : ∀ i, i < 8 → (D.getD i []).length = 8
  rng : ∀ i j, i < 8 → j < 8 → 0 ≤ gd D i j ∧ gd D i j ≤ 1000
  sym : ∀ i j, i < 8 → j < 8 → gd D i j = gd D j i
theorem lt8 {P : Nat → Prop} (h0 : P 0) (h1 : P 1) (h2 : P 2) (h3 : P 3) (h4 : P 4) (h5 : P 5) (h6 : P 6) (h7 : P 7) : ∀ i, i < 8 → P i
  | 0, _ => h0 | 1, _ => h1 | 2, _ => h2 | 3, _ => h3 | 4, _ => h4 | 5, _ => h5 | 6, _ => h6 | 7, _ => h7
  | n + 8, h => by omega
theorem Num_spec (N : Nat) (m : Int) (l : List Int) (n : Int) (hU : U8 l) (hl : l.length ≤ 1000) (h0 : 0 ≤ n) (h1 : n ≤ l.length) (hm : 1 ≤ m) (hm2 : m ≤ 255) : ∃ v n', W_Picks_Num N (m, l, n) = some (v, l, n') ∧ 0 ≤ v ∧ v < m ∧ 0 ≤ n' ∧ n' ≤ l.length := by
  unfold W_Picks_Num V_Picks_Num
  try simp only
  by_cases hn : (l.length : Int) ≤ n
  · rw [dT hn, cnd_t]; exact ⟨_, _, rfl, by omega, by omega, h0, h1⟩
  have w : wr .i64 (wr .i64 (n + 1) - 1) = n := by rw [wr_m (z := n + 1) (by omega) (by omega), wr_m (z := n + 1 - 1) (by omega) (by omega)]; omega
  have g := U8_get hU n.toNat (by omega)
  rw [w, wr_m (z := n + 1) (by omega) (by omega)]
  clear w
  rw [dF hn, cnd_f, dF (show ¬ m < 1 by omega), cnd_f, dT h0, dT (show n < l.length by omega), Bool.and_self, cnd_t, dF (show ¬ m = 0 by omega), Bool.not_false, cnd_t, wr_m (by omega) (by omega)]
  exact ⟨_, _, rfl, Int.tmod_nonneg _ g.1, Int.tmod_lt_of_pos _ (by omega), by omega, by omega⟩
theorem loop_post {σ ρ β : Type} {f : σ → Option (σ ⊕ ρ)} {k : ρ → Option β} {x : σ} {N : Nat} (Q : Option β → Prop) (I : σ → Prop) (m : σ → Nat) (J : ρ → Prop) (hx : I x) (hm : m x < N) (hk : ∀ r, J r → Q (k r))
    (hs : ∀ x, I x → (∃ y, f x = some (.inl y) ∧ I y ∧ m y < m x) ∨ ∃ r, f x = some (.inr r) ∧ J r) : Q (obind (loopN N f x) k) := by
  obtain ⟨r, h1, h2⟩ := loopN_run I m J hs N x hx hm
  rw [h1]; exact hk r h2
theorem take_snoc (l : List Int) (j : Nat) (h : j < l.length) : l.take (j + 1) = l.take j ++ [l.getD j 0] := by
  rw [List.take_add_one, List.getD_eq_getElem?_getD, List.getElem?_eq_getElem h]; rfl
theorem getD_mem (l : List Int) (j : Nat) (h : j < l.length) : l.getD j 0 ∈ l := by
  rw [List.getD_eq_getElem?_getD, List.getElem?_eq_getElem h]
  exact List.getElem_mem h
theorem Has_eq (N : Nat) (l : List Int) (a : Int) (hlen : l.length ≤ 900) (hN : 1000 ≤ N) : W_ref1_Has N (l, a) = some (decide (a ∈ l)) := by
  unfold W_ref1_Has V_ref1_Has
  try simp only
  refine loop_post (fun o => o = some (decide (a ∈ l))) (fun v => 0 ≤ v ∧ v ≤ l.length ∧ a ∉ l.take v.toNat) (fun v => l.length - v.toNat) (fun r => (r = .inl () ∧ a ∉ l) ∨ (r = .inr true ∧ a ∈ l)) ⟨by simp, by simp, by simp⟩ (by simp; omega) (fun r h => ?_) ?_
  · rcases h with ⟨rfl, h⟩ | ⟨rfl, h⟩
    · rw [selim_l, dF h]
    · rw [selim_r, dT h]
  rintro i ⟨g1, g2, g3⟩
  by_cases h : i < l.length
  · rw [dT h, cnd_t, dT g1, Bool.and_self, cnd_t]
    by_cases e : l.getD i.toNat 0 = a
    · right
      rw [dT e, cnd_t]
      exact ⟨_, rfl, .inr ⟨rfl, e ▸ getD_mem l i.toNat (by omega)⟩⟩
    · left
      rw [dF e, cnd_f, wr_m (by omega) (by omega)]
      refine ⟨_, rfl, ⟨by omega, by omega, ?_⟩, by omega⟩
      rw [show (i + 1).toNat = i.toNat + 1 by omega, take_snoc l _ (by omega)]
      intro hm
      rcases List.mem_append.1 hm with hm | hm
      · exact g3 hm
      · exact e (List.mem_singleton.1 hm).symm
  · right
    rw [dF h, cnd_f]
    rw [List.take_of_length_le (by omega)] at g3
    exact ⟨_, rfl, .inl ⟨rfl, g3⟩⟩
def Z0 (D : List (List Int)) : Prop := ∀ i, i < 8 → gd D i i = 0
theorem Dist_spec1 (N : Nat) (l : List Int) (n : Int) (hU : U8 l) (hl : l.length ≤ 1000) (h0 : 0 ≤ n) (h1 : n ≤ l.length) : ∃ D n', W_Picks_Dist N (l, n) = some (D, l, n') ∧ GD D ∧ Z0 D ∧ 0 ≤ n' ∧ n' ≤ l.length := by
  unfold W_Picks_Dist V_Picks_Dist
  try simp only
  obtain ⟨v0, n0, e0, p0, q0, r0, s0⟩ := Num_spec N 9 l n hU hl h0 h1 (by omega) (by omega)
  rw [e0, obind_s, dT p0, cnd_t, dT (show v0 < ((9 : Nat) : Int) from q0), cnd_t]
  obtain ⟨v1, n1, e1, p1, q1, r1, s1⟩ := Num_spec N 9 l n0 hU hl r0 s0 (by omega) (by omega)
  rw [e1, obind_s, dT p1, cnd_t, dT (show v1 < ((9 : Nat) : Int) from q1), cnd_t]
  obtain ⟨v2, n2, e2, p2, q2, r2, s2⟩ := Num_spec N 9 l n1 hU hl r1 s1 (by omega) (by omega)
  rw [e2, obind_s, dT p2, cnd_t, dT (show v2 < ((9 : Nat) : Int) from q2), cnd_t]
  obtain ⟨v3, n3, e3, p3, q3, r3, s3⟩ := Num_spec N 9 l n2 hU hl r2 s2 (by omega) (by omega)
  rw [e3, obind_s, dT p3, cnd_t, dT (show v3 < ((9 : Nat) : Int) from q3), cnd_t]
  obtain ⟨v4, n4, e4, p4, q4, r4, s4⟩ := Num_spec N 9 l n3 hU hl r3 s3 (by omega) (by omega)
  rw [e4, obind_s, dT p4, cnd_t, dT (show v4 < ((9 : Nat) : Int) from q4), cnd_t]
  obtain ⟨v5, n5, e5, p5, q5, r5, s5⟩ := Num_spec N 9 l n4 hU hl r4 s4 (by omega) (by omega)
  rw [e5, obind_s, dT p5, cnd_t, dT (show v5 < ((9 : Nat) : Int) from q5), cnd_t]
  obtain ⟨v6, n6, e6, p6, q6, r6, s6⟩ := Num_spec N 9 l n5 hU hl r5 s5 (by omega) (by omega)
  rw [e6, obind_s, dT p6, cnd_t, dT (show v6 < ((9 : Nat) : Int) from q6), cnd_t]
  obtain ⟨v7, n7, e7, p7, q7, r7, s7⟩ := Num_spec N 9 l n6 hU hl r6 s6 (by omega) (by omega)
  rw [e7, obind_s, dT p7, cnd_t, dT (show v7 < ((9 : Nat) : Int) from q7), cnd_t]
  obtain ⟨v8, n8, e8, p8, q8, r8, s8⟩ := Num_spec N 9 l n7 hU hl r7 s7 (by omega) (by omega)
  rw [e8, obind_s, dT p8, cnd_t, dT (show v8 < ((9 : Nat) : Int) from q8), cnd_t]
  obtain ⟨v9, n9, e9, p9, q9, r9, s9⟩ := Num_spec N 9 l n8 hU hl r8 s8 (by omega) (by omega)
  rw [e9, obind_s, dT p9, cnd_t, dT (show v9 < ((9 : Nat) : Int) from q9), cnd_t]
  obtain ⟨v10, n10, e10, p10, q10, r10, s10⟩ := Num_spec N 9 l n9 hU hl r9 s9 (by omega) (by omega)
  rw [e10, obind_s, dT p10, cnd_t, dT (show v10 < ((9 : Nat) : Int) from q10), cnd_t]
  obtain ⟨v11, n11, e11, p11, q11, r11, s11⟩ := Num_spec N 9 l n10 hU hl r10 s10 (by omega) (by omega)
  rw [e11, obind_s, dT p11, cnd_t, dT (show v11 < ((9 : Nat) : Int) from q11), cnd_t]
  obtain ⟨v12, n12, e12, p12, q12, r12, s12⟩ := Num_spec N 9 l n11 hU hl r11 s11 (by omega) (by omega)
  rw [e12, obind_s, dT p12, cnd_t, dT (show v12 < ((9 : Nat) : Int) from q12), cnd_t]
  obtain ⟨v13, n13, e13, p13, q13, r13, s13⟩ := Num_spec N 9 l n12 hU hl r12 s12 (by omega) (by omega)
  rw [e13, obind_s, dT p13, cnd_t, dT (show v13 < ((9 : Nat) : Int) from q13), cnd_t]
  obtain ⟨v14, n14, e14, p14, q14, r14, s14⟩ := Num_spec N 9 l n13 hU hl r13 s13 (by omega) (by omega)
  rw [e14, obind_s, dT p14, cnd_t, dT (show v14 < ((9 : Nat) : Int) from q14), cnd_t]
  obtain ⟨v15, n15, e15, p15, q15, r15, s15⟩ := Num_spec N 9 l n14 hU hl r14 s14 (by omega) (by omega)
  rw [e15, obind_s, dT p15, cnd_t, dT (show v15 < ((9 : Nat) : Int) from q15), cnd_t]
  obtain ⟨v16, n16, e16, p16, q16, r16, s16⟩ := Num_spec N 9 l n15 hU hl r15 s15 (by omega) (by omega)
  rw [e16, obind_s, dT p16, cnd_t, dT (show v16 < ((9 : Nat) : Int) from q16), cnd_t]
  obtain ⟨v17, n17, e17, p17, q17, r17, s17⟩ := Num_spec N 9 l n16 hU hl r16 s16 (by omega) (by omega)
  rw [e17, obind_s, dT p17, cnd_t, dT (show v17 < ((9 : Nat) : Int) from q17), cnd_t]
  obtain ⟨v18, n18, e18, p18, q18, r18, s18⟩ := Num_spec N 9 l n17 hU hl r17 s17 (by omega) (by omega)
  rw [e18, obind_s, dT p18, cnd_t, dT (show v18 < ((9 : Nat) : Int) from q18), cnd_t]
  obtain ⟨v19, n19, e19, p19, q19, r19, s19⟩ := Num_spec N 9 l n18 hU hl r18 s18 (by omega) (by omega)
  rw [e19, obind_s, dT p19, cnd_t, dT (show v19 < ((9 : Nat) : Int) from q19), cnd_t]
  obtain ⟨v20, n20, e20, p20, q20, r20, s20⟩ := Num_spec N 9 l n19 hU hl r19 s19 (by omega) (by omega)
  rw [e20, obind_s, dT p20, cnd_t, dT (show v20 < ((9 : Nat) : Int) from q20), cnd_t]
  obtain ⟨v21, n21, e21, p21, q21, r21, s21⟩ := Num_spec N 9 l n20 hU hl r20 s20 (by omega) (by omega)
  rw [e21, obind_s, dT p21, cnd_t, dT (show v21 < ((9 : Nat) : Int) from q21), cnd_t]
  obtain ⟨v22, n22, e22, p22, q22, r22, s22⟩ := Num_spec N 9 l n21 hU hl r21 s21 (by omega) (by omega)
  rw [e22, obind_s, dT p22, cnd_t, dT (show v22 < ((9 : Nat) : Int) from q22), cnd_t]
  obtain ⟨v23, n23, e23, p23, q23, r23, s23⟩ := Num_spec N 9 l n22 hU hl r22 s22 (by omega) (by omega)
  rw [e23, obind_s, dT p23, cnd_t, dT (show v23 < ((9 : Nat) : Int) from q23), cnd_t]
  obtain ⟨v24, n24, e24, p24, q24, r24, s24⟩ := Num_spec N 9 l n23 hU hl r23 s23 (by omega) (by omega)
  rw [e24, obind_s, dT p24, cnd_t, dT (show v24 < ((9 : Nat) : Int) from q24), cnd_t]
  obtain ⟨v25, n25, e25, p25, q25, r25, s25⟩ := Num_spec N 9 l n24 hU hl r24 s24 (by omega) (by omega)
  rw [e25, obind_s, dT p25, cnd_t, dT (show v25 < ((9 : Nat) : Int) from q25), cnd_t]
  obtain ⟨v26, n26, e26, p26, q26, r26, s26⟩ := Num_spec N 9 l n25 hU hl r25 s25 (by omega) (by omega)
  rw [e26, obind_s, dT p26, cnd_t, dT (show v26 < ((9 : Nat) : Int) from q26), cnd_t]
  obtain ⟨v27, n27, e27, p27, q27, r27, s27⟩ := Num_spec N 9 l n26 hU hl r26 s26 (by omega) (by omega)
  rw [e27, obind_s, dT p27, cnd_t, dT (show v27 < ((9 : Nat) : Int) from q27), cnd_t]
  refine ⟨[[(0 : Int), dv v0, dv v1, dv v3, dv v6, dv v10, dv v15, dv v21], [dv v0, (0 : Int), dv v2, dv v4, dv v7, dv v11, dv v16, dv v22], [dv v1, dv v2, (0 : Int), dv v5, dv v8, dv v12, dv v17, dv v23], [dv v3, dv v4, dv v5, (0 : Int), dv v9, dv v13, dv v18, dv v24], [dv v6, dv v7, dv v8, dv v9, (0 : Int), dv v14, dv v19, dv v25], [dv v10, dv v11, dv v12, dv v13, dv v14, (0 : Int), dv v20, dv v26], [dv v15, dv v16, dv v17, dv v18, dv v19, dv v20, (0 : Int), dv v27], [dv v21, dv v22, dv v23, dv v24, dv v25, dv v26, dv v27, (0 : Int)]], n27, rfl, ?_, lt8 rfl rfl rfl rfl rfl rfl rfl rfl, r27, s27⟩
  have d0 := dv_rng v0
  have d1 := dv_rng v1
  have d2 := dv_rng v2
  have d3 := dv_rng v3
  have d4 := dv_rng v4
  have d5 := dv_rng v5
  have d6 := dv_rng v6
  have d7 := dv_rng v7
  have d8 := dv_rng v8
  have d9 := dv_rng v9
  have d10 := dv_rng v10
  have d11 := dv_rng v11
  have d12 := dv_rng v12
  have d13 := dv_rng v13
  have d14 := dv_rng v14
  have d15 := dv_rng v15
  have d16 := dv_rng v16
  have d17 := dv_rng v17
  have d18 := dv_rng v18
  have d19 := dv_rng v19
  have d20 := dv_rng v20
  have d21 := dv_rng v21
  have d22 := dv_rng v22
  have d23 := dv_rng v23
  have d24 := dv_rng v24
  have d25 := dv_rng v25
  have d26 := dv_rng v26
  have d27 := dv_rng v27
  generalize dv v0 = w0 at *
  generalize dv v1 = w1 at *
  generalize dv v2 = w2 at *
  generalize dv v3 = w3 at *
  generalize dv v4 = w4 at *
  generalize dv v5 = w5 at *
  generalize dv v6 = w6 at *
  generalize dv v7 = w7 at *
  generalize dv v8 = w8 at *
  generalize dv v9 = w9 at *
  generalize dv v10 = w10 at *
  generalize dv v11 = w11 at *
  generalize dv v12 = w12 at *
  generalize dv v13 = w13 at *
  generalize dv v14 = w14 at *
  generalize dv v15 = w15 at *
  generalize dv v16 = w16 at *
  generalize dv v17 = w17 at *
  generalize dv v18 = w18 at *
  generalize dv v19 = w19 at *
  generalize dv v20 = w20 at *
  generalize dv v21 = w21 at *
  generalize dv v22 = w22 at *
  generalize dv v23 = w23 at *
  generalize dv v24 = w24 at *
  generalize dv v25 = w25 at *
  generalize dv v26 = w26 at *
  generalize dv v27 = w27 at *
  refine ⟨rfl, lt8 rfl rfl rfl rfl rfl rfl rfl rfl, ?_, fun i j hi hj => lt8 (P := fun i => ∀ j, j < 8 → gd [[(0 : Int), w0, w1, w3, w6, w10, w15, w21], [w0, (0 : Int), w2, w4, w7, w11, w16, w22], [w1, w2, (0 : Int), w5, w8, w12, w17, w23], [w3, w4, w5, (0 : Int), w9, w13, w18, w24], [w6, w7, w8, w9, (0 : Int), w14, w19, w25], [w10, w11, w12, w13, w14, (0 : Int), w20, w26], [w15, w16, w17, w18, w19, w20, (0 : Int), w27], [w21, w22, w23, w24, w25, w26, w27, (0 : Int)]] i j = gd [[(0 : Int), w0, w1, w3, w6, w10, w15, w21], [w0, (0 : Int), w2, w4, w7, w11, w16, w22], [w1, w2, (0 : Int), w5, w8, w12, w17, w23], [w3, w4, w5, (0 : Int), w9, w13, w18, w24], [w6, w7, w8, w9, (0 : Int), w14, w19, w25], [w10, w11, w12, w13, w14, (0 : Int), w20, w26], [w15, w16, w17, w18, w19, w20, (0 : Int), w27], [w21, w22, w23, w24, w25, w26, w27, (0 : Int)]] j i) (lt8 rfl rfl rfl rfl rfl rfl rfl rfl) (lt8 rfl rfl rfl rfl rfl rfl rfl rfl) (lt8 rfl rfl rfl rfl rfl rfl rfl rfl) (lt8 rfl rfl rfl rfl rfl rfl rfl rfl) (lt8 rfl rfl rfl rfl rfl rfl rfl rfl) (lt8 rfl rfl rfl rfl rfl rfl rfl rfl) (lt8 rfl rfl rfl rfl rfl rfl rfl rfl) (lt8 rfl rfl rfl rfl rfl rfl rfl rfl) i hi j hj⟩
  have z : (0 : Int) ≤ 0 ∧ (0 : Int) ≤ 1000 := ⟨by omega, by omega⟩
  refine fun i j hi hj => lt8 (P := fun i => ∀ j, j < 8 → 0 ≤ gd [[(0 : Int), w0, w1, w3, w6, w10, w15, w21], [w0, (0 : Int), w2, w4, w7, w11, w16, w22], [w1, w2, (0 : Int), w5, w8, w12, w17, w23], [w3, w4, w5, (0 : Int), w9, w13, w18, w24], [w6, w7, w8, w9, (0 : Int), w14, w19, w25], [w10, w11, w12, w13, w14, (0 : Int), w20, w26], [w15, w16, w17, w18, w19, w20, (0 : Int), w27], [w21, w22, w23, w24, w25, w26, w27, (0 : Int)]] i j ∧ gd [[(0 : Int), w0, w1, w3, w6, w10, w15, w21], [w0, (0 : Int), w2, w4, w7, w11, w16, w22], [w1, w2, (0 : Int), w5, w8, w12, w17, w23], [w3, w4, w5, (0 : Int), w9, w13, w18, w24], [w6, w7, w8, w9, (0 : Int), w14, w19, w25], [w10, w11, w12, w13, w14, (0 : Int), w20, w26], [w15, w16, w17, w18, w19, w20, (0 : Int), w27], [w21, w22, w23, w24, w25, w26, w27, (0 : Int)]] i j ≤ 1000) ?_ ?_ ?_ ?_ ?_ ?_ ?_ ?_ i hi j hj
  · exact lt8 z d0 d1 d3 d6 d10 d15 d21
  · exact lt8 d0 z d2 d4 d7 d11 d16 d22
  · exact lt8 d1 d2 z d5 d8 d12 d17 d23
  · exact lt8 d3 d4 d5 z d9 d13 d18 d24
  · exact lt8 d6 d7 d8 d9 z d14 d19 d25
  · exact lt8 d10 d11 d12 d13 d14 z d20 d26
  · exact lt8 d15 d16 d17 d18 d19 d20 z d27
  · exact lt8 d21 d22 d23 d24 d25 d26 d27 z

abbrev Cl := List Int × Int
abbrev Lv := List (List Cl)
abbrev Hr := Int × List (List Int) × Lv
theorem rMay_eq (N : Nat) {D : List (List Int)} (hD : GD D) (h0 : Z0 D) (hN : 1000 ≤ N) : W_ref1_MayDist N D = some true := by
  have hl := hD.len
  unfold W_ref1_MayDist V_ref1_MayDist
  try simp only
  rw [dF (show ¬ (D.length : Int) ≠ 8 by omega), cnd_f]
  refine loop_post (σ := Int) (ρ := Unit ⊕ Bool) (β := Bool) (fun o => o = some true) (fun v => ∃ i : Nat, v = i ∧ i ≤ 8) (fun v => 8 - v.toNat) (fun r => r = .inl ()) ⟨0, rfl, by omega⟩ (by simp; omega) ?_ ?_
  rotate_left
  · rintro v ⟨i, rfl, hi⟩
    by_cases c : (i : Int) < D.length
    case neg => right; rw [dF c, cnd_f]; exact ⟨_, rfl, rfl⟩
    left
    have hr := hD.row i (by omega)
    refine ⟨((i + 1 : Nat) : Int), ?_, ⟨i + 1, rfl, by omega⟩, by omega⟩
    rw [dT c, cnd_t, dT (show (0 : Int) ≤ (i : Int) by omega), Bool.and_self, cnd_t, Int.toNat_natCast, dF (show ¬ ((D.getD i []).length : Int) ≠ 8 by omega), cnd_f, wr_m (by omega) (by omega)]
    rfl
  rintro r rfl
  rw [selim_l]
  refine loop_post (σ := Int) (ρ := Unit ⊕ Bool) (β := Bool) (fun o => o = some true) (fun v => ∃ i : Nat, v = i ∧ i ≤ 8) (fun v => 8 - v.toNat) (fun r => r = .inl ()) ⟨0, rfl, by omega⟩ (by simp; omega) (fun r h => by rw [h, selim_l]) ?_
  rintro v ⟨i, rfl, hi⟩
  by_cases c : (i : Int) < D.length
  case neg => right; rw [dF c, cnd_f]; exact ⟨_, rfl, rfl⟩
  left
  have hr := hD.row i (by omega)
  rw [dT c, cnd_t]
  refine loop_post (σ := Int) (ρ := Unit ⊕ Bool) (β := Int ⊕ (Unit ⊕ Bool)) (fun o => ∃ y : Int, o = some (.inl y) ∧ (∃ i : Nat, y = i ∧ i ≤ 8) ∧ 8 - y.toNat < 8 - i) (fun v => ∃ j : Nat, v = j ∧ j ≤ 8) (fun v => 8 - v.toNat) (fun r => r = .inl ()) ⟨0, rfl, by omega⟩ (by simp; omega) (fun r h => ?_) ?_
  · rw [h, selim_l, wr_m (by omega) (by omega)]
    exact ⟨_, rfl, ⟨i + 1, by omega, by omega⟩, by omega⟩
  rintro v ⟨j, rfl, hj⟩
  by_cases c2 : (j : Int) < D.length
  case neg => right; rw [dF c2, cnd_f]; exact ⟨_, rfl, rfl⟩
  left
  have hr2 := hD.row j (by omega)
  have g1 := hD.rng i j (by omega) (by omega)
  have g2 := hD.sym i j (by omega) (by omega)
  have g3 := h0 i (by omega)
  refine ⟨((j + 1 : Nat) : Int), ?_, ⟨j + 1, rfl, by omega⟩, by omega⟩
  unfold gd at g1 g2 g3
  simp only [Int.toNat_natCast, hr, hr2, dT c, dT c2, dT (show (0 : Int) ≤ (i : Int) by omega), dT (show (0 : Int) ≤ (j : Int) by omega), dT (show (i : Int) < ((8 : Nat) : Int) by omega), dT (show (j : Int) < ((8 : Nat) : Int) by omega), Bool.and_self, cnd_t]
  rw [dF (show ¬ (D.getD i []).getD j 0 < 0 by omega), cnd_f, dF (show ¬ 1000 < (D.getD i []).getD j 0 by omega), cnd_f, wr_m (by omega) (by omega)]
  refine (cnd_F (fun q => q g2)).trans ?_
  by_cases e : i = j
  · subst e
    refine (cnd_T rfl).trans ((cnd_F (fun q => q g3)).trans ?_); rfl
  · refine (cnd_F (by omega)).trans ?_; rfl
theorem rNew_eq (N : Nat) {D : List (List Int)} (hD : GD D) (h0 : Z0 D) {k : Int} (hN : 1000 ≤ N) : W_ref7_New N (D, k) = some (if 1 ≤ k ∧ k ≤ 3 then (true, k, D, []) else (false, 0, [], [])) := by
  have hl := hD.len
  unfold W_ref7_New V_ref7_New
  try simp only
  rw [rMay_eq N hD h0 hN, obind_s, Bool.not_true, cnd_f, obind_s]
  try simp only
  by_cases c1 : k < 1
  · rw [dT c1, cnd_t, if_neg (by omega)]
  rw [dF c1, cnd_f]
  by_cases c2 : 3 < k
  · rw [dT c2, cnd_t, if_neg (by omega)]
  rw [dF c2, cnd_f, if_pos (by omega)]
  refine loop_post (σ := Int × Hr × Int × Lv × List (List Int)) (ρ := Hr × Int × Lv × List (List Int)) (β := Bool × Hr) (fun o => o = some (true, k, D, [])) (fun v => ∃ i : Nat, v = ((i : Int), (0, [], []), k, [], D.take i) ∧ i ≤ D.length) (fun v => D.length - v.1.toNat) (fun r => r = ((0, [], []), k, [], D)) ⟨0, by simp, by omega⟩ (by simp; omega) (fun r h => by rw [h]) ?_
  rintro v ⟨i, rfl, hi⟩
  try simp only
  by_cases c : (i : Int) < D.length
  case neg => right; rw [dF c, cnd_f, List.take_of_length_le (by omega)]; exact ⟨_, rfl, rfl⟩
  left
  have hr := hD.row i (by omega)
  refine ⟨(((i + 1 : Nat) : Int), (0, [], []), k, [], D.take (i + 1)), ?_, ⟨i + 1, rfl, by omega⟩, by simp only; omega⟩
  rw [dT c, cnd_t, dT (show (0 : Int) ≤ (i : Int) by omega), Bool.and_self, cnd_t, Int.toNat_natCast, cnd_T (by omega), cnd_T (by rw [List.length_take]; omega), wr_m (by omega) (by omega), List.take_add_one, List.getD_eq_getElem?_getD, List.getElem?_eq_getElem (show i < D.length by omega)]
  rfl
theorem wr_s {z : Int} (h : 0 ≤ z) (h2 : z ≤ 140737488355328) : wr .i64 z = z := wr_i64 (by omega) (by omega)
theorem Num_eq (N : Nat) (m : Int) (l : List Int) (n : Int) (hm : 1 ≤ m) (hn : 0 ≤ n) (hn2 : n ≤ 1000000) (hel : ∀ x ∈ l, 0 ≤ x ∧ x ≤ 255) : ∃ k n', W_Picks_Num N (m, l, n) = some (k, l, n') ∧ 0 ≤ k ∧ k < m ∧ n ≤ n' ∧ n' ≤ n + 1 := by
  unfold W_Picks_Num V_Picks_Num
  try simp only
  by_cases h : (l.length : Int) ≤ n
  · rw [dT h, cnd_t]; exact ⟨_, _, rfl, by omega, by omega, by omega, by omega⟩
  rw [dF h, cnd_f, dF (by omega), cnd_f, wr_s (z := n + 1) (by omega) (by omega), wr_s (z := n + 1 - 1) (by omega) (by omega), dT (by omega), dT (by omega), Bool.and_self, cnd_t, dF (by omega), Bool.not_false, cnd_t]
  have hb := hel (l.getD (n + 1 - 1).toNat 0) (by rw [List.getD_eq_getElem?_getD, List.getElem?_eq_getElem (show (n + 1 - 1).toNat < l.length by omega)]; exact List.getElem_mem _)
  rw [wr_s (by omega) (by omega), Int.tmod_eq_emod_of_nonneg (by omega)]
  exact ⟨_, _, rfl, Int.emod_nonneg _ (by omega), Int.emod_lt_of_pos _ (by omega), by omega, by omega⟩
theorem Mid1 (N : Nat) (hN : 1000 ≤ N) (D : List (List Int)) : W_ref7_Mid N (D, [1]) = some 1 := by
  unfold W_ref7_Mid V_ref7_Mid
  refine loop_G (σ := Int × Int) (ρ := Int) (β := Int) (· = some 1) (fun k v => v = ((if k = 0 then 0 else 1), (k : Int) + 1) ∧ k ≤ 8) 8 (fun r => r = 1) ⟨rfl, by omega⟩ (by omega) ?_ (fun k v h => h.2) ?_
  · rintro r rfl; rfl
  · rintro k v ⟨rfl, hk⟩
    try simp only
    by_cases c : k = 8
    · right
      subst c
      rw [cnd_F (by omega)]
      exact ⟨_, rfl, rfl⟩
    left
    rw [cnd_T (by omega), Has_eq N [1] _ (by simp) hN, obind_s, wr_m (z := (k : Int) + 1 + 1) (by omega) (by omega)]
    by_cases k0 : k = 0
    · subst k0
      rw [cnd_T (by simp), if_pos rfl, cnd_T rfl]
      exact ⟨_, rfl, by simp, by omega⟩
    · rw [cnd_F (by simp only [List.mem_singleton]; omega), if_neg k0]
      exact ⟨_, rfl, by simp, by omega⟩
theorem join1 (N : Nat) (hN : 1000 ≤ N) {D : List (List Int)} (hD : GD D) (h0 : Z0 D) (k : Int) : W_ref7_Join N ((k, D, []), 1) = some (k, D, [[([1], 1)]]) := by
  have hm := rMay_eq N hD h0 hN
  have hmid := Mid1 N hN D
  obtain ⟨M, rfl⟩ : ∃ M, N = M + 1 := ⟨N - 1, by omega⟩
  have hof : W_ref7_Of (M + 1) (D, [1]) = some ([1], 1) := by
    unfold W_ref7_Of V_ref7_Of
    rw [cnd_T (by simp), hmid, obind_s]
  have hjc : W_ref7_JoinClus (M + 1) (D, [], 0, 1, k) = some [([1], 1)] := by
    unfold W_ref7_JoinClus V_ref7_JoinClus
    simp only [List.length_nil]
    rw [cnd_T (by omega), cnd_T (by omega), hof, obind_s]
  have hab : W_ref7_above (M + 1) ((k, D, []), [([1], 1)]) = some (k, D, [[([1], 1)]]) := by
    unfold W_ref7_above V_ref7_above
    simp only [loopN, List.length_singleton, List.length_nil]
    rw [cnd_T (by omega), cnd_T (by omega), cnd_T (by omega)]
    rfl
  have hw : wr .i64 ((([] : Lv).length : Int) - 1) = -1 := by simp only [List.length_nil]; exact wr_m (by omega) (by omega)
  unfold W_ref7_Join V_ref7_Join
  try simp only
  rw [hm, obind_s, Bool.not_true, cnd_f, obind_s]
  try simp only
  rw [cnd_F (by omega), obind_s]
  try simp only
  rw [cnd_F (by omega), hw, cnd_F (by simp)]
  refine ob_q (fun v : Int × Hr × Hr => v = (0, (k, D, []), (0, [], []))) ⟨_, ?_, rfl⟩ ?_
  · simp only [loopN]
    rw [cnd_F (by omega)]
  · rintro v rfl
    simp only [List.length_nil]
    rw [cnd_F (by omega), obind_s]
    try simp only
    rw [hjc, obind_s, hab, obind_s]
abbrev Wd := List A0_ × List (Int × List UInt8 × Bool) × List (List UInt8) × Int × List (List Int) × List (List (List Int × Int))
theorem rJoin_root (M : Nat) : ∃ q, W_ref19_Join (M + 20) ((false, (0 : Int), [], ((0 : Int), (0 : Int), (0 : Int), (0 : Int), (0 : Int), (0 : Int), [], (0 : Int), (0 : Int), (0 : Int), (0 : Int), (0 : Int), []), ((0 : Int), (0 : Int), [], [], [], (0 : Int), (0 : Int)), (0 : Int)), (1 : Int), [(114 : UInt8), (111 : UInt8), (111 : UInt8), (116 : UInt8)], (0 : Int)) = some q := ⟨_, rfl⟩
theorem World_spec (N : Nat) (hN : 2000 ≤ N) (l : List Int) (hU : U8 l) (hl : l.length ≤ 100) : ∃ (n' : Int) (w : Wd), W_Picks_World N (l, 0) = some ((l, n'), w) ∧ w.2.1 = [] ∧ 0 ≤ n' ∧ n' ≤ l.length := by
  obtain ⟨D, n1, e1, hD, h0, p1, p2⟩ := Dist_spec1 N l 0 hU (by omega) (by omega) (by omega)
  obtain ⟨v, n2, e2, q1, q2, q3, q4⟩ := Num_spec N 3 l n1 hU (by omega) p1 p2 (by omega) (by omega)
  obtain ⟨M, rfl⟩ : ∃ M, N = M + 20 := ⟨N - 20, by omega⟩
  obtain ⟨j, hj⟩ := rJoin_root M
  have hn := rNew_eq (M + 20) hD h0 (k := 1 + v) (by omega)
  rw [if_pos (by omega)] at hn
  have hjn := join1 (M + 20) (by omega) hD h0 (1 + v)
  unfold W_Picks_World V_Picks_World
  rw [e1, obind_s]
  try simp only
  rw [e2, obind_s]
  try simp only
  rw [wr_m (z := 1 + v) (by omega) (by omega)]
  unfold W_ref21_New V_ref21_New
  rw [hn, obind_s]
  try simp only
  rw [Bool.not_true, cnd_f, hjn, obind_s, hj, obind_s, obind_s]
  exact ⟨_, _, rfl, rfl, q3, q4⟩
def Sm (s : St) : Prop := Good s ∧ s.2.2.2.2.length ≤ 12
theorem Text_eq (N : Nat) (l : List Int) (n : Int) (hn : 0 ≤ n) (hn2 : n ≤ 1000) (hel : ∀ x ∈ l, 0 ≤ x ∧ x ≤ 255) : ∃ s n', W_Picks_Text N (l, n) = some (s, l, n') ∧ s.length ≤ 12 ∧ n ≤ n' ∧ n' ≤ n + 1 := by
  unfold W_Picks_Text V_Picks_Text
  obtain ⟨k, n1, e, h1, h2, h3, h4⟩ := Num_eq N 5 l n (by omega) hn (by omega) hel
  rw [e, obind_s]
  try simp only
  have : k = 0 ∨ k = 1 ∨ k = 2 ∨ k = 3 ∨ k = 4 := by omega
  rcases this with rfl | rfl | rfl | rfl | rfl <;> exact ⟨_, _, rfl, by decide, h3, h4⟩
theorem Step_spec (N : Nat) (w : Wd) (hw : w.2.1 = []) (l : List Int) (n : Int) (hn : 0 ≤ n) (hn2 : n ≤ 500) (hel : ∀ x ∈ l, 0 ≤ x ∧ x ≤ 255) : ∃ n' s, W_Picks_Step N (w, l, n) = some ((l, n'), s) ∧ Sm s ∧ 0 ≤ n' ∧ n' ≤ n + 5 := by
  have hm : (min ((w.2.1.length : Nat) : Int) 200 + 1) = 1 := by rw [hw]; simp; omega
  obtain ⟨a, n1, e1, a1, a2, a3, a4⟩ := Num_eq N 8 l n (by omega) hn (by omega) hel
  obtain ⟨b, n2, e2, b1, b2, b3, b4⟩ := Num_eq N 24 l n1 (by omega) (by omega) (by omega) hel
  unfold W_Picks_Step V_Picks_Step
  try simp only
  rw [e1, obind_s]
  try simp only
  rw [e2, obind_s]
  try simp only
  rw [hm, wr_m (z := 1) (by omega) (by omega), wr_m (z := 1 + a) (by omega) (by omega)]
  have one : ∀ k : Int, k = 2 ∨ k = 3 ∨ k = 5 → Sm (k, 1 + a, 0, 0, []) := fun k hk => ⟨.one k (1 + a) hk ⟨by omega, by omega⟩, by simp⟩
  obtain ⟨i, n3, e3, c1, c2, c3, c4⟩ := Num_eq N 1 l n2 (by omega) (by omega) (by omega) hel
  have fly : ∀ k : Int, k = 6 ∨ k = 7 ∨ k = 8 → Sm (k, 0, i, 0, []) := fun k hk => ⟨.fly k i hk ⟨by omega, by omega⟩, by simp⟩
  by_cases k1 : b < 3
  · rw [cnd_T k1]
    obtain ⟨t, n4, e4, d1, d2, d3, d4⟩ := Num_eq N 4 l n2 (by omega) (by omega) (by omega) hel
    rw [e4, obind_s]
    try simp only
    rw [cnd_T d1, cnd_T (by omega)]
    have : t = 0 ∨ t = 1 ∨ t = 2 ∨ t = 3 := by omega
    rcases this with rfl | rfl | rfl | rfl <;> exact ⟨_, _, rfl, ⟨.join (1 + a) _ ⟨by omega, by omega⟩ (by decide), Nat.le_of_ble_eq_true rfl⟩, by omega, by omega⟩
  rw [cnd_F k1]
  by_cases k2 : b = 3
  · rw [cnd_T k2]; exact ⟨_, _, rfl, one 2 (by omega), by omega, by omega⟩
  rw [cnd_F k2]
  by_cases k3 : b = 4
  · rw [cnd_T k3]; exact ⟨_, _, rfl, one 3 (by omega), by omega, by omega⟩
  rw [cnd_F k3]
  by_cases k4 : b < 7
  · rw [cnd_T k4]
    obtain ⟨s, n4, e4, d1, d2, d3⟩ := Text_eq N l n2 (by omega) (by omega) hel
    rw [e4, obind_s]
    exact ⟨_, _, rfl, ⟨.pub s (by omega), d1⟩, by omega, by omega⟩
  rw [cnd_F k4]
  by_cases k5 : b < 13
  · rw [cnd_T k5]; exact ⟨_, _, rfl, one 5 (by omega), by omega, by omega⟩
  rw [cnd_F k5]
  by_cases k6 : b < 20
  · rw [cnd_T k6, e3, obind_s]; exact ⟨_, _, rfl, fly 6 (by omega), by omega, by omega⟩
  rw [cnd_F k6]
  by_cases k7 : b = 20
  · rw [cnd_T k7, e3, obind_s]; exact ⟨_, _, rfl, fly 7 (by omega), by omega, by omega⟩
  rw [cnd_F k7]
  by_cases k8 : b = 21
  · rw [cnd_T k8, e3, obind_s]; exact ⟨_, _, rfl, fly 8 (by omega), by omega, by omega⟩
  rw [cnd_F k8]
  by_cases k9 : b = 22
  · rw [cnd_T k9, e3, obind_s]
    obtain ⟨x, n4, e4, d1, d2, d3, d4⟩ := Num_eq N 40 l n3 (by omega) (by omega) (by omega) hel
    obtain ⟨y, n5, e5, f1, f2, f3, f4⟩ := Num_eq N 255 l n4 (by omega) (by omega) (by omega) hel
    try simp only
    rw [e4, obind_s]
    try simp only
    rw [e5, obind_s]
    try simp only
    rw [wr_m (z := x * 256) (by omega) (by omega), wr_m (z := x * 256 + 1) (by omega) (by omega), wr_m (z := x * 256 + 1 + y) (by omega) (by omega)]
    exact ⟨_, _, rfl, ⟨.turned i _ ⟨by omega, by omega⟩ ⟨by omega, by omega⟩, by simp⟩, by omega, by omega⟩
  · rw [cnd_F k9]; exact ⟨_, _, rfl, one 5 (by omega), by omega, by omega⟩
theorem flat_b : ∀ l : List St, (∀ s ∈ l, Sm s) → (l.flatMap es).length ≤ 30 * l.length
  | [], _ => by simp
  | s :: l, h => by
    have := flat_b l (fun x hx => h x (List.mem_cons_of_mem _ hx))
    have h1 := h s (by simp)
    have h2 := es_len h1.1
    have := h1.2
    rw [List.flatMap_cons, List.length_append, List.length_cons, Nat.mul_add]; omega
theorem gs_U8 : ∀ l : List St, U8 (l.flatMap gs) := by
  intro l n hn
  obtain ⟨s, _, hs⟩ := List.mem_flatMap.1 hn
  unfold gs at hs
  split at hs
  · rename_i g; exact es_U8 g n hs
  · cases hs
def Bs (s : St) : Prop := s.2.1 ≤ 9223372036854775807 ∧ s.2.2.1 ≤ 9223372036854775807 ∧ s.2.2.2.1 ≤ 9223372036854775807
theorem law_aux (N : Nat) (hN : 2000 ≤ N) (hbeg : W_law25_begun N () = some true) (b : List Int) (x : List St) (p : List Int) (hb : U8 b) (hx : ∀ s ∈ x, Bs s) (hp : U8 p) : W_law25_OpsAll N (b, x, p) = some true := by
  unfold W_law25_OpsAll V_law25_OpsAll
  try simp only
  rw [hbeg, obind_s, Bool.not_true, cnd_f]
  by_cases c1 : (200 : Int) < b.length
  · rw [cnd_T c1, obind_s, cnd_t]
  rw [cnd_F c1, obind_s]
  by_cases c2 : (10 : Int) < x.length
  · rw [cnd_T c2]
  rw [cnd_F c2]
  by_cases c3 : (100 : Int) < p.length
  · rw [cnd_T c3]
  rw [cnd_F c3]
  refine loop_G (σ := Int) (ρ := PUnit ⊕ Bool) (β := Bool) (· = some true) (fun k v => v = (k : Int) ∧ k ≤ x.length ∧ ∀ s ∈ x.take k, s.2.2.2.2.length ≤ 100) x.length (fun r => r = .inr true ∨ r = .inl () ∧ ∀ s ∈ x, s.2.2.2.2.length ≤ 100) ⟨rfl, by omega, fun s hs => by simp at hs⟩ (by omega) ?_ (fun k v h => h.2.1) ?_
  · rintro r (rfl | ⟨rfl, hs⟩)
    · rfl
    rw [selim_l]
    have hM : W_Made N p = some (p, 0) := rfl
    obtain ⟨n0, w, ew, hw, w1, w2⟩ := World_spec N hN p hp (by omega)
    rw [hM, obind_s, ew, obind_s]
    try simp only
    refine loop_G (σ := Int × (List Int × Int) × Wd × List St) (ρ := List St) (β := Bool) (· = some true) (fun k v => ∃ n L, v = ((k : Int), (p, n), w, L) ∧ k ≤ 20 ∧ L.length = k ∧ (∀ s ∈ L, Sm s) ∧ 0 ≤ n ∧ n ≤ 100 + 5 * k) 20 (fun L => (∀ s ∈ L, Sm s) ∧ L.length ≤ 20) ⟨n0, [], rfl, by omega, rfl, fun s hs => (by cases hs), w1, by omega⟩ (by omega) ?_ (fun k v h => by obtain ⟨_, _, _, h, _⟩ := h; exact h) ?_
    · rintro L ⟨hL, hLl⟩
      have hg : ∀ s ∈ L, Good s := fun s h => (hL s h).1
      have hfb := flat_b L hL
      obtain ⟨g1, g2⟩ := Tk_good b.length b (Nat.le_refl _) (by omega) hb
      have g3 := flat_len (Tk b)
      have hgU := gs_U8 x
      rw [Take_spec N (by omega) b (by omega) hb, obind_s, rTake_spec N hN b (by omega) hb, obind_s, Same_refl N (by omega) _ (by omega), obind_s, cnd_t, pPut_spec N hN x (by omega) hs, obind_s, U8_all hgU, cnd_t]
      rw [rPut_spec N hN x (by omega) (fun s h => ⟨hs s h, hx s h⟩), obind_s, U8_all hgU, cnd_t, beq_self_eq_true, cnd_t, Put_spec N (by omega) L (by omega) hg, obind_s, Take_spec N (by omega) _ (by omega) (flat_U8 hg), obind_s, Tk_flat0 L hg, Same_refl N (by omega) L (by omega), obind_s]
    · rintro k v ⟨n, L, rfl, hk, hL, hS, n1, n2⟩
      try simp only
      by_cases z : k < 20
      · left
        obtain ⟨n', s, es, hs2, m1, m2⟩ := Step_spec N w hw p n n1 (by omega) hp
        rw [cnd_T (by omega), es, obind_s]
        simp only [List.length_singleton]
        rw [cnd_T (by omega), wr_m (z := (k : Int) + 1) (by omega) (by omega)]
        refine ⟨_, rfl, n', L ++ [s], by simp, by omega, by simp [hL], fun a ha => ?_, m1, by omega⟩
        rcases List.mem_append.1 ha with ha | ha
        · exact hS a ha
        · rw [List.mem_singleton.1 ha]; exact hs2
      · right
        rw [cnd_F (by omega)]
        exact ⟨_, rfl, hS, by omega⟩
  · rintro k v ⟨rfl, hk, hs⟩
    by_cases z : k < x.length
    · have hm : x.getD k ((0 : Int), (0 : Int), (0 : Int), (0 : Int), []) = x[k] := by rw [List.getD_eq_getElem?_getD, List.getElem?_eq_getElem z]; rfl
      rw [cnd_T (by omega), dT (by omega), dT (by omega), Bool.and_self, cnd_t, Int.toNat_natCast, hm, wr_m (z := (k : Int) + 1) (by omega) (by omega)]
      by_cases c : (100 : Int) < (x[k].2.2.2.2.length : Int)
      · right
        rw [cnd_T c]
        exact ⟨_, rfl, .inl rfl⟩
      · left
        rw [cnd_F c]
        refine ⟨_, rfl, by simp, by omega, fun s h => ?_⟩
        rw [List.take_add_one, List.getElem?_eq_getElem z] at h
        rcases List.mem_append.1 h with h | h
        · exact hs s h
        · simp only [Option.toList_some, List.mem_singleton] at h
          rw [h]; omega
    · right
      rw [cnd_F (by omega)]
      exact ⟨_, rfl, .inr ⟨rfl, fun s h => hs s (by rw [List.take_of_length_le (by omega)]; exact h)⟩⟩
def NN : Nat := 3000
theorem begun_ok : W_law25_begun NN () = some true := by decide +kernel
theorem law_true (y0 : List Int) (y1 : List A2_) (y2 : List Int) (h0 : Twf (.list (.int .u8)) y0) (h1 : Twf (.list (.agg T2_)) y1) (h2 : Twf (.list (.int .u8)) y2) : W_law25_OpsAll NN (y0, y1, y2) = some true :=
  law_aux NN (by decide) begun_ok y0 y1 y2 h0.2 (fun s hs => by
    have h := h1.2 s hs
    exact ⟨h.2.1.2, h.2.2.1.2, h.2.2.2.1.2⟩) h2.2

theorem spec (y0 : List Int) (y1 : List A2_) (y2 : List Int) (h0 : Twf (.list (.int .u8)) y0) (h1 : Twf (.list (.agg T2_)) y1) (h2 : Twf (.list (.int .u8)) y2) : Spec2 P0 3 [valW (.list (.int .u8)) y0, valW (.list (.agg T2_)) y1, valW (.list (.int .u8)) y2] [] (.bs true) [] [] := (con_law25_OpsAll_ok NN).2 (y0, y1, y2) true (law_true y0 y1 y2 h0 h1 h2)
theorem lifted (os : Os) (started : os.Started) (H : Type) (enc : TypeId × Value → H) :
    ReturnsInHanded {} Try.checked os 3 .any (Rows.opsAllSpec.pre6 enc Try.prog Try.f3 Rows.opsAllRow.domain false) (Rows.opsAllSpec.post enc Try.prog Try.f3 false true false false) := by
  refine returnsInHanded_of_change (C := Try.checked) own started (by kernel_rfl) Try.func3
    (ChangeSpec.witness6 (enc := enc) (C := Try.checked) false ⟨#[], #[.slice none 0 0, .slice none 0 0, .slice none 0 0], []⟩ 8 (by kernel_rfl) (by kernel_rfl) (by kernel_rfl) (by kernel_rfl)) ?_
  intro W base args ds gs before hval0 hW hcnd _
  have hval : ∀ (j : Nat) t v, Try.f3.params[j]? = some t → args[j]? = some v → Value.okWide Try.prog W .any base t v := hval0
  have hW' := hW
  obtain ⟨p, q, hA0, hV, rfl, hfz, hnd⟩ := hW
  have hA : DataW.TrodAll enc Try.prog W 0 (fun _ => true) true Try.f3.params.toList args.toList ds p := hA0
  rw [Try.params3] at hA hval
  obtain ⟨v0, vs0, d0, ds0, p0, q0, hargs, rfl, rfl, h0, r0⟩ := trodAll_cons hA
  obtain ⟨v1, vs1, d1, ds1, p1, q1, rfl, rfl, rfl, h1, r1⟩ := trodAll_cons r0
  obtain ⟨v2, vs2, d2, ds2, p2, q2, rfl, rfl, rfl, h2, r2⟩ := trodAll_cons r1
  obtain ⟨rfl, rfl, rfl⟩ := trodAll_nil r2
  obtain rfl : args = #[v0, v1, v2] := by cases args; simp_all
  obtain ⟨rfl, rfl⟩ := trodVars_none hV
  have k0 := h0
  have lt0 : ∀ x ∈ p0, x.block < W.heap.size := by obtain ⟨m, hm⟩ := k0; exact DataW.trod_lt m _ _ _ hm
  obtain ⟨y0, rp0, wf0⟩ := arg_ok (n := 12) (ty := (.list (.int .u8))) (by kernel_rfl) (hval 0 _ v0 rfl rfl) h0
  have k1 := h1
  have lt1 : ∀ x ∈ p1, x.block < W.heap.size := by obtain ⟨m, hm⟩ := k1; exact DataW.trod_lt m _ _ _ hm
  obtain ⟨y1, rp1, wf1⟩ := arg_ok (n := 12) (ty := (.list (.agg T2_))) (by kernel_rfl) (hval 1 _ v1 rfl rfl) h1
  have k2 := h2
  have lt2 : ∀ x ∈ p2, x.block < W.heap.size := by obtain ⟨m, hm⟩ := k2; exact DataW.trod_lt m _ _ _ hm
  obtain ⟨y2, rp2, wf2⟩ := arg_ok (n := 12) (ty := (.list (.int .u8))) (by kernel_rfl) (hval 2 _ v2 rfl rfl) h2
  clear hA0 hval0
  refine (law_of2 (spec y0 y1 y2 wf0 wf1 wf2) W #[v0, v1, v2] (.cons rp0 (.cons rp1 (.cons rp2 .nil)))).mono fun e W' ⟨he, bel⟩ => ?_
  subst he
  exact ⟨_, rfl, _, _, _, [], _, [], hW', trodAll_mk1 (shut_bool Try.underlying4 _), (trodAll_cons_mk (Below.trod laidOut (by kernel_rfl) (of_decide_eq_true (by kernel_rfl)) k0 bel lt0) (trodAll_cons_mk (Below.trod laidOut (by kernel_rfl) (of_decide_eq_true (by kernel_rfl)) k1 bel lt1) (trodAll_cons_mk (Below.trod laidOut (by kernel_rfl) (of_decide_eq_true (by kernel_rfl)) k2 bel lt2) trodAll_mk0))), rfl, bel.frame _, fun h => by cases h⟩

theorem over : Rows.opsAllRow.holds Try.pinned (OpenSpec.ofChange Rows.opsAllSpec) :=
  OpenClaim.holds_of_wide 3 Try.f3 rfl rfl rfl rfl rfl rfl rfl ⟨rfl, rfl, rfl, rfl, rfl⟩ rfl rfl rfl rfl rfl (by kernel_rfl) Try.func3 (by kernel_rfl)
    (of_decide_eq_true (by kernel_rfl)) (by unfold Func.isWrapper; first | (rw [if_pos (by decide +kernel)]; kernel_rfl) | (rw [if_neg (by decide +kernel)]; exact ⟨rfl, rfl⟩))
    (fun os started H enc _ => lifted os started H enc)

theorem holds : Rows.OpsAllSaid := over
end Go.Proofs.Ytiaoojocpcldmaa.opsAllX
