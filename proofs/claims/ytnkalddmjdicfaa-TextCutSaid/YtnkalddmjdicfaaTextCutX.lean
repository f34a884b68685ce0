/- TextCut: for all arguments the call returns true. The law is brought to a function of Lean's own (W_..) by the machine of the texts beside it, and that is reckoned; no condition. -/
import Derived.Test.YtnkalddmjdicfaaExtYM
import Derived.Test.YtnkalddmjdicfaaExtL
import Derived.Test.YtnkalddmjdicfaaRows
import Derived.WalkKit
import Derived.ProofKit
import Derived.OpenShut
import Derived.ShutString
import Derived.ChangeOld
import Derived.Below
import Derived.Shelf.RegionOpenPlain
import Derived.Lib.Walk
import Derived.Lib.Builder
import Derived.Lib.UnsafeStr
namespace Go.Proofs.Ytnkalddmjdicfaa.textCutX
open Go.Abs Go.RowKit Go.ChangeShapes Go.WideShapes Go.ChangeAt
set_option maxRecDepth 100000
set_option linter.unusedVariables false
set_option linter.unusedSimpArgs false
noncomputable abbrev P0 : Program := Try.prog
noncomputable def bodyOf (fn : Func) : Code := fn.body.getD .skip
def L0 : Lend := fun f => aget [] [] f
def kpL (l : List Bool) : Nat → Bool := fun j => l.getD j true
theorem own : ownKnob Try.prog.godebug = none := by kernel_rfl
theorem laidOut : laidOutB Try.prog = true := by kernel_rfl
theorem mixed : P0.follows .mixedOrders = true := by decide +kernel
theorem progOk_ : progOk P0 = true := by decide +kernel

set_option linter.unusedSimpArgs false
set_option linter.unusedVariables false
theorem bldV1 : Try.prog.underlying 118 = some (.pointer 120) := by kernel_rfl
theorem bldV2 : Try.prog.underlying 139 = some .unsafePointer := by kernel_rfl
theorem bldV3 : Try.prog.underlying 138 = some (.pointer 5) := by kernel_rfl
theorem bldI0 : (match Try.prog.info? 120 with | some j => Nat.beq j.size 2 | none => false) = true := by kernel_rfl
theorem bldI : ∃ j : TypeInfo, Try.prog.info? 120 = some j ∧ j.size = 2 := by
  have h := bldI0
  split at h
  · rename_i j hj; exact ⟨j, hj, Nat.eq_of_beq_eq_true h⟩
  · cases h
theorem bldLies : liesAt Try.prog Try.prog.depth 120 (2 / Try.prog.cellsOf 120) 0 120 1 = true := by kernel_rfl
set_option maxHeartbeats 4000000 in
theorem bldUsed (b : Nat) (w : World) (h0 : w.cell? ⟨b, 0, none⟩ = some (.pointer (some ⟨b, 0, none⟩))) :
    Calls Try.prog 89 #[.pointer (some ⟨b, 0, none⟩)] w fun e w' => e = .returned (.tuple #[]) ∧ w' = w := by
  obtain ⟨j, hj, hjs⟩ := bldI
  have mixed := mixed
  go_enter Try.func89, Try.ntmps89
  go_wp2
  rw [Lib.run_neq_ptr_same _ _ bldV1 hj]
  go_wp2
  go_end0
  exact ⟨rfl, rfl⟩
set_option maxHeartbeats 4000000 in
theorem bldFresh (b : Nat) (w : World) (h0 : w.cell? ⟨b, 0, none⟩ = some (.pointer none)) (hsh : w.shape? b = some (120, 2)) (hfz : w.frozen? ⟨b, 0, none⟩ = false) :
    Calls Try.prog 89 #[.pointer (some ⟨b, 0, none⟩)] w fun e w' => e = .returned (.tuple #[]) ∧ w' = w.setCell ⟨b, 0, none⟩ (.pointer (some ⟨b, 0, none⟩)) := by
  obtain ⟨j, hj, hjs⟩ := bldI
  have mixed := mixed
  go_enter Try.func89, Try.ntmps89
  go_wp2
  rw [Lib.run_to_unsafe w ⟨b, 0, none⟩ bldV1 bldV2 hj (by rw [hjs]; decide) hsh (Nat.zero_lt_succ 1)]
  simp only [Result.andThen]
  rw [Oper.upon_value]
  go_wp2
  rw [run_callFunc_extern Try.func93 (by kernel_rfl) (by kernel_rfl) (by kernel_rfl) (e := Extern.AbiNoEscape.same) (by kernel_rfl)]
  rw [Lib.run_noEscape]
  simp only [Result.andThen]
  rw [Oper.upon_value]
  go_wp2
  rw [Lib.run_from_unsafe w ⟨b, 0, none⟩ bldV2 bldV1 hj hsh bldLies]
  simp only [Result.andThen]
  rw [Oper.upon_value]
  go_wp2
  go_end0
  exact ⟨rfl, rfl⟩
set_option maxHeartbeats 4000000 in
theorem bldStr (b g : Nat) (cap : Nat) (cur : Array Value) (fz : Nat × Nat) (l : List UInt8) (w : World) (c1 : w.cell? ⟨b, 1, none⟩ = some (.slice (some ⟨g, 0, none⟩) l.length cap)) (hg : w.heap[g]? = some (.cells cur 5 fz)) (hl : l.length ≤ cap) (hcs : cur.size = cap) (h0 : l ≠ []) (h63 : l.length ≤ 140737488355328)
    (hcell : ∀ (j : Nat) (x : UInt8), l[j]? = some x → cur[j]? = some (.int .u8 x.toNat)) :
    Calls Try.prog 85 #[.pointer (some ⟨b, 0, none⟩)] w fun e w' => e = .returned (.string ⟨l.toArray⟩) ∧ w' = w.drew.freeze ⟨g, 0, none⟩ l.length := by
  have hl0 : l.length ≠ 0 := by simpa using h0
  have c1 : w.drew.cell? ⟨b, 1, none⟩ = some (.slice (some ⟨g, 0, none⟩) l.length cap) := c1
  have hg : w.drew.heap[g]? = some (.cells cur 5 fz) := hg
  have hSD : (Builtin.unsafeSliceData_ #[29] 138 #[.slice (some ⟨g, 0, none⟩) l.length cap]).run Try.prog w.drew = .ok (.pointer (some ⟨g, 0, none⟩)) w.drew := Lib.run_unsafeSliceData_row _ _ _ _ _ _ (by omega)
  have hUS : (Builtin.unsafeString_ #[138, 3] 9 #[.pointer (some ⟨g, 0, none⟩), .int .i64 l.length]).run Try.prog w.drew = .ok (.string ⟨l.toArray⟩) (w.drew.freeze ⟨g, 0, none⟩ l.length) := by
    refine Lib.run_unsafeString_row w.drew 138 3 9 5 bldV3 (by kernel_rfl) g cur.size (by simp [World.shape?, hg]) l h0 (by omega) (by omega) ?_
    intro j x hx
    have e : (⟨g, 0, none⟩ : Addr).add j = ⟨g, j, none⟩ := by unfold Addr.add; split <;> simp_all
    rw [e]
    simp only [World.cell?, hg]
    simpa using hcell j x hx
  have mixed := mixed
  go_enter Try.func85, Try.ntmps85
  go_wp2
  go_region_o
  all_goals (go_wp2; go_ret; exact ⟨rfl, rfl⟩)
set_option maxHeartbeats 4000000 in
theorem bldNil (b : Nat) (w : World) (c1 : w.cell? ⟨b, 1, none⟩ = some (.slice none 0 0)) :
    Calls Try.prog 85 #[.pointer (some ⟨b, 0, none⟩)] w fun e w' => e = .returned (.string ⟨#[]⟩) ∧ w' = w.drew := by
  have c1 : w.drew.cell? ⟨b, 1, none⟩ = some (.slice none 0 0) := c1
  have hSD : (Builtin.unsafeSliceData_ #[29] 138 #[.slice none 0 0]).run Try.prog w.drew = .ok (.pointer none) w.drew := rfl
  have hUS : ∀ q, (Builtin.unsafeString_ #[138, 3] 9 #[.pointer q, .int .i64 0]).run Try.prog w.drew = .ok (.string .empty) w.drew := fun q => Lib.run_unsafeString_none _ _ _ _ q
  have mixed := mixed
  go_enter Try.func85, Try.ntmps85
  go_wp2
  go_region_o
  all_goals (go_wp2; go_ret; exact ⟨rfl, rfl⟩)

theorem bldF : BldF Try.prog 89 85 120 5 := ⟨bldUsed, bldFresh, fun b g cap cur fz l w h1 h2 h3 h4 h5 h6 h7 => bldStr b g cap cur fz l w h1 h2 h3 h4 h5 h6 h7, bldNil⟩
def bldT : InOrc := bldIn 89 85 120 5
theorem bldT_ok : InOk Try.prog bldT := bldIn_ok bldF fun f hf => by
  rcases hf with rfl | rfl
  · exact ⟨_, Try.func89, by kernel_rfl, by kernel_rfl⟩
  · exact ⟨_, Try.func85, by kernel_rfl, by kernel_rfl⟩

noncomputable def con_law1_begun (N : Nat) : Con := ⟨15, [], [], Unit, fun _ => some (), fun _ => (.bs true, [], [])⟩
theorem con_law1_begun_ok (N : Nat) : Con.ok P0 (con_law1_begun N) := closed_con2 bldT_ok mixed progOk_ (noneΞ_ok2 _) (inl := [82,84,85,89,90,17,67,83,94]) (breath := 100000) (n := 60) (by kernel_rfl)
def as_text_Cut : List AS := [.val .str, .val (.int .i64)]
def bs_text_Cut : List BS := []
def pout_text_Cut : Pat := ⟨[(4, .val .str)], []⟩
noncomputable def G_text_Cut  (N : Nat) : OrcT := orcOf []
noncomputable def F_text_Cut  (N : Nat) (x : (List UInt8) × Int) : Option (List UInt8) :=
  (evT (G_text_Cut  N) L0 P0 [(5, .loop [] ⟨[(5, .val (.int .i64)), (13, .ptr 600013 0)], [(600013, .iter)]⟩ [(.exit 0, ⟨[(5, .val (.int .i64))], []⟩)])]
    [] N 400 (bodyOf Try.f16) ⟨24, slots 0 (argsOf as_text_Cut bs_text_Cut x), tabU (lbOf as_text_Cut bs_text_Cut x) [], []⟩).elim (kRet 24 pout_text_Cut (kpL []) (lbOf as_text_Cut bs_text_Cut x))
def out_text_Cut (y : List UInt8) : V × List OK × List OK := (valW .str y, [], [])
noncomputable def V_text_Cut  (N : Nat) (x : (List UInt8) × Int) : Option (List UInt8) :=
  cnd (decide ((↑(List.length (Prod.fst x)) : Int) ≤ Prod.snd x)) (some (Prod.fst x))
    (obind
      (loopN N
        (fun (v : Int × List UInt8 × Int) =>
          cnd (decide (Int.toNat (Prod.snd (Prod.snd v)) < List.length (Prod.fst (Prod.snd v))))
            (cnd (decide (Prod.snd x < (↑(Int.toNat (Prod.snd (Prod.snd v))) : Int))) (some (Sum.inr (Prod.fst v)))
              (some
                (Sum.inl
                  ((↑(Int.toNat (Prod.snd (Prod.snd v))) : Int), Prod.fst (Prod.snd v),
                    (↑(Int.toNat (Prod.snd (Prod.snd v)) +
                        Prod.snd
                          (Utf8.decode { data := { toList := Prod.fst (Prod.snd v) } }
                            (Int.toNat (Prod.snd (Prod.snd v))))) : Int)))))
            (some (Sum.inr (Prod.fst v))))
        ((0 : Int), Prod.fst x, (↑(0 : Nat) : Int)))
      fun (b : Int) =>
      cnd (decide ((0 : Int) ≤ b) && decide (b ≤ (↑(List.length (Prod.fst x)) : Int)))
        (some (List.drop (0 : Nat) (List.take (Int.toNat b) (Prod.fst x)))) none)
theorem FV_text_Cut_eq  (N : Nat) (x : (List UInt8) × Int) : F_text_Cut  N x = V_text_Cut  N x := by kernel_rfl
noncomputable def W_text_Cut (N : Nat) (x : (List UInt8) × Int) : Option (List UInt8) :=
  cnd (decide ((↑(List.length (Prod.fst x)) : Int) ≤ Prod.snd x)) (some (Prod.fst x))
    (obind
      (loopN N
        (fun (v : Int × List UInt8 × Int) =>
          cnd (decide (Int.toNat (Prod.snd (Prod.snd v)) < List.length (Prod.fst (Prod.snd v))))
            (cnd (decide (Prod.snd x < (↑(Int.toNat (Prod.snd (Prod.snd v))) : Int))) (some (Sum.inr (Prod.fst v)))
              (some
                (Sum.inl
                  ((↑(Int.toNat (Prod.snd (Prod.snd v))) : Int), Prod.fst (Prod.snd v),
                    (↑(Int.toNat (Prod.snd (Prod.snd v)) +
                        Prod.snd
                          (Utf8.decode { data := { toList := Prod.fst (Prod.snd v) } }
                            (Int.toNat (Prod.snd (Prod.snd v))))) : Int)))))
            (some (Sum.inr (Prod.fst v))))
        ((0 : Int), Prod.fst x, (↑(0 : Nat) : Int)))
      fun (b : Int) =>
      cnd (decide ((0 : Int) ≤ b) && decide (b ≤ (↑(List.length (Prod.fst x)) : Int)))
        (some (List.drop (0 : Nat) (List.take (Int.toNat b) (Prod.fst x)))) none)
theorem F_text_Cut_eq (N : Nat) (x : (List UInt8) × Int) : F_text_Cut  N x = W_text_Cut N x := (FV_text_Cut_eq  N x).trans (by kernel_rfl)
noncomputable def conw_text_Cut (w : (List UInt8) × Int → Option (List UInt8)) : Con := ⟨16, as_text_Cut, bs_text_Cut, List UInt8, w, out_text_Cut⟩
noncomputable def con_text_Cut (N : Nat) : Con := conw_text_Cut (W_text_Cut N)
theorem R_text_Cut_eq (x : (List UInt8) × Int) (y : List UInt8) : retOf2 P0 Try.f16 (kpL []) (lbOf as_text_Cut bs_text_Cut x) (patS ⟨24, [], [], []⟩ pout_text_Cut y) = some (out_text_Cut y) := by kernel_rfl
theorem con_text_Cut_ok (N : Nat) : Con.ok P0 (con_text_Cut N) := ⟨⟨Try.f16, Try.func16, by kernel_rfl, by kernel_rfl⟩, fun (x : (List UInt8) × Int) (r : List UInt8) (hr : W_text_Cut N x = some r) =>
  spec2_evT (Γ := G_text_Cut N) (Λ := L0) (pout := pout_text_Cut) (kp := kpL []) mixed (orcOf_ok [] (by simp)) Try.func16 (c := bodyOf Try.f16) (by kernel_rfl) (by kernel_rfl) (of_decide_eq_true (by kernel_rfl)) ((F_text_Cut_eq N x).trans hr) (R_text_Cut_eq x r)⟩
def as_internal_stringslite_HasPrefix : List AS := [.val .str, .val .str]
def bs_internal_stringslite_HasPrefix : List BS := []
def pout_internal_stringslite_HasPrefix : Pat := ⟨[(4, .val .bool)], []⟩
noncomputable def G_internal_stringslite_HasPrefix  (N : Nat) : OrcT := orcOf []
noncomputable def F_internal_stringslite_HasPrefix  (N : Nat) (x : (List UInt8) × List UInt8) : Option (Bool) :=
  (evT (G_internal_stringslite_HasPrefix  N) L0 P0 []
    [] N 400 (bodyOf Try.f91) ⟨18, slots 0 (argsOf as_internal_stringslite_HasPrefix bs_internal_stringslite_HasPrefix x), tabU (lbOf as_internal_stringslite_HasPrefix bs_internal_stringslite_HasPrefix x) [], []⟩).elim (kRet 18 pout_internal_stringslite_HasPrefix (kpL []) (lbOf as_internal_stringslite_HasPrefix bs_internal_stringslite_HasPrefix x))
def out_internal_stringslite_HasPrefix (y : Bool) : V × List OK × List OK := (valW .bool y, [], [])
noncomputable def V_internal_stringslite_HasPrefix  (N : Nat) (x : (List UInt8) × List UInt8) : Option (Bool) :=
  cnd (decide ((↑(List.length (Prod.snd x)) : Int) ≤ (↑(List.length (Prod.fst x)) : Int)))
    (cnd
      (decide ((0 : Int) ≤ (↑(List.length (Prod.snd x)) : Int)) &&
        decide ((↑(List.length (Prod.snd x)) : Int) ≤ (↑(List.length (Prod.fst x)) : Int)))
      (some (List.drop (0 : Nat) (List.take (Int.toNat (↑(List.length (Prod.snd x)) : Int)) (Prod.fst x)) == Prod.snd x)) none)
    (some false)
theorem FV_internal_stringslite_HasPrefix_eq  (N : Nat) (x : (List UInt8) × List UInt8) : F_internal_stringslite_HasPrefix  N x = V_internal_stringslite_HasPrefix  N x := by kernel_rfl
noncomputable def W_internal_stringslite_HasPrefix (N : Nat) (x : (List UInt8) × List UInt8) : Option (Bool) :=
  cnd (decide ((↑(List.length (Prod.snd x)) : Int) ≤ (↑(List.length (Prod.fst x)) : Int)))
    (cnd
      (decide ((0 : Int) ≤ (↑(List.length (Prod.snd x)) : Int)) &&
        decide ((↑(List.length (Prod.snd x)) : Int) ≤ (↑(List.length (Prod.fst x)) : Int)))
      (some (List.drop (0 : Nat) (List.take (Int.toNat (↑(List.length (Prod.snd x)) : Int)) (Prod.fst x)) == Prod.snd x)) none)
    (some false)
theorem F_internal_stringslite_HasPrefix_eq (N : Nat) (x : (List UInt8) × List UInt8) : F_internal_stringslite_HasPrefix  N x = W_internal_stringslite_HasPrefix N x := (FV_internal_stringslite_HasPrefix_eq  N x).trans (by kernel_rfl)
noncomputable def conw_internal_stringslite_HasPrefix (w : (List UInt8) × List UInt8 → Option (Bool)) : Con := ⟨91, as_internal_stringslite_HasPrefix, bs_internal_stringslite_HasPrefix, Bool, w, out_internal_stringslite_HasPrefix⟩
noncomputable def con_internal_stringslite_HasPrefix (N : Nat) : Con := conw_internal_stringslite_HasPrefix (W_internal_stringslite_HasPrefix N)
theorem R_internal_stringslite_HasPrefix_eq (x : (List UInt8) × List UInt8) (y : Bool) : retOf2 P0 Try.f91 (kpL []) (lbOf as_internal_stringslite_HasPrefix bs_internal_stringslite_HasPrefix x) (patS ⟨18, [], [], []⟩ pout_internal_stringslite_HasPrefix y) = some (out_internal_stringslite_HasPrefix y) := by kernel_rfl
theorem con_internal_stringslite_HasPrefix_ok (N : Nat) : Con.ok P0 (con_internal_stringslite_HasPrefix N) := ⟨⟨Try.f91, Try.func91, by kernel_rfl, by kernel_rfl⟩, fun (x : (List UInt8) × List UInt8) (r : Bool) (hr : W_internal_stringslite_HasPrefix N x = some r) =>
  spec2_evT (Γ := G_internal_stringslite_HasPrefix N) (Λ := L0) (pout := pout_internal_stringslite_HasPrefix) (kp := kpL []) mixed (orcOf_ok [] (by simp)) Try.func91 (c := bodyOf Try.f91) (by kernel_rfl) (by kernel_rfl) (of_decide_eq_true (by kernel_rfl)) ((F_internal_stringslite_HasPrefix_eq N x).trans hr) (R_internal_stringslite_HasPrefix_eq x r)⟩
def as_strings_HasPrefix : List AS := [.val .str, .val .str]
def bs_strings_HasPrefix : List BS := []
def pout_strings_HasPrefix : Pat := ⟨[(4, .val .bool)], []⟩
noncomputable def G_strings_HasPrefix (w_internal_stringslite_HasPrefix : (List UInt8) × List UInt8 → Option (Bool)) (N : Nat) : OrcT := orcOf [conw_internal_stringslite_HasPrefix w_internal_stringslite_HasPrefix]
noncomputable def F_strings_HasPrefix (w_internal_stringslite_HasPrefix : (List UInt8) × List UInt8 → Option (Bool)) (N : Nat) (x : (List UInt8) × List UInt8) : Option (Bool) :=
  (evT (G_strings_HasPrefix w_internal_stringslite_HasPrefix N) L0 P0 []
    [] N 400 (bodyOf Try.f86) ⟨8, slots 0 (argsOf as_strings_HasPrefix bs_strings_HasPrefix x), tabU (lbOf as_strings_HasPrefix bs_strings_HasPrefix x) [], []⟩).elim (kRet 8 pout_strings_HasPrefix (kpL []) (lbOf as_strings_HasPrefix bs_strings_HasPrefix x))
def out_strings_HasPrefix (y : Bool) : V × List OK × List OK := (valW .bool y, [], [])
noncomputable def V_strings_HasPrefix (w_internal_stringslite_HasPrefix : (List UInt8) × List UInt8 → Option (Bool)) (N : Nat) (x : (List UInt8) × List UInt8) : Option (Bool) :=
  obind (w_internal_stringslite_HasPrefix (Prod.fst x, Prod.snd x)) fun (b : Bool) => some b
theorem FV_strings_HasPrefix_eq (w_internal_stringslite_HasPrefix : (List UInt8) × List UInt8 → Option (Bool)) (N : Nat) (x : (List UInt8) × List UInt8) : F_strings_HasPrefix w_internal_stringslite_HasPrefix N x = V_strings_HasPrefix w_internal_stringslite_HasPrefix N x := by kernel_rfl
noncomputable def W_strings_HasPrefix (N : Nat) (x : (List UInt8) × List UInt8) : Option (Bool) :=
  obind (W_internal_stringslite_HasPrefix N (Prod.fst x, Prod.snd x)) fun (b : Bool) => some b
theorem F_strings_HasPrefix_eq (N : Nat) (x : (List UInt8) × List UInt8) : F_strings_HasPrefix (W_internal_stringslite_HasPrefix N) N x = W_strings_HasPrefix N x := (FV_strings_HasPrefix_eq (W_internal_stringslite_HasPrefix N) N x).trans (by kernel_rfl)
noncomputable def conw_strings_HasPrefix (w : (List UInt8) × List UInt8 → Option (Bool)) : Con := ⟨86, as_strings_HasPrefix, bs_strings_HasPrefix, Bool, w, out_strings_HasPrefix⟩
noncomputable def con_strings_HasPrefix (N : Nat) : Con := conw_strings_HasPrefix (W_strings_HasPrefix N)
theorem R_strings_HasPrefix_eq (x : (List UInt8) × List UInt8) (y : Bool) : retOf2 P0 Try.f86 (kpL []) (lbOf as_strings_HasPrefix bs_strings_HasPrefix x) (patS ⟨8, [], [], []⟩ pout_strings_HasPrefix y) = some (out_strings_HasPrefix y) := by kernel_rfl
theorem con_strings_HasPrefix_ok (N : Nat) : Con.ok P0 (con_strings_HasPrefix N) := ⟨⟨Try.f86, Try.func86, by kernel_rfl, by kernel_rfl⟩, fun (x : (List UInt8) × List UInt8) (r : Bool) (hr : W_strings_HasPrefix N x = some r) =>
  spec2_evT (Γ := G_strings_HasPrefix (W_internal_stringslite_HasPrefix N) N) (Λ := L0) (pout := pout_strings_HasPrefix) (kp := kpL []) mixed (orcOf_ok _ (by simp only [List.mem_cons, List.not_mem_nil, or_false, forall_eq_or_imp, forall_eq]; exact con_internal_stringslite_HasPrefix_ok N)) Try.func86 (c := bodyOf Try.f86) (by kernel_rfl) (by kernel_rfl) (of_decide_eq_true (by kernel_rfl)) ((F_strings_HasPrefix_eq N x).trans hr) (R_strings_HasPrefix_eq x r)⟩
def as_text_letter : List AS := [.val .str, .val (.int .i32)]
def bs_text_letter : List BS := []
def pout_text_letter : Pat := ⟨[(4, .val (.int .i64))], []⟩
noncomputable def G_text_letter (w_strings_HasPrefix : (List UInt8) × List UInt8 → Option (Bool)) (N : Nat) : OrcT := orcOf [conw_strings_HasPrefix w_strings_HasPrefix]
noncomputable def F_text_letter (w_strings_HasPrefix : (List UInt8) × List UInt8 → Option (Bool)) (N : Nat) (x : (List UInt8) × Int) : Option (Int) :=
  (evT (G_text_letter w_strings_HasPrefix N) L0 P0 []
    [] N 400 (bodyOf Try.f67) ⟨14, slots 0 (argsOf as_text_letter bs_text_letter x), tabU (lbOf as_text_letter bs_text_letter x) [], []⟩).elim (kRet 14 pout_text_letter (kpL []) (lbOf as_text_letter bs_text_letter x))
def out_text_letter (y : Int) : V × List OK × List OK := (valW (.int .i64) y, [], [])
noncomputable def V_text_letter (w_strings_HasPrefix : (List UInt8) × List UInt8 → Option (Bool)) (N : Nat) (x : (List UInt8) × Int) : Option (Int) :=
  cnd (decide (Prod.snd x = (65533 : Int)))
    (obind (w_strings_HasPrefix (Prod.fst x, [(239 : UInt8), (191 : UInt8), (189 : UInt8)])) fun (b : Bool) =>
      cnd (!b) (some (-1 : Int)) (some (wr IntKind.i64 (Prod.snd x))))
    (some (wr IntKind.i64 (Prod.snd x)))
theorem FV_text_letter_eq (w_strings_HasPrefix : (List UInt8) × List UInt8 → Option (Bool)) (N : Nat) (x : (List UInt8) × Int) : F_text_letter w_strings_HasPrefix N x = V_text_letter w_strings_HasPrefix N x := by kernel_rfl
noncomputable def W_text_letter (N : Nat) (x : (List UInt8) × Int) : Option (Int) :=
  cnd (decide (Prod.snd x = (65533 : Int)))
    (obind (W_strings_HasPrefix N (Prod.fst x, [(239 : UInt8), (191 : UInt8), (189 : UInt8)])) fun (b : Bool) =>
      cnd (!b) (some (-1 : Int)) (some (wr IntKind.i64 (Prod.snd x))))
    (some (wr IntKind.i64 (Prod.snd x)))
theorem F_text_letter_eq (N : Nat) (x : (List UInt8) × Int) : F_text_letter (W_strings_HasPrefix N) N x = W_text_letter N x := (FV_text_letter_eq (W_strings_HasPrefix N) N x).trans (by kernel_rfl)
noncomputable def conw_text_letter (w : (List UInt8) × Int → Option (Int)) : Con := ⟨67, as_text_letter, bs_text_letter, Int, w, out_text_letter⟩
noncomputable def con_text_letter (N : Nat) : Con := conw_text_letter (W_text_letter N)
theorem R_text_letter_eq (x : (List UInt8) × Int) (y : Int) : retOf2 P0 Try.f67 (kpL []) (lbOf as_text_letter bs_text_letter x) (patS ⟨14, [], [], []⟩ pout_text_letter y) = some (out_text_letter y) := by kernel_rfl
theorem con_text_letter_ok (N : Nat) : Con.ok P0 (con_text_letter N) := ⟨⟨Try.f67, Try.func67, by kernel_rfl, by kernel_rfl⟩, fun (x : (List UInt8) × Int) (r : Int) (hr : W_text_letter N x = some r) =>
  spec2_evT (Γ := G_text_letter (W_strings_HasPrefix N) N) (Λ := L0) (pout := pout_text_letter) (kp := kpL []) mixed (orcOf_ok _ (by simp only [List.mem_cons, List.not_mem_nil, or_false, forall_eq_or_imp, forall_eq]; exact con_strings_HasPrefix_ok N)) Try.func67 (c := bodyOf Try.f67) (by kernel_rfl) (by kernel_rfl) (of_decide_eq_true (by kernel_rfl)) ((F_text_letter_eq N x).trans hr) (R_text_letter_eq x r)⟩
def as_text_Letters : List AS := [.val .str]
def bs_text_Letters : List BS := []
def pout_text_Letters : Pat := ⟨[(2, .val (.list (.int .i64)))], []⟩
noncomputable def G_text_Letters (w_text_letter : (List UInt8) × Int → Option (Int)) (N : Nat) : OrcT := orcOf [conw_text_letter w_text_letter]
noncomputable def F_text_Letters (w_text_letter : (List UInt8) × Int → Option (Int)) (N : Nat) (x : List UInt8) : Option (List Int) :=
  (evT (G_text_Letters w_text_letter N) L0 P0 [(3, .loop [] ⟨[(3, .acc 700003), (7, .ptr 600007 0)], [(700003, .nrow 3 (.int .i64) true true), (600007, .iter)]⟩ [(.exit 0, ⟨[(3, .val (.list (.int .i64)))], []⟩)])]
    [] N 400 (bodyOf Try.f17) ⟨21, slots 0 (argsOf as_text_Letters bs_text_Letters x), tabU (lbOf as_text_Letters bs_text_Letters x) [], []⟩).elim (kRet 21 pout_text_Letters (kpL []) (lbOf as_text_Letters bs_text_Letters x))
def out_text_Letters (y : List Int) : V × List OK × List OK := (valW (.list (.int .i64)) y, [], [])
noncomputable def V_text_Letters (w_text_letter : (List UInt8) × Int → Option (Int)) (N : Nat) (x : List UInt8) : Option (List Int) :=
  obind
    (loopN N
      (fun (v : List Int × List UInt8 × Int) =>
        cnd (decide (Int.toNat (Prod.snd (Prod.snd v)) < List.length (Prod.fst (Prod.snd v))))
          (cnd
            (decide ((0 : Int) ≤ (↑(Int.toNat (Prod.snd (Prod.snd v))) : Int)) &&
              decide ((↑(Int.toNat (Prod.snd (Prod.snd v))) : Int) ≤ (↑(List.length x) : Int)))
            (obind
              (w_text_letter
                (List.drop (Int.toNat (↑(Int.toNat (Prod.snd (Prod.snd v))) : Int)) (List.take (List.length x) x),
                  (↑(Prod.fst
                      (Utf8.decode { data := { toList := Prod.fst (Prod.snd v) } } (Int.toNat (Prod.snd (Prod.snd v))))) : Int)))
              fun (b : Int) =>
              cnd (decide ((List.length (Prod.fst v) + List.length [b]) * (8 : Nat) ≤ (140737488355328 : Nat)))
                (some
                  (Sum.inl
                    (Prod.fst v ++ [b], Prod.fst (Prod.snd v),
                      (↑(Int.toNat (Prod.snd (Prod.snd v)) +
                          Prod.snd
                            (Utf8.decode { data := { toList := Prod.fst (Prod.snd v) } }
                              (Int.toNat (Prod.snd (Prod.snd v))))) : Int))))
                none)
            none)
          (some (Sum.inr (Prod.fst v))))
      ([], x, (↑(0 : Nat) : Int)))
    fun (b : List Int) => some b
theorem FV_text_Letters_eq (w_text_letter : (List UInt8) × Int → Option (Int)) (N : Nat) (x : List UInt8) : F_text_Letters w_text_letter N x = V_text_Letters w_text_letter N x := by kernel_rfl
noncomputable def W_text_Letters (N : Nat) (x : List UInt8) : Option (List Int) :=
  obind
    (loopN N
      (fun (v : List Int × List UInt8 × Int) =>
        cnd (decide (Int.toNat (Prod.snd (Prod.snd v)) < List.length (Prod.fst (Prod.snd v))))
          (cnd
            (decide ((0 : Int) ≤ (↑(Int.toNat (Prod.snd (Prod.snd v))) : Int)) &&
              decide ((↑(Int.toNat (Prod.snd (Prod.snd v))) : Int) ≤ (↑(List.length x) : Int)))
            (obind
              (W_text_letter N
                (List.drop (Int.toNat (↑(Int.toNat (Prod.snd (Prod.snd v))) : Int)) (List.take (List.length x) x),
                  (↑(Prod.fst
                      (Utf8.decode { data := { toList := Prod.fst (Prod.snd v) } } (Int.toNat (Prod.snd (Prod.snd v))))) : Int)))
              fun (b : Int) =>
              cnd (decide ((List.length (Prod.fst v) + List.length [b]) * (8 : Nat) ≤ (140737488355328 : Nat)))
                (some
                  (Sum.inl
                    (Prod.fst v ++ [b], Prod.fst (Prod.snd v),
                      (↑(Int.toNat (Prod.snd (Prod.snd v)) +
                          Prod.snd
                            (Utf8.decode { data := { toList := Prod.fst (Prod.snd v) } }
                              (Int.toNat (Prod.snd (Prod.snd v))))) : Int))))
                none)
            none)
          (some (Sum.inr (Prod.fst v))))
      ([], x, (↑(0 : Nat) : Int)))
    fun (b : List Int) => some b
theorem F_text_Letters_eq (N : Nat) (x : List UInt8) : F_text_Letters (W_text_letter N) N x = W_text_Letters N x := (FV_text_Letters_eq (W_text_letter N) N x).trans (by kernel_rfl)
noncomputable def conw_text_Letters (w : List UInt8 → Option (List Int)) : Con := ⟨17, as_text_Letters, bs_text_Letters, List Int, w, out_text_Letters⟩
noncomputable def con_text_Letters (N : Nat) : Con := conw_text_Letters (W_text_Letters N)
theorem R_text_Letters_eq (x : List UInt8) (y : List Int) : retOf2 P0 Try.f17 (kpL []) (lbOf as_text_Letters bs_text_Letters x) (patS ⟨21, [], [], []⟩ pout_text_Letters y) = some (out_text_Letters y) := by kernel_rfl
theorem con_text_Letters_ok (N : Nat) : Con.ok P0 (con_text_Letters N) := ⟨⟨Try.f17, Try.func17, by kernel_rfl, by kernel_rfl⟩, fun (x : List UInt8) (r : List Int) (hr : W_text_Letters N x = some r) =>
  spec2_evT (Γ := G_text_Letters (W_text_letter N) N) (Λ := L0) (pout := pout_text_Letters) (kp := kpL []) mixed (orcOf_ok _ (by simp only [List.mem_cons, List.not_mem_nil, or_false, forall_eq_or_imp, forall_eq]; exact con_text_letter_ok N)) Try.func17 (c := bodyOf Try.f17) (by kernel_rfl) (by kernel_rfl) (of_decide_eq_true (by kernel_rfl)) ((F_text_Letters_eq N x).trans hr) (R_text_Letters_eq x r)⟩
def as_ref1_SameInts : List AS := [.val (.list (.int .i64)), .val (.list (.int .i64))]
def bs_ref1_SameInts : List BS := []
def pout_ref1_SameInts : Pat := ⟨[(4, .val .bool)], []⟩
noncomputable def G_ref1_SameInts  (N : Nat) : OrcT := orcOf []
noncomputable def F_ref1_SameInts  (N : Nat) (x : (List Int) × List Int) : Option (Bool) :=
  (evT (G_ref1_SameInts  N) L0 P0 [(4, .loop [] ⟨[(5, .val (.int .i64))], []⟩ [(.exit 0, ⟨[], []⟩), (.ret, ⟨[(4, .val .bool)], []⟩)])]
    [] N 400 (bodyOf Try.f18) ⟨26, slots 0 (argsOf as_ref1_SameInts bs_ref1_SameInts x), tabU (lbOf as_ref1_SameInts bs_ref1_SameInts x) [], []⟩).elim (kRet 26 pout_ref1_SameInts (kpL []) (lbOf as_ref1_SameInts bs_ref1_SameInts x))
def out_ref1_SameInts (y : Bool) : V × List OK × List OK := (valW .bool y, [], [])
noncomputable def V_ref1_SameInts  (N : Nat) (x : (List Int) × List Int) : Option (Bool) :=
  cnd (decide ((↑(List.length (Prod.fst x)) : Int) ≠ (↑(List.length (Prod.snd x)) : Int))) (some false)
    (obind
      (loopN N
        (fun (v : Int) =>
          cnd (decide (v < (↑(List.length (Prod.fst x)) : Int)))
            (cnd (decide ((0 : Int) ≤ v) && decide (v < (↑(List.length (Prod.fst x)) : Int)))
              (cnd (decide ((0 : Int) ≤ v) && decide (v < (↑(List.length (Prod.snd x)) : Int)))
                (cnd
                  (decide
                    (List.getD (Prod.fst x) (Int.toNat v) (0 : Int) ≠ List.getD (Prod.snd x) (Int.toNat v) (0 : Int)))
                  (some (Sum.inr (Sum.inr false))) (some (Sum.inl (wr IntKind.i64 (v + (1 : Int))))))
                none)
              none)
            (some (Sum.inr (Sum.inl ()))))
        (Int.ofNat (0 : Nat)))
      fun (b : PUnit ⊕ Bool) => selim (fun (b : PUnit) => some true) (fun (c : Bool) => some c) b)
theorem FV_ref1_SameInts_eq  (N : Nat) (x : (List Int) × List Int) : F_ref1_SameInts  N x = V_ref1_SameInts  N x := by kernel_rfl
noncomputable def W_ref1_SameInts (N : Nat) (x : (List Int) × List Int) : Option (Bool) :=
  cnd (decide ((↑(List.length (Prod.fst x)) : Int) ≠ (↑(List.length (Prod.snd x)) : Int))) (some false)
    (obind
      (loopN N
        (fun (v : Int) =>
          cnd (decide (v < (↑(List.length (Prod.fst x)) : Int)))
            (cnd (decide ((0 : Int) ≤ v) && decide (v < (↑(List.length (Prod.fst x)) : Int)))
              (cnd (decide ((0 : Int) ≤ v) && decide (v < (↑(List.length (Prod.snd x)) : Int)))
                (cnd
                  (decide
                    (List.getD (Prod.fst x) (Int.toNat v) (0 : Int) ≠ List.getD (Prod.snd x) (Int.toNat v) (0 : Int)))
                  (some (Sum.inr (Sum.inr false))) (some (Sum.inl (wr IntKind.i64 (v + (1 : Int))))))
                none)
              none)
            (some (Sum.inr (Sum.inl ()))))
        (Int.ofNat (0 : Nat)))
      fun (b : PUnit ⊕ Bool) => selim (fun (b : PUnit) => some true) (fun (c : Bool) => some c) b)
theorem F_ref1_SameInts_eq (N : Nat) (x : (List Int) × List Int) : F_ref1_SameInts  N x = W_ref1_SameInts N x := (FV_ref1_SameInts_eq  N x).trans (by kernel_rfl)
noncomputable def conw_ref1_SameInts (w : (List Int) × List Int → Option (Bool)) : Con := ⟨18, as_ref1_SameInts, bs_ref1_SameInts, Bool, w, out_ref1_SameInts⟩
noncomputable def con_ref1_SameInts (N : Nat) : Con := conw_ref1_SameInts (W_ref1_SameInts N)
theorem R_ref1_SameInts_eq (x : (List Int) × List Int) (y : Bool) : retOf2 P0 Try.f18 (kpL []) (lbOf as_ref1_SameInts bs_ref1_SameInts x) (patS ⟨26, [], [], []⟩ pout_ref1_SameInts y) = some (out_ref1_SameInts y) := by kernel_rfl
theorem con_ref1_SameInts_ok (N : Nat) : Con.ok P0 (con_ref1_SameInts N) := ⟨⟨Try.f18, Try.func18, by kernel_rfl, by kernel_rfl⟩, fun (x : (List Int) × List Int) (r : Bool) (hr : W_ref1_SameInts N x = some r) =>
  spec2_evT (Γ := G_ref1_SameInts N) (Λ := L0) (pout := pout_ref1_SameInts) (kp := kpL []) mixed (orcOf_ok [] (by simp)) Try.func18 (c := bodyOf Try.f18) (by kernel_rfl) (by kernel_rfl) (of_decide_eq_true (by kernel_rfl)) ((F_ref1_SameInts_eq N x).trans hr) (R_ref1_SameInts_eq x r)⟩
def as_text_Count : List AS := [.val .str]
def bs_text_Count : List BS := []
def pout_text_Count : Pat := ⟨[(2, .val (.int .i64))], []⟩
noncomputable def G_text_Count  (N : Nat) : OrcT := orcOf []
noncomputable def F_text_Count  (N : Nat) (x : List UInt8) : Option (Int) :=
  (evT (G_text_Count  N) L0 P0 [(3, .loop [] ⟨[(3, .val (.int .i64)), (5, .ptr 600005 0)], [(600005, .iter)]⟩ [(.exit 0, ⟨[(3, .val (.int .i64))], []⟩)])]
    [] N 400 (bodyOf Try.f19) ⟨11, slots 0 (argsOf as_text_Count bs_text_Count x), tabU (lbOf as_text_Count bs_text_Count x) [], []⟩).elim (kRet 11 pout_text_Count (kpL []) (lbOf as_text_Count bs_text_Count x))
def out_text_Count (y : Int) : V × List OK × List OK := (valW (.int .i64) y, [], [])
noncomputable def V_text_Count  (N : Nat) (x : List UInt8) : Option (Int) :=
  obind
    (loopN N
      (fun (v : Int × List UInt8 × Int) =>
        cnd (decide (Int.toNat (Prod.snd (Prod.snd v)) < List.length (Prod.fst (Prod.snd v))))
          (some
            (Sum.inl
              (wr IntKind.i64 (Prod.fst v + (1 : Int)), Prod.fst (Prod.snd v),
                (↑(Int.toNat (Prod.snd (Prod.snd v)) +
                    Prod.snd
                      (Utf8.decode { data := { toList := Prod.fst (Prod.snd v) } }
                        (Int.toNat (Prod.snd (Prod.snd v))))) : Int))))
          (some (Sum.inr (Prod.fst v))))
      ((0 : Int), x, (↑(0 : Nat) : Int)))
    fun (b : Int) => some b
theorem FV_text_Count_eq  (N : Nat) (x : List UInt8) : F_text_Count  N x = V_text_Count  N x := by kernel_rfl
noncomputable def W_text_Count (N : Nat) (x : List UInt8) : Option (Int) :=
  obind
    (loopN N
      (fun (v : Int × List UInt8 × Int) =>
        cnd (decide (Int.toNat (Prod.snd (Prod.snd v)) < List.length (Prod.fst (Prod.snd v))))
          (some
            (Sum.inl
              (wr IntKind.i64 (Prod.fst v + (1 : Int)), Prod.fst (Prod.snd v),
                (↑(Int.toNat (Prod.snd (Prod.snd v)) +
                    Prod.snd
                      (Utf8.decode { data := { toList := Prod.fst (Prod.snd v) } }
                        (Int.toNat (Prod.snd (Prod.snd v))))) : Int))))
          (some (Sum.inr (Prod.fst v))))
      ((0 : Int), x, (↑(0 : Nat) : Int)))
    fun (b : Int) => some b
theorem F_text_Count_eq (N : Nat) (x : List UInt8) : F_text_Count  N x = W_text_Count N x := (FV_text_Count_eq  N x).trans (by kernel_rfl)
noncomputable def conw_text_Count (w : List UInt8 → Option (Int)) : Con := ⟨19, as_text_Count, bs_text_Count, Int, w, out_text_Count⟩
noncomputable def con_text_Count (N : Nat) : Con := conw_text_Count (W_text_Count N)
theorem R_text_Count_eq (x : List UInt8) (y : Int) : retOf2 P0 Try.f19 (kpL []) (lbOf as_text_Count bs_text_Count x) (patS ⟨11, [], [], []⟩ pout_text_Count y) = some (out_text_Count y) := by kernel_rfl
theorem con_text_Count_ok (N : Nat) : Con.ok P0 (con_text_Count N) := ⟨⟨Try.f19, Try.func19, by kernel_rfl, by kernel_rfl⟩, fun (x : List UInt8) (r : Int) (hr : W_text_Count N x = some r) =>
  spec2_evT (Γ := G_text_Count N) (Λ := L0) (pout := pout_text_Count) (kp := kpL []) mixed (orcOf_ok [] (by simp)) Try.func19 (c := bodyOf Try.f19) (by kernel_rfl) (by kernel_rfl) (of_decide_eq_true (by kernel_rfl)) ((F_text_Count_eq N x).trans hr) (R_text_Count_eq x r)⟩
def as_law1_TextCut : List AS := [.val .str, .val (.int .u8)]
def bs_law1_TextCut : List BS := []
def pout_law1_TextCut : Pat := ⟨[(4, .val .bool)], []⟩
noncomputable def G_law1_TextCut (w_text_Cut : (List UInt8) × Int → Option (List UInt8)) (w_text_Letters : List UInt8 → Option (List Int)) (w_ref1_SameInts : (List Int) × List Int → Option (Bool)) (w_text_Count : List UInt8 → Option (Int)) (N : Nat) : OrcT := orcOf [con_law1_begun N, conw_text_Cut w_text_Cut, conw_text_Letters w_text_Letters, conw_ref1_SameInts w_ref1_SameInts, conw_text_Count w_text_Count]
noncomputable def F_law1_TextCut (w_text_Cut : (List UInt8) × Int → Option (List UInt8)) (w_text_Letters : List UInt8 → Option (List Int)) (w_ref1_SameInts : (List Int) × List Int → Option (Bool)) (w_text_Count : List UInt8 → Option (Int)) (N : Nat) (x : (List UInt8) × Int) : Option (Bool) :=
  (evT (G_law1_TextCut w_text_Cut w_text_Letters w_ref1_SameInts w_text_Count N) L0 P0 []
    [(1000007, .reg [(11, [], ⟨[(31, .val .bool)], []⟩)]),
    (1000015, .reg [(18, [8], ⟨[(90, .val .bool)], []⟩)])] N 400 (bodyOf Try.f3) ⟨101, slots 0 (argsOf as_law1_TextCut bs_law1_TextCut x), tabU (lbOf as_law1_TextCut bs_law1_TextCut x) [], []⟩).elim (kRet 101 pout_law1_TextCut (kpL []) (lbOf as_law1_TextCut bs_law1_TextCut x))
def out_law1_TextCut (y : Bool) : V × List OK × List OK := (valW .bool y, [], [])
noncomputable def V_law1_TextCut (w_text_Cut : (List UInt8) × Int → Option (List UInt8)) (w_text_Letters : List UInt8 → Option (List Int)) (w_ref1_SameInts : (List Int) × List Int → Option (Bool)) (w_text_Count : List UInt8 → Option (Int)) (N : Nat) (x : (List UInt8) × Int) : Option (Bool) :=
  cnd (decide ((60 : Int) < (↑(List.length (Prod.fst x)) : Int))) (some true)
    (obind (w_text_Cut (Prod.fst x, wr IntKind.i64 (Int.tmod (Prod.snd x) (70 : Int)))) fun (b : List UInt8) =>
      obind
        (cnd (decide (wr IntKind.i64 (Int.tmod (Prod.snd x) (70 : Int)) < (↑(List.length b) : Int))) (some true)
          (some (decide ((↑(List.length (Prod.fst x)) : Int) < (↑(List.length b) : Int)))))
        fun (b_1 : Bool) =>
        cnd b_1 (some false)
          (cnd (decide ((0 : Int) ≤ (↑(List.length b) : Int)) && decide ((↑(List.length b) : Int) ≤ (↑(List.length (Prod.fst x)) : Int)))
            (cnd (!List.drop (0 : Nat) (List.take (Int.toNat (↑(List.length b) : Int)) (Prod.fst x)) == b) (some false)
              (obind (w_text_Letters (Prod.fst x)) fun (b_2 : List Int) =>
                obind (w_text_Letters b) fun (b_3 : List Int) =>
                  cnd (decide ((↑(List.length b_2) : Int) < (↑(List.length b_3) : Int))) (some false)
                    (cnd (decide ((0 : Int) ≤ (↑(List.length b_3) : Int)) && decide ((↑(List.length b_3) : Int) ≤ (↑(List.length b_2) : Int)))
                      (obind (w_ref1_SameInts (List.drop (0 : Nat) (List.take (Int.toNat (↑(List.length b_3) : Int)) b_2), b_3))
                        fun (b_4 : Bool) =>
                        cnd (!b_4) (some false)
                          (cnd (decide ((↑(List.length b) : Int) = (↑(List.length (Prod.fst x)) : Int)))
                            (some (decide ((↑(List.length b_2) : Int) = (↑(List.length b_3) : Int))))
                            (cnd
                              (decide ((0 : Int) ≤ (↑(List.length b) : Int)) &&
                                decide ((↑(List.length b) : Int) ≤ (↑(List.length (Prod.fst x)) : Int)))
                              (obind
                                (w_text_Letters
                                  (List.drop (Int.toNat (↑(List.length b) : Int))
                                    (List.take (List.length (Prod.fst x)) (Prod.fst x))))
                                fun (b : List Int) =>
                                obind
                                  (cnd
                                    (decide ((↑(List.length b_2) : Int) = wr IntKind.i64 ((↑(List.length b_3) : Int) + (↑(List.length b) : Int))))
                                    (obind
                                      (w_text_Cut
                                        (Prod.fst x,
                                          wr IntKind.i64 (wr IntKind.i64 (Int.tmod (Prod.snd x) (70 : Int)) + (1 : Int))))
                                      fun (b : List UInt8) =>
                                      some
                                        (decide
                                          ((↑(List.length b) : Int) ≤
                                            wr IntKind.i64
                                              (wr IntKind.i64 (Int.tmod (Prod.snd x) (70 : Int)) + (1 : Int)))))
                                    (some false))
                                  fun (b : Bool) =>
                                  cnd b
                                    (obind
                                      (w_text_Cut
                                        (Prod.fst x,
                                          wr IntKind.i64 (wr IntKind.i64 (Int.tmod (Prod.snd x) (70 : Int)) + (4 : Int))))
                                      fun (b : List UInt8) =>
                                      obind (w_text_Count b) fun (b : Int) => some (decide ((↑(List.length b_3) : Int) < b)))
                                    (some false))
                              none)))
                      none)))
            none))
theorem FV_law1_TextCut_eq (w_text_Cut : (List UInt8) × Int → Option (List UInt8)) (w_text_Letters : List UInt8 → Option (List Int)) (w_ref1_SameInts : (List Int) × List Int → Option (Bool)) (w_text_Count : List UInt8 → Option (Int)) (N : Nat) (x : (List UInt8) × Int) : F_law1_TextCut w_text_Cut w_text_Letters w_ref1_SameInts w_text_Count N x = V_law1_TextCut w_text_Cut w_text_Letters w_ref1_SameInts w_text_Count N x := by kernel_rfl
noncomputable def W_law1_TextCut (N : Nat) (x : (List UInt8) × Int) : Option (Bool) :=
  cnd (decide ((60 : Int) < (↑(List.length (Prod.fst x)) : Int))) (some true)
    (obind (W_text_Cut N (Prod.fst x, wr IntKind.i64 (Int.tmod (Prod.snd x) (70 : Int)))) fun (b : List UInt8) =>
      obind
        (cnd (decide (wr IntKind.i64 (Int.tmod (Prod.snd x) (70 : Int)) < (↑(List.length b) : Int))) (some true)
          (some (decide ((↑(List.length (Prod.fst x)) : Int) < (↑(List.length b) : Int)))))
        fun (b_1 : Bool) =>
        cnd b_1 (some false)
          (cnd (decide ((0 : Int) ≤ (↑(List.length b) : Int)) && decide ((↑(List.length b) : Int) ≤ (↑(List.length (Prod.fst x)) : Int)))
            (cnd (!List.drop (0 : Nat) (List.take (Int.toNat (↑(List.length b) : Int)) (Prod.fst x)) == b) (some false)
              (obind (W_text_Letters N (Prod.fst x)) fun (b_2 : List Int) =>
                obind (W_text_Letters N b) fun (b_3 : List Int) =>
                  cnd (decide ((↑(List.length b_2) : Int) < (↑(List.length b_3) : Int))) (some false)
                    (cnd (decide ((0 : Int) ≤ (↑(List.length b_3) : Int)) && decide ((↑(List.length b_3) : Int) ≤ (↑(List.length b_2) : Int)))
                      (obind (W_ref1_SameInts N (List.drop (0 : Nat) (List.take (Int.toNat (↑(List.length b_3) : Int)) b_2), b_3))
                        fun (b_4 : Bool) =>
                        cnd (!b_4) (some false)
                          (cnd (decide ((↑(List.length b) : Int) = (↑(List.length (Prod.fst x)) : Int)))
                            (some (decide ((↑(List.length b_2) : Int) = (↑(List.length b_3) : Int))))
                            (cnd
                              (decide ((0 : Int) ≤ (↑(List.length b) : Int)) &&
                                decide ((↑(List.length b) : Int) ≤ (↑(List.length (Prod.fst x)) : Int)))
                              (obind
                                (W_text_Letters N
                                  (List.drop (Int.toNat (↑(List.length b) : Int))
                                    (List.take (List.length (Prod.fst x)) (Prod.fst x))))
                                fun (b : List Int) =>
                                obind
                                  (cnd
                                    (decide ((↑(List.length b_2) : Int) = wr IntKind.i64 ((↑(List.length b_3) : Int) + (↑(List.length b) : Int))))
                                    (obind
                                      (W_text_Cut N
                                        (Prod.fst x,
                                          wr IntKind.i64 (wr IntKind.i64 (Int.tmod (Prod.snd x) (70 : Int)) + (1 : Int))))
                                      fun (b : List UInt8) =>
                                      some
                                        (decide
                                          ((↑(List.length b) : Int) ≤
                                            wr IntKind.i64
                                              (wr IntKind.i64 (Int.tmod (Prod.snd x) (70 : Int)) + (1 : Int)))))
                                    (some false))
                                  fun (b : Bool) =>
                                  cnd b
                                    (obind
                                      (W_text_Cut N
                                        (Prod.fst x,
                                          wr IntKind.i64 (wr IntKind.i64 (Int.tmod (Prod.snd x) (70 : Int)) + (4 : Int))))
                                      fun (b : List UInt8) =>
                                      obind (W_text_Count N b) fun (b : Int) => some (decide ((↑(List.length b_3) : Int) < b)))
                                    (some false))
                              none)))
                      none)))
            none))
theorem F_law1_TextCut_eq (N : Nat) (x : (List UInt8) × Int) : F_law1_TextCut (W_text_Cut N) (W_text_Letters N) (W_ref1_SameInts N) (W_text_Count N) N x = W_law1_TextCut N x := (FV_law1_TextCut_eq (W_text_Cut N) (W_text_Letters N) (W_ref1_SameInts N) (W_text_Count N) N x).trans (by kernel_rfl)
noncomputable def conw_law1_TextCut (w : (List UInt8) × Int → Option (Bool)) : Con := ⟨3, as_law1_TextCut, bs_law1_TextCut, Bool, w, out_law1_TextCut⟩
noncomputable def con_law1_TextCut (N : Nat) : Con := conw_law1_TextCut (W_law1_TextCut N)
theorem R_law1_TextCut_eq (x : (List UInt8) × Int) (y : Bool) : retOf2 P0 Try.f3 (kpL []) (lbOf as_law1_TextCut bs_law1_TextCut x) (patS ⟨101, [], [], []⟩ pout_law1_TextCut y) = some (out_law1_TextCut y) := by kernel_rfl
theorem con_law1_TextCut_ok (N : Nat) : Con.ok P0 (con_law1_TextCut N) := ⟨⟨Try.f3, Try.func3, by kernel_rfl, by kernel_rfl⟩, fun (x : (List UInt8) × Int) (r : Bool) (hr : W_law1_TextCut N x = some r) =>
  spec2_evT (Γ := G_law1_TextCut (W_text_Cut N) (W_text_Letters N) (W_ref1_SameInts N) (W_text_Count N) N) (Λ := L0) (pout := pout_law1_TextCut) (kp := kpL []) mixed (orcOf_ok _ (by simp only [List.mem_cons, List.not_mem_nil, or_false, forall_eq_or_imp, forall_eq]; exact ⟨con_law1_begun_ok N, con_text_Cut_ok N, con_text_Letters_ok N, con_ref1_SameInts_ok N, con_text_Count_ok N⟩)) Try.func3 (c := bodyOf Try.f3) (by kernel_rfl) (by kernel_rfl) (of_decide_eq_true (by kernel_rfl)) ((F_law1_TextCut_eq N x).trans hr) (R_law1_TextCut_eq x r)⟩
/-! What is reckoned. -/
def atL (l : List UInt8) (k : Nat) : Nat := (l.getD k 0).toNat
def ctL (l : List UInt8) (k : Nat) : Bool := decide (k < l.length) && atL l k / 64 == 2
def dkN (b0 a1 a2 a3 : Nat) (c1 c2 c3 : Bool) : Nat × Nat :=
  if b0 < 0x80 then (b0, 1)
  else if b0 / 32 == 6 && c1 then
    if (b0 % 32) * 64 + a1 % 64 ≥ 0x80 then ((b0 % 32) * 64 + a1 % 64, 2) else (65533, 1)
  else if b0 / 16 == 14 && c1 && c2 then
    if (b0 % 16) * 4096 + (a1 % 64) * 64 + a2 % 64 ≥ 0x800 && Utf8.valid ((b0 % 16) * 4096 + (a1 % 64) * 64 + a2 % 64 : Nat) then ((b0 % 16) * 4096 + (a1 % 64) * 64 + a2 % 64, 3) else (65533, 1)
  else if b0 / 8 == 30 && c1 && c2 && c3 then
    if (b0 % 8) * 262144 + (a1 % 64) * 4096 + (a2 % 64) * 64 + a3 % 64 ≥ 0x10000 && Utf8.valid ((b0 % 8) * 262144 + (a1 % 64) * 4096 + (a2 % 64) * 64 + a3 % 64 : Nat) then ((b0 % 8) * 262144 + (a1 % 64) * 4096 + (a2 % 64) * 64 + a3 % 64, 4) else (65533, 1)
  else (65533, 1)
def dk (l : List UInt8) : Nat × Nat := dkN (atL l 0) (atL l 1) (atL l 2) (atL l 3) (ctL l 1) (ctL l 2) (ctL l 3)
theorem get_eq (s : List UInt8) (j : Nat) : (ByteArray.get! ⟨⟨s⟩⟩ j) = s.getD j 0 := by
  show (Array.mk s)[j]! = _
  rw [List.getD_eq_getElem?_getD, getElem!_def]
  simp
  cases s[j]? <;> rfl
theorem at_drop (s : List UInt8) (i k : Nat) : atL (s.drop i) k = (s.getD (i + k) 0).toNat := by
  unfold atL
  rw [List.getD_eq_getElem?_getD, List.getD_eq_getElem?_getD, List.getElem?_drop]
theorem decode_eq (s : List UInt8) (i : Nat) : Utf8.decode ⟨⟨s⟩⟩ i = dk (s.drop i) := by
  have hs : (ByteArray.mk ⟨s⟩).size = s.length := rfl
  have hc : ∀ k, ctL (s.drop i) k = (decide (i + k < s.length) && (s.getD (i + k) 0).toNat / 64 == 2) := by
    intro k
    unfold ctL
    rw [at_drop]
    congr 1
    rw [List.length_drop]
    exact decide_eq_decide.2 (by omega)
  unfold Utf8.decode dk dkN
  simp only [hc, at_drop, get_eq, hs, Utf8.runeError]
theorem dkN_w (b0 a1 a2 a3 : Nat) (c1 c2 c3 : Bool) : 1 ≤ (dkN b0 a1 a2 a3 c1 c2 c3).2 ∧ (dkN b0 a1 a2 a3 c1 c2 c3).2 ≤ 4 := by
  unfold dkN
  repeat' split
  all_goals simp
theorem dk_w (l : List UInt8) : 1 ≤ (dk l).2 ∧ (dk l).2 ≤ 4 := dkN_w _ _ _ _ _ _ _
theorem ct_lt {l : List UInt8} {k : Nat} (h : ctL l k = true) : k < l.length := by
  unfold ctL at h
  simp at h
  exact h.1
theorem dk_len (l : List UInt8) (h : l ≠ []) : (dk l).2 ≤ l.length := by
  have h1 : 1 ≤ l.length := by cases l with | nil => exact (h rfl).elim | cons => simp
  unfold dk dkN
  split
  · exact h1
  split
  · rename_i g
    simp at g
    have := ct_lt g.2
    split
    · exact this
    · exact h1
  split
  · rename_i g
    simp at g
    have := ct_lt g.2
    split
    · exact this
    · exact h1
  split
  · rename_i g
    simp at g
    have := ct_lt g.2
    split
    · exact this
    · exact h1
  · exact h1
theorem at_take (l : List UInt8) (n k : Nat) : atL (l.take n) k = if k < n then atL l k else 0 := by
  unfold atL
  rw [List.getD_eq_getElem?_getD, List.getD_eq_getElem?_getD, List.getElem?_take]
  split <;> rfl
theorem ct_take (l : List UInt8) (n k : Nat) : ctL (l.take n) k = (decide (k < n) && ctL l k) := by
  unfold ctL
  rw [at_take, List.length_take]
  by_cases h : k < n
  · rw [if_pos h, decide_eq_true h, Bool.true_and]
    congr 1
    exact decide_eq_decide.2 (by omega)
  · rw [if_neg h, decide_eq_false h, Bool.false_and]
    have : decide (k < min n l.length) = false := decide_eq_false (by omega)
    rw [this, Bool.false_and]
theorem dkN1 (b0 a1 a2 a3 : Nat) (c1 c2 c3 : Bool) (h : (dkN b0 a1 a2 a3 c1 c2 c3).2 ≤ 1) : dkN b0 0 0 0 false false false = dkN b0 a1 a2 a3 c1 c2 c3 := by
  unfold dkN at h ⊢
  simp only [Bool.and_false, Bool.false_eq_true, if_false]
  split
  · rfl
  rename_i g
  rw [if_neg g] at h
  split
  · rename_i g1
    rw [if_pos g1] at h
    split
    · rename_i g2; rw [if_pos g2] at h; exact absurd h (by simp)
    · rfl
  rename_i g1
  rw [if_neg g1] at h
  split
  · rename_i g2
    rw [if_pos g2] at h
    split
    · rename_i g3; rw [if_pos g3] at h; exact absurd h (by simp)
    · rfl
  rename_i g2
  rw [if_neg g2] at h
  split
  · rename_i g3
    rw [if_pos g3] at h
    split
    · rename_i g4; rw [if_pos g4] at h; exact absurd h (by simp)
    · rfl
  · rfl
theorem dkN2 (b0 a1 a2 a3 : Nat) (c1 c2 c3 : Bool) (h : (dkN b0 a1 a2 a3 c1 c2 c3).2 ≤ 2) : dkN b0 a1 0 0 c1 false false = dkN b0 a1 a2 a3 c1 c2 c3 := by
  unfold dkN at h ⊢
  simp only [Bool.and_false, Bool.false_eq_true, if_false]
  split
  · rfl
  rename_i g
  rw [if_neg g] at h
  split
  · rfl
  rename_i g1
  rw [if_neg g1] at h
  split
  · rename_i g2
    rw [if_pos g2] at h
    split
    · rename_i g3; rw [if_pos g3] at h; exact absurd h (by simp)
    · rfl
  rename_i g2
  rw [if_neg g2] at h
  split
  · rename_i g3
    rw [if_pos g3] at h
    split
    · rename_i g4; rw [if_pos g4] at h; exact absurd h (by simp)
    · rfl
  · rfl
theorem dkN3 (b0 a1 a2 a3 : Nat) (c1 c2 c3 : Bool) (h : (dkN b0 a1 a2 a3 c1 c2 c3).2 ≤ 3) : dkN b0 a1 a2 0 c1 c2 false = dkN b0 a1 a2 a3 c1 c2 c3 := by
  unfold dkN at h ⊢
  simp only [Bool.and_false, Bool.false_eq_true, if_false]
  split
  · rfl
  rename_i g
  rw [if_neg g] at h
  split
  · rfl
  rename_i g1
  rw [if_neg g1] at h
  split
  · rfl
  rename_i g2
  rw [if_neg g2] at h
  split
  · rename_i g3
    rw [if_pos g3] at h
    split
    · rename_i g4; rw [if_pos g4] at h; exact absurd h (by simp)
    · rfl
  · rfl
theorem dk_take (l : List UInt8) (n : Nat) (h : (dk l).2 ≤ n) : dk (l.take n) = dk l := by
  have h1 := (dk_w l).1
  unfold dk at h ⊢
  simp only [at_take, ct_take]
  by_cases e4 : 4 ≤ n
  · simp only [show 0 < n by omega, show 1 < n by omega, show 2 < n by omega, show 3 < n by omega, if_true, decide_true, Bool.true_and]
  have : n = 1 ∨ n = 2 ∨ n = 3 := by have h1' : 1 ≤ (dkN (atL l 0) (atL l 1) (atL l 2) (atL l 3) (ctL l 1) (ctL l 2) (ctL l 3)).2 := h1; omega
  rcases this with rfl | rfl | rfl
  · exact dkN1 _ _ _ _ _ _ _ h
  · exact dkN2 _ _ _ _ _ _ _ h
  · exact dkN3 _ _ _ _ _ _ _ h
def hpL (l : List UInt8) : Bool := decide (3 ≤ l.length) && (l.take 3 == [(239 : UInt8), 191, 189])
theorem HasPrefix_eq (N : Nat) (l : List UInt8) : W_strings_HasPrefix N (l, [(239 : UInt8), (191 : UInt8), (189 : UInt8)]) = some (hpL l) := by
  unfold W_strings_HasPrefix W_internal_stringslite_HasPrefix hpL
  simp only [List.length_cons, List.length_nil]
  by_cases h : 3 ≤ l.length
  · have e1 : decide (((0 + 1 + 1 + 1 : Nat) : Int) ≤ (l.length : Int)) = true := dT (by omega)
    have e2 : decide ((0 : Int) ≤ ((0 + 1 + 1 + 1 : Nat) : Int)) = true := dT (by omega)
    rw [e1, e2, dT h]
    simp only [Bool.and_self, cnd_t, obind_s, Bool.true_and, List.drop_zero]
    rfl
  · have e1 : decide (((0 + 1 + 1 + 1 : Nat) : Int) ≤ (l.length : Int)) = false := dF (by omega)
    rw [e1, dF h]
    simp only [cnd_f, obind_s, Bool.false_and]
def vl (l : List UInt8) : Int := if ((dk l).1 : Int) = 65533 then (if hpL l = true then wr .i64 ((dk l).1 : Int) else -1) else wr .i64 ((dk l).1 : Int)
theorem letter_eq (N : Nat) (l : List UInt8) : W_text_letter N (l, ((dk l).1 : Int)) = some (vl l) := by
  unfold W_text_letter vl
  simp only [HasPrefix_eq, obind_s]
  by_cases h : ((dk l).1 : Int) = 65533
  · rw [if_pos h, dT h, cnd_t]
    cases hpL l
    · rfl
    · rfl
  · rw [if_neg h, dF h, cnd_f]
theorem hp_dk (l : List UInt8) (h : hpL l = true) : dk l = (65533, 3) := by
  unfold hpL at h
  simp at h
  obtain ⟨h1, h2⟩ := h
  match l, h1, h2 with
  | a :: b :: c :: r, _, h2 =>
    simp at h2
    obtain ⟨rfl, rfl, rfl⟩ := h2
    have l1 : decide (1 < (r.length + 1 + 1 + 1)) = true := decide_eq_true (by omega)
    have l2 : decide (2 < (r.length + 1 + 1 + 1)) = true := decide_eq_true (by omega)
    simp [dk, atL, ctL, dkN, l1, l2, Utf8.valid]
theorem vl_take (l : List UInt8) (n : Nat) (h : (dk l).2 ≤ n) : vl (l.take n) = vl l := by
  have e : hpL (l.take n) = hpL l := by
    cases h2 : hpL l with
    | true =>
      have h3 := hp_dk l h2
      rw [h3] at h
      unfold hpL at h2 ⊢
      simp at h2 ⊢
      rw [List.take_take]
      simp only [show min 3 n = 3 by omega]
      exact ⟨by omega, h2.2⟩
    | false =>
      cases h4 : hpL (l.take n) with
      | false => rfl
      | true =>
        exfalso
        unfold hpL at h4 h2
        simp at h4
        rw [List.take_take, show min 3 n = 3 by omega] at h4
        rw [h4.2, decide_eq_true (by omega)] at h2
        simp at h2
  unfold vl
  rw [dk_take l n h, e]
def letsN : Nat → List UInt8 → List Int
  | 0, _ => []
  | k + 1, l => if l = [] then [] else vl l :: letsN k (l.drop (dk l).2)
def cutN : Nat → List UInt8 → Nat → Nat
  | 0, _, _ => 0
  | k + 1, l, n => if l = [] then 0 else if (dk l).2 ≤ n then (dk l).2 + cutN k (l.drop (dk l).2) (n - (dk l).2) else 0
theorem letsN_nil (k : Nat) : letsN k [] = [] := by cases k <;> simp [letsN]
theorem cutN_nil (k n : Nat) : cutN k [] n = 0 := by cases k <;> simp [cutN]
theorem drop_lt (l : List UInt8) (h : l ≠ []) : (l.drop (dk l).2).length < l.length := by
  have := (dk_w l).1
  have h1 : 1 ≤ l.length := by cases l with | nil => exact (h rfl).elim | cons => simp
  rw [List.length_drop]
  omega
theorem letsN_fuel : ∀ (k k2 : Nat) (l : List UInt8), l.length ≤ k → l.length ≤ k2 → letsN k l = letsN k2 l
  | 0, k2, l, h, _ => by
    have : l = [] := List.eq_nil_of_length_eq_zero (by omega)
    subst this
    rw [letsN_nil, letsN_nil]
  | k + 1, 0, l, _, h => by
    have : l = [] := List.eq_nil_of_length_eq_zero (by omega)
    subst this
    rw [letsN_nil, letsN_nil]
  | k + 1, k2 + 1, l, h1, h2 => by
    unfold letsN
    split
    · rfl
    · rename_i hn
      have := drop_lt l hn
      rw [letsN_fuel k k2 _ (by omega) (by omega)]
theorem cutN_fuel : ∀ (k k2 : Nat) (l : List UInt8) (n : Nat), l.length ≤ k → l.length ≤ k2 → cutN k l n = cutN k2 l n
  | 0, k2, l, n, h, _ => by
    have : l = [] := List.eq_nil_of_length_eq_zero (by omega)
    subst this
    rw [cutN_nil, cutN_nil]
  | k + 1, 0, l, n, _, h => by
    have : l = [] := List.eq_nil_of_length_eq_zero (by omega)
    subst this
    rw [cutN_nil, cutN_nil]
  | k + 1, k2 + 1, l, n, h1, h2 => by
    unfold cutN
    split
    · rfl
    · rename_i hn
      have := drop_lt l hn
      rw [cutN_fuel k k2 _ _ (by omega) (by omega)]
def LL (l : List UInt8) : List Int := letsN l.length l
def CC (l : List UInt8) (n : Nat) : Nat := cutN l.length l n
theorem LL_nil : LL [] = [] := rfl
theorem CC_nil (n : Nat) : CC [] n = 0 := rfl
theorem LL_cons (l : List UInt8) (h : l ≠ []) : LL l = vl l :: LL (l.drop (dk l).2) := by
  unfold LL
  obtain ⟨k, hk⟩ : ∃ k, l.length = k + 1 := ⟨l.length - 1, by cases l with | nil => exact (h rfl).elim | cons => simp⟩
  have := drop_lt l h
  rw [hk]
  rw [letsN, if_neg h, letsN_fuel k _ _ (by omega) (Nat.le_refl _)]
theorem CC_cons (l : List UInt8) (n : Nat) (h : l ≠ []) : CC l n = if (dk l).2 ≤ n then (dk l).2 + CC (l.drop (dk l).2) (n - (dk l).2) else 0 := by
  unfold CC
  obtain ⟨k, hk⟩ : ∃ k, l.length = k + 1 := ⟨l.length - 1, by cases l with | nil => exact (h rfl).elim | cons => simp⟩
  have := drop_lt l h
  rw [hk]
  rw [cutN, if_neg h, cutN_fuel k _ _ _ (by omega) (Nat.le_refl _)]
theorem list_ind {p : List UInt8 → Prop} (h0 : p []) (h1 : ∀ l, l ≠ [] → p (l.drop (dk l).2) → p l) (l : List UInt8) : p l := by
  have key : ∀ (k : Nat) (l : List UInt8), l.length ≤ k → p l := by
    intro k
    induction k with
    | zero => intro l h; have : l = [] := List.eq_nil_of_length_eq_zero (by omega); subst this; exact h0
    | succ k ih =>
      intro l h
      by_cases hn : l = []
      · subst hn; exact h0
      · exact h1 l hn (ih _ (by have := drop_lt l hn; omega))
  exact key l.length l (Nat.le_refl _)
theorem CC_le (l : List UInt8) : ∀ n, CC l n ≤ n ∧ CC l n ≤ l.length := by
  refine list_ind (p := fun l => ∀ n, CC l n ≤ n ∧ CC l n ≤ l.length) ?_ ?_ l
  · intro n; rw [CC_nil]; exact ⟨by omega, by omega⟩
  · intro l hn ih n
    rw [CC_cons l n hn]
    have h1 := dk_len l hn
    split
    · have := ih (n - (dk l).2)
      rw [List.length_drop] at this
      omega
    · omega
theorem CC_full (l : List UInt8) : ∀ n, l.length ≤ n → CC l n = l.length := by
  refine list_ind (p := fun l => ∀ n, l.length ≤ n → CC l n = l.length) ?_ ?_ l
  · intro n _; rfl
  · intro l hn ih n h
    rw [CC_cons l n hn]
    have h1 := dk_len l hn
    rw [if_pos (by omega), ih _ (by rw [List.length_drop]; omega), List.length_drop]
    omega
theorem take_ne (l : List UInt8) (m : Nat) (h : l ≠ []) (hm : 1 ≤ m) : l.take m ≠ [] := by
  cases l with
  | nil => exact (h rfl).elim
  | cons a r =>
    obtain ⟨k, rfl⟩ : ∃ k, m = k + 1 := ⟨m - 1, by omega⟩
    simp
theorem LL_split (l : List UInt8) : ∀ n, LL (l.take (CC l n)) ++ LL (l.drop (CC l n)) = LL l := by
  refine list_ind (p := fun l => ∀ n, LL (l.take (CC l n)) ++ LL (l.drop (CC l n)) = LL l) ?_ ?_ l
  · intro n; rfl
  · intro l hn ih n
    rw [CC_cons l n hn]
    have h1 := dk_len l hn
    have hw := (dk_w l).1
    split
    · have hne := take_ne l ((dk l).2 + CC (l.drop (dk l).2) (n - (dk l).2)) hn (by omega)
      rw [LL_cons _ hne, dk_take l _ (by omega), vl_take l _ (by omega), LL_cons l hn, List.drop_take, ← List.drop_drop, Nat.add_sub_cancel_left, List.cons_append, ih]
    · simp [LL_nil]
theorem LL_more (l : List UInt8) : ∀ n, CC l n < l.length → (LL (l.take (CC l n))).length < (LL (l.take (CC l (n + 4)))).length := by
  refine list_ind (p := fun l => ∀ n, CC l n < l.length → (LL (l.take (CC l n))).length < (LL (l.take (CC l (n + 4)))).length) ?_ ?_ l
  · intro n h; simp at h
  · intro l hn ih n h
    have h1 := dk_len l hn
    have hw := dk_w l
    have ne : ∀ m, l.take ((dk l).2 + m) ≠ [] := fun m => take_ne l _ hn (by omega)
    have step : ∀ m, (LL (l.take ((dk l).2 + m))).length = 1 + (LL ((l.drop (dk l).2).take m)).length := by
      intro m
      rw [LL_cons _ (ne m), dk_take l _ (by omega), List.drop_take, Nat.add_sub_cancel_left, List.length_cons]
      omega
    rw [CC_cons l n hn] at h
    rw [CC_cons l n hn, CC_cons l (n + 4) hn]
    by_cases hc4 : (dk l).2 ≤ n + 4
    · rw [if_pos hc4, step]
      by_cases hc : (dk l).2 ≤ n
      · rw [if_pos hc] at h ⊢
        rw [step]
        have := ih (n - (dk l).2) (by rw [List.length_drop]; omega)
        rw [show n + 4 - (dk l).2 = n - (dk l).2 + 4 by omega]
        omega
      · rw [if_neg hc]
        simp [LL_nil]
        omega
    · omega
theorem LL_len (l : List UInt8) : (LL l).length ≤ l.length := by
  refine list_ind (p := fun l => (LL l).length ≤ l.length) (by simp [LL_nil]) ?_ l
  intro l hn ih
  have := drop_lt l hn
  rw [LL_cons l hn, List.length_cons]
  omega
theorem loop_in {σ ρ : Type} {f : σ → Option (σ ⊕ ρ)} {M : Nat} {x y : σ} (h : f x = some (.inl y)) : loopN (M + 1) f x = loopN M f y := by simp only [loopN, h]
theorem loop_out {σ ρ : Type} {f : σ → Option (σ ⊕ ρ)} {M : Nat} {x : σ} {r : ρ} (h : f x = some (.inr r)) : loopN (M + 1) f x = some r := by simp only [loopN, h]
theorem drop_ne (s : List UInt8) (i : Nat) (h : i < s.length) : s.drop i ≠ [] := by
  intro e
  have := congrArg List.length e
  rw [List.length_drop, List.length_nil] at this
  omega
theorem Letters_eq (N : Nat) (s : List UInt8) (hN : s.length < N) (hs : s.length ≤ 1000) : W_text_Letters N s = some (LL s) := by
  unfold W_text_Letters
  have key : ∀ (k M i : Nat) (acc : List Int), s.length - i ≤ k → k < M → i ≤ s.length → acc.length ≤ i →
      loopN M (fun (v : List Int × List UInt8 × Int) =>
        cnd (decide (Int.toNat (Prod.snd (Prod.snd v)) < List.length (Prod.fst (Prod.snd v))))
          (cnd
            (decide ((0 : Int) ≤ (↑(Int.toNat (Prod.snd (Prod.snd v))) : Int)) &&
              decide ((↑(Int.toNat (Prod.snd (Prod.snd v))) : Int) ≤ (↑(List.length s) : Int)))
            (obind
              (W_text_letter N
                (List.drop (Int.toNat (↑(Int.toNat (Prod.snd (Prod.snd v))) : Int)) (List.take (List.length s) s),
                  (↑(Prod.fst
                      (Utf8.decode { data := { toList := Prod.fst (Prod.snd v) } } (Int.toNat (Prod.snd (Prod.snd v))))) : Int)))
              fun (b : Int) =>
              cnd (decide ((List.length (Prod.fst v) + List.length [b]) * (8 : Nat) ≤ (140737488355328 : Nat)))
                (some
                  (Sum.inl
                    (Prod.fst v ++ [b], Prod.fst (Prod.snd v),
                      (↑(Int.toNat (Prod.snd (Prod.snd v)) +
                          Prod.snd
                            (Utf8.decode { data := { toList := Prod.fst (Prod.snd v) } }
                              (Int.toNat (Prod.snd (Prod.snd v))))) : Int))))
                none)
            none)
          (some (Sum.inr (Prod.fst v)))) (acc, s, (i : Int)) = some (acc ++ LL (s.drop i)) := by
    intro k
    induction k with
    | zero =>
      intro M i acc h1 h2 h3 h4
      obtain ⟨M, rfl⟩ : ∃ M', M = M' + 1 := ⟨M - 1, by omega⟩
      have hi : i = s.length := by omega
      subst hi
      rw [loop_out (r := acc) (by simp only [Int.toNat_natCast, dF (Nat.lt_irrefl _), cnd_f]), List.drop_length, LL_nil, List.append_nil]
    | succ k ih =>
      intro M i acc h1 h2 h3 h4
      obtain ⟨M, rfl⟩ : ∃ M', M = M' + 1 := ⟨M - 1, by omega⟩
      by_cases hi : i < s.length
      · have hne := drop_ne s i hi
        have hl := dk_len _ hne
        have hw := (dk_w (s.drop i)).1
        rw [List.length_drop] at hl
        have d0 : decide (i < s.length) = true := dT (by omega)
        have d1 : decide ((0 : Int) ≤ (i : Int)) = true := dT (by omega)
        have d2 : decide ((i : Int) ≤ (s.length : Int)) = true := dT (by omega)
        have d3 : ∀ b : Int, decide ((acc.length + [b].length) * 8 ≤ 140737488355328) = true := fun b => dT (by simp only [List.length_cons, List.length_nil]; omega)
        rw [loop_in (y := (acc ++ [vl (s.drop i)], s, ((i + (dk (s.drop i)).2 : Nat) : Int))) (by
          simp only [Int.toNat_natCast, List.take_length, decode_eq, letter_eq, obind_s, d0, d1, d2, d3, cnd_t, Bool.and_self])]
        rw [ih M (i + (dk (s.drop i)).2) (acc ++ [vl (s.drop i)]) (by omega) (by omega) (by omega) (by simp only [List.length_append, List.length_cons, List.length_nil]; omega)]
        rw [LL_cons _ hne, List.drop_drop, List.append_assoc]
        rfl
      · have hi : i = s.length := by omega
        subst hi
        rw [loop_out (r := acc) (by simp only [Int.toNat_natCast, dF (Nat.lt_irrefl _), cnd_f]), List.drop_length, LL_nil, List.append_nil]
  have := key s.length N 0 [] (by omega) hN (by omega) (by simp)
  rw [List.drop_zero, List.nil_append] at this
  rw [this, obind_s]
theorem Count_eq (N : Nat) (s : List UInt8) (hN : s.length < N) (hs : s.length ≤ 1000) : W_text_Count N s = some ((LL s).length : Int) := by
  unfold W_text_Count
  have key : ∀ (k M i c : Nat), s.length - i ≤ k → k < M → i ≤ s.length → c ≤ i →
      loopN M (fun (v : Int × List UInt8 × Int) =>
        cnd (decide (Int.toNat (Prod.snd (Prod.snd v)) < List.length (Prod.fst (Prod.snd v))))
          (some
            (Sum.inl
              (wr IntKind.i64 (Prod.fst v + (1 : Int)), Prod.fst (Prod.snd v),
                (↑(Int.toNat (Prod.snd (Prod.snd v)) +
                    Prod.snd
                      (Utf8.decode { data := { toList := Prod.fst (Prod.snd v) } }
                        (Int.toNat (Prod.snd (Prod.snd v))))) : Int))))
          (some (Sum.inr (Prod.fst v)))) ((c : Int), s, (i : Int)) = some ((c : Int) + (LL (s.drop i)).length) := by
    intro k
    induction k with
    | zero =>
      intro M i c h1 h2 h3 h4
      obtain ⟨M, rfl⟩ : ∃ M', M = M' + 1 := ⟨M - 1, by omega⟩
      have hi : i = s.length := by omega
      subst hi
      rw [loop_out (r := (c : Int)) (by simp only [Int.toNat_natCast, dF (Nat.lt_irrefl _), cnd_f]), List.drop_length, LL_nil]
      simp
    | succ k ih =>
      intro M i c h1 h2 h3 h4
      obtain ⟨M, rfl⟩ : ∃ M', M = M' + 1 := ⟨M - 1, by omega⟩
      by_cases hi : i < s.length
      · have hne := drop_ne s i hi
        have hl := dk_len _ hne
        have hw := (dk_w (s.drop i)).1
        rw [List.length_drop] at hl
        have d0 : decide (i < s.length) = true := dT (by omega)
        have hwr : wr IntKind.i64 ((c : Int) + 1) = ((c + 1 : Nat) : Int) := by rw [wr_i64 (by omega) (by omega)]; omega
        rw [loop_in (y := (((c + 1 : Nat) : Int), s, ((i + (dk (s.drop i)).2 : Nat) : Int))) (by simp only [Int.toNat_natCast, decode_eq, d0, cnd_t, hwr])]
        rw [ih M (i + (dk (s.drop i)).2) (c + 1) (by omega) (by omega) (by omega) (by omega)]
        rw [LL_cons _ hne, List.drop_drop, List.length_cons]
        refine congrArg some ?_
        omega
      · have hi : i = s.length := by omega
        subst hi
        rw [loop_out (r := (c : Int)) (by simp only [Int.toNat_natCast, dF (Nat.lt_irrefl _), cnd_f]), List.drop_length, LL_nil]
        simp
  have := key s.length N 0 0 (by omega) hN (by omega) (by omega)
  rw [List.drop_zero] at this
  have e0 : ((0 : Nat) : Int) = (0 : Int) := rfl
  rw [e0, Int.zero_add] at this
  simp only [e0]
  rw [this, obind_s]
theorem Cut_eq (N : Nat) (s : List UInt8) (n : Nat) (hN : s.length + 2 < N) : W_text_Cut N (s, (n : Int)) = some (s.take (CC s n)) := by
  unfold W_text_Cut
  simp only
  by_cases hf : s.length ≤ n
  · rw [dT (by omega), cnd_t, CC_full s n hf, List.take_length]
  have key : ∀ (k M i e : Nat), s.length - i ≤ k → k + 1 < M → i ≤ s.length → i ≤ n →
      loopN M (fun (v : Int × List UInt8 × Int) =>
        cnd (decide (Int.toNat (Prod.snd (Prod.snd v)) < List.length (Prod.fst (Prod.snd v))))
          (cnd (decide ((n : Int) < (↑(Int.toNat (Prod.snd (Prod.snd v))) : Int))) (some (Sum.inr (Prod.fst v)))
            (some
              (Sum.inl
                ((↑(Int.toNat (Prod.snd (Prod.snd v))) : Int), Prod.fst (Prod.snd v),
                  (↑(Int.toNat (Prod.snd (Prod.snd v)) +
                      Prod.snd
                        (Utf8.decode { data := { toList := Prod.fst (Prod.snd v) } }
                          (Int.toNat (Prod.snd (Prod.snd v))))) : Int)))))
          (some (Sum.inr (Prod.fst v)))) ((e : Int), s, (i : Int)) = some ((i + CC (s.drop i) (n - i) : Nat) : Int) := by
    intro k
    induction k with
    | zero => intro M i e h1 h2 h3 h4; omega
    | succ k ih =>
      intro M i e h1 h2 h3 h4
      obtain ⟨M, rfl⟩ : ∃ M', M = M' + 1 := ⟨M - 1, by omega⟩
      have hi : i < s.length := by omega
      have hne := drop_ne s i hi
      have hl := dk_len _ hne
      have hw := (dk_w (s.drop i)).1
      rw [List.length_drop] at hl
      have d0 : decide (i < s.length) = true := dT (by omega)
      have d1 : decide ((n : Int) < (i : Int)) = false := dF (by omega)
      rw [loop_in (y := ((i : Int), s, ((i + (dk (s.drop i)).2 : Nat) : Int))) (by simp only [Int.toNat_natCast, decode_eq, d0, d1, cnd_t, cnd_f])]
      rw [CC_cons _ _ hne]
      by_cases hc : i + (dk (s.drop i)).2 ≤ n
      · rw [ih M (i + (dk (s.drop i)).2) i (by omega) (by omega) (by omega) hc, if_pos (by omega), List.drop_drop, Nat.sub_sub, Nat.add_assoc]
      · rw [if_neg (by omega), Nat.add_zero]
        obtain ⟨M, rfl⟩ : ∃ M', M = M' + 1 := ⟨M - 1, by omega⟩
        refine loop_out ?_
        simp only [Int.toNat_natCast]
        by_cases hl2 : i + (dk (s.drop i)).2 < s.length
        · have d2 : decide ((n : Int) < ((i + (dk (s.drop i)).2 : Nat) : Int)) = true := dT (by omega)
          rw [dT hl2, d2, cnd_t, cnd_t]
        · rw [dF hl2, cnd_f]
  have h0 := key s.length N 0 0 (by omega) (by omega) (by omega) (by omega)
  rw [List.drop_zero, Nat.zero_add, Nat.sub_zero] at h0
  have e0 : ((0 : Nat) : Int) = (0 : Int) := rfl
  rw [e0] at h0
  have hc := CC_le s n
  have d0 : decide ((s.length : Int) ≤ (n : Int)) = false := dF (by omega)
  have d1 : decide ((0 : Int) ≤ ((CC s n : Nat) : Int)) = true := dT (by omega)
  have d2 : decide (((CC s n : Nat) : Int) ≤ (s.length : Int)) = true := dT (by omega)
  rw [d0, cnd_f]
  simp only [e0]
  rw [h0, obind_s, d1, d2, Bool.and_self, cnd_t, Int.toNat_natCast, List.drop_zero]
theorem Same_self (N : Nat) (a : List Int) (hN : a.length < N) (hl : a.length ≤ 140737488355327) : W_ref1_SameInts N (a, a) = some true := by
  unfold W_ref1_SameInts
  simp only
  have key : ∀ (k M i : Nat), a.length - i ≤ k → k < M → i ≤ a.length → loopN M (fun (v : Int) =>
          cnd (decide (v < (↑(List.length a) : Int)))
            (cnd (decide ((0 : Int) ≤ v) && decide (v < (↑(List.length a) : Int)))
              (cnd (decide ((0 : Int) ≤ v) && decide (v < (↑(List.length a) : Int)))
                (cnd
                  (decide
                    (List.getD a (Int.toNat v) (0 : Int) ≠ List.getD a (Int.toNat v) (0 : Int)))
                  (some (Sum.inr (Sum.inr false))) (some (Sum.inl (wr IntKind.i64 (v + (1 : Int))))))
                none)
              none)
            (some (Sum.inr (Sum.inl ())))) (i : Int) = some (Sum.inl () : PUnit ⊕ Bool) := by
    intro k
    induction k with
    | zero =>
      intro M i h1 h2 h3
      obtain ⟨M, rfl⟩ : ∃ M', M = M' + 1 := ⟨M - 1, by omega⟩
      have d0 : decide ((i : Int) < (a.length : Int)) = false := dF (by omega)
      exact loop_out (by simp only [d0, cnd_f])
    | succ k ih =>
      intro M i h1 h2 h3
      obtain ⟨M, rfl⟩ : ∃ M', M = M' + 1 := ⟨M - 1, by omega⟩
      by_cases hi : i < a.length
      · have d0 : decide ((i : Int) < (a.length : Int)) = true := dT (by omega)
        have d1 : decide ((0 : Int) ≤ (i : Int)) = true := dT (by omega)
        have hw : wr IntKind.i64 ((i : Int) + 1) = ((i + 1 : Nat) : Int) := by rw [wr_i64 (by omega) (by omega)]; omega
        rw [loop_in (y := ((i + 1 : Nat) : Int)) (by simp only [d0, d1, cnd_t, Bool.and_self, ne_eq, not_true_eq_false, decide_false, cnd_f, hw])]
        exact ih M (i + 1) (by omega) (by omega) (by omega)
      · have d0 : decide ((i : Int) < (a.length : Int)) = false := dF (by omega)
        exact loop_out (by simp only [d0, cnd_f])
  rw [dF (by simp), cnd_f]
  have := key a.length N 0 (by omega) hN (by omega)
  have e0 : Int.ofNat 0 = ((0 : Nat) : Int) := rfl
  rw [e0, this, obind_s, selim_l]
theorem law_aux (N : Nat) (hN : 100 ≤ N) (s : List UInt8) (y1 : Int) (h1 : Twf (.int .u8) y1) : W_law1_TextCut N (s, y1) = some true := by
  have hy : 0 ≤ y1 ∧ y1 ≤ 255 := h1
  unfold W_law1_TextCut
  simp only
  by_cases h60 : (60 : Int) < (s.length : Int)
  · rw [dT h60, cnd_t]
  obtain ⟨n, hn, hn2⟩ : ∃ n : Nat, wr IntKind.i64 (Int.tmod y1 70) = (n : Int) ∧ n < 70 := by
    have h2 := Int.emod_nonneg y1 (show (70 : Int) ≠ 0 by omega)
    have h3 := Int.emod_lt_of_pos y1 (show (0 : Int) < 70 by omega)
    refine ⟨(y1 % 70).toNat, ?_, by omega⟩
    rw [Int.tmod_eq_emod_of_nonneg hy.1, wr_i64 (by omega) (by omega)]
    omega
  have e1 : wr IntKind.i64 ((n : Int) + 1) = ((n + 1 : Nat) : Int) := by rw [wr_i64 (by omega) (by omega)]; omega
  have e4 : wr IntKind.i64 ((n : Int) + 4) = ((n + 4 : Nat) : Int) := by rw [wr_i64 (by omega) (by omega)]; omega
  have hc := CC_le s n
  have hc1 := CC_le s (n + 1)
  have hc4 := CC_le s (n + 4)
  have sp := LL_split s n
  have sl := congrArg List.length sp
  rw [List.length_append] at sl
  have hl := LL_len s
  have tl : ∀ m, m ≤ s.length → (s.take m).length = m := fun m hm => by rw [List.length_take]; omega
  have t0 := tl _ hc.2
  have ld : (s.drop (CC s n)).length = s.length - CC s n := List.length_drop
  have ll : (LL (s.take (CC s n))).length ≤ (s.take (CC s n)).length := LL_len _
  have ll4 : (LL (s.take (CC s (n + 4)))).length ≤ (s.take (CC s (n + 4))).length := LL_len _
  have tk : List.take (LL (s.take (CC s n))).length (LL s) = LL (s.take (CC s n)) := by rw [← sp]; simp
  rw [dF h60, cnd_f, hn, Cut_eq N s n (by omega), obind_s, t0]
  have d0 : decide ((n : Int) < ((CC s n : Nat) : Int)) = false := dF (by omega)
  have d1 : decide ((s.length : Int) < ((CC s n : Nat) : Int)) = false := dF (by omega)
  have d2 : decide ((0 : Int) ≤ ((CC s n : Nat) : Int)) = true := dT (by omega)
  have d3 : decide (((CC s n : Nat) : Int) ≤ (s.length : Int)) = true := dT (by omega)
  rw [d0, cnd_f, d1, obind_s, cnd_f, d2, d3, Bool.and_self, cnd_t]
  have d4 : (!List.drop 0 (List.take (((CC s n : Nat) : Int)).toNat s) == List.take (CC s n) s) = false := by
    rw [Int.toNat_natCast, List.drop_zero]; simp
  rw [d4, cnd_f, Letters_eq N s (by omega) (by omega), obind_s, Letters_eq N (s.take (CC s n)) (by omega) (by omega), obind_s]
  have d5 : decide (((LL s).length : Int) < ((LL (s.take (CC s n))).length : Int)) = false := dF (by omega)
  have d6 : decide ((0 : Int) ≤ ((LL (s.take (CC s n))).length : Int)) = true := dT (by omega)
  have d7 : decide (((LL (s.take (CC s n))).length : Int) ≤ ((LL s).length : Int)) = true := dT (by omega)
  rw [d5, cnd_f, d6, d7, Bool.and_self, cnd_t, Int.toNat_natCast, List.drop_zero, tk, Same_self N _ (by omega) (by omega), obind_s, Bool.not_true, cnd_f]
  by_cases hcl : CC s n = s.length
  · have d8 : decide (((CC s n : Nat) : Int) = (s.length : Int)) = true := dT (by omega)
    rw [d8, cnd_t, hcl, List.take_length]
    simp
  · have d8 : decide (((CC s n : Nat) : Int) = (s.length : Int)) = false := dF (by omega)
    have mo := LL_more s n (by omega)
    rw [d8, cnd_f, Int.toNat_natCast, List.take_length, Letters_eq N (s.drop (CC s n)) (by omega) (by omega), obind_s]
    have d9 : decide (((LL s).length : Int) = wr IntKind.i64 (((LL (s.take (CC s n))).length : Int) + ((LL (s.drop (CC s n))).length : Int))) = true := dT (by rw [wr_i64 (by omega) (by omega)]; omega)
    rw [d9, cnd_t, e1, Cut_eq N s (n + 1) (by omega), obind_s, tl _ hc1.2]
    have da : decide (((CC s (n + 1) : Nat) : Int) ≤ ((n + 1 : Nat) : Int)) = true := dT (by omega)
    have t4 := tl _ hc4.2
    rw [da, cnd_t, obind_s, cnd_t, e4, Cut_eq N s (n + 4) (by omega), obind_s, Count_eq N _ (by omega) (by omega), obind_s, dT (by omega)]
def NN : Nat := 1000
theorem law_true (y0 : List UInt8) (y1 : Int) (h0 : Twf .str y0) (h1 : Twf (.int .u8) y1) : W_law1_TextCut NN (y0, y1) = some true :=
  law_aux NN (by unfold NN; omega) y0 y1 h1

theorem spec (y0 : List UInt8) (y1 : Int) (h0 : Twf .str y0) (h1 : Twf (.int .u8) y1) : Spec2 P0 3 [valW .str y0, valW (.int .u8) y1] [] (.bs true) [] [] := (con_law1_TextCut_ok NN).2 (y0, y1) true (law_true y0 y1 h0 h1)
theorem lifted (os : Os) (started : os.Started) (H : Type) (enc : TypeId × Value → H) :
    ReturnsInHanded {} Try.checked os 3 .any (Rows.textCutSpec.pre6 enc Try.prog Try.f3 Rows.textCutRow.domain false) (Rows.textCutSpec.post enc Try.prog Try.f3 false true false false) := by
  refine returnsInHanded_of_change (C := Try.checked) own started (by kernel_rfl) Try.func3
    (ChangeSpec.witness6 (enc := enc) (C := Try.checked) false ⟨#[], #[.string ⟨#[]⟩, .int .u8 0], []⟩ 8 (by kernel_rfl) (by kernel_rfl) (by kernel_rfl) (by kernel_rfl)) ?_
  intro W base args ds gs before hval0 hW hcnd _
  have hval : ∀ (j : Nat) t v, Try.f3.params[j]? = some t → args[j]? = some v → Value.okWide Try.prog W .any base t v := hval0
  have hW' := hW
  obtain ⟨p, q, hA0, hV, rfl, hfz, hnd⟩ := hW
  have hA : DataW.TrodAll enc Try.prog W 0 (fun _ => true) true Try.f3.params.toList args.toList ds p := hA0
  rw [Try.params3] at hA hval
  obtain ⟨v0, vs0, d0, ds0, p0, q0, hargs, rfl, rfl, h0, r0⟩ := trodAll_cons hA
  obtain ⟨v1, vs1, d1, ds1, p1, q1, rfl, rfl, rfl, h1, r1⟩ := trodAll_cons r0
  obtain ⟨rfl, rfl, rfl⟩ := trodAll_nil r1
  obtain rfl : args = #[v0, v1] := by cases args; simp_all
  obtain ⟨rfl, rfl⟩ := trodVars_none hV
  have k0 := h0
  have lt0 : ∀ x ∈ p0, x.block < W.heap.size := by obtain ⟨m, hm⟩ := k0; exact DataW.trod_lt m _ _ _ hm
  obtain ⟨y0, rp0, wf0⟩ := arg_ok (n := 12) (ty := .str) (by kernel_rfl) (hval 0 _ v0 rfl rfl) h0
  have k1 := h1
  have lt1 : ∀ x ∈ p1, x.block < W.heap.size := by obtain ⟨m, hm⟩ := k1; exact DataW.trod_lt m _ _ _ hm
  obtain ⟨y1, rp1, wf1⟩ := arg_ok (n := 12) (ty := (.int .u8)) (by kernel_rfl) (hval 1 _ v1 rfl rfl) h1
  clear hA0 hval0
  refine (law_of2 (spec y0 y1 wf0 wf1) W #[v0, v1] (.cons rp0 (.cons rp1 .nil))).mono fun e W' ⟨he, bel⟩ => ?_
  subst he
  exact ⟨_, rfl, _, _, _, [], _, [], hW', trodAll_mk1 (shut_bool Try.underlying4 _), (trodAll_cons_mk (Below.trod laidOut (by kernel_rfl) (of_decide_eq_true (by kernel_rfl)) k0 bel lt0) (trodAll_cons_mk (Below.trod laidOut (by kernel_rfl) (of_decide_eq_true (by kernel_rfl)) k1 bel lt1) trodAll_mk0)), rfl, bel.frame _, fun h => by cases h⟩

theorem over : Rows.textCutRow.holds Try.pinned (OpenSpec.ofChange Rows.textCutSpec) :=
  OpenClaim.holds_of_wide 3 Try.f3 rfl rfl rfl rfl rfl rfl rfl ⟨rfl, rfl, rfl, rfl, rfl⟩ rfl rfl rfl rfl rfl (by kernel_rfl) Try.func3 (by kernel_rfl)
    (of_decide_eq_true (by kernel_rfl)) (by unfold Func.isWrapper; first | (rw [if_pos (by decide +kernel)]; kernel_rfl) | (rw [if_neg (by decide +kernel)]; exact ⟨rfl, rfl⟩))
    (fun os started H enc _ => lifted os started H enc)

theorem holds : Rows.TextCutSaid := over
end Go.Proofs.Ytnkalddmjdicfaa.textCutX
