/- RttBetween: for all arguments the call returns true. The law is brought to a function of Lean's own (W_..) by the machine of the texts beside it, and that is reckoned; no condition. -/
import Derived.Test.YtfiiigeigiaaeaaExtL
import Derived.Test.YtfiiigeigiaaeaaRows
import Derived.WalkKit
import Derived.ProofKit
import Derived.OpenShut
import Derived.ShutString
import Derived.ChangeOld
import Derived.Below
namespace Go.Proofs.Ytfiiigeigiaaeaa.rttBetweenX
open Go.Abs Go.RowKit Go.ChangeShapes Go.WideShapes Go.ChangeAt
set_option maxRecDepth 100000
set_option linter.unusedVariables false
set_option linter.unusedSimpArgs false
noncomputable abbrev P0 : Program := Try.prog
noncomputable def bodyOf (fn : Func) : Code := fn.body.getD .skip
def L0 : Lend := fun f => aget [] [] f
def kpL (l : List Bool) : Nat → Bool := fun j => l.getD j true
theorem own : ownKnob Try.prog.godebug = none := by kernel_rfl
theorem laidOut : laidOutB Try.prog = true := by kernel_rfl
theorem mixed : P0.follows .mixedOrders = true := by decide +kernel
theorem progOk_ : progOk P0 = true := by decide +kernel
noncomputable def con_law5_begun (N : Nat) : Con := ⟨40, [], [], Unit, fun _ => some (), fun _ => (.bs true, [], [])⟩
theorem con_law5_begun_ok (N : Nat) : Con.ok P0 (con_law5_begun N) := closed_con2 (nonJ_ok _) mixed progOk_ (noneΞ_ok2 _) (inl := [16,17,41,56,58,64,72,91]) (breath := 100000) (n := 60) (by kernel_rfl)
def as_rtt_within : List AS := [.val (.int .i64)]
def bs_rtt_within : List BS := []
def pout_rtt_within : Pat := ⟨[(2, .val (.int .i64))], []⟩
noncomputable def G_rtt_within (N : Nat) : OrcT := orcOf []
noncomputable def F_rtt_within (N : Nat) (x : Int) : Option (Int) :=
  (evT (G_rtt_within N) L0 P0 []
    [] N 400 (bodyOf Try.f65) ⟨6, slots 0 (argsOf as_rtt_within bs_rtt_within x), tabU (lbOf as_rtt_within bs_rtt_within x) [], []⟩).elim (kRet 6 pout_rtt_within (kpL []) (lbOf as_rtt_within bs_rtt_within x))
def out_rtt_within (y : Int) : V × List OK × List OK := (valW (.int .i64) y, [], [])
noncomputable def W_rtt_within (N : Nat) (x : Int) : Option (Int) :=
  some (min (max x (0 : Int)) (1000 : Int))
theorem F_rtt_within_eq (N : Nat) (x : Int) : F_rtt_within N x = W_rtt_within N x := by kernel_rfl
noncomputable def con_rtt_within (N : Nat) : Con := ⟨65, as_rtt_within, bs_rtt_within, Int, W_rtt_within N, out_rtt_within⟩
theorem R_rtt_within_eq (x : Int) (y : Int) : retOf2 P0 Try.f65 (kpL []) (lbOf as_rtt_within bs_rtt_within x) (patS ⟨6, [], [], []⟩ pout_rtt_within y) = some (out_rtt_within y) := by kernel_rfl
theorem con_rtt_within_ok (N : Nat) : Con.ok P0 (con_rtt_within N) := ⟨⟨Try.f65, Try.func65, by kernel_rfl, by kernel_rfl⟩, fun (x : Int) (r : Int) (hr : W_rtt_within N x = some r) =>
  spec2_evT (Γ := G_rtt_within N) (Λ := L0) (pout := pout_rtt_within) (kp := kpL []) mixed (orcOf_ok [] (by simp)) Try.func65 (c := bodyOf Try.f65) (by kernel_rfl) (by kernel_rfl) (of_decide_eq_true (by kernel_rfl)) ((F_rtt_within_eq N x).trans hr) (R_rtt_within_eq x r)⟩
def as_rtt_before : List AS := [.val (.int .i64)]
def bs_rtt_before : List BS := []
def pout_rtt_before : Pat := ⟨[(2, .val (.alt 87 (.int .i64) (.alt1 103 (.agg .unit))))], []⟩
noncomputable def G_rtt_before (N : Nat) : OrcT := orcOf [con_rtt_within N]
noncomputable def F_rtt_before (N : Nat) (x : Int) : Option (Int ⊕ Unit) :=
  (evT (G_rtt_before N) L0 P0 []
    [] N 400 (bodyOf Try.f66) ⟨10, slots 0 (argsOf as_rtt_before bs_rtt_before x), tabU (lbOf as_rtt_before bs_rtt_before x) [], []⟩).elim (kRet 10 pout_rtt_before (kpL []) (lbOf as_rtt_before bs_rtt_before x))
def out_rtt_before (y : Int ⊕ Unit) : V × List OK × List OK := (valW (.alt 87 (.int .i64) (.alt1 103 (.agg .unit))) y, [], [])
noncomputable def W_rtt_before (N : Nat) (x : Int) : Option (Int ⊕ Unit) :=
  cnd (decide (x ≤ (0 : Int))) (some (Sum.inr ())) (obind (W_rtt_within N x) fun (b : Int) => some (Sum.inl b))
theorem F_rtt_before_eq (N : Nat) (x : Int) : F_rtt_before N x = W_rtt_before N x := by kernel_rfl
noncomputable def con_rtt_before (N : Nat) : Con := ⟨66, as_rtt_before, bs_rtt_before, Int ⊕ Unit, W_rtt_before N, out_rtt_before⟩
theorem R_rtt_before_eq (x : Int) (y : Int ⊕ Unit) : retOf2 P0 Try.f66 (kpL []) (lbOf as_rtt_before bs_rtt_before x) (patS ⟨10, [], [], []⟩ pout_rtt_before y) = some (out_rtt_before y) := by kernel_rfl
theorem con_rtt_before_ok (N : Nat) : Con.ok P0 (con_rtt_before N) := ⟨⟨Try.f66, Try.func66, by kernel_rfl, by kernel_rfl⟩, fun (x : Int) (r : Int ⊕ Unit) (hr : W_rtt_before N x = some r) =>
  spec2_evT (Γ := G_rtt_before N) (Λ := L0) (pout := pout_rtt_before) (kp := kpL []) mixed (orcOf_ok _ (by simp only [List.mem_cons, List.not_mem_nil, or_false, forall_eq_or_imp, forall_eq]; exact con_rtt_within_ok N)) Try.func66 (c := bodyOf Try.f66) (by kernel_rfl) (by kernel_rfl) (of_decide_eq_true (by kernel_rfl)) ((F_rtt_before_eq N x).trans hr) (R_rtt_before_eq x r)⟩
def as_rtt_Smooth : List AS := [.val (.int .i64), .val (.int .i64)]
def bs_rtt_Smooth : List BS := []
def pout_rtt_Smooth : Pat := ⟨[(4, .val (.int .i64))], []⟩
noncomputable def G_rtt_Smooth (N : Nat) : OrcT := orcOf [con_rtt_before N, con_rtt_within N]
noncomputable def F_rtt_Smooth (N : Nat) (x : Int × Int) : Option (Int) :=
  (evT (G_rtt_Smooth N) L0 P0 []
    [] N 400 (bodyOf Try.f44) ⟨23, slots 0 (argsOf as_rtt_Smooth bs_rtt_Smooth x), tabU (lbOf as_rtt_Smooth bs_rtt_Smooth x) [], []⟩).elim (kRet 23 pout_rtt_Smooth (kpL []) (lbOf as_rtt_Smooth bs_rtt_Smooth x))
def out_rtt_Smooth (y : Int) : V × List OK × List OK := (valW (.int .i64) y, [], [])
noncomputable def W_rtt_Smooth (N : Nat) (x : Int × Int) : Option (Int) :=
  obind (W_rtt_before N (Prod.fst x)) fun (b : Int ⊕ PUnit) =>
    selim
      (fun (b : Int) =>
        obind (W_rtt_within N (Prod.snd x)) fun (b_1 : Int) =>
          some (wr IntKind.i64 (Int.tdiv (wr IntKind.i64 (wr IntKind.i64 ((7 : Int) * b) + b_1)) (8 : Int))))
      (fun (c : PUnit) => obind (W_rtt_within N (Prod.snd x)) fun (b : Int) => some b) b
theorem F_rtt_Smooth_eq (N : Nat) (x : Int × Int) : F_rtt_Smooth N x = W_rtt_Smooth N x := by kernel_rfl
noncomputable def con_rtt_Smooth (N : Nat) : Con := ⟨44, as_rtt_Smooth, bs_rtt_Smooth, Int, W_rtt_Smooth N, out_rtt_Smooth⟩
theorem R_rtt_Smooth_eq (x : Int × Int) (y : Int) : retOf2 P0 Try.f44 (kpL []) (lbOf as_rtt_Smooth bs_rtt_Smooth x) (patS ⟨23, [], [], []⟩ pout_rtt_Smooth y) = some (out_rtt_Smooth y) := by kernel_rfl
theorem con_rtt_Smooth_ok (N : Nat) : Con.ok P0 (con_rtt_Smooth N) := ⟨⟨Try.f44, Try.func44, by kernel_rfl, by kernel_rfl⟩, fun (x : Int × Int) (r : Int) (hr : W_rtt_Smooth N x = some r) =>
  spec2_evT (Γ := G_rtt_Smooth N) (Λ := L0) (pout := pout_rtt_Smooth) (kp := kpL []) mixed (orcOf_ok _ (by simp only [List.mem_cons, List.not_mem_nil, or_false, forall_eq_or_imp, forall_eq]; exact ⟨con_rtt_before_ok N, con_rtt_within_ok N⟩)) Try.func44 (c := bodyOf Try.f44) (by kernel_rfl) (by kernel_rfl) (of_decide_eq_true (by kernel_rfl)) ((F_rtt_Smooth_eq N x).trans hr) (R_rtt_Smooth_eq x r)⟩
def as_law5_RttBetween : List AS := [.val (.int .u16), .val (.int .u16), .val (.int .u8)]
def bs_law5_RttBetween : List BS := []
def pout_law5_RttBetween : Pat := ⟨[(6, .val .bool)], []⟩
noncomputable def G_law5_RttBetween (N : Nat) : OrcT := orcOf [con_law5_begun N, con_rtt_Smooth N]
noncomputable def F_law5_RttBetween (N : Nat) (x : Int × Int × Int) : Option (Bool) :=
  (evT (G_law5_RttBetween N) L0 P0 [(8, .loop [] ⟨[(9, .val (.int .i64)), (10, .val (.int .i64))], []⟩ [(.exit 0, ⟨[], []⟩), (.ret, ⟨[(6, .val .bool)], []⟩)])]
    [(1000011, .reg [(12, [], ⟨[(49, .val .bool)], []⟩), (10, [], ⟨[(59, .val .bool)], []⟩)]),
    (1000014, .reg [(11, [], ⟨[(82, .val .bool)], []⟩), (7, [], ⟨[(89, .val .bool)], []⟩)])] N 400 (bodyOf Try.f9) ⟨97, slots 0 (argsOf as_law5_RttBetween bs_law5_RttBetween x), tabU (lbOf as_law5_RttBetween bs_law5_RttBetween x) [], []⟩).elim (kRet 97 pout_law5_RttBetween (kpL []) (lbOf as_law5_RttBetween bs_law5_RttBetween x))
def out_law5_RttBetween (y : Bool) : V × List OK × List OK := (valW .bool y, [], [])
noncomputable def W_law5_RttBetween (N : Nat) (x : Int × Int × Int) : Option (Bool) :=
  cnd (decide (Int.tmod (wr IntKind.i64 (Prod.fst x)) (1001 : Int) = (0 : Int)))
    (obind
      (W_rtt_Smooth N
        (Int.tmod (wr IntKind.i64 (Prod.fst x)) (1001 : Int),
          Int.tmod (wr IntKind.i64 (Prod.fst (Prod.snd x))) (1001 : Int)))
      fun (b : Int) => some (decide (b = Int.tmod (wr IntKind.i64 (Prod.fst (Prod.snd x))) (1001 : Int))))
    (obind
      (loopN N
        (fun (v : Int × Int) =>
          cnd (decide (Prod.snd v < wr IntKind.i64 (Int.tmod (Prod.snd (Prod.snd x)) (60 : Int))))
            (obind (W_rtt_Smooth N (Prod.fst v, Int.tmod (wr IntKind.i64 (Prod.fst (Prod.snd x))) (1001 : Int)))
              fun (b : Int) =>
              obind
                (cnd (decide (b < min (Prod.fst v) (Int.tmod (wr IntKind.i64 (Prod.fst (Prod.snd x))) (1001 : Int))))
                  (some true)
                  (some (decide (max (Prod.fst v) (Int.tmod (wr IntKind.i64 (Prod.fst (Prod.snd x))) (1001 : Int)) < b))))
                fun (b_1 : Bool) =>
                obind
                  (cnd b_1 (some true)
                    (cnd (decide (Int.tmod (wr IntKind.i64 (Prod.fst (Prod.snd x))) (1001 : Int) < Prod.fst v))
                      (some (decide (b = Prod.fst v))) (some false)))
                  fun (b_2 : Bool) =>
                  cnd b_2
                    (cnd (decide (Prod.fst v = (0 : Int)))
                      (some
                        (Sum.inr (Sum.inr (decide (b = Int.tmod (wr IntKind.i64 (Prod.fst (Prod.snd x))) (1001 : Int))))))
                      (some (Sum.inr (Sum.inr false))))
                    (cnd (decide (Prod.fst v = (0 : Int)))
                      (cnd (decide (Prod.fst v = (0 : Int)))
                        (some
                          (Sum.inr
                            (Sum.inr (decide (b = Int.tmod (wr IntKind.i64 (Prod.fst (Prod.snd x))) (1001 : Int))))))
                        (some (Sum.inr (Sum.inr false))))
                      (some (Sum.inl (b, wr IntKind.i64 (Prod.snd v + (1 : Int)))))))
            (some (Sum.inr (Sum.inl ()))))
        (Int.tmod (wr IntKind.i64 (Prod.fst x)) (1001 : Int), (0 : Int)))
      fun (b : PUnit ⊕ Bool) =>
      selim
        (fun (b : PUnit) =>
          obind
            (obind (W_rtt_Smooth N ((-5 : Int), Int.tmod (wr IntKind.i64 (Prod.fst (Prod.snd x))) (1001 : Int)))
              fun (b : Int) =>
              cnd (decide (b = Int.tmod (wr IntKind.i64 (Prod.fst (Prod.snd x))) (1001 : Int)))
                (obind (W_rtt_Smooth N ((5000 : Int), Int.tmod (wr IntKind.i64 (Prod.fst (Prod.snd x))) (1001 : Int)))
                  fun (b : Int) =>
                  obind (W_rtt_Smooth N ((1000 : Int), Int.tmod (wr IntKind.i64 (Prod.fst (Prod.snd x))) (1001 : Int)))
                    fun (b_1 : Int) => some (decide (b = b_1)))
                (some false))
            fun (b : Bool) =>
            obind
              (cnd b
                (obind (W_rtt_Smooth N (Int.tmod (wr IntKind.i64 (Prod.fst x)) (1001 : Int), (5000 : Int)))
                  fun (b : Int) =>
                  obind (W_rtt_Smooth N (Int.tmod (wr IntKind.i64 (Prod.fst x)) (1001 : Int), (1000 : Int)))
                    fun (b_1 : Int) => some (decide (b = b_1)))
                (some false))
              fun (b : Bool) =>
              cnd b
                (obind (W_rtt_Smooth N (Int.tmod (wr IntKind.i64 (Prod.fst x)) (1001 : Int), (-5 : Int))) fun (b : Int) =>
                  obind (W_rtt_Smooth N (Int.tmod (wr IntKind.i64 (Prod.fst x)) (1001 : Int), (0 : Int)))
                    fun (b_1 : Int) => some (decide (b = b_1)))
                (some false))
        (fun (c : Bool) => some c) b)
theorem F_law5_RttBetween_eq (N : Nat) (x : Int × Int × Int) : F_law5_RttBetween N x = W_law5_RttBetween N x := by kernel_rfl
noncomputable def con_law5_RttBetween (N : Nat) : Con := ⟨9, as_law5_RttBetween, bs_law5_RttBetween, Bool, W_law5_RttBetween N, out_law5_RttBetween⟩
theorem R_law5_RttBetween_eq (x : Int × Int × Int) (y : Bool) : retOf2 P0 Try.f9 (kpL []) (lbOf as_law5_RttBetween bs_law5_RttBetween x) (patS ⟨97, [], [], []⟩ pout_law5_RttBetween y) = some (out_law5_RttBetween y) := by kernel_rfl
theorem con_law5_RttBetween_ok (N : Nat) : Con.ok P0 (con_law5_RttBetween N) := ⟨⟨Try.f9, Try.func9, by kernel_rfl, by kernel_rfl⟩, fun (x : Int × Int × Int) (r : Bool) (hr : W_law5_RttBetween N x = some r) =>
  spec2_evT (Γ := G_law5_RttBetween N) (Λ := L0) (pout := pout_law5_RttBetween) (kp := kpL []) mixed (orcOf_ok _ (by simp only [List.mem_cons, List.not_mem_nil, or_false, forall_eq_or_imp, forall_eq]; exact ⟨con_law5_begun_ok N, con_rtt_Smooth_ok N⟩)) Try.func9 (c := bodyOf Try.f9) (by kernel_rfl) (by kernel_rfl) (of_decide_eq_true (by kernel_rfl)) ((F_law5_RttBetween_eq N x).trans hr) (R_law5_RttBetween_eq x r)⟩
/-! What is reckoned. -/
def NN : Nat := 100
def cl (x : Int) : Int := min (max x 0) 1000
theorem within_eq (N : Nat) (x : Int) : W_rtt_within N x = some (cl x) := rfl
def sm (o s : Int) : Int := if o ≤ 0 then cl s else (7 * cl o + cl s) / 8
theorem Smooth_eq (N : Nat) (o s : Int) : W_rtt_Smooth N (o, s) = some (sm o s) := by
  unfold W_rtt_Smooth W_rtt_before sm
  by_cases h : o ≤ 0
  · simp only [dT h, cnd_t, obind_s, selim_r, within_eq, if_pos h]
  · simp only [dF h, cnd_f, obind_s, selim_l, within_eq, if_neg h]
    have h1 : 0 ≤ cl o ∧ cl o ≤ 1000 := by unfold cl; omega
    have h2 : 0 ≤ cl s ∧ cl s ≤ 1000 := by unfold cl; omega
    rw [wr_i64 (z := 7 * cl o) (by omega) (by omega), Int.tdiv_eq_ediv_of_nonneg (by rw [wr_i64 (by omega) (by omega)]; omega), wr_i64 (z := 7 * cl o + cl s) (by omega) (by omega), wr_i64 (by omega) (by omega)]
theorem law_true (y0 : Int) (y1 : Int) (y2 : Int) (h0 : Twf (.int .u16) y0) (h1 : Twf (.int .u16) y1) (h2 : Twf (.int .u8) y2) : W_law5_RttBetween NN (y0, y1, y2) = some true := by
  have h0 : 0 ≤ y0 ∧ y0 ≤ 65535 := h0
  have h1 : 0 ≤ y1 ∧ y1 ≤ 65535 := h1
  have h2 : 0 ≤ y2 ∧ y2 ≤ 255 := h2
  unfold W_law5_RttBetween
  simp only [wr_i64 (z := y0) (by omega) (by omega), wr_i64 (z := y1) (by omega) (by omega), Smooth_eq, obind_s]
  rw [Int.tmod_eq_emod_of_nonneg h0.1, Int.tmod_eq_emod_of_nonneg h1.1, Int.tmod_eq_emod_of_nonneg h2.1, wr_i64 (z := y2 % 60) (by omega) (by omega)]
  have ho : 0 ≤ y0 % 1001 ∧ y0 % 1001 ≤ 1000 := by omega
  have hs : 0 ≤ y1 % 1001 ∧ y1 % 1001 ≤ 1000 := by omega
  have hn : y2 % 60 < 60 := by omega
  generalize y0 % 1001 = o at *
  generalize y1 % 1001 = s at *
  generalize y2 % 60 = n at *
  have e1 : sm 0 s = s := by unfold sm cl; simp; omega
  by_cases h : o = 0
  · subst h
    simp only [dT, cnd_t, e1]
  · simp only [dF h, cnd_f]
    refine obind_loop (fun v : Int × Int => 0 ≤ v.1 ∧ v.1 ≤ 1000 ∧ 0 ≤ v.2) (fun v => (n - v.2).toNat) (fun r : PUnit ⊕ Bool => r = .inl () ∨ r = .inr true) (by simp; omega) (by simp [NN]; omega) ?_ ?_
    · rintro r (rfl | rfl)
      · have a1 : sm (-5) s = s := by unfold sm cl; simp; omega
        have c1 : cl 5000 = cl 1000 := by decide
        have c2 : cl (-5) = cl 0 := by decide
        have a2 : sm 5000 s = sm 1000 s := by unfold sm; rw [if_neg (by omega), if_neg (by omega), c1]
        have a3 : sm o 5000 = sm o 1000 := by unfold sm; rw [c1]
        have a4 : sm o (-5) = sm o 0 := by unfold sm; rw [c2]
        simp only [selim_l, a1, a2, a3, a4, dT, cnd_t, obind_s]
      · simp only [selim_r]
    · rintro ⟨v, i⟩ ⟨g1, g2, g3⟩
      simp only at g1 g2 g3 ⊢
      by_cases hi : i < n
      · simp only [dT hi, cnd_t]
        by_cases hv : v = 0
        · subst hv
          right
          have b1 : ¬ s < min 0 s := by omega
          have b2 : ¬ max 0 s < s := by omega
          have b3 : ¬ s < 0 := by omega
          simp only [e1, dF b1, dF b2, dF b3, cnd_f, obind_s, dT, cnd_t]
          exact ⟨_, rfl, .inr rfl⟩
        · left
          have hsm : sm v s = (7 * v + s) / 8 := by
            unfold sm
            rw [if_neg (by omega)]
            have : cl v = v := by unfold cl; omega
            have : cl s = s := by unfold cl; omega
            simp only [*]
          have b1 : ¬ sm v s < min v s := by rw [hsm]; omega
          have b2 : ¬ max v s < sm v s := by rw [hsm]; omega
          have b3 : (cnd (decide (s < v)) (some (decide (sm v s = v))) (some false) : Option Bool) = some false := by
            by_cases h3 : s < v
            · rw [dT h3, cnd_t, dF (by rw [hsm]; omega)]
            · rw [dF h3, cnd_f]
          simp only [dF b1, dF b2, b3, cnd_f, obind_s, dF hv]
          rw [wr_i64 (z := i + 1) (by omega) (by omega)]
          exact ⟨_, rfl, ⟨by rw [hsm]; omega, by rw [hsm]; omega, by simp; omega⟩, by simp; omega⟩
      · right
        simp only [dF hi, cnd_f]
        exact ⟨_, rfl, .inl rfl⟩

theorem spec (y0 : Int) (y1 : Int) (y2 : Int) (h0 : Twf (.int .u16) y0) (h1 : Twf (.int .u16) y1) (h2 : Twf (.int .u8) y2) : Spec2 P0 9 [valW (.int .u16) y0, valW (.int .u16) y1, valW (.int .u8) y2] [] (.bs true) [] [] := (con_law5_RttBetween_ok NN).2 (y0, y1, y2) true (law_true y0 y1 y2 h0 h1 h2)
theorem lifted (os : Os) (started : os.Started) (H : Type) (enc : TypeId × Value → H) :
    ReturnsInHanded {} Try.checked os 9 .any (Rows.rttBetweenSpec.pre6 enc Try.prog Try.f9 Rows.rttBetweenRow.domain false) (Rows.rttBetweenSpec.post enc Try.prog Try.f9 false true false false) := by
  refine returnsInHanded_of_change (C := Try.checked) own started (by kernel_rfl) Try.func9
    (ChangeSpec.witness6 (enc := enc) (C := Try.checked) false ⟨#[], #[.int .u16 0, .int .u16 0, .int .u8 0], []⟩ 8 (by kernel_rfl) (by kernel_rfl) (by kernel_rfl) (by kernel_rfl)) ?_
  intro W base args ds gs before hval0 hW hcnd _
  have hval : ∀ (j : Nat) t v, Try.f9.params[j]? = some t → args[j]? = some v → Value.okWide Try.prog W .any base t v := hval0
  have hW' := hW
  obtain ⟨p, q, hA0, hV, rfl, hfz, hnd⟩ := hW
  have hA : DataW.TrodAll enc Try.prog W 0 (fun _ => true) true Try.f9.params.toList args.toList ds p := hA0
  rw [Try.params9] at hA hval
  obtain ⟨v0, vs0, d0, ds0, p0, q0, hargs, rfl, rfl, h0, r0⟩ := trodAll_cons hA
  obtain ⟨v1, vs1, d1, ds1, p1, q1, rfl, rfl, rfl, h1, r1⟩ := trodAll_cons r0
  obtain ⟨v2, vs2, d2, ds2, p2, q2, rfl, rfl, rfl, h2, r2⟩ := trodAll_cons r1
  obtain ⟨rfl, rfl, rfl⟩ := trodAll_nil r2
  obtain rfl : args = #[v0, v1, v2] := by cases args; simp_all
  obtain ⟨rfl, rfl⟩ := trodVars_none hV
  have k0 := h0
  have lt0 : ∀ x ∈ p0, x.block < W.heap.size := by obtain ⟨m, hm⟩ := k0; exact DataW.trod_lt m _ _ _ hm
  obtain ⟨y0, rp0, wf0⟩ := arg_ok (n := 12) (ty := (.int .u16)) (by kernel_rfl) (hval 0 _ v0 rfl rfl) h0
  have k1 := h1
  have lt1 : ∀ x ∈ p1, x.block < W.heap.size := by obtain ⟨m, hm⟩ := k1; exact DataW.trod_lt m _ _ _ hm
  obtain ⟨y1, rp1, wf1⟩ := arg_ok (n := 12) (ty := (.int .u16)) (by kernel_rfl) (hval 1 _ v1 rfl rfl) h1
  have k2 := h2
  have lt2 : ∀ x ∈ p2, x.block < W.heap.size := by obtain ⟨m, hm⟩ := k2; exact DataW.trod_lt m _ _ _ hm
  obtain ⟨y2, rp2, wf2⟩ := arg_ok (n := 12) (ty := (.int .u8)) (by kernel_rfl) (hval 2 _ v2 rfl rfl) h2
  clear hA0 hval0
  refine (law_of2 (spec y0 y1 y2 wf0 wf1 wf2) W #[v0, v1, v2] (.cons rp0 (.cons rp1 (.cons rp2 .nil)))).mono fun e W' ⟨he, bel⟩ => ?_
  subst he
  exact ⟨_, rfl, _, _, _, [], _, [], hW', trodAll_mk1 (shut_bool Try.underlying4 _), (trodAll_cons_mk (Below.trod laidOut (by kernel_rfl) (of_decide_eq_true (by kernel_rfl)) k0 bel lt0) (trodAll_cons_mk (Below.trod laidOut (by kernel_rfl) (of_decide_eq_true (by kernel_rfl)) k1 bel lt1) (trodAll_cons_mk (Below.trod laidOut (by kernel_rfl) (of_decide_eq_true (by kernel_rfl)) k2 bel lt2) trodAll_mk0))), rfl, bel.frame _, fun h => by cases h⟩

theorem over : Rows.rttBetweenRow.holds Try.pinned (OpenSpec.ofChange Rows.rttBetweenSpec) :=
  OpenClaim.holds_of_wide 9 Try.f9 rfl rfl rfl rfl rfl rfl rfl ⟨rfl, rfl, rfl, rfl, rfl⟩ rfl rfl rfl rfl rfl (by kernel_rfl) Try.func9 (by kernel_rfl)
    (of_decide_eq_true (by kernel_rfl)) (by unfold Func.isWrapper; first | (rw [if_pos (by decide +kernel)]; kernel_rfl) | (rw [if_neg (by decide +kernel)]; exact ⟨rfl, rfl⟩))
    (fun os started H enc _ => lifted os started H enc)

theorem holds : Rows.RttBetweenSaid := over
end Go.Proofs.Ytfiiigeigiaaeaa.rttBetweenX
