/- WaitAll: for every input the call returns true. Functions are brought to functions of Lean's own (W..) by the machine of the texts beside it, and those are reckoned. -/
import Derived.Test.YtelhmjkiajbobabSymG
import Derived.Test.YtelhmjkiajbobabSymF
import Derived.Test.YtelhmjkiajbobabRows
import Derived.WalkKit
import Derived.ProofKit
namespace Go.Proofs.Ytelhmjkiajbobab.waitAllX
open Go.Abs Go.RowKit Go.ChangeShapes Go.WideShapes Go.ChangeAt
set_option maxRecDepth 100000
set_option linter.unusedVariables false
set_option linter.unusedSimpArgs false
def noG : OrcT := fun _ _ _ => .fail
abbrev iT : Ty := .int .i64
abbrev askT : Ty := .agg (.pair iT iT)
noncomputable abbrev P0 : Program := Try.prog
noncomputable def bodyOf (fn : Func) : Code := fn.body.getD .skip
def pw (t : Int) : Int := if t ≤ 0 then 2 else if t = 1 then 4 else if t = 2 then 8 else 16
def nowP (x : (Int × Int) × Int) : Bool := decide (x.1.1 = 0) || decide (x.1.2 ≤ x.2)
def triedP (x : (Int × Int) × Int) : Int × Int := (wr .i64 (x.1.1 + 1), wr .i64 (x.2 + pw x.1.1))
def con7 : Con := ⟨7, [askT, iT], fun x => .ret (.bs (nowP x))⟩
def con8 : Con := ⟨8, [askT, iT], fun x => .ret (.bs (nowP x))⟩
def con9 : Con := ⟨9, [askT, iT], fun x => .ret (valW askT (triedP x))⟩
def con10 : Con := ⟨10, [askT, iT], fun x => .ret (valW askT (triedP x))⟩
def con11 : Con := ⟨11, [askT], fun (x : Int × Int) => .ret (.bs (decide (3 ≤ x.1)))⟩
noncomputable def G0 : OrcT := orcD noG P0 [13] 60 5
noncomputable def G : OrcT := orcD (orcOf [con7, con8, con9, con10, con11]) P0 [6,12] 60 5

noncomputable def F7 (N : Nat) (x : (Int × Int) × Int) : Option Bool :=
  evK G0 P0 [] [] N 100 (bodyOf Go.Proofs.Try.f7) ⟨21, slots 0 (encTs [askT, iT] x), tabU [] [], []⟩ (kRet P0 Go.Proofs.Try.f7 [.bool])
def W7 (N : Nat) (x : (Int × Int) × Int) : Option Bool :=
  cnd (decide (Prod.fst (Prod.fst x) = (0 : Int))) (some true) (some (decide (Prod.snd (Prod.fst x) ≤ Prod.snd x)))
theorem F7_eq (N : Nat) (x : (Int × Int) × Int) : F7 N x = W7 N x := by kernel_rfl

noncomputable def F8 (N : Nat) (x : (Int × Int) × Int) : Option Bool :=
  evK G0 P0 [] [] N 100 (bodyOf Go.Proofs.Try.f8) ⟨14, slots 0 (encTs [askT, iT] x), tabU [] [], []⟩ (kRet P0 Go.Proofs.Try.f8 [.bool])
def W8 (N : Nat) (x : (Int × Int) × Int) : Option Bool :=
  cnd (decide (Prod.fst (Prod.fst x) = (0 : Int))) (some true) (some (decide (Prod.snd (Prod.fst x) ≤ Prod.snd x)))
theorem F8_eq (N : Nat) (x : (Int × Int) × Int) : F8 N x = W8 N x := by kernel_rfl

noncomputable def F9 (N : Nat) (x : (Int × Int) × Int) : Option (Int × Int) :=
  evK G0 P0 [] [] N 100 (bodyOf Go.Proofs.Try.f9) ⟨26, slots 0 (encTs [askT, iT] x), tabU [] [], []⟩ (kRet P0 Go.Proofs.Try.f9 [askT])
def W9 (N : Nat) (x : (Int × Int) × Int) : Option (Int × Int) :=
  cnd (decide (Prod.fst (Prod.fst x) = (0 : Int)))
    (some
      (wr IntKind.i64 ((0 : Int) + (1 : Int)),
        wr IntKind.i64 (Prod.snd x + wr IntKind.i64 ((2 : Int) * (2 : Int) ^ (0 : Nat)))))
    (cnd (!decide (min (max (Prod.fst (Prod.fst x)) (0 : Int)) (3 : Int) < (0 : Int)))
      (some
        (wr IntKind.i64 (Prod.fst (Prod.fst x) + (1 : Int)),
          wr IntKind.i64
            (Prod.snd x +
              wr IntKind.i64
                ((2 : Int) *
                  (2 : Int) ^ min (Int.toNat (min (max (Prod.fst (Prod.fst x)) (0 : Int)) (3 : Int))) (64 : Nat)))))
      none)
theorem F9_eq (N : Nat) (x : (Int × Int) × Int) : F9 N x = W9 N x := by kernel_rfl

noncomputable def F10 (N : Nat) (x : (Int × Int) × Int) : Option (Int × Int) :=
  evK G0 P0 [(3, .loop0 [(2, .box 600002 23 askT), (4, .box 600004 23 askT), (5, .val iT), (6, .val iT)] 0 [(2, .box 600002 23 askT), (4, .box 600004 23 askT), (5, .val iT)])] [] N 100 (bodyOf Go.Proofs.Try.f10) ⟨26, slots 0 (encTs [askT, iT] x), tabU [] [], []⟩ (kRet P0 Go.Proofs.Try.f10 [askT])
def W10 (N : Nat) (x : (Int × Int) × Int) : Option (Int × Int) :=
  obind
    (loopN N
      (fun (v : (Int × Int) × (Int × Int) × Int × Int) =>
        cnd (decide (Prod.snd (Prod.snd (Prod.snd v)) < Prod.fst (Prod.fst v)))
          (cnd (decide (Prod.snd (Prod.snd (Prod.snd v)) < (3 : Int)))
            (some
              (Sum.inl
                ((Prod.fst (Prod.fst v), Prod.snd (Prod.fst v)),
                  (Prod.fst (Prod.fst (Prod.snd v)), Prod.snd (Prod.fst (Prod.snd v))),
                  wr IntKind.i64 (Prod.fst (Prod.snd (Prod.snd v)) * (2 : Int)),
                  wr IntKind.i64 (Prod.snd (Prod.snd (Prod.snd v)) + (1 : Int)))))
            (some
              (Sum.inr
                ((Prod.fst (Prod.fst v), Prod.snd (Prod.fst v)),
                  (Prod.fst (Prod.fst (Prod.snd v)), Prod.snd (Prod.fst (Prod.snd v))),
                  Prod.fst (Prod.snd (Prod.snd v))))))
          (some
            (Sum.inr
              ((Prod.fst (Prod.fst v), Prod.snd (Prod.fst v)),
                (Prod.fst (Prod.fst (Prod.snd v)), Prod.snd (Prod.fst (Prod.snd v))), Prod.fst (Prod.snd (Prod.snd v))))))
      ((Prod.fst (Prod.fst x), Prod.snd (Prod.fst x)), ((0 : Int), (0 : Int)), (2 : Int), (0 : Int)))
    fun (x_1 : (Int × Int) × (Int × Int) × Int) =>
    some (wr IntKind.i64 (Prod.fst (Prod.fst x_1) + (1 : Int)), wr IntKind.i64 (Prod.snd x + Prod.snd (Prod.snd x_1)))
theorem F10_eq (N : Nat) (x : (Int × Int) × Int) : F10 N x = W10 N x := by kernel_rfl

noncomputable def F11 (N : Nat) (x : Int × Int) : Option Bool :=
  evK G0 P0 [] [] N 100 (bodyOf Go.Proofs.Try.f11) ⟨17, slots 0 (encTs [askT] x), tabU [] [], []⟩ (kRet P0 Go.Proofs.Try.f11 [.bool])
def W11 (N : Nat) (x : Int × Int) : Option Bool :=
  cnd (decide (Prod.fst x = (0 : Int))) (some false) (some (decide ((3 : Int) ≤ Prod.fst x)))
theorem F11_eq (N : Nat) (x : Int × Int) : F11 N x = W11 N x := by kernel_rfl

noncomputable def F3 (N : Nat) (a : Int × Int) (now : Int) (l : List Int) : Option Bool :=
  evK G P0 [(10, .loop [(7, .val iT), (8, .box 600008 23 askT), (9, .box 600009 23 askT), (10, .val iT)] 0 [(8, .box 600008 23 askT), (9, .box 600009 23 askT)])]
   [(5, .cut [(3, .box 600003 23 askT)]), (8, .cut []), (15, .cut [(8, .box 600008 23 askT), (9, .box 600009 23 askT)])] N 100 (bodyOf Go.Proofs.Try.f3) ⟨92, slots 0 [valW askT a, .int .u16 now, valW (.list (.int .u8)) l], tabU [] [], []⟩ (kRet P0 Go.Proofs.Try.f3 [.bool])
def W3 (N : Nat) (a : Int × Int) (now : Int) (l : List Int) : Option Bool :=
  obind
    (cnd (decide ((10 : Int) < ↑(List.length l))) (some (Sum.inr true))
      (cnd (decide ((1000 : Int) < Prod.fst a)) (some (Sum.inr true))
        (cnd (decide (Prod.fst a < (0 : Int))) (some (Sum.inr true)) (some (Sum.inl (Prod.fst a, Prod.snd a))))))
    fun (r : Int × Int ⊕ Bool) =>
    selim
      (fun (v : Int × Int) =>
        obind
          (cnd
            (!nowP ((Prod.fst v, Prod.snd v), wr IntKind.i64 now) == nowP ((Prod.fst v, Prod.snd v), wr IntKind.i64 now))
            (some (Sum.inr false))
            (cnd
              (!(decide
                    (Prod.fst (triedP ((Prod.fst v, Prod.snd v), wr IntKind.i64 now)) =
                      Prod.fst (triedP ((Prod.fst v, Prod.snd v), wr IntKind.i64 now))) &&
                  decide
                    (Prod.snd (triedP ((Prod.fst v, Prod.snd v), wr IntKind.i64 now)) =
                      Prod.snd (triedP ((Prod.fst v, Prod.snd v), wr IntKind.i64 now)))))
              (some (Sum.inr false))
              (cnd (!decide ((3 : Int) ≤ Prod.fst v) == decide ((3 : Int) ≤ Prod.fst v)) (some (Sum.inr false))
                (some (Sum.inl ())))))
          fun (r : Unit ⊕ Bool) =>
          selim
            (fun (v : Unit) =>
              obind
                (loopN N
                  (fun (v : Int × (Int × Int) × (Int × Int) × Int) =>
                    cnd (decide (Prod.snd (Prod.snd (Prod.snd v)) < ↑(List.length l)))
                      (cnd
                        (decide ((0 : Int) ≤ Prod.snd (Prod.snd (Prod.snd v))) &&
                          decide (Prod.snd (Prod.snd (Prod.snd v)) < ↑(List.length l)))
                        (obind
                          (cnd
                            (!(decide (Prod.fst (Prod.fst (Prod.snd v)) = Prod.fst (Prod.fst (Prod.snd (Prod.snd v)))) &&
                                decide (Prod.snd (Prod.fst (Prod.snd v)) = Prod.snd (Prod.fst (Prod.snd (Prod.snd v))))))
                            (some (Sum.inr (Sum.inr (Sum.inr false))))
                            (cnd
                              (!nowP
                                    ((Prod.fst (Prod.fst (Prod.snd v)), Prod.snd (Prod.fst (Prod.snd v))),
                                      wr IntKind.i64
                                        (Prod.fst v +
                                          wr IntKind.i64
                                            (Int.tmod
                                              (List.getD l (Int.toNat (Prod.snd (Prod.snd (Prod.snd v)))) (0 : Int))
                                              (9 : Int)))) ==
                                  nowP
                                    ((Prod.fst (Prod.fst (Prod.snd (Prod.snd v))),
                                        Prod.snd (Prod.fst (Prod.snd (Prod.snd v)))),
                                      wr IntKind.i64
                                        (Prod.fst v +
                                          wr IntKind.i64
                                            (Int.tmod
                                              (List.getD l (Int.toNat (Prod.snd (Prod.snd (Prod.snd v)))) (0 : Int))
                                              (9 : Int)))))
                              (some (Sum.inr (Sum.inr (Sum.inr false))))
                              (some
                                (Sum.inl
                                  ((Prod.fst (Prod.fst (Prod.snd v)), Prod.snd (Prod.fst (Prod.snd v))),
                                    Prod.fst (Prod.fst (Prod.snd (Prod.snd v))),
                                    Prod.snd (Prod.fst (Prod.snd (Prod.snd v))))))))
                          fun
                            (r :
                              (Int × Int) × Int × Int ⊕
                                Int × (Int × Int) × (Int × Int) × Int ⊕ (Int × Int) × Int × Int ⊕ Bool) =>
                          selim
                            (fun (v_1 : (Int × Int) × Int × Int) =>
                              cnd
                                (nowP
                                  ((Prod.fst (Prod.snd v_1), Prod.snd (Prod.snd v_1)),
                                    wr IntKind.i64
                                      (Prod.fst v +
                                        wr IntKind.i64
                                          (Int.tmod (List.getD l (Int.toNat (Prod.snd (Prod.snd (Prod.snd v)))) (0 : Int))
                                            (9 : Int)))))
                                (some
                                  (Sum.inl
                                    (wr IntKind.i64
                                        (Prod.fst v +
                                          wr IntKind.i64
                                            (Int.tmod
                                              (List.getD l (Int.toNat (Prod.snd (Prod.snd (Prod.snd v)))) (0 : Int))
                                              (9 : Int))),
                                      (Prod.fst
                                          (triedP
                                            ((Prod.fst (Prod.fst v_1), Prod.snd (Prod.fst v_1)),
                                              wr IntKind.i64
                                                (Prod.fst v +
                                                  wr IntKind.i64
                                                    (Int.tmod
                                                      (List.getD l (Int.toNat (Prod.snd (Prod.snd (Prod.snd v))))
                                                        (0 : Int))
                                                      (9 : Int))))),
                                        Prod.snd
                                          (triedP
                                            ((Prod.fst (Prod.fst v_1), Prod.snd (Prod.fst v_1)),
                                              wr IntKind.i64
                                                (Prod.fst v +
                                                  wr IntKind.i64
                                                    (Int.tmod
                                                      (List.getD l (Int.toNat (Prod.snd (Prod.snd (Prod.snd v))))
                                                        (0 : Int))
                                                      (9 : Int)))))),
                                      (Prod.fst
                                          (triedP
                                            ((Prod.fst (Prod.snd v_1), Prod.snd (Prod.snd v_1)),
                                              wr IntKind.i64
                                                (Prod.fst v +
                                                  wr IntKind.i64
                                                    (Int.tmod
                                                      (List.getD l (Int.toNat (Prod.snd (Prod.snd (Prod.snd v))))
                                                        (0 : Int))
                                                      (9 : Int))))),
                                        Prod.snd
                                          (triedP
                                            ((Prod.fst (Prod.snd v_1), Prod.snd (Prod.snd v_1)),
                                              wr IntKind.i64
                                                (Prod.fst v +
                                                  wr IntKind.i64
                                                    (Int.tmod
                                                      (List.getD l (Int.toNat (Prod.snd (Prod.snd (Prod.snd v))))
                                                        (0 : Int))
                                                      (9 : Int)))))),
                                      wr IntKind.i64 (Prod.snd (Prod.snd (Prod.snd v)) + (1 : Int)))))
                                (some
                                  (Sum.inl
                                    (wr IntKind.i64
                                        (Prod.fst v +
                                          wr IntKind.i64
                                            (Int.tmod
                                              (List.getD l (Int.toNat (Prod.snd (Prod.snd (Prod.snd v)))) (0 : Int))
                                              (9 : Int))),
                                      (Prod.fst (Prod.fst v_1), Prod.snd (Prod.fst v_1)),
                                      (Prod.fst (Prod.snd v_1), Prod.snd (Prod.snd v_1)),
                                      wr IntKind.i64 (Prod.snd (Prod.snd (Prod.snd v)) + (1 : Int))))))
                            some r)
                        none)
                      (some
                        (Sum.inr
                          (Sum.inl
                            ((Prod.fst (Prod.fst (Prod.snd v)), Prod.snd (Prod.fst (Prod.snd v))),
                              Prod.fst (Prod.fst (Prod.snd (Prod.snd v))),
                              Prod.snd (Prod.fst (Prod.snd (Prod.snd v))))))))
                  (wr IntKind.i64 now, ((0 : Int), (0 : Int)), ((0 : Int), (0 : Int)), (0 : Int)))
                fun (r : (Int × Int) × Int × Int ⊕ Bool) =>
                selim
                  (fun (x : (Int × Int) × Int × Int) =>
                    some
                      (decide (Prod.fst (Prod.fst x) = Prod.fst (Prod.snd x)) &&
                        decide (Prod.snd (Prod.fst x) = Prod.snd (Prod.snd x))))
                  some r)
            some r)
      some r
theorem F3_eq (N : Nat) (a : Int × Int) (now : Int) (l : List Int) : F3 N a now l = W3 N a now l := by kernel_rfl

theorem wr_i64 {z : Int} (h : -9223372036854775808 ≤ z) (h2 : z ≤ 9223372036854775807) : wr .i64 z = z := by
  have e1 : lo .i64 = -9223372036854775808 := by rfl
  have e2 : hi .i64 = 9223372036854775807 := by rfl
  unfold wr
  rw [if_pos ⟨by omega, by omega⟩]
theorem dT {p : Prop} [Decidable p] (h : p) : decide p = true := decide_eq_true h
theorem dF {p : Prop} [Decidable p] (h : ¬ p) : decide p = false := decide_eq_false h
theorem cnd_t {α : Type} {x y : α} : cnd true x y = x := rfl
theorem cnd_f {α : Type} {x y : α} : cnd false x y = y := rfl
theorem obind_some {α β : Type} {a : α} {f : α → Option β} : obind (some a) f = f a := rfl
theorem selim_l {α β γ : Type} {f : α → γ} {g : β → γ} {a : α} : selim f g (.inl a) = f a := rfl
theorem selim_r {α β γ : Type} {f : α → γ} {g : β → γ} {b : β} : selim f g (.inr b) = g b := rfl
theorem loopN_run {σ ρ : Type} {f : σ → Option (σ ⊕ ρ)} (I : σ → Prop) (m : σ → Nat) (J : ρ → Prop)
    (hs : ∀ x, I x → (∃ y, f x = some (.inl y) ∧ I y ∧ m y < m x) ∨ ∃ r, f x = some (.inr r) ∧ J r) : ∀ (N : Nat) (x : σ), I x → m x < N → ∃ r, loopN N f x = some r ∧ J r
  | 0, x, _, h => by omega
  | N + 1, x, hx, h => by
    rcases hs x hx with ⟨y, h1, h2, h3⟩ | ⟨r, h1, h2⟩
    · obtain ⟨r, h4, h5⟩ := loopN_run I m J hs N y h2 (by omega)
      exact ⟨r, by simp only [loopN, h1]; exact h4, h5⟩
    · exact ⟨r, by simp only [loopN, h1], h2⟩
theorem obind_loop {σ ρ β : Type} {f : σ → Option (σ ⊕ ρ)} {k : ρ → Option β} {x : σ} {N : Nat} {res : Option β} (I : σ → Prop) (m : σ → Nat) (J : ρ → Prop) (hx : I x) (hm : m x < N) (hk : ∀ r, J r → k r = res)
    (hs : ∀ x, I x → (∃ y, f x = some (.inl y) ∧ I y ∧ m y < m x) ∨ ∃ r, f x = some (.inr r) ∧ J r) : obind (loopN N f x) k = res := by
  obtain ⟨r, h1, h2⟩ := loopN_run I m J hs N x hx hm
  rw [h1]; exact hk r h2

theorem W7_eq (N : Nat) (x : (Int × Int) × Int) : W7 N x = some (nowP x) := by
  unfold W7 nowP cnd; cases decide (x.1.1 = 0) <;> rfl
theorem W8_eq (N : Nat) (x : (Int × Int) × Int) : W8 N x = some (nowP x) := by
  unfold W8 nowP cnd; cases decide (x.1.1 = 0) <;> rfl
theorem W9_eq (N : Nat) (x : (Int × Int) × Int) : W9 N x = some (triedP x) := by
  obtain ⟨⟨t, d⟩, now⟩ := x
  unfold W9 triedP pw
  simp only
  by_cases h0 : t = 0
  · subst h0; simp only [dT, cnd_t]; rfl
  · rw [dF h0, cnd_f]
    by_cases h1 : t < 0
    · rw [show min (max t 0) 3 = 0 by omega]
      simp only [if_pos (show t ≤ 0 by omega)]
      rfl
    · by_cases h2 : t = 1
      · subst h2; rfl
      · by_cases h3 : t = 2
        · subst h3; rfl
        · rw [show min (max t 0) 3 = 3 by omega]
          simp only [if_neg (show ¬ t ≤ 0 by omega), if_neg h2, if_neg h3]
          rfl
theorem W10_eq (x : (Int × Int) × Int) : W10 9 x = some (triedP x) := by
  obtain ⟨⟨t, d⟩, now⟩ := x
  unfold W10 triedP pw
  by_cases h0 : t ≤ 0
  · simp (disch := omega) [loopN, wr_i64, dT, dF, cnd_t, cnd_f, obind_some, h0]
  · by_cases h1 : t = 1
    · subst h1; simp (disch := omega) [loopN, wr_i64, dT, dF, cnd_t, cnd_f, obind_some]
    · by_cases h2 : t = 2
      · subst h2; simp (disch := omega) [loopN, wr_i64, dT, dF, cnd_t, cnd_f, obind_some]
      · by_cases h3 : t = 3
        · subst h3; simp (disch := omega) [loopN, wr_i64, dT, dF, cnd_t, cnd_f, obind_some]
        · simp (disch := omega) [loopN, wr_i64, dT, dF, cnd_t, cnd_f, obind_some, h0, h1, h2]
theorem W11_eq (N : Nat) (x : Int × Int) : W11 N x = some (decide (3 ≤ x.1)) := by
  unfold W11
  by_cases h : x.1 = 0
  · rw [dT h, cnd_t, dF (by omega)]
  · rw [dF h, cnd_f]

theorem W3_true (a : Int × Int) (now : Int) (l : List Int) : W3 12 a now l = some true := by
  unfold W3
  by_cases h1 : (10 : Int) < l.length
  · rw [dT h1]; rfl
  rw [dF h1, cnd_f]
  by_cases h2 : 1000 < a.1
  · rw [dT h2]; rfl
  rw [dF h2, cnd_f]
  by_cases h3 : a.1 < 0
  · rw [dT h3]; rfl
  rw [dF h3, cnd_f, obind_some, selim_l]
  have hb : ∀ b : Bool, (!(b == b)) = false := by decide
  simp only [hb, cnd_f, dT, Bool.and_self, Bool.not_true, obind_some, selim_l]
  refine obind_loop (fun v : Int × (Int × Int) × (Int × Int) × Int => v.2.1 = v.2.2.1 ∧ 0 ≤ v.2.2.2) (fun v => (l.length - v.2.2.2).toNat) (fun r : ((Int × Int) × Int × Int) ⊕ Bool => ∃ b, r = .inl (b, b)) ⟨rfl, by simp⟩ (by simp; omega) ?_ ?_
  · rintro r ⟨b, rfl⟩
    simp only [selim_l, dT, Bool.and_self]
  · rintro ⟨n, b, b', i⟩ ⟨h4, h5⟩
    simp only at h4 h5 ⊢
    subst h4
    by_cases h6 : i < l.length
    · left
      simp only [dT h6, dT h5, Bool.and_self, cnd_t, dT, Bool.not_true, cnd_f, hb, obind_some, selim_l]
      have e : wr .i64 (i + 1) = i + 1 := wr_i64 (by omega) (by omega)
      simp only [e]
      generalize nowP _ = q
      cases q
      · exact ⟨_, rfl, ⟨rfl, by simp; omega⟩, by simp; omega⟩
      · exact ⟨_, rfl, ⟨rfl, by simp; omega⟩, by simp; omega⟩
    · right
      simp only [dF h6, cnd_f]
      exact ⟨_, rfl, b, rfl⟩

theorem own : ownKnob Try.prog.godebug = none := by kernel_rfl
theorem laidOut : laidOutB Try.prog = true := by kernel_rfl
theorem mixed : Try.prog.follows .mixedOrders = true := by decide +kernel
theorem progOk_ : progOk Try.prog = true := by decide +kernel
theorem noG_ok : GammaOk Try.prog noG.orc := fun f xs lb res lb' lf h => by simp [OrcT.orc, noG, Tr.run] at h
theorem G0_ok : GammaOk Try.prog G0.orc := orcD_ok noG_ok mixed progOk_ 5
theorem ok7 : con7.ok Try.prog := ⟨⟨Try.f7, Try.func7, by kernel_rfl, by kernel_rfl⟩, fun (x : (Int × Int) × Int) v h => by
  have hv : v = encR [.bool] (nowP x) := by injection h with h; exact h.symm
  subst hv
  exact spec_evK (ts := [.bool]) mixed G0_ok Try.func7 (fn := Try.f7) (c := bodyOf Try.f7) (by kernel_rfl) (by kernel_rfl) (of_decide_eq_true (by kernel_rfl)) (N := 9) (n := 100) ((F7_eq 9 x).trans (W7_eq 9 x))⟩
theorem ok8 : con8.ok Try.prog := ⟨⟨Try.f8, Try.func8, by kernel_rfl, by kernel_rfl⟩, fun (x : (Int × Int) × Int) v h => by
  have hv : v = encR [.bool] (nowP x) := by injection h with h; exact h.symm
  subst hv
  exact spec_evK (ts := [.bool]) mixed G0_ok Try.func8 (fn := Try.f8) (c := bodyOf Try.f8) (by kernel_rfl) (by kernel_rfl) (of_decide_eq_true (by kernel_rfl)) (N := 9) (n := 100) ((F8_eq 9 x).trans (W8_eq 9 x))⟩
theorem ok9 : con9.ok Try.prog := ⟨⟨Try.f9, Try.func9, by kernel_rfl, by kernel_rfl⟩, fun (x : (Int × Int) × Int) v h => by
  have hv : v = encR [askT] (triedP x) := by injection h with h; exact h.symm
  subst hv
  exact spec_evK (ts := [askT]) mixed G0_ok Try.func9 (fn := Try.f9) (c := bodyOf Try.f9) (by kernel_rfl) (by kernel_rfl) (of_decide_eq_true (by kernel_rfl)) (N := 9) (n := 100) ((F9_eq 9 x).trans (W9_eq 9 x))⟩
theorem ok10 : con10.ok Try.prog := ⟨⟨Try.f10, Try.func10, by kernel_rfl, by kernel_rfl⟩, fun (x : (Int × Int) × Int) v h => by
  have hv : v = encR [askT] (triedP x) := by injection h with h; exact h.symm
  subst hv
  exact spec_evK (ts := [askT]) mixed G0_ok Try.func10 (fn := Try.f10) (c := bodyOf Try.f10) (by kernel_rfl) (by kernel_rfl) (of_decide_eq_true (by kernel_rfl)) (N := 9) (n := 100) ((F10_eq 9 x).trans (W10_eq x))⟩
theorem ok11 : con11.ok Try.prog := ⟨⟨Try.f11, Try.func11, by kernel_rfl, by kernel_rfl⟩, fun (x : Int × Int) v h => by
  have hv : v = encR [.bool] (decide (3 ≤ x.1)) := by injection h with h; exact h.symm
  subst hv
  exact spec_evK (ts := [.bool]) mixed G0_ok Try.func11 (fn := Try.f11) (c := bodyOf Try.f11) (by kernel_rfl) (by kernel_rfl) (of_decide_eq_true (by kernel_rfl)) (N := 9) (n := 100) ((F11_eq 9 x).trans (W11_eq 9 x))⟩
theorem G_ok : GammaOk Try.prog G.orc := orcD_ok (orcOf_ok _ (by simp only [List.mem_cons, List.not_mem_nil, or_false, forall_eq_or_imp, forall_eq]; exact ⟨ok7, ok8, ok9, ok10, ok11⟩)) mixed progOk_ 5
theorem spec3 (a : Int × Int) (now : Int) (l : List Int) : Go.Abs.Spec P0 3 [valW askT a, .int .u16 now, valW (.list (.int .u8)) l] [] (.bs true) [] [] :=
  spec_evK (ts := [.bool]) (r := true) mixed G_ok Try.func3 (fn := Try.f3) (c := bodyOf Try.f3) (by kernel_rfl) (by kernel_rfl) (of_decide_eq_true (by kernel_rfl)) (N := 12) (n := 100) ((F3_eq 12 a now l).trans (W3_true a now l))

set_option maxRecDepth 100000 in
theorem lifted (os : Os) (started : os.Started) (H : Type) (enc : TypeId × Value → H) :
    ReturnsInHanded {} Try.checked os 3 .any (Rows.waitAllSpec.pre6 enc Try.prog Try.f3 Rows.waitAllRow.domain false) (Rows.waitAllSpec.post enc Try.prog Try.f3 false true false false) := by
  refine returnsInHanded_of_change (C := Try.checked) own started (by kernel_rfl) Try.func3
    (ChangeSpec.witness6 (enc := enc) (C := Try.checked) false ⟨#[], #[.agg #[.int .i64 0, .int .i64 0], .int .u16 0, .slice none 0 0], []⟩ 8 (by kernel_rfl) (by kernel_rfl) (by kernel_rfl) (by kernel_rfl)) ?_
  intro W base args ds gs before hval0 hW hcnd _
  have hval : ∀ (j : Nat) t v, Try.f3.params[j]? = some t → args[j]? = some v → Value.okWide Try.prog W .any base t v := hval0
  have hW' := hW
  obtain ⟨p, q, hA0, hV, rfl, hfz, hnd⟩ := hW
  have hA : DataW.TrodAll enc Try.prog W 0 (fun _ => true) true Try.f3.params.toList args.toList ds p := hA0
  rw [Try.params3] at hA hval
  obtain ⟨v0, vs0, d0, ds0, p0, q0, hargs, rfl, rfl, h0, r0⟩ := trodAll_cons hA
  obtain ⟨v1, vs1, d1, ds1, p1, q1, rfl, rfl, rfl, h1, r1⟩ := trodAll_cons r0
  obtain ⟨v2, vs2, d2, ds2, p2, q2, rfl, rfl, rfl, h2, r2⟩ := trodAll_cons r1
  obtain ⟨rfl, rfl, rfl⟩ := trodAll_nil r2
  obtain rfl : args = #[v0, v1, v2] := by cases args; simp_all
  obtain ⟨rfl, rfl⟩ := trodVars_none hV
  have lt0 : ∀ x ∈ p0, x.block < W.heap.size := by obtain ⟨m, hm⟩ := h0; exact DataW.trod_lt m _ _ _ hm
  have lt1 : ∀ x ∈ p1, x.block < W.heap.size := by obtain ⟨m, hm⟩ := h1; exact DataW.trod_lt m _ _ _ hm
  have lt2 : ∀ x ∈ p2, x.block < W.heap.size := by obtain ⟨m, hm⟩ := h2; exact DataW.trod_lt m _ _ _ hm
  obtain ⟨y0, rp0, wf0⟩ := arg_ok (n := 8) (ty := askT) (by kernel_rfl) (hval 0 _ v0 rfl rfl) h0
  obtain ⟨y1, rp1, wf1⟩ := arg_ok (n := 8) (ty := .int .u16) (by kernel_rfl) (hval 1 _ v1 rfl rfl) h1
  obtain ⟨y2, rp2, wf2⟩ := arg_ok (n := 8) (ty := .list (.int .u8)) (by kernel_rfl) (hval 2 _ v2 rfl rfl) h2
  clear hA0 hval0
  refine (law_of (spec3 y0 y1 y2) W #[v0, v1, v2] (.cons rp0 (.cons rp1 (.cons rp2 .nil)))).mono fun e W' ⟨he, bel⟩ => ?_
  subst he
  exact ⟨_, rfl, _, _, _, [], _, [], hW', trodAll_mk1 (shut_bool Try.underlying4 _), (trodAll_cons_mk (Below.trod laidOut (by kernel_rfl) (of_decide_eq_true (by kernel_rfl)) h0 bel lt0) (trodAll_cons_mk (Below.trod laidOut (by kernel_rfl) (of_decide_eq_true (by kernel_rfl)) h1 bel lt1) (trodAll_cons_mk (Below.trod laidOut (by kernel_rfl) (of_decide_eq_true (by kernel_rfl)) h2 bel lt2) trodAll_mk0))), rfl, bel.frame _, fun h => by cases h⟩

theorem over : Rows.waitAllRow.holds Try.pinned (OpenSpec.ofChange Rows.waitAllSpec) :=
  OpenClaim.holds_of_wide 3 Try.f3 rfl rfl rfl rfl rfl rfl rfl ⟨rfl, rfl, rfl, rfl, rfl⟩ rfl rfl rfl rfl rfl (by kernel_rfl) Try.func3 (by kernel_rfl)
    (of_decide_eq_true (by kernel_rfl)) (by unfold Func.isWrapper; first | (rw [if_pos (by decide +kernel)]; kernel_rfl) | (rw [if_neg (by decide +kernel)]; exact ⟨rfl, rfl⟩))
    (fun os started H enc _ => lifted os started H enc)

theorem holds : Rows.WaitAllSaid := over
end Go.Proofs.Ytelhmjkiajbobab.waitAllX
