/- WorldNew: for all arguments the call returns true. The law is brought to a function of Lean's own (W_..) by the machine of the texts beside it, and that is reckoned; no condition. -/
import Derived.Test.YtiaoojocpcldmaaGreatWorldNewW0
namespace Go.Proofs.YtiaoojocpcldmaaGreat.worldNewX
open Go.Abs Go.RowKit Go.ChangeShapes Go.WideShapes Go.ChangeAt
set_option maxRecDepth 100000
set_option linter.unusedVariables false
set_option linter.unusedSimpArgs false
/-! What is reckoned. -/
-- PURE
theorem loopG {σ ρ : Type} {f : σ → Option (σ ⊕ ρ)} (I : Nat → σ → Prop) (B : Nat) (J : ρ → Prop) (hb : ∀ k x, I k x → k ≤ B) (hs : ∀ k x, I k x → (∃ y, f x = some (.inl y) ∧ I (k + 1) y) ∨ ∃ r, f x = some (.inr r) ∧ J r) :
    ∀ (M k : Nat) (x : σ), I k x → B < M + k → ∃ r, loopN M f x = some r ∧ J r
  | 0, k, x, h, hm => by have := hb k x h; omega
  | M + 1, k, x, h, hm => by
    rcases hs k x h with ⟨y, h1, h2⟩ | ⟨r, h1, h2⟩
    · obtain ⟨r, h4, h5⟩ := loopG I B J hb hs M (k + 1) y h2 (by omega)
      exact ⟨r, by simp only [loopN, h1]; exact h4, h5⟩
    · exact ⟨r, by simp only [loopN, h1], h2⟩
theorem loop_G {σ ρ β : Type} {f : σ → Option (σ ⊕ ρ)} {g : ρ → Option β} {x : σ} {N : Nat} (Q : Option β → Prop) (I : Nat → σ → Prop) (B : Nat) (J : ρ → Prop) (hx : I 0 x) (hm : B < N) (hk : ∀ r, J r → Q (g r)) (hb : ∀ k x, I k x → k ≤ B)
    (hs : ∀ k x, I k x → (∃ y, f x = some (.inl y) ∧ I (k + 1) y) ∨ ∃ r, f x = some (.inr r) ∧ J r) : Q (obind (loopN N f x) g) := by
  obtain ⟨r, h1, h2⟩ := loopG I B J hb hs N 0 x hx (by omega)
  rw [h1]; exact hk r h2
theorem wr_m {z : Int} (h : -140737488355328 ≤ z) (h2 : z ≤ 140737488355328) : wr .i64 z = z := wr_i64 (by omega) (by omega)
theorem cnd_T {α : Type} {p : Prop} {i : Decidable p} {x y : α} (h : p) : cnd (@decide p i) x y = x := by rw [decide_eq_true h]; rfl
theorem cnd_F {α : Type} {p : Prop} {i : Decidable p} {x y : α} (h : ¬ p) : cnd (@decide p i) x y = y := by rw [decide_eq_false h]; rfl
def U8 (l : List Int) : Prop := ∀ n ∈ l, 0 ≤ n ∧ n ≤ 255
theorem U8_get {a : List Int} (ha : U8 a) (j : Nat) (hj : j < a.length) : 0 ≤ a.getD j 0 ∧ a.getD j 0 ≤ 255 := by
  rw [List.getD_eq_getElem?_getD, List.getElem?_eq_getElem hj]
  exact ha _ (List.getElem_mem hj)
def dv (k : Int) : Int := List.getD [(1 : Int), (2 : Int), (3 : Int), (5 : Int), (9 : Int), (9 : Int), (20 : Int), (1000 : Int), (0 : Int)] (Int.toNat k) (0 : Int)
theorem dv_rng (k : Int) : 0 ≤ dv k ∧ dv k ≤ 1000 := by
  unfold dv
  generalize k.toNat = j
  match j with
  | 0 | 1 | 2 | 3 | 4 | 5 | 6 | 7 | 8 => decide
  | j + 9 => simp [List.getD_eq_getElem?_getD]
def gd (D : List (List Int)) (i j : Nat) : Int := (D.getD i []).getD j 0
structure GD (D : List (List Int)) : Prop where
  len : D.length = 8
  row : ∀ i, i < 8 → (D.getD i []).length = 8
  rng : ∀ i j, i < 8 → j < 8 → 0 ≤ gd D i j ∧ gd D i j ≤ 1000
  sym : ∀ i j, i < 8 → j < 8 → gd D i j = gd D j i
theorem lt8 {P : Nat → Prop} (h0 : P 0) (h1 : P 1) (h2 : P 2) (h3 : P 3) (h4 : P 4) (h5 : P 5) (h6 : P 6) (h7 : P 7) : ∀ i, i < 8 → P i
  | 0, _ => h0 | 1, _ => h1 | 2, _ => h2 | 3, _ => h3 | 4, _ => h4 | 5, _ => h5 | 6, _ => h6 | 7, _ => h7
  | n + 8, h => by omega
theorem Num_spec (N : Nat) (m : Int) (l : List Int) (n : Int) (hU : U8 l) (hl : l.length ≤ 1000) (h0 : 0 ≤ n) (h1 : n ≤ l.length) (hm : 1 ≤ m) (hm2 : m ≤ 255) : ∃ v n', W_Picks_Num N (m, l, n) = some (v, l, n') ∧ 0 ≤ v ∧ v < m ∧ 0 ≤ n' ∧ n' ≤ l.length := by
  unfold W_Picks_Num V_Picks_Num
  try simp only
  by_cases hn : (l.length : Int) ≤ n
  · rw [dT hn, cnd_t]; exact ⟨_, _, rfl, by omega, by omega, h0, h1⟩
  have w : wr .i64 (wr .i64 (n + 1) - 1) = n := by rw [wr_m (z := n + 1) (by omega) (by omega), wr_m (z := n + 1 - 1) (by omega) (by omega)]; omega
  have g := U8_get hU n.toNat (by omega)
  rw [w, wr_m (z := n + 1) (by omega) (by omega)]
  clear w
  rw [dF hn, cnd_f, dF (show ¬ m < 1 by omega), cnd_f, dT h0, dT (show n < l.length by omega), Bool.and_self, cnd_t, dF (show ¬ m = 0 by omega), Bool.not_false, cnd_t, wr_m (by omega) (by omega)]
  exact ⟨_, _, rfl, Int.tmod_nonneg _ g.1, Int.tmod_lt_of_pos _ (by omega), by omega, by omega⟩
theorem dTi {p : Prop} {i : Decidable p} (h : p) : @decide p i = true := decide_eq_true h
theorem dFi {p : Prop} {i : Decidable p} (h : ¬ p) : @decide p i = false := decide_eq_false h
theorem loop_congr {σ ρ : Type} {f g : σ → Option (σ ⊕ ρ)} (I : σ → Prop) (h : ∀ x, I x → f x = g x ∧ ∀ y, f x = some (.inl y) → I y) : ∀ (n : Nat) (x : σ), I x → loopN n f x = loopN n g x
  | 0, _, _ => rfl
  | n + 1, x, hx => by
    obtain ⟨h1, h2⟩ := h x hx
    simp only [loopN, ← h1]
    cases e : f x with
    | none => rfl
    | some r =>
      cases r with
      | inl y => exact loop_congr I h n y (h2 y e)
      | inr r => rfl
theorem within_any (N : Nat) (v : Int) : W_rtt_within N v = some (min (max v 0) 1000) := rfl
theorem cell {α : Type} {p1 p2 p3 p4 p5 p6 : Prop} {i1 : Decidable p1} {i2 i2' : Decidable p2} {i3 i3' : Decidable p3} {i4 i4' : Decidable p4} {i5 : Decidable p5} {i6 : Decidable p6} {X Y : Option α} (h : p1 ↔ p5 ∨ p6) :
    (obind (cnd (@decide p1 i1) (some true) (some (@decide p2 i2))) fun (b : Bool) => cnd b X (cnd (@decide p3 i3) (cnd (@decide p4 i4) X Y) Y)) = cnd (@decide p5 i5) X (cnd (@decide p6 i6) X (cnd (@decide p2 i2') X (cnd (@decide p3 i3') (cnd (@decide p4 i4') X Y) Y))) ∧
    ((obind (cnd (@decide p1 i1) (some true) (some (@decide p2 i2))) fun (b : Bool) => cnd b X (cnd (@decide p3 i3) (cnd (@decide p4 i4) X Y) Y)) = X ∨ (obind (cnd (@decide p1 i1) (some true) (some (@decide p2 i2))) fun (b : Bool) => cnd b X (cnd (@decide p3 i3) (cnd (@decide p4 i4) X Y) Y)) = Y) := by
  by_cases h5 : p5
  · rw [@dTi p1 i1 (h.2 (.inl h5)), cnd_t, obind_s, cnd_t, @dTi p5 i5 h5, cnd_t]; exact ⟨rfl, .inl rfl⟩
  by_cases h6 : p6
  · rw [@dTi p1 i1 (h.2 (.inr h6)), cnd_t, obind_s, cnd_t, @dFi p5 i5 h5, cnd_f, @dTi p6 i6 h6, cnd_t]; exact ⟨rfl, .inl rfl⟩
  rw [@dFi p1 i1 (fun q => Or.elim (h.1 q) h5 h6), cnd_f, obind_s, @dFi p5 i5 h5, cnd_f, @dFi p6 i6 h6, cnd_f]
  by_cases h2 : p2
  · rw [@dTi p2 i2 h2, cnd_t, @dTi p2 i2' h2, cnd_t]; exact ⟨rfl, .inl rfl⟩
  rw [@dFi p2 i2 h2, cnd_f, @dFi p2 i2' h2, cnd_f]
  by_cases h3 : p3
  · rw [@dTi p3 i3 h3, cnd_t, @dTi p3 i3' h3, cnd_t]
    by_cases h4 : p4
    · rw [@dTi p4 i4 h4, cnd_t, @dTi p4 i4' h4, cnd_t]; exact ⟨rfl, .inl rfl⟩
    · rw [@dFi p4 i4 h4, cnd_f, @dFi p4 i4' h4, cnd_f]; exact ⟨rfl, .inr rfl⟩
  · rw [@dFi p3 i3 h3, cnd_f, @dFi p3 i3' h3, cnd_f]; exact ⟨rfl, .inr rfl⟩
theorem May_same (N : Nat) (D : List (List Int)) (hN : 1000 ≤ N) : W_rtt_May N D = W_ref1_MayDist N D := by
  unfold W_rtt_May V_rtt_May W_ref1_MayDist V_ref1_MayDist
  by_cases hl : (D.length : Int) ≠ 8
  · rw [dT hl, cnd_t, cnd_t]
  have hl : D.length = 8 := by omega
  rw [dF (show ¬ (D.length : Int) ≠ 8 by omega), cnd_f, cnd_f]
  obtain ⟨r, e, hr⟩ := loopN_run (f := fun (v : Int) => cnd (decide (v < (↑(List.length D) : Int))) (cnd (decide ((0 : Int) ≤ v) && decide (v < (↑(List.length D) : Int))) (cnd (decide ((↑(List.length (List.getD D (Int.toNat v) [])) : Int) ≠ (8 : Int))) (some (Sum.inr (Sum.inr false : Unit ⊕ Bool))) (some (Sum.inl (wr .i64 (v + (1 : Int)))))) none) (some (Sum.inr (Sum.inl ())))) (fun v => ∃ i : Nat, v = i ∧ i ≤ 8 ∧ ∀ j, j < i → (D.getD j []).length = 8) (fun v => 8 - v.toNat) (fun r => (r = .inl () ∧ ∀ j, j < 8 → (D.getD j []).length = 8) ∨ r = .inr false) (fun v => by
    rintro ⟨i, rfl, hi, ha⟩
    by_cases c : (i : Int) < D.length
    case neg =>
      right
      rw [dF c, cnd_f]
      exact ⟨_, rfl, .inl ⟨rfl, fun j hj => ha j (by omega)⟩⟩
    rw [dT c, cnd_t, dT (show (0 : Int) ≤ (i : Int) by omega), Bool.and_self, cnd_t, Int.toNat_natCast]
    by_cases c2 : ((D.getD i []).length : Int) ≠ 8
    · right
      rw [dT c2, cnd_t]
      exact ⟨_, rfl, .inr rfl⟩
    · left
      rw [dF c2, cnd_f, wr_m (by omega) (by omega)]
      refine ⟨_, rfl, ⟨i + 1, by omega, by omega, fun j hj => ?_⟩, by omega⟩
      by_cases q : j = i
      · subst q; omega
      · exact ha j (by omega)) N 0 ⟨0, rfl, by omega, fun j hj => by omega⟩ (by simp; omega)
  refine (congrArg (fun o => obind o _) e).trans (Eq.symm ((congrArg (fun o => obind o _) e).trans (Eq.symm ?_)))
  rw [obind_s, obind_s]
  rcases hr with ⟨rfl, h8⟩ | rfl
  case inr => rfl
  rw [selim_l, selim_l]
  have key : ∀ (f g : Int → Option (Int ⊕ (Unit ⊕ Bool))) (k : Unit ⊕ Bool → Option Bool), (∀ i : Nat, i ≤ 8 → f i = g i ∧ ∀ y, f i = some (.inl y) → ∃ j : Nat, y = j ∧ j ≤ 8) → obind (loopN N f 0) k = obind (loopN N g 0) k := fun f g k h => by
    rw [loop_congr (fun v : Int => ∃ i : Nat, v = i ∧ i ≤ 8) (fun v ⟨i, hv, hi⟩ => by subst hv; exact h i hi) N 0 ⟨0, rfl, by omega⟩]
  refine key _ _ _ fun i hi => ?_
  by_cases c : (i : Int) < D.length
  case neg => rw [dF c, cnd_f, cnd_f]; exact ⟨rfl, fun y hy => by injection hy with hy; cases hy⟩
  have hr := h8 i (by omega)
  simp only [dT (show (i : Int) < ((8 : Nat) : Int) by omega), dT (show (0 : Int) ≤ (i : Int) by omega), Bool.and_self, cnd_t, Int.toNat_natCast, hr, hl]
  have key2 : ∀ (f g : Int → Option (Int ⊕ (Unit ⊕ Bool))), (∀ j : Nat, j ≤ 8 → f j = g j ∧ ∀ y, f j = some (.inl y) → ∃ i : Nat, y = i ∧ i ≤ 8) → loopN N f 0 = loopN N g 0 := fun f g h => loop_congr (fun v : Int => ∃ i : Nat, v = i ∧ i ≤ 8) (fun v ⟨i, hv, hi⟩ => by subst hv; exact h i hi) N 0 ⟨0, rfl, by omega⟩
  refine ⟨congrArg (fun o => obind o _) (key2 _ _ fun j hj => ?_), fun y hy => ?_⟩
  · by_cases c2 : (j : Int) < ((8 : Nat) : Int)
    case neg => rw [dF c2, cnd_f, cnd_f]; exact ⟨rfl, fun y hy => by injection hy with hy; cases hy⟩
    have hr2 := h8 j (by omega)
    simp only [dT c2, dT (show (0 : Int) ≤ (j : Int) by omega), dT (show (i : Int) < ((8 : Nat) : Int) by omega), Bool.and_self, cnd_t, Int.toNat_natCast, hr2, within_any, obind_s]
    rw [wr_m (z := (j : Int) + 1) (by omega) (by omega)]
    have key3 : ∀ (P Q X Y : Option (Int ⊕ (Unit ⊕ Bool))), (P = Q ∧ (P = X ∨ P = Y)) → X = some (.inr (.inr false)) → Y = some (.inl ((j : Int) + 1)) → P = Q ∧ ∀ y, P = some (.inl y) → ∃ i : Nat, y = i ∧ i ≤ 8 := fun P Q X Y h hX hY => by
      refine ⟨h.1, fun y hy => ?_⟩
      rcases h.2 with q | q
      · rw [q, hX] at hy; injection hy with hy; cases hy
      · rw [q, hY] at hy; injection hy with hy; injection hy with hy; exact ⟨j + 1, by omega, by omega⟩
    exact key3 _ _ _ _ (cell (by omega)) rfl rfl
  · have : ∀ (o : Option (Unit ⊕ Bool)), obind o (fun (b : Unit ⊕ Bool) => selim (fun (b : Unit) => some (Sum.inl (wr .i64 ((i : Int) + (1 : Int))) : Int ⊕ (Unit ⊕ Bool))) (fun (c : Bool) => some (Sum.inr (Sum.inr c))) b) = some (.inl y) → y = (i : Int) + 1 := fun o h => by
      cases o with
      | none => cases h
      | some b =>
        cases b with
        | inl u =>
          rw [obind_s, selim_l, wr_m (by omega) (by omega)] at h
          injection h with h; injection h with h; exact h.symm
        | inr b => rw [obind_s, selim_r] at h; injection h with h; cases h
    exact ⟨i + 1, by have := this _ hy; omega, by omega⟩
theorem loop_post {σ ρ β : Type} {f : σ → Option (σ ⊕ ρ)} {k : ρ → Option β} {x : σ} {N : Nat} (Q : Option β → Prop) (I : σ → Prop) (m : σ → Nat) (J : ρ → Prop) (hx : I x) (hm : m x < N) (hk : ∀ r, J r → Q (k r))
    (hs : ∀ x, I x → (∃ y, f x = some (.inl y) ∧ I y ∧ m y < m x) ∨ ∃ r, f x = some (.inr r) ∧ J r) : Q (obind (loopN N f x) k) := by
  obtain ⟨r, h1, h2⟩ := loopN_run I m J hs N x hx hm
  rw [h1]; exact hk r h2
theorem take_snoc (l : List Int) (j : Nat) (h : j < l.length) : l.take (j + 1) = l.take j ++ [l.getD j 0] := by
  rw [List.take_add_one, List.getD_eq_getElem?_getD, List.getElem?_eq_getElem h]; rfl
theorem getD_mem (l : List Int) (j : Nat) (h : j < l.length) : l.getD j 0 ∈ l := by
  rw [List.getD_eq_getElem?_getD, List.getElem?_eq_getElem h]
  exact List.getElem_mem h
theorem Has_eq (N : Nat) (l : List Int) (a : Int) (hlen : l.length ≤ 900) (hN : 1000 ≤ N) : W_ref1_Has N (l, a) = some (decide (a ∈ l)) := by
  unfold W_ref1_Has V_ref1_Has
  try simp only
  refine loop_post (fun o => o = some (decide (a ∈ l))) (fun v => 0 ≤ v ∧ v ≤ l.length ∧ a ∉ l.take v.toNat) (fun v => l.length - v.toNat) (fun r => (r = .inl () ∧ a ∉ l) ∨ (r = .inr true ∧ a ∈ l)) ⟨by simp, by simp, by simp⟩ (by simp; omega) (fun r h => ?_) ?_
  · rcases h with ⟨rfl, h⟩ | ⟨rfl, h⟩
    · rw [selim_l, dF h]
    · rw [selim_r, dT h]
  rintro i ⟨g1, g2, g3⟩
  by_cases h : i < l.length
  · rw [dT h, cnd_t, dT g1, Bool.and_self, cnd_t]
    by_cases e : l.getD i.toNat 0 = a
    · right
      rw [dT e, cnd_t]
      exact ⟨_, rfl, .inr ⟨rfl, e ▸ getD_mem l i.toNat (by omega)⟩⟩
    · left
      rw [dF e, cnd_f, wr_m (by omega) (by omega)]
      refine ⟨_, rfl, ⟨by omega, by omega, ?_⟩, by omega⟩
      rw [show (i + 1).toNat = i.toNat + 1 by omega, take_snoc l _ (by omega)]
      intro hm
      rcases List.mem_append.1 hm with hm | hm
      · exact g3 hm
      · exact e (List.mem_singleton.1 hm).symm
  · right
    rw [dF h, cnd_f]
    rw [List.take_of_length_le (by omega)] at g3
    exact ⟨_, rfl, .inl ⟨rfl, g3⟩⟩
def Z0 (D : List (List Int)) : Prop := ∀ i, i < 8 → gd D i i = 0
theorem Dist_spec1 (N : Nat) (l : List Int) (n : Int) (hU : U8 l) (hl : l.length ≤ 1000) (h0 : 0 ≤ n) (h1 : n ≤ l.length) : ∃ D n', W_Picks_Dist N (l, n) = some (D, l, n') ∧ GD D ∧ Z0 D ∧ 0 ≤ n' ∧ n' ≤ l.length := by
  unfold W_Picks_Dist V_Picks_Dist
  try simp only
  obtain ⟨v0, n0, e0, p0, q0, r0, s0⟩ := Num_spec N 9 l n hU hl h0 h1 (by omega) (by omega)
  rw [e0, obind_s, dT p0, cnd_t, dT (show v0 < ((9 : Nat) : Int) from q0), cnd_t]
  obtain ⟨v1, n1, e1, p1, q1, r1, s1⟩ := Num_spec N 9 l n0 hU hl r0 s0 (by omega) (by omega)
  rw [e1, obind_s, dT p1, cnd_t, dT (show v1 < ((9 : Nat) : Int) from q1), cnd_t]
  obtain ⟨v2, n2, e2, p2, q2, r2, s2⟩ := Num_spec N 9 l n1 hU hl r1 s1 (by omega) (by omega)
  rw [e2, obind_s, dT p2, cnd_t, dT (show v2 < ((9 : Nat) : Int) from q2), cnd_t]
  obtain ⟨v3, n3, e3, p3, q3, r3, s3⟩ := Num_spec N 9 l n2 hU hl r2 s2 (by omega) (by omega)
  rw [e3, obind_s, dT p3, cnd_t, dT (show v3 < ((9 : Nat) : Int) from q3), cnd_t]
  obtain ⟨v4, n4, e4, p4, q4, r4, s4⟩ := Num_spec N 9 l n3 hU hl r3 s3 (by omega) (by omega)
  rw [e4, obind_s, dT p4, cnd_t, dT (show v4 < ((9 : Nat) : Int) from q4), cnd_t]
  obtain ⟨v5, n5, e5, p5, q5, r5, s5⟩ := Num_spec N 9 l n4 hU hl r4 s4 (by omega) (by omega)
  rw [e5, obind_s, dT p5, cnd_t, dT (show v5 < ((9 : Nat) : Int) from q5), cnd_t]
  obtain ⟨v6, n6, e6, p6, q6, r6, s6⟩ := Num_spec N 9 l n5 hU hl r5 s5 (by omega) (by omega)
  rw [e6, obind_s, dT p6, cnd_t, dT (show v6 < ((9 : Nat) : Int) from q6), cnd_t]
  obtain ⟨v7, n7, e7, p7, q7, r7, s7⟩ := Num_spec N 9 l n6 hU hl r6 s6 (by omega) (by omega)
  rw [e7, obind_s, dT p7, cnd_t, dT (show v7 < ((9 : Nat) : Int) from q7), cnd_t]
  obtain ⟨v8, n8, e8, p8, q8, r8, s8⟩ := Num_spec N 9 l n7 hU hl r7 s7 (by omega) (by omega)
  rw [e8, obind_s, dT p8, cnd_t, dT (show v8 < ((9 : Nat) : Int) from q8), cnd_t]
  obtain ⟨v9, n9, e9, p9, q9, r9, s9⟩ := Num_spec N 9 l n8 hU hl r8 s8 (by omega) (by omega)
  rw [e9, obind_s, dT p9, cnd_t, dT (show v9 < ((9 : Nat) : Int) from q9), cnd_t]
  obtain ⟨v10, n10, e10, p10, q10, r10, s10⟩ := Num_spec N 9 l n9 hU hl r9 s9 (by omega) (by omega)
  rw [e10, obind_s, dT p10, cnd_t, dT (show v10 < ((9 : Nat) : Int) from q10), cnd_t]
  obtain ⟨v11, n11, e11, p11, q11, r11, s11⟩ := Num_spec N 9 l n10 hU hl r10 s10 (by omega) (by omega)
  rw [e11, obind_s, dT p11, cnd_t, dT (show v11 < ((9 : Nat) : Int) from q11), cnd_t]
  obtain ⟨v12, n12, e12, p12, q12, r12, s12⟩ := Num_spec N 9 l n11 hU hl r11 s11 (by omega) (by omega)
  rw [e12, obind_s, dT p12, cnd_t, dT (show v12 < ((9 : Nat) : Int) from q12), cnd_t]
  obtain ⟨v13, n13, e13, p13, q13, r13, s13⟩ := Num_spec N 9 l n12 hU hl r12 s12 (by omega) (by omega)
  rw [e13, obind_s, dT p13, cnd_t, dT (show v13 < ((9 : Nat) : Int) from q13), cnd_t]
  obtain ⟨v14, n14, e14, p14, q14, r14, s14⟩ := Num_spec N 9 l n13 hU hl r13 s13 (by omega) (by omega)
  rw [e14, obind_s, dT p14, cnd_t, dT (show v14 < ((9 : Nat) : Int) from q14), cnd_t]
  obtain ⟨v15, n15, e15, p15, q15, r15, s15⟩ := Num_spec N 9 l n14 hU hl r14 s14 (by omega) (by omega)
  rw [e15, obind_s, dT p15, cnd_t, dT (show v15 < ((9 : Nat) : Int) from q15), cnd_t]
  obtain ⟨v16, n16, e16, p16, q16, r16, s16⟩ := Num_spec N 9 l n15 hU hl r15 s15 (by omega) (by omega)
  rw [e16, obind_s, dT p16, cnd_t, dT (show v16 < ((9 : Nat) : Int) from q16), cnd_t]
  obtain ⟨v17, n17, e17, p17, q17, r17, s17⟩ := Num_spec N 9 l n16 hU hl r16 s16 (by omega) (by omega)
  rw [e17, obind_s, dT p17, cnd_t, dT (show v17 < ((9 : Nat) : Int) from q17), cnd_t]
  obtain ⟨v18, n18, e18, p18, q18, r18, s18⟩ := Num_spec N 9 l n17 hU hl r17 s17 (by omega) (by omega)
  rw [e18, obind_s, dT p18, cnd_t, dT (show v18 < ((9 : Nat) : Int) from q18), cnd_t]
  obtain ⟨v19, n19, e19, p19, q19, r19, s19⟩ := Num_spec N 9 l n18 hU hl r18 s18 (by omega) (by omega)
  rw [e19, obind_s, dT p19, cnd_t, dT (show v19 < ((9 : Nat) : Int) from q19), cnd_t]
  obtain ⟨v20, n20, e20, p20, q20, r20, s20⟩ := Num_spec N 9 l n19 hU hl r19 s19 (by omega) (by omega)
  rw [e20, obind_s, dT p20, cnd_t, dT (show v20 < ((9 : Nat) : Int) from q20), cnd_t]
  obtain ⟨v21, n21, e21, p21, q21, r21, s21⟩ := Num_spec N 9 l n20 hU hl r20 s20 (by omega) (by omega)
  rw [e21, obind_s, dT p21, cnd_t, dT (show v21 < ((9 : Nat) : Int) from q21), cnd_t]
  obtain ⟨v22, n22, e22, p22, q22, r22, s22⟩ := Num_spec N 9 l n21 hU hl r21 s21 (by omega) (by omega)
  rw [e22, obind_s, dT p22, cnd_t, dT (show v22 < ((9 : Nat) : Int) from q22), cnd_t]
  obtain ⟨v23, n23, e23, p23, q23, r23, s23⟩ := Num_spec N 9 l n22 hU hl r22 s22 (by omega) (by omega)
  rw [e23, obind_s, dT p23, cnd_t, dT (show v23 < ((9 : Nat) : Int) from q23), cnd_t]
  obtain ⟨v24, n24, e24, p24, q24, r24, s24⟩ := Num_spec N 9 l n23 hU hl r23 s23 (by omega) (by omega)
  rw [e24, obind_s, dT p24, cnd_t, dT (show v24 < ((9 : Nat) : Int) from q24), cnd_t]
  obtain ⟨v25, n25, e25, p25, q25, r25, s25⟩ := Num_spec N 9 l n24 hU hl r24 s24 (by omega) (by omega)
  rw [e25, obind_s, dT p25, cnd_t, dT (show v25 < ((9 : Nat) : Int) from q25), cnd_t]
  obtain ⟨v26, n26, e26, p26, q26, r26, s26⟩ := Num_spec N 9 l n25 hU hl r25 s25 (by omega) (by omega)
  rw [e26, obind_s, dT p26, cnd_t, dT (show v26 < ((9 : Nat) : Int) from q26), cnd_t]
  obtain ⟨v27, n27, e27, p27, q27, r27, s27⟩ := Num_spec N 9 l n26 hU hl r26 s26 (by omega) (by omega)
  rw [e27, obind_s, dT p27, cnd_t, dT (show v27 < ((9 : Nat) : Int) from q27), cnd_t]
  refine ⟨[[(0 : Int), dv v0, dv v1, dv v3, dv v6, dv v10, dv v15, dv v21], [dv v0, (0 : Int), dv v2, dv v4, dv v7, dv v11, dv v16, dv v22], [dv v1, dv v2, (0 : Int), dv v5, dv v8, dv v12, dv v17, dv v23], [dv v3, dv v4, dv v5, (0 : Int), dv v9, dv v13, dv v18, dv v24], [dv v6, dv v7, dv v8, dv v9, (0 : Int), dv v14, dv v19, dv v25], [dv v10, dv v11, dv v12, dv v13, dv v14, (0 : Int), dv v20, dv v26], [dv v15, dv v16, dv v17, dv v18, dv v19, dv v20, (0 : Int), dv v27], [dv v21, dv v22, dv v23, dv v24, dv v25, dv v26, dv v27, (0 : Int)]], n27, rfl, ?_, lt8 rfl rfl rfl rfl rfl rfl rfl rfl, r27, s27⟩
  have d0 := dv_rng v0
  have d1 := dv_rng v1
  have d2 := dv_rng v2
  have d3 := dv_rng v3
  have d4 := dv_rng v4
  have d5 := dv_rng v5
  have d6 := dv_rng v6
  have d7 := dv_rng v7
  have d8 := dv_rng v8
  have d9 := dv_rng v9
  have d10 := dv_rng v10
  have d11 := dv_rng v11
  have d12 := dv_rng v12
  have d13 := dv_rng v13
  have d14 := dv_rng v14
  have d15 := dv_rng v15
  have d16 := dv_rng v16
  have d17 := dv_rng v17
  have d18 := dv_rng v18
  have d19 := dv_rng v19
  have d20 := dv_rng v20
  have d21 := dv_rng v21
  have d22 := dv_rng v22
  have d23 := dv_rng v23
  have d24 := dv_rng v24
  have d25 := dv_rng v25
  have d26 := dv_rng v26
  have d27 := dv_rng v27
  generalize dv v0 = w0 at *
  generalize dv v1 = w1 at *
  generalize dv v2 = w2 at *
  generalize dv v3 = w3 at *
  generalize dv v4 = w4 at *
  generalize dv v5 = w5 at *
  generalize dv v6 = w6 at *
  generalize dv v7 = w7 at *
  generalize dv v8 = w8 at *
  generalize dv v9 = w9 at *
  generalize dv v10 = w10 at *
  generalize dv v11 = w11 at *
  generalize dv v12 = w12 at *
  generalize dv v13 = w13 at *
  generalize dv v14 = w14 at *
  generalize dv v15 = w15 at *
  generalize dv v16 = w16 at *
  generalize dv v17 = w17 at *
  generalize dv v18 = w18 at *
  generalize dv v19 = w19 at *
  generalize dv v20 = w20 at *
  generalize dv v21 = w21 at *
  generalize dv v22 = w22 at *
  generalize dv v23 = w23 at *
  generalize dv v24 = w24 at *
  generalize dv v25 = w25 at *
  generalize dv v26 = w26 at *
  generalize dv v27 = w27 at *
  refine ⟨rfl, lt8 rfl rfl rfl rfl rfl rfl rfl rfl, ?_, fun i j hi hj => lt8 (P := fun i => ∀ j, j < 8 → gd [[(0 : Int), w0, w1, w3, w6, w10, w15, w21], [w0, (0 : Int), w2, w4, w7, w11, w16, w22], [w1, w2, (0 : Int), w5, w8, w12, w17, w23], [w3, w4, w5, (0 : Int), w9, w13, w18, w24], [w6, w7, w8, w9, (0 : Int), w14, w19, w25], [w10, w11, w12, w13, w14, (0 : Int), w20, w26], [w15, w16, w17, w18, w19, w20, (0 : Int), w27], [w21, w22, w23, w24, w25, w26, w27, (0 : Int)]] i j = gd [[(0 : Int), w0, w1, w3, w6, w10, w15, w21], [w0, (0 : Int), w2, w4, w7, w11, w16, w22], [w1, w2, (0 : Int), w5, w8, w12, w17, w23], [w3, w4, w5, (0 : Int), w9, w13, w18, w24], [w6, w7, w8, w9, (0 : Int), w14, w19, w25], [w10, w11, w12, w13, w14, (0 : Int), w20, w26], [w15, w16, w17, w18, w19, w20, (0 : Int), w27], [w21, w22, w23, w24, w25, w26, w27, (0 : Int)]] j i) (lt8 rfl rfl rfl rfl rfl rfl rfl rfl) (lt8 rfl rfl rfl rfl rfl rfl rfl rfl) (lt8 rfl rfl rfl rfl rfl rfl rfl rfl) (lt8 rfl rfl rfl rfl rfl rfl rfl rfl) (lt8 rfl rfl rfl rfl rfl rfl rfl rfl) (lt8 rfl rfl rfl rfl rfl rfl rfl rfl) (lt8 rfl rfl rfl rfl rfl rfl rfl rfl) (lt8 rfl rfl rfl rfl rfl rfl rfl rfl) i hi j hj⟩
  have z : (0 : Int) ≤ 0 ∧ (0 : Int) ≤ 1000 := ⟨by omega, by omega⟩
  refine fun i j hi hj => lt8 (P := fun i => ∀ j, j < 8 → 0 ≤ gd [[(0 : Int), w0, w1, w3, w6, w10, w15, w21], [w0, (0 : Int), w2, w4, w7, w11, w16, w22], [w1, w2, (0 : Int), w5, w8, w12, w17, w23], [w3, w4, w5, (0 : Int), w9, w13, w18, w24], [w6, w7, w8, w9, (0 : Int), w14, w19, w25], [w10, w11, w12, w13, w14, (0 : Int), w20, w26], [w15, w16, w17, w18, w19, w20, (0 : Int), w27], [w21, w22, w23, w24, w25, w26, w27, (0 : Int)]] i j ∧ gd [[(0 : Int), w0, w1, w3, w6, w10, w15, w21], [w0, (0 : Int), w2, w4, w7, w11, w16, w22], [w1, w2, (0 : Int), w5, w8, w12, w17, w23], [w3, w4, w5, (0 : Int), w9, w13, w18, w24], [w6, w7, w8, w9, (0 : Int), w14, w19, w25], [w10, w11, w12, w13, w14, (0 : Int), w20, w26], [w15, w16, w17, w18, w19, w20, (0 : Int), w27], [w21, w22, w23, w24, w25, w26, w27, (0 : Int)]] i j ≤ 1000) ?_ ?_ ?_ ?_ ?_ ?_ ?_ ?_ i hi j hj
  · exact lt8 z d0 d1 d3 d6 d10 d15 d21
  · exact lt8 d0 z d2 d4 d7 d11 d16 d22
  · exact lt8 d1 d2 z d5 d8 d12 d17 d23
  · exact lt8 d3 d4 d5 z d9 d13 d18 d24
  · exact lt8 d6 d7 d8 d9 z d14 d19 d25
  · exact lt8 d10 d11 d12 d13 d14 z d20 d26
  · exact lt8 d15 d16 d17 d18 d19 d20 z d27
  · exact lt8 d21 d22 d23 d24 d25 d26 d27 z

abbrev Cl := List Int × Int
abbrev Lv := List (List Cl)
abbrev Hr := Int × List (List Int) × Lv
theorem rMay_eq (N : Nat) {D : List (List Int)} (hD : GD D) (h0 : Z0 D) (hN : 1000 ≤ N) : W_ref1_MayDist N D = some true := by
  have hl := hD.len
  unfold W_ref1_MayDist V_ref1_MayDist
  try simp only
  rw [dF (show ¬ (D.length : Int) ≠ 8 by omega), cnd_f]
  refine loop_post (σ := Int) (ρ := Unit ⊕ Bool) (β := Bool) (fun o => o = some true) (fun v => ∃ i : Nat, v = i ∧ i ≤ 8) (fun v => 8 - v.toNat) (fun r => r = .inl ()) ⟨0, rfl, by omega⟩ (by simp; omega) ?_ ?_
  rotate_left
  · rintro v ⟨i, rfl, hi⟩
    by_cases c : (i : Int) < D.length
    case neg => right; rw [dF c, cnd_f]; exact ⟨_, rfl, rfl⟩
    left
    have hr := hD.row i (by omega)
    refine ⟨((i + 1 : Nat) : Int), ?_, ⟨i + 1, rfl, by omega⟩, by omega⟩
    rw [dT c, cnd_t, dT (show (0 : Int) ≤ (i : Int) by omega), Bool.and_self, cnd_t, Int.toNat_natCast, dF (show ¬ ((D.getD i []).length : Int) ≠ 8 by omega), cnd_f, wr_m (by omega) (by omega)]
    rfl
  rintro r rfl
  rw [selim_l]
  refine loop_post (σ := Int) (ρ := Unit ⊕ Bool) (β := Bool) (fun o => o = some true) (fun v => ∃ i : Nat, v = i ∧ i ≤ 8) (fun v => 8 - v.toNat) (fun r => r = .inl ()) ⟨0, rfl, by omega⟩ (by simp; omega) (fun r h => by rw [h, selim_l]) ?_
  rintro v ⟨i, rfl, hi⟩
  by_cases c : (i : Int) < D.length
  case neg => right; rw [dF c, cnd_f]; exact ⟨_, rfl, rfl⟩
  left
  have hr := hD.row i (by omega)
  rw [dT c, cnd_t]
  refine loop_post (σ := Int) (ρ := Unit ⊕ Bool) (β := Int ⊕ (Unit ⊕ Bool)) (fun o => ∃ y : Int, o = some (.inl y) ∧ (∃ i : Nat, y = i ∧ i ≤ 8) ∧ 8 - y.toNat < 8 - i) (fun v => ∃ j : Nat, v = j ∧ j ≤ 8) (fun v => 8 - v.toNat) (fun r => r = .inl ()) ⟨0, rfl, by omega⟩ (by simp; omega) (fun r h => ?_) ?_
  · rw [h, selim_l, wr_m (by omega) (by omega)]
    exact ⟨_, rfl, ⟨i + 1, by omega, by omega⟩, by omega⟩
  rintro v ⟨j, rfl, hj⟩
  by_cases c2 : (j : Int) < D.length
  case neg => right; rw [dF c2, cnd_f]; exact ⟨_, rfl, rfl⟩
  left
  have hr2 := hD.row j (by omega)
  have g1 := hD.rng i j (by omega) (by omega)
  have g2 := hD.sym i j (by omega) (by omega)
  have g3 := h0 i (by omega)
  refine ⟨((j + 1 : Nat) : Int), ?_, ⟨j + 1, rfl, by omega⟩, by omega⟩
  unfold gd at g1 g2 g3
  simp only [Int.toNat_natCast, hr, hr2, dT c, dT c2, dT (show (0 : Int) ≤ (i : Int) by omega), dT (show (0 : Int) ≤ (j : Int) by omega), dT (show (i : Int) < ((8 : Nat) : Int) by omega), dT (show (j : Int) < ((8 : Nat) : Int) by omega), Bool.and_self, cnd_t]
  rw [dF (show ¬ (D.getD i []).getD j 0 < 0 by omega), cnd_f, dF (show ¬ 1000 < (D.getD i []).getD j 0 by omega), cnd_f, wr_m (by omega) (by omega)]
  refine (cnd_F (fun q => q g2)).trans ?_
  by_cases e : i = j
  · subst e
    refine (cnd_T rfl).trans ((cnd_F (fun q => q g3)).trans ?_); rfl
  · refine (cnd_F (by omega)).trans ?_; rfl
theorem rNew_eq (N : Nat) {D : List (List Int)} (hD : GD D) (h0 : Z0 D) {k : Int} (hN : 1000 ≤ N) : W_ref7_New N (D, k) = some (if 1 ≤ k ∧ k ≤ 3 then (true, k, D, []) else (false, 0, [], [])) := by
  have hl := hD.len
  unfold W_ref7_New V_ref7_New
  try simp only
  rw [rMay_eq N hD h0 hN, obind_s, Bool.not_true, cnd_f, obind_s]
  try simp only
  by_cases c1 : k < 1
  · rw [dT c1, cnd_t, if_neg (by omega)]
  rw [dF c1, cnd_f]
  by_cases c2 : 3 < k
  · rw [dT c2, cnd_t, if_neg (by omega)]
  rw [dF c2, cnd_f, if_pos (by omega)]
  refine loop_post (σ := Int × Hr × Int × Lv × List (List Int)) (ρ := Hr × Int × Lv × List (List Int)) (β := Bool × Hr) (fun o => o = some (true, k, D, [])) (fun v => ∃ i : Nat, v = ((i : Int), (0, [], []), k, [], D.take i) ∧ i ≤ D.length) (fun v => D.length - v.1.toNat) (fun r => r = ((0, [], []), k, [], D)) ⟨0, by simp, by omega⟩ (by simp; omega) (fun r h => by rw [h]) ?_
  rintro v ⟨i, rfl, hi⟩
  try simp only
  by_cases c : (i : Int) < D.length
  case neg => right; rw [dF c, cnd_f, List.take_of_length_le (by omega)]; exact ⟨_, rfl, rfl⟩
  left
  have hr := hD.row i (by omega)
  refine ⟨(((i + 1 : Nat) : Int), (0, [], []), k, [], D.take (i + 1)), ?_, ⟨i + 1, rfl, by omega⟩, by simp only; omega⟩
  rw [dT c, cnd_t, dT (show (0 : Int) ≤ (i : Int) by omega), Bool.and_self, cnd_t, Int.toNat_natCast, cnd_T (by omega), cnd_T (by rw [List.length_take]; omega), wr_m (by omega) (by omega), List.take_add_one, List.getD_eq_getElem?_getD, List.getElem?_eq_getElem (show i < D.length by omega)]
  rfl
theorem SameInts_eq (N : Nat) (l : List Int) (hl : l.length ≤ 900) (hN : 1000 ≤ N) : W_ref1_SameInts N (l, l) = some true := by
  unfold W_ref1_SameInts V_ref1_SameInts
  try simp only
  refine (cnd_F (fun q => q rfl)).trans ?_
  refine loop_post (σ := Int) (ρ := Unit ⊕ Bool) (β := Bool) (fun o => o = some true) (fun v => 0 ≤ v ∧ v ≤ l.length) (fun v => l.length - v.toNat) (fun r => r = .inl ()) ⟨by simp, by simp⟩ (by simp; omega) (fun r h => by rw [h, selim_l]) ?_
  rintro i ⟨g1, g2⟩
  by_cases h : i < l.length
  · left
    rw [dT h, cnd_t, dT g1, Bool.and_self, cnd_t, cnd_t]
    refine ⟨i + 1, (cnd_F (fun q => q rfl)).trans ?_, ⟨by omega, by omega⟩, by omega⟩
    rw [wr_m (by omega) (by omega)]
  · right
    rw [dF h, cnd_f]
    exact ⟨_, rfl, rfl⟩
theorem SameD_eq (N : Nat) {D : List (List Int)} (hD : GD D) (hN : 1000 ≤ N) : W_ref1_SameDist N (D, D) = some true := by
  have hl := hD.len
  unfold W_ref1_SameDist V_ref1_SameDist
  try simp only
  refine (cnd_F (fun q => q rfl)).trans ?_
  refine loop_post (σ := Int) (ρ := Unit ⊕ Bool) (β := Bool) (fun o => o = some true) (fun v => ∃ i : Nat, v = i ∧ i ≤ 8) (fun v => 8 - v.toNat) (fun r => r = .inl ()) ⟨0, rfl, by omega⟩ (by simp; omega) (fun r h => by rw [h, selim_l]) ?_
  rintro v ⟨i, rfl, hi⟩
  by_cases c : (i : Int) < D.length
  case neg => right; rw [dF c, cnd_f]; exact ⟨_, rfl, rfl⟩
  left
  have hr := hD.row i (by omega)
  refine ⟨((i + 1 : Nat) : Int), ?_, ⟨i + 1, rfl, by omega⟩, by omega⟩
  rw [dT c, cnd_t, dT (show (0 : Int) ≤ (i : Int) by omega), Bool.and_self, cnd_t, cnd_t, Int.toNat_natCast, SameInts_eq N (D.getD i []) (by omega) hN, obind_s, Bool.not_true, cnd_f, wr_m (by omega) (by omega)]
  rfl
theorem ob_q {α β : Type} {o : Option α} {g : α → Option β} {r : Option β} (V : α → Prop) (h : ∃ v, o = some v ∧ V v) (hg : ∀ v, V v → g v = r) : obind o g = r := by
  obtain ⟨v, e, hv⟩ := h
  rw [e]; exact hg v hv
theorem putL_same {α : Type} (l : List α) (i : Nat) (d : α) (h : i < l.length) : putL l [l.getD i d] i = l := by
  unfold putL
  rw [List.length_singleton, List.getD_eq_getElem?_getD, List.getElem?_eq_getElem h]
  have : l.drop i = l[i] :: l.drop (i + 1) := List.drop_eq_getElem_cons h
  show l.take i ++ (l[i] :: l.drop (i + 1)) = l
  rw [← this, List.take_append_drop]
theorem Clone_i (N : Nat) (l : List Int) (hl : l.length ≤ 1000) : W_slices_Clone_int N l = some l := by
  unfold W_slices_Clone_int V_slices_Clone_int
  rw [cnd_T (by omega)]
theorem twin0 (N : Nat) {D : List (List Int)} (hD : GD D) (k : Int) (hN : 1000 ≤ N) : W_twin_Hier N (k, D, []) = some (k, D, []) := by
  have hD8 := hD.len
  unfold W_twin_Hier V_twin_Hier
  try simp only
  have hc : W_slices_Clone_Lint N D = some D := by
    unfold W_slices_Clone_Lint V_slices_Clone_Lint
    rw [cnd_T (by omega)]
  have hcL : W_slices_Clone_Lapi_Cluster N [] = some [] := rfl
  rw [hc, obind_s]
  refine loop_G (σ := Int × Int × Lv × List (List Int) × Int × List (List Int) × Lv) (ρ := Int × Lv × List (List Int) × Int × List (List Int) × Lv) (β := Hr) (· = some (k, D, [])) (fun i v => v = ((i : Int), k, [], D, 0, [], []) ∧ i ≤ 8) 8 (fun r => r = (k, [], D, 0, [], [])) ⟨rfl, by omega⟩ (by omega) ?_ (fun k v h => h.2) ?_
  · rintro r rfl
    try simp only
    rw [hcL, obind_s]
    refine ob_q (fun v : Int × List (List Int) × Lv × Int × List (List Int) × Lv => v = (k, D, [], 0, [], [])) ⟨_, ?_, rfl⟩ ?_
    · obtain ⟨M, rfl⟩ : ∃ M, N = M + 1 := ⟨N - 1, by omega⟩
      simp only [loopN, List.length_nil]
      rw [cnd_F (by omega)]
    · rintro v rfl; rfl
  · rintro i v ⟨rfl, hi⟩
    try simp only
    by_cases c : i < 8
    · left
      have hr := hD.row i c
      rw [cnd_T (by omega), dT (by omega), dT (by omega), Bool.and_self, cnd_t, Int.toNat_natCast, Clone_i N _ (by omega), obind_s, cnd_t, wr_m (z := (i : Int) + 1) (by omega) (by omega), putL_same D i [] (by omega)]
      exact ⟨_, rfl, rfl, by omega⟩
    · right
      rw [cnd_F (by omega)]
      exact ⟨_, rfl, rfl⟩
theorem pMid1 (N : Nat) (hN : 1000 ≤ N) {D : List (List Int)} (hD : GD D) : W_mid_Mid N (D, [1]) = some 1 := by
  have hl := hD.len
  have hr := hD.row 0 (by omega)
  have hb : ∃ v, W_mid_between N (D, 1, 1) = some v := by
    have w0 : wr .i64 ((1 : Int) - 1) = 0 := wr_m (by omega) (by omega)
    unfold W_mid_between V_mid_between
    try simp only
    rw [w0, cnd_F (by omega), obind_s, cnd_F (by omega), obind_s, cnd_F (by omega)]
    rw [dT (by omega), dT (by omega), Bool.and_self, cnd_t]
    simp only [Int.toNat_zero]
    rw [cnd_F (by omega), cnd_t, dT (by omega), Bool.and_self, cnd_t]
    exact ⟨_, rfl⟩
  obtain ⟨v, hv⟩ := hb
  have hf : ∃ f, W_mid_Far N (D, 1, [1]) = some f := by
    obtain ⟨M, rfl⟩ : ∃ M, N = M + 2 := ⟨N - 2, by omega⟩
    refine ⟨max 0 v, ?_⟩
    unfold W_mid_Far V_mid_Far
    refine ob_q (fun x : Int => x = max 0 v) ⟨_, ?_, rfl⟩ ?_
    · simp only [loopN, List.length_singleton]
      rw [cnd_T (by omega), dT (by omega), dT (by omega), Bool.and_self, cnd_t]
      have e : List.getD [(1 : Int)] (Int.toNat 0) 0 = 1 := rfl
      rw [e, hv, obind_s]
      try simp only
      rw [wr_m (z := (0 : Int) + 1) (by omega) (by omega), cnd_F (by omega)]
    · rintro x rfl; rfl
  obtain ⟨f, hf⟩ := hf
  obtain ⟨M, rfl⟩ : ∃ M, N = M + 2 := ⟨N - 2, by omega⟩
  unfold W_mid_Mid V_mid_Mid
  refine ob_q (fun x : PUnit ⊕ Int × Int => x = .inr (1, f)) ⟨_, ?_, rfl⟩ ?_
  · simp only [loopN, List.length_singleton]
    have e : List.getD [(1 : Int)] (Int.toNat 0) 0 = 1 := rfl
    rw [cnd_T (by omega), dT (by omega), dT (by omega), Bool.and_self, cnd_t, e, hf, obind_s]
    have hbt : W_mid_better (M + 2) (Sum.inl (), 1, f) = some (1, f) := rfl
    rw [hbt, obind_s]
    try simp only
    rw [wr_m (z := (0 : Int) + 1) (by omega) (by omega), cnd_F (by omega)]
  · rintro x rfl; rfl
theorem pJoin1 (N : Nat) (hN : 1000 ≤ N) {D : List (List Int)} (hD : GD D) {k : Int} (hk : 1 ≤ k ∧ k ≤ 3) (hm : W_rtt_May N D = some true) : W_hier_Join N ((k, D, []), 1) = some (k, D, [[([1], 1)]]) := by
  have ht := twin0 N hD k hN
  have hmid := pMid1 N hN hD
  obtain ⟨M, rfl⟩ : ∃ M, N = M + 2 := ⟨N - 2, by omega⟩
  have hbg : W_hier_begins (M + 2) (k, D, []) = some true := by
    unfold W_hier_begins V_hier_begins
    try simp only
    rw [hm, obind_s, cnd_t, obind_s]
    try simp only
    rw [dT hk.1, cnd_t, dT hk.2]
  have hgr : W_hier_ground (M + 2) (k, D, []) = some [] := rfl
  have hgd : W_hier_grounded (M + 2) (k, D, []) = some true := by
    unfold W_hier_grounded V_hier_grounded
    rw [hgr, obind_s]
    refine ob_q (fun v : List Int ⊕ Bool => v = .inl []) ⟨_, ?_, rfl⟩ ?_
    · simp only [loopN, List.length_nil]
      rw [cnd_F (by omega)]
    · rintro v rfl
      have h1 : W_slices_Sort_int (M + 2) [] = some [] := rfl
      have h2 : W_hier_rises (M + 2) [] = some true := by
        unfold W_hier_rises V_hier_rises
        refine ob_q (fun v : PUnit ⊕ Bool => v = .inl ()) ⟨_, ?_, rfl⟩ ?_
        · simp only [loopN, List.length_nil]
          rw [cnd_F (by omega)]
        · rintro v rfl; rfl
      simp only [selim]
      rw [h1, obind_s, cnd_T rfl, h2, obind_s]
  have hri0 : W_hier_rise (M + 2) ((k, D, []), []) = some [] := rfl
  have hlk : W_slices_EqualFunc_Lapi_Cluster__hier_likeLevel (M + 2) ([], []) = some true := by
    unfold W_slices_EqualFunc_Lapi_Cluster__hier_likeLevel V_slices_EqualFunc_Lapi_Cluster__hier_likeLevel
    simp only [List.length_nil]
    rw [cnd_F (fun q => q rfl)]
    refine ob_q (fun v : PUnit ⊕ Bool => v = .inl ()) ⟨_, ?_, rfl⟩ ?_
    · simp only [loopN]
      rw [cnd_F (by decide)]
    · rintro v rfl; rfl
  have hMay : W_hier_May (M + 2) (k, D, []) = some true := by
    unfold W_hier_May V_hier_May
    rw [hbg, obind_s, cnd_t, hgd, obind_s, cnd_t, hgr, obind_s, hri0, obind_s]
    try simp only
    rw [hlk, obind_s]
  have hdn : W_hier_down (M + 2) ((k, D, []), 1) = some 0 := by
    have hw : wr .i64 ((([] : Lv).length : Int) - 1) = -1 := by simp only [List.length_nil]; exact wr_m (by omega) (by omega)
    unfold W_hier_down V_hier_down
    try simp only
    rw [hw]
    refine ob_q (fun v : Int => v = 0) ⟨_, ?_, rfl⟩ ?_
    · simp only [loopN]
      rw [cnd_F (by omega)]
    · rintro v rfl; rfl
  have hof : W_clus_Of (M + 2) (D, [1]) = some ([1], 1) := by
    unfold W_clus_Of V_clus_Of
    try simp only
    rw [Clone_i _ _ (by simp), obind_s, hmid, obind_s]
  have hcj : W_clus_Join (M + 2) (D, [], 0, 1, k) = some [([1], 1)] := by
    unfold W_clus_Join V_clus_Join
    simp only [List.length_nil]
    rw [cnd_T (by omega), hof, obind_s]
  have hri : W_hier_rise (M + 2) ((k, D, []), [([1], 1)]) = some [[([1], 1)]] := by
    unfold W_hier_rise V_hier_rise
    simp only [List.length_singleton]
    rw [cnd_F (by omega)]
    refine ob_q (fun v : Lv => v = [[([1], 1)]]) ⟨_, ?_, rfl⟩ ?_
    · simp only [loopN, List.length_singleton]
      rw [cnd_F (by omega)]
    · rintro v rfl; rfl
  unfold W_hier_Join V_hier_Join
  try simp only
  rw [ht, obind_s, hMay, obind_s, cnd_t, obind_s]
  try simp only
  rw [dT (show (1 : Int) ≤ 1 by omega), cnd_t, cnd_T (by omega), hgr, obind_s, hdn, obind_s]
  try simp only
  rw [hcj, obind_s, hri, obind_s]

theorem May_is (N : Nat) (hN : 1000 ≤ N) (D : List (List Int)) : ∃ b, W_ref1_MayDist N D = some b ∧ (b = true → GD D ∧ Z0 D) := by
  unfold W_ref1_MayDist V_ref1_MayDist
  by_cases c0 : (D.length : Int) ≠ 8
  · rw [cnd_T c0]; exact ⟨_, rfl, fun h => by cases h⟩
  rw [cnd_F c0]
  have hl : D.length = 8 := by omega
  refine loop_G (σ := Int) (ρ := PUnit ⊕ Bool) (β := Bool) (fun o => ∃ b, o = some b ∧ (b = true → GD D ∧ Z0 D)) (fun k v => v = (k : Int) ∧ k ≤ 8 ∧ ∀ i, i < k → (D.getD i []).length = 8) 8 (fun r => r = .inr false ∨ r = .inl () ∧ ∀ i, i < 8 → (D.getD i []).length = 8) ⟨rfl, by omega, fun i hi => by omega⟩ (by omega) ?_ (fun k v h => h.2.1) ?_
  · rintro r (rfl | ⟨rfl, hr⟩)
    · exact ⟨_, rfl, fun h => by cases h⟩
    rw [selim_l]
    have bb : ∀ k : Nat, k < 8 → (decide ((0 : Int) ≤ (k : Int)) && decide ((k : Int) < ((8 : Nat) : Int))) = true := fun k h => by rw [dT (by omega), dT (by omega)]; rfl
    refine loop_G (σ := Int) (ρ := PUnit ⊕ Bool) (β := Bool) (fun o => ∃ b, o = some b ∧ (b = true → GD D ∧ Z0 D)) (fun k v => v = (k : Int) ∧ k ≤ 8 ∧ ∀ i, i < k → ∀ j, j < 8 → (0 ≤ gd D i j ∧ gd D i j ≤ 1000) ∧ gd D i j = gd D j i ∧ (i = j → gd D i j = 0)) 8 (fun r => r = .inr false ∨ r = .inl () ∧ ∀ i, i < 8 → ∀ j, j < 8 → (0 ≤ gd D i j ∧ gd D i j ≤ 1000) ∧ gd D i j = gd D j i ∧ (i = j → gd D i j = 0)) ⟨rfl, by omega, fun i hi => by omega⟩ (by omega) ?_ (fun k v h => h.2.1) ?_
    · rintro r (rfl | ⟨rfl, h⟩)
      · exact ⟨_, rfl, fun h => by cases h⟩
      · exact ⟨_, rfl, fun _ => ⟨⟨hl, hr, fun i j hi hj => (h i hi j hj).1, fun i j hi hj => (h i hi j hj).2.1⟩, fun i hi => (h i hi i hi).2.2 rfl⟩⟩
    · rintro k v ⟨rfl, hk, hK⟩
      by_cases c : k < 8
      case neg =>
        right
        rw [cnd_F (by omega)]
        exact ⟨_, rfl, .inr ⟨rfl, fun i hi => hK i (by omega)⟩⟩
      rw [cnd_T (by omega)]
      have hrk := hr k c
      refine loop_G (σ := Int) (ρ := PUnit ⊕ Bool) (β := Int ⊕ (PUnit ⊕ Bool)) (fun o => (∃ y, o = some (.inl y) ∧ y = ((k + 1 : Nat) : Int) ∧ k + 1 ≤ 8 ∧ ∀ i, i < k + 1 → ∀ j, j < 8 → (0 ≤ gd D i j ∧ gd D i j ≤ 1000) ∧ gd D i j = gd D j i ∧ (i = j → gd D i j = 0)) ∨ ∃ r, o = some (.inr r) ∧ (r = .inr false ∨ r = .inl () ∧ ∀ i, i < 8 → ∀ j, j < 8 → (0 ≤ gd D i j ∧ gd D i j ≤ 1000) ∧ gd D i j = gd D j i ∧ (i = j → gd D i j = 0)))
        (fun j v => v = (j : Int) ∧ j ≤ 8 ∧ ∀ i, i < j → (0 ≤ gd D k i ∧ gd D k i ≤ 1000) ∧ gd D k i = gd D i k ∧ (k = i → gd D k i = 0)) 8 (fun r => r = .inr false ∨ r = .inl () ∧ ∀ j, j < 8 → (0 ≤ gd D k j ∧ gd D k j ≤ 1000) ∧ gd D k j = gd D j k ∧ (k = j → gd D k j = 0)) ⟨rfl, by omega, fun i hi => by omega⟩ (by omega) ?_ (fun k v h => h.2.1) ?_
      · rintro r (rfl | ⟨rfl, h⟩)
        · exact .inr ⟨_, rfl, .inl rfl⟩
        · refine .inl ⟨_, rfl, by rw [wr_m (by omega) (by omega)]; omega, by omega, fun i hi j hj => ?_⟩
          by_cases q : i = k
          · subst q; exact h j hj
          · exact hK i (by omega) j hj
      · rintro j v ⟨rfl, hj, hJ⟩
        by_cases d : j < 8
        case neg =>
          right
          rw [cnd_F (by omega)]
          exact ⟨_, rfl, .inr ⟨rfl, fun i hi => hJ i (by omega)⟩⟩
        have hrj := hr j d
        have b1 := bb k c
        have b2 := bb j d
        rw [cnd_T (by omega)]
        simp only [hl, hrk, hrj, b1, b2, cnd_t, Int.toNat_natCast]
        have ekj : (D.getD k []).getD j 0 = gd D k j := rfl
        have ejk : (D.getD j []).getD k 0 = gd D j k := rfl
        simp only [ekj, ejk]
        by_cases g1 : gd D k j < 0
        · right; rw [cnd_T g1]; exact ⟨_, rfl, .inl rfl⟩
        rw [cnd_F g1]
        by_cases g2 : 1000 < gd D k j
        · right; rw [cnd_T g2]; exact ⟨_, rfl, .inl rfl⟩
        rw [cnd_F g2]
        by_cases g3 : gd D k j ≠ gd D j k
        · right; rw [cnd_T g3]; exact ⟨_, rfl, .inl rfl⟩
        rw [cnd_F g3]
        have nx : (k = j → gd D k j = 0) → ∀ i, i < j + 1 → (0 ≤ gd D k i ∧ gd D k i ≤ 1000) ∧ gd D k i = gd D i k ∧ (k = i → gd D k i = 0) := fun h0 i hi => by
          by_cases q : i = j
          · subst q; exact ⟨⟨by omega, by omega⟩, by omega, h0⟩
          · exact hJ i (by omega)
        rw [wr_m (z := (j : Int) + 1) (by omega) (by omega)]
        by_cases g4 : (k : Int) = j
        · rw [cnd_T g4]
          by_cases g5 : gd D k j ≠ 0
          · right; rw [cnd_T g5]; exact ⟨_, rfl, .inl rfl⟩
          · left; rw [cnd_F g5]; exact ⟨_, rfl, by omega, by omega, nx (fun _ => by omega)⟩
        · left; rw [cnd_F g4]; exact ⟨_, rfl, by omega, by omega, nx (fun q => absurd (by omega) g4)⟩
  · rintro k v ⟨rfl, hk, hK⟩
    by_cases c : k < 8
    case neg =>
      right
      rw [cnd_F (by omega)]
      exact ⟨_, rfl, .inr ⟨rfl, fun i hi => hK i (by omega)⟩⟩
    rw [cnd_T (by omega), dT (by omega), dT (by omega), Bool.and_self, cnd_t, Int.toNat_natCast, wr_m (z := (k : Int) + 1) (by omega) (by omega)]
    by_cases d : ((D.getD k []).length : Int) ≠ 8
    · right; rw [cnd_T d]; exact ⟨_, rfl, .inl rfl⟩
    · left
      rw [cnd_F d]
      refine ⟨_, rfl, by omega, by omega, fun i hi => ?_⟩
      by_cases q : i = k
      · subst q; omega
      · exact hK i (by omega)
abbrev Nw := Bool × Int × List UInt8 × A2_ × (Int × A3_) × Int
def zN : Nw := (false, 0, [], (0, 0, 0, 0, 0, 0, [], 0, 0, 0, 0, 0, []), (0, 0, [], [], [], 0, 0), 0)
def rN : Nw := (true, 1, [114, 111, 111, 116], (1, 1, 0, 0, 0, 0, [1], 0, 0, 0, 0, 0, []), (0, 0, [], [], [], 0, 0), 0)
def nodes8 : List Nw := [rN, zN, zN, zN, zN, zN, zN, zN]
abbrev Ww := List Nw × List (Int × List UInt8 × Bool) × List (List UInt8) × Int × List (List Int) × Lv
def newW (k : Int) (D : List (List Int)) : Ww := (nodes8, [], [], k, D, [[([1], 1)]])
def noW : Ww := ([], [], [], 0, [], [])
structure Kn (N : Nat) : Prop where
  pj : W_node_Join N (zN, 1, [114, 111, 111, 116], 0) = some (true, rN)
  rj : W_ref19_Join N (zN, 1, [114, 111, 111, 116], 0) = some (true, rN)
  sr : W_ref19_SameNode N (rN, rN) = some true
  sz : W_ref19_SameNode N (zN, zN) = some true
  sc : W_ref7_SameClusters N ([([1], 1)], [([1], 1)]) = some true
  sg : W_ref13_SameGrams N ([], []) = some true
  no : W_ref21_Same N (noW, noW) = some true
theorem nodes_at (i : Nat) (c : i < 8) : nodes8.getD i zN = rN ∨ nodes8.getD i zN = zN :=
  match i, c with
  | 0, _ => .inl rfl | 1, _ => .inr rfl | 2, _ => .inr rfl | 3, _ => .inr rfl | 4, _ => .inr rfl | 5, _ => .inr rfl | 6, _ => .inr rfl | 7, _ => .inr rfl
  | n + 8, h => by omega
theorem SameW (N : Nat) (hN : 1000 ≤ N) (hK : Kn N) {D : List (List Int)} (hD : GD D) (k : Int) : W_ref21_Same N (newW k D, newW k D) = some true := by
  have hsh : W_ref7_SameHier N ((k, D, [[([1], 1)]]), (k, D, [[([1], 1)]])) = some true := by
    unfold W_ref7_SameHier V_ref7_SameHier
    try simp only
    rw [cnd_F (fun q => q rfl), SameD_eq N hD hN, obind_s, obind_s]
    simp only [Bool.not_true, cnd_f]
    rw [cnd_F (fun q => q rfl)]
    refine loop_G (σ := Int × Hr × Hr) (ρ := PUnit ⊕ Bool) (β := Bool) (· = some true) (fun i v => v = ((i : Int), (k, D, [[([1], 1)]]), (k, D, [[([1], 1)]])) ∧ i ≤ 1) 1 (fun r => r = .inl ()) ⟨rfl, by omega⟩ (by omega) (fun r h => by rw [h, selim_l]) (fun k v h => h.2) ?_
    rintro i v ⟨rfl, hi⟩
    simp only [List.length_singleton]
    by_cases c : i = 0
    · left
      subst c
      have e : List.getD ([[([1], 1)]] : Lv) (Int.toNat ((0 : Nat) : Int)) [] = [([1], 1)] := rfl
      rw [cnd_T (by omega), dT (by omega), dT (by omega), Bool.and_self, cnd_t, cnd_t, e, hK.sc, obind_s, Bool.not_true, cnd_f, wr_m (z := ((0 : Nat) : Int) + 1) (by omega) (by omega)]
      exact ⟨_, rfl, rfl, by omega⟩
    · right
      rw [cnd_F (by omega)]
      exact ⟨_, rfl, rfl⟩
  have hg := hK.sg
  unfold W_ref21_Same V_ref21_Same newW
  try simp only
  rw [cnd_F (fun q => q rfl), hg, obind_s, obind_s]
  simp only [Bool.not_true, cnd_f]
  rw [dF (fun q => q rfl), obind_s]
  simp only [cnd_f]
  rw [hsh, obind_s, Bool.not_true, cnd_f]
  refine loop_G (σ := Int × Ww × Ww) (ρ := (Ww × Ww) ⊕ Bool) (β := Bool) (· = some true) (fun i v => v = ((i : Int), newW k D, newW k D) ∧ i ≤ 8) 8 (fun r => r = .inl (newW k D, newW k D)) ⟨rfl, by omega⟩ (by omega) ?_ (fun k v h => h.2) ?_
  · rintro r rfl
    rw [selim_l]
    clear hK hg hsh
    obtain ⟨M, rfl⟩ : ∃ M, N = M + 1 := ⟨N - 1, by omega⟩
    refine ob_q (fun v : PUnit ⊕ Bool => v = .inl ()) ⟨_, ?_, rfl⟩ ?_
    · rfl
    · rintro v rfl; rfl
  · rintro i v ⟨rfl, hi⟩
    by_cases c : i < 8
    · left
      have hs : W_ref19_SameNode N (nodes8.getD i zN, nodes8.getD i zN) = some true := by
        rcases nodes_at i c with e | e <;> rw [e]
        · exact hK.sr
        · exact hK.sz
      have hn : (newW k D).1.length = 8 := rfl
      simp only [hn]
      rw [cnd_T (by omega), dT (by omega), dT (by omega), Bool.and_self, cnd_t, cnd_t, Int.toNat_natCast]
      refine ⟨(((i + 1 : Nat) : Int), newW k D, newW k D), (congrArg (fun o => obind o _) (show _ = some true from hs)).trans ?_, rfl, by omega⟩
      rw [obind_s, Bool.not_true, cnd_f, wr_m (by omega) (by omega)]
      rfl
    · right
      have hn : (newW k D).1.length = 8 := rfl
      simp only [hn]
      rw [cnd_F (by omega)]
      exact ⟨_, rfl, rfl⟩
def NN : Nat := 3000
theorem kn : Kn NN := ⟨by kernel_rfl, by kernel_rfl, by kernel_rfl, by kernel_rfl, by kernel_rfl, by kernel_rfl, by kernel_rfl⟩
theorem rMid1 (N : Nat) (hN : 1000 ≤ N) (D : List (List Int)) : W_ref7_Mid N (D, [1]) = some 1 := by
  unfold W_ref7_Mid V_ref7_Mid
  refine loop_G (σ := Int × Int) (ρ := Int) (β := Int) (fun o => o = some 1) (fun k v => v = ((if k = 0 then 0 else 1 : Int), (k : Int) + 1) ∧ k ≤ 8) 8 (fun r => r = 1) ⟨rfl, by omega⟩ (by omega) (fun r h => by rw [h]) (fun k v h => h.2) ?_
  rintro k v ⟨rfl, hk⟩
  try simp only
  by_cases c : k < 8
  case neg =>
    right
    rw [cnd_F (by omega), if_neg (by omega)]
    exact ⟨_, rfl, rfl⟩
  left
  rw [cnd_T (by omega), Has_eq N [1] _ (by simp) hN, obind_s]
  by_cases q : k = 0
  · subst q
    rw [dT (by simp), cnd_t, if_pos rfl, cnd_T rfl, wr_m (by omega) (by omega)]
    exact ⟨_, rfl, by simp, by omega⟩
  · rw [dF (by simp; omega), cnd_f, if_neg q, wr_m (by omega) (by omega)]
    exact ⟨_, rfl, by simp, by omega⟩
theorem rJoin1 (N : Nat) (hN : 1000 ≤ N) {D : List (List Int)} (hD : GD D) (h0 : Z0 D) (k : Int) : W_ref7_Join N ((k, D, []), 1) = some (k, D, [[([1], 1)]]) := by
  have hm := rMay_eq N hD h0 hN
  have hof : W_ref7_Of N (D, [1]) = some ([1], 1) := by
    unfold W_ref7_Of V_ref7_Of
    simp only [List.length_singleton]
    rw [cnd_T (by omega), rMid1 N hN, obind_s]
  have hjc : W_ref7_JoinClus N (D, [], 0, 1, k) = some [([1], 1)] := by
    unfold W_ref7_JoinClus V_ref7_JoinClus
    simp only [List.length_nil]
    rw [cnd_T (by omega), cnd_T (by omega), hof, obind_s]
  obtain ⟨M, rfl⟩ : ∃ M, N = M + 1 := ⟨N - 1, by omega⟩
  have hab : W_ref7_above (M + 1) ((k, D, []), [([1], 1)]) = some (k, D, [[([1], 1)]]) := by
    unfold W_ref7_above V_ref7_above
    refine ob_q (fun v => v = (((0 : Int), ([] : List (List Int)), ([] : Lv)), k, D, ([[([1], 1)]] : Lv))) ⟨_, ?_, rfl⟩ ?_
    · simp only [loopN, List.length_singleton, List.length_nil]
      rw [cnd_T (by omega), cnd_T (by omega), cnd_T (by omega)]
      rfl
    · rintro v rfl; rfl
  have hw : wr .i64 ((([] : Lv).length : Int) - 1) = -1 := by simp only [List.length_nil]; exact wr_m (by omega) (by omega)
  unfold W_ref7_Join V_ref7_Join
  try simp only
  rw [hm, obind_s, Bool.not_true, cnd_f, obind_s]
  try simp only
  rw [dF (show ¬ (1 : Int) < 1 by omega), cnd_f, dF (show ¬ (8 : Int) < 1 by omega), obind_s]
  simp only [cnd_f, List.length_nil]
  rw [cnd_F (by omega)]
  refine ob_q (fun v => v = ((0 : Int), (k, D, ([] : Lv)), (0 : Int), ([] : List (List Int)), ([] : Lv))) ⟨_, ?_, rfl⟩ ?_
  · rw [show wr .i64 (((0 : Nat) : Int) - 1) = -1 from hw]
    simp only [loopN]
    rw [cnd_F (by omega)]
  · rintro v rfl
    simp only [List.length_nil]
    rw [cnd_F (by omega), obind_s]
    try simp only
    rw [hjc, obind_s, hab, obind_s]
theorem New_both (N : Nat) (hN : 1000 ≤ N) (hK : Kn N) (D : List (List Int)) (k : Int) : ∃ bo w, W_world_New N (D, k) = some (bo, w) ∧ W_ref21_New N (D, k) = some (bo, w) ∧ W_ref21_Same N (w, w) = some true := by
  obtain ⟨b, hb, hbT⟩ := May_is N hN D
  have hm : W_rtt_May N D = some b := (May_same N D hN).trans hb
  have hno : (W_hier_New N (D, k) = some (false, 0, [], [])) → (W_ref7_New N (D, k) = some (false, 0, [], [])) → ∃ bo w, W_world_New N (D, k) = some (bo, w) ∧ W_ref21_New N (D, k) = some (bo, w) ∧ W_ref21_Same N (w, w) = some true := fun h1 h2 => by
    refine ⟨false, noW, ?_, ?_, hK.no⟩
    · unfold W_world_New V_world_New; rw [h1, obind_s, Bool.not_false, cnd_t]; rfl
    · unfold W_ref21_New V_ref21_New; rw [h2, obind_s, Bool.not_false, cnd_t]; rfl
  cases b with
  | false =>
    refine hno ?_ ?_
    · unfold W_hier_New V_hier_New W_hier_begins V_hier_begins
      try simp only
      rw [hm, obind_s, cnd_f, obind_s, cnd_f, obind_s, Bool.not_false, cnd_t]
    · unfold W_ref7_New V_ref7_New
      try simp only
      rw [hb, obind_s, Bool.not_false, cnd_t, obind_s, cnd_t]
  | true =>
    obtain ⟨hD, h0⟩ := hbT rfl
    have hr := rNew_eq N hD h0 (k := k) hN
    by_cases c : 1 ≤ k ∧ k ≤ 3
    · rw [if_pos c] at hr
      have hp : W_hier_New N (D, k) = some (true, k, D, []) := by
        unfold W_hier_New V_hier_New W_hier_begins V_hier_begins
        try simp only
        rw [hm, obind_s, cnd_t, obind_s, dT c.1, cnd_t, dT c.2, obind_s, Bool.not_true, cnd_f, twin0 N hD k hN, obind_s]
      refine ⟨true, newW k D, ?_, ?_, SameW N hN hK hD k⟩
      · unfold W_world_New V_world_New
        rw [hp, obind_s, Bool.not_true, cnd_f]
        try simp only
        rw [pJoin1 N hN hD c hm, obind_s]
        have := hK.pj
        unfold zN at this
        rw [this, obind_s]
        rfl
      · unfold W_ref21_New V_ref21_New
        rw [hr, obind_s, Bool.not_true, cnd_f]
        try simp only
        rw [rJoin1 N hN hD h0, obind_s]
        have := hK.rj
        unfold zN at this
        rw [this, obind_s]
        rfl
    · rw [if_neg c] at hr
      refine hno ?_ hr
      unfold W_hier_New V_hier_New W_hier_begins V_hier_begins
      try simp only
      rw [hm, obind_s, cnd_t, obind_s]
      try simp only
      by_cases c1 : 1 ≤ k
      · rw [dT c1, cnd_t, dF (fun h => c ⟨c1, h⟩), obind_s, Bool.not_false, cnd_t]
      · rw [dF c1, cnd_f, obind_s, Bool.not_false, cnd_t]
theorem law_true (y0 : List Int) (y1 : List (List Int)) (y2 : Int) (h0 : Twf (.list (.int .u8)) y0) (h1 : Twf (.list (.list (.int .i64))) y1) (h2 : Twf (.int .i64) y2) : W_law22_WorldNew NN (y0, y1, y2) = some true := by
  have hN : 1000 ≤ NN := by decide
  have hU : U8 y0 := h0.2
  have hK := kn
  generalize NN = N at hN hK
  unfold W_law22_WorldNew V_law22_WorldNew
  try simp only
  by_cases c : (30 : Int) < (y0.length : Int)
  · rw [cnd_T c]
  rw [cnd_F c]
  by_cases c2 : (10 : Int) < (y1.length : Int)
  · rw [cnd_T c2]
  rw [cnd_F c2]
  obtain ⟨D, n', e, hD, hz, _⟩ := Dist_spec1 N y0 0 hU (by omega) (by omega) (by omega)
  have key : ∀ (L : List (List Int)) (k : Int) (X : Option Bool), (obind (W_world_New N (L, k)) fun b_1 => obind (W_ref21_New N (L, k)) fun b_2 => cnd (!b_1.1 == b_2.1) (some false) (obind (W_ref21_Same N (b_1.2, b_2.2)) fun b_3 => cnd (!b_3) (some false) X)) = X := fun L k X => by
    obtain ⟨bo, w, h1, h2, h3⟩ := New_both N hN hK L k
    rw [h1, obind_s, h2, obind_s]
    try simp only
    rw [show (!bo == bo) = false by cases bo <;> rfl, cnd_f, h3, obind_s, Bool.not_true, cnd_f]
  refine loop_G (σ := Int) (ρ := PUnit ⊕ Bool) (β := Bool) (fun o => o = some true) (fun k v => v = (k : Int) ∧ k ≤ y1.length) y1.length (fun r => r = .inl () ∨ r = .inr true) ⟨rfl, by omega⟩ (by omega) ?_ (fun k v h => h.2) ?_
  · rintro r (rfl | rfl)
    · rw [selim_l, show W_Made N y0 = some (y0, 0) from rfl, obind_s, e, obind_s]
      exact (key _ _ _).trans ((key _ _ _).trans ((key _ _ _)))
    · rfl
  · rintro k v ⟨rfl, hk⟩
    by_cases ck : k < y1.length
    case neg => right; rw [cnd_F (by omega)]; exact ⟨_, rfl, .inl rfl⟩
    rw [cnd_T (by omega), dT (show (0 : Int) ≤ (k : Int) by omega), dT (show (k : Int) < (y1.length : Int) by omega), Bool.and_self, cnd_t, Int.toNat_natCast]
    by_cases d : (10 : Int) < ((y1.getD k []).length : Int)
    · right; rw [cnd_T d]; exact ⟨_, rfl, .inr rfl⟩
    · left; rw [cnd_F d, wr_m (by omega) (by omega)]; exact ⟨_, rfl, by omega, by omega⟩

end Go.Proofs.YtiaoojocpcldmaaGreat.worldNewX
