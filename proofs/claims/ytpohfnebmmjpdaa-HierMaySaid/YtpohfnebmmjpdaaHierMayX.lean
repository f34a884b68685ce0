/- HierMay: for all arguments the call returns true. The law is brought to a function of Lean's own (W_..) by the machine of the texts beside it, and that is reckoned; no condition. -/
import Derived.Test.YtpohfnebmmjpdaaExtHm
import Derived.Test.YtpohfnebmmjpdaaHierMayW0
namespace Go.Proofs.Ytpohfnebmmjpdaa.hierMayX
open Go.Abs Go.RowKit Go.ChangeShapes Go.WideShapes Go.ChangeAt
set_option maxRecDepth 100000
set_option linter.unusedVariables false
set_option linter.unusedSimpArgs false
/-! What is reckoned. -/
-- PURE
theorem wr_m {z : Int} (h : -140737488355328 ≤ z) (h2 : z ≤ 140737488355328) : wr .i64 z = z := wr_i64 (by omega) (by omega)
theorem cnd_T {α : Type} {p : Prop} {i : Decidable p} {x y : α} (h : p) : cnd (@decide p i) x y = x := by rw [decide_eq_true h]; rfl
theorem cnd_F {α : Type} {p : Prop} {i : Decidable p} {x y : α} (h : ¬ p) : cnd (@decide p i) x y = y := by rw [decide_eq_false h]; rfl
def U8 (l : List Int) : Prop := ∀ n ∈ l, 0 ≤ n ∧ n ≤ 255
theorem U8_get {a : List Int} (ha : U8 a) (j : Nat) (hj : j < a.length) : 0 ≤ a.getD j 0 ∧ a.getD j 0 ≤ 255 := by
  rw [List.getD_eq_getElem?_getD, List.getElem?_eq_getElem hj]
  exact ha _ (List.getElem_mem hj)
def dv (k : Int) : Int := List.getD [(1 : Int), (2 : Int), (3 : Int), (5 : Int), (9 : Int), (9 : Int), (20 : Int), (1000 : Int), (0 : Int)] (Int.toNat k) (0 : Int)
theorem dv_rng (k : Int) : 0 ≤ dv k ∧ dv k ≤ 1000 := by
  unfold dv
  generalize k.toNat = j
  match j with
  | 0 | 1 | 2 | 3 | 4 | 5 | 6 | 7 | 8 => decide
  | j + 9 => simp [List.getD_eq_getElem?_getD]
/-- A square of distances. -/
def gd (D : List (List Int)) (i j : Nat) : Int := (D.getD i []).getD j 0
structure GD (D : List (List Int)) : Prop where
  len : D.length = 8
  row : ∀ i, i < 8 → (D.getD i []).length = 8
  rng : ∀ i j, i < 8 → j < 8 → 0 ≤ gd D i j ∧ gd D i j ≤ 1000
  sym : ∀ i j, i < 8 → j < 8 → gd D i j = gd D j i
theorem lt8 {P : Nat → Prop} (h0 : P 0) (h1 : P 1) (h2 : P 2) (h3 : P 3) (h4 : P 4) (h5 : P 5) (h6 : P 6) (h7 : P 7) : ∀ i, i < 8 → P i
  | 0, _ => h0 | 1, _ => h1 | 2, _ => h2 | 3, _ => h3 | 4, _ => h4 | 5, _ => h5 | 6, _ => h6 | 7, _ => h7
  | n + 8, h => by omega
theorem Num_spec (N : Nat) (m : Int) (l : List Int) (n : Int) (hU : U8 l) (hl : l.length ≤ 1000) (h0 : 0 ≤ n) (h1 : n ≤ l.length) (hm : 1 ≤ m) (hm2 : m ≤ 255) : ∃ v n', W_Picks_Num N (m, l, n) = some (v, l, n') ∧ 0 ≤ v ∧ v < m ∧ 0 ≤ n' ∧ n' ≤ l.length := by
  unfold W_Picks_Num V_Picks_Num
  try simp only
  by_cases hn : (l.length : Int) ≤ n
  · rw [dT hn, cnd_t]; exact ⟨_, _, rfl, by omega, by omega, h0, h1⟩
  have w : wr .i64 (wr .i64 (n + 1) - 1) = n := by rw [wr_m (z := n + 1) (by omega) (by omega), wr_m (z := n + 1 - 1) (by omega) (by omega)]; omega
  have g := U8_get hU n.toNat (by omega)
  rw [w, wr_m (z := n + 1) (by omega) (by omega)]
  clear w
  rw [dF hn, cnd_f, dF (show ¬ m < 1 by omega), cnd_f, dT h0, dT (show n < l.length by omega), Bool.and_self, cnd_t, dF (show ¬ m = 0 by omega), Bool.not_false, cnd_t, wr_m (by omega) (by omega)]
  exact ⟨_, _, rfl, Int.tmod_nonneg _ g.1, Int.tmod_lt_of_pos _ (by omega), by omega, by omega⟩
theorem loop_post {σ ρ β : Type} {f : σ → Option (σ ⊕ ρ)} {k : ρ → Option β} {x : σ} {N : Nat} (Q : Option β → Prop) (I : σ → Prop) (m : σ → Nat) (J : ρ → Prop) (hx : I x) (hm : m x < N) (hk : ∀ r, J r → Q (k r))
    (hs : ∀ x, I x → (∃ y, f x = some (.inl y) ∧ I y ∧ m y < m x) ∨ ∃ r, f x = some (.inr r) ∧ J r) : Q (obind (loopN N f x) k) := by
  obtain ⟨r, h1, h2⟩ := loopN_run I m J hs N x hx hm
  rw [h1]; exact hk r h2
def S8 (l : List Int) : Prop := ∀ b ∈ l, 1 ≤ b ∧ b ≤ 8
def G (D : List (List Int)) (a b : Int) : Int := gd D (a - 1).toNat (b - 1).toNat
def far (D : List (List Int)) (a : Int) (l : List Int) : Int := l.foldl (fun m b => max m (G D a b)) 0
theorem take_snoc (l : List Int) (j : Nat) (h : j < l.length) : l.take (j + 1) = l.take j ++ [l.getD j 0] := by
  rw [List.take_add_one, List.getD_eq_getElem?_getD, List.getElem?_eq_getElem h]; rfl
theorem getD_mem (l : List Int) (j : Nat) (h : j < l.length) : l.getD j 0 ∈ l := by
  rw [List.getD_eq_getElem?_getD, List.getElem?_eq_getElem h]
  exact List.getElem_mem h
theorem far_snoc (D : List (List Int)) (a : Int) (l : List Int) (b : Int) : far D a (l ++ [b]) = max (far D a l) (G D a b) := by
  unfold far; rw [List.foldl_append]; rfl
theorem row_eq {D : List (List Int)} (hD : GD D) {a : Int} (ha : 1 ≤ a ∧ a ≤ 8) : ((D.getD (a - 1).toNat []).length : Int) = 8 := by
  have := hD.row (a - 1).toNat (by omega); omega
theorem len_eq {D : List (List Int)} (hD : GD D) : (D.length : Int) = 8 := by
  have := hD.len; omega
theorem between_eq (N : Nat) {D : List (List Int)} (hD : GD D) {a b : Int} (ha : 1 ≤ a ∧ a ≤ 8) (hb : 1 ≤ b ∧ b ≤ 8) : W_mid_between N (D, a, b) = some (G D a b) := by
  unfold W_mid_between V_mid_between
  try simp only
  rw [wr_m (z := a - 1) (by omega) (by omega), wr_m (z := b - 1) (by omega) (by omega), row_eq hD ha, len_eq hD]
  rw [dF (show ¬ a < 1 by omega), cnd_f, dF (show ¬ 8 < a by omega), obind_s, cnd_f, dF (show ¬ b < 1 by omega), obind_s, cnd_f, dT (show 0 ≤ a - 1 by omega), dT (show a - 1 < 8 by omega), Bool.and_self, cnd_t, dF (show ¬ 8 < b by omega), cnd_f, cnd_t, dT (show 0 ≤ b - 1 by omega), dT (show b - 1 < 8 by omega), Bool.and_self, cnd_t]
  rfl
theorem Far_eq (N : Nat) {D : List (List Int)} (hD : GD D) {a : Int} (ha : 1 ≤ a ∧ a ≤ 8) {l : List Int} (hl : S8 l) (hlen : l.length ≤ 900) (hN : 1000 ≤ N) : W_mid_Far N (D, a, l) = some (far D a l) := by
  unfold W_mid_Far V_mid_Far
  try simp only
  refine loop_post (fun o => o = some (far D a l)) (fun v => 0 ≤ v.2 ∧ v.2 ≤ l.length ∧ v.1 = far D a (l.take v.2.toNat)) (fun v => l.length - v.2.toNat) (fun r => r = far D a l) ⟨by simp, by simp, rfl⟩ (by simp; omega) (fun r h => by rw [h]) ?_
  rintro ⟨m, i⟩ ⟨g1, g2, g3⟩
  simp only at g1 g2 g3 ⊢
  by_cases h : i < l.length
  · left
    have hb := hl _ (getD_mem l i.toNat (by omega))
    rw [dT h, cnd_t, dT g1, Bool.and_self, cnd_t, between_eq N hD ha hb, obind_s, wr_m (by omega) (by omega)]
    refine ⟨_, rfl, ⟨by omega, by omega, ?_⟩, by omega⟩
    try simp only
    rw [show (i + 1).toNat = i.toNat + 1 by omega, take_snoc l _ (by omega), far_snoc, g3]
  · right
    rw [dF h, cnd_f]
    refine ⟨_, rfl, ?_⟩
    rw [g3, List.take_of_length_le (by omega)]
/-- The least of a list by a measure, then by itself. -/
def Least (F : Int → Int) (l : List Int) (w : Int) : Prop := w ∈ l ∧ ∀ x ∈ l, F w < F x ∨ (F w = F x ∧ w ≤ x)
theorem Least_one {F : Int → Int} {l : List Int} {v w : Int} (hv : Least F l v) (hw : Least F l w) : v = w := by
  have h1 := hv.2 w hw.1
  have h2 := hw.2 v hv.1
  omega
theorem Least_snoc {F : Int → Int} {l : List Int} {w b : Int} (h : Least F l w) : Least F (l ++ [b]) (if F b < F w ∨ F w = F b ∧ b < w then b else w) := by
  by_cases c : F b < F w ∨ F w = F b ∧ b < w
  · rw [if_pos c]
    refine ⟨by simp, fun x hx => ?_⟩
    rcases List.mem_append.1 hx with hx | hx
    · have := h.2 x hx; omega
    · rw [List.mem_singleton.1 hx]; omega
  · rw [if_neg c]
    refine ⟨List.mem_append.2 (.inl h.1), fun x hx => ?_⟩
    rcases List.mem_append.1 hx with hx | hx
    · exact h.2 x hx
    · rw [List.mem_singleton.1 hx]; omega
theorem Least_first {F : Int → Int} {b : Int} : Least F [b] b := ⟨by simp, fun x hx => by rw [List.mem_singleton.1 hx]; omega⟩
theorem better_l (N : Nat) (u : Unit) (a f : Int) : W_mid_better N (.inl u, a, f) = some (a, f) := rfl
theorem better_r (N : Nat) (w g a f : Int) : W_mid_better N (.inr (w, g), a, f) = some (if f < g ∨ g = f ∧ a < w then (a, f) else (w, g)) := by
  unfold W_mid_better V_mid_better
  try simp only
  rw [selim_r]
  by_cases h : g < f
  · rw [dT h, cnd_t, if_neg (by omega)]
  rw [dF h, cnd_f]
  by_cases h2 : g = f
  · rw [dT h2, cnd_t]
    by_cases h3 : w < a
    · rw [dT h3, cnd_t, if_neg (by omega)]
    · rw [dF h3, cnd_f]
      by_cases h4 : a < w
      · rw [if_pos (.inr ⟨h2, h4⟩)]
      · rw [if_neg (by omega), show a = w by omega, h2]
  · rw [dF h2, cnd_f, if_pos (by omega)]
/-- What the search for the least has: nothing from an empty list, the least from another. -/
def Sofar (F : Int → Int) (l : List Int) (c : Unit ⊕ (Int × Int)) : Prop := (l = [] ∧ c = .inl ()) ∨ ∃ w, c = .inr (w, F w) ∧ Least F l w
theorem Sofar_snoc (N : Nat) {F : Int → Int} {l : List Int} {c : Unit ⊕ (Int × Int)} (h : Sofar F l c) (b : Int) : ∃ p : Int × Int, W_mid_better N (c, b, F b) = some p ∧ Sofar F (l ++ [b]) (.inr p) := by
  rcases h with ⟨rfl, rfl⟩ | ⟨w, rfl, hw⟩
  · exact ⟨_, better_l N () b (F b), .inr ⟨b, rfl, Least_first⟩⟩
  · rw [better_r]
    refine ⟨_, rfl, .inr ⟨_, ?_, Least_snoc (b := b) hw⟩⟩
    by_cases c : F b < F w ∨ F w = F b ∧ b < w
    · rw [if_pos c, if_pos c]
    · rw [if_neg c, if_neg c]
def Who (F : Int → Int) (l : List Int) (v : Int) : Prop := (l = [] ∧ v = 0) ∨ Least F l v
theorem Sofar_who (N : Nat) {F : Int → Int} {l : List Int} {c : Unit ⊕ (Int × Int)} (h : Sofar F l c) : ∃ v, W_mid_who N c = some v ∧ Who F l v := by
  rcases h with ⟨rfl, rfl⟩ | ⟨w, rfl, hw⟩
  · exact ⟨0, rfl, .inl ⟨rfl, rfl⟩⟩
  · exact ⟨w, rfl, .inr hw⟩
theorem Near_spec (N : Nat) {D : List (List Int)} (hD : GD D) {a : Int} (ha : 1 ≤ a ∧ a ≤ 8) {l : List Int} (hl : S8 l) (hlen : l.length ≤ 900) (hN : 1000 ≤ N) : ∃ v, W_mid_Near N (D, a, l) = some v ∧ Who (fun x => G D a x) (l.filter fun x => decide (x ≠ a)) v := by
  unfold W_mid_Near V_mid_Near
  try simp only
  refine loop_post (fun o => ∃ v, o = some v ∧ Who (fun x => G D a x) (l.filter fun x => decide (x ≠ a)) v) (fun v => 0 ≤ v.2 ∧ v.2 ≤ l.length ∧ Sofar (fun x => G D a x) ((l.take v.2.toNat).filter fun x => decide (x ≠ a)) v.1) (fun v => l.length - v.2.toNat) (fun r => Sofar (fun x => G D a x) (l.filter fun x => decide (x ≠ a)) r) ⟨by simp, by simp, .inl ⟨rfl, rfl⟩⟩ (by simp; omega) (fun r h => ?_) ?_
  · obtain ⟨v, e, h⟩ := Sofar_who N h
    rw [e]; exact ⟨v, rfl, h⟩
  rintro ⟨m, i⟩ ⟨g1, g2, g3⟩
  simp only at g1 g2 g3 ⊢
  by_cases h : i < l.length
  · left
    have hb := hl _ (getD_mem l i.toNat (by omega))
    have ht : l.take (i + 1).toNat = l.take i.toNat ++ [l.getD i.toNat 0] := by rw [show (i + 1).toNat = i.toNat + 1 by omega, take_snoc l _ (by omega)]
    rw [dT h, cnd_t, dT g1, Bool.and_self, cnd_t, wr_m (z := i + 1) (by omega) (by omega)]
    generalize l.getD i.toNat 0 = b at *
    by_cases hba : b = a
    · refine ⟨(m, i + 1), cnd_F (fun c => c hba), ⟨by omega, by omega, ?_⟩, by simp only; omega⟩
      try simp only
      rw [ht, List.filter_append, show List.filter (fun x => decide (x ≠ a)) [b] = [] by simp [hba], List.append_nil]
      exact g3
    · obtain ⟨p, e, hp⟩ := Sofar_snoc N g3 b
      refine ⟨(.inr p, i + 1), (cnd_T hba).trans ?_, ⟨by omega, by omega, ?_⟩, by simp only; omega⟩
      · rw [between_eq N hD ha hb, obind_s, e, obind_s]
      · simp only
        rw [ht, List.filter_append, show List.filter (fun x => decide (x ≠ a)) [b] = [b] by simp [hba]]
        exact hp
  · right
    rw [dF h, cnd_f]
    refine ⟨_, rfl, ?_⟩
    rw [List.take_of_length_le (by omega)] at g3
    exact g3
theorem Has_eq (N : Nat) (l : List Int) (a : Int) (hlen : l.length ≤ 900) (hN : 1000 ≤ N) : W_ref1_Has N (l, a) = some (decide (a ∈ l)) := by
  unfold W_ref1_Has V_ref1_Has
  try simp only
  refine loop_post (fun o => o = some (decide (a ∈ l))) (fun v => 0 ≤ v ∧ v ≤ l.length ∧ a ∉ l.take v.toNat) (fun v => l.length - v.toNat) (fun r => (r = .inl () ∧ a ∉ l) ∨ (r = .inr true ∧ a ∈ l)) ⟨by simp, by simp, by simp⟩ (by simp; omega) (fun r h => ?_) ?_
  · rcases h with ⟨rfl, h⟩ | ⟨rfl, h⟩
    · rw [selim_l, dF h]
    · rw [selim_r, dT h]
  rintro i ⟨g1, g2, g3⟩
  by_cases h : i < l.length
  · rw [dT h, cnd_t, dT g1, Bool.and_self, cnd_t]
    by_cases e : l.getD i.toNat 0 = a
    · right
      rw [dT e, cnd_t]
      exact ⟨_, rfl, .inr ⟨rfl, e ▸ getD_mem l i.toNat (by omega)⟩⟩
    · left
      rw [dF e, cnd_f, wr_m (by omega) (by omega)]
      refine ⟨_, rfl, ⟨by omega, by omega, ?_⟩, by omega⟩
      rw [show (i + 1).toNat = i.toNat + 1 by omega, take_snoc l _ (by omega)]
      intro hm
      rcases List.mem_append.1 hm with hm | hm
      · exact g3 hm
      · exact e (List.mem_singleton.1 hm).symm
  · right
    rw [dF h, cnd_f]
    rw [List.take_of_length_le (by omega)] at g3
    exact ⟨_, rfl, .inl ⟨rfl, g3⟩⟩
abbrev Up (l : List Int) : Prop := l.Pairwise (· < ·)
theorem Up_nodup {l : List Int} (h : Up l) : l.Nodup := h.imp fun h => by omega
theorem Up_eq : ∀ {l m : List Int}, Up l → Up m → (∀ x, x ∈ l ↔ x ∈ m) → l = m
  | [], [], _, _, _ => rfl
  | [], b :: m, _, _, h => by have := (h b).2 (List.mem_cons_self ..); cases this
  | a :: l, [], _, _, h => by have := (h a).1 (List.mem_cons_self ..); cases this
  | a :: l, b :: m, hl, hm, h => by
    have hl' := List.pairwise_cons.1 hl
    have hm' := List.pairwise_cons.1 hm
    have hab : a = b := by
      rcases List.mem_cons.1 ((h a).1 (List.mem_cons_self ..)) with e | e
      · exact e
      rcases List.mem_cons.1 ((h b).2 (List.mem_cons_self ..)) with e2 | e2
      · exact e2.symm
      · have h1 := hm'.1 a e; have h2 := hl'.1 b e2; omega
    subst hab
    rw [Up_eq hl'.2 hm'.2 fun x => ?_]
    constructor
    · intro hx
      rcases List.mem_cons.1 ((h x).1 (List.mem_cons_of_mem _ hx)) with e | e
      · have := hl'.1 x hx; omega
      · exact e
    · intro hx
      rcases List.mem_cons.1 ((h x).2 (List.mem_cons_of_mem _ hx)) with e | e
      · have := hm'.1 x hx; omega
      · exact e
theorem Up_snoc {l : List Int} {b : Int} (h : Up l) (hb : ∀ x ∈ l, x < b) : Up (l ++ [b]) := by
  rw [Up, List.pairwise_append]
  exact ⟨h, by simp, fun x hx y hy => by rw [List.mem_singleton.1 hy]; exact hb x hx⟩
/-- What is laid in, in its order. -/
def ins (l m : List Int) : List Int := (l ++ m).mergeSort fun a b => decide (a ≤ b)
theorem ins_mem {l m : List Int} {x : Int} : x ∈ ins l m ↔ x ∈ l ∨ x ∈ m := by
  unfold ins
  rw [List.mem_mergeSort, List.mem_append]
theorem ins_len {l m : List Int} : (ins l m).length = l.length + m.length := by
  unfold ins
  rw [List.length_mergeSort, List.length_append]
theorem ins_up {l m : List Int} (h : (l ++ m).Nodup) : Up (ins l m) := by
  have h1 : (ins l m).Nodup := (List.mergeSort_perm _ _).nodup_iff.2 h
  have h2 : (ins l m).Pairwise (fun a b => decide (a ≤ b) = true) := List.pairwise_mergeSort (fun a b c h1 h2 => by simp only [decide_eq_true_eq] at h1 h2 ⊢; omega) (fun a b => by simp only [Bool.or_eq_true, decide_eq_true_eq]; omega) _
  exact (h2.and h1).imp fun ⟨p, q⟩ => by simp only [decide_eq_true_eq] at p; omega
/-- What is left without one. -/
def les (l : List Int) (k : Int) : List Int := l.filter fun x => decide (x ≠ k)
theorem les_mem {l : List Int} {k x : Int} : x ∈ les l k ↔ x ∈ l ∧ x ≠ k := by
  unfold les
  rw [List.mem_filter, decide_eq_true_eq]
theorem les_up {l : List Int} {k : Int} (h : Up l) : Up (les l k) := h.filter _
theorem les_len : ∀ {l : List Int} {k : Int}, l.Nodup → k ∈ l → (les l k).length + 1 = l.length
  | [], k, _, h => nomatch h
  | a :: l, k, hn, h => by
    have hn' := List.nodup_cons.1 hn
    unfold les
    by_cases e : a = k
    · subst e
      rw [List.filter_cons_of_neg (by simp)]
      rw [List.filter_eq_self.2 fun x hx => by simp only [decide_eq_true_eq]; intro q; exact hn'.1 (q ▸ hx)]
      rfl
    · rw [List.filter_cons_of_pos (by simpa using e)]
      rcases List.mem_cons.1 h with h | h
      · exact absurd h.symm e
      · have := les_len hn'.2 h
        unfold les at this
        simp only [List.length_cons]; omega
theorem les_le {l : List Int} {k : Int} : (les l k).length ≤ l.length := List.length_filter_le _ _
theorem Clone_i (N : Nat) (l : List Int) (hl : l.length ≤ 1000) : W_slices_Clone_int N l = some l := by
  unfold W_slices_Clone_int V_slices_Clone_int
  rw [dT (show l.length * 8 ≤ 140737488355328 by omega), cnd_t]
theorem with_eq (N : Nat) (l m : List Int) (hl : l.length ≤ 900) (hm : m.length ≤ 900) (h0 : 0 < m.length) : W_clus_with N (l, m) = some (ins l m) := by
  have hs : W_slices_Sort_int N (l ++ m) = some (ins l m) := by
    unfold W_slices_Sort_int ins
    first
      | rw [dT (show 0 < (l ++ m).length by rw [List.length_append]; omega), dT (show (l ++ m).length ≤ 140737488355328 by rw [List.length_append]; omega), Bool.and_self, cnd_t]
      | rw [dT (show (l ++ m).length ≤ 140737488355328 by rw [List.length_append]; omega), cnd_t, srt_eq]
  unfold W_clus_with V_clus_with
  try simp only
  rw [Clone_i N l (by omega), obind_s, dT (show (l.length + m.length) * 8 ≤ 140737488355328 by omega), cnd_t, hs, obind_s]
  exact cnd_T (by rw [ins_len, List.length_append])
theorem apart_eq (N : Nat) {D : List (List Int)} (hD : GD D) {a b : Int} (ha : 1 ≤ a ∧ a ≤ 8) (hb : 1 ≤ b ∧ b ≤ 8) (hN : 1000 ≤ N) : W_clus_apart N (D, a, b) = some (far D a [b]) := by
  unfold W_clus_apart V_clus_apart
  try simp only
  rw [Far_eq N hD ha (fun x hx => by rw [List.mem_singleton.1 hx]; exact hb) (by simp) hN, obind_s]
theorem rises_eq (N : Nat) {l : List Int} (hl : S8 l) (hu : Up l) (hlen : l.length ≤ 900) (hN : 1000 ≤ N) : W_clus_rises N l = some true := by
  unfold W_clus_rises V_clus_rises
  refine loop_post (σ := Int × Int) (ρ := Unit ⊕ Bool) (β := Bool) (fun o => o = some true) (fun v => (0 ≤ v.2 ∧ v.2 ≤ l.length) ∧ ∀ x ∈ l.drop v.2.toNat, v.1 < x) (fun v => l.length - v.2.toNat) (fun r => r = .inl ()) ⟨⟨by simp, by simp⟩, fun x hx => by have := hl x (List.mem_of_mem_drop hx); simp only; omega⟩ (by simp; omega) (fun r h => by rw [h, selim_l]) ?_
  rintro ⟨m, i⟩ ⟨⟨g1, g2⟩, g3⟩
  simp only at g1 g2 g3 ⊢
  by_cases h : i < l.length
  · left
    have hj : i.toNat < l.length := by omega
    have hd : l.drop i.toNat = l[i.toNat] :: l.drop (i.toNat + 1) := List.drop_eq_getElem_cons hj
    have hg : l.getD i.toNat 0 = l[i.toNat] := by rw [List.getD_eq_getElem?_getD, List.getElem?_eq_getElem hj]; rfl
    have hb := hl _ (getD_mem l i.toNat hj)
    rw [hd] at g3
    have h1 := g3 _ (List.mem_cons_self ..)
    have hud : Up (l.drop i.toNat) := List.Pairwise.drop hu
    rw [hd] at hud
    rw [dT h, cnd_t, dT g1, Bool.and_self, cnd_t, dF (show ¬ l.getD i.toNat 0 ≤ m by rw [hg]; omega), cnd_f, dF (show ¬ 8 < l.getD i.toNat 0 by omega), cnd_f, wr_m (by omega) (by omega)]
    refine ⟨_, rfl, ⟨⟨by simp only; omega, by simp only; omega⟩, ?_⟩, by simp only; omega⟩
    try simp only
    rw [hg, show (i + 1).toNat = i.toNat + 1 by omega]
    exact (List.pairwise_cons.1 hud).1
  · right
    rw [dF h, cnd_f]
    exact ⟨_, rfl, rfl⟩
theorem without_eq (N : Nat) (l : List Int) (k : Int) (h0 : 0 < l.length) (hl : l.length ≤ 900) : W_clus_without N (l, k) = some (les l k) := by
  unfold W_clus_without V_clus_without
  try simp only
  rw [Clone_i N l (by omega), obind_s]
  have e : W_slices_DeleteFunc_int__clus_without_1 N (l, k) = some (k, les l k) := by
    unfold W_slices_DeleteFunc_int__clus_without_1 les
    try simp only
    rw [dT h0, dT (show l.length ≤ 140737488355328 by omega), Bool.and_self, cnd_t]
    have : (fun (a : Int) => !decide (a = k)) = fun a => decide (a ≠ k) := by
      funext a
      by_cases h : a = k <;> simp [h]
    rw [this]
  rw [e, obind_s]
theorem Rising_up (N : Nat) (l : List Int) (hlen : l.length ≤ 900) (hN : 1000 ≤ N) : ∃ R, W_ref7_Rising N l = some R ∧ Up R ∧ ∀ x, x ∈ R ↔ (1 ≤ x ∧ x ≤ 8) ∧ x ∈ l := by
  unfold W_ref7_Rising V_ref7_Rising
  refine loop_post (σ := Int × List Int) (ρ := List Int) (β := List Int) (fun o => ∃ R, o = some R ∧ Up R ∧ ∀ x, x ∈ R ↔ (1 ≤ x ∧ x ≤ 8) ∧ x ∈ l) (fun v => (1 ≤ v.1 ∧ v.1 ≤ 9) ∧ (v.2.length ≤ v.1 - 1 ∧ Up v.2) ∧ ∀ x, x ∈ v.2 ↔ (1 ≤ x ∧ x < v.1) ∧ x ∈ l) (fun v => 9 - v.1.toNat) (fun r => Up r ∧ ∀ x, x ∈ r ↔ (1 ≤ x ∧ x ≤ 8) ∧ x ∈ l) ⟨⟨by simp, by simp⟩, ⟨by simp, by simp⟩, fun x => ⟨fun h => (by cases h), fun h => by have := h.1; simp only at this; omega⟩⟩ (by simp; omega) (fun r h => ⟨r, rfl, h⟩) ?_
  rintro ⟨i, R⟩ ⟨⟨g1, g2⟩, ⟨g3, g5⟩, g4⟩
  simp only at g1 g2 g3 g4 g5 ⊢
  by_cases h : i ≤ 8
  · left
    rw [dT h, cnd_t, Has_eq N l i hlen hN, obind_s, wr_m (by omega) (by omega)]
    by_cases hm : i ∈ l
    · rw [dT hm, cnd_t, dT (show (List.length R + List.length [i]) * 8 ≤ 140737488355328 by rw [List.length_singleton]; omega), cnd_t]
      refine ⟨_, rfl, ⟨⟨by omega, by omega⟩, ⟨by simp only [List.length_append, List.length_singleton]; omega, Up_snoc g5 fun x hx => ((g4 x).1 hx).1.2⟩, fun x => ?_⟩, by simp only; omega⟩
      simp only [List.mem_append, List.mem_singleton, g4]
      constructor
      · rintro (⟨hx, hm⟩ | rfl)
        · exact ⟨by omega, hm⟩
        · exact ⟨by omega, hm⟩
      · rintro ⟨hx, hm2⟩
        by_cases hxi : x = i
        · exact .inr hxi
        · exact .inl ⟨by omega, hm2⟩
    · rw [dF hm, cnd_f]
      refine ⟨_, rfl, ⟨⟨by omega, by omega⟩, ⟨by simp only; omega, g5⟩, fun x => ?_⟩, by simp only; omega⟩
      simp only [g4]
      constructor
      · rintro ⟨hx, hm⟩
        exact ⟨by omega, hm⟩
      · rintro ⟨hx, hm2⟩
        by_cases hxi : x = i
        · exact absurd (hxi ▸ hm2) hm
        · exact ⟨by omega, hm2⟩
  · right
    rw [dF h, cnd_f]
    refine ⟨_, rfl, g5, fun x => ?_⟩
    rw [g4]
    exact ⟨fun ⟨a, b⟩ => ⟨by omega, b⟩, fun ⟨a, b⟩ => ⟨by omega, b⟩⟩
theorem Rising_is (N : Nat) {l m : List Int} (hlen : l.length ≤ 900) (hN : 1000 ≤ N) (hm : Up m) (h8 : S8 m) (h : ∀ x, x ∈ l ↔ x ∈ m) : W_ref7_Rising N l = some m := by
  obtain ⟨R, e, h1, h2⟩ := Rising_up N l hlen hN
  rw [e, Up_eq h1 hm fun x => by rw [h2, h]; exact ⟨fun q => q.2, fun q => ⟨h8 x q, q⟩⟩]
theorem farthest_spec (N : Nat) {D : List (List Int)} (hD : GD D) {l : List Int} (hl : S8 l) (hu : Up l) (h2 : 2 ≤ l.length) (hlen : l.length ≤ 900) (hN : 1000 ≤ N) : ∃ lo hi, W_clus_farthest N (D, l) = some (.inl (lo, hi)) ∧ lo ∈ l ∧ hi ∈ l ∧ lo < hi := by
  unfold W_clus_farthest V_clus_farthest
  try simp only
  rw [dF (show ¬ (l.length : Int) < 2 by omega), cnd_f, rises_eq N hl hu hlen hN, obind_s, Bool.not_true, cnd_f, dT (Int.le_refl 0), dT (show (0 : Int) < l.length by omega), Bool.and_self, cnd_t, dT (show (0 : Int) ≤ 1 by omega), dT (show (1 : Int) < l.length by omega), Bool.and_self, cnd_t, List.take_length]
  have hlow : ∀ j : Nat, j < l.length → ∀ x ∈ l.drop (j + 1), l.getD j 0 < x := fun j hj => by
    have hd : l.drop j = l[j] :: l.drop (j + 1) := List.drop_eq_getElem_cons hj
    have hud : Up (l.drop j) := List.Pairwise.drop hu
    rw [hd] at hud
    have hg : l.getD j 0 = l[j] := by rw [List.getD_eq_getElem?_getD, List.getElem?_eq_getElem hj]; rfl
    rw [hg]
    exact (List.pairwise_cons.1 hud).1
  have h01 : l.getD 0 0 < l.getD 1 0 := hlow 0 (by omega) _ (by
    have e : (l.drop (0 + 1)).getD 0 0 = l.getD 1 0 := by simp [List.getD_eq_getElem?_getD]
    rw [← e]
    exact getD_mem _ _ (by rw [List.length_drop]; omega))
  refine loop_post (σ := Int × Int × Int) (ρ := Int × Int) (β := (Int × Int) ⊕ Unit) (fun o => ∃ lo hi, o = some (.inl (lo, hi)) ∧ lo ∈ l ∧ hi ∈ l ∧ lo < hi) (fun v => (0 ≤ v.1 ∧ v.1 ≤ l.length) ∧ v.2.1 ∈ l ∧ v.2.2 ∈ l ∧ v.2.1 < v.2.2) (fun v => l.length - v.1.toNat) (fun r => r.1 ∈ l ∧ r.2 ∈ l ∧ r.1 < r.2) ⟨⟨by simp, by simp⟩, getD_mem _ _ (by omega), getD_mem _ _ (by omega), h01⟩ (by simp; omega) (fun r h => ⟨_, _, rfl, h⟩) ?_
  rintro ⟨i, lo, hi⟩ ⟨⟨g1, g2⟩, g3, g4, g5⟩
  simp only at g1 g2 g3 g4 g5 ⊢
  by_cases h : i < l.length
  · left
    rw [dT h, cnd_t, dT g1, Bool.and_self, cnd_t, wr_m (z := i + 1) (by omega) (by omega), dT (show 0 ≤ i + 1 by omega), dT (show i + 1 ≤ l.length by omega), Bool.and_self, cnd_t, show (i + 1).toNat = i.toNat + 1 by omega]
    have hlo := hlow i.toNat (by omega)
    have him := getD_mem l i.toNat (by omega)
    have hrm : ∀ x ∈ l.drop (i.toNat + 1), x ∈ l := fun x hx => List.mem_of_mem_drop hx
    have hrl : (l.drop (i.toNat + 1)).length ≤ 900 := by rw [List.length_drop]; omega
    generalize l.drop (i.toNat + 1) = r at *
    generalize l.getD i.toNat 0 = a at *
    refine loop_post (σ := Int × Int × Int) (ρ := Int × Int) (β := (Int × Int × Int) ⊕ (Int × Int)) (fun o => ∃ y : Int × Int × Int, o = some (.inl y) ∧ ((0 ≤ y.1 ∧ y.1 ≤ l.length) ∧ y.2.1 ∈ l ∧ y.2.2 ∈ l ∧ y.2.1 < y.2.2) ∧ l.length - y.1.toNat < l.length - i.toNat) (fun v => (0 ≤ v.1 ∧ v.1 ≤ r.length) ∧ v.2.1 ∈ l ∧ v.2.2 ∈ l ∧ v.2.1 < v.2.2) (fun v => r.length - v.1.toNat) (fun q => q.1 ∈ l ∧ q.2 ∈ l ∧ q.1 < q.2) ⟨⟨by simp, by simp⟩, g3, g4, g5⟩ (by simp; omega) (fun q h => ⟨_, rfl, ⟨⟨by simp only; omega, by simp only; omega⟩, h⟩, by simp only; omega⟩) ?_
    rintro ⟨j, p, q⟩ ⟨⟨k1, k2⟩, k3, k4, k5⟩
    simp only at k1 k2 k3 k4 k5 ⊢
    by_cases hj : j < r.length
    · left
      have hb := getD_mem r j.toNat (by omega)
      rw [dT hj, cnd_t, dT k1, Bool.and_self, cnd_t]
      generalize r.getD j.toNat 0 = b at *
      have hbl := hrm b hb
      have hab := hlo b hb
      rw [apart_eq N hD (hl a him) (hl b hbl) hN, obind_s, apart_eq N hD (hl p k3) (hl q k4) hN, obind_s, wr_m (by omega) (by omega)]
      by_cases hc : far D p [q] < far D a [b]
      · rw [dT hc, cnd_t]
        exact ⟨_, rfl, ⟨⟨by simp only; omega, by simp only; omega⟩, him, hbl, hab⟩, by simp only; omega⟩
      · rw [dF hc, cnd_f]
        exact ⟨_, rfl, ⟨⟨by simp only; omega, by simp only; omega⟩, k3, k4, k5⟩, by simp only; omega⟩
    · right
      rw [dF hj, cnd_f]
      exact ⟨_, rfl, k3, k4, k5⟩
  · right
    rw [dF h, cnd_f]
    exact ⟨_, rfl, g3, g4, g5⟩
/-- s parted into a and b. -/
structure Pt (s a b : List Int) (lo hi : Int) : Prop where
  ua : Up a
  ub : Up b
  ma : ∀ x ∈ a, x ∈ s
  mb : ∀ x ∈ b, x ∈ s
  cov : ∀ x ∈ s, x ∈ a ∨ x ∈ b
  dis : ∀ x ∈ a, x ∉ b
  len : a.length + b.length = s.length
  la : hi ∉ a
  lb : lo ∉ b
theorem Pt.swap {s a b : List Int} {lo hi : Int} (h : Pt s a b lo hi) : Pt s b a hi lo :=
  ⟨h.ub, h.ua, h.mb, h.ma, fun x hx => (h.cov x hx).symm, fun x hx hy => h.dis x hy hx, by have := h.len; omega, h.lb, h.la⟩
theorem Pt.toA {s a b : List Int} {lo hi x : Int} (h : Pt s a b lo hi) (hs : ∀ y ∈ s, y < x) (hx : x ≠ hi) : Pt (s ++ [x]) (a ++ [x]) b lo hi where
  ua := Up_snoc h.ua fun y hy => hs y (h.ma y hy)
  ub := h.ub
  ma := fun y hy => by
    rcases List.mem_append.1 hy with hy | hy
    · exact List.mem_append.2 (.inl (h.ma y hy))
    · exact List.mem_append.2 (.inr hy)
  mb := fun y hy => List.mem_append.2 (.inl (h.mb y hy))
  cov := fun y hy => by
    rcases List.mem_append.1 hy with hy | hy
    · rcases h.cov y hy with q | q
      · exact .inl (List.mem_append.2 (.inl q))
      · exact .inr q
    · exact .inl (List.mem_append.2 (.inr hy))
  dis := fun y hy hb => by
    rcases List.mem_append.1 hy with hy | hy
    · exact h.dis y hy hb
    · have := hs y (h.mb y hb); rw [List.mem_singleton.1 hy] at this; omega
  len := by have := h.len; simp only [List.length_append, List.length_singleton]; omega
  la := fun hy => by
    rcases List.mem_append.1 hy with hy | hy
    · exact h.la hy
    · exact hx (List.mem_singleton.1 hy).symm
  lb := h.lb
theorem Pt.toB {s a b : List Int} {lo hi x : Int} (h : Pt s a b lo hi) (hs : ∀ y ∈ s, y < x) (hx : x ≠ lo) : Pt (s ++ [x]) a (b ++ [x]) lo hi := (h.swap.toA hs hx).swap
theorem Pt.give {s a b : List Int} {lo hi id : Int} (h : Pt s a b lo hi) (hid : id ∈ b) (hh : id ≠ hi) : Pt s (ins a [id]) (les b id) lo hi where
  ua := ins_up (by
    rw [List.nodup_append]
    refine ⟨Up_nodup h.ua, by simp, fun x hx y hy => ?_⟩
    rw [List.mem_singleton.1 hy]
    exact fun q => h.dis x hx (q ▸ hid))
  ub := les_up h.ub
  ma := fun x hx => by
    rcases ins_mem.1 hx with q | q
    · exact h.ma x q
    · rw [List.mem_singleton.1 q]; exact h.mb id hid
  mb := fun x hx => h.mb x (les_mem.1 hx).1
  cov := fun x hx => by
    rcases h.cov x hx with q | q
    · exact .inl (ins_mem.2 (.inl q))
    · by_cases e : x = id
      · exact .inl (ins_mem.2 (.inr (by simp [e])))
      · exact .inr (les_mem.2 ⟨q, e⟩)
  dis := fun x hx hb => by
    have hb := les_mem.1 hb
    rcases ins_mem.1 hx with q | q
    · exact h.dis x q hb.1
    · exact hb.2 (List.mem_singleton.1 q)
  len := by
    have := h.len
    have := les_len (Up_nodup h.ub) hid
    rw [ins_len, List.length_singleton]; omega
  la := fun q => by
    rcases ins_mem.1 q with q | q
    · exact h.la q
    · exact hh (List.mem_singleton.1 q).symm
  lb := fun q => h.lb (les_mem.1 q).1
theorem fill_spec (N : Nat) {D : List (List Int)} (hD : GD D) {s a b : List Int} {lo hi k : Int} (hs : S8 s) (hsl : s.length ≤ 8) (hlo : lo ∈ s) (hk : 1 ≤ k) (hP : Pt s a b lo hi) (hN : 1000 ≤ N) :
    ∃ a' b', W_clus_fill N (D, (lo, hi), a, b, k) = some (a', b') ∧ Pt s a' b' lo hi ∧ (k ≤ a'.length ∨ (b'.length : Int) ≤ k) ∧ (k ≤ b.length → k ≤ b'.length) := by
  unfold W_clus_fill V_clus_fill
  try simp only
  refine loop_post (σ := List Int × List Int × Int × Int) (ρ := List Int × List Int) (β := List Int × List Int) (fun o => ∃ a' b', o = some (a', b') ∧ Pt s a' b' lo hi ∧ (k ≤ a'.length ∨ (b'.length : Int) ≤ k) ∧ (k ≤ b.length → k ≤ b'.length)) (fun v => (v.2.2.1 = lo ∧ v.2.2.2 = hi) ∧ Pt s v.1 v.2.1 lo hi ∧ (k ≤ b.length → k ≤ v.2.1.length)) (fun v => v.2.1.length) (fun r => Pt s r.1 r.2 lo hi ∧ (k ≤ r.1.length ∨ (r.2.length : Int) ≤ k) ∧ (k ≤ b.length → k ≤ r.2.length)) ⟨⟨rfl, rfl⟩, hP, fun h => h⟩ (by have := hP.len; simp only; omega) (fun r h => ⟨_, _, rfl, h⟩) ?_
  rintro ⟨p, q, u, v⟩ ⟨⟨g1, g2⟩, g3, g4⟩
  simp only at g1 g2 g3 g4 ⊢
  subst g1 g2
  have hlen := g3.len
  by_cases h1 : (p.length : Int) < k
  · rw [dT h1, cnd_t]
    by_cases h2 : k < q.length
    · left
      rw [dT h2, cnd_t, without_eq N q v (by omega) (by omega), obind_s]
      obtain ⟨id, e, hw⟩ := Near_spec N hD (hs u hlo) (l := les q v) (fun x hx => hs x (g3.mb x (les_mem.1 hx).1)) (by have := les_le (l := q) (k := v); omega) hN
      have hid : id ∈ les q v := by
        rcases hw with ⟨h, _⟩ | h
        · exfalso
          have hq : 2 ≤ q.length := by omega
          have : ∃ y, y ∈ les q v := by
            by_cases hv : v ∈ q
            · have := les_len (Up_nodup g3.ub) hv
              obtain ⟨y, hy⟩ := List.exists_mem_of_length_pos (show 0 < (les q v).length by omega)
              exact ⟨y, hy⟩
            · obtain ⟨y, hy⟩ := List.exists_mem_of_length_pos (show 0 < q.length by omega)
              exact ⟨y, les_mem.2 ⟨hy, fun c => hv (c ▸ hy)⟩⟩
          obtain ⟨y, hy⟩ := this
          have : y ∈ (les q v).filter fun x => decide (x ≠ u) := by
            rw [List.mem_filter, decide_eq_true_eq]
            exact ⟨hy, fun c => g3.lb (c ▸ (les_mem.1 hy).1)⟩
          rw [h] at this
          cases this
        · exact (List.mem_filter.1 h.1).1
      have hid2 := les_mem.1 hid
      rw [e, obind_s, with_eq N p [id] (by omega) (by simp) (by simp), obind_s, without_eq N q id (by omega) (by omega), obind_s]
      have hl2 := les_len (Up_nodup g3.ub) hid2.1
      exact ⟨_, rfl, ⟨⟨rfl, rfl⟩, g3.give hid2.1 hid2.2, fun h => by have := g4 h; simp only; omega⟩, by simp only; omega⟩
    · right
      rw [dF h2, cnd_f]
      exact ⟨_, rfl, g3, .inr (by simp only; omega), g4⟩
  · right
    rw [dF h1, cnd_f]
    exact ⟨_, rfl, g3, .inl (by simp only; omega), g4⟩
theorem Split_spec (N : Nat) {D : List (List Int)} (hD : GD D) {l : List Int} {k : Int} (hl : S8 l) (hu : Up l) (h2 : 2 ≤ l.length) (h8 : l.length ≤ 8) (hk : 1 ≤ k) (hN : 1000 ≤ N) :
    ∃ a b lo hi, W_clus_Split N (D, l, k) = some (a, b) ∧ Pt l a b lo hi ∧ lo ∈ l ∧ hi ∈ l ∧ (2 * k ≤ l.length → k ≤ a.length ∧ k ≤ b.length) := by
  obtain ⟨lo, hi, e0, hlo, hhi, hlh⟩ := farthest_spec N hD hl hu h2 (by omega) hN
  unfold W_clus_Split V_clus_Split
  try simp only
  rw [e0, obind_s, selim_l]
  refine loop_post (σ := Int × List Int × List Int × Int × Int) (ρ := List Int × List Int × Int × Int) (β := List Int × List Int) (fun o => ∃ a b lo hi, o = some (a, b) ∧ Pt l a b lo hi ∧ lo ∈ l ∧ hi ∈ l ∧ (2 * k ≤ l.length → k ≤ a.length ∧ k ≤ b.length)) (fun v => (0 ≤ v.1 ∧ v.1 ≤ l.length) ∧ (v.2.2.2.1 = lo ∧ v.2.2.2.2 = hi) ∧ Pt (l.take v.1.toNat) v.2.1 v.2.2.1 lo hi) (fun v => l.length - v.1.toNat) (fun r => (r.2.2.1 = lo ∧ r.2.2.2 = hi) ∧ Pt l r.1 r.2.1 lo hi) ⟨⟨by simp, by simp⟩, ⟨rfl, rfl⟩, ⟨by simp, by simp, by simp, by simp, by simp, by simp, by simp, by simp, by simp⟩⟩ (by simp; omega) (fun r h => ?_) ?_
  · obtain ⟨a, b, u, v⟩ := r
    obtain ⟨⟨q1, q2⟩, hP⟩ := h
    simp only at q1 q2 hP ⊢
    subst q1 q2
    obtain ⟨a1, b1, e1, hP1, h3, h4⟩ := fill_spec N hD hl h8 hlo hk hP hN
    rw [e1, obind_s]
    try simp only
    obtain ⟨b2, a2, e2, hP2, h5, h6⟩ := fill_spec N hD hl h8 hhi hk hP1.swap hN
    rw [e2, obind_s]
    have l1 := hP1.len
    have l2 := hP2.len
    refine ⟨_, _, u, v, rfl, hP2.swap, hlo, hhi, fun hk2 => ?_⟩
    have h7 : k ≤ a2.length := h6 (by omega)
    show k ≤ (a2.length : Int) ∧ k ≤ (b2.length : Int)
    exact ⟨h7, by omega⟩
  rintro ⟨i, a, b, u, v⟩ ⟨⟨g1, g2⟩, ⟨g3, g4⟩, hP⟩
  simp only at g1 g2 g3 g4 hP ⊢
  subst g3 g4
  by_cases h : i < l.length
  · left
    have hst : ∀ y ∈ l.take i.toNat, y < l.getD i.toNat 0 := fun y hy => by
      have hx : l.getD i.toNat 0 ∈ l.drop i.toNat := by
        have e : (l.drop i.toNat).getD 0 0 = l.getD i.toNat 0 := by simp [List.getD_eq_getElem?_getD]
        rw [← e]; exact getD_mem _ _ (by rw [List.length_drop]; omega)
      have hu2 : Up (l.take i.toNat ++ l.drop i.toNat) := by rw [List.take_append_drop]; exact hu
      exact (List.pairwise_append.1 hu2).2.2 y hy _ hx
    have htk : l.take (i + 1).toNat = l.take i.toNat ++ [l.getD i.toNat 0] := by rw [show (i + 1).toNat = i.toNat + 1 by omega, take_snoc l _ (by omega)]
    have hx8 := hl _ (getD_mem l i.toNat (by omega))
    have hPl := hP.len
    rw [List.length_take] at hPl
    rw [dT h, cnd_t, dT g1, Bool.and_self, cnd_t, wr_m (z := i + 1) (by omega) (by omega)]
    generalize l.getD i.toNat 0 = x at *
    have ca : (a.length + [x].length) * 8 ≤ 140737488355328 := by rw [List.length_singleton]; omega
    have cb : (b.length + [x].length) * 8 ≤ 140737488355328 := by rw [List.length_singleton]; omega
    rw [dT ca, dT cb]
    have mk : ∀ a' b', Pt (l.take i.toNat ++ [x]) a' b' u v → ((0 ≤ i + 1 ∧ i + 1 ≤ (l.length : Int)) ∧ (u = u ∧ v = v) ∧ Pt (l.take (i + 1).toNat) a' b' u v) ∧ l.length - (i + 1).toNat < l.length - i.toNat := fun a' b' hp => ⟨⟨⟨by omega, by omega⟩, ⟨rfl, rfl⟩, by rw [htk]; exact hp⟩, by omega⟩
    by_cases c1 : x = u
    · rw [dT c1, cnd_t, cnd_t]
      exact ⟨_, rfl, mk _ _ (hP.toA hst (by omega))⟩
    rw [dF c1, cnd_f]
    by_cases c2 : x = v
    · exact ⟨_, (cnd_F (fun q => q c2)).trans cnd_t, mk _ _ (hP.toB hst c1)⟩
    · rw [apart_eq N hD hx8 (hl u hlo) hN, obind_s, apart_eq N hD hx8 (hl v hhi) hN, obind_s]
      by_cases c3 : far D x [u] ≤ far D x [v]
      · refine ⟨_, (cnd_T c2).trans ((cnd_T c3).trans cnd_t), mk _ _ (hP.toA hst c2)⟩
      · refine ⟨_, (cnd_T c2).trans ((cnd_F c3).trans cnd_t), mk _ _ (hP.toB hst c1)⟩
  · right
    rw [dF h, cnd_f]
    refine ⟨_, rfl, ⟨rfl, rfl⟩, ?_⟩
    rw [List.take_of_length_le (by omega)] at hP
    exact hP
theorem SameInts_eq (N : Nat) (l : List Int) (hl : l.length ≤ 900) (hN : 1000 ≤ N) : W_ref1_SameInts N (l, l) = some true := by
  unfold W_ref1_SameInts V_ref1_SameInts
  try simp only
  refine (cnd_F (fun q => q rfl)).trans ?_
  refine loop_post (σ := Int) (ρ := Unit ⊕ Bool) (β := Bool) (fun o => o = some true) (fun v => 0 ≤ v ∧ v ≤ l.length) (fun v => l.length - v.toNat) (fun r => r = .inl ()) ⟨by simp, by simp⟩ (by simp; omega) (fun r h => by rw [h, selim_l]) ?_
  rintro i ⟨g1, g2⟩
  by_cases h : i < l.length
  · left
    rw [dT h, cnd_t, dT g1, Bool.and_self, cnd_t, cnd_t]
    refine ⟨i + 1, (cnd_F (fun q => q rfl)).trans ?_, ⟨by omega, by omega⟩, by omega⟩
    rw [wr_m (by omega) (by omega)]
  · right
    rw [dF h, cnd_f]
    exact ⟨_, rfl, rfl⟩
theorem Mid_spec (N : Nat) {D : List (List Int)} (hD : GD D) {l : List Int} (hl : S8 l) (hlen : l.length ≤ 900) (hN : 1000 ≤ N) : ∃ v, W_mid_Mid N (D, l) = some v ∧ Who (fun x => far D x l) l v := by
  unfold W_mid_Mid V_mid_Mid
  try simp only
  refine loop_post (fun o => ∃ v, o = some v ∧ Who (fun x => far D x l) l v) (fun v => 0 ≤ v.2 ∧ v.2 ≤ l.length ∧ Sofar (fun x => far D x l) (l.take v.2.toNat) v.1) (fun v => l.length - v.2.toNat) (fun r => Sofar (fun x => far D x l) l r) ⟨by simp, by simp, .inl ⟨rfl, rfl⟩⟩ (by simp; omega) (fun r h => ?_) ?_
  · obtain ⟨v, e, h⟩ := Sofar_who N h
    rw [e]; exact ⟨v, rfl, h⟩
  rintro ⟨m, i⟩ ⟨g1, g2, g3⟩
  simp only at g1 g2 g3 ⊢
  by_cases h : i < l.length
  · left
    have hb := hl _ (getD_mem l i.toNat (by omega))
    obtain ⟨p, e, hp⟩ := Sofar_snoc N g3 (l.getD i.toNat 0)
    try simp only at e
    rw [dT h, cnd_t, dT g1, Bool.and_self, cnd_t, Far_eq N hD hb hl hlen hN, obind_s, e, obind_s, wr_m (by omega) (by omega)]
    refine ⟨_, rfl, ⟨by omega, by omega, ?_⟩, by omega⟩
    try simp only
    rw [show (i + 1).toNat = i.toNat + 1 by omega, take_snoc l _ (by omega)]
    exact hp
  · right
    rw [dF h, cnd_f]
    refine ⟨_, rfl, ?_⟩
    rw [List.take_of_length_le (by omega)] at g3
    exact g3
theorem ex_T {α β : Type} {p : Prop} {i : Decidable p} {x y : Option α} {P : β → Prop} {c : β → Option α} (h : p) (hx : ∃ b, x = c b ∧ P b) : ∃ b, cnd (@decide p i) x y = c b ∧ P b := by
  obtain ⟨b, e, q⟩ := hx
  exact ⟨b, (cnd_T h).trans e, q⟩
theorem Who_one {F : Int → Int} {l : List Int} {v w : Int} (hv : Who F l v) (hw : Who F l w) : v = w := by
  rcases hv with ⟨rfl, rfl⟩ | hv
  · rcases hw with ⟨_, rfl⟩ | hw
    · rfl
    · exact nomatch hw.1
  · rcases hw with ⟨rfl, rfl⟩ | hw
    · exact nomatch hv.1
    · exact Least_one hv hw
/-- Least among the numbers below i that P takes, 0 if there is none. -/
def Below (F : Int → Int) (P : Int → Prop) (i w : Int) : Prop := (w = 0 ∧ ∀ x, 1 ≤ x → x < i → ¬ P x) ∨ ((1 ≤ w ∧ w < i) ∧ P w ∧ ∀ x, 1 ≤ x → x < i → P x → F w < F x ∨ (F w = F x ∧ w ≤ x))
theorem Below_no {F : Int → Int} {P : Int → Prop} {i w : Int} (h : Below F P i w) (hi : ¬ P i) : Below F P (i + 1) w := by
  have e : ∀ x, x < i + 1 → P x → x < i := fun x hx hp => by
    by_cases c : x = i
    · exact absurd (c ▸ hp) hi
    · omega
  rcases h with ⟨rfl, h⟩ | ⟨h1, h2, h3⟩
  · exact .inl ⟨rfl, fun x h1 h2 hp => h x h1 (e x h2 hp) hp⟩
  · exact .inr ⟨by omega, h2, fun x k1 k2 hp => h3 x k1 (e x k2 hp) hp⟩
theorem Below_new {F : Int → Int} {P : Int → Prop} {i w : Int} (h1 : 1 ≤ i) (h : Below F P i w) (hi : P i) (hw : w = 0 ∨ F i < F w) : Below F P (i + 1) i := by
  refine .inr ⟨by omega, hi, fun x k1 k2 hp => ?_⟩
  by_cases c : x = i
  · subst c; omega
  · rcases h with ⟨rfl, h⟩ | ⟨h1, h2, h3⟩
    · exact absurd hp (h x k1 (by omega))
    · have := h3 x k1 (by omega) hp; omega
theorem Below_old {F : Int → Int} {P : Int → Prop} {i w : Int} (h : Below F P i w) (hw : ¬ w = 0) (hw2 : ¬ F i < F w) : Below F P (i + 1) w := by
  rcases h with ⟨rfl, h⟩ | ⟨h1, h2, h3⟩
  · exact absurd rfl hw
  · refine .inr ⟨by omega, h2, fun x k1 k2 hp => ?_⟩
    by_cases c : x = i
    · subst c; omega
    · exact h3 x k1 (by omega) hp
theorem Below_who {F : Int → Int} {P : Int → Prop} {l : List Int} {w : Int} (hl : S8 l) (hP : ∀ x, P x ↔ x ∈ l) (h : Below F P 9 w) : Who F l w := by
  rcases h with ⟨rfl, h⟩ | ⟨h1, h2, h3⟩
  · refine .inl ⟨?_, rfl⟩
    cases l with
    | nil => rfl
    | cons a t =>
      have := hl a (List.mem_cons_self ..)
      exact absurd ((hP a).2 (List.mem_cons_self ..)) (h a (by omega) (by omega))
  · exact .inr ⟨(hP w).1 h2, fun x hx => h3 x (hl x hx).1 (by have := hl x hx; omega) ((hP x).2 hx)⟩
theorem Far7_eq (N : Nat) {D : List (List Int)} (hD : GD D) {a : Int} (ha : 1 ≤ a ∧ a ≤ 8) {l : List Int} (hl : S8 l) (hlen : l.length ≤ 900) (hN : 1000 ≤ N) : W_ref7_Far N (D, a, l) = some (far D a l) := by
  unfold W_ref7_Far V_ref7_Far
  try simp only
  refine loop_post (fun o => o = some (far D a l)) (fun v => 0 ≤ v.2 ∧ v.2 ≤ l.length ∧ v.1 = far D a (l.take v.2.toNat)) (fun v => l.length - v.2.toNat) (fun r => r = far D a l) ⟨by simp, by simp, rfl⟩ (by simp; omega) (fun r h => by rw [h]) ?_
  rintro ⟨m, i⟩ ⟨g1, g2, g3⟩
  simp only at g1 g2 g3 ⊢
  by_cases h : i < l.length
  · left
    have hb := hl _ (getD_mem l i.toNat (by omega))
    rw [wr_m (z := a - 1) (by omega) (by omega), wr_m (z := l.getD i.toNat 0 - 1) (by omega) (by omega), row_eq hD ha, len_eq hD]
    rw [dT h, cnd_t, dT (show 0 ≤ a - 1 by omega), dT (show a - 1 < 8 by omega), Bool.and_self, cnd_t, dT g1, Bool.and_self, cnd_t, dT (show 0 ≤ l.getD i.toNat 0 - 1 by omega), dT (show l.getD i.toNat 0 - 1 < 8 by omega), Bool.and_self, cnd_t, wr_m (by omega) (by omega)]
    refine ⟨_, rfl, ⟨by omega, by omega, ?_⟩, by omega⟩
    try simp only
    rw [show (i + 1).toNat = i.toNat + 1 by omega, take_snoc l _ (by omega), far_snoc, g3]
    rfl
  · right
    rw [dF h, cnd_f]
    refine ⟨_, rfl, ?_⟩
    rw [g3, List.take_of_length_le (by omega)]
theorem Mid7_spec (N : Nat) {D : List (List Int)} (hD : GD D) {l : List Int} (hl : S8 l) (hlen : l.length ≤ 900) (hN : 1000 ≤ N) : ∃ v, W_ref7_Mid N (D, l) = some v ∧ Who (fun x => far D x l) l v := by
  unfold W_ref7_Mid V_ref7_Mid
  try simp only
  refine loop_post (σ := Int × Int) (ρ := Int) (β := Int) (fun o => ∃ v, o = some v ∧ Who (fun x => far D x l) l v) (fun v => (1 ≤ v.2 ∧ v.2 ≤ 9) ∧ Below (fun x => far D x l) (fun x => x ∈ l) v.2 v.1) (fun v => 9 - v.2.toNat) (fun r => Who (fun x => far D x l) l r) ⟨⟨by simp, by simp⟩, .inl ⟨rfl, fun x h1 h2 => by simp only at h2; omega⟩⟩ (by simp; omega) (fun r h => ⟨r, rfl, h⟩) ?_
  rintro ⟨w, i⟩ ⟨⟨g1, g2⟩, g3⟩
  simp only at g1 g2 g3 ⊢
  by_cases h : i ≤ 8
  · left
    rw [dT h, cnd_t, Has_eq N l i hlen hN, obind_s, wr_m (by omega) (by omega)]
    by_cases hm : i ∈ l
    · rw [dT hm, cnd_t]
      by_cases hw : w = 0
      · rw [dT hw, cnd_t]
        exact ⟨_, rfl, ⟨⟨by omega, by omega⟩, Below_new g1 g3 hm (.inl hw)⟩, by simp only; omega⟩
      rw [dF hw, cnd_f]
      have hw8 : 1 ≤ w ∧ w ≤ 8 := by
        rcases g3 with ⟨h, _⟩ | ⟨h, _⟩ <;> omega
      rw [Far7_eq N hD ⟨g1, h⟩ hl hlen hN, obind_s, Far7_eq N hD hw8 hl hlen hN, obind_s]
      by_cases hf : far D i l < far D w l
      · rw [dT hf, cnd_t]
        exact ⟨_, rfl, ⟨⟨by omega, by omega⟩, Below_new g1 g3 hm (.inr hf)⟩, by simp only; omega⟩
      · rw [dF hf, cnd_f]
        exact ⟨_, rfl, ⟨⟨by omega, by omega⟩, Below_old g3 hw hf⟩, by simp only; omega⟩
    · rw [dF hm, cnd_f]
      exact ⟨_, rfl, ⟨⟨by omega, by omega⟩, Below_no g3 hm⟩, by simp only; omega⟩
  · right
    rw [dF h, cnd_f]
    have : i = 9 := by omega
    subst this
    exact ⟨_, rfl, Below_who hl (fun x => Iff.rfl) g3⟩
theorem Near7_spec (N : Nat) {D : List (List Int)} (hD : GD D) {a : Int} (ha : 1 ≤ a ∧ a ≤ 8) {l : List Int} (hl : S8 l) (hlen : l.length ≤ 900) (hN : 1000 ≤ N) : ∃ v, W_ref7_Near N (D, a, l) = some v ∧ Who (fun x => G D a x) (l.filter fun x => decide (x ≠ a)) v := by
  have hfm : ∀ x, (x ∈ l ∧ x ≠ a) ↔ x ∈ l.filter fun x => decide (x ≠ a) := fun x => by rw [List.mem_filter, decide_eq_true_eq]
  have hfS : S8 (l.filter fun x => decide (x ≠ a)) := fun b hb => hl b ((hfm b).2 hb).1
  generalize (l.filter fun x => decide (x ≠ a)) = l' at *
  unfold W_ref7_Near V_ref7_Near
  try simp only
  refine loop_post (σ := Int × Int) (ρ := Int) (β := Int) (fun o => ∃ v, o = some v ∧ Who (fun x => G D a x) l' v) (fun v => (1 ≤ v.2 ∧ v.2 ≤ 9) ∧ Below (fun x => G D a x) (fun x => x ∈ l ∧ x ≠ a) v.2 v.1) (fun v => 9 - v.2.toNat) (fun r => Who (fun x => G D a x) l' r) ⟨⟨by simp, by simp⟩, .inl ⟨rfl, fun x h1 h2 => by simp only at h2; omega⟩⟩ (by simp; omega) (fun r h => ⟨r, rfl, h⟩) ?_
  rintro ⟨w, i⟩ ⟨⟨g1, g2⟩, g3⟩
  simp only at g1 g2 g3 ⊢
  by_cases h : i ≤ 8
  · left
    rw [dT h, cnd_t, wr_m (z := i + 1) (by omega) (by omega)]
    by_cases hia : i = a
    · refine ⟨(w, i + 1), cnd_F (fun c => c hia), ⟨⟨by omega, by omega⟩, Below_no g3 (fun c => c.2 hia)⟩, by simp only; omega⟩
    refine ex_T hia ?_
    rw [Has_eq N l i hlen hN, obind_s]
    by_cases hm : i ∈ l
    · rw [dT hm, cnd_t]
      by_cases hw : w = 0
      · rw [dT hw, cnd_t]
        exact ⟨_, rfl, ⟨⟨by omega, by omega⟩, Below_new g1 g3 ⟨hm, hia⟩ (.inl hw)⟩, by simp only; omega⟩
      rw [dF hw, cnd_f]
      have hw8 : 1 ≤ w ∧ w ≤ 8 := by
        rcases g3 with ⟨h, _⟩ | ⟨h, _⟩ <;> omega
      rw [wr_m (z := a - 1) (by omega) (by omega), wr_m (z := i - 1) (by omega) (by omega), wr_m (z := w - 1) (by omega) (by omega), row_eq hD ha, len_eq hD]
      rw [dT (show 0 ≤ a - 1 by omega), dT (show a - 1 < 8 by omega), Bool.and_self, cnd_t, dT (show 0 ≤ i - 1 by omega), dT (show i - 1 < 8 by omega), Bool.and_self, cnd_t, cnd_t, dT (show 0 ≤ w - 1 by omega), dT (show w - 1 < 8 by omega), Bool.and_self, cnd_t]
      by_cases hf : G D a i < G D a w
      · refine ⟨(i, i + 1), cnd_T hf, ⟨⟨by omega, by omega⟩, Below_new g1 g3 ⟨hm, hia⟩ (.inr hf)⟩, by simp only; omega⟩
      · refine ⟨(w, i + 1), cnd_F hf, ⟨⟨by omega, by omega⟩, Below_old g3 hw hf⟩, by simp only; omega⟩
    · rw [dF hm, cnd_f]
      exact ⟨_, rfl, ⟨⟨by omega, by omega⟩, Below_no g3 (fun c => hm c.1)⟩, by simp only; omega⟩
  · right
    rw [dF h, cnd_f]
    have : i = 9 := by omega
    subst this
    exact ⟨_, rfl, Below_who hfS hfm g3⟩
abbrev Cl := List Int × Int
abbrev cD : Cl := (([] : List Int), (0 : Int))
theorem Of_spec (N : Nat) {D : List (List Int)} (hD : GD D) {l : List Int} (hl : S8 l) (hlen : l.length ≤ 900) (hN : 1000 ≤ N) : ∃ v, W_clus_Of N (D, l) = some (l, v) ∧ Who (fun x => far D x l) l v := by
  obtain ⟨v, e, h⟩ := Mid_spec N hD hl hlen hN
  refine ⟨v, ?_, h⟩
  unfold W_clus_Of V_clus_Of
  try simp only
  rw [Clone_i N l (by omega), obind_s, e, obind_s]
theorem fitted_one (N : Nat) {D : List (List Int)} (hD : GD D) {l : List Int} {k : Int} (hl : S8 l) (hlen : l.length ≤ 8) (hk : 1 ≤ k ∧ k ≤ 3) (h : (l.length : Int) ≤ 3 * k - 1) (hN : 1000 ≤ N) : ∃ v, W_clus_fitted N (D, l, k) = some [(l, v)] ∧ Who (fun x => far D x l) l v := by
  obtain ⟨v, e, hw⟩ := Of_spec N hD hl (by omega) hN
  refine ⟨v, ?_, hw⟩
  unfold W_clus_fitted V_clus_fitted
  try simp only
  rw [wr_m (z := 3 * k) (by omega) (by omega), wr_m (z := 3 * k - 1) (by omega) (by omega), dT h, cnd_t, e, obind_s]
theorem fitted_two (N : Nat) {D : List (List Int)} (hD : GD D) {l : List Int} {k : Int} (hl : S8 l) (hu : Up l) (hlen : l.length ≤ 8) (hk : 1 ≤ k ∧ k ≤ 3) (h : ¬ (l.length : Int) ≤ 3 * k - 1) (hN : 1000 ≤ N) :
    ∃ a b lo hi v w, W_clus_Split N (D, l, k) = some (a, b) ∧ W_clus_fitted N (D, l, k) = some [(a, v), (b, w)] ∧ Pt l a b lo hi ∧ (k ≤ a.length ∧ k ≤ b.length) ∧ Who (fun x => far D x a) a v ∧ Who (fun x => far D x b) b w := by
  obtain ⟨a, b, lo, hi, e, hP, h1, h2, h3⟩ := Split_spec N hD hl hu (by omega) hlen hk.1 hN
  obtain ⟨k1, k2⟩ := h3 (by omega)
  have hpl := hP.len
  obtain ⟨v, e1, w1⟩ := Of_spec N hD (l := a) (fun x hx => hl x (hP.ma x hx)) (by omega) hN
  obtain ⟨w, e2, w2⟩ := Of_spec N hD (l := b) (fun x hx => hl x (hP.mb x hx)) (by omega) hN
  refine ⟨a, b, lo, hi, v, w, e, ?_, hP, ⟨k1, k2⟩, w1, w2⟩
  unfold W_clus_fitted V_clus_fitted
  try simp only
  rw [wr_m (z := 3 * k) (by omega) (by omega), wr_m (z := 3 * k - 1) (by omega) (by omega), dF h, cnd_f, e, obind_s]
  try simp only
  rw [dF (show ¬ (b.length : Int) = 0 by omega), cnd_f, e1, obind_s, e2, obind_s]
theorem Group_step (N m : Nat) (D : List (List Int)) (l : List Int) (k : Int) : WR_clus_Group N (m + 1) (D, l, k) = cnd (decide ((↑(List.length l) : Int) = (0 : Int))) (some []) (obind (W_clus_fitted N (D, l, k)) fun (b : List (List Int × Int)) => cnd (decide ((↑(List.length b) : Int) = (1 : Int))) (some b) (cnd (decide ((0 : Int) ≤ (0 : Int)) && decide ((0 : Int) < (↑(List.length b) : Int))) (obind (WR_clus_Group N m (D, (List.getD b (0 : Nat) cD).1, k)) fun (b_1 : List (List Int × Int)) => cnd (decide ((0 : Int) ≤ (1 : Int)) && decide ((1 : Int) < (↑(List.length b) : Int))) (obind (WR_clus_Group N m (D, (List.getD b (1 : Nat) cD).1, k)) fun (b : List (List Int × Int)) => cnd (decide ((List.length b_1 + List.length b) * (32 : Nat) ≤ (140737488355328 : Nat))) (some (b_1 ++ b)) none) none) none)) := rfl
/-- l, as clusters. -/
structure Gp (D : List (List Int)) (k : Int) (l : List Int) (cs : List Cl) : Prop where
  ne : cs ≠ []
  m : ∀ c ∈ cs, (1 ≤ c.1.length ∧ (c.1.length : Int) ≤ 3 * k - 1) ∧ (S8 c.1 ∧ Up c.1) ∧ Who (fun x => far D x c.1) c.1 c.2
  kk : 1 < cs.length → ∀ c ∈ cs, k ≤ c.1.length
  mem : ∀ x, x ∈ cs.flatMap (fun c => c.1) ↔ x ∈ l
  len : (cs.flatMap (fun c => c.1)).length = l.length
  o : cs.length = 1 ↔ (l.length : Int) ≤ 3 * k - 1
theorem Gp.cl {D : List (List Int)} {k : Int} {l : List Int} {cs : List Cl} (h : Gp D k l cs) : cs.length ≤ l.length := by
  have hm := h.m
  have hl := h.len
  have : ∀ cs : List Cl, (∀ c ∈ cs, 1 ≤ c.1.length) → cs.length ≤ (cs.flatMap (fun c => c.1)).length := by
    intro cs
    induction cs with
    | nil => intro _; simp
    | cons c r ih =>
      intro hc
      have h1 := hc c (by simp)
      have h2 := ih (fun x hx => hc x (by simp [hx]))
      simp only [List.length_cons, List.flatMap_cons, List.length_append]
      omega
  have := this cs (fun c hc => (hm c hc).1.1)
  omega
theorem Gp.each {D : List (List Int)} {k : Int} {l : List Int} {cs : List Cl} (h : Gp D k l cs) (hk : k ≤ l.length) : ∀ c ∈ cs, k ≤ c.1.length := by
  intro c hc
  by_cases c1 : 1 < cs.length
  · exact h.kk c1 c hc
  · cases cs with
    | nil => simp at hc
    | cons c' r =>
      have : r = [] := List.eq_nil_of_length_eq_zero (by simp only [List.length_cons] at c1; omega)
      subst this
      rw [List.mem_singleton.1 hc]
      have := h.len
      simp at this
      omega
theorem Group_spec (N : Nat) {D : List (List Int)} (hD : GD D) {k : Int} (hk : 1 ≤ k ∧ k ≤ 3) (hN : 1000 ≤ N) : ∀ (m : Nat) (l : List Int), S8 l → Up l → l.length ≤ 8 → 1 ≤ l.length → l.length < m → ∃ cs, WR_clus_Group N m (D, l, k) = some cs ∧ Gp D k l cs
  | 0, l, _, _, _, _, h => by omega
  | m + 1, l, hl, hu, h8, h1, hm => by
    rw [Group_step, dF (show ¬ (l.length : Int) = 0 by omega), cnd_f]
    by_cases c : (l.length : Int) ≤ 3 * k - 1
    · obtain ⟨v, e, hw⟩ := fitted_one N hD hl h8 hk c hN
      rw [e, obind_s, dT (show ((List.length [(l, v)] : Nat) : Int) = 1 from rfl), cnd_t]
      refine ⟨_, rfl, by simp, fun q hq => ?_, fun q => by simp at q, fun x => by simp, by simp, by simp [c]⟩
      rw [List.mem_singleton.1 hq]
      exact ⟨⟨h1, c⟩, ⟨hl, hu⟩, hw⟩
    · obtain ⟨a, b, lo, hi, v, w, _, e, hP, ⟨k1, k2⟩, w1, w2⟩ := fitted_two N hD hl hu h8 hk c hN
      have hpl := hP.len
      obtain ⟨g1, e1, G1⟩ := Group_spec N hD hk hN m a (fun x hx => hl x (hP.ma x hx)) hP.ua (by omega) (by omega) (by omega)
      obtain ⟨g2, e2, G2⟩ := Group_spec N hD hk hN m b (fun x hx => hl x (hP.mb x hx)) hP.ub (by omega) (by omega) (by omega)
      have hc1 := G1.cl
      have hc2 := G2.cl
      have hn1 : 1 ≤ g1.length := List.length_pos_iff.2 G1.ne
      have hn2 : 1 ≤ g2.length := List.length_pos_iff.2 G2.ne
      rw [e, obind_s, dF (show ¬ ((List.length [(a, v), (b, w)] : Nat) : Int) = 1 by simp), cnd_f, dT (show (0 : Int) ≤ 0 by omega), dT (show (0 : Int) < ((List.length [(a, v), (b, w)] : Nat) : Int) by simp), Bool.and_self, cnd_t]
      show ∃ cs, obind (WR_clus_Group N m (D, a, k)) _ = some cs ∧ _
      rw [e1, obind_s, dT (show (0 : Int) ≤ 1 by omega), dT (show (1 : Int) < ((List.length [(a, v), (b, w)] : Nat) : Int) by simp), Bool.and_self, cnd_t]
      show ∃ cs, obind (WR_clus_Group N m (D, b, k)) _ = some cs ∧ _
      rw [e2, obind_s, cnd_T (by omega)]
      refine ⟨_, rfl, by simp [G1.ne], fun q hq => (List.mem_append.1 hq).elim (G1.m q) (G2.m q), fun _ q hq => (List.mem_append.1 hq).elim (G1.each k1 q) (G2.each k2 q), fun x => ?_, ?_, ?_⟩
      · rw [List.flatMap_append, List.mem_append, G1.mem, G2.mem]
        exact ⟨fun q => q.elim (hP.ma x) (hP.mb x), hP.cov x⟩
      · rw [List.flatMap_append, List.length_append, G1.len, G2.len]; exact hpl
      · rw [List.length_append]
        exact ⟨fun q => by omega, fun q => absurd q c⟩
theorem take_snocC {l : List Cl} {k : Nat} (h : k < l.length) : l.take (k + 1) = l.take k ++ [l.getD k cD] := by
  rw [List.take_succ_eq_append_getElem h, List.getD_eq_getElem?_getD, List.getElem?_eq_getElem h]; rfl
theorem getD_memC {l : List Cl} {i : Nat} (h : i < l.length) : l.getD i cD ∈ l := by
  rw [List.getD_eq_getElem?_getD, List.getElem?_eq_getElem h]; exact List.getElem_mem h
theorem flat_le (cs : List Cl) (j : Nat) : ((cs.take j).flatMap (fun c => c.1)).length ≤ (cs.flatMap (fun c => c.1)).length := by
  have : cs.flatMap (fun c => c.1) = (cs.take j).flatMap (fun c => c.1) ++ (cs.drop j).flatMap (fun c => c.1) := by rw [← List.flatMap_append, List.take_append_drop]
  rw [this, List.length_append]; omega
def better (D : List (List Int)) (e p : Int × Int) : Int × Int := if G D e.1 e.2 < G D p.1 p.2 then p else e
def pairs : List Int → List (Int × Int)
  | [] => []
  | x :: r => (r.map fun y => (x, y)) ++ pairs r
def ends (D : List (List Int)) (l : List Int) : Int × Int := (pairs l).foldl (better D) (l.getD 0 0, l.getD 1 0)
theorem far_one {D : List (List Int)} (hD : GD D) {a b : Int} (ha : 1 ≤ a ∧ a ≤ 8) (hb : 1 ≤ b ∧ b ≤ 8) : far D a [b] = G D a b := by
  have := hD.rng (a - 1).toNat (b - 1).toNat (by omega) (by omega)
  show max 0 (G D a b) = G D a b
  have h : 0 ≤ G D a b := this.1
  omega
theorem apart_G (N : Nat) {D : List (List Int)} (hD : GD D) {a b : Int} (ha : 1 ≤ a ∧ a ≤ 8) (hb : 1 ≤ b ∧ b ≤ 8) (hN : 1000 ≤ N) : W_clus_apart N (D, a, b) = some (G D a b) := by
  rw [apart_eq N hD ha hb hN, far_one hD ha hb]
theorem drop_get {l : List Int} {i : Nat} (h : i < l.length) : l.drop i = l.getD i 0 :: l.drop (i + 1) := by
  rw [List.drop_eq_getElem_cons h, List.getD_eq_getElem?_getD, List.getElem?_eq_getElem h]; rfl
theorem farthest_eq (N : Nat) {D : List (List Int)} (hD : GD D) {l : List Int} (hl : S8 l) (hu : Up l) (h2 : 2 ≤ l.length) (hlen : l.length ≤ 900) (hN : 1000 ≤ N) : W_clus_farthest N (D, l) = some (.inl (ends D l)) := by
  unfold W_clus_farthest V_clus_farthest
  try simp only
  rw [dF (show ¬ (l.length : Int) < 2 by omega), cnd_f, rises_eq N hl hu hlen hN, obind_s, Bool.not_true, cnd_f, dT (Int.le_refl 0), dT (show (0 : Int) < l.length by omega), Bool.and_self, cnd_t, dT (show (0 : Int) ≤ 1 by omega), dT (show (1 : Int) < l.length by omega), Bool.and_self, cnd_t, List.take_length]
  refine loop_post (σ := Int × Int × Int) (ρ := Int × Int) (β := (Int × Int) ⊕ Unit) (fun o => o = some (.inl (ends D l))) (fun v => ∃ (i : Nat) (e : Int × Int), v = ((i : Int), e) ∧ i ≤ l.length ∧ (pairs (l.drop i)).foldl (better D) e = ends D l ∧ e.1 ∈ l ∧ e.2 ∈ l) (fun v => l.length - v.1.toNat) (fun r => r = ends D l) ⟨0, _, rfl, by omega, rfl, getD_mem _ _ (by omega), getD_mem _ _ (by omega)⟩ (by simp; omega) (fun r h => by rw [h]) ?_
  rintro v ⟨i, e, rfl, hi, hf, he1, he2⟩
  try simp only
  by_cases h : (i : Int) < l.length
  case neg =>
    right
    rw [dF h, cnd_f]
    rw [List.drop_eq_nil_of_le (by omega)] at hf
    exact ⟨_, rfl, hf⟩
  left
  rw [dT h, cnd_t, dT (show (0 : Int) ≤ (i : Int) by omega), Bool.and_self, cnd_t, wr_m (z := (i : Int) + 1) (by omega) (by omega), dT (show 0 ≤ (i : Int) + 1 by omega), dT (show (i : Int) + 1 ≤ l.length by omega), Bool.and_self, cnd_t, show ((i : Int) + 1).toNat = i + 1 by omega, Int.toNat_natCast]
  rw [drop_get (by omega)] at hf
  have him := getD_mem l i (by omega)
  have hrm : ∀ x ∈ l.drop (i + 1), x ∈ l := fun x hx => List.mem_of_mem_drop hx
  have hrl : (l.drop (i + 1)).length ≤ 900 := by rw [List.length_drop]; omega
  obtain ⟨r, hr⟩ : ∃ r, l.drop (i + 1) = r := ⟨_, rfl⟩
  obtain ⟨a, ha⟩ : ∃ a, l.getD i 0 = a := ⟨_, rfl⟩
  rw [hr, ha] at hf
  rw [hr] at hrm hrl ⊢
  rw [ha] at him ⊢
  simp only [pairs, List.foldl_append] at hf
  refine loop_post (σ := Int × Int × Int) (ρ := Int × Int) (β := (Int × Int × Int) ⊕ (Int × Int)) (fun o => ∃ y : Int × Int × Int, o = some (.inl y) ∧ (∃ (i : Nat) (e : Int × Int), y = ((i : Int), e) ∧ i ≤ l.length ∧ (pairs (l.drop i)).foldl (better D) e = ends D l ∧ e.1 ∈ l ∧ e.2 ∈ l) ∧ l.length - y.1.toNat < l.length - i) (fun v => ∃ (j : Nat) (p : Int × Int), v = ((j : Int), p) ∧ j ≤ r.length ∧ ((r.drop j).map fun y => (a, y)).foldl (better D) p = (r.map fun y => (a, y)).foldl (better D) e ∧ p.1 ∈ l ∧ p.2 ∈ l) (fun v => r.length - v.1.toNat) (fun q => q = (r.map fun y => (a, y)).foldl (better D) e ∧ q.1 ∈ l ∧ q.2 ∈ l) ⟨0, _, rfl, by omega, rfl, he1, he2⟩ (by simp; omega) (fun q hq => ⟨_, rfl, ⟨i + 1, q, by simp, by omega, by rw [hr, hq.1]; exact hf, hq.2.1, hq.2.2⟩, by simp only; omega⟩) ?_
  rintro v ⟨j, p, rfl, hj, hg, hp1, hp2⟩
  try simp only
  by_cases c : (j : Int) < r.length
  case neg =>
    right
    rw [dF c, cnd_f]
    rw [List.drop_eq_nil_of_le (by omega)] at hg
    exact ⟨_, rfl, hg, hp1, hp2⟩
  left
  have hb := getD_mem r j (by omega)
  rw [drop_get (l := r) (by omega)] at hg
  rw [dT c, cnd_t, dT (show (0 : Int) ≤ (j : Int) by omega), Bool.and_self, cnd_t, Int.toNat_natCast, wr_m (z := (j : Int) + 1) (by omega) (by omega)]
  generalize r.getD j 0 = b at *
  simp only [List.map_cons, List.foldl_cons, better] at hg
  obtain ⟨p1, p2⟩ := p
  simp only at hp1 hp2 hg
  rw [apart_G N hD (hl a him) (hl b (hrm b hb)) hN, obind_s, apart_G N hD (hl p1 hp1) (hl p2 hp2) hN, obind_s]
  by_cases hc : G D p1 p2 < G D a b
  · rw [if_pos hc] at hg
    rw [dT hc, cnd_t]
    exact ⟨_, rfl, ⟨j + 1, _, by simp, by omega, hg, him, hrm b hb⟩, by simp only; omega⟩
  · rw [if_neg hc] at hg
    rw [dF hc, cnd_f]
    exact ⟨_, rfl, ⟨j + 1, _, by simp, by omega, hg, hp1, hp2⟩, by simp only; omega⟩
theorem ends_in {D : List (List Int)} {l : List Int} (hl : S8 l) (hu : Up l) (h2 : 2 ≤ l.length) (hlen : l.length ≤ 900) (hD : GD D) : (ends D l).1 ∈ l ∧ (ends D l).2 ∈ l ∧ (ends D l).1 < (ends D l).2 := by
  obtain ⟨lo, hi, e, h1, h2', h3⟩ := farthest_spec 1000 hD hl hu h2 hlen (Nat.le_refl _)
  rw [farthest_eq 1000 hD hl hu h2 hlen (Nat.le_refl _)] at e
  injection e with e; injection e with e
  rw [e]; exact ⟨h1, h2', h3⟩
def inA (D : List (List Int)) (lo hi x : Int) : Bool := decide (x ≠ hi) && (decide (x = lo) || decide (G D x lo ≤ G D x hi))
theorem filt_len {α : Type} (p : α → Bool) : ∀ l : List α, (l.filter p).length + (l.filter fun x => !p x).length = l.length
  | [] => rfl
  | x :: r => by
    have := filt_len p r
    rw [List.filter_cons, List.filter_cons]
    cases p x with
    | true => simp only [Bool.not_true, if_true, List.length_cons, Bool.false_eq_true, if_false]; omega
    | false => simp only [Bool.not_false, if_true, List.length_cons, Bool.false_eq_true, if_false]; omega
theorem Pt_filter (D : List (List Int)) {l : List Int} (hu : Up l) {lo hi : Int} (h : lo ≠ hi) : Pt l (l.filter (inA D lo hi)) (l.filter fun x => !inA D lo hi x) lo hi where
  ua := hu.filter _
  ub := hu.filter _
  ma := fun x hx => (List.mem_filter.1 hx).1
  mb := fun x hx => (List.mem_filter.1 hx).1
  cov := fun x hx => by
    cases hb : inA D lo hi x with
    | true => exact .inl (List.mem_filter.2 ⟨hx, hb⟩)
    | false => exact .inr (List.mem_filter.2 ⟨hx, by rw [hb]; rfl⟩)
  dis := fun x hx hb => by
    have h1 := (List.mem_filter.1 hx).2
    have h2 := (List.mem_filter.1 hb).2
    rw [h1] at h2; cases h2
  len := filt_len _ l
  la := fun hx => by
    have := (List.mem_filter.1 hx).2
    unfold inA at this
    rw [dF (fun q : hi ≠ hi => q rfl)] at this; cases this
  lb := fun hx => by
    have := (List.mem_filter.1 hx).2
    unfold inA at this
    rw [dT h, dT (show lo = lo from rfl)] at this; cases this
theorem filt_snoc (p : Int → Bool) (l : List Int) (x : Int) : (l ++ [x]).filter p = if p x = true then l.filter p ++ [x] else l.filter p := by
  rw [List.filter_append, List.filter_cons]
  split <;> simp
theorem inA_1 {D : List (List Int)} {lo hi x : Int} (h : x = lo) (hn : lo ≠ hi) : inA D lo hi x = true := by
  unfold inA; rw [dT (show x ≠ hi from h ▸ hn), dT h]; rfl
theorem inA_2 {D : List (List Int)} {lo hi x : Int} (h : x = hi) : inA D lo hi x = false := by
  unfold inA; rw [dF (show ¬ x ≠ hi from fun q => q h)]; rfl
theorem inA_3 {D : List (List Int)} {lo hi x : Int} (h1 : x ≠ lo) (h2 : x ≠ hi) : inA D lo hi x = decide (G D x lo ≤ G D x hi) := by
  unfold inA; rw [dT h2, dF h1]; simp
theorem Split_val (N : Nat) {D : List (List Int)} (hD : GD D) {l : List Int} {k : Int} (hl : S8 l) (hu : Up l) (h2 : 2 ≤ l.length) (h8 : l.length ≤ 8) (hN : 1000 ≤ N) :
    W_clus_Split N (D, l, k) = obind (W_clus_fill N (D, ((ends D l).1, (ends D l).2), l.filter (inA D (ends D l).1 (ends D l).2), (l.filter fun x => !inA D (ends D l).1 (ends D l).2 x), k)) fun (b_1 : List Int × List Int) => obind (W_clus_fill N (D, ((ends D l).2, (ends D l).1), b_1.2, b_1.1, k)) fun (b : List Int × List Int) => some (b.2, b.1) := by
  obtain ⟨hlo, hhi, hlh⟩ := ends_in hl hu h2 (by omega) hD
  unfold W_clus_Split V_clus_Split
  try simp only
  rw [farthest_eq N hD hl hu h2 (by omega) hN, obind_s, selim_l]
  obtain ⟨e, he⟩ : ∃ e, ends D l = e := ⟨_, rfl⟩
  rw [he] at hlo hhi hlh ⊢
  obtain ⟨u, v⟩ := e
  simp only at hlo hhi hlh ⊢
  refine loop_post (σ := Int × List Int × List Int × Int × Int) (ρ := List Int × List Int × Int × Int) (β := List Int × List Int) (fun o => o = obind (W_clus_fill N (D, (u, v), l.filter (inA D u v), (l.filter fun x => !inA D u v x), k)) fun (b_1 : List Int × List Int) => obind (W_clus_fill N (D, (v, u), b_1.2, b_1.1, k)) fun (b : List Int × List Int) => some (b.2, b.1)) (fun s => ∃ i : Nat, s = ((i : Int), (l.take i).filter (inA D u v), ((l.take i).filter fun x => !inA D u v x), u, v) ∧ i ≤ l.length) (fun s => l.length - s.1.toNat) (fun r => r = (l.filter (inA D u v), (l.filter fun x => !inA D u v x), u, v)) ⟨0, by simp, by omega⟩ (by simp; omega) (fun r h => by rw [h]) ?_
  rintro s ⟨i, rfl, hi⟩
  try simp only
  by_cases c : (i : Int) < l.length
  case neg =>
    right
    rw [dF c, cnd_f, List.take_of_length_le (by omega)]
    exact ⟨_, rfl, rfl⟩
  left
  have hx := getD_mem l i (by omega)
  have hx8 := hl _ hx
  have htk : l.take (i + 1) = l.take i ++ [l.getD i 0] := take_snoc l _ (by omega)
  rw [dT c, cnd_t, dT (show (0 : Int) ≤ (i : Int) by omega), Bool.and_self, cnd_t, Int.toNat_natCast, wr_m (z := (i : Int) + 1) (by omega) (by omega)]
  have la : ((l.take i).filter (inA D u v)).length ≤ 8 := Nat.le_trans (List.length_filter_le _ _) (by rw [List.length_take]; omega)
  have lb : ((l.take i).filter fun x => !inA D u v x).length ≤ 8 := Nat.le_trans (List.length_filter_le _ _) (by rw [List.length_take]; omega)
  refine ⟨(((i + 1 : Nat) : Int), (l.take (i + 1)).filter (inA D u v), ((l.take (i + 1)).filter fun x => !inA D u v x), u, v), ?_, ⟨i + 1, rfl, by omega⟩, by simp only; omega⟩
  rw [htk, filt_snoc, filt_snoc, show ((i + 1 : Nat) : Int) = i + 1 by omega]
  generalize l.getD i 0 = x at *
  generalize (l.take i).filter (inA D u v) = A at *
  generalize ((l.take i).filter fun x => !inA D u v x) = B at *
  have ca : (A.length + [x].length) * 8 ≤ 140737488355328 := by rw [List.length_singleton]; omega
  have cb : (B.length + [x].length) * 8 ≤ 140737488355328 := by rw [List.length_singleton]; omega
  rw [dT ca, dT cb]
  by_cases c1 : x = u
  · rw [dT c1, cnd_t, cnd_t, inA_1 c1 (by omega)]; rfl
  rw [dF c1, cnd_f]
  by_cases c2 : x = v
  · rw [dF (fun q : x ≠ v => q c2), cnd_f, cnd_t, inA_2 c2]; rfl
  · rw [dT c2, cnd_t, apart_G N hD hx8 (hl u hlo) hN, obind_s, apart_G N hD hx8 (hl v hhi) hN, obind_s, inA_3 c1 c2]
    by_cases c3 : G D x u ≤ G D x v
    · rw [dT c3, cnd_t, cnd_t]; rfl
    · rw [dF c3, cnd_f, cnd_t]; rfl
/-! The reference's parts. -/
theorem without7_eq (N : Nat) (l : List Int) (k : Int) (hl : l.length ≤ 900) (hN : 1000 ≤ N) : W_ref7_without N (l, k) = some (les l k) := by
  unfold W_ref7_without V_ref7_without les
  try simp only
  refine loop_post (σ := Int × List Int) (ρ := List Int) (β := List Int) (fun o => o = some (l.filter fun x => decide (x ≠ k))) (fun v => ∃ i : Nat, v = ((i : Int), (l.take i).filter fun x => decide (x ≠ k)) ∧ i ≤ l.length) (fun v => l.length - v.1.toNat) (fun r => r = l.filter fun x => decide (x ≠ k)) ⟨0, by simp, by omega⟩ (by simp; omega) (fun r h => by rw [h]) ?_
  rintro v ⟨i, rfl, hi⟩
  try simp only
  by_cases c : (i : Int) < l.length
  case neg =>
    right
    rw [dF c, cnd_f, List.take_of_length_le (by omega)]
    exact ⟨_, rfl, rfl⟩
  left
  have htk : l.take (i + 1) = l.take i ++ [l.getD i 0] := take_snoc l _ (by omega)
  have la : ((l.take i).filter fun x => decide (x ≠ k)).length ≤ 900 := Nat.le_trans (List.length_filter_le _ _) (by rw [List.length_take]; omega)
  rw [dT c, cnd_t, dT (show (0 : Int) ≤ (i : Int) by omega), Bool.and_self, cnd_t, Int.toNat_natCast, wr_m (z := (i : Int) + 1) (by omega) (by omega)]
  refine ⟨(((i + 1 : Nat) : Int), (l.take (i + 1)).filter fun x => decide (x ≠ k)), ?_, ⟨i + 1, rfl, by omega⟩, by simp only; omega⟩
  rw [htk, filt_snoc, show ((i + 1 : Nat) : Int) = i + 1 by omega]
  generalize l.getD i 0 = x at *
  generalize (l.take i).filter (fun x => decide (x ≠ k)) = A at *
  by_cases c1 : x ≠ k
  · rw [dT c1, cnd_t, cnd_t, dT (show (A.length + [x].length) * 8 ≤ 140737488355328 by rw [List.length_singleton]; omega), cnd_t]; rfl
  · rw [dF c1, cnd_f]; rfl
/-- One is handed over. -/
theorem hand (N : Nat) {D : List (List Int)} (hD : GD D) {s p q : List Int} {u v k : Int} (hs : S8 s) (hsl : s.length ≤ 8) (hu : u ∈ s) (hk : 1 ≤ k) (g3 : Pt s p q u v) (h2 : k < q.length) (hN : 1000 ≤ N) :
    ∃ id, W_mid_Near N (D, u, les q v) = some id ∧ W_ref7_Near N (D, u, les q v) = some id ∧ W_ref7_Rising N (p ++ [id]) = some (ins p [id]) ∧ id ∈ les q v ∧ Pt s (ins p [id]) (les q id) u v := by
  have hlen := g3.len
  have hS : S8 (les q v) := fun x hx => hs x (g3.mb x (les_mem.1 hx).1)
  have hL : (les q v).length ≤ 900 := by have := les_le (l := q) (k := v); omega
  obtain ⟨id, e, hw⟩ := Near_spec N hD (hs u hu) (l := les q v) hS hL hN
  obtain ⟨id', e', hw'⟩ := Near7_spec N hD (hs u hu) (l := les q v) hS hL hN
  have := Who_one hw hw'
  subst this
  have hid : id ∈ les q v := by
    rcases hw with ⟨h, _⟩ | h
    · exfalso
      have hq : 2 ≤ q.length := by omega
      have : ∃ y, y ∈ les q v := by
        by_cases hv : v ∈ q
        · have := les_len (Up_nodup g3.ub) hv
          obtain ⟨y, hy⟩ := List.exists_mem_of_length_pos (show 0 < (les q v).length by omega)
          exact ⟨y, hy⟩
        · obtain ⟨y, hy⟩ := List.exists_mem_of_length_pos (show 0 < q.length by omega)
          exact ⟨y, les_mem.2 ⟨hy, fun c => hv (c ▸ hy)⟩⟩
      obtain ⟨y, hy⟩ := this
      have : y ∈ (les q v).filter fun x => decide (x ≠ u) := by
        rw [List.mem_filter, decide_eq_true_eq]
        exact ⟨hy, fun c => g3.lb (c ▸ (les_mem.1 hy).1)⟩
      rw [h] at this
      cases this
    · exact (List.mem_filter.1 h.1).1
  have hid2 := les_mem.1 hid
  have hP := g3.give hid2.1 hid2.2
  refine ⟨id, e, e', Rising_is N (by rw [List.length_append, List.length_singleton]; omega) hN hP.ua (fun x hx => hs x (hP.ma x hx)) (fun x => by rw [ins_mem, List.mem_append]), hid, hP⟩
theorem loop_sim {σ σ' ρ ρ' : Type} {f : σ → Option (σ ⊕ ρ)} {g : σ' → Option (σ' ⊕ ρ')} (R : σ → σ' → Prop) (S : ρ → ρ' → Prop)
    (h : ∀ x y, R x y → (∃ x' y', f x = some (.inl x') ∧ g y = some (.inl y') ∧ R x' y') ∨ ∃ r r', f x = some (.inr r) ∧ g y = some (.inr r') ∧ S r r') :
    ∀ (n : Nat) (x : σ) (y : σ') (r : ρ), R x y → loopN n f x = some r → ∃ r', loopN n g y = some r' ∧ S r r'
  | 0, x, y, r, _, e => by cases e
  | n + 1, x, y, r, hR, e => by
    rcases h x y hR with ⟨x', y', e1, e2, hR'⟩ | ⟨q, q', e1, e2, hS⟩
    · simp only [loopN, e1] at e
      obtain ⟨r', e3, hS⟩ := loop_sim R S h n x' y' r hR' e
      exact ⟨r', by simp only [loopN, e2]; exact e3, hS⟩
    · simp only [loopN, e1, Option.some.injEq] at e
      subst e
      exact ⟨q', by simp only [loopN, e2], hS⟩
theorem fill_loop (N : Nat) {D : List (List Int)} {u v k : Int} {a b a' b' : List Int} (h : W_clus_fill N (D, (u, v), a, b, k) = some (a', b')) : loopN N (fun (w : List Int × List Int × Int × Int) => cnd (decide ((↑(List.length w.1) : Int) < k)) (cnd (decide (k < (↑(List.length w.2.1) : Int))) (obind (W_clus_without N (w.2.1, w.2.2.2)) fun (b : List Int) => obind (W_mid_Near N (D, w.2.2.1, b)) fun (b : Int) => obind (W_clus_with N (w.1, [b])) fun (b_1 : List Int) => obind (W_clus_without N (w.2.1, b)) fun (b : List Int) => some (Sum.inl (b_1, b, w.2.2))) (some (Sum.inr (w.1, w.2.1)))) (some (Sum.inr (w.1, w.2.1)))) (a, b, u, v) = some (a', b') := by
  unfold W_clus_fill V_clus_fill at h
  simp only at h
  cases e : loopN N (fun (w : List Int × List Int × Int × Int) => cnd (decide ((↑(List.length w.1) : Int) < k)) (cnd (decide (k < (↑(List.length w.2.1) : Int))) (obind (W_clus_without N (w.2.1, w.2.2.2)) fun (b : List Int) => obind (W_mid_Near N (D, w.2.2.1, b)) fun (b : Int) => obind (W_clus_with N (w.1, [b])) fun (b_1 : List Int) => obind (W_clus_without N (w.2.1, b)) fun (b : List Int) => some (Sum.inl (b_1, b, w.2.2))) (some (Sum.inr (w.1, w.2.1)))) (some (Sum.inr (w.1, w.2.1)))) (a, b, u, v) with
  | none => rw [e] at h; cases h
  | some r => rw [e] at h; exact h
theorem fill_one (N : Nat) {D : List (List Int)} (hD : GD D) {s p q : List Int} {u v k : Int} (hs : S8 s) (hsl : s.length ≤ 8) (hu : u ∈ s) (hk : 1 ≤ k) (g3 : Pt s p q u v) (h1 : (p.length : Int) < k) (h2 : k < q.length) (hN : 1000 ≤ N) :
    ∃ id, obind (W_clus_without N (q, v)) (fun (b : List Int) => obind (W_mid_Near N (D, u, b)) fun (b : Int) => obind (W_clus_with N (p, [b])) fun (b_1 : List Int) => obind (W_clus_without N (q, b)) fun (b : List Int) => (some (Sum.inl (b_1, b, u, v)) : Option ((List Int × List Int × Int × Int) ⊕ (List Int × List Int)))) = some (.inl (ins p [id], les q id, u, v)) ∧ Pt s (ins p [id]) (les q id) u v ∧ W_ref7_without N (q, v) = some (les q v) ∧ W_ref7_Near N (D, u, les q v) = some id ∧ W_ref7_Rising N (p ++ [id]) = some (ins p [id]) ∧ W_ref7_without N (q, id) = some (les q id) ∧ (p.length + [id].length) * 8 ≤ 140737488355328 := by
  have hlen := g3.len
  obtain ⟨id, e1, e2, e3, hid, hP⟩ := hand N hD hs hsl hu hk g3 h2 hN
  refine ⟨id, ?_, hP, without7_eq N q v (by omega) hN, e2, e3, without7_eq N q id (by omega) hN, by rw [List.length_singleton]; omega⟩
  rw [without_eq N q v (by omega) (by omega), obind_s, e1, obind_s, with_eq N p [id] (by omega) (by simp) (by simp), obind_s, without_eq N q id (by omega) (by omega), obind_s]
theorem Split7_eq (N : Nat) {D : List (List Int)} (hD : GD D) {l : List Int} {k : Int} (hl : S8 l) (hu : Up l) (h2 : 2 ≤ l.length) (h8 : l.length ≤ 8) (hk : 1 ≤ k) (hN : 1000 ≤ N) : W_ref7_Split N (D, l, k) = W_clus_Split N (D, l, k) := by
  obtain ⟨hlo, hhi, hlh⟩ := ends_in hl hu h2 (by omega) hD
  rw [Split_val N hD hl hu h2 h8 hN]
  unfold W_ref7_Split V_ref7_Split
  try simp only
  rw [dF (show ¬ (l.length : Int) < 2 by omega), cnd_f]
  have hDl := len_eq hD
  -- whom it takes as ends
  let betR : Int × Int → Int × Int → Int × Int := fun e p => if e.1 = 0 then p else better D e p
  have hends : (pairs l).foldl betR (0, 0) = ends D l := by
    have hgen : ∀ (ps : List (Int × Int)) (e : Int × Int), (∀ p ∈ ps, 1 ≤ p.1) → 1 ≤ e.1 → ps.foldl betR e = ps.foldl (better D) e := by
      intro ps
      induction ps with
      | nil => intro e _ _; rfl
      | cons p r ih =>
        intro e hp he
        have hb : betR e p = better D e p := if_neg (by omega)
        simp only [List.foldl_cons]
        rw [hb]
        refine ih _ (fun x hx => hp x (by simp [hx])) ?_
        unfold better
        split
        · exact hp p (by simp)
        · exact he
    have hpm : ∀ (m : List Int), S8 m → ∀ p ∈ pairs m, 1 ≤ p.1 := by
      intro m
      induction m with
      | nil => intro _ p hp; cases hp
      | cons x r ih =>
        intro hm p hp
        simp only [pairs, List.mem_append, List.mem_map] at hp
        rcases hp with ⟨y, _, rfl⟩ | hp
        · exact (hm x (by simp)).1
        · exact ih (fun y hy => hm y (by simp [hy])) p hp
    match l, h2, hl with
    | x :: y :: r, _, hl =>
      have e1 : pairs (x :: y :: r) = (x, y) :: ((r.map fun z => (x, z)) ++ pairs (y :: r)) := rfl
      unfold ends
      rw [e1]
      simp only [List.foldl_cons]
      have hx := hl x (by simp)
      have e2 : betR (0, 0) (x, y) = (x, y) := if_pos rfl
      have e3 : better D ((x :: y :: r).getD 0 0, (x :: y :: r).getD 1 0) (x, y) = (x, y) := by
        show (if _ then _ else _) = _
        split <;> rfl
      rw [e2, e3]
      refine hgen _ _ (fun p hp => hpm _ hl p ?_) hx.1
      rw [e1]; exact List.mem_cons_of_mem _ hp
  refine loop_post (σ := Int × Int × Int) (ρ := Int × Int) (β := List Int × List Int) (fun o => o = _) (fun v => ∃ i : Nat, v.2.2 = i ∧ i ≤ l.length ∧ (pairs (l.drop i)).foldl betR (v.1, v.2.1) = ends D l ∧ (v.1 = 0 ∨ (v.1 ∈ l ∧ v.2.1 ∈ l))) (fun v => l.length - v.2.2.toNat) (fun r => r = ends D l) ⟨0, rfl, by omega, hends, .inl rfl⟩ (by simp; omega) ?_ ?_
  rotate_left
  · rintro ⟨p, q, i'⟩ ⟨i, hi', hi, hf, hpq⟩
    simp only at hi' hf hpq ⊢
    subst hi'
    by_cases h : (i : Int) < l.length
    case neg =>
      right
      rw [dF h, cnd_f]
      rw [List.drop_eq_nil_of_le (by omega)] at hf
      exact ⟨_, rfl, hf⟩
    left
    rw [dT h, cnd_t, wr_m (z := (i : Int) + 1) (by omega) (by omega), dT (show (0 : Int) ≤ (i : Int) by omega), Bool.and_self, Int.toNat_natCast]
    rw [drop_get (by omega)] at hf
    have him := getD_mem l i (by omega)
    obtain ⟨a, ha⟩ : ∃ a, l.getD i 0 = a := ⟨_, rfl⟩
    rw [ha] at hf him ⊢
    have ha8 := hl a him
    simp only [pairs, List.foldl_append] at hf
    refine loop_post (σ := Int × Int × Int) (ρ := Int × Int) (β := (Int × Int × Int) ⊕ (Int × Int)) (fun o => ∃ y : Int × Int × Int, o = some (.inl y) ∧ (∃ i : Nat, y.2.2 = i ∧ i ≤ l.length ∧ (pairs (l.drop i)).foldl betR (y.1, y.2.1) = ends D l ∧ (y.1 = 0 ∨ (y.1 ∈ l ∧ y.2.1 ∈ l))) ∧ l.length - y.2.2.toNat < l.length - i) (fun v => ∃ j : Nat, v.2.2 = j ∧ i + 1 ≤ j ∧ j ≤ l.length ∧ ((l.drop j).map fun y => (a, y)).foldl betR (v.1, v.2.1) = ((l.drop (i + 1)).map fun y => (a, y)).foldl betR (p, q) ∧ (v.1 = 0 ∨ (v.1 ∈ l ∧ v.2.1 ∈ l))) (fun v => l.length - v.2.2.toNat) (fun r => r = ((l.drop (i + 1)).map fun y => (a, y)).foldl betR (p, q) ∧ (r.1 = 0 ∨ (r.1 ∈ l ∧ r.2 ∈ l))) ⟨i + 1, by simp, by omega, by omega, rfl, hpq⟩ (by simp; omega) (fun r hr => ⟨_, rfl, ⟨i + 1, by simp, by omega, by show (pairs _).foldl betR (r.1, r.2) = _; rw [show (r.1, r.2) = r from rfl, hr.1]; exact hf, hr.2⟩, by simp only; omega⟩) ?_
    rintro ⟨p1, q1, j'⟩ ⟨j, hj', hj1, hj, hg, hpq1⟩
    simp only at hj' hg hpq1 ⊢
    subst hj'
    by_cases c : (j : Int) < l.length
    case neg =>
      right
      rw [dF c, cnd_f]
      rw [List.drop_eq_nil_of_le (by omega)] at hg
      exact ⟨_, rfl, hg, hpq1⟩
    left
    have hb := getD_mem l j (by omega)
    have hb8 := hl _ hb
    rw [drop_get (l := l) (i := j) (by omega)] at hg
    rw [dT c, cnd_t, wr_m (z := (j : Int) + 1) (by omega) (by omega), dT (show (0 : Int) ≤ (j : Int) by omega), Bool.and_self, Int.toNat_natCast]
    generalize l.getD j 0 = b at *
    simp only [List.map_cons, List.foldl_cons] at hg
    by_cases c0 : p1 = 0
    · have hbt : betR (p1, q1) (a, b) = (a, b) := if_pos c0
      rw [hbt] at hg
      rw [dT c0, cnd_t, cnd_t, cnd_t]
      exact ⟨_, rfl, ⟨j + 1, by simp, by omega, by omega, hg, .inr ⟨him, hb⟩⟩, by simp only; omega⟩
    obtain ⟨hp1, hq1⟩ := hpq1.resolve_left c0
    have hp8 := hl _ hp1
    have hq8 := hl _ hq1
    have hbt : betR (p1, q1) (a, b) = if G D p1 q1 < G D a b then (a, b) else (p1, q1) := if_neg c0
    rw [hbt] at hg
    have ra := row_eq hD ha8
    have rp := row_eq hD hp8
    rw [dF c0, cnd_f, cnd_t, wr_m (z := a - 1) (by omega) (by omega), wr_m (z := b - 1) (by omega) (by omega), wr_m (z := p1 - 1) (by omega) (by omega), wr_m (z := q1 - 1) (by omega) (by omega), dT (show 0 ≤ a - 1 by omega), dT (show a - 1 < (D.length : Int) by omega), Bool.and_self, cnd_t, cnd_t, dT (show 0 ≤ b - 1 by omega), dT (show b - 1 < ((D.getD (a - 1).toNat []).length : Int) by omega), Bool.and_self, cnd_t, dT (show 0 ≤ p1 - 1 by omega), dT (show p1 - 1 < (D.length : Int) by omega), Bool.and_self, cnd_t, dT (show 0 ≤ q1 - 1 by omega), dT (show q1 - 1 < ((D.getD (p1 - 1).toNat []).length : Int) by omega), Bool.and_self, cnd_t]
    show (∃ y, cnd (decide (G D p1 q1 < G D a b)) _ _ = _ ∧ _)
    by_cases hc : G D p1 q1 < G D a b
    · rw [if_pos hc] at hg
      rw [dT hc, cnd_t, cnd_t, cnd_t]
      exact ⟨_, rfl, ⟨j + 1, by simp, by omega, by omega, hg, .inr ⟨him, hb⟩⟩, by simp only; omega⟩
    · rw [if_neg hc] at hg
      rw [dF hc, cnd_f]
      exact ⟨_, rfl, ⟨j + 1, by simp, by omega, by omega, hg, .inr ⟨hp1, hq1⟩⟩, by simp only; omega⟩
  rintro r rfl
  obtain ⟨e, he⟩ : ∃ e, ends D l = e := ⟨_, rfl⟩
  rw [he] at hlo hhi hlh ⊢
  clear hends
  obtain ⟨u, v⟩ := e
  simp only at hlo hhi hlh ⊢
  have hu8 := hl u hlo
  have hv8 := hl v hhi
  have hPt := Pt_filter D hu (lo := u) (hi := v) (by omega)
  refine loop_post (σ := Int × List Int × List Int) (ρ := List Int × List Int) (β := List Int × List Int) (fun o => o = _) (fun s => ∃ i : Nat, s = ((i : Int), (l.take i).filter (inA D u v), ((l.take i).filter fun x => !inA D u v x)) ∧ i ≤ l.length) (fun s => l.length - s.1.toNat) (fun r => r = (l.filter (inA D u v), (l.filter fun x => !inA D u v x))) ⟨0, by simp, by omega⟩ (by simp; omega) ?_ ?_
  rotate_left
  · rintro s ⟨i, rfl, hi⟩
    try simp only
    by_cases c : (i : Int) < l.length
    case neg =>
      right
      rw [dF c, cnd_f, List.take_of_length_le (by omega)]
      exact ⟨_, rfl, rfl⟩
    left
    have hx := getD_mem l i (by omega)
    have hx8 := hl _ hx
    have htk : l.take (i + 1) = l.take i ++ [l.getD i 0] := take_snoc l _ (by omega)
    rw [dT c, cnd_t, dT (show (0 : Int) ≤ (i : Int) by omega), Bool.and_self, cnd_t, Int.toNat_natCast, wr_m (z := (i : Int) + 1) (by omega) (by omega)]
    have la : ((l.take i).filter (inA D u v)).length ≤ 8 := Nat.le_trans (List.length_filter_le _ _) (by rw [List.length_take]; omega)
    have lb : ((l.take i).filter fun x => !inA D u v x).length ≤ 8 := Nat.le_trans (List.length_filter_le _ _) (by rw [List.length_take]; omega)
    refine ⟨(((i + 1 : Nat) : Int), (l.take (i + 1)).filter (inA D u v), ((l.take (i + 1)).filter fun x => !inA D u v x)), ?_, ⟨i + 1, rfl, by omega⟩, by simp only; omega⟩
    rw [htk, filt_snoc, filt_snoc, show ((i + 1 : Nat) : Int) = i + 1 by omega]
    generalize l.getD i 0 = x at *
    generalize (l.take i).filter (inA D u v) = A at *
    generalize ((l.take i).filter fun x => !inA D u v x) = B at *
    have ca : (A.length + [x].length) * 8 ≤ 140737488355328 := by rw [List.length_singleton]; omega
    have cb : (B.length + [x].length) * 8 ≤ 140737488355328 := by rw [List.length_singleton]; omega
    have rx := row_eq hD hx8
    rw [dT ca, dT cb]
    by_cases c2 : x = v
    · rw [dF (fun q : x ≠ v => q c2), cnd_f, cnd_t, inA_2 c2]; rfl
    rw [dT c2, cnd_t]
    by_cases c1 : x = u
    · rw [dT c1, cnd_t, cnd_t, inA_1 c1 (by omega)]; rfl
    rw [dF c1, cnd_f, wr_m (z := x - 1) (by omega) (by omega), wr_m (z := u - 1) (by omega) (by omega), wr_m (z := v - 1) (by omega) (by omega), dT (show 0 ≤ x - 1 by omega), dT (show x - 1 < (D.length : Int) by omega), Bool.and_self, cnd_t, dT (show 0 ≤ u - 1 by omega), dT (show u - 1 < ((D.getD (x - 1).toNat []).length : Int) by omega), Bool.and_self, cnd_t, cnd_t, dT (show 0 ≤ v - 1 by omega), dT (show v - 1 < ((D.getD (x - 1).toNat []).length : Int) by omega), Bool.and_self, cnd_t, inA_3 c1 c2]
    show cnd (decide (G D x u ≤ G D x v)) _ _ = _
    by_cases c3 : G D x u ≤ G D x v
    · rw [dT c3, cnd_t, cnd_t]; rfl
    · rw [dF c3, cnd_f, cnd_t]; rfl
  rintro r rfl
  obtain ⟨a1, b1, e1, hP1, _, _⟩ := fill_spec N hD hl h8 hlo hk hPt hN
  obtain ⟨b2, a2, e2, hP2, _, _⟩ := fill_spec N hD hl h8 hhi hk hP1.swap hN
  rw [e1, obind_s]
  try simp only
  rw [e2, obind_s]
  refine Exists.elim (loop_sim (g := fun (v_1 : List Int × List Int) => cnd (decide ((↑(List.length v_1.1) : Int) < k)) (cnd (decide (k < (↑(List.length v_1.2) : Int))) (obind (W_ref7_without N (v_1.2, v)) fun (b_2 : List Int) => obind (W_ref7_Near N (D, u, b_2)) fun (b : Int) => cnd (decide ((List.length v_1.1 + List.length [b]) * (8 : Nat) ≤ (140737488355328 : Nat))) (obind (W_ref7_Rising N (v_1.1 ++ [b])) fun (b_3 : List Int) => obind (W_ref7_without N (v_1.2, b)) fun (b : List Int) => some (Sum.inl (b_3, b))) none) (some (Sum.inr v_1))) (some (Sum.inr v_1)))
    (fun x y => ∃ p q, x = (p, q, u, v) ∧ y = (p, q) ∧ Pt l p q u v) (fun r r' => r' = r) ?_ N _ (l.filter (inA D u v), (l.filter fun x => !inA D u v x)) _ ⟨_, _, rfl, rfl, hPt⟩ (fill_loop N e1)) ?_
  · rintro x y ⟨p, q, rfl, rfl, hp⟩
    try simp only
    by_cases h1 : (p.length : Int) < k
    · rw [dT h1, cnd_t, cnd_t]
      by_cases h2' : k < q.length
      · left
        obtain ⟨id, f1, f2, f3, f4, f5, f6, f7⟩ := fill_one N hD hl h8 hlo hk hp h1 h2' hN
        rw [dT h2', cnd_t, cnd_t, f3, obind_s, f4, obind_s, dT f7, cnd_t, f5, obind_s, f6, obind_s]
        exact ⟨_, _, f1, rfl, _, _, rfl, rfl, f2⟩
      · right
        rw [dF h2', cnd_f, cnd_f]
        exact ⟨_, _, rfl, rfl, rfl⟩
    · right
      rw [dF h1, cnd_f, cnd_f]
      exact ⟨_, _, rfl, rfl, rfl⟩
  rintro r1 ⟨s1, q1⟩
  subst q1
  rw [s1, obind_s]
  refine Exists.elim (loop_sim (g := fun (v_1 : List Int × List Int) => cnd (decide ((↑(List.length v_1.2) : Int) < k)) (cnd (decide (k < (↑(List.length v_1.1) : Int))) (obind (W_ref7_without N (v_1.1, u)) fun (b_3 : List Int) => obind (W_ref7_Near N (D, v, b_3)) fun (b : Int) => cnd (decide ((List.length v_1.2 + List.length [b]) * (8 : Nat) ≤ (140737488355328 : Nat))) (obind (W_ref7_Rising N (v_1.2 ++ [b])) fun (b_4 : List Int) => obind (W_ref7_without N (v_1.1, b)) fun (b : List Int) => some (Sum.inl (b, b_4))) none) (some (Sum.inr v_1))) (some (Sum.inr v_1)))
    (fun x y => ∃ p q, x = (p, q, v, u) ∧ y = (q, p) ∧ Pt l p q v u) (fun r r' => r' = (r.2, r.1)) ?_ N _ (a1, b1) _ ⟨_, _, rfl, rfl, hP1.swap⟩ (fill_loop N e2)) ?_
  · rintro x y ⟨p, q, rfl, rfl, hp⟩
    try simp only
    by_cases h1 : (p.length : Int) < k
    · rw [dT h1, cnd_t, cnd_t]
      by_cases h2' : k < q.length
      · left
        obtain ⟨id, f1, f2, f3, f4, f5, f6, f7⟩ := fill_one N hD hl h8 hhi hk hp h1 h2' hN
        rw [dT h2', cnd_t, cnd_t, f3, obind_s, f4, obind_s, dT f7, cnd_t, f5, obind_s, f6, obind_s]
        exact ⟨_, _, f1, rfl, _, _, rfl, rfl, f2⟩
      · right
        rw [dF h2', cnd_f, cnd_f]
        exact ⟨_, _, rfl, rfl, rfl⟩
    · right
      rw [dF h1, cnd_f, cnd_f]
      exact ⟨_, _, rfl, rfl, rfl⟩
  rintro r2 ⟨s2, q2⟩
  subst q2
  rw [s2, obind_s]
theorem dTi {p : Prop} {i : Decidable p} (h : p) : @decide p i = true := decide_eq_true h
/-! Group: the program and the reference. -/
def GR (N : Nat) (D : List (List Int)) (k : Int) (l : List Int) (g : List Cl) : Prop := ∀ m, l.length < m → WR_clus_Group N m (D, l, k) = some g
structure Vd (l : List Int) : Prop where
  s : S8 l
  u : Up l
  p : 1 ≤ l.length
  e : l.length ≤ 8
theorem GR_unique {N : Nat} {D : List (List Int)} {k : Int} {l : List Int} {g g' : List Cl} (h : GR N D k l g) (h' : GR N D k l g') : g = g' := by
  have e := h (l.length + 1) (by omega)
  rw [h' (l.length + 1) (by omega)] at e
  injection e with e; exact e.symm
theorem GR_one (N : Nat) {D : List (List Int)} (hD : GD D) {k : Int} (hk : 1 ≤ k ∧ k ≤ 3) (hN : 1000 ≤ N) {l : List Int} (h : Vd l) (c : (l.length : Int) ≤ 3 * k - 1) : ∃ v, GR N D k l [(l, v)] ∧ Who (fun x => far D x l) l v := by
  obtain ⟨v, e, hw⟩ := fitted_one N hD h.s h.e hk c hN
  refine ⟨v, fun m hm => ?_, hw⟩
  have hp := h.p
  cases m with
  | zero => omega
  | succ m =>
    rw [Group_step, dF (show ¬ (l.length : Int) = 0 by omega), cnd_f, e, obind_s, dT (show ((List.length [(l, v)] : Nat) : Int) = 1 from rfl), cnd_t]
theorem GR_two (N : Nat) {D : List (List Int)} (hD : GD D) {k : Int} (hk : 1 ≤ k ∧ k ≤ 3) (hN : 1000 ≤ N) {l a b : List Int} {v w : Int} {g1 g2 : List Cl} (h : Vd l) (e : W_clus_fitted N (D, l, k) = some [(a, v), (b, w)]) (ha : a.length < l.length) (hb : b.length < l.length) (h1 : GR N D k a g1) (h2 : GR N D k b g2) (hg : g1.length + g2.length ≤ 100) : GR N D k l (g1 ++ g2) := by
  intro m hm
  have hp := h.p
  cases m with
  | zero => omega
  | succ m =>
    rw [Group_step, dF (show ¬ (l.length : Int) = 0 by omega), cnd_f, e, obind_s, dF (show ¬ ((List.length [(a, v), (b, w)] : Nat) : Int) = 1 by simp), cnd_f, dT (show (0 : Int) ≤ 0 by omega), dT (show (0 : Int) < ((List.length [(a, v), (b, w)] : Nat) : Int) by simp), Bool.and_self, cnd_t]
    show obind (WR_clus_Group N m (D, a, k)) _ = _
    rw [h1 m (by omega), obind_s, dT (show (0 : Int) ≤ 1 by omega), dT (show (1 : Int) < ((List.length [(a, v), (b, w)] : Nat) : Int) by simp), Bool.and_self, cnd_t]
    show obind (WR_clus_Group N m (D, b, k)) _ = _
    rw [h2 m (by omega), obind_s, cnd_T (by omega)]
/-- Of what is too great: its two. -/
theorem Vd.two {l : List Int} (h : Vd l) (N : Nat) {D : List (List Int)} (hD : GD D) {k : Int} (hk : 1 ≤ k ∧ k ≤ 3) (hN : 1000 ≤ N) (c : ¬ (l.length : Int) ≤ 3 * k - 1) :
    ∃ a b v w, W_clus_Split N (D, l, k) = some (a, b) ∧ W_clus_fitted N (D, l, k) = some [(a, v), (b, w)] ∧ Vd a ∧ Vd b ∧ a.length < l.length ∧ b.length < l.length ∧ (k ≤ a.length ∧ k ≤ b.length) := by
  obtain ⟨a, b, lo, hi, v, w, e1, e2, hP, ⟨k1, k2⟩, _, _⟩ := fitted_two N hD h.s h.u h.e hk c hN
  have hl := hP.len
  have he := h.e
  exact ⟨a, b, v, w, e1, e2, ⟨fun x hx => h.s x (hP.ma x hx), hP.ua, by omega, by omega⟩, ⟨fun x hx => h.s x (hP.mb x hx), hP.ub, by omega, by omega⟩, by omega, by omega, k1, k2⟩
theorem GR_all (N : Nat) {D : List (List Int)} (hD : GD D) {k : Int} (hk : 1 ≤ k ∧ k ≤ 3) (hN : 1000 ≤ N) : ∀ (n : Nat) (l : List Int), l.length ≤ n → Vd l → ∃ g, GR N D k l g ∧ Gp D k l g := by
  intro n
  induction n with
  | zero => intro l hl h; have := h.p; omega
  | succ n ih =>
    intro l hl h
    obtain ⟨g0, e0, G0⟩ := Group_spec N hD hk hN (l.length + 1) l h.s h.u h.e h.p (by omega)
    by_cases c : (l.length : Int) ≤ 3 * k - 1
    · obtain ⟨v, hg, _⟩ := GR_one N hD hk hN h c
      have := hg (l.length + 1) (by omega)
      rw [e0] at this; injection this with this
      subst this
      exact ⟨_, hg, G0⟩
    · obtain ⟨a, b, v, w, _, e2, va, vb, la, lb, _⟩ := h.two N hD hk hN c
      obtain ⟨g1, r1, G1⟩ := ih a (by omega) va
      obtain ⟨g2, r2, G2⟩ := ih b (by omega) vb
      have h1 := G1.cl; have h2 := G2.cl
      have := h.e
      have hg := GR_two N hD hk hN h e2 la lb r1 r2 (by omega)
      have := hg (l.length + 1) (by omega)
      rw [e0] at this; injection this with this
      subst this
      exact ⟨_, hg, G0⟩
def Rst (N : Nat) (D : List (List Int)) (k : Int) : List Cl → List Cl → Prop
  | [], t => t = []
  | c :: r, t => ∃ g t', Vd c.1 ∧ Who (fun x => far D x c.1) c.1 c.2 ∧ GR N D k c.1 g ∧ Rst N D k r t' ∧ t = g ++ t'
theorem Rst_len (N : Nat) {D : List (List Int)} (hD : GD D) {k : Int} (hk : 1 ≤ k ∧ k ≤ 3) (hN : 1000 ≤ N) : ∀ (r t : List Cl), Rst N D k r t → r.length ≤ t.length
  | [], t, _ => by simp
  | c :: r, t, ⟨g, t', hv, _, hg, hr, e⟩ => by
    have := Rst_len N hD hk hN r t' hr
    obtain ⟨g', hg', G⟩ := GR_all N hD hk hN _ c.1 (Nat.le_refl _) hv
    have := GR_unique hg hg'
    subst this
    have h1 : 1 ≤ g.length := List.length_pos_iff.2 G.ne
    rw [e, List.length_append, List.length_cons]; omega
theorem drop_getC {l : List Cl} {i : Nat} (h : i < l.length) : l.drop i = l.getD i cD :: l.drop (i + 1) := by
  rw [List.drop_eq_getElem_cons h, List.getD_eq_getElem?_getD, List.getElem?_eq_getElem h]; rfl
theorem Of7_spec (N : Nat) {D : List (List Int)} (hD : GD D) {l : List Int} (hl : S8 l) (hlen : l.length ≤ 900) (hN : 1000 ≤ N) : ∃ v, W_ref7_Of N (D, l) = some (l, v) ∧ Who (fun x => far D x l) l v := by
  obtain ⟨v, e, h⟩ := Mid7_spec N hD hl hlen hN
  refine ⟨v, ?_, h⟩
  unfold W_ref7_Of V_ref7_Of
  try simp only
  rw [cnd_T (by omega), e, obind_s]
theorem parted_eq (N : Nat) {D : List (List Int)} (hD : GD D) {k : Int} (hN : 1000 ≤ N) {st : List Cl} {i : Nat} (hi : i < st.length) (hst : st.length ≤ 100) {a b : List Int} (hs : W_ref7_Split N (D, (st.getD i cD).1, k) = some (a, b)) (ha : S8 a) (hb : S8 b) (la : a.length ≤ 900) (lb : b.length ≤ 900) :
    ∃ v w, W_ref7_parted N (D, st, (i : Int), k) = some (st.take i ++ [(a, v), (b, w)] ++ st.drop (i + 1)) ∧ Who (fun x => far D x a) a v ∧ Who (fun x => far D x b) b w := by
  obtain ⟨v, e1, w1⟩ := Of7_spec N hD ha la hN
  obtain ⟨w, e2, w2⟩ := Of7_spec N hD hb lb hN
  refine ⟨v, w, ?_, w1, w2⟩
  unfold W_ref7_parted V_ref7_parted
  try simp only
  rw [dT (show (0 : Int) ≤ (i : Int) by omega), dT (show (i : Int) < st.length by omega), Bool.and_self, cnd_t, Int.toNat_natCast]
  refine (congrArg (fun o => obind o _) hs).trans ?_
  rw [obind_s, dT (show (i : Int) ≤ st.length by omega), Bool.and_self, cnd_t, List.drop_zero, cnd_T (by rw [List.length_take]; omega), e1, obind_s, e2, obind_s, wr_m (z := (i : Int) + 1) (by omega) (by omega), dT (show (0 : Int) ≤ (i : Int) + 1 by omega), dT (show (i : Int) + 1 ≤ st.length by omega), Bool.and_self, List.take_length, show ((i : Int) + 1).toNat = i + 1 by omega]
  rw [cnd_T (by simp only [List.length_take, List.length_cons, List.length_nil]; omega), cnd_t, cnd_T (by simp only [List.length_append, List.length_take, List.length_drop, List.length_cons, List.length_nil]; omega)]
theorem Group7_eq (N : Nat) {D : List (List Int)} (hD : GD D) {k : Int} (hk : 1 ≤ k ∧ k ≤ 3) (hN : 1000 ≤ N) {l : List Int} {T : List Cl} (h : Vd l) (hT : GR N D k l T) : W_ref7_Group N (D, l, k) = some T := by
  have hp := h.p
  have he := h.e
  obtain ⟨T', hT', GT⟩ := GR_all N hD hk hN _ l (Nat.le_refl _) h
  have := GR_unique hT hT'
  subst this
  have hTl := GT.cl
  obtain ⟨v0, e0, w0⟩ := Of7_spec N hD h.s (by omega) hN
  unfold W_ref7_Group V_ref7_Group
  try simp only
  rw [dF (show ¬ (l.length : Int) = 0 by omega), cnd_f, e0, obind_s, wr_m (z := 3 * k) (by omega) (by omega), wr_m (z := 3 * k - 1) (by omega) (by omega)]
  have bound : ∀ (st : List Cl) (i : Nat) (t : List Cl), T = st.take i ++ t → Rst N D k (st.drop i) t → i ≤ st.length → st.length ≤ 8 := by
    intro st i t e hr hi
    have h1 := Rst_len N hD hk hN _ _ hr
    have h2 := congrArg List.length e
    rw [List.length_append, List.length_take] at h2
    rw [List.length_drop] at h1
    omega
  refine loop_post (σ := List Cl × Int) (ρ := List Cl) (β := List Cl) (fun o => o = some T) (fun v => ∃ i : Nat, v.2 = i ∧ i ≤ v.1.length ∧ ∃ t, T = v.1.take i ++ t ∧ Rst N D k (v.1.drop i) t) (fun v => 9 - v.2.toNat) (fun r => r = T) ⟨0, rfl, by omega, T, by simp, ⟨T, [], h, w0, hT, rfl, by simp⟩⟩ (by simp; omega) (fun r h => by rw [h]) ?_
  rintro ⟨st, i'⟩ ⟨i, hi', hi, t, hTt, hR⟩
  simp only at hi' hi hTt hR ⊢
  subst hi'
  have hst := bound st i t hTt hR hi
  by_cases c : (i : Int) < st.length
  case neg =>
    right
    rw [dF c, cnd_f]
    refine ⟨_, rfl, ?_⟩
    rw [List.drop_eq_nil_of_le (by omega)] at hR
    have : t = [] := hR
    rw [hTt, this, List.take_of_length_le (by omega), List.append_nil]
  left
  rw [dT c, cnd_t]
  refine loop_post (σ := List Cl) (ρ := List Cl) (β := (List Cl × Int) ⊕ List Cl) (fun o => ∃ y : List Cl × Int, o = some (.inl y) ∧ (∃ i : Nat, y.2 = i ∧ i ≤ y.1.length ∧ ∃ t, T = y.1.take i ++ t ∧ Rst N D k (y.1.drop i) t) ∧ 9 - y.2.toNat < 9 - i) (fun s => i < s.length ∧ ∃ t, T = s.take i ++ t ∧ Rst N D k (s.drop i) t) (fun s => (s.getD i cD).1.length) (fun s => (i < s.length ∧ ∃ t, T = s.take i ++ t ∧ Rst N D k (s.drop i) t) ∧ ((s.getD i cD).1.length : Int) ≤ 3 * k - 1) ⟨by omega, t, hTt, hR⟩ ?_ ?_ ?_
  · rw [drop_getC (by omega)] at hR
    obtain ⟨g, t', hv, _⟩ := hR
    have := hv.e; omega
  · rintro s ⟨⟨hs, t, hTt, hR⟩, hc⟩
    have hsl := bound s i t hTt hR (by omega)
    rw [wr_m (z := (i : Int) + 1) (by omega) (by omega)]
    refine ⟨_, rfl, ⟨i + 1, by simp, by simp only; omega, ?_⟩, by simp only; omega⟩
    rw [drop_getC (by omega)] at hR
    obtain ⟨g, t', hv, hw, hg, hr, e⟩ := hR
    obtain ⟨v, hg1, hw1⟩ := GR_one N hD hk hN hv hc
    have e1 := GR_unique hg hg1
    have e2 := Who_one hw hw1
    refine ⟨t', ?_, hr⟩
    rw [take_snocC (by omega), hTt, e, e1, ← e2, List.append_assoc]
  · rintro s ⟨hs, t, hTt, hR⟩
    have hsl := bound s i t hTt hR (by omega)
    rw [dT (show (0 : Int) ≤ (i : Int) by omega), dT (show (i : Int) < s.length by omega), Bool.and_self, cnd_t, Int.toNat_natCast]
    have hR0 := hR
    rw [drop_getC (by omega)] at hR
    obtain ⟨g, t', hv, hw, hg, hr, e⟩ := hR
    by_cases hc : 3 * k - 1 < ((s.getD i cD).1.length : Int)
    · left
      obtain ⟨a, b, v, w, f1, f2, va, vb, la, lb, k1, k2⟩ := hv.two N hD hk hN (by omega)
      have hve := hv.e
      have hsp : W_ref7_Split N (D, (s.getD i cD).1, k) = some (a, b) := by
        rw [Split7_eq N hD hv.s hv.u (by omega) hv.e hk.1 hN]; exact f1
      obtain ⟨v', w', f3, hwa, hwb⟩ := parted_eq N hD hN (k := k) hs (by omega) hsp va.s vb.s (by omega) (by omega)
      obtain ⟨g1, r1, G1⟩ := GR_all N hD hk hN _ a (Nat.le_refl _) va
      obtain ⟨g2, r2, G2⟩ := GR_all N hD hk hN _ b (Nat.le_refl _) vb
      have h1 := G1.cl; have h2 := G2.cl
      have hgg := GR_unique hg (GR_two N hD hk hN hv f2 la lb r1 r2 (by omega))
      refine ⟨_, (congrArg (fun q => cnd q _ _) (dT hc)).trans (cnd_t.trans (by rw [f3, obind_s])), ⟨?_, t, ?_, ?_⟩, ?_⟩
      · simp only [List.length_append, List.length_take, List.length_cons, List.length_nil, List.length_drop]; omega
      · rw [hTt, List.append_assoc, List.take_append_of_le_length (by rw [List.length_take]; omega), List.take_take, Nat.min_self]
      · rw [List.append_assoc, List.drop_append, List.drop_of_length_le (by rw [List.length_take]; omega), List.nil_append, List.length_take, show i - min i s.length = 0 by omega, List.drop_zero]
        exact ⟨g1, g2 ++ t', va, hwa, r1, ⟨g2, t', vb, hwb, r2, hr, rfl⟩, by rw [e, hgg, List.append_assoc]⟩
      · have : (s.take i ++ [(a, v'), (b, w')] ++ s.drop (i + 1)).getD i cD = (a, v') := by
          rw [List.append_assoc, List.getD_eq_getElem?_getD, List.getElem?_append_right (by rw [List.length_take]; omega), List.length_take, show i - min i s.length = 0 by omega]
          rfl
        rw [this]; exact la
    · right
      exact ⟨_, (congrArg (fun q => cnd q _ _) (dF hc)).trans cnd_f, ⟨hs, t, hTt, hR0⟩, by omega⟩
theorem Who_in {F : Int → Int} {l : List Int} {v : Int} (h : Who F l v) (hl : 1 ≤ l.length) : v ∈ l := by
  rcases h with ⟨h, _⟩ | h
  · rw [h] at hl; simp at hl
  · exact h.1
/-- Clusters that are apart. -/
structure Cs (D : List (List Int)) (cs : List Cl) : Prop where
  v : ∀ c ∈ cs, Vd c.1 ∧ Who (fun x => far D x c.1) c.1 c.2
  d : cs.Pairwise (fun a b => ∀ x ∈ a.1, x ∉ b.1)
theorem GR_dis (N : Nat) {D : List (List Int)} (hD : GD D) {k : Int} (hk : 1 ≤ k ∧ k ≤ 3) (hN : 1000 ≤ N) : ∀ (n : Nat) (l : List Int), l.length ≤ n → Vd l → ∀ g, GR N D k l g → g.Pairwise (fun a b => ∀ x ∈ a.1, x ∉ b.1) := by
  intro n
  induction n with
  | zero => intro l hl h; have := h.p; omega
  | succ n ih =>
    intro l hl h g hg
    by_cases c : (l.length : Int) ≤ 3 * k - 1
    · obtain ⟨v, hg1, _⟩ := GR_one N hD hk hN h c
      rw [GR_unique hg hg1]
      exact List.pairwise_singleton _ _
    · obtain ⟨a, b, lo, hi, v, w, _, e2, hP, ⟨k1, k2⟩, _, _⟩ := fitted_two N hD h.s h.u h.e hk c hN
      have hpl := hP.len
      have he := h.e
      have va : Vd a := ⟨fun x hx => h.s x (hP.ma x hx), hP.ua, by omega, by omega⟩
      have vb : Vd b := ⟨fun x hx => h.s x (hP.mb x hx), hP.ub, by omega, by omega⟩
      obtain ⟨g1, r1, G1⟩ := GR_all N hD hk hN _ a (Nat.le_refl _) va
      obtain ⟨g2, r2, G2⟩ := GR_all N hD hk hN _ b (Nat.le_refl _) vb
      have h1 := G1.cl; have h2 := G2.cl
      rw [GR_unique hg (GR_two N hD hk hN h e2 (by omega) (by omega) r1 r2 (by omega))]
      refine List.pairwise_append.2 ⟨ih a (by omega) va g1 r1, ih b (by omega) vb g2 r2, fun p hp q hq x hx hy => ?_⟩
      exact hP.dis x ((G1.mem x).1 (List.mem_flatMap.2 ⟨p, hp, hx⟩)) ((G2.mem x).1 (List.mem_flatMap.2 ⟨q, hq, hy⟩))
theorem getD_eqC {cs : List Cl} {i : Nat} (h : i < cs.length) : cs.getD i cD = cs[i] := by
  rw [List.getD_eq_getElem?_getD, List.getElem?_eq_getElem h]; rfl
theorem Cs.one {D : List (List Int)} {cs : List Cl} (h : Cs D cs) {i j : Nat} (hi : i < cs.length) (hj : j < cs.length) {x : Int} (h1 : x ∈ (cs.getD i cD).1) (h2 : x ∈ (cs.getD j cD).1) : i = j := by
  rw [getD_eqC hi] at h1
  rw [getD_eqC hj] at h2
  rcases Nat.lt_trichotomy i j with q | q | q
  · exact absurd h2 (List.pairwise_iff_getElem.1 h.d i j hi hj q x h1)
  · exact q
  · exact absurd h1 (List.pairwise_iff_getElem.1 h.d j i hj hi q x h2)
theorem mem_getDC {cs : List Cl} {c : Cl} (h : c ∈ cs) : ∃ i, i < cs.length ∧ cs.getD i cD = c := by
  obtain ⟨i, hi, e⟩ := List.mem_iff_getElem.1 h
  exact ⟨i, hi, by rw [getD_eqC hi]; exact e⟩
theorem Contains_eq (N : Nat) (l : List Int) (x : Int) (hl : l.length ≤ 900) (hN : 1000 ≤ N) : W_slices_Contains_int N (l, x) = some (decide (x ∈ l)) := by
  unfold W_slices_Contains_int V_slices_Contains_int W_slices_Index_int V_slices_Index_int
  try simp only
  have e : ∃ r, obind (loopN N (fun (v : Int) => cnd (decide (v < (↑(List.length l) : Int))) (cnd (decide ((0 : Int) ≤ v) && decide (v < (↑(List.length l) : Int))) (cnd (decide (x = List.getD l (Int.toNat v) (0 : Int))) (some (Sum.inr (Sum.inr v))) (some (Sum.inl (wr .i64 (v + (1 : Int)))))) none) (some (Sum.inr (Sum.inl ())))) (Int.ofNat (0 : Nat))) (fun (b : PUnit ⊕ Int) => selim (fun (b : PUnit) => some (-1 : Int)) (fun (c : Int) => some c) b) = some r ∧ (0 ≤ r ↔ x ∈ l) := by
    refine loop_post (σ := Int) (ρ := Unit ⊕ Int) (β := Int) (fun o => ∃ r, o = some r ∧ (0 ≤ r ↔ x ∈ l)) (fun v => ∃ i : Nat, v = i ∧ i ≤ l.length ∧ ∀ j, j < i → x ≠ l.getD j 0) (fun v => l.length - v.toNat) (fun r => (r = .inl () ∧ x ∉ l) ∨ ∃ i : Nat, r = .inr (i : Int) ∧ x ∈ l) ⟨0, rfl, by omega, fun j hj => by omega⟩ (by simp; omega) ?_ ?_
    · rintro r (⟨rfl, h⟩ | ⟨i, rfl, h⟩)
      · exact ⟨-1, by rw [selim_l], ⟨fun q => by omega, fun q => absurd q h⟩⟩
      · exact ⟨i, by rw [selim_r], ⟨fun _ => h, fun _ => by omega⟩⟩
    · rintro v ⟨i, rfl, hi, hq⟩
      by_cases c : (i : Int) < l.length
      case neg =>
        right
        rw [dF c, cnd_f]
        refine ⟨_, rfl, .inl ⟨rfl, fun hx => ?_⟩⟩
        obtain ⟨j, hj, e⟩ := List.mem_iff_getElem.1 hx
        refine hq j (by omega) ?_
        rw [List.getD_eq_getElem?_getD, List.getElem?_eq_getElem hj, ← e]; rfl
      rw [dT c, cnd_t, dT (show (0 : Int) ≤ (i : Int) by omega), Bool.and_self, cnd_t, Int.toNat_natCast, wr_m (z := (i : Int) + 1) (by omega) (by omega)]
      by_cases c2 : x = l.getD i 0
      · right
        rw [dT c2, cnd_t]
        exact ⟨_, rfl, .inr ⟨i, rfl, by rw [c2]; exact getD_mem _ _ (by omega)⟩⟩
      · left
        rw [dF c2, cnd_f]
        refine ⟨_, rfl, ⟨i + 1, by simp, by omega, fun j hj => ?_⟩, by omega⟩
        by_cases hji : j = i
        · rw [hji]; exact c2
        · exact hq j (by omega)
  obtain ⟨r, e, hr⟩ := e
  refine (congrArg (fun o => obind o _) e).trans ?_
  rw [obind_s]
  exact congrArg some (decide_eq_decide.2 hr)
theorem Home_at (N : Nat) {D : List (List Int)} {cs : List Cl} (h : Cs D cs) (hl : cs.length ≤ 100) {i : Nat} (hi : i < cs.length) {x : Int} (hx : x ∈ (cs.getD i cD).1) (hN : 1000 ≤ N) : W_ref7_Home N (cs, x) = some (i : Int) := by
  unfold W_ref7_Home V_ref7_Home
  try simp only
  refine loop_post (σ := Int) (ρ := Unit ⊕ Int) (β := Int) (fun o => o = some (i : Int)) (fun v => ∃ j : Nat, v = j ∧ j ≤ i) (fun v => i + 1 - v.toNat) (fun r => r = .inr (i : Int)) ⟨0, rfl, by omega⟩ (by simp; omega) (fun r hr => by rw [hr, selim_r]) ?_
  rintro v ⟨j, rfl, hj⟩
  have hc := (h.v _ (getD_memC (l := cs) (i := j) (by omega))).1.e
  rw [dT (show (j : Int) < cs.length by omega), cnd_t, dT (show (0 : Int) ≤ (j : Int) by omega), Bool.and_self, cnd_t, Int.toNat_natCast]
  have he := Has_eq N (cs.getD j cD).1 x (by omega) hN
  by_cases c : x ∈ (cs.getD j cD).1
  · right
    have := h.one (by omega) hi c hx
    subst this
    refine ⟨_, (congrArg (fun o => obind o _) he).trans ?_, rfl⟩
    rw [obind_s, dT c, cnd_t]
  · left
    have hji : j ≠ i := fun q => c (q ▸ hx)
    refine ⟨((j + 1 : Nat) : Int), (congrArg (fun o => obind o _) he).trans ?_, ⟨j + 1, rfl, by omega⟩, by omega⟩
    rw [obind_s, dF c, cnd_f, wr_m (by omega) (by omega)]; rfl
theorem Home_no (N : Nat) {D : List (List Int)} {cs : List Cl} (h : Cs D cs) (hl : cs.length ≤ 100) {x : Int} (hx : ∀ j, j < cs.length → x ∉ (cs.getD j cD).1) (hN : 1000 ≤ N) : W_ref7_Home N (cs, x) = some (-1) := by
  unfold W_ref7_Home V_ref7_Home
  try simp only
  refine loop_post (σ := Int) (ρ := Unit ⊕ Int) (β := Int) (fun o => o = some (-1)) (fun v => ∃ j : Nat, v = j ∧ j ≤ cs.length) (fun v => cs.length - v.toNat) (fun r => r = .inl ()) ⟨0, rfl, by omega⟩ (by simp; omega) (fun r hr => by rw [hr, selim_l]) ?_
  rintro v ⟨j, rfl, hj⟩
  by_cases c : (j : Int) < cs.length
  case neg => right; rw [dF c, cnd_f]; exact ⟨_, rfl, rfl⟩
  left
  have hc := (h.v _ (getD_memC (l := cs) (i := j) (by omega))).1.e
  rw [dT c, cnd_t, dT (show (0 : Int) ≤ (j : Int) by omega), Bool.and_self, cnd_t, Int.toNat_natCast]
  have he := Has_eq N (cs.getD j cD).1 x (by omega) hN
  refine ⟨((j + 1 : Nat) : Int), (congrArg (fun o => obind o _) he).trans ?_, ⟨j + 1, rfl, by omega⟩, by omega⟩
  rw [obind_s, dF (hx j (by omega)), cnd_f, wr_m (by omega) (by omega)]; rfl
theorem find_at (N : Nat) {D : List (List Int)} {cs : List Cl} (h : Cs D cs) (hl : cs.length ≤ 100) {i : Nat} (hi : i < cs.length) {x : Int} (hx : x ∈ (cs.getD i cD).1) (hN : 1000 ≤ N) : W_clus_find N (cs, x) = some (.inl (i : Int)) := by
  unfold W_clus_find V_clus_find
  try simp only
  refine loop_post (σ := Int) (ρ := Unit ⊕ (Int ⊕ Unit)) (β := Int ⊕ Unit) (fun o => o = some (.inl (i : Int))) (fun v => ∃ j : Nat, v = j ∧ j ≤ i) (fun v => i + 1 - v.toNat) (fun r => r = .inr (.inl (i : Int))) ⟨0, rfl, by omega⟩ (by simp; omega) (fun r hr => by rw [hr, selim_r]) ?_
  rintro v ⟨j, rfl, hj⟩
  have hc := (h.v _ (getD_memC (l := cs) (i := j) (by omega))).1.e
  rw [dT (show (j : Int) < cs.length by omega), cnd_t, dT (show (0 : Int) ≤ (j : Int) by omega), Bool.and_self, cnd_t, Int.toNat_natCast]
  have he := Contains_eq N (cs.getD j cD).1 x (by omega) hN
  by_cases c : x ∈ (cs.getD j cD).1
  · right
    have := h.one (by omega) hi c hx
    subst this
    refine ⟨_, (congrArg (fun o => obind o _) he).trans ?_, rfl⟩
    rw [obind_s, dT c, cnd_t]
  · left
    have hji : j ≠ i := fun q => c (q ▸ hx)
    refine ⟨((j + 1 : Nat) : Int), (congrArg (fun o => obind o _) he).trans ?_, ⟨j + 1, rfl, by omega⟩, by omega⟩
    rw [obind_s, dF c, cnd_f, wr_m (by omega) (by omega)]; rfl
theorem find_no (N : Nat) {D : List (List Int)} {cs : List Cl} (h : Cs D cs) (hl : cs.length ≤ 100) {x : Int} (hx : ∀ j, j < cs.length → x ∉ (cs.getD j cD).1) (hN : 1000 ≤ N) : W_clus_find N (cs, x) = some (.inr ()) := by
  unfold W_clus_find V_clus_find
  try simp only
  refine loop_post (σ := Int) (ρ := Unit ⊕ (Int ⊕ Unit)) (β := Int ⊕ Unit) (fun o => o = some (.inr ())) (fun v => ∃ j : Nat, v = j ∧ j ≤ cs.length) (fun v => cs.length - v.toNat) (fun r => r = .inl ()) ⟨0, rfl, by omega⟩ (by simp; omega) (fun r hr => by rw [hr, selim_l]) ?_
  rintro v ⟨j, rfl, hj⟩
  by_cases c : (j : Int) < cs.length
  case neg => right; rw [dF c, cnd_f]; exact ⟨_, rfl, rfl⟩
  left
  have hc := (h.v _ (getD_memC (l := cs) (i := j) (by omega))).1.e
  rw [dT c, cnd_t, dT (show (0 : Int) ≤ (j : Int) by omega), Bool.and_self, cnd_t, Int.toNat_natCast]
  have he := Contains_eq N (cs.getD j cD).1 x (by omega) hN
  refine ⟨((j + 1 : Nat) : Int), (congrArg (fun o => obind o _) he).trans ?_, ⟨j + 1, rfl, by omega⟩, by omega⟩
  rw [obind_s, dF (hx j (by omega)), cnd_f, wr_m (by omega) (by omega)]; rfl
/-! Others in the place of one. -/
def repl (o : List Cl) (p q : Nat) : Nat → List Cl → List Cl
  | _, [] => []
  | i, c :: r => (if i = p then o else if i = q then [] else [c]) ++ repl o p q (i + 1) r
theorem repl_snoc (o : List Cl) (p q : Nat) : ∀ (l : List Cl) (i : Nat) (c : Cl), repl o p q i (l ++ [c]) = repl o p q i l ++ (if i + l.length = p then o else if i + l.length = q then [] else [c])
  | [], i, c => by simp [repl]
  | x :: r, i, c => by
    simp only [List.cons_append, repl, repl_snoc o p q r (i + 1) c, List.length_cons, List.append_assoc]
    rw [show i + 1 + r.length = i + (r.length + 1) by omega]
theorem repl_len (o : List Cl) (p q : Nat) : ∀ (l : List Cl) (i : Nat), (repl o p q i l).length + (if i ≤ p ∧ p < i + l.length then 1 else 0) + (if q ≠ p ∧ i ≤ q ∧ q < i + l.length then 1 else 0) = l.length + (if i ≤ p ∧ p < i + l.length then o.length else 0)
  | [], i => by
    rw [if_neg (by simp only [List.length_nil]; omega), if_neg (by simp only [List.length_nil]; omega), if_neg (by simp only [List.length_nil]; omega)]; rfl
  | x :: r, i => by
    have ih := repl_len o p q r (i + 1)
    simp only [repl, List.length_append, List.length_cons] at ih ⊢
    by_cases c1 : i = p
    · rw [if_pos c1]
      rw [if_neg (show ¬ (i + 1 ≤ p ∧ p < i + 1 + r.length) by omega), if_neg (show ¬ (i + 1 ≤ p ∧ p < i + 1 + r.length) by omega)] at ih
      rw [if_pos (show i ≤ p ∧ p < i + (r.length + 1) by omega), if_pos (show i ≤ p ∧ p < i + (r.length + 1) by omega)]
      by_cases c2 : q ≠ p ∧ i + 1 ≤ q ∧ q < i + 1 + r.length
      · rw [if_pos c2] at ih; rw [if_pos (by omega)]; omega
      · rw [if_neg c2] at ih; rw [if_neg (by omega)]; omega
    · rw [if_neg c1]
      have e : (i ≤ p ∧ p < i + (r.length + 1)) ↔ (i + 1 ≤ p ∧ p < i + 1 + r.length) := by omega
      by_cases c3 : i + 1 ≤ p ∧ p < i + 1 + r.length
      all_goals
        first | rw [if_pos c3, if_pos c3] at ih | rw [if_neg c3, if_neg c3] at ih
        first | rw [if_pos (e.2 c3), if_pos (e.2 c3)] | rw [if_neg (fun h => c3 (e.1 h)), if_neg (fun h => c3 (e.1 h))]
        by_cases c2 : i = q
        · rw [if_pos c2]
          rw [if_neg (show ¬ (q ≠ p ∧ i + 1 ≤ q ∧ q < i + 1 + r.length) by omega)] at ih
          rw [if_pos (by omega)]
          simp only [List.length_nil]; omega
        · rw [if_neg c2]
          by_cases c4 : q ≠ p ∧ i + 1 ≤ q ∧ q < i + 1 + r.length
          · rw [if_pos c4] at ih; rw [if_pos (by omega)]; simp only [List.length_singleton]; omega
          · rw [if_neg c4] at ih; rw [if_neg (by omega)]; simp only [List.length_singleton]; omega
theorem repl_mem (o : List Cl) (p q : Nat) (c : Cl) : ∀ (l : List Cl) (i : Nat), c ∈ repl o p q i l ↔ ((i ≤ p ∧ p < i + l.length) ∧ c ∈ o) ∨ ∃ j, j < l.length ∧ i + j ≠ p ∧ i + j ≠ q ∧ l.getD j cD = c
  | [], i => by
    simp only [repl, List.not_mem_nil, List.length_nil, false_iff]
    rintro (⟨h, _⟩ | ⟨j, h, _⟩) <;> omega
  | x :: r, i => by
    have ih := repl_mem o p q c r (i + 1)
    simp only [repl, List.mem_append, ih, List.length_cons]
    constructor
    · rintro (h | ⟨h1, h2⟩ | ⟨j, h1, h2, h3, h4⟩)
      · split at h
        · exact .inl ⟨by omega, h⟩
        · split at h
          · simp at h
          · exact .inr ⟨0, by omega, by omega, by omega, (List.mem_singleton.1 h).symm⟩
      · exact .inl ⟨by omega, h2⟩
      · exact .inr ⟨j + 1, by omega, by omega, by omega, h4⟩
    · rintro (⟨h1, h2⟩ | ⟨j, h1, h2, h3, h4⟩)
      · by_cases c1 : i = p
        · left; rw [if_pos c1]; exact h2
        · exact .inr (.inl ⟨by omega, h2⟩)
      · cases j with
        | zero =>
          left
          rw [if_neg (by omega), if_neg (by omega)]
          have : x = c := h4
          rw [this]; simp
        | succ j => exact .inr (.inr ⟨j, by omega, by omega, by omega, h4⟩)
theorem Of_same (N : Nat) {D : List (List Int)} (hD : GD D) {c : Cl} (h : Vd c.1 ∧ Who (fun x => far D x c.1) c.1 c.2) (hN : 1000 ≤ N) : W_clus_Of N (D, c.1) = some c := by
  have he := h.1.e
  obtain ⟨v, e, hw⟩ := Of_spec N hD h.1.s (by omega) hN
  rw [e, ← Who_one h.2 hw]
theorem replace_eq (N : Nat) {D : List (List Int)} (hD : GD D) {cs : List Cl} (h : Cs D cs) (hl : cs.length ≤ 8) (p q : Nat) (o : List Cl) (ho : o.length ≤ 8) (hN : 1000 ≤ N) : W_clus_replace N (D, cs, (p : Int), (q : Int), o) = some (repl o p q 0 cs) := by
  unfold W_clus_replace V_clus_replace
  try simp only
  refine loop_post (σ := Int × List Cl) (ρ := List Cl) (β := List Cl) (fun r => r = some (repl o p q 0 cs)) (fun v => ∃ i : Nat, v = ((i : Int), repl o p q 0 (cs.take i)) ∧ i ≤ cs.length) (fun v => cs.length - v.1.toNat) (fun r => r = repl o p q 0 cs) ⟨0, by simp [repl], by omega⟩ (by simp; omega) (fun r hr => by rw [hr]) ?_
  rintro v ⟨i, rfl, hi⟩
  try simp only
  by_cases c : (i : Int) < cs.length
  case neg =>
    right
    rw [dF c, cnd_f, List.take_of_length_le (by omega)]
    exact ⟨_, rfl, rfl⟩
  left
  have hrl := repl_len o p q (cs.take i) 0
  have hrl2 : (repl o p q 0 (cs.take i)).length ≤ 16 := by
    rw [List.length_take] at hrl
    split at hrl <;> split at hrl <;> omega
  have hts := take_snocC (l := cs) (k := i) (by omega)
  have hsn := repl_snoc o p q (cs.take i) 0 (cs.getD i cD)
  rw [← hts, List.length_take, show 0 + min i cs.length = i by omega] at hsn
  have hof := Of_same N hD (h.v _ (getD_memC (l := cs) (i := i) (by omega))) hN
  refine ⟨(((i + 1 : Nat) : Int), repl o p q 0 (cs.take (i + 1))), ?_, ⟨i + 1, rfl, by omega⟩, by simp only; omega⟩
  rw [dT c, cnd_t, dT (show (0 : Int) ≤ (i : Int) by omega), Bool.and_self, cnd_t, wr_m (z := (i : Int) + 1) (by omega) (by omega), hsn, show ((i + 1 : Nat) : Int) = i + 1 by omega]
  by_cases c1 : i = p
  · rw [if_pos c1, dT (show (i : Int) = p by omega), cnd_t, cnd_T (by omega)]
  rw [if_neg c1, dF (show ¬ (i : Int) = p by omega), cnd_f]
  by_cases c2 : i = q
  · rw [if_pos c2, dT (show (i : Int) = q by omega), cnd_t, List.append_nil]
  rw [if_neg c2, dF (show ¬ (i : Int) = q by omega), cnd_f, Int.toNat_natCast]
  refine (congrArg (fun o => obind o _) hof).trans ?_
  rw [obind_s, cnd_T (by simp only [List.length_singleton]; omega)]
theorem twin_eq (N : Nat) {D : List (List Int)} {cs : List Cl} (h : Cs D cs) (hl : cs.length ≤ 100) (hN : 1000 ≤ N) : W_twin_Clusters N cs = some cs := by
  unfold W_twin_Clusters V_twin_Clusters W_slices_Clone_api_Cluster V_slices_Clone_api_Cluster
  rw [cnd_T (by omega), obind_s]
  refine loop_post (σ := Int × List Cl) (ρ := List Cl) (β := List Cl) (fun r => r = some cs) (fun v => ∃ i : Nat, v = ((i : Int), cs) ∧ i ≤ cs.length) (fun v => cs.length - v.1.toNat) (fun r => r = cs) ⟨0, rfl, by omega⟩ (by simp; omega) (fun r hr => by rw [hr]) ?_
  rintro v ⟨i, rfl, hi⟩
  try simp only
  by_cases c : (i : Int) < cs.length
  case neg => right; rw [dF c, cnd_f]; exact ⟨_, rfl, rfl⟩
  left
  have hc := (h.v _ (getD_memC (l := cs) (i := i) (by omega))).1.e
  have hcl := Clone_i N (cs.getD i cD).1 (by omega)
  refine ⟨(((i + 1 : Nat) : Int), cs), ?_, ⟨i + 1, rfl, by omega⟩, by simp only; omega⟩
  rw [dT c, cnd_t, dT (show (0 : Int) ≤ (i : Int) by omega), Bool.and_self, cnd_t, Int.toNat_natCast]
  refine (congrArg (fun o => obind o _) hcl).trans ?_
  rw [obind_s, cnd_t, wr_m (z := (i : Int) + 1) (by omega) (by omega), show ((i + 1 : Nat) : Int) = i + 1 by omega]
  have : putL cs [((cs.getD i cD).1, (cs.getD i cD).2)] i = cs := by
    show putL cs [cs.getD i cD] i = cs
    have e := drop_getC (l := cs) (i := i) (by omega)
    unfold putL
    conv => rhs; rw [← List.take_append_drop i cs, e]
    simp
  exact congrArg (fun q => some (Sum.inl ((i : Int) + 1, q))) this
/-- The leaders of the others, and whom one of them is nearest to. -/
theorem Up_len8 : ∀ (l : List Int) (n : Int), n ≤ 9 → Up l → (∀ x ∈ l, n ≤ x ∧ x ≤ 8) → (l.length : Int) ≤ 9 - n
  | [], n, hn, _, _ => by simp; omega
  | x :: r, n, hn, hu, h => by
    have hx := h x (by simp)
    have hp := List.pairwise_cons.1 hu
    have := Up_len8 r (x + 1) (by omega) hp.2 (fun y hy => ⟨by have := hp.1 y hy; omega, (h y (by simp [hy])).2⟩)
    simp only [List.length_cons]; omega
theorem fitted_any (N : Nat) {D : List (List Int)} (hD : GD D) {l : List Int} {k : Int} (h : Vd l) (hk : 1 ≤ k ∧ k ≤ 3) (hN : 1000 ≤ N) : ∃ fit : List Cl, W_clus_fitted N (D, l, k) = some fit ∧ Cs D fit ∧ (∀ c ∈ fit, ∀ x ∈ c.1, x ∈ l) ∧ ((l.length : Int) ≤ 3 * k - 1 → ∃ v, fit = [(l, v)]) ∧ (¬ (l.length : Int) ≤ 3 * k - 1 → fit.length = 2) ∧ fit.length ≤ 2 := by
  have he := h.e
  by_cases c : (l.length : Int) ≤ 3 * k - 1
  · obtain ⟨v, e, hw⟩ := fitted_one N hD h.s h.e hk c hN
    refine ⟨_, e, ⟨fun q hq => ?_, List.pairwise_singleton _ _⟩, fun q hq x hx => ?_, fun _ => ⟨v, rfl⟩, fun q => absurd c q, by simp⟩
    · rw [List.mem_singleton.1 hq]; exact ⟨h, hw⟩
    · rw [List.mem_singleton.1 hq] at hx; exact hx
  · obtain ⟨a, b, lo, hi, v, w, _, e2, hP, ⟨k1, k2⟩, w1, w2⟩ := fitted_two N hD h.s h.u h.e hk c hN
    have hpl := hP.len
    have va : Vd a := ⟨fun x hx => h.s x (hP.ma x hx), hP.ua, by omega, by omega⟩
    have vb : Vd b := ⟨fun x hx => h.s x (hP.mb x hx), hP.ub, by omega, by omega⟩
    refine ⟨_, e2, ⟨fun q hq => ?_, ?_⟩, fun q hq x hx => ?_, fun q => absurd q c, fun _ => rfl, by simp⟩
    · simp only [List.mem_cons, List.not_mem_nil, or_false] at hq
      rcases hq with rfl | rfl
      · exact ⟨va, w1⟩
      · exact ⟨vb, w2⟩
    · refine List.pairwise_cons.2 ⟨fun q hq x hx => ?_, List.pairwise_singleton _ _⟩
      rw [List.mem_singleton.1 hq]; exact hP.dis x hx
    · simp only [List.mem_cons, List.not_mem_nil, or_false] at hq
      rcases hq with rfl | rfl
      · exact hP.ma x hx
      · exact hP.mb x hx
theorem repl_pair {R : Cl → Cl → Prop} (o : List Cl) (p q : Nat) (ho : o.Pairwise R) : ∀ (l : List Cl) (i : Nat), l.Pairwise R → (∀ j, j < l.length → i + j ≠ p → i + j ≠ q → ∀ d ∈ o, R (l.getD j cD) d ∧ R d (l.getD j cD)) → (repl o p q i l).Pairwise R
  | [], i, _, _ => List.Pairwise.nil
  | x :: r, i, hl, h => by
    have hp := List.pairwise_cons.1 hl
    have ih := repl_pair o p q ho r (i + 1) hp.2 (fun j hj h1 h2 d hd => h (j + 1) (by simp only [List.length_cons]; omega) (by omega) (by omega) d hd)
    simp only [repl]
    refine List.pairwise_append.2 ⟨?_, ih, fun a ha b hb => ?_⟩
    · split
      · exact ho
      · split
        · exact List.Pairwise.nil
        · exact List.pairwise_singleton _ _
    · rcases (repl_mem o p q b r (i + 1)).1 hb with ⟨h1, h2⟩ | ⟨j, h1, h2, h3, h4⟩
      · split at ha
        · omega
        · split at ha
          · simp at ha
          · rw [List.mem_singleton.1 ha]
            exact (h 0 (by simp) (by omega) (by omega) b h2).1
      · split at ha
        · have := (h (j + 1) (by simp only [List.length_cons]; omega) (by omega) (by omega) a ha).2
          rw [show (x :: r).getD (j + 1) cD = b from h4] at this
          exact this
        · split at ha
          · simp at ha
          · rw [List.mem_singleton.1 ha]
            exact hp.1 b (h4 ▸ getD_memC h1)
/-- What becomes of clusters when one leaves. -/
theorem repl_app (o : List Cl) (p q : Nat) : ∀ (l m : List Cl) (i : Nat), repl o p q i (l ++ m) = repl o p q i l ++ repl o p q (i + l.length) m
  | [], m, i => by simp [repl]
  | c :: r, m, i => by
    simp only [List.cons_append, repl, repl_app o p q r m (i + 1), List.append_assoc, List.length_cons]
    rw [show i + 1 + r.length = i + (r.length + 1) by omega]
theorem repl_id (o : List Cl) (p q : Nat) : ∀ (l : List Cl) (i : Nat), (p < i ∨ i + l.length ≤ p) → (q < i ∨ i + l.length ≤ q) → repl o p q i l = l
  | [], i, _, _ => rfl
  | c :: r, i, h1, h2 => by
    simp only [List.length_cons] at h1 h2
    simp only [repl]
    rw [if_neg (by omega), if_neg (by omega), repl_id o p q r (i + 1) (by omega) (by omega)]
    rfl
theorem parts (l : List Cl) (i : Nat) (h : i < l.length) : ∃ A C, l = A ++ l.getD i cD :: C ∧ A.length = i :=
  ⟨l.take i, l.drop (i + 1), by rw [← drop_getC h, List.take_append_drop], by rw [List.length_take]; omega⟩
theorem repl_same (o : List Cl) {l : List Cl} {p : Nat} (h : p < l.length) : repl o p p 0 l = l.take p ++ o ++ l.drop (p + 1) := by
  obtain ⟨A, C, e, ha⟩ := parts l p h
  generalize l.getD p cD = c at e
  subst e
  subst ha
  rw [repl_app, repl_id o _ _ A 0 (by omega) (by omega), Nat.zero_add]
  simp only [repl]
  rw [if_pos trivial, repl_id o _ _ C _ (by omega) (by omega), List.take_left' rfl, show A.length + 1 = (A ++ [c]).length by simp, show A ++ c :: C = (A ++ [c]) ++ C by simp, List.drop_left' rfl, List.append_assoc]
/-- In whose place it stands when number q is gone. -/
theorem Cs_len {D : List (List Int)} {cs : List Cl} (h : Cs D cs) : cs.length ≤ 8 := by
  have hm : ∀ c ∈ cs, c.2 ∈ c.1 := fun c hc => Who_in (h.v c hc).2 (h.v c hc).1.p
  have hn : (cs.map fun c => c.2).Nodup := by
    refine List.pairwise_map.2 (h.d.imp_of_mem fun {a b} ha hb hd e => hd _ (hm a ha) ?_)
    rw [e]; exact hm b hb
  have hu : Up (ins (cs.map fun c => c.2) []) := ins_up (by rw [List.append_nil]; exact hn)
  have := Up_len8 _ 1 (by omega) hu (fun x hx => by
    rcases ins_mem.1 hx with q | q
    · obtain ⟨c, hc, rfl⟩ := List.mem_map.1 q
      exact (h.v c hc).1.s _ (hm c hc)
    · cases q)
  rw [ins_len, List.length_map, List.length_nil] at this
  omega
theorem Cs_repl {D : List (List Int)} {cs fit : List Cl} (h : Cs D cs) (hf : Cs D fit) (p q : Nat) (hd : ∀ j, j < cs.length → j ≠ p → j ≠ q → ∀ c ∈ fit, ∀ x ∈ c.1, x ∉ (cs.getD j cD).1) : Cs D (repl fit p q 0 cs) := by
  refine ⟨fun c hc => ?_, repl_pair fit p q hf.d cs 0 h.d fun j hj h1 h2 d hdm => ?_⟩
  · rcases (repl_mem fit p q c cs 0).1 hc with ⟨_, q⟩ | ⟨j, h1, _, _, h4⟩
    · exact hf.v c q
    · exact h.v c (h4 ▸ getD_memC h1)
  · have := hd j hj (by omega) (by omega) d hdm
    exact ⟨fun x hx hx2 => this x hx2 hx, this⟩
theorem set_putM : ∀ (l : List Cl) (i : Nat) (x : Cl), i < l.length → l.set i x = putL l [x] i
  | [], i, x, h => by simp at h
  | y :: r, 0, x, h => by simp [putL]
  | y :: r, i + 1, x, h => by
    have := set_putM r i x (by simpa using h)
    simp only [putL, List.length_singleton] at this ⊢
    simp only [List.set_cons_succ, this, List.take_succ_cons, List.cons_append]
    rw [show i + 1 + 1 = (i + 1) + 1 from rfl, List.drop_succ_cons]
theorem put_td (l : List Cl) (c : Cl) {p : Nat} (h : p < l.length) : (putL l [c] p).getD p cD = c ∧ (putL l [c] p).take p = l.take p ∧ (putL l [c] p).drop (p + 1) = l.drop (p + 1) ∧ (putL l [c] p).length = l.length ∧ (∀ q, q ≠ p → (putL l [c] p).getD q cD = l.getD q cD) ∧ (∀ d, putL (putL l [c] p) [d] p = putL l [d] p) ∧ putL l [c] p = repl [c] p p 0 l := by
  have e : ∀ d, putL l [d] p = l.set p d := fun d => (set_putM l p d h).symm
  refine ⟨?_, ?_, ?_, ?_, fun q hq => ?_, fun d => ?_, ?_⟩
  · rw [e]; simp [List.getD, h]
  · rw [e, List.take_set_of_le (by omega)]
  · rw [e, List.drop_set_of_lt (by omega)]
  · rw [e, List.length_set]
  · rw [e]; simp only [List.getD, List.getElem?_set_ne (Ne.symm hq)]
  · rw [← set_putM (putL l [c] p) p d (by rw [e, List.length_set]; exact h), e, e, List.set_set]
  · rw [repl_same _ h]; unfold putL; simp
theorem putfit (N : Nat) {D : List (List Int)} (hD : GD D) {M : List Int} {k : Int} (h : Vd M) (hk : 1 ≤ k ∧ k ≤ 3) (hN : 1000 ≤ N) : ∃ c fit, W_ref7_Of N (D, M) = some c ∧ c.1 = M ∧ Who (fun x => far D x M) M c.2 ∧ W_clus_fitted N (D, M, k) = some fit ∧ Cs D fit ∧ (∀ c ∈ fit, ∀ x ∈ c.1, x ∈ M) ∧ fit.length ≤ 2 ∧
    ∀ (E : List Cl) (i : Nat), i < E.length → E.length ≤ 100 → E.getD i cD = c → cnd (decide (3 * k - 1 < (↑(List.length (Prod.fst (List.getD E i cD))) : Int))) (obind (W_ref7_parted N (D, E, (i : Int), k)) fun (b : List (List Int × Int)) => some b) (some E) = some (E.take i ++ fit ++ E.drop (i + 1)) := by
  have he := h.e
  obtain ⟨v, eo, ho⟩ := Of7_spec N hD h.s (by omega) hN
  obtain ⟨fit, ef, hC, hm, h1, h2, hl⟩ := fitted_any N hD h hk hN
  refine ⟨_, fit, eo, rfl, ho, ef, hC, hm, hl, fun E i hi hE hg => ?_⟩
  have hgl : (Prod.fst (List.getD E i cD)).length = M.length := by rw [hg]
  by_cases c : (M.length : Int) ≤ 3 * k - 1
  · obtain ⟨v', e⟩ := h1 c
    subst e
    have hv := hC.v _ (List.mem_singleton.2 rfl)
    have : v' = v := Who_one hv.2 ho
    subst this
    rw [dF (show ¬ (3 * k - 1 < (↑(List.length (Prod.fst (List.getD E i cD))) : Int)) by rw [hgl]; omega), cnd_f]
    have := List.take_append_drop i E
    rw [drop_getC hi, hg] at this
    rw [List.append_assoc]
    exact congrArg some this.symm
  · obtain ⟨a, b, lo, hi', v1, w1, e1, e2, hP, _, wa, wb⟩ := fitted_two N hD h.s h.u h.e hk c hN
    have hpl := hP.len
    rw [ef] at e2
    injection e2 with e2
    subst e2
    have hs : W_ref7_Split N (D, (E.getD i cD).1, k) = some (a, b) := by
      rw [hg, Split7_eq N hD h.s h.u (by omega) h.e hk.1 hN]; exact e1
    obtain ⟨v2, w2, e3, hv2, hw2⟩ := parted_eq N hD (k := k) hN hi hE hs (fun x hx => h.s x (hP.ma x hx)) (fun x hx => h.s x (hP.mb x hx)) (by omega) (by omega)
    have q1 := Who_one hv2 wa
    have q2 := Who_one hw2 wb
    subst q1 q2
    rw [dT (show (3 * k - 1 < (↑(List.length (Prod.fst (List.getD E i cD))) : Int)) by rw [hgl]; omega), cnd_t, e3, obind_s]
theorem Join_eq (N : Nat) {D : List (List Int)} (hD : GD D) {cs : List Cl} (h : Cs D cs) {a id k : Int} (ha : -1 ≤ a ∧ a ≤ 100) (hid : 1 ≤ id ∧ id ≤ 8) (hk : 1 ≤ k ∧ k ≤ 3) (hN : 1000 ≤ N) : ∃ x, W_clus_Join N (D, cs, a, id, k) = some x ∧ W_ref7_JoinClus N (D, cs, a, id, k) = some x ∧ Cs D x := by
  have hl := Cs_len h
  unfold W_clus_Join V_clus_Join W_ref7_JoinClus V_ref7_JoinClus
  try simp only
  rw [cnd_T (show cs.length * 32 ≤ 140737488355328 by omega)]
  by_cases c0 : cs.length = 0
  · have hV : Vd [id] := ⟨fun x hx => by rw [List.mem_singleton.1 hx]; exact hid, List.pairwise_singleton _ _, by simp, by simp⟩
    obtain ⟨v, e1, w1⟩ := Of_spec N hD hV.s (by simp) hN
    obtain ⟨w, e2, w2⟩ := Of7_spec N hD hV.s (by simp) hN
    have := Who_one w1 w2
    subst this
    rw [dT (show (cs.length : Int) = 0 by omega), cnd_t, cnd_t, e1, e2, obind_s]
    exact ⟨_, rfl, rfl, ⟨fun c hc => by rw [List.mem_singleton.1 hc]; exact ⟨hV, w1⟩, List.pairwise_singleton _ _⟩⟩
  rw [dF (show ¬ (cs.length : Int) = 0 by omega), cnd_f, cnd_f]
  have htw := twin_eq N h (by omega) hN
  by_cases hh : ∃ j, j < cs.length ∧ id ∈ (cs.getD j cD).1
  · obtain ⟨j, hj, hidj⟩ := hh
    refine ⟨cs, ?_, ?_, h⟩
    · rw [find_at N h (by omega) hj hidj hN, obind_s, selim_l, htw, obind_s]
    · rw [Home_at N h (by omega) hj hidj hN]
      by_cases c1 : a < 0
      · rw [dT c1, cnd_t, obind_s, cnd_t]
      · rw [dF c1, cnd_f, obind_s]
        try simp only
        cases decide ((cs.length : Int) ≤ a) with
        | true => rw [cnd_t]
        | false => rw [cnd_f, obind_s, dT (show (0 : Int) ≤ (j : Int) by omega), cnd_t]
  have hno : ∀ j, j < cs.length → id ∉ (cs.getD j cD).1 := fun j hj q => hh ⟨j, hj, q⟩
  rw [find_no N h (by omega) hno hN, obind_s, selim_r, Home_no N h (by omega) hno hN]
  by_cases c1 : a < 0
  · refine ⟨cs, ?_, ?_, h⟩
    · rw [dT c1, cnd_t, htw, obind_s]
    · rw [dT c1, cnd_t, obind_s, cnd_t]
  rw [dF c1, cnd_f, cnd_f, obind_s]
  try simp only
  by_cases c2 : (cs.length : Int) ≤ a
  · refine ⟨cs, ?_, ?_, h⟩
    · rw [dT c2, cnd_t, htw, obind_s]
    · rw [dT c2, cnd_t]
  obtain ⟨p, hp⟩ : ∃ p : Nat, a = p := ⟨a.toNat, by omega⟩
  subst hp
  have hpl : p < cs.length := by omega
  obtain ⟨hpv, hpw⟩ := h.v _ (getD_memC hpl)
  have hpe := hpv.e
  have hpp := hpv.p
  have hV : Vd (ins (cs.getD p cD).1 [id]) := by
    have hn : ((cs.getD p cD).1 ++ [id]).Nodup := by
      rw [List.nodup_append]
      exact ⟨Up_nodup hpv.u, by simp, fun x hx y hy e => hno p hpl (by rw [← List.mem_singleton.1 hy, ← e]; exact hx)⟩
    have hu := ins_up hn
    have hs : S8 (ins (cs.getD p cD).1 [id]) := fun x hx => (ins_mem.1 hx).elim (hpv.s x) (fun q => by rw [List.mem_singleton.1 q]; exact hid)
    have h8 := Up_len8 _ 1 (by omega) hu hs
    exact ⟨hs, hu, by rw [ins_len]; omega, by omega⟩
  obtain ⟨c, fit, eo, hc, hcw, ef, hfC, hfm, hfl, hE⟩ := putfit N hD hV hk hN
  have hri := Rising_is N (l := (cs.getD p cD).1 ++ [id]) (by rw [List.length_append, List.length_singleton]; omega) hN hV.u hV.s (fun x => by rw [ins_mem, List.mem_append])
  obtain ⟨t1, t2, t3, t4, t5, t6, t7⟩ := put_td cs c hpl
  have hE' := hE (putL cs [c] p) p (by omega) (by omega) t1
  rw [t2, t3, ← repl_same fit hpl] at hE'
  refine ⟨repl fit p p 0 cs, ?_, ?_, Cs_repl h hfC p p fun j hj h1 _ d hd x hx hx2 => ?_⟩
  · rw [dF c2, cnd_f, dT (show (0 : Int) ≤ (p : Int) by omega), dT (show (p : Int) < cs.length by omega), Bool.and_self, cnd_t, Int.toNat_natCast]
    refine (congrArg (fun o => obind o _) (with_eq N (cs.getD p cD).1 [id] (by omega) (by simp) (by simp))).trans ?_
    rw [obind_s, ef, obind_s, replace_eq N hD h hl p p fit (by omega) hN, obind_s]
  · rw [dF c2, cnd_f, obind_s, dF (show ¬ (0 : Int) ≤ -1 by omega), cnd_f, dT (show (0 : Int) ≤ (p : Int) by omega), dT (show (p : Int) < cs.length by omega), Bool.and_self, cnd_t, Int.toNat_natCast]
    rw [cnd_T (show (Prod.fst (cs.getD p cD)).length * 8 ≤ 140737488355328 by omega), cnd_T (show ((Prod.fst (cs.getD p cD)).length + [id].length) * 8 ≤ 140737488355328 by rw [List.length_singleton]; omega)]
    refine (congrArg (fun o => obind o _) hri).trans ?_
    rw [obind_s, eo, obind_s, cnd_t, t4, dT (show (p : Int) < cs.length by omega), Bool.and_self, cnd_t, wr_m (z := 3 * k) (by omega) (by omega), wr_m (z := 3 * k - 1) (by omega) (by omega)]
    exact hE'
  · have hxm := hfm d hd x hx
    rcases ins_mem.1 hxm with q | q
    · exact h1 (h.one hj hpl hx2 q)
    · rw [List.mem_singleton.1 q] at hx2; exact hno j hj hx2
def Z0 (D : List (List Int)) : Prop := ∀ i, i < 8 → gd D i i = 0
theorem Dist_spec0 (N : Nat) (l : List Int) (n : Int) (hU : U8 l) (hl : l.length ≤ 1000) (h0 : 0 ≤ n) (h1 : n ≤ l.length) : ∃ D n', W_Picks_Dist N (l, n) = some (D, l, n') ∧ GD D ∧ Z0 D := by
  unfold W_Picks_Dist V_Picks_Dist
  try simp only
  obtain ⟨v0, n0, e0, p0, q0, r0, s0⟩ := Num_spec N 9 l n hU hl h0 h1 (by omega) (by omega)
  rw [e0, obind_s, dT p0, cnd_t, dT (show v0 < ((9 : Nat) : Int) from q0), cnd_t]
  obtain ⟨v1, n1, e1, p1, q1, r1, s1⟩ := Num_spec N 9 l n0 hU hl r0 s0 (by omega) (by omega)
  rw [e1, obind_s, dT p1, cnd_t, dT (show v1 < ((9 : Nat) : Int) from q1), cnd_t]
  obtain ⟨v2, n2, e2, p2, q2, r2, s2⟩ := Num_spec N 9 l n1 hU hl r1 s1 (by omega) (by omega)
  rw [e2, obind_s, dT p2, cnd_t, dT (show v2 < ((9 : Nat) : Int) from q2), cnd_t]
  obtain ⟨v3, n3, e3, p3, q3, r3, s3⟩ := Num_spec N 9 l n2 hU hl r2 s2 (by omega) (by omega)
  rw [e3, obind_s, dT p3, cnd_t, dT (show v3 < ((9 : Nat) : Int) from q3), cnd_t]
  obtain ⟨v4, n4, e4, p4, q4, r4, s4⟩ := Num_spec N 9 l n3 hU hl r3 s3 (by omega) (by omega)
  rw [e4, obind_s, dT p4, cnd_t, dT (show v4 < ((9 : Nat) : Int) from q4), cnd_t]
  obtain ⟨v5, n5, e5, p5, q5, r5, s5⟩ := Num_spec N 9 l n4 hU hl r4 s4 (by omega) (by omega)
  rw [e5, obind_s, dT p5, cnd_t, dT (show v5 < ((9 : Nat) : Int) from q5), cnd_t]
  obtain ⟨v6, n6, e6, p6, q6, r6, s6⟩ := Num_spec N 9 l n5 hU hl r5 s5 (by omega) (by omega)
  rw [e6, obind_s, dT p6, cnd_t, dT (show v6 < ((9 : Nat) : Int) from q6), cnd_t]
  obtain ⟨v7, n7, e7, p7, q7, r7, s7⟩ := Num_spec N 9 l n6 hU hl r6 s6 (by omega) (by omega)
  rw [e7, obind_s, dT p7, cnd_t, dT (show v7 < ((9 : Nat) : Int) from q7), cnd_t]
  obtain ⟨v8, n8, e8, p8, q8, r8, s8⟩ := Num_spec N 9 l n7 hU hl r7 s7 (by omega) (by omega)
  rw [e8, obind_s, dT p8, cnd_t, dT (show v8 < ((9 : Nat) : Int) from q8), cnd_t]
  obtain ⟨v9, n9, e9, p9, q9, r9, s9⟩ := Num_spec N 9 l n8 hU hl r8 s8 (by omega) (by omega)
  rw [e9, obind_s, dT p9, cnd_t, dT (show v9 < ((9 : Nat) : Int) from q9), cnd_t]
  obtain ⟨v10, n10, e10, p10, q10, r10, s10⟩ := Num_spec N 9 l n9 hU hl r9 s9 (by omega) (by omega)
  rw [e10, obind_s, dT p10, cnd_t, dT (show v10 < ((9 : Nat) : Int) from q10), cnd_t]
  obtain ⟨v11, n11, e11, p11, q11, r11, s11⟩ := Num_spec N 9 l n10 hU hl r10 s10 (by omega) (by omega)
  rw [e11, obind_s, dT p11, cnd_t, dT (show v11 < ((9 : Nat) : Int) from q11), cnd_t]
  obtain ⟨v12, n12, e12, p12, q12, r12, s12⟩ := Num_spec N 9 l n11 hU hl r11 s11 (by omega) (by omega)
  rw [e12, obind_s, dT p12, cnd_t, dT (show v12 < ((9 : Nat) : Int) from q12), cnd_t]
  obtain ⟨v13, n13, e13, p13, q13, r13, s13⟩ := Num_spec N 9 l n12 hU hl r12 s12 (by omega) (by omega)
  rw [e13, obind_s, dT p13, cnd_t, dT (show v13 < ((9 : Nat) : Int) from q13), cnd_t]
  obtain ⟨v14, n14, e14, p14, q14, r14, s14⟩ := Num_spec N 9 l n13 hU hl r13 s13 (by omega) (by omega)
  rw [e14, obind_s, dT p14, cnd_t, dT (show v14 < ((9 : Nat) : Int) from q14), cnd_t]
  obtain ⟨v15, n15, e15, p15, q15, r15, s15⟩ := Num_spec N 9 l n14 hU hl r14 s14 (by omega) (by omega)
  rw [e15, obind_s, dT p15, cnd_t, dT (show v15 < ((9 : Nat) : Int) from q15), cnd_t]
  obtain ⟨v16, n16, e16, p16, q16, r16, s16⟩ := Num_spec N 9 l n15 hU hl r15 s15 (by omega) (by omega)
  rw [e16, obind_s, dT p16, cnd_t, dT (show v16 < ((9 : Nat) : Int) from q16), cnd_t]
  obtain ⟨v17, n17, e17, p17, q17, r17, s17⟩ := Num_spec N 9 l n16 hU hl r16 s16 (by omega) (by omega)
  rw [e17, obind_s, dT p17, cnd_t, dT (show v17 < ((9 : Nat) : Int) from q17), cnd_t]
  obtain ⟨v18, n18, e18, p18, q18, r18, s18⟩ := Num_spec N 9 l n17 hU hl r17 s17 (by omega) (by omega)
  rw [e18, obind_s, dT p18, cnd_t, dT (show v18 < ((9 : Nat) : Int) from q18), cnd_t]
  obtain ⟨v19, n19, e19, p19, q19, r19, s19⟩ := Num_spec N 9 l n18 hU hl r18 s18 (by omega) (by omega)
  rw [e19, obind_s, dT p19, cnd_t, dT (show v19 < ((9 : Nat) : Int) from q19), cnd_t]
  obtain ⟨v20, n20, e20, p20, q20, r20, s20⟩ := Num_spec N 9 l n19 hU hl r19 s19 (by omega) (by omega)
  rw [e20, obind_s, dT p20, cnd_t, dT (show v20 < ((9 : Nat) : Int) from q20), cnd_t]
  obtain ⟨v21, n21, e21, p21, q21, r21, s21⟩ := Num_spec N 9 l n20 hU hl r20 s20 (by omega) (by omega)
  rw [e21, obind_s, dT p21, cnd_t, dT (show v21 < ((9 : Nat) : Int) from q21), cnd_t]
  obtain ⟨v22, n22, e22, p22, q22, r22, s22⟩ := Num_spec N 9 l n21 hU hl r21 s21 (by omega) (by omega)
  rw [e22, obind_s, dT p22, cnd_t, dT (show v22 < ((9 : Nat) : Int) from q22), cnd_t]
  obtain ⟨v23, n23, e23, p23, q23, r23, s23⟩ := Num_spec N 9 l n22 hU hl r22 s22 (by omega) (by omega)
  rw [e23, obind_s, dT p23, cnd_t, dT (show v23 < ((9 : Nat) : Int) from q23), cnd_t]
  obtain ⟨v24, n24, e24, p24, q24, r24, s24⟩ := Num_spec N 9 l n23 hU hl r23 s23 (by omega) (by omega)
  rw [e24, obind_s, dT p24, cnd_t, dT (show v24 < ((9 : Nat) : Int) from q24), cnd_t]
  obtain ⟨v25, n25, e25, p25, q25, r25, s25⟩ := Num_spec N 9 l n24 hU hl r24 s24 (by omega) (by omega)
  rw [e25, obind_s, dT p25, cnd_t, dT (show v25 < ((9 : Nat) : Int) from q25), cnd_t]
  obtain ⟨v26, n26, e26, p26, q26, r26, s26⟩ := Num_spec N 9 l n25 hU hl r25 s25 (by omega) (by omega)
  rw [e26, obind_s, dT p26, cnd_t, dT (show v26 < ((9 : Nat) : Int) from q26), cnd_t]
  obtain ⟨v27, n27, e27, p27, q27, r27, s27⟩ := Num_spec N 9 l n26 hU hl r26 s26 (by omega) (by omega)
  rw [e27, obind_s, dT p27, cnd_t, dT (show v27 < ((9 : Nat) : Int) from q27), cnd_t]
  refine ⟨[[(0 : Int), dv v0, dv v1, dv v3, dv v6, dv v10, dv v15, dv v21], [dv v0, (0 : Int), dv v2, dv v4, dv v7, dv v11, dv v16, dv v22], [dv v1, dv v2, (0 : Int), dv v5, dv v8, dv v12, dv v17, dv v23], [dv v3, dv v4, dv v5, (0 : Int), dv v9, dv v13, dv v18, dv v24], [dv v6, dv v7, dv v8, dv v9, (0 : Int), dv v14, dv v19, dv v25], [dv v10, dv v11, dv v12, dv v13, dv v14, (0 : Int), dv v20, dv v26], [dv v15, dv v16, dv v17, dv v18, dv v19, dv v20, (0 : Int), dv v27], [dv v21, dv v22, dv v23, dv v24, dv v25, dv v26, dv v27, (0 : Int)]], n27, rfl, ?_, lt8 rfl rfl rfl rfl rfl rfl rfl rfl⟩
  have d0 := dv_rng v0
  have d1 := dv_rng v1
  have d2 := dv_rng v2
  have d3 := dv_rng v3
  have d4 := dv_rng v4
  have d5 := dv_rng v5
  have d6 := dv_rng v6
  have d7 := dv_rng v7
  have d8 := dv_rng v8
  have d9 := dv_rng v9
  have d10 := dv_rng v10
  have d11 := dv_rng v11
  have d12 := dv_rng v12
  have d13 := dv_rng v13
  have d14 := dv_rng v14
  have d15 := dv_rng v15
  have d16 := dv_rng v16
  have d17 := dv_rng v17
  have d18 := dv_rng v18
  have d19 := dv_rng v19
  have d20 := dv_rng v20
  have d21 := dv_rng v21
  have d22 := dv_rng v22
  have d23 := dv_rng v23
  have d24 := dv_rng v24
  have d25 := dv_rng v25
  have d26 := dv_rng v26
  have d27 := dv_rng v27
  generalize dv v0 = w0 at *
  generalize dv v1 = w1 at *
  generalize dv v2 = w2 at *
  generalize dv v3 = w3 at *
  generalize dv v4 = w4 at *
  generalize dv v5 = w5 at *
  generalize dv v6 = w6 at *
  generalize dv v7 = w7 at *
  generalize dv v8 = w8 at *
  generalize dv v9 = w9 at *
  generalize dv v10 = w10 at *
  generalize dv v11 = w11 at *
  generalize dv v12 = w12 at *
  generalize dv v13 = w13 at *
  generalize dv v14 = w14 at *
  generalize dv v15 = w15 at *
  generalize dv v16 = w16 at *
  generalize dv v17 = w17 at *
  generalize dv v18 = w18 at *
  generalize dv v19 = w19 at *
  generalize dv v20 = w20 at *
  generalize dv v21 = w21 at *
  generalize dv v22 = w22 at *
  generalize dv v23 = w23 at *
  generalize dv v24 = w24 at *
  generalize dv v25 = w25 at *
  generalize dv v26 = w26 at *
  generalize dv v27 = w27 at *
  refine ⟨rfl, lt8 rfl rfl rfl rfl rfl rfl rfl rfl, ?_, fun i j hi hj => lt8 (P := fun i => ∀ j, j < 8 → gd [[(0 : Int), w0, w1, w3, w6, w10, w15, w21], [w0, (0 : Int), w2, w4, w7, w11, w16, w22], [w1, w2, (0 : Int), w5, w8, w12, w17, w23], [w3, w4, w5, (0 : Int), w9, w13, w18, w24], [w6, w7, w8, w9, (0 : Int), w14, w19, w25], [w10, w11, w12, w13, w14, (0 : Int), w20, w26], [w15, w16, w17, w18, w19, w20, (0 : Int), w27], [w21, w22, w23, w24, w25, w26, w27, (0 : Int)]] i j = gd [[(0 : Int), w0, w1, w3, w6, w10, w15, w21], [w0, (0 : Int), w2, w4, w7, w11, w16, w22], [w1, w2, (0 : Int), w5, w8, w12, w17, w23], [w3, w4, w5, (0 : Int), w9, w13, w18, w24], [w6, w7, w8, w9, (0 : Int), w14, w19, w25], [w10, w11, w12, w13, w14, (0 : Int), w20, w26], [w15, w16, w17, w18, w19, w20, (0 : Int), w27], [w21, w22, w23, w24, w25, w26, w27, (0 : Int)]] j i) (lt8 rfl rfl rfl rfl rfl rfl rfl rfl) (lt8 rfl rfl rfl rfl rfl rfl rfl rfl) (lt8 rfl rfl rfl rfl rfl rfl rfl rfl) (lt8 rfl rfl rfl rfl rfl rfl rfl rfl) (lt8 rfl rfl rfl rfl rfl rfl rfl rfl) (lt8 rfl rfl rfl rfl rfl rfl rfl rfl) (lt8 rfl rfl rfl rfl rfl rfl rfl rfl) (lt8 rfl rfl rfl rfl rfl rfl rfl rfl) i hi j hj⟩
  have z : (0 : Int) ≤ 0 ∧ (0 : Int) ≤ 1000 := ⟨by omega, by omega⟩
  refine fun i j hi hj => lt8 (P := fun i => ∀ j, j < 8 → 0 ≤ gd [[(0 : Int), w0, w1, w3, w6, w10, w15, w21], [w0, (0 : Int), w2, w4, w7, w11, w16, w22], [w1, w2, (0 : Int), w5, w8, w12, w17, w23], [w3, w4, w5, (0 : Int), w9, w13, w18, w24], [w6, w7, w8, w9, (0 : Int), w14, w19, w25], [w10, w11, w12, w13, w14, (0 : Int), w20, w26], [w15, w16, w17, w18, w19, w20, (0 : Int), w27], [w21, w22, w23, w24, w25, w26, w27, (0 : Int)]] i j ∧ gd [[(0 : Int), w0, w1, w3, w6, w10, w15, w21], [w0, (0 : Int), w2, w4, w7, w11, w16, w22], [w1, w2, (0 : Int), w5, w8, w12, w17, w23], [w3, w4, w5, (0 : Int), w9, w13, w18, w24], [w6, w7, w8, w9, (0 : Int), w14, w19, w25], [w10, w11, w12, w13, w14, (0 : Int), w20, w26], [w15, w16, w17, w18, w19, w20, (0 : Int), w27], [w21, w22, w23, w24, w25, w26, w27, (0 : Int)]] i j ≤ 1000) ?_ ?_ ?_ ?_ ?_ ?_ ?_ ?_ i hi j hj
  · exact lt8 z d0 d1 d3 d6 d10 d15 d21
  · exact lt8 d0 z d2 d4 d7 d11 d16 d22
  · exact lt8 d1 d2 z d5 d8 d12 d17 d23
  · exact lt8 d3 d4 d5 z d9 d13 d18 d24
  · exact lt8 d6 d7 d8 d9 z d14 d19 d25
  · exact lt8 d10 d11 d12 d13 d14 z d20 d26
  · exact lt8 d15 d16 d17 d18 d19 d20 z d27
  · exact lt8 d21 d22 d23 d24 d25 d26 d27 z
theorem within_eq (N : Nat) {v : Int} (h : 0 ≤ v ∧ v ≤ 1000) : W_rtt_within N v = some v := by
  unfold W_rtt_within V_rtt_within
  try simp only
  rw [show max v 0 = v by omega, show min v 1000 = v by omega]
theorem rttMay_eq (N : Nat) {D : List (List Int)} (hD : GD D) (h0 : Z0 D) (hN : 1000 ≤ N) : W_rtt_May N D = some true := by
  have hl := hD.len
  unfold W_rtt_May V_rtt_May
  try simp only
  rw [dF (show ¬ (D.length : Int) ≠ 8 by omega), cnd_f]
  refine loop_post (σ := Int) (ρ := Unit ⊕ Bool) (β := Bool) (fun o => o = some true) (fun v => ∃ i : Nat, v = i ∧ i ≤ 8) (fun v => 8 - v.toNat) (fun r => r = .inl ()) ⟨0, rfl, by omega⟩ (by simp; omega) ?_ ?_
  rotate_left
  · rintro v ⟨i, rfl, hi⟩
    by_cases c : (i : Int) < D.length
    case neg => right; rw [dF c, cnd_f]; exact ⟨_, rfl, rfl⟩
    left
    have hr := hD.row i (by omega)
    refine ⟨((i + 1 : Nat) : Int), ?_, ⟨i + 1, rfl, by omega⟩, by omega⟩
    rw [dT c, cnd_t, dT (show (0 : Int) ≤ (i : Int) by omega), Bool.and_self, cnd_t, Int.toNat_natCast, dF (show ¬ ((D.getD i []).length : Int) ≠ 8 by omega), cnd_f, wr_m (by omega) (by omega)]
    rfl
  rintro r rfl
  rw [selim_l]
  refine loop_post (σ := Int) (ρ := Unit ⊕ Bool) (β := Bool) (fun o => o = some true) (fun v => ∃ i : Nat, v = i ∧ i ≤ 8) (fun v => 8 - v.toNat) (fun r => r = .inl ()) ⟨0, rfl, by omega⟩ (by simp; omega) (fun r h => by rw [h, selim_l]) ?_
  rintro v ⟨i, rfl, hi⟩
  by_cases c : (i : Int) < D.length
  case neg => right; rw [dF c, cnd_f]; exact ⟨_, rfl, rfl⟩
  left
  have hr := hD.row i (by omega)
  rw [dT c, cnd_t, dT (show (0 : Int) ≤ (i : Int) by omega), Bool.and_self, cnd_t, Int.toNat_natCast, hr]
  refine loop_post (σ := Int) (ρ := Unit ⊕ Bool) (β := Int ⊕ (Unit ⊕ Bool)) (fun o => ∃ y : Int, o = some (.inl y) ∧ (∃ i : Nat, y = i ∧ i ≤ 8) ∧ 8 - y.toNat < 8 - i) (fun v => ∃ j : Nat, v = j ∧ j ≤ 8) (fun v => 8 - v.toNat) (fun r => r = .inl ()) ⟨0, rfl, by omega⟩ (by simp; omega) (fun r h => ?_) ?_
  · rw [h, selim_l, wr_m (by omega) (by omega)]
    exact ⟨_, rfl, ⟨i + 1, by omega, by omega⟩, by omega⟩
  rintro v ⟨j, rfl, hj⟩
  by_cases c2 : (j : Int) < ((8 : Nat) : Int)
  case neg => right; rw [dF c2, cnd_f]; exact ⟨_, rfl, rfl⟩
  left
  have hr2 := hD.row j (by omega)
  have g1 := hD.rng i j (by omega) (by omega)
  have g2 := hD.sym i j (by omega) (by omega)
  have g3 := h0 i (by omega)
  refine ⟨((j + 1 : Nat) : Int), ?_, ⟨j + 1, rfl, by omega⟩, by omega⟩
  unfold gd at g1 g2 g3
  rw [dT c2, cnd_t, dT (show (0 : Int) ≤ (j : Int) by omega), Bool.and_self, cnd_t, Int.toNat_natCast, within_eq N g1, obind_s, dF (fun q : _ ≠ _ => q rfl), cnd_f, dT (show (j : Int) < D.length by omega), Bool.and_self, cnd_t, hr2, dT (show (i : Int) < ((8 : Nat) : Int) by omega), Bool.and_self, cnd_t, g2, dF (fun q : _ ≠ _ => q rfl), obind_s, cnd_f, wr_m (by omega) (by omega)]
  by_cases e : i = j
  · subst e
    rw [dT (show (i : Int) = i from rfl), cnd_t, g3, dF (show ¬ (0 : Int) ≠ 0 by omega), cnd_f]; rfl
  · rw [dF (show ¬ (i : Int) = j by omega), cnd_f]; rfl
/-- Who is in some cluster. -/
def In (cs : List Cl) (x : Int) : Prop := ∃ c ∈ cs, x ∈ c.1
theorem In_at {cs : List Cl} {x : Int} (h : In cs x) : ∃ p, p < cs.length ∧ x ∈ (cs.getD p cD).1 := by
  obtain ⟨c, hc, hx⟩ := h
  obtain ⟨i, hi, e⟩ := mem_getDC hc
  exact ⟨i, hi, by rw [e]; exact hx⟩
theorem In_of {cs : List Cl} {x : Int} {p : Nat} (hp : p < cs.length) (h : x ∈ (cs.getD p cD).1) : In cs x := ⟨_, getD_memC hp, h⟩
theorem In_repl (o cs : List Cl) (p q : Nat) (x : Int) : In (repl o p q 0 cs) x ↔ (p < cs.length ∧ In o x) ∨ ∃ j, j < cs.length ∧ j ≠ p ∧ j ≠ q ∧ x ∈ (cs.getD j cD).1 := by
  constructor
  · rintro ⟨c, hc, hx⟩
    rcases (repl_mem o p q c cs 0).1 hc with ⟨h1, h2⟩ | ⟨j, h1, h2, h3, h4⟩
    · exact .inl ⟨by omega, c, h2, hx⟩
    · exact .inr ⟨j, h1, by omega, by omega, by rw [h4]; exact hx⟩
  · rintro (⟨h1, c, hc, hx⟩ | ⟨j, h1, h2, h3, h4⟩)
    · exact ⟨c, (repl_mem o p q c cs 0).2 (.inl ⟨by omega, hc⟩), hx⟩
    · exact ⟨_, (repl_mem o p q _ cs 0).2 (.inr ⟨j, h1, by omega, by omega, rfl⟩), h4⟩
theorem fitted_all (N : Nat) {D : List (List Int)} (hD : GD D) {l : List Int} {k : Int} (h : Vd l) (hk : 1 ≤ k ∧ k ≤ 3) (hN : 1000 ≤ N) : ∃ fit : List Cl, W_clus_fitted N (D, l, k) = some fit ∧ Cs D fit ∧ (∀ x, In fit x ↔ x ∈ l) ∧ (fit.length = 1 ∨ fit.length = 2 ∧ ∀ c ∈ fit, k ≤ c.1.length) ∧ ((l.length : Int) ≤ 4 * k - 1 → ∀ c ∈ fit, (c.1.length : Int) ≤ 3 * k - 1) ∧ (k ≤ l.length → ∀ c ∈ fit, k ≤ c.1.length) := by
  have he := h.e
  by_cases c : (l.length : Int) ≤ 3 * k - 1
  · obtain ⟨v, e, hw⟩ := fitted_one N hD h.s h.e hk c hN
    refine ⟨_, e, ⟨fun q hq => ?_, List.pairwise_singleton _ _⟩, fun x => ?_, .inl rfl, fun _ q hq => ?_, fun hkl q hq => ?_⟩
    · rw [List.mem_singleton.1 hq]; exact ⟨h, hw⟩
    · exact ⟨fun ⟨q, hq, hx⟩ => by rw [List.mem_singleton.1 hq] at hx; exact hx, fun hx => ⟨_, List.mem_singleton.2 rfl, hx⟩⟩
    · rw [List.mem_singleton.1 hq]; exact c
    · rw [List.mem_singleton.1 hq]; exact hkl
  · obtain ⟨a, b, lo, hi, v, w, _, e2, hP, ⟨k1, k2⟩, w1, w2⟩ := fitted_two N hD h.s h.u h.e hk c hN
    have hpl := hP.len
    have va : Vd a := ⟨fun x hx => h.s x (hP.ma x hx), hP.ua, by omega, by omega⟩
    have vb : Vd b := ⟨fun x hx => h.s x (hP.mb x hx), hP.ub, by omega, by omega⟩
    have two : ∀ {P : Cl → Prop}, P (a, v) → P (b, w) → ∀ q ∈ [(a, v), (b, w)], P q := fun h1 h2 q hq => by
      simp only [List.mem_cons, List.not_mem_nil, or_false] at hq
      rcases hq with rfl | rfl
      · exact h1
      · exact h2
    refine ⟨_, e2, ⟨two ⟨va, w1⟩ ⟨vb, w2⟩, ?_⟩, fun x => ⟨fun ⟨q, hq, hx⟩ => ?_, fun hx => ?_⟩, .inr ⟨rfl, two k1 k2⟩, fun h4 => two (show (a.length : Int) ≤ 3 * k - 1 by omega) (show (b.length : Int) ≤ 3 * k - 1 by omega), fun _ => two k1 k2⟩
    · refine List.pairwise_cons.2 ⟨fun q hq x hx => ?_, List.pairwise_singleton _ _⟩
      rw [List.mem_singleton.1 hq]; exact hP.dis x hx
    · simp only [List.mem_cons, List.not_mem_nil, or_false] at hq
      rcases hq with rfl | rfl
      · exact hP.ma x hx
      · exact hP.mb x hx
    · rcases hP.cov x hx with q | q
      · exact ⟨_, List.mem_cons_self .., q⟩
      · exact ⟨_, List.mem_cons_of_mem _ (List.mem_singleton.2 rfl), q⟩
/-- Clusters as they may be at the ground. -/
structure Cz (D : List (List Int)) (k : Int) (cs : List Cl) : Prop where
  c : Cs D cs
  z : ∀ c ∈ cs, (c.1.length : Int) ≤ 3 * k - 1
  n : 1 < cs.length → ∀ c ∈ cs, k ≤ c.1.length
theorem Cz_nil (D : List (List Int)) (k : Int) : Cz D k [] := ⟨⟨(fun c hc => by cases hc), List.Pairwise.nil⟩, (fun c hc => by cases hc), fun h => by simp at h⟩
theorem Join_z (N : Nat) {D : List (List Int)} (hD : GD D) {cs : List Cl} {a id k : Int} (hz : Cz D k cs) (ha : -1 ≤ a ∧ a ≤ 100) (hid : 1 ≤ id ∧ id ≤ 8) (hk : 1 ≤ k ∧ k ≤ 3) (hN : 1000 ≤ N) : ∃ x, W_clus_Join N (D, cs, a, id, k) = some x ∧ Cz D k x ∧ (∀ y, In x y ↔ In cs y ∨ y = id ∧ (cs.length = 0 ∨ 0 ≤ a ∧ a < cs.length)) ∧ (In cs id → x = cs) := by
  have h := hz.c
  have hl := Cs_len h
  unfold W_clus_Join V_clus_Join
  try simp only
  by_cases c0 : cs.length = 0
  · have hV : Vd [id] := ⟨fun x hx => by rw [List.mem_singleton.1 hx]; exact hid, List.pairwise_singleton _ _, by simp, by simp⟩
    obtain ⟨v, e1, w1⟩ := Of_spec N hD hV.s (by simp) hN
    rw [dT (show (cs.length : Int) = 0 by omega), cnd_t, e1, obind_s]
    refine ⟨_, rfl, ⟨⟨fun c hc => by rw [List.mem_singleton.1 hc]; exact ⟨hV, w1⟩, List.pairwise_singleton _ _⟩, fun c hc => by rw [List.mem_singleton.1 hc]; show (1 : Int) ≤ _; omega, fun q => by simp at q⟩, fun y => ?_, fun ⟨c, hc, _⟩ => ?_⟩
    · have : cs = [] := List.eq_nil_of_length_eq_zero c0
      subst this
      constructor
      · rintro ⟨c, hc, hy⟩
        rw [List.mem_singleton.1 hc] at hy
        exact .inr ⟨List.mem_singleton.1 hy, .inl rfl⟩
      · rintro (⟨c, hc, _⟩ | ⟨rfl, _⟩)
        · cases hc
        · exact ⟨_, List.mem_singleton.2 rfl, List.mem_singleton.2 rfl⟩
    · rw [List.eq_nil_of_length_eq_zero c0] at hc; cases hc
  rw [dF (show ¬ (cs.length : Int) = 0 by omega), cnd_f]
  have htw := twin_eq N h (by omega) hN
  by_cases hh : ∃ j, j < cs.length ∧ id ∈ (cs.getD j cD).1
  · obtain ⟨j, hj, hidj⟩ := hh
    refine ⟨cs, ?_, hz, fun y => ⟨.inl, fun q => q.elim (fun q => q) (fun ⟨e, _⟩ => e ▸ In_of hj hidj)⟩, fun _ => rfl⟩
    rw [find_at N h (by omega) hj hidj hN, obind_s, selim_l, htw, obind_s]
  have hno : ∀ j, j < cs.length → id ∉ (cs.getD j cD).1 := fun j hj q => hh ⟨j, hj, q⟩
  have hin : ¬ In cs id := fun q => by obtain ⟨p, hp, hx⟩ := In_at q; exact hno p hp hx
  rw [find_no N h (by omega) hno hN, obind_s, selim_r]
  by_cases c1 : a < 0
  · refine ⟨cs, ?_, hz, fun y => ⟨.inl, fun q => q.elim (fun q => q) (fun ⟨e, q⟩ => by omega)⟩, fun _ => rfl⟩
    rw [dT c1, cnd_t, htw, obind_s]
  rw [dF c1, cnd_f]
  by_cases c2 : (cs.length : Int) ≤ a
  · refine ⟨cs, ?_, hz, fun y => ⟨.inl, fun q => q.elim (fun q => q) (fun ⟨e, q⟩ => by omega)⟩, fun _ => rfl⟩
    rw [dT c2, cnd_t, htw, obind_s]
  obtain ⟨p, hp⟩ : ∃ p : Nat, a = p := ⟨a.toNat, by omega⟩
  subst hp
  have hpl : p < cs.length := by omega
  obtain ⟨hpv, hpw⟩ := h.v _ (getD_memC hpl)
  have hpz := hz.z _ (getD_memC hpl)
  have hpn := fun q => hz.n q _ (getD_memC hpl)
  have hpe := hpv.e
  have hpp := hpv.p
  have hV : Vd (ins (cs.getD p cD).1 [id]) := by
    have hn : ((cs.getD p cD).1 ++ [id]).Nodup := by
      rw [List.nodup_append]
      exact ⟨Up_nodup hpv.u, by simp, fun x hx y hy e => hno p hpl (by rw [← List.mem_singleton.1 hy, ← e]; exact hx)⟩
    have hu := ins_up hn
    have hs : S8 (ins (cs.getD p cD).1 [id]) := fun x hx => (ins_mem.1 hx).elim (hpv.s x) (fun q => by rw [List.mem_singleton.1 q]; exact hid)
    have h8 := Up_len8 _ 1 (by omega) hu hs
    exact ⟨hs, hu, by rw [ins_len]; omega, by omega⟩
  obtain ⟨fit, ef, hfC, hfm, hf1, hf2, hf3⟩ := fitted_all N hD hV hk hN
  have hil : (ins (cs.getD p cD).1 [id]).length = (cs.getD p cD).1.length + 1 := by rw [ins_len, List.length_singleton]
  have hap : ∀ j, j < cs.length → j ≠ p → j ≠ p → ∀ c ∈ fit, ∀ x ∈ c.1, x ∉ (cs.getD j cD).1 := fun j hj h1 _ d hd x hx hx2 => by
    rcases ins_mem.1 ((hfm x).1 ⟨d, hd, hx⟩) with q | q
    · exact h1 (h.one hj hpl hx2 q)
    · rw [List.mem_singleton.1 q] at hx2; exact hno j hj hx2
  have hfl : fit.length ≤ 2 := by rcases hf1 with q | ⟨q, _⟩ <;> omega
  refine ⟨repl fit p p 0 cs, ?_, ⟨Cs_repl h hfC p p hap, fun c hc => ?_, fun q c hc => ?_⟩, fun y => ?_, fun q => absurd q hin⟩
  · rw [dF c2, cnd_f, dT (show (0 : Int) ≤ (p : Int) by omega), dT (show (p : Int) < cs.length by omega), Bool.and_self, cnd_t, Int.toNat_natCast]
    refine (congrArg (fun o => obind o _) (with_eq N (cs.getD p cD).1 [id] (by omega) (by simp) (by simp))).trans ?_
    rw [obind_s, ef, obind_s, replace_eq N hD h hl p p fit (by omega) hN, obind_s]
  · rcases (repl_mem fit p p c cs 0).1 hc with ⟨_, q⟩ | ⟨j, h1, _, _, h4⟩
    · exact hf2 (by omega) c q
    · exact hz.z c (h4 ▸ getD_memC h1)
  · have hrl := repl_len fit p p cs 0
    rw [if_pos (by omega), if_neg (by omega), if_pos (by omega)] at hrl
    rcases (repl_mem fit p p c cs 0).1 hc with ⟨_, q2⟩ | ⟨j, h1, _, _, h4⟩
    · rcases hf1 with q3 | ⟨q3, q4⟩
      · have := hpn (by omega)
        exact hf3 (by omega) c q2
      · exact q4 c q2
    · by_cases c3 : 1 < cs.length
      · exact hz.n c3 c (h4 ▸ getD_memC h1)
      · omega
  · rw [In_repl, hfm, ins_mem, List.mem_singleton]
    constructor
    · rintro (⟨_, q | q⟩ | ⟨j, h1, _, _, h4⟩)
      · exact .inl (In_of hpl q)
      · exact .inr ⟨q, .inr ⟨by omega, by omega⟩⟩
      · exact .inl (In_of h1 h4)
    · rintro (q | ⟨q, _⟩)
      · obtain ⟨j, hj, hx⟩ := In_at q
        by_cases e : j = p
        · subst e; exact .inl ⟨hpl, .inl hx⟩
        · exact .inr ⟨j, hj, e, e, hx⟩
      · exact .inl ⟨hpl, .inr q⟩
abbrev Lv := List (List Cl)
abbrev Hr := Int × List (List Int) × Lv
/-- Who leads, rising. -/
def lead (cs : List Cl) : List Int := ins [] (cs.map fun c => c.2)
theorem lead_mem {cs : List Cl} {x : Int} : x ∈ lead cs ↔ ∃ c ∈ cs, c.2 = x := by
  unfold lead
  rw [ins_mem, List.mem_map]
  exact ⟨fun q => Or.elim q (fun q => by cases q) (fun q => q), .inr⟩
theorem lead_len {cs : List Cl} : (lead cs).length = cs.length := by
  unfold lead
  rw [ins_len, List.length_map, List.length_nil]; omega
theorem lead_in {D : List (List Int)} {cs : List Cl} (h : Cs D cs) {c : Cl} (hc : c ∈ cs) : c.2 ∈ c.1 := Who_in (h.v c hc).2 (h.v c hc).1.p
theorem lead_Vd {D : List (List Int)} {cs : List Cl} (h : Cs D cs) (h1 : 1 ≤ cs.length) : Vd (lead cs) := by
  have hn : (cs.map fun c => c.2).Nodup := by
    refine List.pairwise_map.2 (h.d.imp_of_mem fun {a b} ha hb hd e => hd _ (lead_in h ha) ?_)
    rw [e]; exact lead_in h hb
  have hs : S8 (lead cs) := fun x hx => by
    obtain ⟨c, hc, rfl⟩ := lead_mem.1 hx
    exact (h.v c hc).1.s _ (lead_in h hc)
  have hl := Cs_len h
  exact ⟨hs, ins_up (by simpa using hn), by rw [lead_len]; exact h1, by rw [lead_len]; exact hl⟩
/-- Of two or more there are fewer clusters than they. -/
theorem GR_less (N : Nat) {D : List (List Int)} (hD : GD D) {k : Int} (hk : 1 ≤ k ∧ k ≤ 3) (hN : 1000 ≤ N) : ∀ (n : Nat) (l : List Int), l.length ≤ n → Vd l → 2 ≤ l.length → ∀ g, GR N D k l g → g.length < l.length := by
  intro n
  induction n with
  | zero => intro l hl h; have := h.p; omega
  | succ n ih =>
    intro l hl h h2 g hg
    by_cases c : (l.length : Int) ≤ 3 * k - 1
    · obtain ⟨v, hg1, _⟩ := GR_one N hD hk hN h c
      rw [GR_unique hg hg1, List.length_singleton]; omega
    · obtain ⟨a, b, lo, hi, v, w, _, e2, hP, ⟨k1, k2⟩, _, _⟩ := fitted_two N hD h.s h.u h.e hk c hN
      have hpl := hP.len
      have he := h.e
      have va : Vd a := ⟨fun x hx => h.s x (hP.ma x hx), hP.ua, by omega, by omega⟩
      have vb : Vd b := ⟨fun x hx => h.s x (hP.mb x hx), hP.ub, by omega, by omega⟩
      obtain ⟨g1, r1, G1⟩ := GR_all N hD hk hN _ a (Nat.le_refl _) va
      obtain ⟨g2, r2, G2⟩ := GR_all N hD hk hN _ b (Nat.le_refl _) vb
      have h1 := G1.cl; have h3 := G2.cl
      rw [GR_unique hg (GR_two N hD hk hN h e2 (by omega) (by omega) r1 r2 (by omega)), List.length_append]
      by_cases ca : 2 ≤ a.length
      · have := ih a (by omega) va ca g1 r1; omega
      · have := ih b (by omega) vb (by omega) g2 r2; omega
/-- The levels over a ground. -/
inductive Rise (N : Nat) (D : List (List Int)) (k : Int) : List Cl → Lv → Prop
  | one {cs : List Cl} : Cs D cs → cs.length = 1 → Rise N D k cs [cs]
  | more {cs g : List Cl} {L : Lv} : Cs D cs → 2 ≤ cs.length → GR N D k (lead cs) g → Gp D k (lead cs) g → Rise N D k g L → Rise N D k cs (cs :: L)
theorem Rise_ex (N : Nat) {D : List (List Int)} (hD : GD D) {k : Int} (hk : 1 ≤ k ∧ k ≤ 3) (hN : 1000 ≤ N) : ∀ (n : Nat) (cs : List Cl), cs.length ≤ n → 1 ≤ cs.length → Cs D cs → ∃ L, Rise N D k cs L := by
  intro n
  induction n with
  | zero => intro cs h h1; omega
  | succ n ih =>
    intro cs hl h1 hC
    by_cases c : cs.length = 1
    · exact ⟨_, .one hC c⟩
    have hV := lead_Vd hC h1
    obtain ⟨g, hg, G1⟩ := GR_all N hD hk hN _ _ (Nat.le_refl _) hV
    have hls := GR_less N hD hk hN _ _ (Nat.le_refl _) hV (by rw [lead_len]; omega) g hg
    rw [lead_len] at hls
    have hCg : Cs D g := ⟨fun c hc => by
      obtain ⟨⟨m1, m2⟩, ⟨m3, m4⟩, m5⟩ := G1.m c hc
      have h8 := Up_len8 _ 1 (by omega) m4 m3
      exact ⟨⟨m3, m4, m1, by omega⟩, m5⟩, GR_dis N hD hk hN _ _ (Nat.le_refl _) hV g hg⟩
    obtain ⟨L, hL⟩ := ih g (by omega) (List.length_pos_iff.2 G1.ne) hCg
    exact ⟨_, .more hC (by omega) hg G1 hL⟩
theorem Rise.c {N : Nat} {D : List (List Int)} {k : Int} {cs : List Cl} {L : Lv} (h : Rise N D k cs L) : Cs D cs := by cases h <;> assumption
theorem Rise.p {N : Nat} {D : List (List Int)} {k : Int} {cs : List Cl} {L : Lv} (h : Rise N D k cs L) : 1 ≤ cs.length := by cases h <;> omega
theorem Rise.hd {N : Nat} {D : List (List Int)} {k : Int} {cs : List Cl} {L : Lv} (h : Rise N D k cs L) : ∃ R, L = cs :: R := by cases h <;> exact ⟨_, rfl⟩
theorem Rise.lv {N : Nat} {D : List (List Int)} {k : Int} {cs : List Cl} {L : Lv} (h : Rise N D k cs L) : ∀ x ∈ L, Cs D x ∧ 1 ≤ x.length := by
  induction h with
  | one hC h1 => intro x hx; rw [List.mem_singleton.1 hx]; exact ⟨hC, by omega⟩
  | more hC h2 _ _ _ ih =>
    intro x hx
    rcases List.mem_cons.1 hx with e | e
    · rw [e]; exact ⟨hC, by omega⟩
    · exact ih x e
theorem Rise.le (N : Nat) {D : List (List Int)} (hD : GD D) {k : Int} (hk : 1 ≤ k ∧ k ≤ 3) (hN : 1000 ≤ N) {cs : List Cl} {L : Lv} (h : Rise N D k cs L) : L.length ≤ cs.length := by
  induction h with
  | one hC h1 => simp [h1]
  | more hC h2 hg hG _ ih =>
    have hV := lead_Vd hC (by omega)
    have := GR_less N hD hk hN _ _ (Nat.le_refl _) hV (by rw [lead_len]; omega) _ hg
    rw [lead_len] at this
    simp only [List.length_cons]; omega
theorem leaders_eq (N : Nat) {cs : List Cl} (hl : cs.length ≤ 8) (hN : 1000 ≤ N) : W_hier_leaders N cs = some (lead cs) := by
  unfold W_hier_leaders V_hier_leaders
  try simp only
  refine loop_post (σ := Int × List Int) (ρ := List Int) (β := List Int) (fun o => o = some (lead cs)) (fun v => ∃ i : Nat, v = ((i : Int), (cs.take i).map fun c => c.2) ∧ i ≤ cs.length) (fun v => cs.length - v.1.toNat) (fun r => r = cs.map fun c => c.2) ⟨0, by simp, by omega⟩ (by simp; omega) ?_ ?_
  · rintro r rfl
    have hs : W_slices_Sort_int N (cs.map fun c => c.2) = some (lead cs) := by
      unfold W_slices_Sort_int
      rw [dT (show (cs.map fun c => c.2).length ≤ 140737488355328 by rw [List.length_map]; omega), cnd_t, srt_eq]
      rfl
    rw [hs, obind_s, dT (show (lead cs).length = (cs.map fun c => c.2).length by rw [lead_len, List.length_map]), cnd_t]
  · rintro v ⟨i, rfl, hi⟩
    try simp only
    by_cases c : (i : Int) < cs.length
    case neg => right; rw [dF c, cnd_f, List.take_of_length_le (by omega)]; exact ⟨_, rfl, rfl⟩
    left
    refine ⟨(((i + 1 : Nat) : Int), (cs.take (i + 1)).map fun c => c.2), ?_, ⟨i + 1, rfl, by omega⟩, by simp only; omega⟩
    rw [dT c, cnd_t, dT (show (0 : Int) ≤ (i : Int) by omega), Bool.and_self, cnd_t, Int.toNat_natCast, cnd_T (by rw [List.length_map, List.length_take]; omega), wr_m (by omega) (by omega), take_snocC (by omega), List.map_append]
    rfl
theorem rise_eq (N : Nat) {D : List (List Int)} (hD : GD D) {k : Int} (hk : 1 ≤ k ∧ k ≤ 3) (hN : 1000 ≤ N) {cs : List Cl} {L : Lv} (h : Rise N D k cs L) (K : Lv) : W_hier_rise N ((k, D, K), cs) = some L := by
  have hL := h.le N hD hk hN
  have hcl := Cs_len h.c
  unfold W_hier_rise V_hier_rise
  try simp only
  rw [dF (show ¬ (cs.length : Int) = 0 by have := h.p; omega), cnd_f]
  refine loop_post (σ := List Cl × Hr × Lv) (ρ := Lv) (β := Lv) (fun o => o = some L) (fun v => ∃ (top : List Cl) (pre R : Lv), v = (top, (k, D, K), pre ++ [top]) ∧ Rise N D k top R ∧ L = pre ++ R) (fun v => L.length + 1 - v.2.2.length) (fun r => r = L) ⟨cs, [], L, rfl, h, rfl⟩ (by simp; omega) (fun r h => by rw [h]) ?_
  rintro v ⟨top, pre, R, rfl, hR, e⟩
  try simp only
  cases hR with
  | one hC h1 =>
    right
    rw [dF (show ¬ (1 : Int) < top.length by omega), cnd_f]
    exact ⟨_, rfl, e.symm⟩
  | more hC h2 hg hG hR =>
    rename_i g L'
    left
    have ht := Cs_len hC
    have hgN : W_clus_Group N (D, lead top, k) = some g := hg N (by rw [lead_len]; omega)
    obtain ⟨R', eR⟩ := hR.hd
    have hlen : (pre ++ [top]).length + 1 ≤ L.length := by rw [e, eR]; simp; omega
    rw [dT (show (1 : Int) < top.length by omega), cnd_t, leaders_eq N ht hN, obind_s, hgN, obind_s, obind_s]
    try simp only
    rw [cnd_T (by rw [List.length_singleton]; omega)]
    refine ⟨_, rfl, ⟨g, pre ++ [top], L', rfl, hR, by rw [e, List.append_assoc]; rfl⟩, ?_⟩
    simp only [List.length_append, List.length_singleton] at hlen ⊢
    omega
theorem rise_nil (N : Nat) (x : Hr) : W_hier_rise N (x, []) = some [] := rfl
theorem ground_eq (N : Nat) (k : Int) (D : List (List Int)) (L : Lv) : W_hier_ground N (k, D, L) = some (L.getD 0 []) := by
  unfold W_hier_ground V_hier_ground
  try simp only
  by_cases c : (L.length : Int) = 0
  · have : L = [] := List.eq_nil_of_length_eq_zero (by omega)
    subst this
    rw [dT c, cnd_t]; rfl
  · rw [dF c, cnd_f, dT (show (0 : Int) ≤ 0 by omega), dT (show (0 : Int) < L.length by omega), Bool.and_self, cnd_t]
theorem hrises_eq (N : Nat) {l : List Int} (hl : S8 l) (hu : Up l) (hlen : l.length ≤ 900) (hN : 1000 ≤ N) : W_hier_rises N l = some true := by
  unfold W_hier_rises V_hier_rises
  refine loop_post (σ := Int × Int) (ρ := Unit ⊕ Bool) (β := Bool) (fun o => o = some true) (fun v => (0 ≤ v.2 ∧ v.2 ≤ l.length) ∧ ∀ x ∈ l.drop v.2.toNat, v.1 < x) (fun v => l.length - v.2.toNat) (fun r => r = .inl ()) ⟨⟨by simp, by simp⟩, fun x hx => by have := hl x (List.mem_of_mem_drop hx); simp only; omega⟩ (by simp; omega) (fun r h => by rw [h, selim_l]) ?_
  rintro ⟨m, i⟩ ⟨⟨g1, g2⟩, g3⟩
  simp only at g1 g2 g3 ⊢
  by_cases h : i < l.length
  · left
    have hj : i.toNat < l.length := by omega
    have hd : l.drop i.toNat = l[i.toNat] :: l.drop (i.toNat + 1) := List.drop_eq_getElem_cons hj
    have hg : l.getD i.toNat 0 = l[i.toNat] := by rw [List.getD_eq_getElem?_getD, List.getElem?_eq_getElem hj]; rfl
    have hb := hl _ (getD_mem l i.toNat hj)
    rw [hd] at g3
    have h1 := g3 _ (List.mem_cons_self ..)
    have hud : Up (l.drop i.toNat) := List.Pairwise.drop hu
    rw [hd] at hud
    rw [dT h, cnd_t, dT g1, Bool.and_self, cnd_t, dF (show ¬ l.getD i.toNat 0 ≤ m by rw [hg]; omega), cnd_f, dF (show ¬ 8 < l.getD i.toNat 0 by omega), cnd_f, wr_m (by omega) (by omega)]
    refine ⟨_, rfl, ⟨⟨by simp only; omega, by simp only; omega⟩, ?_⟩, by simp only; omega⟩
    try simp only
    rw [hg, show (i + 1).toNat = i.toNat + 1 by omega]
    exact (List.pairwise_cons.1 hud).1
  · right
    rw [dF h, cnd_f]
    exact ⟨_, rfl, rfl⟩
theorem flat_nodup {D : List (List Int)} : ∀ {cs : List Cl}, Cs D cs → (cs.flatMap fun c => c.1).Nodup
  | [], _ => by simp
  | c :: r, h => by
    have hp := List.pairwise_cons.1 h.d
    rw [List.flatMap_cons, List.nodup_append]
    refine ⟨Up_nodup (h.v c (by simp)).1.u, flat_nodup (cs := r) ⟨fun x hx => h.v x (by simp [hx]), hp.2⟩, fun x hx y hy e => ?_⟩
    obtain ⟨d, hd, hyd⟩ := List.mem_flatMap.1 hy
    exact hp.1 d hd x hx (e ▸ hyd)
theorem flat_Up {D : List (List Int)} {cs : List Cl} (h : Cs D cs) : Up (ins [] (cs.flatMap fun c => c.1)) ∧ S8 (ins [] (cs.flatMap fun c => c.1)) ∧ ∀ x, x ∈ ins [] (cs.flatMap fun c => c.1) ↔ In cs x := by
  have hm : ∀ x, x ∈ ins [] (cs.flatMap fun c => c.1) ↔ In cs x := fun x => by
    rw [ins_mem, List.mem_flatMap]
    exact ⟨fun q => Or.elim q (fun q => by cases q) (fun q => q), .inr⟩
  exact ⟨ins_up (by simpa using flat_nodup h), fun x hx => by obtain ⟨c, hc, hx⟩ := (hm x).1 hx; exact (h.v c hc).1.s x hx, hm⟩
theorem flat_len8 {D : List (List Int)} {cs : List Cl} (h : Cs D cs) : (cs.flatMap fun c => c.1).length ≤ 8 := by
  obtain ⟨h1, h2, _⟩ := flat_Up h
  have := Up_len8 _ 1 (by omega) h1 h2
  rw [ins_len, List.length_nil] at this
  omega
theorem grounded_eq (N : Nat) {D : List (List Int)} (hD : GD D) {k : Int} (hk : 1 ≤ k ∧ k ≤ 3) (hN : 1000 ≤ N) {cs : List Cl} {L : Lv} (hz : Cz D k cs) (hL : L.getD 0 [] = cs) : W_hier_grounded N (k, D, L) = some true := by
  have hC := hz.c
  have hl := Cs_len hC
  have hf8 := flat_len8 hC
  unfold W_hier_grounded V_hier_grounded
  try simp only
  rw [ground_eq, obind_s, hL]
  refine loop_post (σ := Int × Hr × List Int) (ρ := List Int ⊕ Bool) (β := Bool) (fun o => o = some true) (fun v => ∃ i : Nat, v = ((i : Int), (k, D, L), (cs.take i).flatMap fun c => c.1) ∧ i ≤ cs.length) (fun v => cs.length - v.1.toNat) (fun r => r = .inl (cs.flatMap fun c => c.1)) ⟨0, by simp, by omega⟩ (by simp; omega) ?_ ?_
  · rintro r rfl
    obtain ⟨u1, u2, u3⟩ := flat_Up hC
    have hs : W_slices_Sort_int N (cs.flatMap fun c => c.1) = some (ins [] (cs.flatMap fun c => c.1)) := by
      unfold W_slices_Sort_int
      rw [dT (show (cs.flatMap fun c => c.1).length ≤ 140737488355328 by omega), cnd_t, srt_eq]
      rfl
    have hil : (ins [] (cs.flatMap fun c => c.1)).length = (cs.flatMap fun c => c.1).length := by rw [ins_len, List.length_nil]; omega
    rw [selim_l, hs, obind_s, dT hil, cnd_t, hrises_eq N u2 u1 (by omega) hN, obind_s]
  · rintro v ⟨i, rfl, hi⟩
    try simp only
    by_cases c : (i : Int) < cs.length
    case neg => right; rw [dF c, cnd_f, List.take_of_length_le (by omega)]; exact ⟨_, rfl, rfl⟩
    left
    have hm := getD_memC (l := cs) (i := i) (by omega)
    obtain ⟨hv, hw⟩ := hC.v _ hm
    have hzz := hz.z _ hm
    have hn := fun q => hz.n q _ hm
    have hle := flat_le cs (i + 1)
    have hts := take_snocC (l := cs) (k := i) (by omega)
    have hfs : (cs.take (i + 1)).flatMap (fun c => c.1) = (cs.take i).flatMap (fun c => c.1) ++ (cs.getD i cD).1 := by rw [hts, List.flatMap_append]; simp
    rw [hfs, List.length_append] at hle
    refine ⟨(((i + 1 : Nat) : Int), (k, D, L), (cs.take (i + 1)).flatMap fun c => c.1), ?_, ⟨i + 1, rfl, by omega⟩, by simp only; omega⟩
    rw [hfs]
    obtain ⟨c', hc'⟩ : ∃ c', cs.getD i cD = c' := ⟨_, rfl⟩
    have hcD : cs.getD i (([] : List Int), (0 : Int)) = c' := hc'
    rw [hc'] at hv hw hzz hn hle ⊢
    have hvp := hv.p
    have hve := hv.e
    obtain ⟨v2, e2, w2⟩ := Mid_spec N hD hv.s (by omega) hN
    have hvv := Who_one hw w2
    have hr := hrises_eq N hv.s hv.u (by omega) hN
    rw [dT c, cnd_t, dT (show (0 : Int) ≤ (i : Int) by omega), Bool.and_self, cnd_t, Int.toNat_natCast, hcD, wr_m (z := 3 * k) (by omega) (by omega), wr_m (z := 3 * k - 1) (by omega) (by omega), wr_m (z := (i : Int) + 1) (by omega) (by omega), dF (show ¬ (c'.1.length : Int) < 1 by omega), cnd_f, dF (show ¬ 3 * k - 1 < (c'.1.length : Int) by omega), cnd_f, hr, e2, dT (show (((cs.take i).flatMap (fun c => c.1)).length + c'.1.length) * 8 ≤ 140737488355328 by omega)]
    have fin : obind (some true) (fun (b_1 : Bool) => cnd (!b_1) (some (Sum.inr (Sum.inr false))) (obind (some v2) fun (b_2 : Int) => cnd (decide (c'.2 ≠ b_2)) (some (Sum.inr (Sum.inr false))) (cnd true (some (Sum.inl ((i : Int) + 1, (k, D, L), (cs.take i).flatMap (fun c => c.1) ++ c'.1))) none))) = (some (Sum.inl (((i + 1 : Nat) : Int), (k, D, L), (cs.take i).flatMap (fun c => c.1) ++ c'.1)) : Option ((Int × Hr × List Int) ⊕ (List Int ⊕ Bool))) := by
      rw [obind_s, Bool.not_true, cnd_f, obind_s, dF (fun q : c'.2 ≠ v2 => q hvv), cnd_f, cnd_t]; rfl
    by_cases ck : (c'.1.length : Int) < k
    · rw [dT ck, cnd_t, ground_eq, obind_s, hL, dF (show ¬ (1 : Int) < cs.length by have := hn; omega), cnd_f]
      exact fin
    · rw [dF ck, cnd_f]
      exact fin
/-! What is alike. -/
theorem Equal_eq (N : Nat) (l : List Int) (hl : l.length ≤ 900) (hN : 1000 ≤ N) : W_slices_Equal_int N (l, l) = some true := by
  unfold W_slices_Equal_int V_slices_Equal_int
  try simp only
  refine (cnd_F (fun q => q rfl)).trans ?_
  refine loop_post (σ := Int) (ρ := Unit ⊕ Bool) (β := Bool) (fun o => o = some true) (fun v => ∃ i : Nat, v = i ∧ i ≤ l.length) (fun v => l.length - v.toNat) (fun r => r = .inl ()) ⟨0, rfl, by omega⟩ (by simp; omega) (fun r h => by rw [h, selim_l]) ?_
  rintro v ⟨i, rfl, hi⟩
  by_cases c : (i : Int) < l.length
  case neg => right; rw [dF c, cnd_f]; exact ⟨_, rfl, rfl⟩
  left
  refine ⟨((i + 1 : Nat) : Int), ?_, ⟨i + 1, rfl, by omega⟩, by omega⟩
  rw [dT c, cnd_t, dT (show (0 : Int) ≤ (i : Int) by omega), Bool.and_self, cnd_t, cnd_t]
  refine (cnd_F (fun q => q rfl)).trans ?_
  rw [wr_m (by omega) (by omega)]; rfl
theorem like1_eq (N : Nat) (c : Cl) (hc : c.1.length ≤ 900) (hN : 1000 ≤ N) : W_hier_likeLevel_1 N (c, c) = some true := by
  unfold W_hier_likeLevel_1 V_hier_likeLevel_1
  refine (cnd_T (show c.2 = c.2 from rfl)).trans ?_
  have e := Equal_eq N c.1 hc hN
  refine (congrArg (fun o => obind o _) e).trans ?_
  rw [obind_s]
theorem like_eq (N : Nat) (l : List Cl) (hl : l.length ≤ 900) (hm : ∀ c ∈ l, c.1.length ≤ 900) (hN : 1000 ≤ N) : W_hier_likeLevel N (l, l) = some true := by
  unfold W_hier_likeLevel V_hier_likeLevel
  have : W_slices_EqualFunc_api_Cluster__hier_likeLevel_1 N (l, l) = some true := by
    unfold W_slices_EqualFunc_api_Cluster__hier_likeLevel_1 V_slices_EqualFunc_api_Cluster__hier_likeLevel_1
    try simp only
    refine (cnd_F (fun q => q rfl)).trans ?_
    refine loop_post (σ := Int) (ρ := Unit ⊕ Bool) (β := Bool) (fun o => o = some true) (fun v => ∃ i : Nat, v = i ∧ i ≤ l.length) (fun v => l.length - v.toNat) (fun r => r = .inl ()) ⟨0, rfl, by omega⟩ (by simp; omega) (fun r h => by rw [h, selim_l]) ?_
    rintro v ⟨i, rfl, hi⟩
    by_cases c : (i : Int) < l.length
    case neg => right; rw [dF c, cnd_f]; exact ⟨_, rfl, rfl⟩
    left
    refine ⟨((i + 1 : Nat) : Int), ?_, ⟨i + 1, rfl, by omega⟩, by omega⟩
    have h1 := like1_eq N (l.getD i cD) (hm _ (getD_memC (by omega))) hN
    rw [dT c, cnd_t, dT (show (0 : Int) ≤ (i : Int) by omega), Bool.and_self, cnd_t, cnd_t, Int.toNat_natCast]
    refine (congrArg (fun o => obind o _) h1).trans ?_
    rw [obind_s, Bool.not_true, cnd_f, wr_m (by omega) (by omega)]; rfl
  rw [this, obind_s]
theorem likes_eq (N : Nat) (L : Lv) (hl : L.length ≤ 900) (hm : ∀ l ∈ L, l.length ≤ 900 ∧ ∀ c ∈ l, c.1.length ≤ 900) (hN : 1000 ≤ N) : W_slices_EqualFunc_Lapi_Cluster__hier_likeLevel N (L, L) = some true := by
  unfold W_slices_EqualFunc_Lapi_Cluster__hier_likeLevel V_slices_EqualFunc_Lapi_Cluster__hier_likeLevel
  try simp only
  refine (cnd_F (fun q => q rfl)).trans ?_
  refine loop_post (σ := Int) (ρ := Unit ⊕ Bool) (β := Bool) (fun o => o = some true) (fun v => ∃ i : Nat, v = i ∧ i ≤ L.length) (fun v => L.length - v.toNat) (fun r => r = .inl ()) ⟨0, rfl, by omega⟩ (by simp; omega) (fun r h => by rw [h, selim_l]) ?_
  rintro v ⟨i, rfl, hi⟩
  by_cases c : (i : Int) < L.length
  case neg => right; rw [dF c, cnd_f]; exact ⟨_, rfl, rfl⟩
  left
  have hmem : L.getD i [] ∈ L := by
    rw [List.getD_eq_getElem?_getD, List.getElem?_eq_getElem (show i < L.length by omega)]; exact List.getElem_mem _
  obtain ⟨h1, h2⟩ := hm _ hmem
  refine ⟨((i + 1 : Nat) : Int), ?_, ⟨i + 1, rfl, by omega⟩, by omega⟩
  rw [dT c, cnd_t, dT (show (0 : Int) ≤ (i : Int) by omega), Bool.and_self, cnd_t, cnd_t, Int.toNat_natCast, like_eq N _ h1 h2 hN, obind_s, Bool.not_true, cnd_f, wr_m (by omega) (by omega)]; rfl
/-- A hierarchy as it may be. -/
structure Hv (N : Nat) (D : List (List Int)) (k : Int) (L : Lv) : Prop where
  o : L = [] ∨ ∃ cs, Cz D k cs ∧ Rise N D k cs L
theorem Hv.b (N : Nat) {D : List (List Int)} (hD : GD D) {k : Int} (hk : 1 ≤ k ∧ k ≤ 3) (hN : 1000 ≤ N) {L : Lv} (h : Hv N D k L) : L.length ≤ 8 ∧ ∀ l ∈ L, l.length ≤ 8 ∧ (Cs D l ∧ 1 ≤ l.length) ∧ ∀ c ∈ l, c.1.length ≤ 8 := by
  rcases h.o with rfl | ⟨cs, hz, hR⟩
  · exact ⟨by simp, fun l hl => by cases hl⟩
  · have h1 := hR.le N hD hk hN
    have h2 := Cs_len hR.c
    refine ⟨by omega, fun l hl => ?_⟩
    obtain ⟨h3, h4⟩ := hR.lv l hl
    exact ⟨Cs_len h3, ⟨h3, h4⟩, fun c hc => (h3.v c hc).1.e⟩
theorem begins_eq (N : Nat) {D : List (List Int)} (hD : GD D) (h0 : Z0 D) {k : Int} (hk : 1 ≤ k ∧ k ≤ 3) (hN : 1000 ≤ N) (L : Lv) : W_hier_begins N (k, D, L) = some true := by
  unfold W_hier_begins V_hier_begins
  try simp only
  rw [rttMay_eq N hD h0 hN, obind_s, cnd_t, obind_s, dT (show 1 ≤ k by omega), cnd_t, dT (show k ≤ 3 by omega)]
theorem May_eq (N : Nat) {D : List (List Int)} (hD : GD D) (h0 : Z0 D) {k : Int} (hk : 1 ≤ k ∧ k ≤ 3) (hN : 1000 ≤ N) {L : Lv} (h : Hv N D k L) : W_hier_May N (k, D, L) = some true := by
  obtain ⟨b1, b2⟩ := h.b N hD hk hN
  unfold W_hier_May V_hier_May
  rw [begins_eq N hD h0 hk hN, obind_s, cnd_t]
  have hl := likes_eq N L (by omega) (fun l hl => by obtain ⟨h1, _, h2⟩ := b2 l hl; exact ⟨by omega, fun c hc => by have := h2 c hc; omega⟩) hN
  rcases h.o with rfl | ⟨cs, hz, hR⟩
  · rw [grounded_eq N hD hk hN (cs := []) (L := []) (Cz_nil D k) rfl, obind_s, cnd_t, ground_eq, obind_s, show List.getD ([] : Lv) 0 [] = [] from rfl, rise_nil, obind_s, hl, obind_s]
  · obtain ⟨R, e⟩ := hR.hd
    have hg : L.getD 0 [] = cs := by rw [e]; rfl
    rw [grounded_eq N hD hk hN hz hg, obind_s, cnd_t, ground_eq, obind_s, hg, rise_eq N hD hk hN hR, obind_s, hl, obind_s]
/-! Twins. -/
theorem putL_same {α : Type} (l : List α) (i : Nat) (d : α) (h : i < l.length) : putL l [l.getD i d] i = l := by
  unfold putL
  rw [List.length_singleton, List.getD_eq_getElem?_getD, List.getElem?_eq_getElem h]
  have : l.drop i = l[i] :: l.drop (i + 1) := List.drop_eq_getElem_cons h
  show l.take i ++ (l[i] :: l.drop (i + 1)) = l
  rw [← this, List.take_append_drop]
theorem twinL_eq (N : Nat) (l : List Cl) (hl : l.length ≤ 900) (hm : ∀ c ∈ l, c.1.length ≤ 900) (hN : 1000 ≤ N) : W_twin_Clusters N l = some l := by
  unfold W_twin_Clusters V_twin_Clusters
  have hc : W_slices_Clone_api_Cluster N l = some l := by
    unfold W_slices_Clone_api_Cluster V_slices_Clone_api_Cluster
    rw [dT (show l.length * 32 ≤ 140737488355328 by omega), cnd_t]
  rw [hc, obind_s]
  refine loop_post (σ := Int × List Cl) (ρ := List Cl) (β := List Cl) (fun o => o = some l) (fun v => ∃ i : Nat, v = ((i : Int), l) ∧ i ≤ l.length) (fun v => l.length - v.1.toNat) (fun r => r = l) ⟨0, rfl, by omega⟩ (by simp; omega) (fun r h => by rw [h]) ?_
  rintro v ⟨i, rfl, hi⟩
  try simp only
  by_cases c : (i : Int) < l.length
  case neg => right; rw [dF c, cnd_f]; exact ⟨_, rfl, rfl⟩
  left
  have hi8 : i < l.length := by omega
  refine ⟨(((i + 1 : Nat) : Int), l), ?_, ⟨i + 1, rfl, by omega⟩, by simp only; omega⟩
  have hcl := Clone_i N (l.getD i cD).1 (by have := hm _ (getD_memC hi8); omega)
  rw [dT c, cnd_t, dT (show (0 : Int) ≤ (i : Int) by omega), Bool.and_self, cnd_t, Int.toNat_natCast]
  refine (congrArg (fun o => obind o _) hcl).trans ?_
  rw [obind_s, cnd_t, wr_m (by omega) (by omega)]
  have := putL_same l i cD hi8
  exact congrArg (fun q => some (Sum.inl ((i : Int) + 1, q))) this
theorem twinH_eq (N : Nat) {D : List (List Int)} (hD : GD D) (k : Int) {L : Lv} (hl : L.length ≤ 900) (hm : ∀ l ∈ L, l.length ≤ 900 ∧ ∀ c ∈ l, c.1.length ≤ 900) (hN : 1000 ≤ N) : W_twin_Hier N (k, D, L) = some (k, D, L) := by
  have hD8 := hD.len
  unfold W_twin_Hier V_twin_Hier
  try simp only
  have hc : W_slices_Clone_Lint N D = some D := by
    unfold W_slices_Clone_Lint V_slices_Clone_Lint
    rw [dT (show D.length * 24 ≤ 140737488355328 by omega), cnd_t]
  have hcL : W_slices_Clone_Lapi_Cluster N L = some L := by
    unfold W_slices_Clone_Lapi_Cluster V_slices_Clone_Lapi_Cluster
    rw [dT (show L.length * 24 ≤ 140737488355328 by omega), cnd_t]
  rw [hc, obind_s]
  refine loop_post (σ := Int × Int × Lv × List (List Int) × Int × List (List Int) × Lv) (ρ := Int × Lv × List (List Int) × Int × List (List Int) × Lv) (β := Hr) (fun o => o = some (k, D, L)) (fun v => ∃ i : Nat, v = ((i : Int), k, L, D, 0, [], []) ∧ i ≤ D.length) (fun v => D.length - v.1.toNat) (fun r => r = (k, L, D, 0, [], [])) ⟨0, rfl, by omega⟩ (by simp; omega) ?_ ?_
  · rintro r rfl
    try simp only
    rw [hcL, obind_s]
    refine loop_post (σ := Int × Int × List (List Int) × Lv × Int × List (List Int) × Lv) (ρ := Int × List (List Int) × Lv × Int × List (List Int) × Lv) (β := Hr) (fun o => o = some (k, D, L)) (fun v => ∃ i : Nat, v = ((i : Int), k, D, L, 0, [], []) ∧ i ≤ L.length) (fun v => L.length - v.1.toNat) (fun r => r = (k, D, L, 0, [], [])) ⟨0, rfl, by omega⟩ (by simp; omega) (fun r h => by rw [h]) ?_
    rintro v ⟨i, rfl, hi⟩
    try simp only
    by_cases c : (i : Int) < L.length
    case neg => right; rw [dF c, cnd_f]; exact ⟨_, rfl, rfl⟩
    left
    have hmem : L.getD i [] ∈ L := by
      rw [List.getD_eq_getElem?_getD, List.getElem?_eq_getElem (show i < L.length by omega)]; exact List.getElem_mem _
    obtain ⟨h1, h2⟩ := hm _ hmem
    refine ⟨(((i + 1 : Nat) : Int), k, D, L, 0, [], []), ?_, ⟨i + 1, rfl, by omega⟩, by simp only; omega⟩
    rw [dT c, cnd_t, dT (show (0 : Int) ≤ (i : Int) by omega), Bool.and_self, cnd_t, Int.toNat_natCast, twinL_eq N _ h1 h2 hN, obind_s, cnd_t, wr_m (by omega) (by omega), putL_same L i [] (by omega)]
    rfl
  · rintro v ⟨i, rfl, hi⟩
    try simp only
    by_cases c : (i : Int) < D.length
    case neg => right; rw [dF c, cnd_f]; exact ⟨_, rfl, rfl⟩
    left
    have hr := hD.row i (by omega)
    refine ⟨(((i + 1 : Nat) : Int), k, L, D, 0, [], []), ?_, ⟨i + 1, rfl, by omega⟩, by simp only; omega⟩
    rw [dT c, cnd_t, dT (show (0 : Int) ≤ (i : Int) by omega), Bool.and_self, cnd_t, Int.toNat_natCast, Clone_i N (D.getD i []) (by omega), obind_s, cnd_t, wr_m (by omega) (by omega), putL_same D i [] (by omega)]
    rfl
/-! Who is where. -/
theorem hfind_at (N : Nat) {D : List (List Int)} {cs : List Cl} (h : Cs D cs) (hl : cs.length ≤ 100) {i : Nat} (hi : i < cs.length) {x : Int} (hx : x ∈ (cs.getD i cD).1) (hN : 1000 ≤ N) : W_hier_find N (cs, x) = some (.inl ((i : Int), cs.getD i cD)) := by
  unfold W_hier_find V_hier_find
  try simp only
  refine loop_post (σ := Int) (ρ := Unit ⊕ ((Int × Cl) ⊕ Unit)) (β := (Int × Cl) ⊕ Unit) (fun o => o = some (.inl ((i : Int), cs.getD i cD))) (fun v => ∃ j : Nat, v = j ∧ j ≤ i) (fun v => i + 1 - v.toNat) (fun r => r = .inr (.inl ((i : Int), cs.getD i cD))) ⟨0, rfl, by omega⟩ (by simp; omega) (fun r hr => by rw [hr, selim_r]) ?_
  rintro v ⟨j, rfl, hj⟩
  have hc := (h.v _ (getD_memC (l := cs) (i := j) (by omega))).1.e
  rw [dT (show (j : Int) < cs.length by omega), cnd_t, dT (show (0 : Int) ≤ (j : Int) by omega), Bool.and_self, cnd_t, Int.toNat_natCast]
  have he := Contains_eq N (cs.getD j cD).1 x (by omega) hN
  by_cases c : x ∈ (cs.getD j cD).1
  · right
    have := h.one (by omega) hi c hx
    subst this
    refine ⟨_, (congrArg (fun o => obind o _) he).trans ?_, rfl⟩
    rw [obind_s, dT c, cnd_t]
  · left
    have hji : j ≠ i := fun q => c (q ▸ hx)
    refine ⟨((j + 1 : Nat) : Int), (congrArg (fun o => obind o _) he).trans ?_, ⟨j + 1, rfl, by omega⟩, by omega⟩
    rw [obind_s, dF c, cnd_f, wr_m (by omega) (by omega)]; rfl
theorem hfind_no (N : Nat) {D : List (List Int)} {cs : List Cl} (h : Cs D cs) (hl : cs.length ≤ 100) {x : Int} (hx : ¬ In cs x) (hN : 1000 ≤ N) : W_hier_find N (cs, x) = some (.inr ()) := by
  unfold W_hier_find V_hier_find
  try simp only
  refine loop_post (σ := Int) (ρ := Unit ⊕ ((Int × Cl) ⊕ Unit)) (β := (Int × Cl) ⊕ Unit) (fun o => o = some (.inr ())) (fun v => ∃ j : Nat, v = j ∧ j ≤ cs.length) (fun v => cs.length - v.toNat) (fun r => r = .inl ()) ⟨0, rfl, by omega⟩ (by simp; omega) (fun r hr => by rw [hr, selim_l]) ?_
  rintro v ⟨j, rfl, hj⟩
  by_cases c : (j : Int) < cs.length
  case neg => right; rw [dF c, cnd_f]; exact ⟨_, rfl, rfl⟩
  left
  have hc := (h.v _ (getD_memC (l := cs) (i := j) (by omega))).1.e
  rw [dT c, cnd_t, dT (show (0 : Int) ≤ (j : Int) by omega), Bool.and_self, cnd_t, Int.toNat_natCast]
  have he := Contains_eq N (cs.getD j cD).1 x (by omega) hN
  refine ⟨((j + 1 : Nat) : Int), (congrArg (fun o => obind o _) he).trans ?_, ⟨j + 1, rfl, by omega⟩, by omega⟩
  rw [obind_s, dF (fun q => hx (In_of (by omega) q)), cnd_f, wr_m (by omega) (by omega)]; rfl
theorem down_eq (N : Nat) {D : List (List Int)} (hD : GD D) {k : Int} (hk : 1 ≤ k ∧ k ≤ 3) (hN : 1000 ≤ N) {L : Lv} (h : Hv N D k L) {id : Int} (hid : 1 ≤ id ∧ id ≤ 8) : ∃ a, W_hier_down N ((k, D, L), id) = some a ∧ 0 ≤ a ∧ a ≤ 100 ∧ (1 ≤ L.length → a < (L.getD 0 []).length) := by
  obtain ⟨b1, b2⟩ := h.b N hD hk hN
  have hat : ∀ n, n < L.length → (L.getD n []).length ≤ 8 ∧ (Cs D (L.getD n []) ∧ 1 ≤ (L.getD n []).length) := fun n hn => by
    have hmem : L.getD n [] ∈ L := by
      rw [List.getD_eq_getElem?_getD, List.getElem?_eq_getElem hn]; exact List.getElem_mem _
    obtain ⟨h1, h2, _⟩ := b2 _ hmem
    exact ⟨h1, h2⟩
  unfold W_hier_down V_hier_down
  try simp only
  rw [wr_m (z := (L.length : Int) - 1) (by omega) (by omega)]
  refine loop_post (σ := Int × Int × Hr) (ρ := Int) (β := Int) (fun o => ∃ a, o = some a ∧ 0 ≤ a ∧ a ≤ 100 ∧ (1 ≤ L.length → a < (L.getD 0 []).length)) (fun v => ∃ (a : Nat) (n : Int), v = ((a : Int), n, (k, D, L)) ∧ a ≤ 100 ∧ -1 ≤ n ∧ n < L.length ∧ (0 ≤ n → a < (L.getD n.toNat []).length) ∧ (1 ≤ L.length → 0 ≤ n)) (fun v => v.2.1.toNat) (fun r => 0 ≤ r ∧ r ≤ 100 ∧ (1 ≤ L.length → r < (L.getD 0 []).length)) ⟨0, _, rfl, by omega, by omega, by omega, fun q => by have := hat ((L.length : Int) - 1).toNat (by omega); omega, fun q => by omega⟩ (by simp only; omega) (fun r h => ⟨_, rfl, h⟩) ?_
  rintro v ⟨a, n, rfl, g1, g2, g3, g4, g5⟩
  try simp only
  by_cases c : 0 < n
  case neg =>
    right
    rw [dF c, cnd_f]
    refine ⟨_, rfl, by omega, by omega, fun q => ?_⟩
    have := g5 q
    have hn0 : n.toNat = 0 := by omega
    have := g4 this
    rw [hn0] at this; omega
  left
  have g4' := g4 (by omega)
  obtain ⟨a1, a2, a3⟩ := hat n.toNat (by omega)
  obtain ⟨d1, d2, d3⟩ := hat (n - 1).toNat (by omega)
  obtain ⟨hv, _⟩ := a2.v _ (getD_memC g4')
  have hve := hv.e
  obtain ⟨near, en, _⟩ := Near_spec N hD hid hv.s (by omega) hN
  rw [dT c, cnd_t, dT (show 0 ≤ n by omega), dT (show n < (L.length : Int) by omega), Bool.and_self, cnd_t, dT (show (0 : Int) ≤ (a : Int) by omega), dT (show (a : Int) < ((L.getD n.toNat []).length : Int) by omega), Bool.and_self, cnd_t, Int.toNat_natCast, wr_m (z := n - 1) (by omega) (by omega)]
  have en' : W_mid_Near N (D, id, ((L.getD n.toNat []).getD a (([] : List Int), (0 : Int))).1) = some near := en
  rw [en', obind_s, dT (show 0 ≤ n - 1 by omega), dT (show n - 1 < (L.length : Int) by omega), Bool.and_self, cnd_t]
  by_cases q : In (L.getD (n - 1).toNat []) near
  · obtain ⟨p, hp, hx⟩ := In_at q
    rw [hfind_at N d2 (by omega) hp hx hN, obind_s, selim_l]
    exact ⟨_, rfl, ⟨p, n - 1, rfl, by omega, by omega, by omega, fun _ => hp, fun _ => by omega⟩, by simp only; omega⟩
  · rw [hfind_no N d2 (by omega) q hN, obind_s, selim_r]
    exact ⟨_, rfl, ⟨0, n - 1, rfl, by omega, by omega, by omega, fun _ => by omega, fun _ => by omega⟩, by simp only; omega⟩
/-- Who is there at all. -/
def Gin (L : Lv) (x : Int) : Prop := In (L.getD 0 []) x
theorem Hv.g {N : Nat} {D : List (List Int)} {k : Int} {L : Lv} (h : Hv N D k L) : Cz D k (L.getD 0 []) ∧ ((L.getD 0 []).length = 0 ↔ L.length = 0) := by
  rcases h.o with rfl | ⟨cs, hz, hR⟩
  · exact ⟨Cz_nil D k, by simp⟩
  · obtain ⟨R, e⟩ := hR.hd
    have hp := hR.p
    subst e
    exact ⟨hz, fun q => by have : cs.length = 0 := q; omega, fun q => by simp at q⟩
theorem over_eq (N : Nat) {D : List (List Int)} (hD : GD D) {k : Int} (hk : 1 ≤ k ∧ k ≤ 3) (hN : 1000 ≤ N) {x : List Cl} (hz : Cz D k x) (K : Lv) : ∃ L', W_hier_rise N ((k, D, K), x) = some L' ∧ Hv N D k L' ∧ L'.getD 0 [] = x := by
  by_cases c : x.length = 0
  · have : x = [] := List.eq_nil_of_length_eq_zero c
    subst this
    exact ⟨[], rise_nil N _, ⟨.inl rfl⟩, rfl⟩
  · obtain ⟨L', hR⟩ := Rise_ex N hD hk hN _ x (Nat.le_refl _) (by omega) hz.c
    obtain ⟨R, e⟩ := hR.hd
    exact ⟨L', rise_eq N hD hk hN hR K, ⟨.inr ⟨x, hz, hR⟩⟩, by rw [e]; rfl⟩
open Classical in
noncomputable def askL (x : Int) : Lv → Int
  | [] => 0
  | cs :: r => if h : In cs x then (if (cs.getD (Classical.choose (In_at h)) cD).2 = x then askL x r else (cs.getD (Classical.choose (In_at h)) cD).2) else 0
theorem askL_at {D : List (List Int)} {cs : List Cl} (hC : Cs D cs) {x : Int} {p : Nat} (hp : p < cs.length) (hx : x ∈ (cs.getD p cD).1) (r : Lv) : askL x (cs :: r) = if (cs.getD p cD).2 = x then askL x r else (cs.getD p cD).2 := by
  have h : In cs x := In_of hp hx
  rw [askL, dif_pos h]
  have hs := Classical.choose_spec (In_at h)
  have e := hC.one hs.1 hp hs.2 hx
  rw [e]
theorem getD_eqc {D : List (List Int)} {cs : List Cl} (h : Cs D cs) {c c' : Cl} (hc : c ∈ cs) (hc' : c' ∈ cs) {x : Int} (h1 : x ∈ c.1) (h2 : x ∈ c'.1) : c = c' := by
  obtain ⟨i, hi, e⟩ := mem_getDC hc
  obtain ⟨j, hj, e'⟩ := mem_getDC hc'
  have := h.one hi hj (x := x) (by rw [e]; exact h1) (by rw [e']; exact h2)
  rw [← e, ← e', this]
theorem Rise_top (N : Nat) {D : List (List Int)} {k : Int} {cs : List Cl} {L : Lv} (h : Rise N D k cs L) : ∃ t, In cs t ∧ ∀ x, In cs x → (askL x L = 0 ↔ x = t) := by
  induction h with
  | @one cs hC h1 =>
    have h0 : 0 < cs.length := by omega
    have hm := getD_memC h0
    have hl := lead_in hC hm
    have hb := (hC.v _ hm).1.s _ hl
    refine ⟨(cs.getD 0 cD).2, In_of h0 hl, fun x ⟨c, hc, hx⟩ => ?_⟩
    obtain ⟨i, hi, e⟩ := mem_getDC hc
    have : i = 0 := by omega
    subst this
    rw [← e] at hx
    rw [askL_at hC hi hx]
    by_cases q : (cs.getD 0 cD).2 = x
    · rw [if_pos q]; exact ⟨fun _ => q.symm, fun _ => rfl⟩
    · rw [if_neg q]; exact ⟨fun w => by omega, fun w => absurd w.symm q⟩
  | @more cs g L' hC h2 hg hG hR ih =>
    obtain ⟨t, ht, hu⟩ := ih
    have hgi : ∀ x, In g x ↔ x ∈ lead cs := fun x => by
      rw [← hG.mem, List.mem_flatMap]; rfl
    obtain ⟨c', hc', e'⟩ := lead_mem.1 ((hgi t).1 ht)
    have ht' : t ∈ c'.1 := e' ▸ lead_in hC hc'
    refine ⟨t, ⟨c', hc', ht'⟩, fun x ⟨c, hc, hx⟩ => ?_⟩
    obtain ⟨i, hi, e⟩ := mem_getDC hc
    rw [← e] at hx
    rw [askL_at hC hi hx]
    have hm := getD_memC hi
    have hb := (hC.v _ hm).1.s _ (lead_in hC hm)
    by_cases q : (cs.getD i cD).2 = x
    · rw [if_pos q]
      exact hu x ((hgi x).2 (lead_mem.2 ⟨_, hm, q⟩))
    · rw [if_neg q]
      refine ⟨fun w => by omega, fun w => ?_⟩
      subst w
      have := getD_eqc hC hm hc' hx ht'
      rw [this] at q
      exact absurd e' q
/-- On how many levels one leads. -/
theorem Hv.top {N : Nat} {D : List (List Int)} {k : Int} {L : Lv} (h : Hv N D k L) (hn : L ≠ []) : ∃ t, Gin L t ∧ ∀ x, Gin L x → (askL x L = 0 ↔ x = t) := by
  rcases h.o with e | ⟨cs, _, hR⟩
  · exact absurd e hn
  · obtain ⟨t, h1, h2⟩ := Rise_top N hR
    obtain ⟨R, e⟩ := hR.hd
    have hg : L.getD 0 [] = cs := by rw [e]; rfl
    unfold Gin
    rw [hg]
    exact ⟨t, h1, h2⟩
theorem Hv.rng {N : Nat} {D : List (List Int)} {k : Int} {L : Lv} (h : Hv N D k L) {x : Int} (hx : Gin L x) : 1 ≤ x ∧ x ≤ 8 := by
  obtain ⟨c, hc, hxc⟩ := hx
  exact (h.g.1.c.v c hc).1.s x hxc
/-- One alone. -/
theorem alone_cs {D : List (List Int)} {cs : List Cl} (h : Cs D cs) {u : Int} (hu : ∀ y, In cs y ↔ y = u) : cs = [([u], u)] := by
  obtain ⟨c, hc, hx⟩ := (hu u).2 rfl
  have hall : ∀ c' ∈ cs, c' = ([u], u) := fun c' hc' => by
    obtain ⟨hv, hw⟩ := h.v c' hc'
    have hm : ∀ y ∈ c'.1, y = u := fun y hy => (hu y).1 ⟨c', hc', hy⟩
    have hl : c'.1.length = 1 := by
      have hp := hv.p
      match hc1 : c'.1, hp with
      | [a], _ => rfl
      | a :: b :: r, _ =>
        have hup := hv.u
        rw [hc1] at hup
        have h1 := (List.pairwise_cons.1 hup).1 b (by simp)
        have h2 := hm a (by rw [hc1]; simp)
        have h3 := hm b (by rw [hc1]; simp)
        omega
    have h1 : c'.1 = [u] := by
      match hc1 : c'.1, hl with
      | [a], _ => rw [hm a (by rw [hc1]; simp)]
    have h2 : c'.2 = u := hm _ (lead_in h hc')
    exact Prod.ext h1 h2
  match hcs : cs, hc with
  | [a], _ => rw [hall a (by simp)]
  | a :: b :: r, _ =>
    exfalso
    have hd := (List.pairwise_cons.1 h.d).1 b (by simp)
    have h1 := hall a (by simp)
    have h2 := hall b (by simp)
    rw [h1, h2] at hd
    exact hd u (by simp) (by simp)
theorem Hv.alone {N : Nat} {D : List (List Int)} {k : Int} {L : Lv} (h : Hv N D k L) {u : Int} (hu : ∀ y, Gin L y ↔ y = u) : L = [[([u], u)]] := by
  rcases h.o with e | ⟨cs, hz, hR⟩
  · rw [e] at hu; obtain ⟨c, hc, _⟩ := (hu u).2 rfl; cases hc
  · obtain ⟨R, e⟩ := hR.hd
    have hg : L.getD 0 [] = cs := by rw [e]; rfl
    have hc := alone_cs hz.c (u := u) (fun y => by have := hu y; unfold Gin at this; rw [hg] at this; exact this)
    subst hc
    cases hR with
    | one _ _ => rfl
    | more _ h2 _ _ _ => simp at h2
theorem SameD_eq (N : Nat) {D : List (List Int)} (hD : GD D) (hN : 1000 ≤ N) : W_ref1_SameDist N (D, D) = some true := by
  have hl := hD.len
  unfold W_ref1_SameDist V_ref1_SameDist
  try simp only
  refine (cnd_F (fun q => q rfl)).trans ?_
  refine loop_post (σ := Int) (ρ := Unit ⊕ Bool) (β := Bool) (fun o => o = some true) (fun v => ∃ i : Nat, v = i ∧ i ≤ 8) (fun v => 8 - v.toNat) (fun r => r = .inl ()) ⟨0, rfl, by omega⟩ (by simp; omega) (fun r h => by rw [h, selim_l]) ?_
  rintro v ⟨i, rfl, hi⟩
  by_cases c : (i : Int) < D.length
  case neg => right; rw [dF c, cnd_f]; exact ⟨_, rfl, rfl⟩
  left
  have hr := hD.row i (by omega)
  refine ⟨((i + 1 : Nat) : Int), ?_, ⟨i + 1, rfl, by omega⟩, by omega⟩
  rw [dT c, cnd_t, dT (show (0 : Int) ≤ (i : Int) by omega), Bool.and_self, cnd_t, cnd_t, Int.toNat_natCast, SameInts_eq N (D.getD i []) (by omega) hN, obind_s, Bool.not_true, cnd_f, wr_m (by omega) (by omega)]
  rfl
theorem rMay_eq (N : Nat) {D : List (List Int)} (hD : GD D) (h0 : Z0 D) (hN : 1000 ≤ N) : W_ref1_MayDist N D = some true := by
  have hl := hD.len
  unfold W_ref1_MayDist V_ref1_MayDist
  try simp only
  rw [dF (show ¬ (D.length : Int) ≠ 8 by omega), cnd_f]
  refine loop_post (σ := Int) (ρ := Unit ⊕ Bool) (β := Bool) (fun o => o = some true) (fun v => ∃ i : Nat, v = i ∧ i ≤ 8) (fun v => 8 - v.toNat) (fun r => r = .inl ()) ⟨0, rfl, by omega⟩ (by simp; omega) ?_ ?_
  rotate_left
  · rintro v ⟨i, rfl, hi⟩
    by_cases c : (i : Int) < D.length
    case neg => right; rw [dF c, cnd_f]; exact ⟨_, rfl, rfl⟩
    left
    have hr := hD.row i (by omega)
    refine ⟨((i + 1 : Nat) : Int), ?_, ⟨i + 1, rfl, by omega⟩, by omega⟩
    rw [dT c, cnd_t, dT (show (0 : Int) ≤ (i : Int) by omega), Bool.and_self, cnd_t, Int.toNat_natCast, dF (show ¬ ((D.getD i []).length : Int) ≠ 8 by omega), cnd_f, wr_m (by omega) (by omega)]
    rfl
  rintro r rfl
  rw [selim_l]
  refine loop_post (σ := Int) (ρ := Unit ⊕ Bool) (β := Bool) (fun o => o = some true) (fun v => ∃ i : Nat, v = i ∧ i ≤ 8) (fun v => 8 - v.toNat) (fun r => r = .inl ()) ⟨0, rfl, by omega⟩ (by simp; omega) (fun r h => by rw [h, selim_l]) ?_
  rintro v ⟨i, rfl, hi⟩
  by_cases c : (i : Int) < D.length
  case neg => right; rw [dF c, cnd_f]; exact ⟨_, rfl, rfl⟩
  left
  have hr := hD.row i (by omega)
  rw [dT c, cnd_t]
  refine loop_post (σ := Int) (ρ := Unit ⊕ Bool) (β := Int ⊕ (Unit ⊕ Bool)) (fun o => ∃ y : Int, o = some (.inl y) ∧ (∃ i : Nat, y = i ∧ i ≤ 8) ∧ 8 - y.toNat < 8 - i) (fun v => ∃ j : Nat, v = j ∧ j ≤ 8) (fun v => 8 - v.toNat) (fun r => r = .inl ()) ⟨0, rfl, by omega⟩ (by simp; omega) (fun r h => ?_) ?_
  · rw [h, selim_l, wr_m (by omega) (by omega)]
    exact ⟨_, rfl, ⟨i + 1, by omega, by omega⟩, by omega⟩
  rintro v ⟨j, rfl, hj⟩
  by_cases c2 : (j : Int) < D.length
  case neg => right; rw [dF c2, cnd_f]; exact ⟨_, rfl, rfl⟩
  left
  have hr2 := hD.row j (by omega)
  have g1 := hD.rng i j (by omega) (by omega)
  have g2 := hD.sym i j (by omega) (by omega)
  have g3 := h0 i (by omega)
  refine ⟨((j + 1 : Nat) : Int), ?_, ⟨j + 1, rfl, by omega⟩, by omega⟩
  unfold gd at g1 g2 g3
  simp only [Int.toNat_natCast, hr, hr2, dT c, dT c2, dT (show (0 : Int) ≤ (i : Int) by omega), dT (show (0 : Int) ≤ (j : Int) by omega), dT (show (i : Int) < ((8 : Nat) : Int) by omega), dT (show (j : Int) < ((8 : Nat) : Int) by omega), Bool.and_self, cnd_t]
  rw [dF (show ¬ (D.getD i []).getD j 0 < 0 by omega), cnd_f, dF (show ¬ 1000 < (D.getD i []).getD j 0 by omega), cnd_f, wr_m (by omega) (by omega)]
  refine (cnd_F (fun q => q g2)).trans ?_
  by_cases e : i = j
  · subst e
    refine (cnd_T rfl).trans ((cnd_F (fun q => q g3)).trans ?_); rfl
  · refine (cnd_F (by omega)).trans ?_; rfl
theorem rleaders_eq (N : Nat) {D : List (List Int)} {cs : List Cl} (h : Cs D cs) (h1 : 1 ≤ cs.length) (hN : 1000 ≤ N) : W_ref7_leaders N cs = some (lead cs) := by
  have hl := Cs_len h
  have hV := lead_Vd h h1
  unfold W_ref7_leaders V_ref7_leaders
  try simp only
  refine loop_post (σ := Int × List Int) (ρ := List Int) (β := List Int) (fun o => o = some (lead cs)) (fun v => ∃ i : Nat, v = ((i : Int), (cs.take i).map fun c => c.2) ∧ i ≤ cs.length) (fun v => cs.length - v.1.toNat) (fun r => r = cs.map fun c => c.2) ⟨0, by simp, by omega⟩ (by simp; omega) ?_ ?_
  · rintro r rfl
    rw [Rising_is N (m := lead cs) (by rw [List.length_map]; omega) hN hV.u hV.s (fun x => by rw [lead_mem, List.mem_map]), obind_s]
  · rintro v ⟨i, rfl, hi⟩
    try simp only
    by_cases c : (i : Int) < cs.length
    case neg => right; rw [dF c, cnd_f, List.take_of_length_le (by omega)]; exact ⟨_, rfl, rfl⟩
    left
    refine ⟨(((i + 1 : Nat) : Int), (cs.take (i + 1)).map fun c => c.2), ?_, ⟨i + 1, rfl, by omega⟩, by simp only; omega⟩
    rw [dT c, cnd_t, dT (show (0 : Int) ≤ (i : Int) by omega), Bool.and_self, cnd_t, Int.toNat_natCast, cnd_T (by rw [List.length_map, List.length_take]; omega), wr_m (by omega) (by omega), take_snocC (by omega), List.map_append]
    rfl
theorem Rise.down {N : Nat} {D : List (List Int)} {k : Int} {cs : List Cl} {L : Lv} (h : Rise N D k cs L) : ∀ n, n + 1 < L.length → ∀ c ∈ L.getD (n + 1) [], ∀ x ∈ c.1, In (L.getD n []) x := by
  induction h with
  | one hC h1 => intro n hn; simp at hn
  | @more cs g L' hC h2 hg hG hR ih =>
    intro n hn c hc x hx
    cases n with
    | zero =>
      obtain ⟨R, e⟩ := hR.hd
      have hc' : c ∈ g := by
        have : (cs :: L').getD 1 [] = g := by rw [e]; rfl
        rw [← this]; exact hc
      have hm : x ∈ lead cs := (hG.mem x).1 (List.mem_flatMap.2 ⟨c, hc', hx⟩)
      obtain ⟨c', h1, h3⟩ := lead_mem.1 hm
      exact ⟨c', h1, h3 ▸ lead_in hC h1⟩
    | succ m => exact ih m (by simp only [List.length_cons] at hn; omega) c hc x hx
theorem Rise.low {N : Nat} {D : List (List Int)} {k : Int} {cs : List Cl} {L : Lv} (h : Rise N D k cs L) {x : Int} : ∀ n, n < L.length → In (L.getD n []) x → In (L.getD 0 []) x
  | 0, _, q => q
  | n + 1, hn, ⟨c, hc, hx⟩ => h.low n (by omega) (h.down n hn c hc x hx)
theorem rNew_eq (N : Nat) {D : List (List Int)} (hD : GD D) (h0 : Z0 D) {k : Int} (hN : 1000 ≤ N) : W_ref7_New N (D, k) = some (if 1 ≤ k ∧ k ≤ 3 then (true, k, D, []) else (false, 0, [], [])) := by
  have hl := hD.len
  unfold W_ref7_New V_ref7_New
  try simp only
  rw [rMay_eq N hD h0 hN, obind_s, Bool.not_true, cnd_f, obind_s]
  try simp only
  by_cases c1 : k < 1
  · rw [dT c1, cnd_t, if_neg (by omega)]
  rw [dF c1, cnd_f]
  by_cases c2 : 3 < k
  · rw [dT c2, cnd_t, if_neg (by omega)]
  rw [dF c2, cnd_f, if_pos (by omega)]
  refine loop_post (σ := Int × Hr × Int × Lv × List (List Int)) (ρ := Hr × Int × Lv × List (List Int)) (β := Bool × Hr) (fun o => o = some (true, k, D, [])) (fun v => ∃ i : Nat, v = ((i : Int), (0, [], []), k, [], D.take i) ∧ i ≤ D.length) (fun v => D.length - v.1.toNat) (fun r => r = ((0, [], []), k, [], D)) ⟨0, by simp, by omega⟩ (by simp; omega) (fun r h => by rw [h]) ?_
  rintro v ⟨i, rfl, hi⟩
  try simp only
  by_cases c : (i : Int) < D.length
  case neg => right; rw [dF c, cnd_f, List.take_of_length_le (by omega)]; exact ⟨_, rfl, rfl⟩
  left
  have hr := hD.row i (by omega)
  refine ⟨(((i + 1 : Nat) : Int), (0, [], []), k, [], D.take (i + 1)), ?_, ⟨i + 1, rfl, by omega⟩, by simp only; omega⟩
  rw [dT c, cnd_t, dT (show (0 : Int) ≤ (i : Int) by omega), Bool.and_self, cnd_t, Int.toNat_natCast, cnd_T (by omega), cnd_T (by rw [List.length_take]; omega), wr_m (by omega) (by omega), List.take_add_one, List.getD_eq_getElem?_getD, List.getElem?_eq_getElem (show i < D.length by omega)]
  rfl
theorem above_eq (N : Nat) {D : List (List Int)} (hD : GD D) {k : Int} (hk : 1 ≤ k ∧ k ≤ 3) (hN : 1000 ≤ N) {cs : List Cl} {L : Lv} (h : Rise N D k cs L) (K : Lv) : W_ref7_above N ((k, D, K), cs) = some (k, D, L) := by
  have hL := h.le N hD hk hN
  have hcl := Cs_len h.c
  unfold W_ref7_above V_ref7_above
  try simp only
  refine loop_post (σ := List Cl × Hr × Hr × Int × List (List Int) × Lv) (ρ := Hr × Int × List (List Int) × Lv) (β := Hr) (fun o => o = some (k, D, L)) (fun v => ∃ (top : List Cl) (pre R : Lv), v = (top, (k, D, K), (0, [], []), k, D, pre) ∧ Rise N D k top R ∧ L = pre ++ R) (fun v => L.length + 1 - v.2.2.2.2.2.length) (fun r => r = ((0, [], []), k, D, L)) ⟨cs, [], L, rfl, h, rfl⟩ (by simp; omega) (fun r h => by rw [h]) ?_
  rintro v ⟨top, pre, R, rfl, hR, e⟩
  try simp only
  have hp := hR.p
  have hc := hR.c
  have ht := Cs_len hc
  obtain ⟨R0, eR0⟩ := hR.hd
  have hlen : pre.length + 1 ≤ L.length := by rw [e, eR0]; simp
  rw [dT (show (0 : Int) < top.length by omega), cnd_t, cnd_T (by rw [List.length_singleton]; omega)]
  cases hR with
  | one hC h1 =>
    right
    rw [dT (show (top.length : Int) = 1 by omega), cnd_t]
    exact ⟨_, rfl, by rw [e]⟩
  | more hC h2 hg hG hR =>
    rename_i g L'
    left
    rw [dF (show ¬ (top.length : Int) = 1 by omega), cnd_f, rleaders_eq N hC (by omega) hN, obind_s, Group7_eq N hD hk hN (lead_Vd hC (by omega)) hg, obind_s]
    refine ⟨_, rfl, ⟨g, pre ++ [top], L', rfl, hR, by rw [e, List.append_assoc]; rfl⟩, ?_⟩
    simp only [List.length_append, List.length_singleton]
    omega
theorem Home_In (N : Nat) {D : List (List Int)} {cs : List Cl} (h : Cs D cs) (x : Int) (hN : 1000 ≤ N) : ∃ a, W_ref7_Home N (cs, x) = some a ∧ ((In cs x ∧ 0 ≤ a) ∨ (¬ In cs x ∧ a = -1)) := by
  have hl := Cs_len h
  by_cases q : In cs x
  · obtain ⟨p, hp, hx⟩ := In_at q
    exact ⟨p, Home_at N h (by omega) hp hx hN, .inl ⟨q, by omega⟩⟩
  · exact ⟨-1, Home_no N h (by omega) (fun j hj hx => q (In_of hj hx)) hN, .inr ⟨q, rfl⟩⟩
/-- Down from the top: the program's way and the reference's are one. -/
theorem down2 (N : Nat) {D : List (List Int)} (hD : GD D) {k : Int} (hk : 1 ≤ k ∧ k ≤ 3) (hN : 1000 ≤ N) {L : Lv} (h : Hv N D k L) {id : Int} (hid : 1 ≤ id ∧ id ≤ 8) (hno : ¬ Gin L id) (z : Hr) : ∃ a, W_hier_down N ((k, D, L), id) = some a ∧ 0 ≤ a ∧ a ≤ 100 ∧ (1 ≤ L.length → a < (L.getD 0 []).length) ∧
    loopN N (fun (v : Int × Int × Hr × Hr) => cnd (decide ((0 : Int) < v.2.1)) (cnd (decide ((0 : Int) ≤ v.2.1) && decide (v.2.1 < (↑(List.length v.2.2.1.2.2) : Int))) (cnd (decide ((0 : Int) ≤ v.1) && decide (v.1 < (↑(List.length (List.getD v.2.2.1.2.2 (Int.toNat v.2.1) [])) : Int))) (obind (W_ref7_Near N (v.2.2.1.2.1, id, Prod.fst (List.getD (List.getD v.2.2.1.2.2 (Int.toNat v.2.1) []) (Int.toNat v.1) ([], (0 : Int))))) fun b => cnd (decide ((0 : Int) ≤ wr .i64 (v.2.1 - (1 : Int))) && decide (wr .i64 (v.2.1 - (1 : Int)) < (↑(List.length v.2.2.1.2.2) : Int))) (obind (W_ref7_Home N (List.getD v.2.2.1.2.2 (Int.toNat (wr .i64 (v.2.1 - (1 : Int)))) [], b)) fun b => some (Sum.inl (b, wr .i64 (v.2.1 - (1 : Int)), v.2.2))) none) none) none) (some (Sum.inr (v.1, v.2.2)))) ((0 : Int), (L.length : Int) - 1, (k, D, L), z) = some (a, (k, D, L), z) := by
  obtain ⟨b1, b2⟩ := h.b N hD hk hN
  obtain ⟨a, ea, ha0, ha1, ha2⟩ := down_eq N hD hk hN h hid
  refine ⟨a, ea, ha0, ha1, ha2, ?_⟩
  rcases h.o with rfl | ⟨cs, hz, hR⟩
  · unfold W_hier_down V_hier_down at ea
    obtain ⟨M, rfl⟩ : ∃ M, N = M + 1 := ⟨N - 1, by omega⟩
    have e0 : a = 0 := by
      have : some (0 : Int) = some a := by rw [← ea]; rfl
      injection this with this; exact this.symm
    subst e0
    rfl
  have hat : ∀ n, n < L.length → (L.getD n []).length ≤ 8 ∧ (Cs D (L.getD n []) ∧ 1 ≤ (L.getD n []).length) := fun n hn => by
    have hmem : L.getD n [] ∈ L := by
      rw [List.getD_eq_getElem?_getD, List.getElem?_eq_getElem hn]; exact List.getElem_mem _
    obtain ⟨h1, h2, _⟩ := b2 _ hmem
    exact ⟨h1, h2⟩
  unfold W_hier_down V_hier_down at ea
  simp only at ea
  rw [wr_m (z := (L.length : Int) - 1) (by omega) (by omega)] at ea
  have hlp : 1 ≤ L.length := by obtain ⟨R, e⟩ := hR.hd; rw [e]; simp
  generalize hF : (fun (v : Int × Int × Hr) => _) = F at ea
  cases hq : loopN N F ((0 : Int), (L.length : Int) - 1, (k, D, L)) with
  | none => rw [hq] at ea; cases ea
  | some r =>
    rw [hq, obind_s] at ea
    have hr : r = a := by injection ea
    subst hr
    have key : ∀ G : (Int × Int × Hr × Hr) → Option ((Int × Int × Hr × Hr) ⊕ (Int × Hr × Hr)), (∀ (x : Int × Int × Hr) (y : Int × Int × Hr × Hr), (∃ (a : Nat) (n : Int), x = ((a : Int), n, (k, D, L)) ∧ y = ((a : Int), n, (k, D, L), z) ∧ 0 ≤ n ∧ n < L.length ∧ a < (L.getD n.toNat []).length) →
        (∃ x' y', F x = some (.inl x') ∧ G y = some (.inl y') ∧ ∃ (a : Nat) (n : Int), x' = ((a : Int), n, (k, D, L)) ∧ y' = ((a : Int), n, (k, D, L), z) ∧ 0 ≤ n ∧ n < L.length ∧ a < (L.getD n.toNat []).length) ∨ ∃ r r', F x = some (.inr r) ∧ G y = some (.inr r') ∧ r' = (r, (k, D, L), z)) → loopN N G ((0 : Int), (L.length : Int) - 1, (k, D, L), z) = some (r, (k, D, L), z) := fun G hs => by
      obtain ⟨r', e1, e2⟩ := loop_sim (f := F) (g := G) _ (fun r (r' : Int × Hr × Hr) => r' = (r, (k, D, L), z)) hs N _ ((0 : Int), (L.length : Int) - 1, (k, D, L), z) r ⟨0, (L.length : Int) - 1, rfl, rfl, by omega, by omega, by have := hat ((L.length : Int) - 1).toNat (by omega); omega⟩ hq
      rw [← e2]; exact e1
    refine key _ ?_
    · rintro x y ⟨a, n, rfl, rfl, g2, g3, g4⟩
      subst hF
      try simp only
      by_cases c : 0 < n
      case neg =>
        right
        rw [dF c, cnd_f, cnd_f]
        exact ⟨_, _, rfl, rfl, rfl⟩
      left
      obtain ⟨a1, a2, a3⟩ := hat n.toNat (by omega)
      obtain ⟨d1, d2, d3⟩ := hat (n - 1).toNat (by omega)
      have hmC := getD_memC g4
      obtain ⟨hv, _⟩ := a2.v _ hmC
      have hve := hv.e
      obtain ⟨near, en, wn⟩ := Near_spec N hD hid hv.s (by omega) hN
      obtain ⟨near', en2, wn2⟩ := Near7_spec N hD hid hv.s (by omega) hN
      have := Who_one wn wn2
      subst this
      have hdn := hR.down (n - 1).toNat (by omega)
      rw [show (n - 1).toNat + 1 = n.toNat by omega] at hdn
      have hni : ∀ x ∈ ((L.getD n.toNat []).getD a cD).1, x ≠ id := fun x hx e => hno (hR.low n.toNat (by omega) ⟨_, hmC, e ▸ hx⟩)
      have hmem : near ∈ ((L.getD n.toNat []).getD a cD).1 := by
        have hp := hv.p
        have hff : ((L.getD n.toNat []).getD a cD).1.filter (fun x => decide (x ≠ id)) = ((L.getD n.toNat []).getD a cD).1 := List.filter_eq_self.2 fun x hx => by rw [decide_eq_true_eq]; exact hni x hx
        rw [hff] at wn
        exact Who_in wn hp
      obtain ⟨p, hp, hx⟩ := In_at (hdn _ hmC near hmem)
      have en' : W_mid_Near N (D, id, ((L.getD n.toNat []).getD a (([] : List Int), (0 : Int))).1) = some near := en
      have en2' : W_ref7_Near N (D, id, ((L.getD n.toNat []).getD a (([] : List Int), (0 : Int))).1) = some near := en2
      refine ⟨((p : Int), n - 1, (k, D, L)), ((p : Int), n - 1, (k, D, L), z), ?_, ?_, p, n - 1, rfl, rfl, by omega, by omega, hp⟩
      · rw [dT c, cnd_t, dT (show 0 ≤ n by omega), dT (show n < (L.length : Int) by omega), Bool.and_self, cnd_t, dT (show (0 : Int) ≤ (a : Int) by omega), dT (show (a : Int) < ((L.getD n.toNat []).length : Int) by omega), Bool.and_self, cnd_t, Int.toNat_natCast, wr_m (z := n - 1) (by omega) (by omega), en', obind_s, dT (show 0 ≤ n - 1 by omega), dT (show n - 1 < (L.length : Int) by omega), Bool.and_self, cnd_t, hfind_at N d2 (by omega) hp hx hN, obind_s, selim_l]
      · rw [dT c, cnd_t, dT (show 0 ≤ n by omega), dT (show n < (L.length : Int) by omega), Bool.and_self, cnd_t, dT (show (0 : Int) ≤ (a : Int) by omega), dT (show (a : Int) < ((L.getD n.toNat []).length : Int) by omega), Bool.and_self, cnd_t, Int.toNat_natCast, wr_m (z := n - 1) (by omega) (by omega), en2', obind_s, dT (show 0 ≤ n - 1 by omega), dT (show n - 1 < (L.length : Int) by omega), Bool.and_self, cnd_t, Home_at N d2 (by omega) hp hx hN, obind_s]
theorem RJoin (N : Nat) {D : List (List Int)} (hD : GD D) (h0 : Z0 D) {k : Int} (hk : 1 ≤ k ∧ k ≤ 3) (hN : 1000 ≤ N) {L : Lv} (h : Hv N D k L) (id : Int) : ∃ L', W_hier_Join N ((k, D, L), id) = some (k, D, L') ∧ W_ref7_Join N ((k, D, L), id) = some (k, D, L') ∧ Hv N D k L' := by
  obtain ⟨b1, b2⟩ := h.b N hD hk hN
  obtain ⟨hz, hzl⟩ := h.g
  have htw := twinH_eq N hD k (L := L) (by omega) (fun l hl => by obtain ⟨h1, _, h2⟩ := b2 l hl; exact ⟨by omega, fun c hc => by have := h2 c hc; omega⟩) hN
  by_cases hid : 1 ≤ id ∧ id ≤ 8
  case neg =>
    refine ⟨L, ?_, ?_, h⟩
    · unfold W_hier_Join V_hier_Join
      try simp only
      rw [htw, obind_s, May_eq N hD h0 hk hN h, obind_s, cnd_t, obind_s]
      try simp only
      by_cases q : 1 ≤ id
      · rw [dT q, cnd_t, dF (show ¬ id ≤ 8 by omega), cnd_f]
      · rw [dF q, cnd_f]
    · unfold W_ref7_Join V_ref7_Join
      try simp only
      rw [rMay_eq N hD h0 hN, obind_s, Bool.not_true, cnd_f, obind_s]
      try simp only
      by_cases q : id < 1
      · rw [dT q, cnd_t, obind_s]
        try simp only
        rw [cnd_t]
      · rw [dF q, cnd_f, obind_s, dT (show 8 < id by omega)]
        try simp only
        rw [cnd_t]
  have prog : ∀ (a : Int) (x : List Cl) (L' : Lv), W_hier_down N ((k, D, L), id) = some a → W_clus_Join N (D, L.getD 0 [], a, id, k) = some x → W_hier_rise N ((k, D, L), x) = some L' → W_hier_Join N ((k, D, L), id) = some (k, D, L') := fun a x L' ea ex er => by
    unfold W_hier_Join V_hier_Join
    try simp only
    rw [htw, obind_s, May_eq N hD h0 hk hN h, obind_s, cnd_t, obind_s, dT (show 1 ≤ id by omega), cnd_t, dT (show id ≤ 8 by omega), cnd_t, ground_eq, obind_s, ea, obind_s, ex, obind_s, er, obind_s]
  by_cases hin : Gin L id
  · obtain ⟨a, ea, ha0, ha1, ha2⟩ := down_eq N hD hk hN h hid
    obtain ⟨x, ex, hx, hxi, hsame⟩ := Join_z N hD hz (a := a) (by omega) hid hk hN
    have hx0 := hsame hin
    subst hx0
    rcases h.o with rfl | ⟨cs, hz', hR⟩
    · obtain ⟨c, hc, _⟩ := hin; cases hc
    obtain ⟨R, e⟩ := hR.hd
    have hg : L.getD 0 [] = cs := by rw [e]; rfl
    have hlp : 1 ≤ L.length := by rw [e]; simp
    refine ⟨L, prog a _ L ea ex (by rw [hg]; exact rise_eq N hD hk hN hR L), ?_, h⟩
    obtain ⟨p, hp, hpp⟩ := Home_In N hz.c id hN
    have hp0 : 0 ≤ p := by
      rcases hpp with q | q
      · exact q.2
      · exact absurd hin q.1
    unfold W_ref7_Join V_ref7_Join
    try simp only
    rw [rMay_eq N hD h0 hN, obind_s, Bool.not_true, cnd_f, obind_s, dF (show ¬ id < 1 by omega)]
    try simp only
    rw [cnd_f, obind_s, dF (show ¬ 8 < id by omega)]
    try simp only
    rw [cnd_f, dT (show (0 : Int) < L.length by omega), cnd_t, dT (Int.le_refl (0 : Int)), Bool.and_self, cnd_t, hp, obind_s, dT hp0, cnd_t]
  · obtain ⟨a, ea, ha0, ha1, ha2, el⟩ := down2 N hD hk hN h hid hin (0, [], [])
    obtain ⟨x, ex, hx, hxi, _⟩ := Join_z N hD hz (a := a) (by omega) hid hk hN
    obtain ⟨x', ex', er', _⟩ := Join_eq N hD hz.c (a := a) (by omega) hid hk hN
    have : x' = x := by rw [ex] at ex'; injection ex' with e; exact e.symm
    subst this
    have hlz : (L.getD 0 []).length = 0 → L = [] := fun q => List.eq_nil_of_length_eq_zero (hzl.1 q)
    have hxin : In x' id := (hxi id).2 (.inr ⟨rfl, by
      by_cases c : (L.getD 0 []).length = 0
      · exact .inl c
      · exact .inr ⟨ha0, ha2 (by have := fun q => c (hzl.2 q); omega)⟩⟩)
    have hxp : 1 ≤ x'.length := by
      obtain ⟨c, hc, _⟩ := hxin
      exact List.length_pos_of_mem hc
    obtain ⟨L', hR⟩ := Rise_ex N hD hk hN _ x' (Nat.le_refl _) hxp hx.c
    refine ⟨L', prog a x' L' ea ex (rise_eq N hD hk hN hR L), ?_, ⟨.inr ⟨x', hx, hR⟩⟩⟩
    have ab := above_eq N hD hk hN hR L
    obtain ⟨p, hp, hpp⟩ := Home_In N hz.c id hN
    have hp0 : p = -1 := by
      rcases hpp with q | q
      · exact absurd q.1 hin
      · exact q.2
    unfold W_ref7_Join V_ref7_Join
    try simp only
    rw [rMay_eq N hD h0 hN, obind_s, Bool.not_true, cnd_f, obind_s, dF (show ¬ id < 1 by omega)]
    try simp only
    rw [cnd_f, obind_s, dF (show ¬ 8 < id by omega)]
    try simp only
    rw [cnd_f]
    by_cases c : (0 : Int) < L.length
    · rw [dT c, cnd_t, dT (Int.le_refl (0 : Int)), Bool.and_self, cnd_t, hp, obind_s, dF (show ¬ 0 ≤ p by omega), cnd_f, wr_m (z := (L.length : Int) - 1) (by omega) (by omega)]
      refine (congrArg (fun o => obind o _) el).trans ?_
      rw [obind_s]
      try simp only
      simp only [dT c, Bool.and_self, cnd_t, obind_s, Bool.true_and]
      rw [er', obind_s, ab, obind_s]
    · have hL0 : L = [] := List.eq_nil_of_length_eq_zero (by omega)
      rw [dF c, cnd_f, wr_m (z := (L.length : Int) - 1) (by omega) (by omega)]
      refine (congrArg (fun o => obind o _) el).trans ?_
      rw [obind_s]
      try simp only
      rw [dF c, cnd_f, obind_s]
      try simp only
      have er2 : W_ref7_JoinClus N (D, [], a, id, k) = some x' := by
        have := er'
        rw [hL0] at this
        exact this
      rw [er2, obind_s, ab, obind_s]
theorem loopG {σ ρ : Type} {f : σ → Option (σ ⊕ ρ)} (I : Nat → σ → Prop) (B : Nat) (J : ρ → Prop) (hb : ∀ k x, I k x → k ≤ B) (hs : ∀ k x, I k x → (∃ y, f x = some (.inl y) ∧ I (k + 1) y) ∨ ∃ r, f x = some (.inr r) ∧ J r) :
    ∀ (M k : Nat) (x : σ), I k x → B < M + k → ∃ r, loopN M f x = some r ∧ J r
  | 0, k, x, h, hm => by have := hb k x h; omega
  | M + 1, k, x, h, hm => by
    rcases hs k x h with ⟨y, h1, h2⟩ | ⟨r, h1, h2⟩
    · obtain ⟨r, h4, h5⟩ := loopG I B J hb hs M (k + 1) y h2 (by omega)
      exact ⟨r, by simp only [loopN, h1]; exact h4, h5⟩
    · exact ⟨r, by simp only [loopN, h1], h2⟩
theorem loop_G {σ ρ β : Type} {f : σ → Option (σ ⊕ ρ)} {g : ρ → Option β} {x : σ} {N : Nat} (Q : Option β → Prop) (I : Nat → σ → Prop) (B : Nat) (J : ρ → Prop) (hx : I 0 x) (hm : B < N) (hk : ∀ r, J r → Q (g r)) (hb : ∀ k x, I k x → k ≤ B)
    (hs : ∀ k x, I k x → (∃ y, f x = some (.inl y) ∧ I (k + 1) y) ∨ ∃ r, f x = some (.inr r) ∧ J r) : Q (obind (loopN N f x) g) := by
  obtain ⟨r, h1, h2⟩ := loopG I B J hb hs N 0 x hx (by omega)
  rw [h1]; exact hk r h2
/-! May of any levels. -/
def Dc (o : Option Bool) (p : Prop) : Prop := ∃ r, o = some r ∧ (r = true ↔ p)
theorem getD_take {α : Type} {a b : List α} (d : α) {i : Nat} (hab : a.length = b.length) (h : a.take i = b.take i) (hi : i < a.length) : a.getD i d = b.getD i d ↔ a.take (i + 1) = b.take (i + 1) := by
  have e1 : a.take (i + 1) = a.take i ++ [a.getD i d] := by rw [List.getD_eq_getElem?_getD, List.getElem?_eq_getElem hi, List.take_succ_eq_append_getElem hi]; rfl
  have hb : i < b.length := by omega
  have e2 : b.take (i + 1) = b.take i ++ [b.getD i d] := by rw [List.getD_eq_getElem?_getD, List.getElem?_eq_getElem hb, List.take_succ_eq_append_getElem hb]; rfl
  rw [e1, e2, h, List.append_cancel_left_eq]
  exact ⟨fun q => by rw [q], fun q => by injection q⟩
theorem cmp_loop {α σ : Type} (N : Nat) (a b : List α) (d : α) (s : Nat → σ) {f : σ → Option (σ ⊕ (Unit ⊕ Bool))} (hab : a.length = b.length) (hl : a.length ≤ 900) (hN : 1000 ≤ N)
    (hs : ∀ i : Nat, i < a.length → ∃ r : Bool, (r = true ↔ a.getD i d = b.getD i d) ∧ f (s i) = cnd r (some (.inl (s (i + 1)))) (some (.inr (.inr false)))) (he : f (s a.length) = some (.inr (.inl ()))) :
    Dc (obind (loopN N f (s 0)) fun b => selim (fun _ => some true) (fun c => some c) b) (a = b) := by
  refine loop_G (Dc · (a = b)) (fun k x => x = s k ∧ k ≤ a.length ∧ a.take k = b.take k) a.length (fun r => (r = .inl () ∧ a = b) ∨ (r = .inr false ∧ a ≠ b)) ⟨rfl, by omega, by simp⟩ (by omega) ?_ (fun k x h => h.2.1) ?_
  · rintro r (⟨rfl, h⟩ | ⟨rfl, h⟩)
    · exact ⟨true, rfl, fun _ => h, fun _ => rfl⟩
    · exact ⟨false, rfl, fun q => (by cases q), fun q => absurd q h⟩
  rintro k x ⟨rfl, hk, ht⟩
  by_cases c : k < a.length
  · obtain ⟨r, hr, e⟩ := hs k c
    have hg := getD_take d hab ht c
    rw [e]
    cases r with
    | true => exact .inl ⟨_, rfl, rfl, by omega, hg.1 (hr.1 rfl)⟩
    | false => exact .inr ⟨_, rfl, .inr ⟨rfl, fun q => by have := hr.2 (by rw [q]); cases this⟩⟩
  · have : k = a.length := by omega
    subst this
    rw [he]
    refine .inr ⟨_, rfl, .inl ⟨rfl, ?_⟩⟩
    rw [List.take_of_length_le (Nat.le_refl _), List.take_of_length_le (by omega)] at ht
    exact ht
theorem Dc_ne {α : Type} {a b : List α} (h : ¬ a.length = b.length) {i : Decidable ((a.length : Int) ≠ b.length)} {o : Option Bool} : Dc (cnd (@decide _ i) (some false) o) (a = b) := by
  rw [cnd_T (by omega)]
  exact ⟨false, rfl, fun q => (by cases q), fun q => absurd (by rw [q]) h⟩
theorem Dc_some {o : Option Bool} {p : Prop} (h : Dc o p) : Dc (obind o fun b => some b) p := by
  obtain ⟨r, rfl, h⟩ := h
  exact ⟨r, rfl, h⟩
theorem Equal_any (N : Nat) (a b : List Int) (hl : a.length ≤ 900) (hN : 1000 ≤ N) : Dc (W_slices_Equal_int N (a, b)) (a = b) := by
  unfold W_slices_Equal_int V_slices_Equal_int
  try simp only
  by_cases hab : a.length = b.length
  case neg => exact Dc_ne hab
  rw [cnd_F (by omega)]
  refine cmp_loop N a b 0 (fun i => Int.ofNat i) hab hl hN (fun i hi => ⟨decide (a.getD i 0 = b.getD i 0), decide_eq_true_iff, ?_⟩) ?_
  · simp only [Int.ofNat_eq_natCast]
    rw [dT (show (i : Int) < a.length by omega), cnd_t, dT (show (0 : Int) ≤ (i : Int) by omega), Bool.and_self, cnd_t, dT (show (i : Int) < b.length by omega), Bool.and_self, cnd_t, wr_m (by omega) (by omega)]
    by_cases q : a.getD i 0 = b.getD i 0
    · refine (cnd_F (fun h => h q)).trans ?_
      rw [dT q, cnd_t]; rfl
    · refine (cnd_T q).trans ?_
      rw [dF q, cnd_f]
  · simp only [Int.ofNat_eq_natCast]
    rw [dF (by omega), cnd_f]
theorem SameInts_any (N : Nat) (a b : List Int) (hl : a.length ≤ 900) (hN : 1000 ≤ N) : Dc (W_ref1_SameInts N (a, b)) (a = b) := by
  unfold W_ref1_SameInts V_ref1_SameInts
  try simp only
  by_cases hab : a.length = b.length
  case neg => exact Dc_ne hab
  rw [cnd_F (by omega)]
  refine cmp_loop N a b 0 (fun i => Int.ofNat i) hab hl hN (fun i hi => ⟨decide (a.getD i 0 = b.getD i 0), decide_eq_true_iff, ?_⟩) ?_
  · simp only [Int.ofNat_eq_natCast]
    rw [dT (show (i : Int) < a.length by omega), cnd_t, dT (show (0 : Int) ≤ (i : Int) by omega), Bool.and_self, cnd_t, dT (show (i : Int) < b.length by omega), Bool.and_self, cnd_t, wr_m (by omega) (by omega)]
    by_cases q : a.getD i 0 = b.getD i 0
    · refine (cnd_F (fun h => h q)).trans ?_
      rw [dT q, cnd_t]; rfl
    · refine (cnd_T q).trans ?_
      rw [dF q, cnd_f]
  · simp only [Int.ofNat_eq_natCast]
    rw [dF (by omega), cnd_f]
theorem like1_any (N : Nat) (c d : Cl) (hc : c.1.length ≤ 900) (hN : 1000 ≤ N) : Dc (W_hier_likeLevel_1 N (c, d)) (c = d) := by
  unfold W_hier_likeLevel_1 V_hier_likeLevel_1
  obtain ⟨r, e, h⟩ := Equal_any N c.1 d.1 hc hN
  by_cases q : c.2 = d.2
  · refine ⟨r, (cnd_T q).trans ((congrArg (fun o => obind o _) e).trans ?_), h.trans ⟨fun h => Prod.ext h q, fun h => by rw [h]⟩⟩
    rw [obind_s]
  · exact ⟨false, cnd_F q, fun q => (by cases q), fun h => absurd (by rw [h]) q⟩
theorem like_any (N : Nat) (a b : List Cl) (hl : a.length ≤ 900) (hm : ∀ c ∈ a, c.1.length ≤ 900) (hN : 1000 ≤ N) : Dc (W_hier_likeLevel N (a, b)) (a = b) := by
  unfold W_hier_likeLevel V_hier_likeLevel
  refine Dc_some ?_
  unfold W_slices_EqualFunc_api_Cluster__hier_likeLevel_1 V_slices_EqualFunc_api_Cluster__hier_likeLevel_1
  try simp only
  by_cases hab : a.length = b.length
  case neg => exact Dc_ne hab
  rw [cnd_F (by omega)]
  refine cmp_loop N a b cD (fun i => Int.ofNat i) hab hl hN (fun i hi => ?_) ?_
  · obtain ⟨r, e, h⟩ := like1_any N (a.getD i cD) (b.getD i cD) (hm _ (getD_memC hi)) hN
    refine ⟨r, h, ?_⟩
    simp only [Int.ofNat_eq_natCast]
    rw [dT (show (i : Int) < a.length by omega), cnd_t, dT (show (0 : Int) ≤ (i : Int) by omega), Bool.and_self, cnd_t, dT (show (i : Int) < b.length by omega), Bool.and_self, cnd_t, Int.toNat_natCast]
    refine (congrArg (fun o => obind o _) e).trans ?_
    rw [obind_s, wr_m (by omega) (by omega)]
    cases r <;> rfl
  · simp only [Int.ofNat_eq_natCast]
    rw [dF (by omega), cnd_f]
theorem getD_memL {L : Lv} {i : Nat} (h : i < L.length) : L.getD i [] ∈ L := by
  rw [List.getD_eq_getElem?_getD, List.getElem?_eq_getElem h]; exact List.getElem_mem _
/-- Levels that are not too long. -/
def Lb (L : Lv) : Prop := L.length ≤ 20 ∧ ∀ l ∈ L, l.length ≤ 20 ∧ ∀ c ∈ l, c.1.length ≤ 20
theorem likes_any (N : Nat) (a b : Lv) (hb : Lb a) (hN : 1000 ≤ N) : Dc (W_slices_EqualFunc_Lapi_Cluster__hier_likeLevel N (a, b)) (a = b) := by
  have hl : a.length ≤ 900 := Nat.le_trans hb.1 (by omega)
  unfold W_slices_EqualFunc_Lapi_Cluster__hier_likeLevel V_slices_EqualFunc_Lapi_Cluster__hier_likeLevel
  try simp only
  by_cases hab : a.length = b.length
  case neg => exact Dc_ne hab
  rw [cnd_F (by omega)]
  refine cmp_loop N a b [] (fun i => Int.ofNat i) hab hl hN (fun i hi => ?_) ?_
  · obtain ⟨h1, h2⟩ := hb.2 _ (getD_memL hi)
    obtain ⟨r, e, h⟩ := like_any N (a.getD i []) (b.getD i []) (by omega) (fun c hc => by have := h2 c hc; omega) hN
    refine ⟨r, h, ?_⟩
    simp only [Int.ofNat_eq_natCast]
    rw [dT (show (i : Int) < a.length by omega), cnd_t, dT (show (0 : Int) ≤ (i : Int) by omega), Bool.and_self, cnd_t, dT (show (i : Int) < b.length by omega), Bool.and_self, cnd_t, Int.toNat_natCast, e, obind_s, wr_m (by omega) (by omega)]
    cases r <;> rfl
  · simp only [Int.ofNat_eq_natCast]
    rw [dF (by omega), cnd_f]
theorem SameCl_any (N : Nat) (a b : List Cl) (hl : a.length ≤ 900) (hm : ∀ c ∈ a, c.1.length ≤ 900) (hN : 1000 ≤ N) : Dc (W_ref7_SameClusters N (a, b)) (a = b) := by
  unfold W_ref7_SameClusters V_ref7_SameClusters
  try simp only
  by_cases hab : a.length = b.length
  case neg => exact Dc_ne hab
  rw [cnd_F (by omega)]
  refine cmp_loop N a b cD (fun i => Int.ofNat i) hab hl hN (fun i hi => ?_) ?_
  · obtain ⟨r, e, h⟩ := SameInts_any N (a.getD i cD).1 (b.getD i cD).1 (hm _ (getD_memC hi)) hN
    by_cases q : (a.getD i cD).2 = (b.getD i cD).2
    · refine ⟨r, h.trans ⟨fun h => Prod.ext h q, fun h => by rw [h]⟩, ?_⟩
      simp only [Int.ofNat_eq_natCast]
      rw [dT (show (i : Int) < a.length by omega), cnd_t, dT (show (0 : Int) ≤ (i : Int) by omega), Bool.and_self, cnd_t, dT (show (i : Int) < b.length by omega), Bool.and_self, cnd_t]
      refine (cnd_F (fun h => h q)).trans ?_
      rw [cnd_t, cnd_t]
      refine (congrArg (fun o => obind o _) e).trans ?_
      rw [obind_s, wr_m (by omega) (by omega)]
      cases r <;> rfl
    · refine ⟨false, ⟨fun q => (by cases q), fun h => absurd (by rw [h]) q⟩, ?_⟩
      simp only [Int.ofNat_eq_natCast]
      rw [dT (show (i : Int) < a.length by omega), cnd_t, dT (show (0 : Int) ≤ (i : Int) by omega), Bool.and_self, cnd_t, dT (show (i : Int) < b.length by omega), Bool.and_self, cnd_t]
      exact (cnd_T q).trans rfl
  · simp only [Int.ofNat_eq_natCast]
    rw [dF (by omega), cnd_f]
theorem SameH_any (N : Nat) {D : List (List Int)} (hD : GD D) (k : Int) (a b : Lv) (hb : Lb a) (hN : 1000 ≤ N) : Dc (W_ref7_SameHier N ((k, D, a), (k, D, b))) (a = b) := by
  have hl : a.length ≤ 900 := Nat.le_trans hb.1 (by omega)
  unfold W_ref7_SameHier V_ref7_SameHier
  try simp only
  rw [dF (fun q : k ≠ k => q rfl), cnd_f, SameD_eq N hD hN, obind_s, Bool.not_true, obind_s, cnd_f]
  try simp only
  by_cases hab : a.length = b.length
  case neg => exact Dc_ne hab
  rw [cnd_F (by omega)]
  refine cmp_loop N a b [] (fun i => ((i : Int), (k, D, a), (k, D, b))) hab hl hN (fun i hi => ?_) ?_
  · obtain ⟨h1, h2⟩ := hb.2 _ (getD_memL hi)
    obtain ⟨r, e, h⟩ := SameCl_any N (a.getD i []) (b.getD i []) (by omega) (fun c hc => by have := h2 c hc; omega) hN
    refine ⟨r, h, ?_⟩
    try simp only
    rw [dT (show (i : Int) < a.length by omega), cnd_t, dT (show (0 : Int) ≤ (i : Int) by omega), Bool.and_self, cnd_t, dT (show (i : Int) < b.length by omega), Bool.and_self, cnd_t, Int.toNat_natCast, e, obind_s, wr_m (by omega) (by omega)]
    cases r <;> rfl
  · simp only
    rw [dF (by omega), cnd_f]
theorem rises_any (N : Nat) (l : List Int) (hlen : l.length ≤ 900) (hN : 1000 ≤ N) : Dc (W_hier_rises N l) (S8 l ∧ Up l) := by
  unfold W_hier_rises V_hier_rises
  refine loop_G (σ := Int × Int) (ρ := Unit ⊕ Bool) (Dc · (S8 l ∧ Up l)) (fun k x => x.2 = (k : Int) ∧ k ≤ l.length ∧ (x.1 = 0 ∨ x.1 ∈ l.take k) ∧ S8 (l.take k) ∧ Up (l.take k) ∧ ∀ b ∈ l.take k, b ≤ x.1) l.length (fun r => (r = .inl () ∧ S8 l ∧ Up l) ∨ (r = .inr false ∧ ¬ (S8 l ∧ Up l))) ⟨rfl, by omega, .inl rfl, by simp [S8], by simp, by simp⟩ (by omega) ?_ (fun k x h => h.2.1) ?_
  · rintro r (⟨rfl, h⟩ | ⟨rfl, h⟩)
    · exact ⟨true, rfl, fun _ => h, fun _ => rfl⟩
    · exact ⟨false, rfl, fun q => (by cases q), fun q => absurd q h⟩
  rintro k ⟨m, i⟩ ⟨h1, hk, h0, hs, hu, hm⟩
  simp only at h1 h0 hm ⊢
  subst h1
  by_cases c : (k : Int) < l.length
  case neg =>
    right
    rw [dF c, cnd_f]
    rw [List.take_of_length_le (by omega)] at hs hu
    exact ⟨_, rfl, .inl ⟨rfl, hs, hu⟩⟩
  have hj : k < l.length := by omega
  have hmem := getD_mem l k hj
  have ht := take_snoc l k hj
  rw [dT c, cnd_t, dT (show (0 : Int) ≤ (k : Int) by omega), Bool.and_self, cnd_t, Int.toNat_natCast]
  generalize l.getD k 0 = z at hmem ht ⊢
  by_cases c1 : z ≤ m
  · right
    rw [dT c1, cnd_t]
    refine ⟨_, rfl, .inr ⟨rfl, fun ⟨q1, q2⟩ => ?_⟩⟩
    have hz := q1 z hmem
    rcases h0 with h0 | h0
    · omega
    · have hq : Up (l.take (k + 1)) := List.Pairwise.take q2
      rw [ht, Up, List.pairwise_append] at hq
      have := hq.2.2 m h0 z (List.mem_singleton.2 rfl)
      omega
  rw [dF c1, cnd_f]
  by_cases c2 : 8 < z
  · right
    rw [dT c2, cnd_t]
    exact ⟨_, rfl, .inr ⟨rfl, fun ⟨q1, _⟩ => by have := q1 z hmem; omega⟩⟩
  left
  rw [dF c2, cnd_f, wr_m (by omega) (by omega)]
  have hm0 : 0 ≤ m := by
    rcases h0 with h0 | h0
    · omega
    · have := hs m h0; omega
  refine ⟨_, rfl, by simp only; omega, by omega, .inr ?_, ?_, ?_, ?_⟩
  · simp only; rw [ht]; simp
  · rw [ht]; intro b hb
    rcases List.mem_append.1 hb with q | q
    · exact hs b q
    · rw [List.mem_singleton.1 q]; omega
  · rw [ht]
    exact Up_snoc hu fun x hx => by have := hm x hx; omega
  · rw [ht]; intro b hb
    try simp only
    rcases List.mem_append.1 hb with q | q
    · have := hm b q; omega
    · rw [List.mem_singleton.1 q]; omega
theorem ins_nodup {l : List Int} (h : Up (ins [] l)) : l.Nodup := (List.mergeSort_perm _ _).nodup_iff.1 (show (ins [] l).Nodup from Up_nodup h)
theorem flat_mem {cs : List Cl} {c : Cl} (h : c ∈ cs) {x : Int} (hx : x ∈ c.1) : x ∈ cs.flatMap fun c => c.1 := List.mem_flatMap.2 ⟨c, h, hx⟩
theorem flat_dis : ∀ {cs : List Cl}, (cs.flatMap fun c => c.1).Nodup → cs.Pairwise (fun a b => ∀ x ∈ a.1, x ∉ b.1)
  | [], _ => List.Pairwise.nil
  | c :: r, h => by
    rw [List.flatMap_cons, List.nodup_append] at h
    refine List.pairwise_cons.2 ⟨fun d hd x hx hy => ?_, flat_dis h.2.1⟩
    exact h.2.2 x hx x (flat_mem hd hy) rfl
/-- A cluster as it may be at the ground. -/
structure Gc (D : List (List Int)) (k : Int) (n : Nat) (c : Cl) : Prop where
  s : S8 c.1
  u : Up c.1
  p : 1 ≤ c.1.length
  z : (c.1.length : Int) ≤ 3 * k - 1
  n : 1 < n → k ≤ c.1.length
  w : Who (fun x => far D x c.1) c.1 c.2
theorem Cz_of {D : List (List Int)} {k : Int} {cs : List Cl} (hk : 1 ≤ k ∧ k ≤ 3) (h : ∀ c ∈ cs, Gc D k cs.length c) (hd : cs.Pairwise (fun a b => ∀ x ∈ a.1, x ∉ b.1)) : Cz D k cs :=
  ⟨⟨fun c hc => ⟨⟨(h c hc).s, (h c hc).u, (h c hc).p, by have := (h c hc).z; omega⟩, (h c hc).w⟩, hd⟩, fun c hc => (h c hc).z, fun q c hc => (h c hc).n q⟩
theorem Cz.g {D : List (List Int)} {k : Int} {cs : List Cl} (h : Cz D k cs) {c : Cl} (hc : c ∈ cs) : Gc D k cs.length c :=
  ⟨(h.c.v c hc).1.s, (h.c.v c hc).1.u, (h.c.v c hc).1.p, h.z c hc, fun q => h.n q c hc, (h.c.v c hc).2⟩
theorem flat_le20 : ∀ (cs : List Cl), (∀ c ∈ cs, c.1.length ≤ 20) → (cs.flatMap fun c => c.1).length ≤ 20 * cs.length
  | [], _ => by simp
  | c :: r, h => by
    have h1 := h c (List.mem_cons_self ..)
    have h2 := flat_le20 r fun d hd => h d (List.mem_cons_of_mem _ hd)
    rw [List.flatMap_cons, List.length_append, List.length_cons]
    omega
theorem grounded_any (N : Nat) {D : List (List Int)} (hD : GD D) {k : Int} (hk : 1 ≤ k ∧ k ≤ 3) (hN : 1000 ≤ N) {L : Lv} (hL : (L.getD 0 []).length ≤ 20 ∧ ∀ c ∈ L.getD 0 [], c.1.length ≤ 20) : Dc (W_hier_grounded N (k, D, L)) (Cz D k (L.getD 0 [])) := by
  by_cases hz : Cz D k (L.getD 0 [])
  · exact ⟨true, grounded_eq N hD hk hN hz rfl, fun _ => hz, fun _ => rfl⟩
  obtain ⟨cs, hcs⟩ : ∃ cs, L.getD 0 [] = cs := ⟨_, rfl⟩
  rw [hcs] at hL hz ⊢
  have hfl := flat_le20 cs hL.2
  suffices h : W_hier_grounded N (k, D, L) = some false from ⟨false, h, fun q => (by cases q), fun q => absurd q hz⟩
  unfold W_hier_grounded V_hier_grounded
  try simp only
  rw [ground_eq, obind_s, hcs]
  refine loop_G (σ := Int × Hr × List Int) (ρ := List Int ⊕ Bool) (fun o => o = some false) (fun i v => v = ((i : Int), (k, D, L), (cs.take i).flatMap fun c => c.1) ∧ i ≤ cs.length ∧ ∀ c ∈ cs.take i, Gc D k cs.length c) cs.length (fun r => r = .inr false ∨ (r = .inl (cs.flatMap fun c => c.1) ∧ ∀ c ∈ cs, Gc D k cs.length c)) ⟨by simp, by omega, by simp⟩ (by omega) ?_ (fun k x h => h.2.1) ?_
  · rintro r (rfl | ⟨rfl, hg⟩)
    · rw [selim_r]
    · have hs : W_slices_Sort_int N (cs.flatMap fun c => c.1) = some (ins [] (cs.flatMap fun c => c.1)) := by
        unfold W_slices_Sort_int
        rw [dT (show (cs.flatMap fun c => c.1).length ≤ 140737488355328 by omega), cnd_t, srt_eq]
        rfl
      have hil : (ins [] (cs.flatMap fun c => c.1)).length = (cs.flatMap fun c => c.1).length := by rw [ins_len, List.length_nil]; omega
      obtain ⟨r, e, hr⟩ := rises_any N (ins [] (cs.flatMap fun c => c.1)) (by omega) hN
      rw [selim_l, hs, obind_s, dT hil, cnd_t, e, obind_s]
      cases r with
      | false => rfl
      | true => exact absurd (Cz_of hk hg (flat_dis (ins_nodup (hr.1 rfl).2))) hz
  · rintro i v ⟨rfl, hi, hg⟩
    try simp only
    by_cases c : (i : Int) < cs.length
    case neg => right; rw [dF c, cnd_f, List.take_of_length_le (by omega)]; rw [List.take_of_length_le (by omega)] at hg; exact ⟨_, rfl, .inr ⟨rfl, hg⟩⟩
    have hm := getD_memC (l := cs) (i := i) (by omega)
    have hmL := hL.2 _ hm
    have hle := flat_le cs (i + 1)
    have hts := take_snocC (l := cs) (k := i) (by omega)
    have hfs : (cs.take (i + 1)).flatMap (fun c => c.1) = (cs.take i).flatMap (fun c => c.1) ++ (cs.getD i cD).1 := by rw [hts, List.flatMap_append]; simp
    rw [hfs, List.length_append] at hle
    obtain ⟨c', hc'⟩ : ∃ c', cs.getD i cD = c' := ⟨_, rfl⟩
    have hcD : cs.getD i (([] : List Int), (0 : Int)) = c' := hc'
    rw [hc'] at hle hmL hts
    rw [dT c, cnd_t, dT (show (0 : Int) ≤ (i : Int) by omega), Bool.and_self, cnd_t, Int.toNat_natCast, hcD, wr_m (z := 3 * k) (by omega) (by omega), wr_m (z := 3 * k - 1) (by omega) (by omega), wr_m (z := (i : Int) + 1) (by omega) (by omega)]
    by_cases c1 : (c'.1.length : Int) < 1
    · right; rw [dT c1, cnd_t]; exact ⟨_, rfl, .inl rfl⟩
    rw [dF c1, cnd_f]
    by_cases c2 : 3 * k - 1 < (c'.1.length : Int)
    · right; rw [dT c2, cnd_t]; exact ⟨_, rfl, .inl rfl⟩
    rw [dF c2, cnd_f]
    obtain ⟨r, e, hr⟩ := rises_any N c'.1 (by omega) hN
    rw [dT (show (((cs.take i).flatMap (fun c => c.1)).length + c'.1.length) * 8 ≤ 140737488355328 by omega)]
    have fin : (1 < cs.length → k ≤ c'.1.length) → (∃ y, obind (W_hier_rises N c'.1) (fun (b_1 : Bool) => cnd (!b_1) (some (Sum.inr (Sum.inr false))) (obind (W_mid_Mid N (D, c'.1)) fun (b_2 : Int) => cnd (decide (c'.2 ≠ b_2)) (some (Sum.inr (Sum.inr false))) (cnd true (some (Sum.inl ((i : Int) + 1, (k, D, L), (cs.take i).flatMap (fun c => c.1) ++ c'.1))) none))) = (some (Sum.inl y) : Option ((Int × Hr × List Int) ⊕ (List Int ⊕ Bool))) ∧ (y = (((i + 1 : Nat) : Int), (k, D, L), (cs.take (i + 1)).flatMap fun c => c.1) ∧ i + 1 ≤ cs.length ∧ ∀ c ∈ cs.take (i + 1), Gc D k cs.length c)) ∨
        ∃ r, obind (W_hier_rises N c'.1) (fun (b_1 : Bool) => cnd (!b_1) (some (Sum.inr (Sum.inr false))) (obind (W_mid_Mid N (D, c'.1)) fun (b_2 : Int) => cnd (decide (c'.2 ≠ b_2)) (some (Sum.inr (Sum.inr false))) (cnd true (some (Sum.inl ((i : Int) + 1, (k, D, L), (cs.take i).flatMap (fun c => c.1) ++ c'.1))) none))) = (some (Sum.inr r) : Option ((Int × Hr × List Int) ⊕ (List Int ⊕ Bool))) ∧ (r = .inr false ∨ (r = .inl (cs.flatMap fun c => c.1) ∧ ∀ c ∈ cs, Gc D k cs.length c)) := by
      intro hn
      rw [e, obind_s]
      cases r with
      | false => right; rw [Bool.not_false, cnd_t]; exact ⟨_, rfl, .inl rfl⟩
      | true =>
        obtain ⟨h8, hu⟩ := hr.1 rfl
        obtain ⟨v2, e2, w2⟩ := Mid_spec N hD h8 (by omega) hN
        rw [Bool.not_true, cnd_f, e2, obind_s]
        by_cases c3 : c'.2 = v2
        · left
          rw [dF (fun q : c'.2 ≠ v2 => q c3), cnd_f, cnd_t]
          refine ⟨_, rfl, ?_, by omega, ?_⟩
          · rw [hfs, hc']; rfl
          · rw [hts]
            intro d hd
            rcases List.mem_append.1 hd with q | q
            · exact hg d q
            · rw [List.mem_singleton.1 q]
              exact ⟨h8, hu, by omega, by omega, hn, c3 ▸ w2⟩
        · right; rw [dT c3, cnd_t]; exact ⟨_, rfl, .inl rfl⟩
    by_cases ck : (c'.1.length : Int) < k
    · rw [dT ck, cnd_t, ground_eq, obind_s, hcs]
      by_cases c4 : (1 : Int) < cs.length
      · right; rw [dT c4, cnd_t]; exact ⟨_, rfl, .inl rfl⟩
      · rw [dF c4, cnd_f]; exact fin fun q => by omega
    · rw [dF ck, cnd_f]
      exact fin fun _ => by omega
theorem hMay_any (N : Nat) {D : List (List Int)} (hD : GD D) (h0 : Z0 D) {k : Int} (hk : 1 ≤ k ∧ k ≤ 3) (hN : 1000 ≤ N) {L : Lv} (hL : Lb L) : Dc (W_hier_May N (k, D, L)) (Hv N D k L) := by
  have hg : (L.getD 0 []).length ≤ 20 ∧ ∀ c ∈ L.getD 0 [], c.1.length ≤ 20 := by
    cases L with
    | nil => exact ⟨by simp, fun c hc => by simp at hc⟩
    | cons l r => exact hL.2 l (List.mem_cons_self ..)
  obtain ⟨b, e, hb⟩ := grounded_any N hD hk hN hg
  unfold W_hier_May V_hier_May
  rw [begins_eq N hD h0 hk hN, obind_s, cnd_t, e, obind_s]
  cases b with
  | false =>
    rw [cnd_f]
    refine ⟨false, rfl, fun q => (by cases q), fun q => ?_⟩
    have := hb.2 q.g.1
    cases this
  | true =>
    have hz := hb.1 rfl
    rw [cnd_t, ground_eq, obind_s]
    obtain ⟨L', e1, hv, e2⟩ := over_eq N hD hk hN hz L
    rw [e1, obind_s]
    obtain ⟨b, e3, h3⟩ := likes_any N L L' hL hN
    rw [e3, obind_s]
    refine ⟨b, rfl, h3.trans ⟨fun q => q ▸ hv, fun q => ?_⟩⟩
    rcases q.o with rfl | ⟨cs, hz2, hR⟩
    · rw [show List.getD ([] : Lv) 0 [] = [] from rfl, rise_nil] at e1
      injection e1
    · obtain ⟨R, e⟩ := hR.hd
      have hg : L.getD 0 [] = cs := by rw [e]; rfl
      rw [hg, rise_eq N hD hk hN hR L] at e1
      injection e1
theorem up_last {l : List Int} {j : Nat} (hj : j ≤ l.length) (h0 : 0 < j) (h : Up (l.take j)) : ∀ x ∈ l.take j, x ≤ l.getD (j - 1) 0 := by
  have e := take_snoc l (j - 1) (by omega)
  rw [show j - 1 + 1 = j by omega] at e
  rw [e] at h ⊢
  rw [Up, List.pairwise_append] at h
  intro x hx
  rcases List.mem_append.1 hx with q | q
  · have := h.2.2 x q _ (List.mem_singleton.2 rfl); omega
  · rw [List.mem_singleton.1 q]; omega
theorem mem_getD {l : List Int} {i j : Nat} (h : i < j) (hj : j ≤ l.length) : l.getD i 0 ∈ l.take j := by
  rw [List.getD_eq_getElem?_getD, List.getElem?_eq_getElem (by omega)]
  show l[i] ∈ _
  have : (l.take j)[i]'(by rw [List.length_take]; omega) = l[i] := List.getElem_take
  rw [← this]
  exact List.getElem_mem _
/-- What the reference asks of a cluster's members. -/
def Mo (P : List Int) (l : List Int) : Prop := S8 l ∧ Up l ∧ ∀ x ∈ l, x ∉ P
theorem Mo.take {P l : List Int} (h : Mo P l) (j : Nat) : Mo P (l.take j) := ⟨fun b hb => h.1 b (List.mem_of_mem_take hb), List.Pairwise.take h.2.1, fun x hx => h.2.2 x (List.mem_of_mem_take hx)⟩
theorem Cz_mo {D : List (List Int)} {k : Int} {cs : List Cl} (h : Cz D k cs) {i : Nat} (hi : i < cs.length) : Mo ((cs.take i).flatMap fun c => c.1) (cs.getD i cD).1 := by
  have hm := getD_memC hi
  have hv := (h.c.v _ hm).1
  refine ⟨hv.s, hv.u, fun x hx hp => ?_⟩
  obtain ⟨d, hd, hxd⟩ := List.mem_flatMap.1 hp
  have hp := h.c.d
  rw [← List.take_append_drop i cs, List.pairwise_append] at hp
  refine hp.2.2 d hd (cs.getD i cD) ?_ x hxd hx
  rw [List.getD_eq_getElem?_getD, List.getElem?_eq_getElem hi]
  show cs[i] ∈ _
  rw [List.drop_eq_getElem_cons hi]
  exact List.mem_cons_self ..
theorem rMay_any (N : Nat) {D : List (List Int)} (hD : GD D) (h0 : Z0 D) {k : Int} (hk : 1 ≤ k ∧ k ≤ 3) (hN : 1000 ≤ N) {L : Lv} (hL : Lb L) : Dc (W_ref7_May N (k, D, L)) (Hv N D k L) := by
  unfold W_ref7_May V_ref7_May
  try simp only
  rw [rNew_eq N hD h0 hN, obind_s, if_pos hk]
  try simp only
  rw [Bool.not_true, cnd_f]
  by_cases c0 : (L.length : Int) = 0
  · rw [dT c0, cnd_t]
    have : L = [] := List.eq_nil_of_length_eq_zero (by omega)
    exact ⟨true, rfl, fun _ => ⟨.inl this⟩, fun _ => rfl⟩
  rw [dF c0, cnd_f, dT (show (0 : Int) ≤ 0 by omega), dT (show (0 : Int) < L.length by omega), Bool.and_self, cnd_t]
  have hgb : (L.getD 0 []).length ≤ 20 ∧ ∀ c ∈ L.getD 0 [], c.1.length ≤ 20 := by
    cases L with
    | nil => exact absurd rfl c0
    | cons l r => exact hL.2 l (List.mem_cons_self ..)
  obtain ⟨cs, hcs⟩ : ∃ cs, L.getD 0 [] = cs := ⟨_, rfl⟩
  have hcs2 : List.getD L 0 ([] : List (List Int × Int)) = cs := hcs
  rw [hcs2]
  rw [hcs] at hgb
  have hfl := flat_le20 cs hgb.2
  refine loop_G (σ := Int × Hr × List Int) (ρ := Hr ⊕ Bool) (Dc · (Hv N D k L)) (fun i v => v = ((i : Int), (k, D, L), (cs.take i).flatMap fun c => c.1) ∧ i ≤ cs.length ∧ (∀ c ∈ cs.take i, Gc D k cs.length c) ∧ (cs.take i).Pairwise (fun a b => ∀ x ∈ a.1, x ∉ b.1)) cs.length
    (fun r => (r = .inl (k, D, L) ∧ Cz D k cs) ∨ (r = .inr false ∧ ¬ Cz D k cs)) ⟨by simp, by omega, by simp, by simp⟩ (by omega) ?_ (fun k x h => h.2.1) ?_
  · rintro r (⟨rfl, hz⟩ | ⟨rfl, hz⟩)
    · rw [selim_l]
      by_cases c1 : (0 : Int) < cs.length
      · rw [dT c1, cnd_t]
        obtain ⟨L', hR⟩ := Rise_ex N hD hk hN _ cs (Nat.le_refl _) (by omega) hz.c
        have hv : Hv N D k L' := ⟨.inr ⟨cs, hz, hR⟩⟩
        obtain ⟨b1, b2⟩ := hv.b N hD hk hN
        rw [above_eq N hD hk hN hR L, obind_s]
        obtain ⟨b, e, hb⟩ := SameH_any N hD k L' L ⟨by omega, fun l hl => by obtain ⟨q1, _, q2⟩ := b2 l hl; exact ⟨by omega, fun c hc => by have := q2 c hc; omega⟩⟩ hN
        rw [e, obind_s]
        refine ⟨b, rfl, hb.trans ⟨fun q => q ▸ hv, fun q => ?_⟩⟩
        rcases q.o with rfl | ⟨cs', hz2, hR2⟩
        · exact absurd rfl c0
        · obtain ⟨R, e2⟩ := hR2.hd
          have hg : cs' = cs := by rw [← hcs, e2]; rfl
          subst hg
          have e3 := rise_eq N hD hk hN hR L
          rw [rise_eq N hD hk hN hR2 L] at e3
          injection e3 with e3; exact e3.symm
      · rw [dF c1, cnd_f]
        refine ⟨false, rfl, fun q => (by cases q), fun q => ?_⟩
        have := q.g.2
        rw [hcs] at this
        omega
    · rw [selim_r]
      refine ⟨false, rfl, fun q => (by cases q), fun q => absurd ?_ hz⟩
      have := q.g.1
      rwa [hcs] at this
  rintro i v ⟨rfl, hi, hg, hp⟩
  try simp only
  by_cases c : (i : Int) < cs.length
  case neg =>
    right; rw [dF c, cnd_f]
    rw [List.take_of_length_le (by omega)] at hg hp
    exact ⟨_, rfl, .inl ⟨rfl, Cz_of hk hg hp⟩⟩
  have hin : i < cs.length := by omega
  have hm := getD_memC (l := cs) hin
  have hmL := hgb.2 _ hm
  have hle := flat_le cs i
  have hts := take_snocC (l := cs) (k := i) hin
  have hfs : (cs.take (i + 1)).flatMap (fun c => c.1) = (cs.take i).flatMap (fun c => c.1) ++ (cs.getD i cD).1 := by rw [hts, List.flatMap_append]; simp
  have hMo := fun hz : Cz D k cs => Cz_mo hz hin
  have hGc := fun hz : Cz D k cs => hz.g hm
  obtain ⟨P, hP⟩ : ∃ P, (cs.take i).flatMap (fun c => c.1) = P := ⟨_, rfl⟩
  obtain ⟨c', hc'⟩ : ∃ c', cs.getD i cD = c' := ⟨_, rfl⟩
  have hcD : cs.getD i (([] : List Int), (0 : Int)) = c' := hc'
  rw [hP, hc'] at hfs
  rw [hP] at hMo hle
  rw [hc'] at hmL hMo hGc hts
  rw [dT c, cnd_t, dT (show (0 : Int) ≤ (i : Int) by omega), Bool.and_self, cnd_t, Int.toNat_natCast, hcD, hP, wr_m (z := 3 * k) (by omega) (by omega), wr_m (z := 3 * k - 1) (by omega) (by omega), wr_m (z := (i : Int) + 1) (by omega) (by omega)]
  by_cases c1 : (c'.1.length : Int) < 1
  · right
    rw [dT c1, cnd_t, obind_s, cnd_t, obind_s, selim_r]
    exact ⟨_, rfl, .inr ⟨rfl, fun hz => by have := (hGc hz).p; omega⟩⟩
  rw [dF c1, cnd_f, obind_s]
  try simp only
  by_cases c2 : 3 * k - 1 < (c'.1.length : Int)
  · right
    rw [dT c2, cnd_t, obind_s, selim_r]
    exact ⟨_, rfl, .inr ⟨rfl, fun hz => by have := (hGc hz).z; omega⟩⟩
  rw [dF c2, cnd_f]
  by_cases c3 : 1 < cs.length ∧ (c'.1.length : Int) < k
  · right
    rw [dT (show (1 : Int) < cs.length by omega), cnd_t, dT c3.2, cnd_t, obind_s, selim_r]
    exact ⟨_, rfl, .inr ⟨rfl, fun hz => by have := (hGc hz).n c3.1; omega⟩⟩
  have e3 : cnd (decide ((1 : Int) < cs.length)) (cnd (decide ((c'.1.length : Int) < k)) (some (Sum.inr false)) (some (Sum.inl ((k, D, L), P)))) (some (Sum.inl ((k, D, L), P))) = (some (Sum.inl ((k, D, L), P)) : Option ((Hr × List Int) ⊕ Bool)) := by
    by_cases q : (1 : Int) < cs.length
    · rw [dT q, cnd_t, dF (show ¬ (c'.1.length : Int) < k by omega), cnd_f]
    · rw [dF q, cnd_f]
  rw [e3, obind_s, selim_l]
  refine loop_G (N := N) (σ := Int × Hr × List Int) (ρ := (Hr × List Int) ⊕ Bool) (β := (Int × Hr × List Int) ⊕ (Hr ⊕ Bool)) (fun o => (∃ y, o = some (.inl y) ∧ (y = (((i + 1 : Nat) : Int), (k, D, L), (cs.take (i + 1)).flatMap fun c => c.1) ∧ i + 1 ≤ cs.length ∧ (∀ c ∈ cs.take (i + 1), Gc D k cs.length c) ∧ (cs.take (i + 1)).Pairwise (fun a b => ∀ x ∈ a.1, x ∉ b.1))) ∨
      ∃ r, o = some (.inr r) ∧ ((r = .inl (k, D, L) ∧ Cz D k cs) ∨ (r = .inr false ∧ ¬ Cz D k cs)))
    (fun j v => v = ((j : Int), (k, D, L), P ++ c'.1.take j) ∧ j ≤ c'.1.length ∧ Mo P (c'.1.take j)) c'.1.length
    (fun r => (r = .inl ((k, D, L), P ++ c'.1) ∧ Mo P c'.1) ∨ (r = .inr false ∧ ¬ Mo P c'.1)) ?_ (by omega) ?_ (fun k x h => h.2.1) ?_
  · exact ⟨by simp, by omega, ⟨by simp [S8], by simp, by simp⟩⟩
  · rintro r (⟨rfl, hmo⟩ | ⟨rfl, hmo⟩)
    · rw [selim_l, cnd_t]
      obtain ⟨v2, e2, w2⟩ := Mid7_spec N hD hmo.1 (by omega) hN
      try simp only
      rw [e2, obind_s]
      by_cases c4 : c'.2 = v2
      · left
        rw [dF (fun q : c'.2 ≠ v2 => q c4), cnd_f]
        refine ⟨_, rfl, ?_, by omega, ?_, ?_⟩
        · rw [hfs]; rfl
        · rw [hts]
          intro d hd
          rcases List.mem_append.1 hd with q | q
          · exact hg d q
          · rw [List.mem_singleton.1 q]
            exact ⟨hmo.1, hmo.2.1, by omega, by omega, fun q => by omega, c4 ▸ w2⟩
        · rw [hts, List.pairwise_append]
          refine ⟨hp, List.pairwise_singleton _ _, fun a ha b hb x hx hxb => ?_⟩
          rw [List.mem_singleton.1 hb] at hxb
          exact hmo.2.2 x hxb (hP ▸ flat_mem ha hx)
      · right
        rw [dT c4, cnd_t]
        exact ⟨_, rfl, .inr ⟨rfl, fun hz => c4 (Who_one (hGc hz).w w2)⟩⟩
    · rw [selim_r]
      exact .inr ⟨_, rfl, .inr ⟨rfl, fun hz => hmo (hMo hz)⟩⟩
  rintro j v ⟨rfl, hj, hmo⟩
  try simp only
  by_cases d1 : (j : Int) < c'.1.length
  case neg =>
    right; rw [dF d1, cnd_f]
    rw [List.take_of_length_le (by omega)] at hmo ⊢
    exact ⟨_, rfl, .inl ⟨rfl, hmo⟩⟩
  have hjn : j < c'.1.length := by omega
  have hz := getD_mem c'.1 j hjn
  have htj := take_snoc c'.1 j hjn
  have hlast := fun q : 0 < j => up_last (l := c'.1) hj q hmo.2.1
  have hprev := fun q : 0 < j => mem_getD (l := c'.1) (i := j - 1) (j := j) (by omega) hj
  rw [dT d1, cnd_t, dT (show (0 : Int) ≤ (j : Int) by omega), Bool.and_self, cnd_t, cnd_t, Int.toNat_natCast]
  have bad : ∀ {o : Option ((Int × Hr × List Int) ⊕ ((Hr × List Int) ⊕ Bool))}, o = some (.inr (.inr false)) → ¬ Mo P c'.1 → (∃ y, o = some (.inl y) ∧ (y = (((j + 1 : Nat) : Int), (k, D, L), P ++ c'.1.take (j + 1)) ∧ j + 1 ≤ c'.1.length ∧ Mo P (c'.1.take (j + 1)))) ∨ ∃ r, o = some (.inr r) ∧ ((r = .inl ((k, D, L), P ++ c'.1) ∧ Mo P c'.1) ∨ (r = .inr false ∧ ¬ Mo P c'.1)) :=
    fun e h => .inr ⟨_, e, .inr ⟨rfl, h⟩⟩
  obtain ⟨z, hzz⟩ : ∃ z, c'.1.getD j 0 = z := ⟨_, rfl⟩
  rw [hzz] at hz htj ⊢
  by_cases d2 : z < 1
  · rw [dT d2, cnd_t]; exact bad rfl fun h => by have := h.1 z hz; omega
  rw [dF d2, cnd_f]
  by_cases d3 : 8 < z
  · rw [dT d3, cnd_t]; exact bad rfl fun h => by have := h.1 z hz; omega
  rw [dF d3, cnd_f]
  have hHas := Has_eq N (P ++ c'.1.take j) z (by rw [List.length_append, List.length_take]; omega) hN
  have hPl : (P ++ c'.1.take j).length ≤ 420 := by rw [List.length_append, List.length_take]; omega
  have fin : (0 < j → c'.1.getD (j - 1) 0 < z) → (∃ y, obind (W_ref1_Has N (P ++ c'.1.take j, z)) (fun b => cnd b (some (Sum.inr (Sum.inr false))) (cnd (decide (((P ++ c'.1.take j).length + 1) * 8 ≤ 140737488355328)) (some (Sum.inl (wr .i64 ((j : Int) + 1), (k, D, L), P ++ c'.1.take j ++ [z]))) none)) = (some (.inl y) : Option ((Int × Hr × List Int) ⊕ ((Hr × List Int) ⊕ Bool))) ∧ (y = (((j + 1 : Nat) : Int), (k, D, L), P ++ c'.1.take (j + 1)) ∧ j + 1 ≤ c'.1.length ∧ Mo P (c'.1.take (j + 1)))) ∨ ∃ r, obind (W_ref1_Has N (P ++ c'.1.take j, z)) (fun b => cnd b (some (Sum.inr (Sum.inr false))) (cnd (decide (((P ++ c'.1.take j).length + 1) * 8 ≤ 140737488355328)) (some (Sum.inl (wr .i64 ((j : Int) + 1), (k, D, L), P ++ c'.1.take j ++ [z]))) none)) = (some (.inr r) : Option ((Int × Hr × List Int) ⊕ ((Hr × List Int) ⊕ Bool))) ∧ ((r = .inl ((k, D, L), P ++ c'.1) ∧ Mo P c'.1) ∨ (r = .inr false ∧ ¬ Mo P c'.1)) := by
    intro hlt
    have hall : ∀ x ∈ c'.1.take j, x < z := fun x hx => by
      by_cases q : 0 < j
      · have := hlast q x hx; have := hlt q; omega
      · rw [show j = 0 by omega] at hx; simp at hx
    rw [hHas, obind_s]
    by_cases d5 : z ∈ P ++ c'.1.take j
    · rw [dT d5, cnd_t]
      refine bad rfl fun h => ?_
      rcases List.mem_append.1 d5 with q | q
      · exact h.2.2 z hz q
      · have := hall z q; omega
    · rw [dF d5, cnd_f, dT (show ((P ++ c'.1.take j).length + 1) * 8 ≤ 140737488355328 by omega), cnd_t, wr_m (by omega) (by omega)]
      refine .inl ⟨_, rfl, ?_, by omega, ?_⟩
      · rw [htj, List.append_assoc]; rfl
      · rw [htj]
        refine ⟨fun b hb => ?_, Up_snoc hmo.2.1 hall, fun x hx => ?_⟩
        · rcases List.mem_append.1 hb with q | q
          · exact hmo.1 b q
          · rw [List.mem_singleton.1 q]; omega
        · rcases List.mem_append.1 hx with q | q
          · exact hmo.2.2 x q
          · rw [List.mem_singleton.1 q]; exact fun q => d5 (List.mem_append_left _ q)
  by_cases d4 : (0 : Int) < j
  · rw [dT d4, cnd_t, wr_m (z := (j : Int) - 1) (by omega) (by omega), dT (show (0 : Int) ≤ (j : Int) - 1 by omega), dT (show (j : Int) - 1 < c'.1.length by omega), Bool.and_self, cnd_t, show ((j : Int) - 1).toNat = j - 1 by omega]
    by_cases d5 : z ≤ c'.1.getD (j - 1) 0
    · rw [dT d5, cnd_t]
      refine bad rfl fun h => ?_
      have hq := (h.take (j + 1)).2.1
      rw [htj, Up, List.pairwise_append] at hq
      have := hq.2.2 _ (hprev (by omega)) z (List.mem_singleton.2 rfl)
      omega
    · rw [dF d5, cnd_f]
      exact fin fun _ => by omega
  · rw [dF d4, cnd_f]
    exact fin fun q => by omega
theorem obind_post {α β : Type} {o : Option α} {f : α → Option β} {r : Option β} (P : α → Prop) (h : ∃ y, o = some y ∧ P y) (k : ∀ y, P y → f y = r) : obind o f = r := by
  obtain ⟨y, rfl, h⟩ := h
  exact k y h
theorem putL0 {α : Type} (l : List α) (x : α) (h : 0 < l.length) : (putL l [x] 0).length = l.length ∧ ∀ y ∈ putL l [x] 0, y = x ∨ y ∈ l := by
  unfold putL
  refine ⟨by simp; omega, fun y hy => ?_⟩
  rcases List.mem_append.1 hy with q | q
  · simp at q
  rcases List.mem_append.1 q with q | q
  · exact .inl (List.mem_singleton.1 q)
  · exact .inr (List.mem_of_mem_drop q)
/-- Both say the same. -/
theorem both (N : Nat) {D : List (List Int)} (hD : GD D) (h0 : Z0 D) (hN : 1000 ≤ N) (K : Int) {L : Lv} (hL : Lb L) : ∃ r, W_hier_May N (K, D, L) = some r ∧ W_ref7_May N (K, D, L) = some r := by
  by_cases hk : 1 ≤ K ∧ K ≤ 3
  · obtain ⟨r, e, h⟩ := hMay_any N hD h0 hk hN hL
    obtain ⟨s, e2, h2⟩ := rMay_any N hD h0 hk hN hL
    have : r = s := Bool.eq_iff_iff.2 (h.trans h2.symm)
    exact ⟨r, e, this ▸ e2⟩
  · refine ⟨false, ?_, ?_⟩
    · have hb : W_hier_begins N (K, D, L) = some false := by
        unfold W_hier_begins V_hier_begins
        try simp only
        rw [rttMay_eq N hD h0 hN, obind_s, cnd_t, obind_s]
        try simp only
        by_cases q : 1 ≤ K
        · rw [dT q, cnd_t, dF (show ¬ K ≤ 3 by omega)]
        · rw [dF q, cnd_f]
      unfold W_hier_May V_hier_May
      rw [hb, obind_s, cnd_f]
    · unfold W_ref7_May V_ref7_May
      try simp only
      rw [rNew_eq N hD h0 hN, obind_s, if_neg hk]
      try simp only
      rw [Bool.not_false, cnd_t]
theorem Hv.lb {N : Nat} {D : List (List Int)} (hD : GD D) {k : Int} (hk : 1 ≤ k ∧ k ≤ 3) (hN : 1000 ≤ N) {L : Lv} (h : Hv N D k L) : L.length ≤ 8 ∧ ∀ l ∈ L, l.length ≤ 8 ∧ ∀ c ∈ l, c.1.length ≤ 8 := by
  obtain ⟨b1, b2⟩ := h.b N hD hk hN
  exact ⟨b1, fun l hl => ⟨(b2 l hl).1, (b2 l hl).2.2⟩⟩
theorem law_aux (N : Nat) (hN : 1000 ≤ N) (hbeg : W_law9_begun N () = some true) (x : List Int) (who least which tv : Int) (hx : U8 x) (hz : 0 ≤ least ∧ least ≤ 255) (hw : 0 ≤ which) (h6 : which % 7 ≠ 6) : W_law9_HierMay N (x, who, least, which, tv) = some true := by
  unfold W_law9_HierMay V_law9_HierMay
  try simp only
  rw [hbeg, obind_s, Bool.not_true, cnd_f]
  by_cases c1 : (30 : Int) < x.length
  · rw [dT c1, cnd_t]
  rw [dF c1, cnd_f]
  have hM : ∀ l, W_Made N l = some (l, 0) := fun l => rfl
  obtain ⟨D, n', e1, hD, h0⟩ := Dist_spec0 N x 0 hx (by omega) (by omega) (by omega)
  have hk1 : 0 ≤ Int.tmod least 3 := Int.tmod_nonneg _ hz.1
  have hk2 : Int.tmod least 3 < 3 := Int.tmod_lt_of_pos _ (by omega)
  have ht : Int.tmod which 7 = which % 7 := Int.tmod_eq_emod_of_nonneg hw
  rw [hM, obind_s, e1, obind_s]
  try simp only
  rw [wr_m (z := Int.tmod least 3) (by omega) (by omega), wr_m (z := 1 + Int.tmod least 3) (by omega) (by omega), ht]
  generalize Int.tmod least 3 = k0 at hk1 hk2 ⊢
  obtain ⟨k, hk⟩ : ∃ k, 1 + k0 = k := ⟨_, rfl⟩
  rw [hk]
  have hk : 1 ≤ k ∧ k ≤ 3 := by omega
  have ht0 : which % 7 < 6 := by omega
  have ht9 : 0 ≤ which % 7 := by omega
  clear ht
  generalize which % 7 = t at h6 ht0 ht9 ⊢
  rw [rNew_eq N hD h0 hN, if_pos hk, obind_s]
  refine loop_post (σ := Int × Hr) (ρ := Hr) (β := Bool) (fun o => o = some true) (fun v => ∃ (i : Nat) (L : Lv), v = ((i : Int), (k, D, L)) ∧ i ≤ 8 ∧ Hv N D k L) (fun v => 8 - v.1.toNat) (fun r => ∃ L : Lv, r = (k, D, L) ∧ Hv N D k L) ⟨0, [], rfl, by omega, ⟨.inl rfl⟩⟩ (by simp; omega) ?_ ?_
  rotate_left
  · rintro v ⟨i, L, rfl, hi, hv⟩
    try simp only
    by_cases c : (i : Int) < 8
    case neg => right; rw [dF c, cnd_f]; exact ⟨_, rfl, L, rfl, hv⟩
    left
    rw [dT c, cnd_t, dF (show ¬ (i : Int) < 0 by omega), Bool.not_false, cnd_t, wr_m (z := (i : Int) + 1) (by omega) (by omega)]
    obtain ⟨L', _, e2, hv'⟩ := RJoin N hD h0 hk hN hv ((i : Int) + 1)
    generalize decide (wr .u8 _ = (1 : Int)) = bit
    cases bit with
    | true =>
      rw [cnd_t, e2, obind_s]
      exact ⟨_, rfl, ⟨i + 1, L', rfl, by omega, hv'⟩, by simp only; omega⟩
    | false =>
      rw [cnd_f]
      exact ⟨_, rfl, ⟨i + 1, L, rfl, by omega, hv⟩, by simp only; omega⟩
  rintro r ⟨L, rfl, hv⟩
  obtain ⟨b1, b2⟩ := hv.lb hD hk hN
  have hLb : Lb L := ⟨by omega, fun l hl => by obtain ⟨q1, q2⟩ := b2 l hl; exact ⟨by omega, fun c hc => by have := q2 c hc; omega⟩⟩
  rw [May_eq N hD h0 hk hN hv, obind_s, Bool.not_true, cnd_f]
  try simp only
  rw [dT (show L.length * 24 ≤ 140737488355328 by omega), cnd_t]
  refine obind_post (fun y : Hr × Hr => y.1 = (k, D, L) ∧ ∃ K L', y.2 = (K, D, L') ∧ Lb L') ?_ ?_
  rotate_left
  · rintro ⟨a, b⟩ ⟨e, K, L', e2, hb⟩
    simp only at e e2
    subst e e2
    obtain ⟨r, q1, q2⟩ := both N hD h0 hN K hb
    try simp only
    rw [q1, obind_s, q2, obind_s, show (r == r) = true by cases r <;> rfl, cnd_t, rMay_eq N hD h0 hN, obind_s]
  by_cases t0 : t = 0
  · rw [dT t0, cnd_t]; exact ⟨_, rfl, rfl, tv, L, rfl, hLb⟩
  rw [dF t0, cnd_f]
  have same : ∃ y : Hr × Hr, (some ((k, D, L), (k, D, L)) : Option (Hr × Hr)) = some y ∧ y.1 = (k, D, L) ∧ ∃ K L', y.2 = (K, D, L') ∧ Lb L' := ⟨_, rfl, rfl, k, L, rfl, hLb⟩
  by_cases t1 : t = 1
  · rw [dT t1, cnd_t]
    by_cases c : (0 : Int) < L.length
    · rw [dT c, cnd_t, wr_m (z := (L.length : Int) - 1) (by omega) (by omega), dT (show Option.getD none (0 : Int) ≤ (L.length : Int) - 1 by show (0 : Int) ≤ _; omega), cnd_t, dT (show ((0 : Nat) : Int) + ((L.length : Int) - 1) ≤ L.length by omega), cnd_t]
      refine ⟨_, rfl, rfl, k, _, rfl, ?_, fun l hl => hLb.2 l (List.mem_of_mem_take (List.mem_of_mem_drop hl))⟩
      rw [List.length_drop, List.length_take]; omega
    · rw [dF c, cnd_f]; exact same
  rw [dF t1, cnd_f]
  by_cases t2 : t = 2
  · rw [dT t2, cnd_t]
    by_cases c : (0 : Int) < L.length
    · rw [dT c, cnd_t, wr_m (z := (L.length : Int) - 1) (by omega) (by omega), dT (show (0 : Int) ≤ (L.length : Int) - 1 by omega), dT (show (L.length : Int) - 1 < L.length by omega), Bool.and_self, cnd_t, dT (show (L.length + 1) * 24 ≤ 140737488355328 by omega), cnd_t]
      refine ⟨_, rfl, rfl, k, _, rfl, by rw [List.length_append]; simp; omega, fun l hl => ?_⟩
      rcases List.mem_append.1 hl with q | q
      · exact hLb.2 l q
      · rw [List.mem_singleton.1 q]
        exact hLb.2 _ (getD_memL (by omega))
    · rw [dF c, cnd_f]; exact same
  rw [dF t2, cnd_f]
  have hgr : 0 < L.length → 0 < (L.getD 0 []).length := fun q => by have := hv.g.2; omega
  by_cases t3 : t = 3
  · rw [dT t3, cnd_t]
    by_cases c : (0 : Int) < L.length
    · have hgl := hgr (by omega)
      obtain ⟨q1, q2⟩ := b2 _ (getD_memL (L := L) (i := 0) (by omega))
      have hm := q2 _ (getD_memC (l := L.getD 0 []) (i := 0) hgl)
      rw [dT c, cnd_t, dT (show (0 : Int) ≤ 0 by omega), Bool.and_self, cnd_t, dT (show (L.getD 0 []).length * 32 ≤ 140737488355328 by omega), cnd_t, dT (show (0 : Int) < (L.getD 0 []).length by omega), Bool.and_self, cnd_t, cnd_t]
      obtain ⟨p1, p2⟩ := putL0 (L.getD 0 []) (((L.getD 0 []).getD 0 cD).1, tv) hgl
      obtain ⟨p3, p4⟩ := putL0 L (putL (L.getD 0 []) [(((L.getD 0 []).getD 0 cD).1, tv)] 0) (by omega)
      refine ⟨_, rfl, rfl, k, _, rfl, Nat.le_trans (Nat.le_of_eq p3) (by omega), fun l hl => ?_⟩
      rcases p4 l hl with rfl | q
      · refine ⟨by omega, fun c hc => ?_⟩
        rcases p2 c hc with rfl | q
        · show ((L.getD 0 []).getD 0 cD).1.length ≤ 20; omega
        · have := q2 c q; omega
      · exact hLb.2 l q
    · rw [dF c, cnd_f]; exact same
  rw [dF t3, cnd_f]
  by_cases t4 : t = 4
  · rw [dT t4, cnd_t]
    by_cases c : (0 : Int) < L.length
    · have hgl := hgr (by omega)
      obtain ⟨q1, q2⟩ := b2 _ (getD_memL (L := L) (i := 0) (by omega))
      have hm := q2 _ (getD_memC (l := L.getD 0 []) (i := 0) hgl)
      have hm' : (List.getD (L.getD 0 []) 0 (([] : List Int), (0 : Int))).1.length ≤ 8 := hm
      rw [dT c, cnd_t, dT (show (0 : Int) ≤ 0 by omega), Bool.and_self, cnd_t, dT (show (L.getD 0 []).length * 32 ≤ 140737488355328 by omega), cnd_t, dT (show (0 : Int) < (L.getD 0 []).length by omega), Bool.and_self, cnd_t, dT (show (List.getD (L.getD 0 []) 0 (([] : List Int), (0 : Int))).1.length * 8 ≤ 140737488355328 by omega), cnd_t, dT (show ((List.getD (L.getD 0 []) 0 (([] : List Int), (0 : Int))).1.length + [tv].length) * 8 ≤ 140737488355328 by have : [tv].length = 1 := rfl; omega), cnd_t, cnd_t, cnd_t]
      obtain ⟨p1, p2⟩ := putL0 (L.getD 0 []) (((L.getD 0 []).getD 0 cD).1 ++ [tv], ((L.getD 0 []).getD 0 cD).2) hgl
      obtain ⟨p3, p4⟩ := putL0 L (putL (L.getD 0 []) [(((L.getD 0 []).getD 0 cD).1 ++ [tv], ((L.getD 0 []).getD 0 cD).2)] 0) (by omega)
      refine ⟨_, rfl, rfl, k, _, rfl, Nat.le_trans (Nat.le_of_eq p3) (by omega), fun l hl => ?_⟩
      rcases p4 l hl with rfl | q
      · refine ⟨by omega, fun c hc => ?_⟩
        rcases p2 c hc with rfl | q
        · show (((L.getD 0 []).getD 0 cD).1 ++ [tv]).length ≤ 20
          rw [List.length_append]; simp only [List.length_cons, List.length_nil]; omega
        · have := q2 c q; omega
      · exact hLb.2 l q
    · rw [dF c, cnd_f]; exact same
  rw [dF t4, cnd_f]
  have t5 : t = 5 := by omega
  rw [dT t5, cnd_t, dT (show (L.length + 1) * 24 ≤ 140737488355328 by omega), cnd_t]
  refine ⟨_, rfl, rfl, k, _, rfl, by rw [List.length_append]; simp; omega, fun l hl => ?_⟩
  rcases List.mem_append.1 hl with q | q
  · exact hLb.2 l q
  · rw [List.mem_singleton.1 q]
    exact ⟨by simp, fun c hc => by simp at hc⟩
def NN : Nat := 1000
theorem begun_hm : W_law9_begun NN () = some true := by decide +kernel
theorem law_true (y0 : List Int) (y1 : Int) (y2 : Int) (y3 : Int) (y4 : Int) (h0 : Twf (.list (.int .u8)) y0) (h1 : Twf (.int .u8) y1) (h2 : Twf (.int .u8) y2) (h3 : Twf (.int .u8) y3) (h4 : Twf (.int .i64) y4) (h6 : y3 % 7 ≠ 6) : W_law9_HierMay NN (y0, y1, y2, y3, y4) = some true :=
  law_aux NN (Nat.le_refl _) begun_hm y0 y1 y2 y3 y4 h0.2 h2 h3.1 h6
theorem dFi {p : Prop} {i : Decidable p} (h : ¬ p) : @decide p i = false := decide_eq_false h
theorem loop_congr {σ ρ : Type} {f g : σ → Option (σ ⊕ ρ)} (I : σ → Prop) (h : ∀ x, I x → f x = g x ∧ ∀ y, f x = some (.inl y) → I y) : ∀ (n : Nat) (x : σ), I x → loopN n f x = loopN n g x
  | 0, _, _ => rfl
  | n + 1, x, hx => by
    obtain ⟨h1, h2⟩ := h x hx
    simp only [loopN, ← h1]
    cases e : f x with
    | none => rfl
    | some r =>
      cases r with
      | inl y => exact loop_congr I h n y (h2 y e)
      | inr r => rfl
theorem within_any (N : Nat) (v : Int) : W_rtt_within N v = some (min (max v 0) 1000) := rfl
theorem cell {α : Type} {p1 p2 p3 p4 p5 p6 : Prop} {i1 : Decidable p1} {i2 i2' : Decidable p2} {i3 i3' : Decidable p3} {i4 i4' : Decidable p4} {i5 : Decidable p5} {i6 : Decidable p6} {X Y : Option α} (h : p1 ↔ p5 ∨ p6) :
    (obind (cnd (@decide p1 i1) (some true) (some (@decide p2 i2))) fun (b : Bool) => cnd b X (cnd (@decide p3 i3) (cnd (@decide p4 i4) X Y) Y)) = cnd (@decide p5 i5) X (cnd (@decide p6 i6) X (cnd (@decide p2 i2') X (cnd (@decide p3 i3') (cnd (@decide p4 i4') X Y) Y))) ∧
    ((obind (cnd (@decide p1 i1) (some true) (some (@decide p2 i2))) fun (b : Bool) => cnd b X (cnd (@decide p3 i3) (cnd (@decide p4 i4) X Y) Y)) = X ∨ (obind (cnd (@decide p1 i1) (some true) (some (@decide p2 i2))) fun (b : Bool) => cnd b X (cnd (@decide p3 i3) (cnd (@decide p4 i4) X Y) Y)) = Y) := by
  by_cases h5 : p5
  · rw [@dTi p1 i1 (h.2 (.inl h5)), cnd_t, obind_s, cnd_t, @dTi p5 i5 h5, cnd_t]; exact ⟨rfl, .inl rfl⟩
  by_cases h6 : p6
  · rw [@dTi p1 i1 (h.2 (.inr h6)), cnd_t, obind_s, cnd_t, @dFi p5 i5 h5, cnd_f, @dTi p6 i6 h6, cnd_t]; exact ⟨rfl, .inl rfl⟩
  rw [@dFi p1 i1 (fun q => Or.elim (h.1 q) h5 h6), cnd_f, obind_s, @dFi p5 i5 h5, cnd_f, @dFi p6 i6 h6, cnd_f]
  by_cases h2 : p2
  · rw [@dTi p2 i2 h2, cnd_t, @dTi p2 i2' h2, cnd_t]; exact ⟨rfl, .inl rfl⟩
  rw [@dFi p2 i2 h2, cnd_f, @dFi p2 i2' h2, cnd_f]
  by_cases h3 : p3
  · rw [@dTi p3 i3 h3, cnd_t, @dTi p3 i3' h3, cnd_t]
    by_cases h4 : p4
    · rw [@dTi p4 i4 h4, cnd_t, @dTi p4 i4' h4, cnd_t]; exact ⟨rfl, .inl rfl⟩
    · rw [@dFi p4 i4 h4, cnd_f, @dFi p4 i4' h4, cnd_f]; exact ⟨rfl, .inr rfl⟩
  · rw [@dFi p3 i3 h3, cnd_f, @dFi p3 i3' h3, cnd_f]; exact ⟨rfl, .inr rfl⟩
/-- Of any rows: the program's May is the reference's. -/
theorem May_same (N : Nat) (D : List (List Int)) (hN : 1000 ≤ N) : W_rtt_May N D = W_ref1_MayDist N D := by
  unfold W_rtt_May V_rtt_May W_ref1_MayDist V_ref1_MayDist
  by_cases hl : (D.length : Int) ≠ 8
  · rw [dT hl, cnd_t, cnd_t]
  have hl : D.length = 8 := by omega
  rw [dF (show ¬ (D.length : Int) ≠ 8 by omega), cnd_f, cnd_f]
  obtain ⟨r, e, hr⟩ := loopN_run (f := fun (v : Int) => cnd (decide (v < (↑(List.length D) : Int))) (cnd (decide ((0 : Int) ≤ v) && decide (v < (↑(List.length D) : Int))) (cnd (decide ((↑(List.length (List.getD D (Int.toNat v) [])) : Int) ≠ (8 : Int))) (some (Sum.inr (Sum.inr false : Unit ⊕ Bool))) (some (Sum.inl (wr .i64 (v + (1 : Int)))))) none) (some (Sum.inr (Sum.inl ())))) (fun v => ∃ i : Nat, v = i ∧ i ≤ 8 ∧ ∀ j, j < i → (D.getD j []).length = 8) (fun v => 8 - v.toNat) (fun r => (r = .inl () ∧ ∀ j, j < 8 → (D.getD j []).length = 8) ∨ r = .inr false) (fun v => by
    rintro ⟨i, rfl, hi, ha⟩
    by_cases c : (i : Int) < D.length
    case neg =>
      right
      rw [dF c, cnd_f]
      exact ⟨_, rfl, .inl ⟨rfl, fun j hj => ha j (by omega)⟩⟩
    rw [dT c, cnd_t, dT (show (0 : Int) ≤ (i : Int) by omega), Bool.and_self, cnd_t, Int.toNat_natCast]
    by_cases c2 : ((D.getD i []).length : Int) ≠ 8
    · right
      rw [dT c2, cnd_t]
      exact ⟨_, rfl, .inr rfl⟩
    · left
      rw [dF c2, cnd_f, wr_m (by omega) (by omega)]
      refine ⟨_, rfl, ⟨i + 1, by omega, by omega, fun j hj => ?_⟩, by omega⟩
      by_cases q : j = i
      · subst q; omega
      · exact ha j (by omega)) N 0 ⟨0, rfl, by omega, fun j hj => by omega⟩ (by simp; omega)
  refine (congrArg (fun o => obind o _) e).trans (Eq.symm ((congrArg (fun o => obind o _) e).trans (Eq.symm ?_)))
  rw [obind_s, obind_s]
  rcases hr with ⟨rfl, h8⟩ | rfl
  case inr => rfl
  rw [selim_l, selim_l]
  have key : ∀ (f g : Int → Option (Int ⊕ (Unit ⊕ Bool))) (k : Unit ⊕ Bool → Option Bool), (∀ i : Nat, i ≤ 8 → f i = g i ∧ ∀ y, f i = some (.inl y) → ∃ j : Nat, y = j ∧ j ≤ 8) → obind (loopN N f 0) k = obind (loopN N g 0) k := fun f g k h => by
    rw [loop_congr (fun v : Int => ∃ i : Nat, v = i ∧ i ≤ 8) (fun v ⟨i, hv, hi⟩ => by subst hv; exact h i hi) N 0 ⟨0, rfl, by omega⟩]
  refine key _ _ _ fun i hi => ?_
  by_cases c : (i : Int) < D.length
  case neg => rw [dF c, cnd_f, cnd_f]; exact ⟨rfl, fun y hy => by injection hy with hy; cases hy⟩
  have hr := h8 i (by omega)
  simp only [dT (show (i : Int) < ((8 : Nat) : Int) by omega), dT (show (0 : Int) ≤ (i : Int) by omega), Bool.and_self, cnd_t, Int.toNat_natCast, hr, hl]
  have key2 : ∀ (f g : Int → Option (Int ⊕ (Unit ⊕ Bool))), (∀ j : Nat, j ≤ 8 → f j = g j ∧ ∀ y, f j = some (.inl y) → ∃ i : Nat, y = i ∧ i ≤ 8) → loopN N f 0 = loopN N g 0 := fun f g h => loop_congr (fun v : Int => ∃ i : Nat, v = i ∧ i ≤ 8) (fun v ⟨i, hv, hi⟩ => by subst hv; exact h i hi) N 0 ⟨0, rfl, by omega⟩
  refine ⟨congrArg (fun o => obind o _) (key2 _ _ fun j hj => ?_), fun y hy => ?_⟩
  · by_cases c2 : (j : Int) < ((8 : Nat) : Int)
    case neg => rw [dF c2, cnd_f, cnd_f]; exact ⟨rfl, fun y hy => by injection hy with hy; cases hy⟩
    have hr2 := h8 j (by omega)
    simp only [dT c2, dT (show (0 : Int) ≤ (j : Int) by omega), dT (show (i : Int) < ((8 : Nat) : Int) by omega), Bool.and_self, cnd_t, Int.toNat_natCast, hr2, within_any, obind_s]
    rw [wr_m (z := (j : Int) + 1) (by omega) (by omega)]
    have key3 : ∀ (P Q X Y : Option (Int ⊕ (Unit ⊕ Bool))), (P = Q ∧ (P = X ∨ P = Y)) → X = some (.inr (.inr false)) → Y = some (.inl ((j : Int) + 1)) → P = Q ∧ ∀ y, P = some (.inl y) → ∃ i : Nat, y = i ∧ i ≤ 8 := fun P Q X Y h hX hY => by
      refine ⟨h.1, fun y hy => ?_⟩
      rcases h.2 with q | q
      · rw [q, hX] at hy; injection hy with hy; cases hy
      · rw [q, hY] at hy; injection hy with hy; injection hy with hy; exact ⟨j + 1, by omega, by omega⟩
    exact key3 _ _ _ _ (cell (by omega)) rfl rfl
  · have : ∀ (o : Option (Unit ⊕ Bool)), obind o (fun (b : Unit ⊕ Bool) => selim (fun (b : Unit) => some (Sum.inl (wr .i64 ((i : Int) + (1 : Int))) : Int ⊕ (Unit ⊕ Bool))) (fun (c : Bool) => some (Sum.inr (Sum.inr c))) b) = some (.inl y) → y = (i : Int) + 1 := fun o h => by
      cases o with
      | none => cases h
      | some b =>
        cases b with
        | inl u =>
          rw [obind_s, selim_l, wr_m (by omega) (by omega)] at h
          injection h with h; injection h with h; exact h.symm
        | inr b => rw [obind_s, selim_r] at h; injection h with h; cases h
    exact ⟨i + 1, by have := this _ hy; omega, by omega⟩
theorem modD_same {D : List (List Int)} (hD : GD D) {tv : Int} (h : tv = gd D 0 1) : D.modify 0 (·.set 1 tv) = D := by
  have hl := hD.len
  cases D with
  | nil => simp at hl
  | cons a r =>
    have hr := hD.row 0 (by omega)
    have hr : a.length = 8 := hr
    rw [List.modify_zero_cons]
    congr 1
    unfold gd at h
    have h : tv = a.getD 1 0 := h
    rw [h, List.getD_eq_getElem?_getD, List.getElem?_eq_getElem (by omega)]
    exact List.set_getElem_self (by omega)
theorem modD_bad (N : Nat) {D : List (List Int)} (hD : GD D) (h0 : Z0 D) (hN : 1000 ≤ N) {tv : Int} (h : tv ≠ gd D 0 1) : W_ref1_MayDist N (D.modify 0 (·.set 1 tv)) = some false := by
  have hl := hD.len
  obtain ⟨a, r, rfl⟩ : ∃ a r, D = a :: r := by
    cases D with
    | nil => simp at hl
    | cons a r => exact ⟨a, r, rfl⟩
  rw [List.modify_zero_cons]
  have ha : a.length = 8 := hD.row 0 (by omega)
  have hrow : ∀ i, i < 8 → ((a.set 1 tv :: r).getD i []).length = 8 := fun i hi => by
    cases i with
    | zero => show (a.set 1 tv).length = 8; rw [List.length_set]; exact ha
    | succ i => exact hD.row (i + 1) hi
  have hlen : (a.set 1 tv :: r).length = 8 := hl
  have g00 : a.getD 0 0 = 0 := h0 0 (by omega)
  have g01 : a.getD 1 0 ≠ tv := fun e => h e.symm
  have g10 : (r.getD 0 []).getD 0 0 = a.getD 1 0 := (hD.sym 1 0 (by omega) (by omega))
  have x0 : (a.set 1 tv).getD 0 0 = 0 := by rw [List.getD_eq_getElem?_getD, List.getElem?_set_ne (by omega), ← List.getD_eq_getElem?_getD]; exact g00
  have x1 : (a.set 1 tv).getD 1 0 = tv := by rw [List.getD_eq_getElem?_getD, List.getElem?_set_self (by omega)]; rfl
  obtain ⟨D', hD'⟩ : ∃ D', a.set 1 tv :: r = D' := ⟨_, rfl⟩
  have y00 : (D'.getD 0 []).getD 0 0 = 0 := by rw [← hD']; exact x0
  have y01 : (D'.getD 0 []).getD 1 0 = tv := by rw [← hD']; exact x1
  have y10 : (D'.getD 1 []).getD 0 0 ≠ tv := by rw [← hD']; show (r.getD 0 []).getD 0 0 ≠ tv; rw [g10]; exact g01
  rw [hD'] at hrow hlen ⊢
  unfold W_ref1_MayDist V_ref1_MayDist
  try simp only
  rw [dF (show ¬ (D'.length : Int) ≠ 8 by omega), cnd_f]
  refine loop_post (σ := Int) (ρ := Unit ⊕ Bool) (β := Bool) (fun o => o = some false) (fun v => ∃ i : Nat, v = i ∧ i ≤ 8) (fun v => 8 - v.toNat) (fun r => r = .inl ()) ⟨0, rfl, by omega⟩ (by simp; omega) ?_ ?_
  rotate_left
  · rintro v ⟨i, rfl, hi⟩
    by_cases c : (i : Int) < D'.length
    case neg => right; rw [dF c, cnd_f]; exact ⟨_, rfl, rfl⟩
    left
    have hr := hrow i (by omega)
    refine ⟨((i + 1 : Nat) : Int), ?_, ⟨i + 1, rfl, by omega⟩, by omega⟩
    rw [dT c, cnd_t, dT (show (0 : Int) ≤ (i : Int) by omega), Bool.and_self, cnd_t, Int.toNat_natCast, dF (show ¬ ((D'.getD i []).length : Int) ≠ 8 by omega), cnd_f, wr_m (by omega) (by omega)]
    rfl
  rintro r rfl
  rw [selim_l]
  refine loop_post (σ := Int) (ρ := Unit ⊕ Bool) (β := Bool) (fun o => o = some false) (fun v => v = 0) (fun v => 0) (fun r => r = .inr false) rfl (by omega) (fun r h => by rw [h, selim_r]) ?_
  rintro v rfl
  right
  rw [dT (show (0 : Int) < D'.length by omega), cnd_t]
  refine loop_post (σ := Int) (ρ := Unit ⊕ Bool) (β := Int ⊕ (Unit ⊕ Bool)) (fun o => ∃ r, o = some (.inr r) ∧ r = .inr false) (fun v => v = 0 ∨ v = 1) (fun v => 2 - v.toNat) (fun r => r = .inr false) (.inl rfl) (by simp; omega) (fun r h => ?_) ?_
  · rw [h, selim_r]; exact ⟨_, rfl, rfl⟩
  have hr0 := hrow 0 (by omega)
  have hr1 := hrow 1 (by omega)
  rintro v (rfl | rfl)
  · left
    refine ⟨1, ?_, .inr rfl, by decide⟩
    simp only [show (0 : Int).toNat = 0 from rfl, hr0, dT (show (0 : Int) < D'.length by omega), dT (show (0 : Int) ≤ 0 by omega), dT (show (0 : Int) < ((8 : Nat) : Int) by omega), Bool.and_self, cnd_t, y00]
    rw [dF (show ¬ (0 : Int) < 0 by omega), cnd_f, dF (show ¬ (1000 : Int) < 0 by omega), cnd_f]
    refine (cnd_F (p := (0 : Int) ≠ 0) (fun q => q rfl)).trans ?_
    refine (cnd_T trivial).trans ((cnd_F (p := (0 : Int) ≠ 0) (fun q => q rfl)).trans ?_); rfl
  · right
    simp only [show (0 : Int).toNat = 0 from rfl, show (1 : Int).toNat = 1 from rfl, hr0, hr1, dT (show (0 : Int) < D'.length by omega), dT (show (1 : Int) < D'.length by omega), dT (show (0 : Int) ≤ 0 by omega), dT (show (0 : Int) ≤ 1 by omega), dT (show (0 : Int) < ((8 : Nat) : Int) by omega), dT (show (1 : Int) < ((8 : Nat) : Int) by omega), Bool.and_self, cnd_t, y01]
    by_cases c1 : tv < 0
    · rw [dT c1, cnd_t]; exact ⟨_, rfl, rfl⟩
    rw [dF c1, cnd_f]
    by_cases c2 : 1000 < tv
    · rw [dT c2, cnd_t]; exact ⟨_, rfl, rfl⟩
    rw [dF c2, cnd_f]
    refine ⟨_, (cnd_T (fun q => y10 q.symm)).trans rfl, rfl⟩
theorem hm_pure (N : Nat) (hN : 1000 ≤ N) {D : List (List Int)} (hD : GD D) (h0 : Z0 D) {k : Int} (hk : 1 ≤ k ∧ k ≤ 3) (tv : Int) : ∃ I : Hr → Prop, (∃ r, W_ref7_New N (D, k) = some r ∧ I r.2) ∧ (∀ h i, I h → 1 ≤ i → i ≤ 8 → ∃ r, W_ref7_Join N (h, i) = some r ∧ I r) ∧
    ∀ h : Hr, I h → h.1 = k ∧ h.2.1 = D ∧ h.2.2.length ≤ 1000 ∧ W_hier_May N h = some true ∧ W_ref1_MayDist N h.2.1 = some true ∧ ∃ b, W_hier_May N (h.1, h.2.1.modify 0 (·.set 1 tv), h.2.2) = some b ∧ W_ref7_May N (h.1, h.2.1.modify 0 (·.set 1 tv), h.2.2) = some b := by
  refine ⟨fun h => ∃ L, h = (k, D, L) ∧ Hv N D k L, ⟨_, rNew_eq N hD h0 hN, ?_⟩, ?_, ?_⟩
  · rw [if_pos hk]; exact ⟨[], rfl, ⟨.inl rfl⟩⟩
  · rintro h i ⟨L, rfl, hv⟩ _ _
    obtain ⟨L', _, e, hv'⟩ := RJoin N hD h0 hk hN hv i
    exact ⟨_, e, L', rfl, hv'⟩
  · rintro h ⟨L, rfl, hv⟩
    obtain ⟨b1, b2⟩ := hv.lb hD hk hN
    have hLb : Lb L := ⟨by omega, fun l hl => by obtain ⟨q1, q2⟩ := b2 l hl; exact ⟨by omega, fun c hc => by have := q2 c hc; omega⟩⟩
    refine ⟨rfl, rfl, by show L.length ≤ 1000; omega, May_eq N hD h0 hk hN hv, rMay_eq N hD h0 hN, ?_⟩
    try simp only
    by_cases ht : tv = gd D 0 1
    · rw [modD_same hD ht]; exact both N hD h0 hN k hLb
    · have hb := modD_bad N hD h0 hN ht
      refine ⟨false, ?_, ?_⟩
      · unfold W_hier_May V_hier_May W_hier_begins V_hier_begins
        try simp only
        rw [May_same N _ hN, hb, obind_s, cnd_f, obind_s, cnd_f, obind_s, cnd_f]
      · unfold W_ref7_May V_ref7_May W_ref7_New V_ref7_New
        try simp only
        rw [hb, obind_s, Bool.not_false, cnd_t, obind_s, cnd_t, obind_s, Bool.not_false, cnd_t]

theorem hmP_ok (k v : Int) (hk : 1 ≤ k ∧ k ≤ 3) : hmP (W_ref7_New NN) (W_ref7_Join NN) (W_hier_May NN) (W_ref7_May NN) (W_ref1_MayDist NN) k v := by
  intro D hs
  obtain ⟨I, h1, h2, h3⟩ := hm_pure NN (Nat.le_refl _) (D := D) ⟨hs.len, hs.row, hs.rng, hs.sym⟩ hs.dia hk v
  refine ⟨I, h1, h2, fun h hI => ?_⟩
  obtain ⟨q1, q2, q3, q4, q5, q6⟩ := h3 h hI
  exact ⟨q1, by rw [q2]; exact hs, q3, q4, q5, q6⟩
theorem spec6 (y0 : List Int) (y1 : Int) (y2 : Int) (y3 : Int) (y4 : Int) (h0 : Twf (.list (.int .u8)) y0) (h1 : Twf (.int .u8) y1) (h2 : Twf (.int .u8) y2) (h3 : Twf (.int .u8) y3) (h4 : Twf (.int .i64) y4) (h6 : y3 % 7 = 6) : Spec2 P0 5 [valW (.list (.int .u8)) y0, valW (.int .u8) y1, valW (.int .u8) y2, valW (.int .u8) y3, valW (.int .i64) y4] [] (.bs true) [] [] := by
  have hk : 1 ≤ 1 + y2 % 3 ∧ 1 + y2 % 3 ≤ 3 := by omega
  exact hm_spec (new := W_ref7_New NN) (join := W_ref7_Join NN) (may := W_hier_May NN) (mayR := W_ref7_May NN) (md := W_ref1_MayDist NN) (bTrueH_of ((con_law9_begun_ok NN).2 () true begun_hm)) (bNewH_of fun x r h => (con_ref7_New_ok NN).2 x r h) (bJoinH_of fun x r h => (con_ref7_Join_ok NN).2 x r h) (bMayH_of fun x r h => (con_hier_May_ok NN).2 x r h) (bMayH_of fun x r h => (con_ref7_May_ok NN).2 x r h) (bMay_of fun x r h => (con_ref1_MayDist_ok NN).2 x r h) h0.2 h1 h2 ⟨h3.1, h3.2, h6⟩ (hmP_ok _ y4 hk)
theorem spec (y0 : List Int) (y1 : Int) (y2 : Int) (y3 : Int) (y4 : Int) (h0 : Twf (.list (.int .u8)) y0) (h1 : Twf (.int .u8) y1) (h2 : Twf (.int .u8) y2) (h3 : Twf (.int .u8) y3) (h4 : Twf (.int .i64) y4) : Spec2 P0 5 [valW (.list (.int .u8)) y0, valW (.int .u8) y1, valW (.int .u8) y2, valW (.int .u8) y3, valW (.int .i64) y4] [] (.bs true) [] [] := by
  by_cases h6 : y3 % 7 = 6
  · exact spec6 y0 y1 y2 y3 y4 h0 h1 h2 h3 h4 h6
  · exact (con_law9_HierMay_ok NN).2 (y0, y1, y2, y3, y4) true (law_true y0 y1 y2 y3 y4 h0 h1 h2 h3 h4 h6)
theorem lifted (os : Os) (started : os.Started) (H : Type) (enc : TypeId × Value → H) :
    ReturnsInHanded {} Try.checked os 5 .any (Rows.hierMaySpec.pre6 enc Try.prog Try.f5 Rows.hierMayRow.domain false) (Rows.hierMaySpec.post enc Try.prog Try.f5 false true false false) := by
  refine returnsInHanded_of_change (C := Try.checked) own started (by kernel_rfl) Try.func5
    (ChangeSpec.witness6 (enc := enc) (C := Try.checked) false ⟨#[], #[.slice none 0 0, .int .u8 0, .int .u8 0, .int .u8 0, .int .i64 0], []⟩ 8 (by kernel_rfl) (by kernel_rfl) (by kernel_rfl) (by kernel_rfl)) ?_
  intro W base args ds gs before hval0 hW hcnd _
  have hval : ∀ (j : Nat) t v, Try.f5.params[j]? = some t → args[j]? = some v → Value.okWide Try.prog W .any base t v := hval0
  have hW' := hW
  obtain ⟨p, q, hA0, hV, rfl, hfz, hnd⟩ := hW
  have hA : DataW.TrodAll enc Try.prog W 0 (fun _ => true) true Try.f5.params.toList args.toList ds p := hA0
  rw [Try.params5] at hA hval
  obtain ⟨v0, vs0, d0, ds0, p0, q0, hargs, rfl, rfl, h0, r0⟩ := trodAll_cons hA
  obtain ⟨v1, vs1, d1, ds1, p1, q1, rfl, rfl, rfl, h1, r1⟩ := trodAll_cons r0
  obtain ⟨v2, vs2, d2, ds2, p2, q2, rfl, rfl, rfl, h2, r2⟩ := trodAll_cons r1
  obtain ⟨v3, vs3, d3, ds3, p3, q3, rfl, rfl, rfl, h3, r3⟩ := trodAll_cons r2
  obtain ⟨v4, vs4, d4, ds4, p4, q4, rfl, rfl, rfl, h4, r4⟩ := trodAll_cons r3
  obtain ⟨rfl, rfl, rfl⟩ := trodAll_nil r4
  obtain rfl : args = #[v0, v1, v2, v3, v4] := by cases args; simp_all
  obtain ⟨rfl, rfl⟩ := trodVars_none hV
  have k0 := h0
  have lt0 : ∀ x ∈ p0, x.block < W.heap.size := by obtain ⟨m, hm⟩ := k0; exact DataW.trod_lt m _ _ _ hm
  obtain ⟨y0, rp0, wf0⟩ := arg_ok (n := 12) (ty := (.list (.int .u8))) (by kernel_rfl) (hval 0 _ v0 rfl rfl) h0
  have k1 := h1
  have lt1 : ∀ x ∈ p1, x.block < W.heap.size := by obtain ⟨m, hm⟩ := k1; exact DataW.trod_lt m _ _ _ hm
  obtain ⟨y1, rp1, wf1⟩ := arg_ok (n := 12) (ty := (.int .u8)) (by kernel_rfl) (hval 1 _ v1 rfl rfl) h1
  have k2 := h2
  have lt2 : ∀ x ∈ p2, x.block < W.heap.size := by obtain ⟨m, hm⟩ := k2; exact DataW.trod_lt m _ _ _ hm
  obtain ⟨y2, rp2, wf2⟩ := arg_ok (n := 12) (ty := (.int .u8)) (by kernel_rfl) (hval 2 _ v2 rfl rfl) h2
  have k3 := h3
  have lt3 : ∀ x ∈ p3, x.block < W.heap.size := by obtain ⟨m, hm⟩ := k3; exact DataW.trod_lt m _ _ _ hm
  obtain ⟨y3, rp3, wf3⟩ := arg_ok (n := 12) (ty := (.int .u8)) (by kernel_rfl) (hval 3 _ v3 rfl rfl) h3
  have k4 := h4
  have lt4 : ∀ x ∈ p4, x.block < W.heap.size := by obtain ⟨m, hm⟩ := k4; exact DataW.trod_lt m _ _ _ hm
  obtain ⟨y4, rp4, wf4⟩ := arg_ok (n := 12) (ty := (.int .i64)) (by kernel_rfl) (hval 4 _ v4 rfl rfl) h4
  clear hA0 hval0
  refine (law_of2 (spec y0 y1 y2 y3 y4 wf0 wf1 wf2 wf3 wf4) W #[v0, v1, v2, v3, v4] (.cons rp0 (.cons rp1 (.cons rp2 (.cons rp3 (.cons rp4 .nil)))))).mono fun e W' ⟨he, bel⟩ => ?_
  subst he
  exact ⟨_, rfl, _, _, _, [], _, [], hW', trodAll_mk1 (shut_bool Try.underlying4 _), (trodAll_cons_mk (Below.trod laidOut (by kernel_rfl) (of_decide_eq_true (by kernel_rfl)) k0 bel lt0) (trodAll_cons_mk (Below.trod laidOut (by kernel_rfl) (of_decide_eq_true (by kernel_rfl)) k1 bel lt1) (trodAll_cons_mk (Below.trod laidOut (by kernel_rfl) (of_decide_eq_true (by kernel_rfl)) k2 bel lt2) (trodAll_cons_mk (Below.trod laidOut (by kernel_rfl) (of_decide_eq_true (by kernel_rfl)) k3 bel lt3) (trodAll_cons_mk (Below.trod laidOut (by kernel_rfl) (of_decide_eq_true (by kernel_rfl)) k4 bel lt4) trodAll_mk0))))), rfl, bel.frame _, fun h => by cases h⟩

theorem over : Rows.hierMayRow.holds Try.pinned (OpenSpec.ofChange Rows.hierMaySpec) :=
  OpenClaim.holds_of_wide 5 Try.f5 rfl rfl rfl rfl rfl rfl rfl ⟨rfl, rfl, rfl, rfl, rfl⟩ rfl rfl rfl rfl rfl (by kernel_rfl) Try.func5 (by kernel_rfl)
    (of_decide_eq_true (by kernel_rfl)) (by unfold Func.isWrapper; first | (rw [if_pos (by decide +kernel)]; kernel_rfl) | (rw [if_neg (by decide +kernel)]; exact ⟨rfl, rfl⟩))
    (fun os started H enc _ => lifted os started H enc)

theorem holds : Rows.HierMaySaid := over
end Go.Proofs.Ytpohfnebmmjpdaa.hierMayX
