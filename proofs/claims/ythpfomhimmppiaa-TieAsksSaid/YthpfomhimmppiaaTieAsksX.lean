/- TieAsks: for all arguments the call returns true. The law is brought to a function of Lean's own (W_..) by the machine of the texts beside it, and that is reckoned; no condition. -/
import Derived.Test.YthpfomhimmppiaaTieAsksW0
namespace Go.Proofs.Ythpfomhimmppiaa.tieAsksX
open Go.Abs Go.RowKit Go.ChangeShapes Go.WideShapes Go.ChangeAt
set_option maxRecDepth 100000
set_option linter.unusedVariables false
set_option linter.unusedSimpArgs false
/-! What is reckoned. -/
-- PURE
theorem wr_m {z : Int} (h : -140737488355328 ≤ z) (h2 : z ≤ 140737488355328) : wr .i64 z = z := wr_i64 (by omega) (by omega)
theorem wr_s {z : Int} (h : 0 ≤ z) (h2 : z ≤ 140737488355328) : wr .i64 z = z := wr_i64 (by omega) (by omega)
theorem cnd_T {α : Type} {p : Prop} {i : Decidable p} {x y : α} (h : p) : cnd (@decide p i) x y = x := by rw [decide_eq_true h]; rfl
theorem loopG {σ ρ : Type} {f : σ → Option (σ ⊕ ρ)} (I : Nat → σ → Prop) (B : Nat) (J : ρ → Prop) (hb : ∀ k x, I k x → k ≤ B) (hs : ∀ k x, I k x → (∃ y, f x = some (.inl y) ∧ I (k + 1) y) ∨ ∃ r, f x = some (.inr r) ∧ J r) :
    ∀ (M k : Nat) (x : σ), I k x → B < M + k → ∃ r, loopN M f x = some r ∧ J r
  | 0, k, x, h, hm => by have := hb k x h; omega
  | M + 1, k, x, h, hm => by
    rcases hs k x h with ⟨y, h1, h2⟩ | ⟨r, h1, h2⟩
    · obtain ⟨r, h4, h5⟩ := loopG I B J hb hs M (k + 1) y h2 (by omega)
      exact ⟨r, by simp only [loopN, h1]; exact h4, h5⟩
    · exact ⟨r, by simp only [loopN, h1], h2⟩
theorem loop_G {σ ρ β : Type} {f : σ → Option (σ ⊕ ρ)} {g : ρ → Option β} {x : σ} {N : Nat} (Q : Option β → Prop) (I : Nat → σ → Prop) (B : Nat) (J : ρ → Prop) (hx : I 0 x) (hm : B < N) (hk : ∀ r, J r → Q (g r)) (hb : ∀ k x, I k x → k ≤ B)
    (hs : ∀ k x, I k x → (∃ y, f x = some (.inl y) ∧ I (k + 1) y) ∨ ∃ r, f x = some (.inr r) ∧ J r) : Q (obind (loopN N f x) g) := by
  obtain ⟨r, h1, h2⟩ := loopG I B J hb hs N 0 x hx (by omega)
  rw [h1]; exact hk r h2
theorem tm (x k : Int) (h : 0 ≤ x) : Int.tmod x k = x % k := Int.tmod_eq_emod_of_nonneg h
abbrev Kd := Int × Int × Int
abbrev kD : Kd := ((0 : Int), (0 : Int), (0 : Int))
abbrev Ms := Int × Int × Int × Int × Int × Int × List Int × Int × Int × List UInt8
abbrev TT := Int × Int × Int × Int × Int × Int × List Int × Int × Int × Int × Int × Int × List Kd
theorem drop_consK {l : List Kd} {i : Nat} (h : i < l.length) : l.drop i = l.getD i kD :: l.drop (i + 1) := by
  rw [List.drop_eq_getElem_cons h, List.getD_eq_getElem?_getD, List.getElem?_eq_getElem h]; rfl
theorem getD_memK {l : List Kd} {i : Nat} (h : i < l.length) : l.getD i kD ∈ l := by
  rw [List.getD_eq_getElem?_getD, List.getElem?_eq_getElem h]; exact List.getElem_mem h
/-- Kids that rise from n on. -/
def Kw (n : Int) : List Kd → Prop
  | [] => True
  | w :: r => n ≤ w.1 ∧ w.1 ≤ 8 ∧ Kw (w.1 + 1) r
theorem Kw.mono : ∀ {l : List Kd} {n n' : Int}, Kw n l → n' ≤ n → Kw n' l
  | [], _, _, _, _ => trivial
  | w :: r, n, n', h, h1 => ⟨by have := h.1; omega, h.2.1, h.2.2⟩
theorem Kw.len : ∀ {l : List Kd} {n : Int}, Kw n l → n ≤ 9 → (l.length : Int) ≤ 9 - n
  | [], _, _, _ => by simp; omega
  | w :: r, n, h, h1 => by
    have := h.2.2.len (by have := h.2.1; omega)
    have := h.1
    simp only [List.length_cons]; omega
theorem Kw.filter (p : Kd → Bool) : ∀ {l : List Kd} {n : Int}, Kw n l → Kw n (l.filter p)
  | [], _, _ => trivial
  | w :: r, n, h => by
    rw [List.filter_cons]
    split
    · exact ⟨h.1, h.2.1, Kw.filter p h.2.2⟩
    · exact (Kw.filter p h.2.2).mono (by have := h.1; omega)
theorem Kw.drop : ∀ {l : List Kd} {n : Int}, Kw n l → ∀ k, Kw n (l.drop k)
  | l, _, h, 0 => by simpa using h
  | [], _, _, k + 1 => by simp; trivial
  | w :: r, n, h, k + 1 => (h.2.2.drop k).mono (by have := h.1; omega)
/-- Whom a row has under a number. -/
def findK : List Kd → Int → Bool × Kd
  | [], _ => (false, kD)
  | w :: r, s => if w.1 = s then (true, w) else findK r s
theorem findK_none : ∀ {l : List Kd} {n : Int}, Kw n l → ∀ s, s < n → findK l s = (false, kD)
  | [], _, _, _, _ => rfl
  | w :: r, n, h, s, hs => by
    have := h.1
    simp only [findK]
    rw [if_neg (by omega)]
    exact findK_none h.2.2 s (by omega)
def insNK (x : Int) : List Kd → Nat
  | [] => 0
  | w :: r => if x ≤ w.1 then 0 else insNK x r + 1
/-- A kid in its place. -/
def putK (k : Kd) : List Kd → List Kd
  | [] => [k]
  | w :: r => if w.1 = k.1 then k :: r else if k.1 < w.1 then k :: w :: r else w :: putK k r
theorem insNK_le (x : Int) : ∀ l, insNK x l ≤ l.length
  | [] => by simp [insNK]
  | w :: r => by
    simp only [insNK, List.length_cons]
    have := insNK_le x r
    split <;> omega
theorem Kw.put : ∀ {l : List Kd} {n : Int} {k : Kd}, Kw n l → n ≤ k.1 → k.1 ≤ 8 → Kw n (putK k l)
  | [], _, _, _, h1, h2 => ⟨h1, h2, trivial⟩
  | w :: r, n, k, h, h1, h2 => by
    simp only [putK]
    by_cases c : w.1 = k.1
    · rw [if_pos c]; exact ⟨h1, h2, by rw [← c]; exact h.2.2⟩
    · rw [if_neg c]
      by_cases c2 : k.1 < w.1
      · rw [if_pos c2]; exact ⟨h1, h2, by omega, h.2.1, h.2.2⟩
      · rw [if_neg c2]; exact ⟨h.1, h.2.1, h.2.2.put (by omega) h2⟩
theorem seek_eq (N : Nat) (hN : 2000 ≤ N) (l : List Kd) (s n : Int) (hw : Kw n l) (hl : l.length ≤ 1000) : W_kids_seek N (l, s) = some (if (findK l s).1 = true then .inl ((insNK s l : Int), (findK l s).2) else .inr (insNK s l : Int)) := by
  unfold W_kids_seek V_kids_seek
  try simp only
  refine loop_G (N := N) (fun o => o = some (if (findK l s).1 = true then (.inl ((insNK s l : Int), (findK l s).2) : (Int × Kd) ⊕ Int) else .inr (insNK s l : Int))) (fun k (v : Int) => v = k ∧ k ≤ l.length ∧ findK (l.drop k) s = findK l s ∧ insNK s (l.drop k) + k = insNK s l) l.length
    (fun r : PUnit ⊕ (Int × Kd) ⊕ Int => (r = .inl () ∧ (findK l s).1 = false ∧ insNK s l = l.length) ∨ (r = .inr (if (findK l s).1 = true then (.inl ((insNK s l : Int), (findK l s).2) : (Int × Kd) ⊕ Int) else .inr (insNK s l : Int)))) ⟨rfl, by omega, rfl, by simp⟩ (by omega) ?_ (fun k v h => h.2.1) ?_
  · rintro r (⟨rfl, h, h2⟩ | rfl)
    · rw [selim_l, h, if_neg (by simp), h2]
    · rw [selim_r]
  · rintro k v ⟨e, hk, hg, hi⟩
    subst e
    by_cases c : (k : Int) < l.length
    case neg =>
      right
      rw [dF c, cnd_f]
      rw [List.drop_eq_nil_of_le (by omega)] at hg hi
      exact ⟨_, rfl, .inl ⟨rfl, by rw [← hg]; rfl, by simp only [insNK] at hi; omega⟩⟩
    have hwd := hw.drop k
    rw [drop_consK (by omega)] at hg hi hwd
    simp only [findK, insNK] at hg hi
    rw [dT c, cnd_t, dT (by omega), Bool.and_self, cnd_t, Int.toNat_natCast]
    by_cases c2 : (l.getD k kD).1 = s
    · right
      rw [if_pos c2] at hg
      rw [if_pos (by omega)] at hi
      rw [dT c2, cnd_t]
      refine ⟨_, rfl, .inr ?_⟩
      rw [← hg, if_pos rfl, ← hi]
      simp
    rw [if_neg c2] at hg
    rw [dF c2, cnd_f]
    by_cases c3 : s < (l.getD k kD).1
    · right
      rw [if_pos (by omega)] at hi
      rw [dT c3, cnd_t]
      have := findK_none hwd.2.2 s (by omega)
      rw [this] at hg
      refine ⟨_, rfl, .inr ?_⟩
      rw [← hg, if_neg (by simp)]
      congr 2; omega
    · left
      rw [if_neg (by omega)] at hi
      rw [dF c3, cnd_f, wr_m (by omega) (by omega)]
      exact ⟨_, rfl, by omega, by omega, hg, by omega⟩
theorem find_eq (N : Nat) (hN : 2000 ≤ N) (l : List Kd) (s n : Int) (hw : Kw n l) (hl : l.length ≤ 1000) : W_kids_Find N (l, s) = some (findK l s) := by
  unfold W_kids_Find V_kids_Find
  rw [seek_eq N hN l s n hw hl, obind_s]
  have hnone : ∀ (l : List Kd), (findK l s).1 = false → findK l s = (false, kD) := by
    intro l
    induction l with
    | nil => intro _; rfl
    | cons w r ih =>
      intro h
      simp only [findK] at h ⊢
      split at h
      · cases h
      · rename_i q; rw [if_neg q]; exact ih h
  cases h : (findK l s).1 with
  | true => rw [if_pos rfl, selim_l, ← h]
  | false => rw [if_neg (by simp), selim_r, hnone l h]
def oldK (l : List Kd) (id inc : Int) : Bool := (findK l id).1 && decide (inc < (findK l id).2.2.1)
theorem old_eq (N : Nat) (hN : 2000 ≤ N) (l : List Kd) (s inc n : Int) (hw : Kw n l) (hl : l.length ≤ 1000) : W_kids_Old N (l, s, inc) = some (oldK l s inc) := by
  unfold W_kids_Old V_kids_Old oldK
  try simp only
  rw [find_eq N hN l s n hw hl, obind_s]
  cases h : (findK l s).1 with
  | true => rw [cnd_t, Bool.true_and]
  | false => rw [cnd_f, Bool.false_and]
theorem pCloneK (N : Nat) (l : List Kd) (hl : l.length ≤ 100000000) : W_slices_Clone_api_Kid N l = some l := by
  unfold W_slices_Clone_api_Kid V_slices_Clone_api_Kid
  rw [cnd_T (by omega)]
theorem pCloneN (N : Nat) (l : List Int) (hl : l.length ≤ 100000000) : W_slices_Clone_int N l = some l := by
  unfold W_slices_Clone_int V_slices_Clone_int
  rw [cnd_T (by omega)]
theorem putK_in : ∀ (l : List Kd) (n : Int) (k : Kd), Kw n l → (findK l k.1).1 = true → insNK k.1 l < l.length ∧ putL l [k] (insNK k.1 l) = putK k l
  | [], _, _, _, h => by simp [findK] at h
  | w :: r, n, k, hw, h => by
    simp only [findK] at h
    by_cases c : w.1 = k.1
    · simp only [insNK, putK]
      rw [if_pos (by omega), if_pos c]
      exact ⟨by simp, by simp [putL]⟩
    · rw [if_neg c] at h
      have c2 : ¬ k.1 ≤ w.1 := by
        intro q
        have := findK_none hw.2.2 k.1 (by omega)
        rw [this] at h; cases h
      obtain ⟨a, b⟩ := putK_in r _ k hw.2.2 h
      simp only [insNK, putK]
      rw [if_neg c2, if_neg c, if_neg (by omega), ← b]
      refine ⟨by simp only [List.length_cons]; omega, ?_⟩
      simp [putL, Nat.add_right_comm]
theorem putK_new : ∀ (l : List Kd) (n : Int) (k : Kd), Kw n l → (findK l k.1).1 = false → List.take (insNK k.1 l) l ++ ([k] ++ List.drop (insNK k.1 l) l) = putK k l
  | [], _, _, _, h => rfl
  | w :: r, n, k, hw, h => by
    simp only [findK] at h
    by_cases c : w.1 = k.1
    · rw [if_pos c] at h; cases h
    · rw [if_neg c] at h
      simp only [insNK, putK]
      rw [if_neg c]
      by_cases c2 : k.1 < w.1
      · rw [if_pos (by omega), if_pos c2]; rfl
      · rw [if_neg (by omega), if_neg c2]
        simp only [List.take_succ_cons, List.drop_succ_cons, List.cons_append]
        rw [← putK_new r _ k hw.2.2 h]; rfl
theorem hear_eq (N : Nat) (hN : 2000 ≤ N) (l : List Kd) (n : Int) (k : Kd) (hw : Kw n l) (hl : l.length ≤ 1000) : W_kids_Hear N (l, k) = some (if oldK l k.1 k.2.1 = true then (l, false) else (putK k l, true)) := by
  unfold W_kids_Hear V_kids_Hear
  try simp only
  rw [pCloneK N l (by omega), obind_s, old_eq N hN l k.1 k.2.1 n hw hl, obind_s]
  cases ho : oldK l k.1 k.2.1 with
  | true => rw [cnd_t, if_pos rfl]
  | false =>
    rw [cnd_f, if_neg (by simp), seek_eq N hN l k.1 n hw hl, obind_s]
    have hle := insNK_le k.1 l
    cases h : (findK l k.1).1 with
    | true =>
      obtain ⟨a, b⟩ := putK_in l n k hw h
      rw [if_pos rfl, selim_l]
      try simp only
      rw [dT (by omega), dT (by omega), Bool.and_self, cnd_t, obind_s, selim_l, Int.toNat_natCast]
      try simp only
      rw [← b]
    | false =>
      rw [if_neg (by simp), selim_r, obind_s, selim_r]
      unfold W_slices_Insert_api_Kid
      try simp only
      rw [dT (by omega), dT (by omega), dT (by rfl), dT (by omega)]
      simp only [Bool.and_self, cnd_t, obind_s, Int.toNat_natCast]
      rw [← putK_new l n k hw h]
theorem getD_mem {l : List Int} {j : Nat} (h : j < l.length) : l.getD j 0 ∈ l := by
  rw [List.getD_eq_getElem?_getD, List.getElem?_eq_getElem h]; exact List.getElem_mem h
theorem mem_getD {l : List Int} {x : Int} (h : x ∈ l) : ∃ j, j < l.length ∧ l.getD j 0 = x := by
  obtain ⟨j, hj, e⟩ := List.getElem_of_mem h
  exact ⟨j, hj, by rw [List.getD_eq_getElem?_getD, List.getElem?_eq_getElem hj]; exact e⟩
theorem Index_eq (N : Nat) (l : List Int) (x : Int) (hN : l.length < N) (hl : l.length ≤ 140737488355327) : ∃ r, W_slices_Index_int N (l, x) = some r ∧ (0 ≤ r ↔ x ∈ l) := by
  unfold W_slices_Index_int V_slices_Index_int
  obtain ⟨r, h1, h2⟩ := loopN_run (N := N) (f := fun (v : Int) =>
      cnd (decide (v < ↑(List.length (Prod.fst (l, x)))))
        (cnd (decide ((0 : Int) ≤ v) && decide (v < ↑(List.length (Prod.fst (l, x)))))
          (cnd (decide (Prod.snd (l, x) = List.getD (Prod.fst (l, x)) (Int.toNat v) (0 : Int))) (some (Sum.inr (Sum.inr v)))
            (some (Sum.inl (wr IntKind.i64 (v + (1 : Int))))))
          none)
        (some (Sum.inr (Sum.inl ())))) (x := Int.ofNat 0)
    (fun v => 0 ≤ v ∧ v ≤ l.length ∧ ∀ j : Nat, (j : Int) < v → l.getD j 0 ≠ x) (fun v => l.length - v.toNat) (fun r : PUnit ⊕ Int => match r with | .inl _ => x ∉ l | .inr k => 0 ≤ k ∧ x ∈ l) (fun v ⟨g1, g2, g3⟩ => by
      try simp only
      by_cases h : v < l.length
      · simp only [dT h, dT g1, Bool.and_self, cnd_t]
        by_cases he : x = l.getD v.toNat 0
        · right
          rw [dT he, cnd_t]
          exact ⟨_, rfl, g1, by rw [he]; exact getD_mem (by omega)⟩
        · left
          rw [dF he, cnd_f, wr_s (by omega) (by omega)]
          refine ⟨_, rfl, ⟨by omega, by omega, fun j hj => ?_⟩, by omega⟩
          by_cases hjv : (j : Int) < v
          · exact g3 j hjv
          · have : j = v.toNat := by omega
            subst this
            exact fun e => he e.symm
      · right
        rw [dF h, cnd_f]
        refine ⟨_, rfl, fun hm => ?_⟩
        obtain ⟨j, hj, e⟩ := mem_getD hm
        exact g3 j (by omega) e) ⟨by simp, by simp, fun j hj => by simp at hj; omega⟩ (by simp; omega)
  rw [h1, obind_s]
  cases r with
  | inl u => exact ⟨-1, rfl, by simp only at h2; simp [h2]⟩
  | inr k => exact ⟨k, rfl, by simp only at h2; simp [h2.1, h2.2]⟩
theorem Has_eq (N : Nat) (l : List Int) (x : Int) (hN : l.length < N) (hl : l.length ≤ 140737488355327) : W_path_Has N (l, x) = some (decide (x ∈ l)) := by
  obtain ⟨r, h1, h2⟩ := Index_eq N l x hN hl
  unfold W_path_Has V_path_Has W_slices_Contains_int V_slices_Contains_int
  simp only [h1, obind_s]
  by_cases h : x ∈ l
  · rw [dT (h2.2 h), dT h]
  · rw [dF (fun e => h (h2.1 e)), dF h]
def VP (x : List Int) : Prop := 1 ≤ x.length ∧ x.length ≤ 10 ∧ x.getD 0 0 = 1 ∧ ∀ j, j < x.length → 1 ≤ x.getD j 0 ∧ x.getD j 0 ≤ 8 ∧ x.getD j 0 ∉ x.take j
open Classical in
theorem read_eq (N : Nat) (x : List Int) (hN : 12 ≤ N) : W_path_read N x = some (if VP x then .inl x else .inr ()) := by
  unfold W_path_read V_path_read
  by_cases h1 : (x.length : Int) < 1
  · rw [dT h1, cnd_t, obind_s, cnd_t, if_neg (fun h => by have := h.1; omega)]
  rw [dF h1, cnd_f, obind_s]
  by_cases h2 : (10 : Int) < x.length
  · rw [dT h2, cnd_t, if_neg (fun h => by have := h.2.1; omega)]
  rw [dF h2, cnd_f, dT (show (0 : Int) ≤ 0 by omega), dT (show (0 : Int) < x.length by omega), Bool.and_self, cnd_t]
  by_cases h3 : x.getD 0 0 = 1
  case neg => rw [dT h3, cnd_t, if_neg (fun h => h3 h.2.2.1)]
  rw [dF (by simpa using h3), cnd_f]
  refine obind_loop (fun v : Int => 0 ≤ v ∧ v ≤ x.length ∧ ∀ j : Nat, (j : Int) < v → 1 ≤ x.getD j 0 ∧ x.getD j 0 ≤ 8 ∧ x.getD j 0 ∉ x.take j) (fun v => x.length - v.toNat)
    (fun r : PUnit ⊕ List Int ⊕ PUnit => (r = .inl () ∧ VP x) ∨ (r = .inr (.inr ()) ∧ ¬ VP x)) ⟨by simp, by simp, fun j hj => by simp at hj; omega⟩ (by simp; omega) ?_ ?_
  · rintro r (⟨rfl, h⟩ | ⟨rfl, h⟩)
    · rw [selim_l, if_pos h]
    · rw [selim_r, if_neg h]
  · rintro v ⟨g1, g2, g3⟩
    by_cases h : v < x.length
    · simp only [dT h, dT g1, Bool.and_self, cnd_t, dT (show v ≤ x.length by omega), List.drop_zero]
      have bad : ¬ (1 ≤ x.getD v.toNat 0 ∧ x.getD v.toNat 0 ≤ 8 ∧ x.getD v.toNat 0 ∉ x.take v.toNat) → ¬ VP x := fun hb hv => hb (hv.2.2.2 v.toNat (by omega))
      by_cases b1 : x.getD v.toNat 0 < 1
      · right
        rw [dT b1, cnd_t, obind_s, cnd_t]
        exact ⟨_, rfl, .inr ⟨rfl, bad (fun h => by omega)⟩⟩
      rw [dF b1, cnd_f, obind_s]
      by_cases b2 : 8 < x.getD v.toNat 0
      · right
        rw [dT b2, cnd_t]
        exact ⟨_, rfl, .inr ⟨rfl, bad (fun h => by omega)⟩⟩
      rw [dF b2, cnd_f, Has_eq N _ _ (by rw [List.length_take]; omega) (by rw [List.length_take]; omega), obind_s]
      by_cases b3 : x.getD v.toNat 0 ∈ x.take v.toNat
      · right
        rw [dT b3, cnd_t]
        exact ⟨_, rfl, .inr ⟨rfl, bad (fun h => h.2.2 b3)⟩⟩
      left
      rw [dF b3, cnd_f, wr_s (by omega) (by omega)]
      refine ⟨_, rfl, ⟨by omega, by omega, fun j hj => ?_⟩, by omega⟩
      by_cases hjv : (j : Int) < v
      · exact g3 j hjv
      · have : j = v.toNat := by omega
        subst this
        exact ⟨by omega, by omega, b3⟩
    · right
      rw [dF h, cnd_f]
      exact ⟨_, rfl, .inl ⟨rfl, by omega, by omega, h3, fun j hj => g3 j (by omega)⟩⟩
open Classical in
theorem Add_eq (N : Nat) (p : List Int) (id : Int) (hN : 12 ≤ N) (hl : p.length ≤ 1000) : W_path_Add N (p, id) = some (if VP (p ++ [id]) then (p ++ [id], true) else ([], false)) := by
  unfold W_path_Add V_path_Add W_slices_Clone_int V_slices_Clone_int
  try simp only
  rw [dT (by omega), cnd_t, obind_s, dT (by simp; omega), cnd_t, read_eq N _ hN, obind_s]
  split
  · rw [selim_l]
  · rw [selim_r]
open Classical in
def ownF (m : Ms) : Ms :=
  if m.1 = 2 then (m.1, m.2.1, m.2.2.1, m.2.2.2.1, m.2.2.2.2.1, m.2.2.2.2.2.1, m.2.2.2.2.2.2.1, m.2.2.2.2.2.2.2.1, 0, [])
  else if m.1 = 5 then (m.1, m.2.1, m.2.2.1, m.2.2.2.1, m.2.2.2.2.1, m.2.2.2.2.2.1, m.2.2.2.2.2.2.1, 0, m.2.2.2.2.2.2.2.2.1, [])
  else if m.1 = 7 then (m.1, m.2.1, m.2.2.1, m.2.2.2.1, 0, 0, [], m.2.2.2.2.2.2.2.1, 0, m.2.2.2.2.2.2.2.2.2)
  else if m.1 = 8 ∨ m.1 = 9 then (m.1, m.2.1, m.2.2.1, m.2.2.2.1, 0, 0, [], m.2.2.2.2.2.2.2.1, m.2.2.2.2.2.2.2.2.1, [])
  else (m.1, m.2.1, m.2.2.1, m.2.2.2.1, 0, 0, [], 0, 0, [])
open Classical in
def Fits (m : Ms) : Prop :=
  if m.1 = 2 ∨ m.1 = 5 then (0 ≤ m.2.2.2.2.1 ∧ m.2.2.2.2.1 ≤ 1073741824) ∧ (0 ≤ m.2.2.2.2.2.1 ∧ m.2.2.2.2.2.1 ≤ 1073741824) ∧ VP m.2.2.2.2.2.2.1 ∧ (0 ≤ m.2.2.2.2.2.2.2.1 ∧ m.2.2.2.2.2.2.2.1 ≤ 1000000) ∧ (0 ≤ m.2.2.2.2.2.2.2.2.1 ∧ m.2.2.2.2.2.2.2.2.1 ≤ 1000000)
  else if m.1 = 7 then (1 ≤ m.2.2.2.2.2.2.2.1 ∧ m.2.2.2.2.2.2.2.1 ≤ 1000000) ∧ (m.2.2.2.2.2.2.2.2.2.length : Int) ≤ 12
  else if m.1 = 8 ∨ m.1 = 9 then (1 ≤ m.2.2.2.2.2.2.2.1 ∧ m.2.2.2.2.2.2.2.1 ≤ m.2.2.2.2.2.2.2.2.1) ∧ m.2.2.2.2.2.2.2.2.1 ≤ 1000000
  else True
open Classical in
def MayP (m : Ms) : Prop := (1 ≤ m.1 ∧ m.1 ≤ 9) ∧ (1 ≤ m.2.1 ∧ m.2.1 ≤ 8) ∧ (1 ≤ m.2.2.1 ∧ m.2.2.1 ≤ 8) ∧ m.2.1 ≠ m.2.2.1 ∧ (1 ≤ m.2.2.2.1 ∧ m.2.2.2.1 ≤ 1073741824) ∧ m = ownF m ∧ Fits m
open Classical in
/-- All its numbers are short. -/
structure Sh (m : Ms) : Prop where
  k : 0 ≤ m.1 ∧ m.1 < 128
  f : 0 ≤ m.2.1 ∧ m.2.1 < 128
  t : 0 ≤ m.2.2.1 ∧ m.2.2.1 < 128
  i : 0 ≤ m.2.2.2.1 ∧ m.2.2.2.1 < 128
  e : 0 ≤ m.2.2.2.2.1 ∧ m.2.2.2.2.1 < 128
  a : 0 ≤ m.2.2.2.2.2.1 ∧ m.2.2.2.2.2.1 < 128
  p : ∀ v ∈ m.2.2.2.2.2.2.1, 0 ≤ v ∧ v < 128
  lo : 0 ≤ m.2.2.2.2.2.2.2.1 ∧ m.2.2.2.2.2.2.2.1 < 128
  hi : 0 ≤ m.2.2.2.2.2.2.2.2.1 ∧ m.2.2.2.2.2.2.2.2.1 < 128
theorem filter1 (p : Kd → Bool) (x : Kd) : [x].filter (fun k => !p k) = if p x = true then [] else [x] := by
  rw [List.filter_cons]
  cases p x <;> rfl
theorem take_snocK {l : List Kd} {k : Nat} (h : k < l.length) : l.take (k + 1) = l.take k ++ [l.getD k kD] := by
  rw [List.take_succ_eq_append_getElem h, List.getD_eq_getElem?_getD, List.getElem?_eq_getElem h]; rfl
theorem idx_Prune_eq (N : Nat) (hN : 2000 ≤ N) (l : List Kd) (c : Int) (p : Kd → Bool) (hp : ∀ k ∈ l, W_kids_Prune_1 N (k, c) = some (p k, c)) (hl : l.length ≤ 1000) : ∃ r : Int, W_slices_IndexFunc_api_Kid__kids_Prune_1 N (l, c) = some (r, c) ∧ ((r = -1 ∧ ∀ x ∈ l, p x = false) ∨ ∃ i : Nat, r = i ∧ i < l.length ∧ p (l.getD i kD) = true ∧ ∀ x ∈ l.take i, p x = false) := by
  unfold W_slices_IndexFunc_api_Kid__kids_Prune_1 V_slices_IndexFunc_api_Kid__kids_Prune_1
  try simp only
  refine loop_G (N := N) (fun o => ∃ r : Int, o = some (r, c) ∧ ((r = -1 ∧ ∀ x ∈ l, p x = false) ∨ ∃ i : Nat, r = i ∧ i < l.length ∧ p (l.getD i kD) = true ∧ ∀ x ∈ l.take i, p x = false)) (fun k (v : Int × Int) => v = (↑k, c) ∧ k ≤ l.length ∧ ∀ x ∈ l.take k, p x = false) l.length
    (fun r : Int ⊕ Int × Int => (r = .inl c ∧ ∀ x ∈ l, p x = false) ∨ ∃ i : Nat, r = .inr ((i : Int), c) ∧ i < l.length ∧ p (l.getD i kD) = true ∧ ∀ x ∈ l.take i, p x = false) ⟨rfl, by omega, by simp⟩ (by omega) ?_ (fun k v h => h.2.1) ?_
  · rintro r (⟨rfl, h⟩ | ⟨i, rfl, h⟩)
    · rw [selim_l]; exact ⟨-1, rfl, .inl ⟨rfl, h⟩⟩
    · rw [selim_r]; exact ⟨i, rfl, .inr ⟨i, rfl, h⟩⟩
  · rintro k v ⟨rfl, hk, hq⟩
    try simp only
    by_cases cl : (k : Int) < l.length
    case neg =>
      right
      rw [dF cl, cnd_f]
      refine ⟨_, rfl, .inl ⟨rfl, fun x hx => hq x ?_⟩⟩
      rw [List.take_of_length_le (by omega)]; exact hx
    have hm := getD_memK (l := l) (i := k) (by omega)
    rw [dT cl, cnd_t, dT (by omega), Bool.and_self, cnd_t, Int.toNat_natCast]
    show (∃ y, obind (W_kids_Prune_1 N (l.getD k kD, c)) _ = _ ∧ _) ∨ (∃ y, obind (W_kids_Prune_1 N (l.getD k kD, c)) _ = _ ∧ _)
    rw [hp _ hm, obind_s]
    try simp only
    cases hb : p (l.getD k kD) with
    | true => right; rw [cnd_t]; exact ⟨_, rfl, .inr ⟨k, rfl, by omega, hb, hq⟩⟩
    | false =>
      left
      rw [cnd_f, wr_m (by omega) (by omega)]
      refine ⟨_, rfl, by simp, by omega, fun x hx => ?_⟩
      rw [take_snocK (by omega)] at hx
      rcases List.mem_append.1 hx with hx | hx
      · exact hq x hx
      · rw [List.mem_singleton.1 hx]; exact hb
theorem del_Prune_eq (N : Nat) (hN : 2000 ≤ N) (l : List Kd) (c : Int) (p : Kd → Bool) (hp : ∀ k ∈ l, W_kids_Prune_1 N (k, c) = some (p k, c)) (hl : l.length ≤ 1000) : W_slices_DeleteFunc_api_Kid__kids_Prune_1 N (l, c) = some (l.filter (fun k => !p k), c) := by
  obtain ⟨r, h1, h2⟩ := idx_Prune_eq N hN l c p hp hl
  unfold W_slices_DeleteFunc_api_Kid__kids_Prune_1 V_slices_DeleteFunc_api_Kid__kids_Prune_1
  try simp only
  rw [h1, obind_s]
  try simp only
  rcases h2 with ⟨rfl, hall⟩ | ⟨i, rfl, hi, hpi, hq⟩
  · rw [dT rfl, cnd_t, List.filter_eq_self.2 (fun x hx => by rw [hall x hx]; rfl)]
  rw [dF (by omega), cnd_f, wr_m (z := (i : Int) + 1) (by omega) (by omega)]
  have f0 : (l.take (i + 1)).filter (fun k => !p k) = l.take i := by
    rw [take_snocK hi, List.filter_append, List.filter_eq_self.2 (fun x hx => by rw [hq x hx]; rfl)]
    rw [filter1, hpi]; simp
  refine loop_G (N := N) (fun o => o = some (l.filter (fun k => !p k), c)) (fun k (v : Int × Int × List Kd × Int) => ∃ (a b : Nat), v = ((a : Int), (b : Int), v.2.2.1, c) ∧ b = i + 1 + k ∧ a < b ∧ b ≤ l.length ∧ v.2.2.1.length = l.length ∧ v.2.2.1.take a = (l.take b).filter (fun k => !p k) ∧ v.2.2.1.drop b = l.drop b) l.length
    (fun r : Int × List Kd × Int => ∃ a : Nat, r = ((a : Int), r.2.1, c) ∧ a ≤ r.2.1.length ∧ r.2.1.length = l.length ∧ r.2.1.take a = l.filter (fun k => !p k)) ⟨i, i + 1, rfl, rfl, by omega, by omega, rfl, f0.symm, rfl⟩ (by omega) ?_ (fun k v h => by obtain ⟨a, b, _, h1, _, h2, _⟩ := h; omega) ?_
  · rintro ⟨n, row, c'⟩ ⟨a, e, ha, hlen, hr⟩
    simp only at e ha hlen hr
    injection e with e1 e2
    injection e2 with e3 e4
    subst e1 e4
    have hz : (putL row (List.replicate (row.length - a) ((0 : Int), (0 : Int), (0 : Int))) (0 + a)).length = row.length := by
      simp [putL]; omega
    refine (cnd_T (show (0 : Int) ≤ (a : Int) by omega)).trans ?_
    refine (cnd_T (show (a : Int) ≤ (row.length : Int) by omega)).trans ?_
    refine (cnd_T (show (0 : Int) ≤ (a : Int) by omega)).trans ?_
    refine (cnd_T (show ((0 : Nat) : Int) + (a : Int) ≤ ((putL row (List.replicate (row.length - a) ((0 : Int), (0 : Int), (0 : Int))) (0 + a)).length : Int) by rw [hz]; omega)).trans ?_
    have : List.drop (0 + 0) (List.take (0 + 0 + (a - 0)) (putL row (List.replicate (row.length - a) ((0 : Int), (0 : Int), (0 : Int))) (0 + a))) = row.take a := by
      simp only [Nat.zero_add, Nat.sub_zero, List.drop_zero]
      unfold putL
      rw [List.take_append_of_le_length (by simp; omega), List.take_take]
      simp
    show some (List.drop (0 + 0) (List.take (0 + 0 + (a - 0)) (putL row (List.replicate (row.length - a) ((0 : Int), (0 : Int), (0 : Int))) (0 + a))), c') = _
    rw [this, hr]
  · rintro k ⟨n, j, row, c'⟩ ⟨a, b, e, hb, hab, hbl, hlen, ht, hd⟩
    simp only at e hlen ht hd
    injection e with e1 e2
    injection e2 with e3 e4
    injection e4 with e5 e6
    subst e1 e3 e6
    try simp only
    by_cases cl : (b : Int) < row.length
    case neg =>
      right
      rw [dF cl, cnd_f]
      refine ⟨_, rfl, a, rfl, by simp only; omega, hlen, ?_⟩
      try simp only
      rw [ht, List.take_of_length_le (by omega)]
    left
    have hx : row.getD b kD = l.getD b kD := by
      have h1 := drop_consK (l := row) (i := b) (by omega)
      have h2 := drop_consK (l := l) (i := b) (by omega)
      rw [hd, h2] at h1
      injection h1 with h1 _
      exact h1.symm
    have hm := getD_memK (l := l) (i := b) (by omega)
    rw [dT cl, cnd_t, dT (by omega), Bool.and_self, cnd_t, Int.toNat_natCast]
    show ∃ y, obind (W_kids_Prune_1 N (row.getD b kD, c')) _ = _ ∧ _
    rw [hx, hp _ hm, obind_s]
    try simp only
    have hd1 : ∀ r2 : List Kd, r2.drop b = l.drop b → r2.drop (b + 1) = l.drop (b + 1) := fun r2 h => by rw [← List.drop_drop, ← List.drop_drop, h]
    rw [wr_m (z := (b : Int) + 1) (by omega) (by omega)]
    cases hb2 : p (l.getD b kD) with
    | true =>
      rw [Bool.not_true, cnd_f]
      refine ⟨_, rfl, a, b + 1, by simp only; rfl, by omega, by omega, by omega, hlen, ?_, hd1 row hd⟩
      try simp only
      rw [ht, take_snocK (by omega), List.filter_append, filter1, hb2]
      simp
    | false =>
      rw [Bool.not_false, cnd_t, dT (show (0 : Int) ≤ (a : Int) by omega), dT (show (a : Int) < row.length by omega), Bool.and_self, cnd_t, wr_m (z := (a : Int) + 1) (by omega) (by omega), Int.toNat_natCast]
      refine ⟨_, rfl, a + 1, b + 1, by simp only; rfl, by omega, by omega, by omega, ?_, ?_, ?_⟩
      · show (putL row [l.getD b kD] a).length = _
        unfold putL
        simp only [List.length_append, List.length_take, List.length_drop, List.length_singleton]; omega
      · show (putL row [l.getD b kD] a).take (a + 1) = _
        rw [take_snocK (l := l) (k := b) (by omega), List.filter_append, ← ht, filter1, hb2]
        unfold putL
        rw [List.take_append, List.take_of_length_le (by simp; omega), List.length_take, show a + 1 - min a row.length = 1 by omega]
        rfl
      · show (putL row [l.getD b kD] a).drop (b + 1) = _
        rw [← hd1 row hd]
        unfold putL
        rw [List.drop_append, List.drop_eq_nil_of_le (by simp; omega), List.nil_append, List.drop_append, List.drop_eq_nil_of_le (by simp; omega), List.nil_append, List.drop_drop]
        congr 1
        simp
        omega
theorem idx_Drop_eq (N : Nat) (hN : 2000 ≤ N) (l : List Kd) (c : Int) (p : Kd → Bool) (hp : ∀ k ∈ l, W_kids_Drop_1 N (k, c) = some (p k, c)) (hl : l.length ≤ 1000) : ∃ r : Int, W_slices_IndexFunc_api_Kid__kids_Drop_1 N (l, c) = some (r, c) ∧ ((r = -1 ∧ ∀ x ∈ l, p x = false) ∨ ∃ i : Nat, r = i ∧ i < l.length ∧ p (l.getD i kD) = true ∧ ∀ x ∈ l.take i, p x = false) := by
  unfold W_slices_IndexFunc_api_Kid__kids_Drop_1 V_slices_IndexFunc_api_Kid__kids_Drop_1
  try simp only
  refine loop_G (N := N) (fun o => ∃ r : Int, o = some (r, c) ∧ ((r = -1 ∧ ∀ x ∈ l, p x = false) ∨ ∃ i : Nat, r = i ∧ i < l.length ∧ p (l.getD i kD) = true ∧ ∀ x ∈ l.take i, p x = false)) (fun k (v : Int × Int) => v = (↑k, c) ∧ k ≤ l.length ∧ ∀ x ∈ l.take k, p x = false) l.length
    (fun r : Int ⊕ Int × Int => (r = .inl c ∧ ∀ x ∈ l, p x = false) ∨ ∃ i : Nat, r = .inr ((i : Int), c) ∧ i < l.length ∧ p (l.getD i kD) = true ∧ ∀ x ∈ l.take i, p x = false) ⟨rfl, by omega, by simp⟩ (by omega) ?_ (fun k v h => h.2.1) ?_
  · rintro r (⟨rfl, h⟩ | ⟨i, rfl, h⟩)
    · rw [selim_l]; exact ⟨-1, rfl, .inl ⟨rfl, h⟩⟩
    · rw [selim_r]; exact ⟨i, rfl, .inr ⟨i, rfl, h⟩⟩
  · rintro k v ⟨rfl, hk, hq⟩
    try simp only
    by_cases cl : (k : Int) < l.length
    case neg =>
      right
      rw [dF cl, cnd_f]
      refine ⟨_, rfl, .inl ⟨rfl, fun x hx => hq x ?_⟩⟩
      rw [List.take_of_length_le (by omega)]; exact hx
    have hm := getD_memK (l := l) (i := k) (by omega)
    rw [dT cl, cnd_t, dT (by omega), Bool.and_self, cnd_t, Int.toNat_natCast]
    show (∃ y, obind (W_kids_Drop_1 N (l.getD k kD, c)) _ = _ ∧ _) ∨ (∃ y, obind (W_kids_Drop_1 N (l.getD k kD, c)) _ = _ ∧ _)
    rw [hp _ hm, obind_s]
    try simp only
    cases hb : p (l.getD k kD) with
    | true => right; rw [cnd_t]; exact ⟨_, rfl, .inr ⟨k, rfl, by omega, hb, hq⟩⟩
    | false =>
      left
      rw [cnd_f, wr_m (by omega) (by omega)]
      refine ⟨_, rfl, by simp, by omega, fun x hx => ?_⟩
      rw [take_snocK (by omega)] at hx
      rcases List.mem_append.1 hx with hx | hx
      · exact hq x hx
      · rw [List.mem_singleton.1 hx]; exact hb
theorem del_Drop_eq (N : Nat) (hN : 2000 ≤ N) (l : List Kd) (c : Int) (p : Kd → Bool) (hp : ∀ k ∈ l, W_kids_Drop_1 N (k, c) = some (p k, c)) (hl : l.length ≤ 1000) : W_slices_DeleteFunc_api_Kid__kids_Drop_1 N (l, c) = some (l.filter (fun k => !p k), c) := by
  obtain ⟨r, h1, h2⟩ := idx_Drop_eq N hN l c p hp hl
  unfold W_slices_DeleteFunc_api_Kid__kids_Drop_1 V_slices_DeleteFunc_api_Kid__kids_Drop_1
  try simp only
  rw [h1, obind_s]
  try simp only
  rcases h2 with ⟨rfl, hall⟩ | ⟨i, rfl, hi, hpi, hq⟩
  · rw [dT rfl, cnd_t, List.filter_eq_self.2 (fun x hx => by rw [hall x hx]; rfl)]
  rw [dF (by omega), cnd_f, wr_m (z := (i : Int) + 1) (by omega) (by omega)]
  have f0 : (l.take (i + 1)).filter (fun k => !p k) = l.take i := by
    rw [take_snocK hi, List.filter_append, List.filter_eq_self.2 (fun x hx => by rw [hq x hx]; rfl)]
    rw [filter1, hpi]; simp
  refine loop_G (N := N) (fun o => o = some (l.filter (fun k => !p k), c)) (fun k (v : Int × Int × List Kd × Int) => ∃ (a b : Nat), v = ((a : Int), (b : Int), v.2.2.1, c) ∧ b = i + 1 + k ∧ a < b ∧ b ≤ l.length ∧ v.2.2.1.length = l.length ∧ v.2.2.1.take a = (l.take b).filter (fun k => !p k) ∧ v.2.2.1.drop b = l.drop b) l.length
    (fun r : Int × List Kd × Int => ∃ a : Nat, r = ((a : Int), r.2.1, c) ∧ a ≤ r.2.1.length ∧ r.2.1.length = l.length ∧ r.2.1.take a = l.filter (fun k => !p k)) ⟨i, i + 1, rfl, rfl, by omega, by omega, rfl, f0.symm, rfl⟩ (by omega) ?_ (fun k v h => by obtain ⟨a, b, _, h1, _, h2, _⟩ := h; omega) ?_
  · rintro ⟨n, row, c'⟩ ⟨a, e, ha, hlen, hr⟩
    simp only at e ha hlen hr
    injection e with e1 e2
    injection e2 with e3 e4
    subst e1 e4
    have hz : (putL row (List.replicate (row.length - a) ((0 : Int), (0 : Int), (0 : Int))) (0 + a)).length = row.length := by
      simp [putL]; omega
    refine (cnd_T (show (0 : Int) ≤ (a : Int) by omega)).trans ?_
    refine (cnd_T (show (a : Int) ≤ (row.length : Int) by omega)).trans ?_
    refine (cnd_T (show (0 : Int) ≤ (a : Int) by omega)).trans ?_
    refine (cnd_T (show ((0 : Nat) : Int) + (a : Int) ≤ ((putL row (List.replicate (row.length - a) ((0 : Int), (0 : Int), (0 : Int))) (0 + a)).length : Int) by rw [hz]; omega)).trans ?_
    have : List.drop (0 + 0) (List.take (0 + 0 + (a - 0)) (putL row (List.replicate (row.length - a) ((0 : Int), (0 : Int), (0 : Int))) (0 + a))) = row.take a := by
      simp only [Nat.zero_add, Nat.sub_zero, List.drop_zero]
      unfold putL
      rw [List.take_append_of_le_length (by simp; omega), List.take_take]
      simp
    show some (List.drop (0 + 0) (List.take (0 + 0 + (a - 0)) (putL row (List.replicate (row.length - a) ((0 : Int), (0 : Int), (0 : Int))) (0 + a))), c') = _
    rw [this, hr]
  · rintro k ⟨n, j, row, c'⟩ ⟨a, b, e, hb, hab, hbl, hlen, ht, hd⟩
    simp only at e hlen ht hd
    injection e with e1 e2
    injection e2 with e3 e4
    injection e4 with e5 e6
    subst e1 e3 e6
    try simp only
    by_cases cl : (b : Int) < row.length
    case neg =>
      right
      rw [dF cl, cnd_f]
      refine ⟨_, rfl, a, rfl, by simp only; omega, hlen, ?_⟩
      try simp only
      rw [ht, List.take_of_length_le (by omega)]
    left
    have hx : row.getD b kD = l.getD b kD := by
      have h1 := drop_consK (l := row) (i := b) (by omega)
      have h2 := drop_consK (l := l) (i := b) (by omega)
      rw [hd, h2] at h1
      injection h1 with h1 _
      exact h1.symm
    have hm := getD_memK (l := l) (i := b) (by omega)
    rw [dT cl, cnd_t, dT (by omega), Bool.and_self, cnd_t, Int.toNat_natCast]
    show ∃ y, obind (W_kids_Drop_1 N (row.getD b kD, c')) _ = _ ∧ _
    rw [hx, hp _ hm, obind_s]
    try simp only
    have hd1 : ∀ r2 : List Kd, r2.drop b = l.drop b → r2.drop (b + 1) = l.drop (b + 1) := fun r2 h => by rw [← List.drop_drop, ← List.drop_drop, h]
    rw [wr_m (z := (b : Int) + 1) (by omega) (by omega)]
    cases hb2 : p (l.getD b kD) with
    | true =>
      rw [Bool.not_true, cnd_f]
      refine ⟨_, rfl, a, b + 1, by simp only; rfl, by omega, by omega, by omega, hlen, ?_, hd1 row hd⟩
      try simp only
      rw [ht, take_snocK (by omega), List.filter_append, filter1, hb2]
      simp
    | false =>
      rw [Bool.not_false, cnd_t, dT (show (0 : Int) ≤ (a : Int) by omega), dT (show (a : Int) < row.length by omega), Bool.and_self, cnd_t, wr_m (z := (a : Int) + 1) (by omega) (by omega), Int.toNat_natCast]
      refine ⟨_, rfl, a + 1, b + 1, by simp only; rfl, by omega, by omega, by omega, ?_, ?_, ?_⟩
      · show (putL row [l.getD b kD] a).length = _
        unfold putL
        simp only [List.length_append, List.length_take, List.length_drop, List.length_singleton]; omega
      · show (putL row [l.getD b kD] a).take (a + 1) = _
        rw [take_snocK (l := l) (k := b) (by omega), List.filter_append, ← ht, filter1, hb2]
        unfold putL
        rw [List.take_append, List.take_of_length_le (by simp; omega), List.length_take, show a + 1 - min a row.length = 1 by omega]
        rfl
      · show (putL row [l.getD b kD] a).drop (b + 1) = _
        rw [← hd1 row hd]
        unfold putL
        rw [List.drop_append, List.drop_eq_nil_of_le (by simp; omega), List.nil_append, List.drop_append, List.drop_eq_nil_of_le (by simp; omega), List.nil_append, List.drop_drop]
        congr 1
        simp
        omega
theorem prune_eq (N : Nat) (hN : 2000 ≤ N) (l : List Kd) (now : Int) (hl : l.length ≤ 1000) (h1 : -1000000000 ≤ now) (h2 : now ≤ 1000000000) : W_kids_Prune N (l, now) = some (l.filter (fun k => !decide (k.2.2 < now - 20))) := by
  unfold W_kids_Prune V_kids_Prune
  try simp only
  rw [pCloneK N l (by omega), obind_s, del_Prune_eq N hN l now (fun k => decide (k.2.2 < now - 20)) (fun k _ => by unfold W_kids_Prune_1 V_kids_Prune_1; simp only; rw [wr_m (by omega) (by omega)]) hl, obind_s]
theorem drop_eq (N : Nat) (hN : 2000 ≤ N) (l : List Kd) (id : Int) (hl : l.length ≤ 1000) : W_kids_Drop N (l, id) = some (l.filter (fun k => !decide (k.1 = id))) := by
  unfold W_kids_Drop V_kids_Drop
  try simp only
  rw [pCloneK N l (by omega), obind_s, del_Drop_eq N hN l id (fun k => decide (k.1 = id)) (fun k _ => by unfold W_kids_Drop_1 V_kids_Drop_1; rfl) hl, obind_s]
def freshM : TT → Bool
  | (id, _, now, par, _, _, _, _, born, _, _, _, _) => if id = 1 then true else if par ≠ 0 then decide (now - born ≤ 20) else false
def letgo : TT → Int → TT
  | (id, inc, now, _, _, grd, _, ep, born, _, unt, _, kids), s => (id, inc, now, 0, 0, grd, [], ep, born, 0, unt, s, kids)
def vainM : TT → TT
  | (id, inc, now, par, pinc, grd, path, ep, born, _, unt, stp, kids) => (id, inc, now, par, pinc, grd, path, ep, born, 0, unt, stp + 1, kids)
def sayM : TT → Int → Int → Ms
  | (id, inc, _), k, to => (k, id, to, inc, 0, 0, [], 0, 0, [])
def fullM : TT → Int → Int → Int → Ms
  | (id, inc, now, _, _, _, path, ep, born, _), k, to, lo => (k, id, to, inc, ep, now - born, path, lo, 0, [])
def prK (now : Int) (l : List Kd) : List Kd := l.filter (fun k => !decide (k.2.2 < now - 20))
def tick1 : TT → TT
  | (id, inc, now, par, pinc, grd, path, ep, born, ask, unt, stp, kids) =>
    if id = 1 ∧ (now + 1) % 2 = 0 then (id, inc, now + 1, par, pinc, grd, path, ep + 1, now + 1, ask, unt, stp, prK (now + 1) kids)
    else (id, inc, now + 1, par, pinc, grd, path, ep, born, ask, unt, stp, prK (now + 1) kids)
def tick2 (t : TT) : TT := if t.2.2.2.1 ≠ 0 ∧ freshM t = false then letgo t 0 else t
def seekM : TT → TT × List Ms
  | (id, inc, now, par, pinc, grd, path, ep, born, ask, unt, stp, kids) =>
    if ask ≠ 0 then
      if unt ≤ now then ((id, inc, now, par, pinc, grd, path, ep, born, if stp + 1 = 0 ∧ grd ≠ 0 ∧ grd ≠ id then grd else 1, now + 3, stp + 1, kids), [(1, id, if stp + 1 = 0 ∧ grd ≠ 0 ∧ grd ≠ id then grd else 1, inc, 0, 0, [], 0, 0, [])])
      else ((id, inc, now, par, pinc, grd, path, ep, born, ask, unt, stp, kids), [])
    else ((id, inc, now, par, pinc, grd, path, ep, born, if stp = 0 ∧ grd ≠ 0 ∧ grd ≠ id then grd else 1, now + 3, stp, kids), [(1, id, if stp = 0 ∧ grd ≠ 0 ∧ grd ≠ id then grd else 1, inc, 0, 0, [], 0, 0, [])])
def tick3 (t : TT) : TT × List Ms := if t.2.2.2.1 = 0 ∧ t.1 ≠ 1 then seekM t else (t, [])
def beatM (t : TT) : List Ms := (if t.2.2.2.1 ≠ 0 then [sayM t 4 t.2.2.2.1] else []) ++ (if freshM t = true then t.2.2.2.2.2.2.2.2.2.2.2.2.map fun k => fullM t 5 k.1 0 else [])
def tickM (t : TT) : List Ms × TT :=
  let a := tick3 (tick2 (tick1 t))
  (if (t.2.2.1 + 1) % 2 = 0 then a.2 ++ beatM a.1 else a.2, a.1)
/-- Bounds of a tie. -/
def Tb (B : Int) : TT → Prop
  | (id, inc, now, par, pinc, grd, path, ep, born, ask, unt, stp, kids) => (1 ≤ id ∧ id ≤ 8) ∧ (0 ≤ now ∧ now ≤ B) ∧ (-1000 ≤ born ∧ born ≤ B) ∧ (0 ≤ stp ∧ stp ≤ B) ∧ (unt ≤ B + 3 ∧ 0 ≤ unt) ∧ (0 ≤ ep ∧ ep ≤ B + 1000) ∧ path.length ≤ 10 ∧ Kw 1 kids ∧ (0 ≤ ask ∧ ask ≤ 8) ∧ (0 ≤ grd ∧ grd ≤ 8)
theorem Tb.kl {B : Int} {t : TT} (h : Tb B t) : t.2.2.2.2.2.2.2.2.2.2.2.2.length ≤ 8 := by
  obtain ⟨id, inc, now, par, pinc, grd, path, ep, born, ask, unt, stp, kids⟩ := t
  obtain ⟨h1, h2, h3, h4, h5, h6, h7, h8, h9, h10⟩ := h
  have := h8.len (by omega)
  simp only; omega
theorem tell_eq (N : Nat) (t : TT) (k to : Int) : W_tie_tell N (t, k, to) = some (sayM t k to) := rfl
theorem letGo_eq (N : Nat) (t : TT) (s : Int) : W_tie_letGo N (t, s) = some (letgo t s) := rfl
theorem vain_eq (N : Nat) {B : Int} (t : TT) (h : Tb B t) (hB : B ≤ 1000000000) : W_tie_vain N t = some (vainM t) := by
  obtain ⟨id, inc, now, par, pinc, grd, path, ep, born, ask, unt, stp, kids⟩ := t
  obtain ⟨h1, h2, h3, h4, h5, h6, h7, h8, h9, h10⟩ := h
  unfold W_tie_vain V_tie_vain vainM
  try simp only
  rw [wr_m (by omega) (by omega)]
theorem fresh_eq (N : Nat) {B : Int} (t : TT) (h : Tb B t) (hB : B ≤ 1000000000) : W_tie_Fresh N t = some (freshM t) := by
  obtain ⟨id, inc, now, par, pinc, grd, path, ep, born, ask, unt, stp, kids⟩ := t
  obtain ⟨h1, h2, h3, h4, h5, h6, h7, h8, h9, h10⟩ := h
  unfold W_tie_Fresh V_tie_Fresh W_tie_age V_tie_age freshM
  try simp only
  rw [wr_m (by omega) (by omega)]
  by_cases c : id = 1
  · rw [dT c, cnd_t, if_pos c]
  · rw [dF c, cnd_f, if_neg c]
    by_cases c2 : par ≠ 0
    · rw [dT c2, cnd_t, obind_s, if_pos c2]
    · rw [dF c2, cnd_f, if_neg c2]
theorem tellWay_eq (N : Nat) {B : Int} (t : TT) (h : Tb B t) (hB : B ≤ 1000000000) (k to : Int) : W_tie_tellWay N (t, k, to) = some (fullM t k to 0) := by
  obtain ⟨id, inc, now, par, pinc, grd, path, ep, born, ask, unt, stp, kids⟩ := t
  obtain ⟨h1, h2, h3, h4, h5, h6, h7, h8, h9, h10⟩ := h
  unfold W_tie_tellWay V_tie_tellWay W_tie_age V_tie_age
  try simp only
  rw [tell_eq, obind_s, wr_m (by omega) (by omega), obind_s, pCloneN N path (by omega), obind_s]
  rfl
theorem twinT_eq (N : Nat) {B : Int} (t : TT) (h : Tb B t) : W_twin_Tie N t = some t := by
  have hk := h.kl
  obtain ⟨id, inc, now, par, pinc, grd, path, ep, born, ask, unt, stp, kids⟩ := t
  obtain ⟨h1, h2, h3, h4, h5, h6, h7, h8, h9, h10⟩ := h
  unfold W_twin_Tie V_twin_Tie
  simp only at hk ⊢
  rw [pCloneN N path (by omega), obind_s, pCloneK N kids (by omega), obind_s]
theorem seek0_eq (N : Nat) (id inc now par pinc grd : Int) (path : List Int) (ep born unt stp : Int) (kids : List Kd) (z : TT) (hn : 0 ≤ now) (hn2 : now ≤ 1000000000) : (obind (obind (cnd (decide (stp = (0 : Int))) (some (decide (grd ≠ (0 : Int)), ((id, inc, now, par, pinc, grd, path, ep, born, (1 : Int), unt, stp, kids) : TT), z)) (some (false, ((id, inc, now, par, pinc, grd, path, ep, born, (1 : Int), unt, stp, kids) : TT), z))) fun (b : Bool × TT × TT) => cnd b.1 (cnd (decide (b.2.1.2.2.2.2.2.1 ≠ b.2.1.1)) (some ((b.2.1.1, b.2.1.2.1, b.2.1.2.2.1, b.2.1.2.2.2.1, b.2.1.2.2.2.2.1, b.2.1.2.2.2.2.2.1, b.2.1.2.2.2.2.2.2.1, b.2.1.2.2.2.2.2.2.2.1, b.2.1.2.2.2.2.2.2.2.2.1, b.2.1.2.2.2.2.2.1, b.2.1.2.2.2.2.2.2.2.2.2.2), b.2.2)) (some b.2)) (some b.2)) fun (b : TT × TT) => obind (W_tie_tell N ((b.1.1, b.1.2.1, b.1.2.2.1, b.1.2.2.2.1, b.1.2.2.2.2.1, b.1.2.2.2.2.2.1, b.1.2.2.2.2.2.2.1, b.1.2.2.2.2.2.2.2.1, b.1.2.2.2.2.2.2.2.2.1, b.1.2.2.2.2.2.2.2.2.2.1, wr .i64 (b.1.2.2.1 + (3 : Int)), b.1.2.2.2.2.2.2.2.2.2.2.2), (1 : Int), b.1.2.2.2.2.2.2.2.2.2.1)) fun (b_1 : Ms) => some (((b.1.1, b.1.2.1, b.1.2.2.1, b.1.2.2.2.1, b.1.2.2.2.2.1, b.1.2.2.2.2.2.1, b.1.2.2.2.2.2.2.1, b.1.2.2.2.2.2.2.2.1, b.1.2.2.2.2.2.2.2.2.1, b.1.2.2.2.2.2.2.2.2.2.1, wr .i64 (b.1.2.2.1 + (3 : Int)), b.1.2.2.2.2.2.2.2.2.2.2.2) : TT), [b_1])) = some (((id, inc, now, par, pinc, grd, path, ep, born, if stp = 0 ∧ grd ≠ 0 ∧ grd ≠ id then grd else 1, now + 3, stp, kids) : TT), [((1, id, if stp = 0 ∧ grd ≠ 0 ∧ grd ≠ id then grd else 1, inc, 0, 0, [], 0, 0, []) : Ms)]) := by
  have w : wr .i64 (now + 3) = now + 3 := wr_m (by omega) (by omega)
  by_cases c1 : stp = 0
  · rw [dT c1, cnd_t, obind_s]
    try simp only
    by_cases c2 : grd ≠ 0
    · rw [dT c2, cnd_t]
      by_cases c3 : grd ≠ id
      · rw [dT c3, cnd_t, obind_s]
        try simp only
        rw [w, tell_eq, obind_s, if_pos ⟨c1, c2, c3⟩]
        rfl
      · rw [dF c3, cnd_f, obind_s]
        try simp only
        rw [w, tell_eq, obind_s, if_neg (fun q => c3 q.2.2)]
        rfl
    · rw [dF c2, cnd_f, obind_s]
      try simp only
      rw [w, tell_eq, obind_s, if_neg (fun q => c2 q.2.1)]
      rfl
  · rw [dF c1, cnd_f, obind_s]
    try simp only
    rw [cnd_f, obind_s]
    try simp only
    rw [w, tell_eq, obind_s, if_neg (fun q => c1 q.1)]
    rfl
theorem seekT_eq (N : Nat) {B : Int} (t : TT) (h : Tb B t) (hB : B ≤ 1000000000) : W_tie_seek N t = some (seekM t) := by
  have hv := vain_eq N t h hB
  obtain ⟨id, inc, now, par, pinc, grd, path, ep, born, ask, unt, stp, kids⟩ := t
  obtain ⟨h1, h2, h3, h4, h5, h6, h7, h8, h9, h10⟩ := h
  unfold W_tie_seek V_tie_seek seekM
  try simp only
  by_cases c1 : ask ≠ 0
  · rw [dT c1, cnd_t, if_pos c1]
    by_cases c2 : unt ≤ now
    · rw [dT c2, cnd_t, if_pos c2, hv, obind_s]
      unfold vainM
      try simp only
      rw [obind_s]
      try simp only
      rw [dF (by omega), cnd_f]
      exact seek0_eq N id inc now par pinc grd path ep born unt (stp + 1) kids _ h2.1 (by omega)
    · rw [dF c2, cnd_f, if_neg c2, obind_s]
      try simp only
      rw [dT c1, cnd_t]
  · rw [dF c1, cnd_f, if_neg c1, obind_s]
    try simp only
    rw [dF c1, cnd_f]
    exact seek0_eq N id inc now par pinc grd path ep born unt stp kids _ h2.1 (by omega)
theorem beat_eq (N : Nat) (hN : 2000 ≤ N) {B : Int} (t : TT) (h : Tb B t) (hB : B ≤ 1000000000) : W_tie_beat N t = some (beatM t) := by
  have hf := fresh_eq N t h hB
  have hk := h.kl
  have ht := tellWay_eq N t h hB
  unfold W_tie_beat V_tie_beat beatM
  obtain ⟨o, ho, hol⟩ : ∃ o, (cnd (decide (t.2.2.2.1 ≠ (0 : Int))) (obind (W_tie_tell N (t, (4 : Int), t.2.2.2.1)) fun (b : Ms) => some (t, [b])) (some (t, []))) = some (t, o) ∧ o = (if t.2.2.2.1 ≠ 0 then [sayM t 4 t.2.2.2.1] else []) := by
    by_cases c : t.2.2.2.1 ≠ 0
    · rw [dT c, cnd_t, tell_eq, obind_s, if_pos c]; exact ⟨_, rfl, rfl⟩
    · rw [dF c, cnd_f, if_neg c]; exact ⟨_, rfl, rfl⟩
  rw [ho, obind_s, ← hol]
  try simp only
  rw [hf, obind_s]
  have ho1 : o.length ≤ 1 := by rw [hol]; split <;> simp
  cases hF : freshM t with
  | false => rw [cnd_f, if_neg (by simp), List.append_nil]
  | true =>
    rw [cnd_t, if_pos rfl]
    obtain ⟨K, hK⟩ : ∃ K, t.2.2.2.2.2.2.2.2.2.2.2.2 = K := ⟨_, rfl⟩
    rw [hK] at hk ⊢
    refine loop_G (N := N) (x := (0, t, o)) (fun q => q = some (o ++ K.map fun k => fullM t 5 k.1 0)) (fun k (v : Int × TT × List Ms) => v = (↑k, t, o ++ (K.take k).map fun k => fullM t 5 k.1 0) ∧ k ≤ K.length) K.length (fun r : List Ms => r = o ++ K.map fun k => fullM t 5 k.1 0) ⟨by simp, by omega⟩ (by omega) (fun r h => by rw [h]) (fun k v h => h.2) ?_
    rintro k v ⟨rfl, hk2⟩
    try simp only
    by_cases c : (k : Int) < K.length
    case neg =>
      right
      rw [dF c, cnd_f]
      exact ⟨_, rfl, by rw [List.take_of_length_le (by omega)]⟩
    left
    rw [dT c, cnd_t, dT (by omega), Bool.and_self, cnd_t, Int.toNat_natCast, ht, obind_s]
    refine ⟨_, cnd_T (by simp only [List.length_append, List.length_map, List.length_take, List.length_singleton]; omega), ?_, by omega⟩
    rw [wr_m (by omega) (by omega), List.append_assoc, take_snocK (by omega), List.map_append]
    rfl
theorem Tb.mono {B B' : Int} {t : TT} (h : Tb B t) (hB : B ≤ B') : Tb B' t := by
  obtain ⟨id, inc, now, par, pinc, grd, path, ep, born, ask, unt, stp, kids⟩ := t
  obtain ⟨h1, h2, h3, h4, h5, h6, h7, h8, h9, h10⟩ := h
  exact ⟨h1, by omega, by omega, by omega, by omega, by omega, h7, h8, h9, h10⟩
theorem tick1_def (id inc now par pinc grd : Int) (path : List Int) (ep born ask unt stp : Int) (kids : List Kd) : tick1 (id, inc, now, par, pinc, grd, path, ep, born, ask, unt, stp, kids) = if id = 1 ∧ (now + 1) % 2 = 0 then (id, inc, now + 1, par, pinc, grd, path, ep + 1, now + 1, ask, unt, stp, prK (now + 1) kids)
    else (id, inc, now + 1, par, pinc, grd, path, ep, born, ask, unt, stp, prK (now + 1) kids) := rfl
theorem Tb.t1 {B : Int} {t : TT} (h : Tb B t) : Tb (B + 1) (tick1 t) := by
  obtain ⟨id, inc, now, par, pinc, grd, path, ep, born, ask, unt, stp, kids⟩ := t
  obtain ⟨h1, h2, h3, h4, h5, h6, h7, h8, h9, h10⟩ := h
  rw [tick1_def]
  split
  · exact ⟨h1, by omega, by omega, by omega, by omega, by omega, h7, h8.filter _, h9, h10⟩
  · exact ⟨h1, by omega, by omega, by omega, by omega, by omega, h7, h8.filter _, h9, h10⟩
theorem Tb.off {B : Int} {t : TT} (h : Tb B t) {s : Int} (hs : 0 ≤ s ∧ s ≤ B) : Tb B (letgo t s) := by
  obtain ⟨id, inc, now, par, pinc, grd, path, ep, born, ask, unt, stp, kids⟩ := t
  obtain ⟨h1, h2, h3, h4, h5, h6, h7, h8, h9, h10⟩ := h
  exact ⟨h1, h2, h3, hs, h5, h6, by simp, h8, by omega, h10⟩
theorem Tb.b0 {B : Int} {t : TT} (h : Tb B t) : 0 ≤ B := by
  obtain ⟨id, inc, now, par, pinc, grd, path, ep, born, ask, unt, stp, kids⟩ := t
  obtain ⟨h1, h2, h3, h4, h5, h6, h7, h8, h9, h10⟩ := h
  omega
theorem Tb.t2 {B : Int} {t : TT} (h : Tb B t) : Tb B (tick2 t) := by
  unfold tick2
  split
  · exact h.off ⟨by omega, h.b0⟩
  · exact h
theorem Tb.vain {B : Int} {t : TT} (h : Tb B t) : Tb (B + 1) (vainM t) := by
  obtain ⟨id, inc, now, par, pinc, grd, path, ep, born, ask, unt, stp, kids⟩ := t
  obtain ⟨h1, h2, h3, h4, h5, h6, h7, h8, h9, h10⟩ := h
  exact ⟨h1, by omega, by omega, by omega, by omega, by omega, h7, h8, by omega, h10⟩
theorem Tb.seek {B : Int} {t : TT} (h : Tb B t) : Tb (B + 1) (seekM t).1 ∧ (seekM t).2.length ≤ 1 := by
  obtain ⟨id, inc, now, par, pinc, grd, path, ep, born, ask, unt, stp, kids⟩ := t
  obtain ⟨h1, h2, h3, h4, h5, h6, h7, h8, h9, h10⟩ := h
  unfold seekM
  try simp only
  split
  · split
    · exact ⟨⟨h1, by omega, by omega, by omega, by omega, by omega, h7, h8, by split <;> omega, h10⟩, by simp⟩
    · exact ⟨⟨h1, by omega, by omega, by omega, by omega, by omega, h7, h8, h9, h10⟩, by simp⟩
  · exact ⟨⟨h1, by omega, by omega, by omega, by omega, by omega, h7, h8, by split <;> omega, h10⟩, by simp⟩
theorem Tb.t3 {B : Int} {t : TT} (h : Tb B t) : Tb (B + 1) (tick3 t).1 ∧ (tick3 t).2.length ≤ 1 := by
  unfold tick3
  split
  · exact h.seek
  · exact ⟨h.mono (by omega), by simp⟩
theorem tick1_now (t : TT) : (tick1 t).2.2.1 = t.2.2.1 + 1 := by
  obtain ⟨id, inc, now, par, pinc, grd, path, ep, born, ask, unt, stp, kids⟩ := t
  rw [tick1_def]
  split <;> rfl
theorem beat_len {B : Int} {t : TT} (h : Tb B t) : (beatM t).length ≤ 9 := by
  have := h.kl
  unfold beatM
  rw [List.length_append]
  have a : (if t.2.2.2.1 ≠ 0 then [sayM t 4 t.2.2.2.1] else []).length ≤ 1 := by split <;> simp
  have b : (if freshM t = true then t.2.2.2.2.2.2.2.2.2.2.2.2.map fun k => fullM t 5 k.1 0 else []).length ≤ 8 := by split <;> simp; omega
  omega
theorem tick_eq (N : Nat) (hN : 2000 ≤ N) {B : Int} (t : TT) (h : Tb B t) (hB : B ≤ 1000000) : W_tie_Tick N t = some (tickM t) := by
  have htw := twinT_eq N t h
  have h1 := h.t1
  have h2 := h1.t2
  obtain ⟨h3, h3l⟩ := h2.t3
  have fr := fresh_eq N _ h1 (by omega)
  have sk := seekT_eq N _ h2 (by omega)
  have bt := beat_eq N hN _ h3 (by omega)
  have bl := beat_len h3
  unfold tickM
  try simp only
  have hkl := h.kl
  have hnow := tick1_now t
  have hid : (tick1 t).1 = t.1 ∧ (tick1 t).2.2.2.1 = t.2.2.2.1 := by
    obtain ⟨id, inc, now, par, pinc, grd, path, ep, born, ask, unt, stp, kids⟩ := t
    rw [tick1_def]
    split <;> exact ⟨rfl, rfl⟩
  unfold W_tie_Tick V_tie_Tick
  rw [htw, obind_s]
  have hb : 0 ≤ t.2.2.1 ∧ t.2.2.1 ≤ B ∧ 0 ≤ t.2.2.2.2.2.2.2.1 ∧ t.2.2.2.2.2.2.2.1 ≤ B + 1000 := by
    obtain ⟨id, inc, now, par, pinc, grd, path, ep, born, ask, unt, stp, kids⟩ := t
    obtain ⟨h1, h2, h3, h4, h5, h6, h7, h8, h9, h10⟩ := h
    exact ⟨h2.1, h2.2, h6.1, h6.2⟩
  rw [wr_m (z := t.2.2.1 + 1) (by omega) (by omega), prune_eq N hN _ _ (by omega) (by omega) (by omega), obind_s, wr_m (z := t.2.2.2.2.2.2.2.1 + 1) (by omega) (by omega), tm _ _ (by omega)]
  obtain ⟨z, hz⟩ : ∃ z : TT, z = (0, 0, 0, 0, 0, 0, [], 0, 0, 0, 0, 0, []) := ⟨_, rfl⟩
  have e1 : ∀ {β : Type} (G : TT × TT → Option β), obind (cnd (decide (t.1 = (1 : Int))) (cnd (decide ((t.2.2.1 + 1) % 2 = (0 : Int))) (some (((0 : Int), (0 : Int), (0 : Int), (0 : Int), (0 : Int), (0 : Int), [], (0 : Int), (0 : Int), (0 : Int), (0 : Int), (0 : Int), []), t.1, t.2.1, t.2.2.1 + 1, t.2.2.2.1, t.2.2.2.2.1, t.2.2.2.2.2.1, t.2.2.2.2.2.2.1, t.2.2.2.2.2.2.2.1 + 1, t.2.2.1 + 1, t.2.2.2.2.2.2.2.2.2.1, t.2.2.2.2.2.2.2.2.2.2.1, t.2.2.2.2.2.2.2.2.2.2.2.1, prK (t.2.2.1 + 1) t.2.2.2.2.2.2.2.2.2.2.2.2)) (some (((0 : Int), (0 : Int), (0 : Int), (0 : Int), (0 : Int), (0 : Int), [], (0 : Int), (0 : Int), (0 : Int), (0 : Int), (0 : Int), []), t.1, t.2.1, t.2.2.1 + 1, t.2.2.2.1, t.2.2.2.2.1, t.2.2.2.2.2.1, t.2.2.2.2.2.2.1, t.2.2.2.2.2.2.2.1, t.2.2.2.2.2.2.2.2.1, t.2.2.2.2.2.2.2.2.2.1, t.2.2.2.2.2.2.2.2.2.2.1, t.2.2.2.2.2.2.2.2.2.2.2.1, prK (t.2.2.1 + 1) t.2.2.2.2.2.2.2.2.2.2.2.2))) (some (((0 : Int), (0 : Int), (0 : Int), (0 : Int), (0 : Int), (0 : Int), [], (0 : Int), (0 : Int), (0 : Int), (0 : Int), (0 : Int), []), t.1, t.2.1, t.2.2.1 + 1, t.2.2.2.1, t.2.2.2.2.1, t.2.2.2.2.2.1, t.2.2.2.2.2.2.1, t.2.2.2.2.2.2.2.1, t.2.2.2.2.2.2.2.2.1, t.2.2.2.2.2.2.2.2.2.1, t.2.2.2.2.2.2.2.2.2.2.1, t.2.2.2.2.2.2.2.2.2.2.2.1, prK (t.2.2.1 + 1) t.2.2.2.2.2.2.2.2.2.2.2.2))) G = G (z, tick1 t) := by
    intro β G
    obtain ⟨id, inc, now, par, pinc, grd, path, ep, born, ask, unt, stp, kids⟩ := t
    rw [hz, tick1_def]
    try simp only
    by_cases c1 : id = 1
    · rw [dT c1, cnd_t]
      by_cases c2 : (now + 1) % 2 = 0
      · rw [dT c2, cnd_t, obind_s, if_pos ⟨c1, c2⟩]
      · rw [dF c2, cnd_f, obind_s, if_neg (fun q => c2 q.2)]
    · rw [dF c1, cnd_f, obind_s, if_neg (fun q => c1 q.1)]
  refine (e1 _).trans ?_
  clear e1
  try simp only
  have e2 : ∀ {β : Type} (G : TT × TT → Option β), obind (cnd (decide ((tick1 t).2.2.2.1 ≠ (0 : Int))) (obind (W_tie_Fresh N (tick1 t)) fun (b : Bool) => cnd (!b) (obind (W_tie_letGo N (tick1 t, (0 : Int))) fun (b : TT) => some (z, b)) (some (z, tick1 t))) (some (z, tick1 t))) G = G (z, tick2 (tick1 t)) := by
    intro β G
    unfold tick2
    by_cases c1 : (tick1 t).2.2.2.1 ≠ 0
    · rw [dT c1, cnd_t, fr, obind_s]
      cases hf : freshM (tick1 t) with
      | true => rw [Bool.not_true, cnd_f, obind_s, if_neg (by simp)]
      | false => rw [Bool.not_false, cnd_t, letGo_eq, obind_s, obind_s, if_pos ⟨c1, rfl⟩]
    · rw [dF c1, cnd_f, obind_s, if_neg (fun q => c1 q.1)]
  refine (e2 _).trans ?_
  clear e2
  try simp only
  have e3 : ∀ {β : Type} (G : TT × TT × List Ms → Option β), obind (cnd (decide ((tick2 (tick1 t)).2.2.2.1 = (0 : Int))) (cnd (decide ((tick2 (tick1 t)).1 ≠ (1 : Int))) (obind (W_tie_seek N (tick2 (tick1 t))) fun (b : TT × List Ms) => some (z, b)) (some (z, tick2 (tick1 t), []))) (some (z, tick2 (tick1 t), []))) G = G (z, tick3 (tick2 (tick1 t))) := by
    intro β G
    unfold tick3
    by_cases c1 : (tick2 (tick1 t)).2.2.2.1 = 0
    · rw [dT c1, cnd_t]
      by_cases c2 : (tick2 (tick1 t)).1 ≠ 1
      · rw [dT c2, cnd_t, sk, obind_s, obind_s, if_pos ⟨c1, c2⟩]
      · rw [dF c2, cnd_f, obind_s, if_neg (fun q => c2 q.2)]
    · rw [dF c1, cnd_f, obind_s, if_neg (fun q => c1 q.1)]
  refine (e3 _).trans ?_
  clear e3
  try simp only
  generalize tick3 (tick2 (tick1 t)) = a at *
  by_cases c : (t.2.2.1 + 1) % 2 = 0
  · rw [dT c, cnd_t, if_pos c, bt, obind_s, cnd_T (by omega)]
  · rw [dF c, cnd_f, if_neg c]
/-! What comes. -/
def grandM (p : List Int) : Int := if (p.length : Int) < 2 then 0 else p.getD (p.length - 2) 0
def grdM (p : List Int) : Int := if grandM p = 0 then 1 else grandM p
def isUp (t : TT) (m : Ms) : Prop := t.2.2.2.1 ≠ 0 ∧ m.2.1 = t.2.2.2.1
def isAsk (t : TT) (m : Ms) : Prop := t.2.2.2.2.2.2.2.2.2.1 ≠ 0 ∧ m.2.1 = t.2.2.2.2.2.2.2.2.2.1
instance (t : TT) (m : Ms) : Decidable (isUp t m) := by unfold isUp; infer_instance
instance (t : TT) (m : Ms) : Decidable (isAsk t m) := by unfold isAsk; infer_instance
def withK : TT → List Kd → TT
  | (id, inc, now, par, pinc, grd, path, ep, born, ask, unt, stp, _), kids => (id, inc, now, par, pinc, grd, path, ep, born, ask, unt, stp, kids)
def hearM (l : List Kd) (k : Kd) : List Kd := if oldK l k.1 k.2.1 = true then l else putK k l
def mostM (t : TT) : Int := if t.1 = 1 then 8 else 3
def attachM (t : TT) (m : Ms) (lo : Int) : List Ms × TT :=
  if freshM t = false ∨ m.2.1 ∈ t.2.2.2.2.2.2.1 ∨ ((findK t.2.2.2.2.2.2.2.2.2.2.2.2 m.2.1).1 = false ∧ mostM t ≤ (t.2.2.2.2.2.2.2.2.2.2.2.2.length : Int)) then ([sayM t 3 m.2.1], t)
  else ([fullM t 2 m.2.1 lo], withK t (hearM t.2.2.2.2.2.2.2.2.2.2.2.2 (m.2.1, m.2.2.2.1, t.2.2.1)))
open Classical in
noncomputable def acceptM (t : TT) (m : Ms) : List Ms × TT :=
  if isUp t m then ([], t) else if isAsk t m ∧ t.2.2.2.1 = 0 then
    if VP (m.2.2.2.2.2.2.1 ++ [t.1]) ∧ m.2.2.2.2.2.1 ≤ 20 then
      ([], (t.1, t.2.1, t.2.2.1, m.2.1, m.2.2.2.1, grdM m.2.2.2.2.2.2.1, m.2.2.2.2.2.2.1 ++ [t.1], m.2.2.2.2.1, t.2.2.1 - m.2.2.2.2.2.1, 0, t.2.2.2.2.2.2.2.2.2.2.1, 0, t.2.2.2.2.2.2.2.2.2.2.2.2))
    else ([sayM t 6 m.2.1], vainM t)
  else ([sayM t 6 m.2.1], t)
def refuseM (t : TT) (m : Ms) : TT := if isUp t m then letgo t 0 else if isAsk t m then vainM t else t
def beatUpM (t : TT) (m : Ms) : List Ms × TT :=
  if (findK t.2.2.2.2.2.2.2.2.2.2.2.2 m.2.1).1 = false then ([sayM t 3 m.2.1], t) else ([], withK t (hearM t.2.2.2.2.2.2.2.2.2.2.2.2 (m.2.1, m.2.2.2.1, t.2.2.1)))
open Classical in
noncomputable def beatDnM (t : TT) (m : Ms) : List Ms × TT :=
  if isUp t m then
    if VP (m.2.2.2.2.2.2.1 ++ [t.1]) then
      ([], (t.1, t.2.1, t.2.2.1, t.2.2.2.1, t.2.2.2.2.1, grdM m.2.2.2.2.2.2.1, m.2.2.2.2.2.2.1 ++ [t.1], if t.2.2.2.2.2.2.2.2.1 < t.2.2.1 - m.2.2.2.2.2.1 then m.2.2.2.2.1 else t.2.2.2.2.2.2.2.1, if t.2.2.2.2.2.2.2.2.1 < t.2.2.1 - m.2.2.2.2.2.1 then t.2.2.1 - m.2.2.2.2.2.1 else t.2.2.2.2.2.2.2.2.1, t.2.2.2.2.2.2.2.2.2))
    else ([sayM t 6 m.2.1], letgo t 1)
  else ([sayM t 6 m.2.1], t)
noncomputable def dispM (t : TT) (m : Ms) (lo : Int) : List Ms × TT :=
  if m.1 = 1 then attachM t m lo else if m.1 = 2 then acceptM t m else if m.1 = 3 then ([], refuseM t m) else if m.1 = 4 then beatUpM t m else if m.1 = 5 then beatDnM t m
  else if m.1 = 6 then ([], withK t (t.2.2.2.2.2.2.2.2.2.2.2.2.filter fun k => !decide (k.1 = m.2.1))) else ([], t)
noncomputable def comesT (t : TT) (m : Ms) (lo : Int) : List Ms × TT :=
  if oldK t.2.2.2.2.2.2.2.2.2.2.2.2 m.2.1 m.2.2.2.1 = true then ([], t) else
  if isUp t m then (if m.2.2.2.1 < t.2.2.2.2.1 then ([], t) else dispM (if t.2.2.2.2.1 < m.2.2.2.1 then letgo t 0 else t) m lo) else dispM t m lo
/-- Bounds of a message. -/
structure Mb (m : Ms) : Prop where
  fr : 1 ≤ m.2.1 ∧ m.2.1 ≤ 8
  age : 0 ≤ m.2.2.2.2.2.1 ∧ m.2.2.2.2.2.1 ≤ 1000
  ep : 0 ≤ m.2.2.2.2.1 ∧ m.2.2.2.2.1 ≤ 1000
  pl : m.2.2.2.2.2.2.1.length ≤ 1000
theorem of_eq (N : Nat) (t : TT) (m : Ms) : W_tie_of N (t, m) = some (if isUp t m then .inl () else if isAsk t m then .inr (.inl ()) else .inr (.inr ())) := by
  unfold W_tie_of V_tie_of
  try simp only
  by_cases u : isUp t m
  · rw [if_pos u, dT u.1, cnd_t, dT u.2, cnd_t]
  rw [if_neg u]
  by_cases a : isAsk t m
  · rw [if_pos a]
    by_cases c1 : t.2.2.2.1 ≠ 0
    · rw [dT c1, cnd_t, dF (fun q => u ⟨c1, q⟩), cnd_f, dT a.1, cnd_t, dT a.2, cnd_t]
    · rw [dF c1, cnd_f, dT a.1, cnd_t, dT a.2, cnd_t]
  · rw [if_neg a]
    have tail : cnd (decide (t.2.2.2.2.2.2.2.2.2.1 ≠ (0 : Int))) (cnd (decide (m.2.1 = t.2.2.2.2.2.2.2.2.2.1)) (some (Sum.inr (Sum.inl ()))) (some (Sum.inr (Sum.inr ())))) (some (Sum.inr (Sum.inr ()))) = (some (Sum.inr (Sum.inr ())) : Option (Unit ⊕ (Unit ⊕ Unit))) := by
      by_cases c3 : t.2.2.2.2.2.2.2.2.2.1 ≠ 0
      · rw [dT c3, cnd_t, dF (fun q => a ⟨c3, q⟩), cnd_f]
      · rw [dF c3, cnd_f]
    by_cases c1 : t.2.2.2.1 ≠ 0
    · rw [dT c1, cnd_t, dF (fun q => u ⟨c1, q⟩), cnd_f]
      exact tail
    · rw [dF c1, cnd_f]
      exact tail
theorem Tb.hear {B : Int} {t : TT} (h : Tb B t) (N : Nat) (hN : 2000 ≤ N) (a b c : Int) : ∃ q, W_kids_Hear N (t.2.2.2.2.2.2.2.2.2.2.2.2, a, b, c) = some (hearM t.2.2.2.2.2.2.2.2.2.2.2.2 (a, b, c), q) := by
  have hk := h.kl
  obtain ⟨id, inc, now, par, pinc, grd, path, ep, born, ask, unt, stp, kids⟩ := t
  obtain ⟨h1, h2, h3, h4, h5, h6, h7, h8, h9, h10⟩ := h
  have := hear_eq N hN kids 1 (a, b, c) h8 (by simp only at hk; omega)
  simp only at this ⊢
  rw [this]
  unfold hearM
  split
  · exact ⟨_, rfl⟩
  · exact ⟨_, rfl⟩
theorem Tb.find {B : Int} {t : TT} (h : Tb B t) (N : Nat) (hN : 2000 ≤ N) (a : Int) : W_kids_Find N (t.2.2.2.2.2.2.2.2.2.2.2.2, a) = some (findK t.2.2.2.2.2.2.2.2.2.2.2.2 a) := by
  have hk := h.kl
  obtain ⟨id, inc, now, par, pinc, grd, path, ep, born, ask, unt, stp, kids⟩ := t
  obtain ⟨h1, h2, h3, h4, h5, h6, h7, h8, h9, h10⟩ := h
  exact find_eq N hN kids a 1 h8 (by simp only at hk; omega)
theorem Tb.old {B : Int} {t : TT} (h : Tb B t) (N : Nat) (hN : 2000 ≤ N) (a b : Int) : W_kids_Old N (t.2.2.2.2.2.2.2.2.2.2.2.2, a, b) = some (oldK t.2.2.2.2.2.2.2.2.2.2.2.2 a b) := by
  have hk := h.kl
  obtain ⟨id, inc, now, par, pinc, grd, path, ep, born, ask, unt, stp, kids⟩ := t
  obtain ⟨h1, h2, h3, h4, h5, h6, h7, h8, h9, h10⟩ := h
  exact old_eq N hN kids a b 1 h8 (by simp only at hk; omega)
theorem Tb.pl {B : Int} {t : TT} (h : Tb B t) : t.2.2.2.2.2.2.1.length ≤ 10 := by
  obtain ⟨id, inc, now, par, pinc, grd, path, ep, born, ask, unt, stp, kids⟩ := t
  obtain ⟨h1, h2, h3, h4, h5, h6, h7, h8, h9, h10⟩ := h
  exact h7
theorem Tb.wk {B : Int} {t : TT} (h : Tb B t) {l : List Kd} (hl : Kw 1 l) : Tb B (withK t l) := by
  obtain ⟨id, inc, now, par, pinc, grd, path, ep, born, ask, unt, stp, kids⟩ := t
  obtain ⟨h1, h2, h3, h4, h5, h6, h7, h8, h9, h10⟩ := h
  exact ⟨h1, h2, h3, h4, h5, h6, h7, hl, h9, h10⟩
theorem Tb.kw {B : Int} {t : TT} (h : Tb B t) : Kw 1 t.2.2.2.2.2.2.2.2.2.2.2.2 := by
  obtain ⟨id, inc, now, par, pinc, grd, path, ep, born, ask, unt, stp, kids⟩ := t
  obtain ⟨h1, h2, h3, h4, h5, h6, h7, h8, h9, h10⟩ := h
  exact h8
theorem Kw.hear {l : List Kd} (h : Kw 1 l) {k : Kd} (h1 : 1 ≤ k.1) (h2 : k.1 ≤ 8) : Kw 1 (hearM l k) := by
  unfold hearM
  split
  · exact h
  · exact h.put h1 h2
theorem withK_eq (t : TT) (l : List Kd) : (t.1, t.2.1, t.2.2.1, t.2.2.2.1, t.2.2.2.2.1, t.2.2.2.2.2.1, t.2.2.2.2.2.2.1, t.2.2.2.2.2.2.2.1, t.2.2.2.2.2.2.2.2.1, t.2.2.2.2.2.2.2.2.2.1, t.2.2.2.2.2.2.2.2.2.2.1, t.2.2.2.2.2.2.2.2.2.2.2.1, l) = withK t l := by
  obtain ⟨id, inc, now, par, pinc, grd, path, ep, born, ask, unt, stp, kids⟩ := t
  rfl
theorem most_eq (N : Nat) (t : TT) : W_tie_most N t = some (mostM t) := by
  unfold W_tie_most V_tie_most mostM
  by_cases c : t.1 = 1
  · rw [dT c, cnd_t, if_pos c]
  · rw [dF c, cnd_f, if_neg c]
theorem attach_eq (N : Nat) (hN : 2000 ≤ N) {B : Int} (t : TT) (h : Tb B t) (hB : B ≤ 1000000) (m : Ms) (hm : Mb m) (lo : Int) : W_tie_attach N (t, m, lo) = some (attachM t m lo) := by
  have hfi := h.find N hN m.2.1
  have hfr := fresh_eq N t h (by omega)
  have hpl := h.pl
  have hha := Has_eq N t.2.2.2.2.2.2.1 m.2.1 (by omega) (by omega)
  obtain ⟨q, hh⟩ := h.hear N hN m.2.1 m.2.2.2.1 t.2.2.1
  have hkw := h.kw.hear (k := (m.2.1, m.2.2.2.1, t.2.2.1)) hm.fr.1 hm.fr.2
  have htw := tellWay_eq N _ (h.wk hkw) (by omega) 2 m.2.1
  unfold W_tie_attach V_tie_attach attachM
  try simp only
  rw [hfi, obind_s, hfr, obind_s]
  have fin : (obind (W_kids_Hear N (t.2.2.2.2.2.2.2.2.2.2.2.2, m.2.1, m.2.2.2.1, t.2.2.1)) fun (b : List Kd × Bool) => obind (W_tie_tellWay N ((t.1, t.2.1, t.2.2.1, t.2.2.2.1, t.2.2.2.2.1, t.2.2.2.2.2.1, t.2.2.2.2.2.2.1, t.2.2.2.2.2.2.2.1, t.2.2.2.2.2.2.2.2.1, t.2.2.2.2.2.2.2.2.2.1, t.2.2.2.2.2.2.2.2.2.2.1, t.2.2.2.2.2.2.2.2.2.2.2.1, b.1), (2 : Int), m.2.1)) fun (b_3 : Ms) => some ([(b_3.1, b_3.2.1, b_3.2.2.1, b_3.2.2.2.1, b_3.2.2.2.2.1, b_3.2.2.2.2.2.1, b_3.2.2.2.2.2.2.1, lo, b_3.2.2.2.2.2.2.2.2)], t.1, t.2.1, t.2.2.1, t.2.2.2.1, t.2.2.2.2.1, t.2.2.2.2.2.1, t.2.2.2.2.2.2.1, t.2.2.2.2.2.2.2.1, t.2.2.2.2.2.2.2.2.1, t.2.2.2.2.2.2.2.2.2.1, t.2.2.2.2.2.2.2.2.2.2.1, t.2.2.2.2.2.2.2.2.2.2.2.1, b.1)) = some (([fullM t 2 m.2.1 lo], withK t (hearM t.2.2.2.2.2.2.2.2.2.2.2.2 (m.2.1, m.2.2.2.1, t.2.2.1))) : List Ms × TT) := by
    rw [hh, obind_s]
    try simp only
    rw [withK_eq, htw, obind_s]
    obtain ⟨id, inc, now, par, pinc, grd, path, ep, born, ask, unt, stp, kids⟩ := t
    rfl
  cases hF : freshM t with
  | false => rw [Bool.not_false, cnd_t, tell_eq, obind_s, if_pos (.inl rfl)]
  | true =>
    rw [Bool.not_true, cnd_f, hha, obind_s]
    by_cases c1 : m.2.1 ∈ t.2.2.2.2.2.2.1
    · rw [dT c1, cnd_t, tell_eq, obind_s, if_pos (.inr (.inl c1))]
    rw [dF c1, cnd_f]
    cases hfk : (findK t.2.2.2.2.2.2.2.2.2.2.2.2 m.2.1).1 with
    | false =>
      rw [Bool.not_false, cnd_t, most_eq, obind_s]
      by_cases c2 : mostM t ≤ (t.2.2.2.2.2.2.2.2.2.2.2.2.length : Int)
      · rw [dT c2, cnd_t, tell_eq, obind_s, if_pos (.inr (.inr ⟨rfl, c2⟩))]
      · rw [dF c2, cnd_f, if_neg (fun h => h.elim (fun q => by cases q) (fun h => h.elim (fun q => c1 q) (fun q => c2 q.2)))]
        exact fin
    | true =>
      rw [Bool.not_true, cnd_f, if_neg (fun h => h.elim (fun q => by cases q) (fun h => h.elim (fun q => c1 q) (fun q => by cases q.1)))]
      exact fin
theorem grand_eq (N : Nat) (p : List Int) (h : p.length ≤ 1000) : W_path_Grand N p = some (grandM p) := by
  unfold W_path_Grand V_path_Grand grandM
  by_cases c : (p.length : Int) < 2
  · rw [dT c, cnd_t, if_pos c]
  · have w : wr .i64 ((p.length : Int) - 2) = ((p.length - 2 : Nat) : Int) := by rw [wr_m (by omega) (by omega)]; omega
    rw [dF c, cnd_f, if_neg c, w, dT (by omega), dT (by omega), Bool.and_self, cnd_t, Int.toNat_natCast]
theorem under_eq (N : Nat) (t : TT) (m : Ms) (w : List Int) (h : m.2.2.2.2.2.2.1.length ≤ 1000) : W_tie_under N (t, m, w) = some (t.1, t.2.1, t.2.2.1, t.2.2.2.1, t.2.2.2.2.1, grdM m.2.2.2.2.2.2.1, w, t.2.2.2.2.2.2.2) := by
  unfold W_tie_under V_tie_under grdM
  try simp only
  rw [grand_eq N _ h, obind_s]
  by_cases c : grandM m.2.2.2.2.2.2.1 = 0
  · rw [dT c, cnd_t, if_pos c]
  · rw [dF c, cnd_f, if_neg c]
theorem accept_eq (N : Nat) (hN : 2000 ≤ N) {B : Int} (t : TT) (h : Tb B t) (hB : B ≤ 1000000) (m : Ms) (hm : Mb m) : W_tie_accept N (t, m) = some (acceptM t m) := by
  have hv := vain_eq N t h (by omega)
  have hn : 0 ≤ t.2.2.1 ∧ t.2.2.1 ≤ B := by
    obtain ⟨id, inc, now, par, pinc, grd, path, ep, born, ask, unt, stp, kids⟩ := t
    exact h.2.1
  have hadd := Add_eq N m.2.2.2.2.2.2.1 t.1 (by omega) hm.pl
  have hage := hm.age
  unfold W_tie_accept V_tie_accept acceptM
  try simp only
  rw [of_eq, obind_s]
  by_cases u : isUp t m
  · rw [if_pos u, selim_l, if_pos u]
  rw [if_neg u, if_neg u]
  by_cases a : isAsk t m
  · rw [if_pos a, selim_r, selim_l, tell_eq, obind_s]
    rw [selim_r, selim_l]
    by_cases c1 : t.2.2.2.1 ≠ 0
    · rw [dT c1, cnd_t, if_neg (fun q => c1 q.2)]
    · rw [dF c1, cnd_f, if_pos ⟨a, by omega⟩, hadd, obind_s]
      by_cases c2 : VP (m.2.2.2.2.2.2.1 ++ [t.1])
      · rw [if_pos c2]
        try simp only
        rw [Bool.not_true, cnd_f]
        by_cases c3 : 20 < m.2.2.2.2.2.1
        · rw [dT c3, cnd_t, hv, obind_s, if_neg (fun q => by have := q.2; omega)]
        · rw [dF c3, cnd_f, under_eq N t m _ hm.pl, obind_s, if_pos ⟨c2, by omega⟩]
          try simp only
          rw [wr_m (by omega) (by omega)]
      · rw [if_neg c2]
        try simp only
        rw [Bool.not_false, cnd_t, hv, obind_s, if_neg (fun q => c2 q.1)]
  · rw [if_neg a, selim_r, selim_r, tell_eq, obind_s, selim_r, selim_r, if_neg (fun q => a q.1)]
theorem refuse_eq (N : Nat) {B : Int} (t : TT) (h : Tb B t) (hB : B ≤ 1000000) (m : Ms) : W_tie_refuse N (t, m) = some (refuseM t m) := by
  have hv := vain_eq N t h (by omega)
  unfold W_tie_refuse V_tie_refuse refuseM
  try simp only
  rw [of_eq, obind_s]
  by_cases u : isUp t m
  · rw [if_pos u, selim_l, selim_l, letGo_eq, obind_s, if_pos u]
  rw [if_neg u, if_neg u]
  by_cases a : isAsk t m
  · rw [if_pos a, selim_r, selim_l, hv, obind_s, if_pos a]
  · rw [if_neg a, selim_r, selim_r, selim_r, selim_r, if_neg a]
theorem beatUp_eq (N : Nat) (hN : 2000 ≤ N) {B : Int} (t : TT) (h : Tb B t) (m : Ms) : W_tie_beatUp N (t, m) = some (beatUpM t m) := by
  have hfi := h.find N hN m.2.1
  obtain ⟨q, hh⟩ := h.hear N hN m.2.1 m.2.2.2.1 t.2.2.1
  unfold W_tie_beatUp V_tie_beatUp beatUpM
  try simp only
  rw [hfi, obind_s]
  cases hfk : (findK t.2.2.2.2.2.2.2.2.2.2.2.2 m.2.1).1 with
  | false => rw [Bool.not_false, cnd_t, tell_eq, obind_s, if_pos rfl]
  | true =>
    rw [Bool.not_true, cnd_f, hh, obind_s, if_neg (by simp)]
    try simp only
    rw [withK_eq]
theorem beatDn_eq (N : Nat) (hN : 2000 ≤ N) {B : Int} (t : TT) (h : Tb B t) (hB : B ≤ 1000000) (m : Ms) (hm : Mb m) : W_tie_beatDn N (t, m) = some (beatDnM t m) := by
  have hn : 0 ≤ t.2.2.1 ∧ t.2.2.1 ≤ B := by
    obtain ⟨id, inc, now, par, pinc, grd, path, ep, born, ask, unt, stp, kids⟩ := t
    exact h.2.1
  have hadd := Add_eq N m.2.2.2.2.2.2.1 t.1 (by omega) hm.pl
  have hage := hm.age
  unfold W_tie_beatDn V_tie_beatDn beatDnM
  try simp only
  rw [tell_eq, obind_s, of_eq, obind_s]
  by_cases u : isUp t m
  · rw [if_pos u, selim_l, if_pos u, hadd, obind_s]
    by_cases c2 : VP (m.2.2.2.2.2.2.1 ++ [t.1])
    · rw [if_pos c2, if_pos c2]
      try simp only
      rw [Bool.not_true, cnd_f, under_eq N t m _ hm.pl, obind_s]
      try simp only
      rw [wr_m (by omega) (by omega)]
      by_cases c3 : t.2.2.2.2.2.2.2.2.1 < t.2.2.1 - m.2.2.2.2.2.1
      · rw [dT c3, cnd_t, if_pos c3, if_pos c3]
      · rw [dF c3, cnd_f, if_neg c3, if_neg c3]
    · rw [if_neg c2, if_neg c2]
      try simp only
      rw [Bool.not_false, cnd_t, letGo_eq, obind_s]
  · rw [if_neg u, if_neg u]
    by_cases a : isAsk t m
    · rw [if_pos a, selim_r, selim_l]
    · rw [if_neg a, selim_r, selim_r]
theorem disp_eq (N : Nat) (hN : 2000 ≤ N) {B : Int} (t : TT) (h : Tb B t) (hB : B ≤ 1000000) (m : Ms) (hm : Mb m) (lo : Int) : cnd (decide (m.1 = (1 : Int))) (obind (W_tie_attach N (t, m, lo)) fun (b : List Ms × TT) => some b) (cnd (decide (m.1 = (2 : Int))) (obind (W_tie_accept N (t, m)) fun (b : List Ms × TT) => some b) (cnd (decide (m.1 = (3 : Int))) (obind (W_tie_refuse N (t, m)) fun (b : TT) => some ([], b)) (cnd (decide (m.1 = (4 : Int))) (obind (W_tie_beatUp N (t, m)) fun (b : List Ms × TT) => some b) (cnd (decide (m.1 = (5 : Int))) (obind (W_tie_beatDn N (t, m)) fun (b : List Ms × TT) => some b) (cnd (decide (m.1 = (6 : Int))) (obind (W_kids_Drop N (t.2.2.2.2.2.2.2.2.2.2.2.2, m.2.1)) fun (b_4 : List Kd) => some ([], t.1, t.2.1, t.2.2.1, t.2.2.2.1, t.2.2.2.2.1, t.2.2.2.2.2.1, t.2.2.2.2.2.2.1, t.2.2.2.2.2.2.2.1, t.2.2.2.2.2.2.2.2.1, t.2.2.2.2.2.2.2.2.2.1, t.2.2.2.2.2.2.2.2.2.2.1, t.2.2.2.2.2.2.2.2.2.2.2.1, b_4)) (some ([], t))))))) = some (dispM t m lo) := by
  unfold dispM
  by_cases c1 : m.1 = 1
  · rw [dT c1, cnd_t, attach_eq N hN t h hB m hm lo, obind_s, if_pos c1]
  rw [dF c1, cnd_f, if_neg c1]
  by_cases c2 : m.1 = 2
  · rw [dT c2, cnd_t, accept_eq N hN t h hB m hm, obind_s, if_pos c2]
  rw [dF c2, cnd_f, if_neg c2]
  by_cases c3 : m.1 = 3
  · rw [dT c3, cnd_t, refuse_eq N t h hB m, obind_s, if_pos c3]
  rw [dF c3, cnd_f, if_neg c3]
  by_cases c4 : m.1 = 4
  · rw [dT c4, cnd_t, beatUp_eq N hN t h m, obind_s, if_pos c4]
  rw [dF c4, cnd_f, if_neg c4]
  by_cases c5 : m.1 = 5
  · rw [dT c5, cnd_t, beatDn_eq N hN t h hB m hm, obind_s, if_pos c5]
  rw [dF c5, cnd_f, if_neg c5]
  by_cases c6 : m.1 = 6
  · have := h.kl
    rw [dT c6, cnd_t, drop_eq N hN _ _ (by omega), obind_s, if_pos c6, withK_eq]
  rw [dF c6, cnd_f, if_neg c6]
theorem comes_eq (N : Nat) (hN : 2000 ≤ N) {B : Int} (t : TT) (h : Tb B t) (hB : B ≤ 1000000) (m : Ms) (hm : Mb m) (lo : Int) : W_tie_Comes N (t, m, lo) = some (comesT t m lo) := by
  have htw := twinT_eq N t h
  have ho := h.old N hN m.2.1 m.2.2.2.1
  have hd := disp_eq N hN t h hB m hm lo
  have hd2 := disp_eq N hN _ (h.off (s := 0) ⟨by omega, h.b0⟩) hB m hm lo
  unfold W_tie_Comes V_tie_Comes comesT
  try simp only
  rw [htw, obind_s, of_eq, obind_s]
  by_cases u : isUp t m
  · rw [if_pos u, selim_l, ho, obind_s]
    cases oldK t.2.2.2.2.2.2.2.2.2.2.2.2 m.2.1 m.2.2.2.1 with
    | true => rw [cnd_t, if_pos rfl]
    | false =>
      rw [cnd_f, if_neg (by simp), if_pos u]
      by_cases c1 : m.2.2.2.1 < t.2.2.2.2.1
      · rw [dT c1, cnd_t, if_pos c1]
      rw [dF c1, cnd_f, if_neg c1]
      by_cases c2 : t.2.2.2.2.1 < m.2.2.2.1
      · rw [dT c2, cnd_t, letGo_eq, obind_s, obind_s, if_pos c2]
        exact hd2
      · rw [dF c2, cnd_f, obind_s, if_neg c2]
        exact hd
  rw [if_neg u]
  by_cases a : isAsk t m
  · rw [if_pos a, selim_r, selim_l, ho, obind_s]
    cases oldK t.2.2.2.2.2.2.2.2.2.2.2.2 m.2.1 m.2.2.2.1 with
    | true => rw [cnd_t, if_pos rfl]
    | false =>
      rw [cnd_f, if_neg (by simp), if_neg u]
      exact hd
  · rw [if_neg a, selim_r, selim_r, ho, obind_s]
    cases oldK t.2.2.2.2.2.2.2.2.2.2.2.2 m.2.1 m.2.2.2.1 with
    | true => rw [cnd_t, if_pos rfl]
    | false =>
      rw [cnd_f, if_neg (by simp), if_neg u]
      exact hd
theorem VP_rng {p : List Int} (h : VP p) : ∀ x ∈ p, 1 ≤ x ∧ x ≤ 8 := by
  intro x hx
  obtain ⟨j, hj, rfl⟩ := mem_getD hx
  exact ⟨(h.2.2.2 j hj).1, (h.2.2.2 j hj).2.1⟩
theorem grdM_rng {p : List Int} (h : ∀ x ∈ p, 1 ≤ x ∧ x ≤ 8) : 0 ≤ grdM p ∧ grdM p ≤ 8 := by
  have hg : 0 ≤ grandM p ∧ grandM p ≤ 8 := by
    unfold grandM
    split
    · omega
    · have := h _ (getD_mem (l := p) (j := p.length - 2) (by omega)); omega
  unfold grdM
  split <;> omega
theorem Tb.disp {B : Int} {t : TT} (h : Tb B t) (m : Ms) (hm : Mb m) (lo : Int) (h1B : 1 ≤ B) : Tb (B + 1) (dispM t m lo).2 := by
  have hmo := h.mono (B' := B + 1) (by omega)
  have hk : Tb (B + 1) (withK t (hearM t.2.2.2.2.2.2.2.2.2.2.2.2 (m.2.1, m.2.2.2.1, t.2.2.1))) := hmo.wk (h.kw.hear (k := (m.2.1, m.2.2.2.1, t.2.2.1)) hm.fr.1 hm.fr.2)
  unfold dispM
  split
  · unfold attachM
    split
    · exact hmo
    · exact hk
  split
  · unfold acceptM
    split
    · exact hmo
    split
    · split
      · rename_i q
        have hr := VP_rng q.1
        have hg := grdM_rng (p := m.2.2.2.2.2.2.1) (fun x hx => hr x (List.mem_append_left _ hx))
        have hl := q.1.2.1
        have ha := hm.age; have he := hm.ep
        obtain ⟨id, inc, now, par, pinc, grd, path, ep, born, ask, unt, stp, kids⟩ := t
        obtain ⟨h1, h2, h3, h4, h5, h6, h7, h8, h9, h10⟩ := h
        exact ⟨h1, by (try simp only); omega, by (try simp only); omega, by (try simp only); omega, by (try simp only); omega, by (try simp only); omega, hl, h8, by (try simp only); omega, hg⟩
      · exact h.vain
    · exact hmo
  split
  · unfold refuseM
    try simp only
    split
    · exact hmo.off ⟨by omega, by omega⟩
    · split
      · exact h.vain
      · exact hmo
  split
  · unfold beatUpM
    split
    · exact hmo
    · exact hk
  split
  · unfold beatDnM
    split
    · split
      · rename_i q
        have hr := VP_rng q
        have hg := grdM_rng (p := m.2.2.2.2.2.2.1) (fun x hx => hr x (List.mem_append_left _ hx))
        have hl := q.2.1
        have ha := hm.age; have he := hm.ep
        obtain ⟨id, inc, now, par, pinc, grd, path, ep, born, ask, unt, stp, kids⟩ := t
        obtain ⟨h1, h2, h3, h4, h5, h6, h7, h8, h9, h10⟩ := h
        refine ⟨h1, by (try simp only); omega, ?_, by (try simp only); omega, by (try simp only); omega, ?_, hl, h8, h9, hg⟩
        · simp only; split <;> omega
        · simp only; split <;> omega
      · exact hmo.off ⟨by omega, by omega⟩
    · exact hmo
  split
  · exact hmo.wk (h.kw.filter _)
  · exact hmo
theorem Tb.comes {B : Int} {t : TT} (h : Tb B t) (m : Ms) (hm : Mb m) (lo : Int) (h1B : 1 ≤ B) : Tb (B + 1) (comesT t m lo).2 := by
  have hmo := h.mono (B' := B + 1) (by omega)
  unfold comesT
  split
  · exact hmo
  split
  · split
    · exact hmo
    · split
      · exact (h.off (s := 0) ⟨by omega, by omega⟩).disp m hm lo h1B
      · exact h.disp m hm lo h1B
  · exact h.disp m hm lo h1B
theorem Mb.of {m : Ms} (h : MayP m) (hs : Sh m) : Mb m := by
  have e := h.2.2.2.2.2.1
  refine ⟨h.2.1, ⟨hs.a.1, by have := hs.a.2; omega⟩, ⟨hs.e.1, by have := hs.e.2; omega⟩, ?_⟩
  have hf := h.2.2.2.2.2.2
  unfold Fits at hf
  by_cases c : m.1 = 2 ∨ m.1 = 5
  · rw [if_pos c] at hf
    have := hf.2.2.1.2.1; omega
  · have hp : m.2.2.2.2.2.2.1 = [] := by
      rw [e]
      obtain ⟨k, f, t, i, e, a, p, lo, hi, s⟩ := m
      unfold ownF
      simp only at c ⊢
      split
      · rename_i q; exact absurd (.inl q) c
      · split
        · rename_i q; exact absurd (.inr q) c
        · split
          · rfl
          · split <;> rfl
    rw [hp]; simp
theorem New_eq (N : Nat) (id inc now g : Int) : W_tie_New N (id, inc, now, g) = some (if id = 1 then (id, inc, now, 0, 0, g, [1], 0, now, 0, 0, 0, []) else (id, inc, now, 0, 0, g, [], 0, 0, 0, 0, 0, [])) := by
  unfold W_tie_New V_tie_New
  try simp only
  by_cases c : id = 1
  · rw [dT c, cnd_t, if_pos c]
  · rw [dF c, cnd_f, if_neg c]
abbrev mD : Ms := ((0 : Int), (0 : Int), (0 : Int), (0 : Int), (0 : Int), (0 : Int), ([] : List Int), (0 : Int), (0 : Int), ([] : List UInt8))
theorem getD_memM {l : List Ms} {i : Nat} (h : i < l.length) : l.getD i mD ∈ l := by
  rw [List.getD_eq_getElem?_getD, List.getElem?_eq_getElem h]; exact List.getElem_mem h
def qT (id g n ask unt stp : Int) : TT := (id, 1, n, 0, 0, g, [], 0, 0, ask, unt, stp, [])
theorem q_Tb {id g n ask unt stp : Int} (h1 : 2 ≤ id ∧ id ≤ 8) (h2 : 0 ≤ g ∧ g ≤ 8) (h3 : 0 ≤ n ∧ n ≤ 20) (h4 : 0 ≤ ask ∧ ask ≤ 8) (h5 : 0 ≤ unt ∧ unt ≤ 30) (h6 : 0 ≤ stp ∧ stp ≤ 60) : Tb 100 (qT id g n ask unt stp) :=
  ⟨by omega, by omega, by omega, by omega, by omega, by omega, by simp, trivial, by omega, h2⟩
theorem q_tick {id g n ask unt stp : Int} (h1 : 2 ≤ id) : tickM (qT id g n ask unt stp) = ((seekM (qT id g (n + 1) ask unt stp)).2, (seekM (qT id g (n + 1) ask unt stp)).1) := by
  have e1 : tick1 (qT id g n ask unt stp) = qT id g (n + 1) ask unt stp := by
    unfold qT
    rw [tick1_def, if_neg (fun q => by omega)]
    rfl
  have e2 : tick2 (qT id g (n + 1) ask unt stp) = qT id g (n + 1) ask unt stp := by
    unfold tick2
    rw [if_neg (fun q => q.1 rfl)]
  have e3 : tick3 (qT id g (n + 1) ask unt stp) = seekM (qT id g (n + 1) ask unt stp) := by
    unfold tick3
    rw [if_pos ⟨rfl, show id ≠ 1 by omega⟩]
  have e4 : ∀ a u s, beatM (qT id g (n + 1) a u s) = [] := by
    intro a u s
    unfold beatM
    rw [if_neg (fun q => q rfl)]
    have : freshM (qT id g (n + 1) a u s) = false := by
      unfold qT freshM
      try simp only
      rw [if_neg (by omega), if_neg (fun q => q rfl)]
    rw [this]; rfl
  have e5 : ∃ a u s, (seekM (qT id g (n + 1) ask unt stp)).1 = qT id g (n + 1) a u s := by
    unfold qT seekM
    try simp only
    split
    · split <;> exact ⟨_, _, _, rfl⟩
    · exact ⟨_, _, _, rfl⟩
  obtain ⟨a, u, s, e5⟩ := e5
  unfold tickM
  try simp only
  rw [e1, e2, e3]
  split
  · rw [e5, e4, List.append_nil]
  · rfl
theorem q_seek (id g n ask unt stp : Int) (hs : 0 ≤ stp) : (ask ≠ 0 ∧ ¬ unt ≤ n ∧ seekM (qT id g n ask unt stp) = (qT id g n ask unt stp, [])) ∨
    (∃ a s, (ask = 0 ∧ s = stp ∧ a = (if stp = 0 ∧ g ≠ 0 ∧ g ≠ id then g else 1) ∨ ask ≠ 0 ∧ s = stp + 1 ∧ a = 1) ∧ seekM (qT id g n ask unt stp) = (qT id g n a (n + 3) s, [(1, id, a, 1, 0, 0, [], 0, 0, [])])) := by
  by_cases c1 : ask ≠ 0
  · by_cases c2 : unt ≤ n
    · right
      refine ⟨1, stp + 1, .inr ⟨c1, rfl, rfl⟩, ?_⟩
      unfold qT seekM
      try simp only
      rw [if_pos c1, if_pos c2, if_neg (fun q => by omega)]
    · left
      refine ⟨c1, c2, ?_⟩
      unfold qT seekM
      try simp only
      rw [if_pos c1, if_neg c2]
  · right
    refine ⟨_, stp, .inl ⟨by omega, rfl, rfl⟩, ?_⟩
    unfold qT seekM
    try simp only
    rw [if_neg c1]
theorem law_aux (N : Nat) (hN : 2000 ≤ N) (w g0 : Int) (l : List Int) (hel : ∀ x ∈ l, 0 ≤ x ∧ x ≤ 255) (hw : 0 ≤ w) (hw2 : w ≤ 255) (hg : 0 ≤ g0) (hg2 : g0 ≤ 255) : W_law19_TieAsks N (w, g0, l) = some true := by
  unfold W_law19_TieAsks V_law19_TieAsks
  try simp only
  by_cases h12 : (12 : Int) < l.length
  · rw [dT h12, cnd_t]
  rw [dF h12, cnd_f]
  rw [tm _ _ hw, tm _ _ hg, wr_m (z := w % 7) (by omega) (by omega), wr_m (z := 2 + w % 7) (by omega) (by omega), wr_m (z := g0 % 9) (by omega) (by omega)]
  obtain ⟨id, hid⟩ : ∃ id, 2 + w % 7 = id := ⟨_, rfl⟩
  obtain ⟨g, hgg⟩ : ∃ g, g0 % 9 = g := ⟨_, rfl⟩
  rw [hid, hgg]
  have i1 : 2 ≤ id ∧ id ≤ 8 := by omega
  have i2 : 0 ≤ g ∧ g ≤ 8 := by omega
  clear hid hgg
  rw [New_eq, obind_s, if_neg (by omega)]
  obtain ⟨first, hf⟩ : ∃ f, (if g ≠ 0 ∧ g ≠ id then g else 1) = f := ⟨_, rfl⟩
  have hfirst : ∀ {β : Type} (G : Int × TT → Option β), obind (cnd (decide (g ≠ (0 : Int))) (cnd (decide (g ≠ id)) (some (g, qT id g 0 0 0 0)) (some ((1 : Int), qT id g 0 0 0 0))) (some ((1 : Int), qT id g 0 0 0 0))) G = G (first, qT id g 0 0 0 0) := by
    intro β G
    rw [← hf]
    by_cases c1 : g ≠ 0
    · rw [dT c1, cnd_t]
      by_cases c2 : g ≠ id
      · rw [dT c2, cnd_t, obind_s, if_pos ⟨c1, c2⟩]
      · rw [dF c2, cnd_f, obind_s, if_neg (fun q => c2 q.2)]
    · rw [dF c1, cnd_f, obind_s, if_neg (fun q => c1 q.1)]
  refine (hfirst _).trans ?_
  clear hfirst
  try simp only
  have f1 : 1 ≤ first ∧ first ≤ 8 := by rw [← hf]; split <;> omega
  refine loop_G (N := N) (x := (0, 0, qT id g 0 0 0 0)) (fun o => o = some true) (fun k (v : Int × Int × TT) => v.2.1 = k ∧ k ≤ l.length ∧ ∃ ask unt stp, v.2.2 = qT id g k ask unt stp ∧ 0 ≤ v.1 ∧ v.1 ≤ k ∧ (0 < k → 1 ≤ v.1) ∧ (v.1 = 0 → ask = 0 ∧ stp = 0) ∧ (1 ≤ v.1 → ask ≠ 0 ∨ 1 ≤ stp) ∧ (0 ≤ ask ∧ ask ≤ 8) ∧ (0 ≤ unt ∧ unt ≤ k + 3) ∧ (0 ≤ stp ∧ stp ≤ 2 * k)) l.length
    (fun r : Int ⊕ Bool => ∃ a, r = .inl a ∧ ((l.length : Int) = 0 ∨ 1 ≤ a)) ⟨rfl, by omega, 0, 0, 0, rfl, by simp, by simp, fun q => by omega, fun _ => ⟨rfl, rfl⟩, fun q => by simp only at q; omega, by omega, by omega, by omega⟩ (by omega) ?_ (fun k v h => h.2.1) ?_
  · rintro r ⟨a, rfl, h⟩
    rw [selim_l]
    by_cases c : (l.length : Int) = 0
    · rw [dT c, cnd_t]
    · rw [dF c, cnd_f, dT (by omega)]
  rintro k ⟨asked, i, t⟩ ⟨e1, hk, ask, unt, stp, e2, p1, p2, p3, p4, p5, p6, p7, p8⟩
  simp only at e1 e2 p1 p2 p3 p4 p5 ⊢
  subst e1 e2
  by_cases c : (k : Int) < l.length
  case neg => right; rw [dF c, cnd_f]; exact ⟨_, rfl, asked, rfl, by omega⟩
  left
  have hT := q_Tb i1 i2 (n := k) (by omega) p6 (unt := unt) (by omega) (stp := stp) (by omega)
  rw [dT c, cnd_t, tick_eq N hN _ hT (by omega), obind_s, q_tick i1.1]
  -- whom it asks, and what is then
  obtain ⟨a, u, s, M, hM, hM1, hM2, hM3, b1, b2, b3, b4⟩ : ∃ a u s M, seekM (qT id g ((k : Int) + 1) ask unt stp) = (qT id g ((k : Int) + 1) a u s, M) ∧ M.length ≤ 1 ∧ (M.length = 0 → a ≠ 0 ∧ a = ask ∧ u = unt ∧ s = stp) ∧ (∀ x ∈ M, x.1 = 1 ∧ x.2.2.1 = a ∧ a = (if asked = 0 then first else 1) ∧ u = (k : Int) + 1 + 3) ∧ (0 ≤ a ∧ a ≤ 8) ∧ (0 ≤ u ∧ u ≤ k + 4) ∧ (0 ≤ s ∧ s ≤ 2 * k + 1) ∧ a ≠ 0 := by
    rcases q_seek id g ((k : Int) + 1) ask unt stp p8.1 with ⟨q1, q2, q3⟩ | ⟨a, s, q1, q2⟩
    · exact ⟨ask, unt, stp, [], q3, by simp, fun _ => ⟨q1, rfl, rfl, rfl⟩, fun x hx => by simp at hx, p6, by omega, by omega, q1⟩
    · have ha : a = (if asked = 0 then first else 1) := by
        rcases q1 with ⟨x1, x2, x3⟩ | ⟨x1, x2, x3⟩
        · by_cases z : asked = 0
          · obtain ⟨z1, z2⟩ := p4 z
            rw [if_pos z, x3, ← hf]
            by_cases y : g ≠ 0 ∧ g ≠ id
            · rw [if_pos ⟨z2, y⟩, if_pos y]
            · rw [if_neg (fun q => y q.2), if_neg y]
          · rw [if_neg z, x3, if_neg (fun q => by have := p5 (by omega); omega)]
        · rw [x3, if_neg (fun z => x1 (p4 z).1)]
      have ha2 : 1 ≤ a ∧ a ≤ 8 := by rw [ha]; split <;> omega
      exact ⟨a, (k : Int) + 1 + 3, s, _, q2, by simp, fun q => by simp at q, fun x hx => by rw [List.mem_singleton.1 hx]; exact ⟨rfl, rfl, ha, rfl⟩, by omega, by omega, by rcases q1 with ⟨_, x2, _⟩ | ⟨_, x2, _⟩ <;> omega, by omega⟩
  rw [hM]
  try simp only
  have x1 : (qT id g ((k : Int) + 1) a u s).2.2.2.2.2.2.2.2.2.1 = a := rfl
  have x2 : (qT id g ((k : Int) + 1) a u s).2.2.2.2.2.2.2.2.2.2.1 = u := rfl
  have x3 : (qT id g ((k : Int) + 1) a u s).2.2.1 = (k : Int) + 1 := rfl
  have x4 : (qT id g ((k : Int) + 1) a u s).2.2.2.1 = 0 := rfl
  refine loop_G (N := N) (x := (asked, 0, 0, qT id g k ask unt stp, qT id g ((k : Int) + 1) a u s)) (fun o => ∃ y, o = some (.inl y : (Int × Int × TT) ⊕ (Int ⊕ Bool)) ∧ y.2.1 = ((k + 1 : Nat) : Int) ∧ k + 1 ≤ l.length ∧ ∃ ask unt stp, y.2.2 = qT id g ((k + 1 : Nat) : Int) ask unt stp ∧ 0 ≤ y.1 ∧ y.1 ≤ ((k + 1 : Nat) : Int) ∧ (0 < k + 1 → 1 ≤ y.1) ∧ (y.1 = 0 → ask = 0 ∧ stp = 0) ∧ (1 ≤ y.1 → ask ≠ 0 ∨ 1 ≤ stp) ∧ (0 ≤ ask ∧ ask ≤ 8) ∧ (0 ≤ unt ∧ unt ≤ ((k + 1 : Nat) : Int) + 3) ∧ (0 ≤ stp ∧ stp ≤ 2 * ((k + 1 : Nat) : Int)))
    (fun j (v : Int × Int × Int × TT × TT) => v = (asked + j, (j : Int), (j : Int), qT id g k ask unt stp, qT id g ((k : Int) + 1) a u s) ∧ j ≤ M.length) M.length (fun r : Int × Int × TT × TT ⊕ Bool => r = .inl (asked + M.length, (M.length : Int), qT id g k ask unt stp, qT id g ((k : Int) + 1) a u s)) ⟨by simp, by omega⟩ (by omega) ?_ (fun j v h => h.2) ?_
  · rintro r rfl
    rw [selim_l]
    try simp only
    have hx : l.getD k 0 ∈ l := getD_mem (by omega)
    have hxb := hel _ hx
    have ek : ((k : Int) + 1) = ((k + 1 : Nat) : Int) := by omega
    rw [dF (show ¬ (1 : Int) < (M.length : Int) by omega), cnd_f]
    have cont : ∀ (p : Bool), p = false → ∃ y, (obind (some (p, qT id g (k : Int) ask unt stp, qT id g ((k : Int) + 1) a u s)) fun (b_2 : Bool × TT × TT) => cnd b_2.1 (some (Sum.inr (Sum.inr false))) (cnd (decide (b_2.2.2.2.2.2.1 ≠ (0 : Int))) (some (Sum.inr (Sum.inr false))) (cnd (decide ((0 : Int) ≤ (k : Int)) && true) (cnd (decide (Int.tmod (List.getD l (Int.toNat (k : Int)) (0 : Int)) (3 : Int) = (0 : Int))) (cnd (decide (b_2.2.2.2.2.2.2.2.2.2.2.2.1 ≠ id)) (obind (W_tie_Comes N (b_2.2.2, ((3 : Int), b_2.2.2.2.2.2.2.2.2.2.2.2.1, id, (1 : Int), (0 : Int), (0 : Int), [], (0 : Int), (0 : Int), []), (1 : Int))) fun (b_3 : List Ms × TT) => cnd (decide (b_3.2.2.2.2.2.2.2.2.2.2.1 ≠ (0 : Int))) (some (Sum.inr (Sum.inr false))) (some (Sum.inl (asked + (M.length : Int), wr .i64 ((k : Int) + (1 : Int)), b_3.2)))) (some (Sum.inl (asked + (M.length : Int), wr .i64 ((k : Int) + (1 : Int)), b_2.2.2)))) (some (Sum.inl (asked + (M.length : Int), wr .i64 ((k : Int) + (1 : Int)), b_2.2.2)))) none))) = some (.inl y : (Int × Int × TT) ⊕ (Int ⊕ Bool)) ∧ y.2.1 = ((k + 1 : Nat) : Int) ∧ k + 1 ≤ l.length ∧ ∃ ask unt stp, y.2.2 = qT id g ((k + 1 : Nat) : Int) ask unt stp ∧ 0 ≤ y.1 ∧ y.1 ≤ ((k + 1 : Nat) : Int) ∧ (0 < k + 1 → 1 ≤ y.1) ∧ (y.1 = 0 → ask = 0 ∧ stp = 0) ∧ (1 ≤ y.1 → ask ≠ 0 ∨ 1 ≤ stp) ∧ (0 ≤ ask ∧ ask ≤ 8) ∧ (0 ≤ unt ∧ unt ≤ ((k + 1 : Nat) : Int) + 3) ∧ (0 ≤ stp ∧ stp ≤ 2 * ((k + 1 : Nat) : Int)) := by
      rintro p rfl
      have h1a : 1 ≤ asked + (M.length : Int) := by
        by_cases z : asked = 0
        · have : M.length ≠ 0 := fun q => by have := hM2 q; have := p4 z; omega
          omega
        · omega
      rw [obind_s]
      try simp only
      rw [cnd_f, x4, dF (by simp), cnd_f, dT (by omega), Bool.and_self, cnd_t, Int.toNat_natCast, tm _ _ hxb.1, wr_m (z := (k : Int) + 1) (by omega) (by omega)]
      have stay : ∃ y : Int × Int × TT, (some (Sum.inl (asked + (M.length : Int), (k : Int) + 1, qT id g ((k : Int) + 1) a u s)) : Option ((Int × Int × TT) ⊕ (Int ⊕ Bool))) = some (.inl y) ∧ y.2.1 = ((k + 1 : Nat) : Int) ∧ k + 1 ≤ l.length ∧ ∃ ask unt stp, y.2.2 = qT id g ((k + 1 : Nat) : Int) ask unt stp ∧ 0 ≤ y.1 ∧ y.1 ≤ ((k + 1 : Nat) : Int) ∧ (0 < k + 1 → 1 ≤ y.1) ∧ (y.1 = 0 → ask = 0 ∧ stp = 0) ∧ (1 ≤ y.1 → ask ≠ 0 ∨ 1 ≤ stp) ∧ (0 ≤ ask ∧ ask ≤ 8) ∧ (0 ≤ unt ∧ unt ≤ ((k + 1 : Nat) : Int) + 3) ∧ (0 ≤ stp ∧ stp ≤ 2 * ((k + 1 : Nat) : Int)) :=
        ⟨_, rfl, by simp only; omega, by omega, a, u, s, by rw [ek], by simp only; omega, by simp only; omega, fun _ => h1a, fun q => by simp only at q; omega, fun _ => .inl b4, b1, by omega, by omega⟩
      by_cases c3 : l.getD k 0 % 3 = 0
      · rw [dT c3, cnd_t, x1]
        by_cases c4 : a ≠ id
        · have hT2 := q_Tb i1 i2 (n := (k : Int) + 1) (by omega) b1 (unt := u) (by omega) (stp := s) (by omega)
          have hup : ¬ isUp (qT id g ((k : Int) + 1) a u s) ((3 : Int), a, id, (1 : Int), (0 : Int), (0 : Int), [], (0 : Int), (0 : Int), []) := fun q => q.1 rfl
          have hask : isAsk (qT id g ((k : Int) + 1) a u s) ((3 : Int), a, id, (1 : Int), (0 : Int), (0 : Int), [], (0 : Int), (0 : Int), []) := ⟨b4, rfl⟩
          have hc : comesT (qT id g ((k : Int) + 1) a u s) ((3 : Int), a, id, (1 : Int), (0 : Int), (0 : Int), [], (0 : Int), (0 : Int), []) 1 = ([], qT id g ((k : Int) + 1) 0 u (s + 1)) := by
            unfold comesT
            have : oldK (qT id g ((k : Int) + 1) a u s).2.2.2.2.2.2.2.2.2.2.2.2 a 1 = false := rfl
            rw [this, if_neg (by simp), if_neg hup]
            unfold dispM
            rw [if_neg (by simp), if_neg (by simp), if_pos rfl]
            unfold refuseM
            rw [if_neg hup, if_pos hask]
            rfl
          have x5 : (qT id g ((k : Int) + 1) 0 u (s + 1)).2.2.2.2.2.2.2.2.2.1 = 0 := rfl
          rw [dT c4, cnd_t, comes_eq N hN _ hT2 (by omega) _ ⟨by simp only; omega, by simp, by simp, by simp⟩ 1, obind_s, hc]
          try simp only
          rw [x5, dF (by simp), cnd_f]
          exact ⟨_, rfl, by simp only; omega, by omega, 0, u, s + 1, by rw [ek], by simp only; omega, by simp only; omega, fun _ => h1a, fun q => by simp only at q; omega, fun _ => .inr (by omega), by omega, by omega, by omega⟩
        · rw [dF c4, cnd_f]
          exact stay
      · rw [dF c3, cnd_f]
        exact stay
    by_cases c0 : (M.length : Int) = 0
    · rw [dT c0, cnd_t, x1]
      exact cont _ (dF b4)
    · rw [dF c0, cnd_f]
      exact cont _ rfl
  · rintro j v ⟨rfl, hj⟩
    try simp only
    by_cases cj : (j : Int) < M.length
    case neg => right; rw [dF cj, cnd_f]; exact ⟨_, rfl, by rw [show j = M.length by omega]⟩
    left
    obtain ⟨y1, y2, y3, y4⟩ := hM3 _ (getD_memM (l := M) (i := j) (by omega))
    have j0 : j = 0 := by omega
    subst j0
    rw [dT cj, cnd_t, dT (by omega), Bool.and_self, cnd_t, Int.toNat_natCast, y1, dT rfl, cnd_t, y2]
    have want : ∀ {β : Type} (G : Int × TT × TT → Option β), obind (cnd (decide (asked + ((0 : Nat) : Int) = (0 : Int))) (some (first, qT id g (k : Int) ask unt stp, qT id g ((k : Int) + 1) a u s)) (some ((1 : Int), qT id g (k : Int) ask unt stp, qT id g ((k : Int) + 1) a u s))) G = G (a, qT id g (k : Int) ask unt stp, qT id g ((k : Int) + 1) a u s) := by
      intro β G
      by_cases z : asked = 0
      · rw [dT (by omega), cnd_t, obind_s, y3, if_pos z]
      · rw [dF (by omega), cnd_f, obind_s, y3, if_neg z]
    obtain ⟨z, hz⟩ : ∃ z : (Int × Int × Int × TT × TT), z = (asked + ((0 + 1 : Nat) : Int), ((0 + 1 : Nat) : Int), ((0 + 1 : Nat) : Int), qT id g (k : Int) ask unt stp, qT id g ((k : Int) + 1) a u s) := ⟨_, rfl⟩
    refine ⟨z, ?_, hz, by omega⟩
    refine (want _).trans ?_
    try simp only
    rw [dF (by simp), cnd_f, x1, dF (by simp), cnd_t, obind_s]
    try simp only
    rw [cnd_f, x2, x3, y4, wr_m (z := (k : Int) + 1 + 3) (by omega) (by omega), dF (by simp), cnd_f, wr_m (by omega) (by omega), wr_m (by omega) (by omega), hz, ← y4, show asked + ((0 : Nat) : Int) + 1 = asked + ((0 + 1 : Nat) : Int) by omega]
    rfl
def NN : Nat := 20000
theorem law_true (y0 : Int) (y1 : Int) (y2 : List Int) (h0 : Twf (.int .u8) y0) (h1 : Twf (.int .u8) y1) (h2 : Twf (.list (.int .u8)) y2) : W_law19_TieAsks NN (y0, y1, y2) = some true := by
  refine law_aux NN (by decide) y0 y1 y2 (fun x hx => ?_) h0.1 (by have : y0 ≤ 255 := h0.2; omega) h1.1 (by have : y1 ≤ 255 := h1.2; omega)
  have := h2.2 x hx
  exact ⟨this.1, this.2⟩

theorem spec (y0 : Int) (y1 : Int) (y2 : List Int) (h0 : Twf (.int .u8) y0) (h1 : Twf (.int .u8) y1) (h2 : Twf (.list (.int .u8)) y2) : Spec2 P0 3 [valW (.int .u8) y0, valW (.int .u8) y1, valW (.list (.int .u8)) y2] [] (.bs true) [] [] := (con_law19_TieAsks_ok NN).2 (y0, y1, y2) true (law_true y0 y1 y2 h0 h1 h2)
theorem lifted (os : Os) (started : os.Started) (H : Type) (enc : TypeId × Value → H) :
    ReturnsInHanded {} Try.checked os 3 .any (Rows.tieAsksSpec.pre6 enc Try.prog Try.f3 Rows.tieAsksRow.domain false) (Rows.tieAsksSpec.post enc Try.prog Try.f3 false true false false) := by
  refine returnsInHanded_of_change (C := Try.checked) own started (by kernel_rfl) Try.func3
    (ChangeSpec.witness6 (enc := enc) (C := Try.checked) false ⟨#[], #[.int .u8 0, .int .u8 0, .slice none 0 0], []⟩ 8 (by kernel_rfl) (by kernel_rfl) (by kernel_rfl) (by kernel_rfl)) ?_
  intro W base args ds gs before hval0 hW hcnd _
  have hval : ∀ (j : Nat) t v, Try.f3.params[j]? = some t → args[j]? = some v → Value.okWide Try.prog W .any base t v := hval0
  have hW' := hW
  obtain ⟨p, q, hA0, hV, rfl, hfz, hnd⟩ := hW
  have hA : DataW.TrodAll enc Try.prog W 0 (fun _ => true) true Try.f3.params.toList args.toList ds p := hA0
  rw [Try.params3] at hA hval
  obtain ⟨v0, vs0, d0, ds0, p0, q0, hargs, rfl, rfl, h0, r0⟩ := trodAll_cons hA
  obtain ⟨v1, vs1, d1, ds1, p1, q1, rfl, rfl, rfl, h1, r1⟩ := trodAll_cons r0
  obtain ⟨v2, vs2, d2, ds2, p2, q2, rfl, rfl, rfl, h2, r2⟩ := trodAll_cons r1
  obtain ⟨rfl, rfl, rfl⟩ := trodAll_nil r2
  obtain rfl : args = #[v0, v1, v2] := by cases args; simp_all
  obtain ⟨rfl, rfl⟩ := trodVars_none hV
  have k0 := h0
  have lt0 : ∀ x ∈ p0, x.block < W.heap.size := by obtain ⟨m, hm⟩ := k0; exact DataW.trod_lt m _ _ _ hm
  obtain ⟨y0, rp0, wf0⟩ := arg_ok (n := 12) (ty := (.int .u8)) (by kernel_rfl) (hval 0 _ v0 rfl rfl) h0
  have k1 := h1
  have lt1 : ∀ x ∈ p1, x.block < W.heap.size := by obtain ⟨m, hm⟩ := k1; exact DataW.trod_lt m _ _ _ hm
  obtain ⟨y1, rp1, wf1⟩ := arg_ok (n := 12) (ty := (.int .u8)) (by kernel_rfl) (hval 1 _ v1 rfl rfl) h1
  have k2 := h2
  have lt2 : ∀ x ∈ p2, x.block < W.heap.size := by obtain ⟨m, hm⟩ := k2; exact DataW.trod_lt m _ _ _ hm
  obtain ⟨y2, rp2, wf2⟩ := arg_ok (n := 12) (ty := (.list (.int .u8))) (by kernel_rfl) (hval 2 _ v2 rfl rfl) h2
  clear hA0 hval0
  refine (law_of2 (spec y0 y1 y2 wf0 wf1 wf2) W #[v0, v1, v2] (.cons rp0 (.cons rp1 (.cons rp2 .nil)))).mono fun e W' ⟨he, bel⟩ => ?_
  subst he
  exact ⟨_, rfl, _, _, _, [], _, [], hW', trodAll_mk1 (shut_bool Try.underlying4 _), (trodAll_cons_mk (Below.trod laidOut (by kernel_rfl) (of_decide_eq_true (by kernel_rfl)) k0 bel lt0) (trodAll_cons_mk (Below.trod laidOut (by kernel_rfl) (of_decide_eq_true (by kernel_rfl)) k1 bel lt1) (trodAll_cons_mk (Below.trod laidOut (by kernel_rfl) (of_decide_eq_true (by kernel_rfl)) k2 bel lt2) trodAll_mk0))), rfl, bel.frame _, fun h => by cases h⟩

theorem over : Rows.tieAsksRow.holds Try.pinned (OpenSpec.ofChange Rows.tieAsksSpec) :=
  OpenClaim.holds_of_wide 3 Try.f3 rfl rfl rfl rfl rfl rfl rfl ⟨rfl, rfl, rfl, rfl, rfl⟩ rfl rfl rfl rfl rfl (by kernel_rfl) Try.func3 (by kernel_rfl)
    (of_decide_eq_true (by kernel_rfl)) (by unfold Func.isWrapper; first | (rw [if_pos (by decide +kernel)]; kernel_rfl) | (rw [if_neg (by decide +kernel)]; exact ⟨rfl, rfl⟩))
    (fun os started H enc _ => lifted os started H enc)

theorem holds : Rows.TieAsksSaid := over
end Go.Proofs.Ythpfomhimmppiaa.tieAsksX
