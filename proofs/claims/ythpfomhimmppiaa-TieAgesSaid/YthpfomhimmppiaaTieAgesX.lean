/- TieAges: for all arguments the call returns true. The law is brought to a function of Lean's own (W_..) by the machine of the texts beside it, and that is reckoned; no condition. -/
import Derived.Test.YthpfomhimmppiaaTieAgesW1
namespace Go.Proofs.Ythpfomhimmppiaa.tieAgesX
open Go.Abs Go.RowKit Go.ChangeShapes Go.WideShapes Go.ChangeAt
set_option maxRecDepth 100000
set_option linter.unusedVariables false
set_option linter.unusedSimpArgs false
/-! What is reckoned. -/
-- PURE
theorem wr_m {z : Int} (h : -140737488355328 ≤ z) (h2 : z ≤ 140737488355328) : wr .i64 z = z := wr_i64 (by omega) (by omega)
theorem wr_s {z : Int} (h : 0 ≤ z) (h2 : z ≤ 140737488355328) : wr .i64 z = z := wr_i64 (by omega) (by omega)
theorem cnd_T {α : Type} {p : Prop} {i : Decidable p} {x y : α} (h : p) : cnd (@decide p i) x y = x := by rw [decide_eq_true h]; rfl
theorem loopG {σ ρ : Type} {f : σ → Option (σ ⊕ ρ)} (I : Nat → σ → Prop) (B : Nat) (J : ρ → Prop) (hb : ∀ k x, I k x → k ≤ B) (hs : ∀ k x, I k x → (∃ y, f x = some (.inl y) ∧ I (k + 1) y) ∨ ∃ r, f x = some (.inr r) ∧ J r) :
    ∀ (M k : Nat) (x : σ), I k x → B < M + k → ∃ r, loopN M f x = some r ∧ J r
  | 0, k, x, h, hm => by have := hb k x h; omega
  | M + 1, k, x, h, hm => by
    rcases hs k x h with ⟨y, h1, h2⟩ | ⟨r, h1, h2⟩
    · obtain ⟨r, h4, h5⟩ := loopG I B J hb hs M (k + 1) y h2 (by omega)
      exact ⟨r, by simp only [loopN, h1]; exact h4, h5⟩
    · exact ⟨r, by simp only [loopN, h1], h2⟩
theorem loop_G {σ ρ β : Type} {f : σ → Option (σ ⊕ ρ)} {g : ρ → Option β} {x : σ} {N : Nat} (Q : Option β → Prop) (I : Nat → σ → Prop) (B : Nat) (J : ρ → Prop) (hx : I 0 x) (hm : B < N) (hk : ∀ r, J r → Q (g r)) (hb : ∀ k x, I k x → k ≤ B)
    (hs : ∀ k x, I k x → (∃ y, f x = some (.inl y) ∧ I (k + 1) y) ∨ ∃ r, f x = some (.inr r) ∧ J r) : Q (obind (loopN N f x) g) := by
  obtain ⟨r, h1, h2⟩ := loopG I B J hb hs N 0 x hx (by omega)
  rw [h1]; exact hk r h2
theorem tm (x k : Int) (h : 0 ≤ x) : Int.tmod x k = x % k := Int.tmod_eq_emod_of_nonneg h
abbrev Kd := Int × Int × Int
abbrev kD : Kd := ((0 : Int), (0 : Int), (0 : Int))
abbrev Ms := Int × Int × Int × Int × Int × Int × List Int × Int × Int × List UInt8
abbrev TT := Int × Int × Int × Int × Int × Int × List Int × Int × Int × Int × Int × Int × List Kd
theorem drop_consK {l : List Kd} {i : Nat} (h : i < l.length) : l.drop i = l.getD i kD :: l.drop (i + 1) := by
  rw [List.drop_eq_getElem_cons h, List.getD_eq_getElem?_getD, List.getElem?_eq_getElem h]; rfl
theorem getD_memK {l : List Kd} {i : Nat} (h : i < l.length) : l.getD i kD ∈ l := by
  rw [List.getD_eq_getElem?_getD, List.getElem?_eq_getElem h]; exact List.getElem_mem h
/-- Kids that rise from n on. -/
def Kw (n : Int) : List Kd → Prop
  | [] => True
  | w :: r => n ≤ w.1 ∧ w.1 ≤ 8 ∧ Kw (w.1 + 1) r
theorem Kw.mono : ∀ {l : List Kd} {n n' : Int}, Kw n l → n' ≤ n → Kw n' l
  | [], _, _, _, _ => trivial
  | w :: r, n, n', h, h1 => ⟨by have := h.1; omega, h.2.1, h.2.2⟩
theorem Kw.len : ∀ {l : List Kd} {n : Int}, Kw n l → n ≤ 9 → (l.length : Int) ≤ 9 - n
  | [], _, _, _ => by simp; omega
  | w :: r, n, h, h1 => by
    have := h.2.2.len (by have := h.2.1; omega)
    have := h.1
    simp only [List.length_cons]; omega
theorem Kw.mem : ∀ {l : List Kd} {n : Int}, Kw n l → ∀ w ∈ l, n ≤ w.1 ∧ w.1 ≤ 8
  | [], _, _, _, h => by simp at h
  | x :: r, n, h, w, hw => by
    rcases List.mem_cons.1 hw with rfl | hw
    · exact ⟨h.1, h.2.1⟩
    · have := h.2.2.mem w hw; have := h.1; omega
theorem Kw.filter (p : Kd → Bool) : ∀ {l : List Kd} {n : Int}, Kw n l → Kw n (l.filter p)
  | [], _, _ => trivial
  | w :: r, n, h => by
    rw [List.filter_cons]
    split
    · exact ⟨h.1, h.2.1, Kw.filter p h.2.2⟩
    · exact (Kw.filter p h.2.2).mono (by have := h.1; omega)
theorem Kw.drop : ∀ {l : List Kd} {n : Int}, Kw n l → ∀ k, Kw n (l.drop k)
  | l, _, h, 0 => by simpa using h
  | [], _, _, k + 1 => by simp; trivial
  | w :: r, n, h, k + 1 => (h.2.2.drop k).mono (by have := h.1; omega)
/-- Whom a row has under a number. -/
def findK : List Kd → Int → Bool × Kd
  | [], _ => (false, kD)
  | w :: r, s => if w.1 = s then (true, w) else findK r s
theorem findK_none : ∀ {l : List Kd} {n : Int}, Kw n l → ∀ s, s < n → findK l s = (false, kD)
  | [], _, _, _, _ => rfl
  | w :: r, n, h, s, hs => by
    have := h.1
    simp only [findK]
    rw [if_neg (by omega)]
    exact findK_none h.2.2 s (by omega)
def insNK (x : Int) : List Kd → Nat
  | [] => 0
  | w :: r => if x ≤ w.1 then 0 else insNK x r + 1
/-- A kid in its place. -/
def putK (k : Kd) : List Kd → List Kd
  | [] => [k]
  | w :: r => if w.1 = k.1 then k :: r else if k.1 < w.1 then k :: w :: r else w :: putK k r
theorem insNK_le (x : Int) : ∀ l, insNK x l ≤ l.length
  | [] => by simp [insNK]
  | w :: r => by
    simp only [insNK, List.length_cons]
    have := insNK_le x r
    split <;> omega
theorem Kw.put : ∀ {l : List Kd} {n : Int} {k : Kd}, Kw n l → n ≤ k.1 → k.1 ≤ 8 → Kw n (putK k l)
  | [], _, _, _, h1, h2 => ⟨h1, h2, trivial⟩
  | w :: r, n, k, h, h1, h2 => by
    simp only [putK]
    by_cases c : w.1 = k.1
    · rw [if_pos c]; exact ⟨h1, h2, by rw [← c]; exact h.2.2⟩
    · rw [if_neg c]
      by_cases c2 : k.1 < w.1
      · rw [if_pos c2]; exact ⟨h1, h2, by omega, h.2.1, h.2.2⟩
      · rw [if_neg c2]; exact ⟨h.1, h.2.1, h.2.2.put (by omega) h2⟩
theorem putK_mem (k : Kd) : ∀ (l : List Kd) (w : Kd), w ∈ putK k l → w = k ∨ w ∈ l
  | [], w, h => by simp [putK] at h; exact .inl h
  | y :: r, w, h => by
    simp only [putK] at h
    split at h
    · rcases List.mem_cons.1 h with h | h
      · exact .inl h
      · exact .inr (by simp [h])
    · split at h
      · rcases List.mem_cons.1 h with h | h
        · exact .inl h
        · exact .inr h
      · rcases List.mem_cons.1 h with h | h
        · exact .inr (by simp [h])
        · rcases putK_mem k r w h with h | h
          · exact .inl h
          · exact .inr (by simp [h])
theorem seek_eq (N : Nat) (hN : 2000 ≤ N) (l : List Kd) (s n : Int) (hw : Kw n l) (hl : l.length ≤ 1000) : W_kids_seek N (l, s) = some (if (findK l s).1 = true then .inl ((insNK s l : Int), (findK l s).2) else .inr (insNK s l : Int)) := by
  unfold W_kids_seek V_kids_seek
  try simp only
  refine loop_G (N := N) (fun o => o = some (if (findK l s).1 = true then (.inl ((insNK s l : Int), (findK l s).2) : (Int × Kd) ⊕ Int) else .inr (insNK s l : Int))) (fun k (v : Int) => v = k ∧ k ≤ l.length ∧ findK (l.drop k) s = findK l s ∧ insNK s (l.drop k) + k = insNK s l) l.length
    (fun r : PUnit ⊕ (Int × Kd) ⊕ Int => (r = .inl () ∧ (findK l s).1 = false ∧ insNK s l = l.length) ∨ (r = .inr (if (findK l s).1 = true then (.inl ((insNK s l : Int), (findK l s).2) : (Int × Kd) ⊕ Int) else .inr (insNK s l : Int)))) ⟨rfl, by omega, rfl, by simp⟩ (by omega) ?_ (fun k v h => h.2.1) ?_
  · rintro r (⟨rfl, h, h2⟩ | rfl)
    · rw [selim_l, h, if_neg (by simp), h2]
    · rw [selim_r]
  · rintro k v ⟨e, hk, hg, hi⟩
    subst e
    by_cases c : (k : Int) < l.length
    case neg =>
      right
      rw [dF c, cnd_f]
      rw [List.drop_eq_nil_of_le (by omega)] at hg hi
      exact ⟨_, rfl, .inl ⟨rfl, by rw [← hg]; rfl, by simp only [insNK] at hi; omega⟩⟩
    have hwd := hw.drop k
    rw [drop_consK (by omega)] at hg hi hwd
    simp only [findK, insNK] at hg hi
    rw [dT c, cnd_t, dT (by omega), Bool.and_self, cnd_t, Int.toNat_natCast]
    by_cases c2 : (l.getD k kD).1 = s
    · right
      rw [if_pos c2] at hg
      rw [if_pos (by omega)] at hi
      rw [dT c2, cnd_t]
      refine ⟨_, rfl, .inr ?_⟩
      rw [← hg, if_pos rfl, ← hi]
      simp
    rw [if_neg c2] at hg
    rw [dF c2, cnd_f]
    by_cases c3 : s < (l.getD k kD).1
    · right
      rw [if_pos (by omega)] at hi
      rw [dT c3, cnd_t]
      have := findK_none hwd.2.2 s (by omega)
      rw [this] at hg
      refine ⟨_, rfl, .inr ?_⟩
      rw [← hg, if_neg (by simp)]
      congr 2; omega
    · left
      rw [if_neg (by omega)] at hi
      rw [dF c3, cnd_f, wr_m (by omega) (by omega)]
      exact ⟨_, rfl, by omega, by omega, hg, by omega⟩
theorem find_eq (N : Nat) (hN : 2000 ≤ N) (l : List Kd) (s n : Int) (hw : Kw n l) (hl : l.length ≤ 1000) : W_kids_Find N (l, s) = some (findK l s) := by
  unfold W_kids_Find V_kids_Find
  rw [seek_eq N hN l s n hw hl, obind_s]
  have hnone : ∀ (l : List Kd), (findK l s).1 = false → findK l s = (false, kD) := by
    intro l
    induction l with
    | nil => intro _; rfl
    | cons w r ih =>
      intro h
      simp only [findK] at h ⊢
      split at h
      · cases h
      · rename_i q; rw [if_neg q]; exact ih h
  cases h : (findK l s).1 with
  | true => rw [if_pos rfl, selim_l, ← h]
  | false => rw [if_neg (by simp), selim_r, hnone l h]
def oldK (l : List Kd) (id inc : Int) : Bool := (findK l id).1 && decide (inc < (findK l id).2.2.1)
theorem old_eq (N : Nat) (hN : 2000 ≤ N) (l : List Kd) (s inc n : Int) (hw : Kw n l) (hl : l.length ≤ 1000) : W_kids_Old N (l, s, inc) = some (oldK l s inc) := by
  unfold W_kids_Old V_kids_Old oldK
  try simp only
  rw [find_eq N hN l s n hw hl, obind_s]
  cases h : (findK l s).1 with
  | true => rw [cnd_t, Bool.true_and]
  | false => rw [cnd_f, Bool.false_and]
theorem pCloneK (N : Nat) (l : List Kd) (hl : l.length ≤ 100000000) : W_slices_Clone_api_Kid N l = some l := by
  unfold W_slices_Clone_api_Kid V_slices_Clone_api_Kid
  rw [cnd_T (by omega)]
theorem pCloneN (N : Nat) (l : List Int) (hl : l.length ≤ 100000000) : W_slices_Clone_int N l = some l := by
  unfold W_slices_Clone_int V_slices_Clone_int
  rw [cnd_T (by omega)]
theorem putK_in : ∀ (l : List Kd) (n : Int) (k : Kd), Kw n l → (findK l k.1).1 = true → insNK k.1 l < l.length ∧ putL l [k] (insNK k.1 l) = putK k l
  | [], _, _, _, h => by simp [findK] at h
  | w :: r, n, k, hw, h => by
    simp only [findK] at h
    by_cases c : w.1 = k.1
    · simp only [insNK, putK]
      rw [if_pos (by omega), if_pos c]
      exact ⟨by simp, by simp [putL]⟩
    · rw [if_neg c] at h
      have c2 : ¬ k.1 ≤ w.1 := by
        intro q
        have := findK_none hw.2.2 k.1 (by omega)
        rw [this] at h; cases h
      obtain ⟨a, b⟩ := putK_in r _ k hw.2.2 h
      simp only [insNK, putK]
      rw [if_neg c2, if_neg c, if_neg (by omega), ← b]
      refine ⟨by simp only [List.length_cons]; omega, ?_⟩
      simp [putL, Nat.add_right_comm]
theorem putK_new : ∀ (l : List Kd) (n : Int) (k : Kd), Kw n l → (findK l k.1).1 = false → List.take (insNK k.1 l) l ++ ([k] ++ List.drop (insNK k.1 l) l) = putK k l
  | [], _, _, _, h => rfl
  | w :: r, n, k, hw, h => by
    simp only [findK] at h
    by_cases c : w.1 = k.1
    · rw [if_pos c] at h; cases h
    · rw [if_neg c] at h
      simp only [insNK, putK]
      rw [if_neg c]
      by_cases c2 : k.1 < w.1
      · rw [if_pos (by omega), if_pos c2]; rfl
      · rw [if_neg (by omega), if_neg c2]
        simp only [List.take_succ_cons, List.drop_succ_cons, List.cons_append]
        rw [← putK_new r _ k hw.2.2 h]; rfl
theorem hear_eq (N : Nat) (hN : 2000 ≤ N) (l : List Kd) (n : Int) (k : Kd) (hw : Kw n l) (hl : l.length ≤ 1000) : W_kids_Hear N (l, k) = some (if oldK l k.1 k.2.1 = true then (l, false) else (putK k l, true)) := by
  unfold W_kids_Hear V_kids_Hear
  try simp only
  rw [pCloneK N l (by omega), obind_s, old_eq N hN l k.1 k.2.1 n hw hl, obind_s]
  cases ho : oldK l k.1 k.2.1 with
  | true => rw [cnd_t, if_pos rfl]
  | false =>
    rw [cnd_f, if_neg (by simp), seek_eq N hN l k.1 n hw hl, obind_s]
    have hle := insNK_le k.1 l
    cases h : (findK l k.1).1 with
    | true =>
      obtain ⟨a, b⟩ := putK_in l n k hw h
      rw [if_pos rfl, selim_l]
      try simp only
      rw [dT (by omega), dT (by omega), Bool.and_self, cnd_t, obind_s, selim_l, Int.toNat_natCast]
      try simp only
      rw [← b]
    | false =>
      rw [if_neg (by simp), selim_r, obind_s, selim_r]
      unfold W_slices_Insert_api_Kid
      try simp only
      rw [dT (by omega), dT (by omega), dT (by rfl), dT (by omega)]
      simp only [Bool.and_self, cnd_t, obind_s, Int.toNat_natCast]
      rw [← putK_new l n k hw h]
theorem getD_mem {l : List Int} {j : Nat} (h : j < l.length) : l.getD j 0 ∈ l := by
  rw [List.getD_eq_getElem?_getD, List.getElem?_eq_getElem h]; exact List.getElem_mem h
theorem mem_getD {l : List Int} {x : Int} (h : x ∈ l) : ∃ j, j < l.length ∧ l.getD j 0 = x := by
  obtain ⟨j, hj, e⟩ := List.getElem_of_mem h
  exact ⟨j, hj, by rw [List.getD_eq_getElem?_getD, List.getElem?_eq_getElem hj]; exact e⟩
def VP (x : List Int) : Prop := 1 ≤ x.length ∧ x.length ≤ 10 ∧ x.getD 0 0 = 1 ∧ ∀ j, j < x.length → 1 ≤ x.getD j 0 ∧ x.getD j 0 ≤ 8 ∧ x.getD j 0 ∉ x.take j
open Classical in
/-- A loop that looks at each place till one is bad. -/
theorem all_loop {N len : Nat} {β : Type} {f : Int → Option (Int ⊕ (PUnit ⊕ β))} (bad : Nat → Prop) (r : β) (hN : len < N)
    (hf : ∀ v : Int, 0 ≤ v → v < len → f v = if bad v.toNat then some (.inr (.inr r)) else some (.inl (v + 1))) (he : ∀ v : Int, 0 ≤ v → ¬ v < len → f v = some (.inr (.inl ()))) :
    loopN N f (Int.ofNat 0) = some (if ∃ j, j < len ∧ bad j then .inr r else .inl ()) := by
  obtain ⟨q, h1, h2⟩ := loopN_run (N := N) (f := f) (x := Int.ofNat 0) (fun v => 0 ≤ v ∧ v ≤ len ∧ ∀ j : Nat, (j : Int) < v → ¬ bad j) (fun v => len - v.toNat)
    (fun q => q = if ∃ j, j < len ∧ bad j then .inr r else .inl ()) (fun v ⟨g1, g2, g3⟩ => by
      by_cases h : v < len
      · rw [hf v g1 h]
        by_cases hb : bad v.toNat
        · right
          rw [if_pos hb]
          exact ⟨_, rfl, by rw [if_pos ⟨v.toNat, by omega, hb⟩]⟩
        · left
          rw [if_neg hb]
          refine ⟨_, rfl, ⟨by omega, by omega, fun j hj => ?_⟩, by omega⟩
          by_cases hjv : (j : Int) < v
          · exact g3 j hjv
          · have : j = v.toNat := by omega
            subst this; exact hb
      · right
        rw [he v g1 h]
        exact ⟨_, rfl, by rw [if_neg]; rintro ⟨j, hj, hb⟩; exact g3 j (by omega) hb⟩) ⟨by simp, by simp, fun j hj => by simp at hj; omega⟩ (by simp; omega)
  rw [h1, h2]
open Classical in
theorem rHas_eq (N : Nat) (l : List Int) (x : Int) (hN : l.length < N) (hl : l.length ≤ 140737488355327) : W_ref1_Has N (l, x) = some (decide (x ∈ l)) := by
  unfold W_ref1_Has V_ref1_Has
  try simp only
  rw [all_loop (len := l.length) (fun j => l.getD j 0 = x) true hN (fun v h1 h2 => by
    rw [dT h2, cnd_t, dT h1, Bool.and_self, cnd_t]
    by_cases h : l.getD v.toNat 0 = x
    · rw [dT h, cnd_t, if_pos h]
    · rw [dF h, cnd_f, if_neg h, wr_s (by omega) (by omega)]) (fun v _ h => by rw [dF h, cnd_f]), obind_s]
  by_cases h : x ∈ l
  · rw [if_pos (mem_getD h), selim_r, dT h]
  · rw [if_neg (fun ⟨j, hj, e⟩ => h (e ▸ getD_mem hj)), selim_l, dF h]
open Classical in
theorem rMay_eq (N : Nat) (x : List Int) (hN : 12 ≤ N) : W_ref1_MayPath N x = some (decide (VP x)) := by
  unfold W_ref1_MayPath V_ref1_MayPath
  by_cases h1 : (x.length : Int) < 1
  · rw [dT h1, cnd_t, obind_s, cnd_t, dF (fun h => by have := h.1; omega)]
  rw [dF h1, cnd_f, obind_s]
  by_cases h2 : (10 : Int) < x.length
  · rw [dT h2, cnd_t, dF (fun h => by have := h.2.1; omega)]
  rw [dF h2, cnd_f, dT (show (0 : Int) ≤ 0 by omega), dT (show (0 : Int) < x.length by omega), Bool.and_self, cnd_t]
  by_cases h3 : x.getD 0 0 = 1
  case neg => rw [dT h3, cnd_t, dF (fun h => h3 h.2.2.1)]
  rw [dF (by simpa using h3), cnd_f]
  rw [all_loop (len := x.length) (fun j => ¬ (1 ≤ x.getD j 0 ∧ x.getD j 0 ≤ 8 ∧ x.getD j 0 ∉ x.take j)) false (by omega) (fun v g1 g2 => by
    rw [dT g2, dT g1, cnd_t, Bool.and_self, cnd_t, dT (show v ≤ x.length by omega), cnd_t, Bool.and_self, cnd_t, cnd_t, List.drop_zero]
    by_cases b1 : x.getD v.toNat 0 < 1
    · rw [dT b1, cnd_t, if_pos (fun h => by omega)]
    rw [dF b1, cnd_f]
    by_cases b2 : 8 < x.getD v.toNat 0
    · rw [dT b2, cnd_t, if_pos (fun h => by omega)]
    rw [dF b2, cnd_f, rHas_eq N _ _ (by rw [List.length_take]; omega) (by rw [List.length_take]; omega), obind_s]
    by_cases b3 : x.getD v.toNat 0 ∈ x.take v.toNat
    · rw [dT b3, cnd_t, if_pos (fun h => h.2.2 b3)]
    rw [dF b3, cnd_f, if_neg (fun h => h ⟨by omega, by omega, b3⟩), wr_s (by omega) (by omega)]) (fun v _ h => by rw [dF h, cnd_f]), obind_s]
  by_cases hv : VP x
  · rw [if_neg (fun ⟨j, hj, hb⟩ => hb (hv.2.2.2 j hj)), selim_l, dT hv]
  · rw [if_pos, selim_r, dF hv]
    refine Classical.byContradiction fun hn => hv ⟨by omega, by omega, h3, fun j hj => Classical.byContradiction fun hb => hn ⟨j, hj, hb⟩⟩
open Classical in
theorem rAdd_eq (N : Nat) (p : List Int) (id : Int) (hN : 12 ≤ N) (hl : p.length ≤ 1000) : W_ref1_AddPath N (p, id) = some (if VP (p ++ [id]) then (p ++ [id], true) else ([], false)) := by
  unfold W_ref1_AddPath V_ref1_AddPath
  try simp only
  rw [dT (by omega), cnd_t, dT (by simp; omega), cnd_t, rMay_eq N _ hN, obind_s]
  by_cases h : VP (p ++ [id])
  · rw [dT h, if_pos h, Bool.not_true, cnd_f]
  · rw [dF h, if_neg h, Bool.not_false, cnd_t]
theorem Num_eq (N : Nat) (m : Int) (l : List Int) (n : Int) (hm : 1 ≤ m) (hn : 0 ≤ n) (hn2 : n ≤ 1000000) (hel : ∀ x ∈ l, 0 ≤ x ∧ x ≤ 255) : ∃ k n', W_Picks_Num N (m, l, n) = some (k, l, n') ∧ 0 ≤ k ∧ k < m ∧ n ≤ n' ∧ n' ≤ n + 1 := by
  unfold W_Picks_Num V_Picks_Num
  try simp only
  by_cases h : (l.length : Int) ≤ n
  · rw [dT h, cnd_t]; exact ⟨_, _, rfl, by omega, by omega, by omega, by omega⟩
  rw [dF h, cnd_f, dF (by omega), cnd_f, wr_s (z := n + 1) (by omega) (by omega), wr_s (z := n + 1 - 1) (by omega) (by omega), dT (by omega), dT (by omega), Bool.and_self, cnd_t, dF (by omega), Bool.not_false, cnd_t]
  have hb := hel (l.getD (n + 1 - 1).toNat 0) (getD_mem (by omega))
  rw [wr_s (by omega) (by omega), Int.tmod_eq_emod_of_nonneg (by omega)]
  exact ⟨_, _, rfl, Int.emod_nonneg _ (by omega), Int.emod_lt_of_pos _ (by omega), by omega, by omega⟩
open Classical in
theorem VP_one : VP [1] := ⟨by decide, by decide, by decide, fun j hj => by
    have : j = 0 := by simp at hj; omega
    subst this; decide⟩
theorem Path_eq (N : Nat) (l : List Int) (n : Int) (hN : 12 ≤ N) (hn : 0 ≤ n) (hn2 : n ≤ 1000) (hel : ∀ x ∈ l, 0 ≤ x ∧ x ≤ 255) : ∃ p n', W_Picks_Path N (l, n) = some (p, l, n') ∧ VP p ∧ n ≤ n' ∧ n' ≤ n + 5 := by
  unfold W_Picks_Path V_Picks_Path
  obtain ⟨k, n1, e1, a1, a2, a3, a4⟩ := Num_eq N 4 l n (by omega) hn (by omega) hel
  rw [e1, obind_s]
  refine loop_G (N := N) (x := ([1], (k, (l, n1)))) (fun o => ∃ p n', o = some (p, l, n') ∧ VP p ∧ n ≤ n' ∧ n' ≤ n + 5) (fun j (v : List Int × Int × List Int × Int) => v.2.1 = k - j ∧ (j : Int) ≤ k ∧ VP v.1 ∧ v.2.2.1 = l ∧ n1 ≤ v.2.2.2 ∧ v.2.2.2 ≤ n1 + j) 4 (fun r : List Int × List Int × Int => VP r.1 ∧ r.2.1 = l ∧ n1 ≤ r.2.2 ∧ r.2.2 ≤ n1 + 4) ⟨by simp, by omega, VP_one, rfl, by simp, by simp⟩ (by omega) ?_ (fun j v h => by have := h.2.1; omega) ?_
  · rintro ⟨p, l', m⟩ ⟨h1, h2, h3, h4⟩
    simp only at h1 h2 h3 h4
    subst h2
    exact ⟨_, _, rfl, h1, by omega, by omega⟩
  · rintro j ⟨p, i, l', m⟩ ⟨h1, h2, h3, h4, h5, h6⟩
    simp only at h1 h3 h4 h5 h6 ⊢
    subst h1 h4
    by_cases c : 0 < k - (j : Int)
    case neg => right; rw [dF c, cnd_f]; exact ⟨_, rfl, h3, rfl, h5, by simp only; omega⟩
    left
    obtain ⟨q, m2, e2, b1, b2, b3, b4⟩ := Num_eq N 7 l' m (by omega) (by omega) (by omega) hel
    rw [dT c, cnd_t, e2, obind_s]
    try simp only
    rw [wr_m (z := 2 + q) (by omega) (by omega), rAdd_eq N p (2 + q) hN (by have := h3.2.1; omega), obind_s, wr_m (z := k - (j : Int) - 1) (by omega) (by omega)]
    by_cases cv : VP (p ++ [2 + q])
    · rw [if_pos cv, cnd_t]
      exact ⟨_, rfl, by simp only; omega, by omega, cv, rfl, by simp only; omega, by simp only; omega⟩
    · rw [if_neg cv, cnd_f]
      exact ⟨_, rfl, by simp only; omega, by omega, h3, rfl, by simp only; omega, by simp only; omega⟩
/-- What the parts of one that may be are within. -/
theorem VP_mem {p : List Int} (h : VP p) : ∀ v ∈ p, 1 ≤ v ∧ v ≤ 8 := by
  intro v hv
  obtain ⟨j, hj, rfl⟩ := mem_getD hv
  have := h.2.2.2 j hj
  exact ⟨this.1, this.2.1⟩
open Classical in
def ownF (m : Ms) : Ms :=
  if m.1 = 2 then (m.1, m.2.1, m.2.2.1, m.2.2.2.1, m.2.2.2.2.1, m.2.2.2.2.2.1, m.2.2.2.2.2.2.1, m.2.2.2.2.2.2.2.1, 0, [])
  else if m.1 = 5 then (m.1, m.2.1, m.2.2.1, m.2.2.2.1, m.2.2.2.2.1, m.2.2.2.2.2.1, m.2.2.2.2.2.2.1, 0, m.2.2.2.2.2.2.2.2.1, [])
  else if m.1 = 7 then (m.1, m.2.1, m.2.2.1, m.2.2.2.1, 0, 0, [], m.2.2.2.2.2.2.2.1, 0, m.2.2.2.2.2.2.2.2.2)
  else if m.1 = 8 ∨ m.1 = 9 then (m.1, m.2.1, m.2.2.1, m.2.2.2.1, 0, 0, [], m.2.2.2.2.2.2.2.1, m.2.2.2.2.2.2.2.2.1, [])
  else (m.1, m.2.1, m.2.2.1, m.2.2.2.1, 0, 0, [], 0, 0, [])
open Classical in
def Fits (m : Ms) : Prop :=
  if m.1 = 2 ∨ m.1 = 5 then (0 ≤ m.2.2.2.2.1 ∧ m.2.2.2.2.1 ≤ 1073741824) ∧ (0 ≤ m.2.2.2.2.2.1 ∧ m.2.2.2.2.2.1 ≤ 1073741824) ∧ VP m.2.2.2.2.2.2.1 ∧ (0 ≤ m.2.2.2.2.2.2.2.1 ∧ m.2.2.2.2.2.2.2.1 ≤ 1000000) ∧ (0 ≤ m.2.2.2.2.2.2.2.2.1 ∧ m.2.2.2.2.2.2.2.2.1 ≤ 1000000)
  else if m.1 = 7 then (1 ≤ m.2.2.2.2.2.2.2.1 ∧ m.2.2.2.2.2.2.2.1 ≤ 1000000) ∧ (m.2.2.2.2.2.2.2.2.2.length : Int) ≤ 12
  else if m.1 = 8 ∨ m.1 = 9 then (1 ≤ m.2.2.2.2.2.2.2.1 ∧ m.2.2.2.2.2.2.2.1 ≤ m.2.2.2.2.2.2.2.2.1) ∧ m.2.2.2.2.2.2.2.2.1 ≤ 1000000
  else True
open Classical in
def MayP (m : Ms) : Prop := (1 ≤ m.1 ∧ m.1 ≤ 9) ∧ (1 ≤ m.2.1 ∧ m.2.1 ≤ 8) ∧ (1 ≤ m.2.2.1 ∧ m.2.2.1 ≤ 8) ∧ m.2.1 ≠ m.2.2.1 ∧ (1 ≤ m.2.2.2.1 ∧ m.2.2.2.1 ≤ 1073741824) ∧ m = ownF m ∧ Fits m
open Classical in
theorem Text_eq (N : Nat) (l : List Int) (n : Int) (hn : 0 ≤ n) (hn2 : n ≤ 1000) (hel : ∀ x ∈ l, 0 ≤ x ∧ x ≤ 255) : ∃ s n', W_Picks_Text N (l, n) = some (s, l, n') ∧ s.length ≤ 12 ∧ n ≤ n' ∧ n' ≤ n + 1 := by
  unfold W_Picks_Text V_Picks_Text
  try simp only
  obtain ⟨k, n1, e1, a1, a2, a3, a4⟩ := Num_eq N 5 l n (by omega) hn (by omega) hel
  rw [e1, obind_s]
  try simp only
  rw [dT a1, cnd_t, dT (by omega), cnd_t]
  refine ⟨_, _, rfl, ?_, a3, a4⟩
  obtain ⟨j, rfl⟩ : ∃ j : Nat, k = j := ⟨k.toNat, by omega⟩
  have : j = 0 ∨ j = 1 ∨ j = 2 ∨ j = 3 ∨ j = 4 := by omega
  rcases this with rfl | rfl | rfl | rfl | rfl <;> decide
/-- All its numbers are short. -/
structure Sh (m : Ms) : Prop where
  k : 0 ≤ m.1 ∧ m.1 < 128
  f : 0 ≤ m.2.1 ∧ m.2.1 < 128
  t : 0 ≤ m.2.2.1 ∧ m.2.2.1 < 128
  i : 0 ≤ m.2.2.2.1 ∧ m.2.2.2.1 < 128
  e : 0 ≤ m.2.2.2.2.1 ∧ m.2.2.2.2.1 < 128
  a : 0 ≤ m.2.2.2.2.2.1 ∧ m.2.2.2.2.2.1 < 128
  p : ∀ v ∈ m.2.2.2.2.2.2.1, 0 ≤ v ∧ v < 128
  lo : 0 ≤ m.2.2.2.2.2.2.2.1 ∧ m.2.2.2.2.2.2.2.1 < 128
  hi : 0 ≤ m.2.2.2.2.2.2.2.2.1 ∧ m.2.2.2.2.2.2.2.2.1 < 128
theorem Msg_eqn (N : Nat) (hN : 1000 ≤ N) (to : Int) (l : List Int) (n0 : Int) (hn0 : 0 ≤ n0) (hn1 : n0 ≤ 500) (hto : 1 ≤ to ∧ to ≤ 8) (hel : ∀ x ∈ l, 0 ≤ x ∧ x ≤ 255) : ∃ m n', W_Picks_Msg N (to, l, n0) = some ((l, n'), m) ∧ MayP m ∧ Sh m ∧ m.2.2.1 = to ∧ m.2.2.2.1 ≤ 3 ∧ 0 ≤ n' ∧ n' ≤ n0 + 20 := by
  unfold W_Picks_Msg V_Picks_Msg
  try simp only
  obtain ⟨b, n1, e1, a1, a2, a3, a4⟩ := Num_eq N 8 l n0 (by omega) (by omega) (by omega) hel
  rw [e1, obind_s]
  try simp only
  have hf : ∃ f, cnd (decide (wr .i64 ((1 : Int) + b) = to)) (some (wr .i64 ((1 : Int) + Int.tmod to 8), (l, n1), (0 : Int), (0 : Int), (0 : Int), (0 : Int), (0 : Int), (0 : Int), ([] : List Int), (0 : Int), (0 : Int), ([] : List UInt8))) (some (wr .i64 ((1 : Int) + b), (l, n1), (0 : Int), (0 : Int), (0 : Int), (0 : Int), (0 : Int), (0 : Int), ([] : List Int), (0 : Int), (0 : Int), ([] : List UInt8))) = some (f, (l, n1), (0 : Int), (0 : Int), (0 : Int), (0 : Int), (0 : Int), (0 : Int), ([] : List Int), (0 : Int), (0 : Int), ([] : List UInt8)) ∧ 1 ≤ f ∧ f ≤ 8 ∧ f ≠ to := by
    have w1 : wr .i64 (1 + b) = 1 + b := wr_m (by omega) (by omega)
    rw [w1, Int.tmod_eq_emod_of_nonneg (by omega)]
    by_cases c : 1 + b = to
    · rw [dT c, cnd_t, wr_m (by omega) (by omega)]
      exact ⟨_, rfl, by omega, by omega, by omega⟩
    · rw [dF c, cnd_f]
      exact ⟨_, rfl, by omega, by omega, c⟩
  obtain ⟨f, hf1, hf2, hf3, hf4⟩ := hf
  rw [hf1, obind_s]
  try simp only
  obtain ⟨k, n2, e2, b1, b2, b3, b4⟩ := Num_eq N 9 l n1 (by omega) (by omega) (by omega) hel
  rw [e2, obind_s]
  try simp only
  obtain ⟨i, n3, e3, c1, c2, c3, c4⟩ := Num_eq N 3 l n2 (by omega) (by omega) (by omega) hel
  rw [e3, obind_s]
  try simp only
  have wk : wr .i64 (1 + k) = 1 + k := wr_m (by omega) (by omega)
  have wi : wr .i64 (1 + i) = 1 + i := wr_m (by omega) (by omega)
  rw [wk, wi]
  obtain ⟨K, hK⟩ : ∃ K, K = 1 + k := ⟨_, rfl⟩
  obtain ⟨I, hI⟩ : ∃ I, I = 1 + i := ⟨_, rfl⟩
  rw [← hK, ← hI]
  have hb : (1 ≤ K ∧ K ≤ 9) ∧ (1 ≤ f ∧ f ≤ 8) ∧ (1 ≤ to ∧ to ≤ 8) ∧ f ≠ to ∧ (1 ≤ I ∧ I ≤ 1073741824) := ⟨by omega, by omega, hto, hf4, by omega⟩
  by_cases k2 : K = 2
  · rw [dT k2, cnd_t]
    obtain ⟨e, n4, e4, d1, d2, d3, d4⟩ := Num_eq N 20 l n3 (by omega) (by omega) (by omega) hel
    rw [e4, obind_s]
    try simp only
    obtain ⟨a, n5, e5, g1, g2, g3, g4⟩ := Num_eq N 25 l n4 (by omega) (by omega) (by omega) hel
    rw [e5, obind_s]
    try simp only
    obtain ⟨p, n6, e6, p1, p2, p3⟩ := Path_eq N l n5 (by omega) (by omega) (by omega) hel
    rw [e6, obind_s]
    try simp only
    obtain ⟨lo, n7, e7, q1, q2, q3, q4⟩ := Num_eq N 9 l n6 (by omega) (by omega) (by omega) hel
    rw [e7, obind_s]
    refine ⟨_, _, rfl, ⟨hb.1, hb.2.1, hb.2.2.1, hb.2.2.2.1, hb.2.2.2.2, ?_, ?_⟩, ⟨by simp only; omega, by simp only; omega, by simp only; omega, by simp only; omega, by simp only; omega, by simp only; omega, fun v hv => by have := VP_mem p1 v hv; omega, by simp only; omega, by simp⟩, rfl, by first | omega | (simp only; omega), by first | omega | (simp only; omega), by first | omega | (simp only; omega)⟩
    · unfold ownF; simp only; rw [if_pos k2]
    · unfold Fits; simp only; rw [if_pos (.inl k2)]; exact ⟨by omega, by omega, p1, by omega, by omega⟩
  rw [dF k2, cnd_f]
  by_cases k5 : K = 5
  · rw [dT k5, cnd_t]
    obtain ⟨e, n4, e4, d1, d2, d3, d4⟩ := Num_eq N 20 l n3 (by omega) (by omega) (by omega) hel
    rw [e4, obind_s]
    try simp only
    obtain ⟨a, n5, e5, g1, g2, g3, g4⟩ := Num_eq N 25 l n4 (by omega) (by omega) (by omega) hel
    rw [e5, obind_s]
    try simp only
    obtain ⟨p, n6, e6, p1, p2, p3⟩ := Path_eq N l n5 (by omega) (by omega) (by omega) hel
    rw [e6, obind_s]
    try simp only
    obtain ⟨lo, n7, e7, q1, q2, q3, q4⟩ := Num_eq N 12 l n6 (by omega) (by omega) (by omega) hel
    rw [e7, obind_s]
    refine ⟨_, _, rfl, ⟨hb.1, hb.2.1, hb.2.2.1, hb.2.2.2.1, hb.2.2.2.2, ?_, ?_⟩, ⟨by simp only; omega, by simp only; omega, by simp only; omega, by simp only; omega, by simp only; omega, by simp only; omega, fun v hv => by have := VP_mem p1 v hv; omega, by simp, by simp only; omega⟩, rfl, by first | omega | (simp only; omega), by first | omega | (simp only; omega), by first | omega | (simp only; omega)⟩
    · unfold ownF; simp only; rw [if_neg k2, if_pos k5]
    · unfold Fits; simp only; rw [if_pos (.inr k5)]; exact ⟨by omega, by omega, p1, by omega, by omega⟩
  rw [dF k5, cnd_f]
  by_cases k7 : K = 7
  · rw [dT k7, cnd_t]
    obtain ⟨lo, n4, e4, d1, d2, d3, d4⟩ := Num_eq N 12 l n3 (by omega) (by omega) (by omega) hel
    rw [e4, obind_s]
    try simp only
    obtain ⟨s, n5, e5, g1, g2, g3⟩ := Text_eq N l n4 (by omega) (by omega) hel
    rw [e5, obind_s]
    try simp only
    have w1 : wr .i64 (1 + lo) = 1 + lo := wr_m (by omega) (by omega)
    rw [w1]
    refine ⟨_, _, rfl, ⟨hb.1, hb.2.1, hb.2.2.1, hb.2.2.2.1, hb.2.2.2.2, ?_, ?_⟩, ⟨by simp only; omega, by simp only; omega, by simp only; omega, by simp only; omega, by simp, by simp, fun v hv => by simp at hv, by simp only; omega, by simp⟩, rfl, by first | omega | (simp only; omega), by first | omega | (simp only; omega), by first | omega | (simp only; omega)⟩
    · unfold ownF; simp only; rw [if_neg k2, if_neg k5, if_pos k7]
    · unfold Fits; simp only; rw [if_neg (fun q => q.elim k2 k5), if_pos k7]; exact ⟨by omega, by omega⟩
  rw [dF k7, cnd_f]
  have two : (K = 8 ∨ K = 9) → ∃ m n', (obind (W_Picks_Num N ((9 : Int), l, n3)) fun (b_3 : Int × List Int × Int) =>
      obind (W_Picks_Num N ((6 : Int), Prod.fst (Prod.snd b_3), Prod.snd (Prod.snd b_3))) fun (b_4 : Int × List Int × Int) =>
        some ((Prod.fst (Prod.snd b_4), Prod.snd (Prod.snd b_4)), K, f, to, I, (0 : Int), (0 : Int), ([] : List Int), wr IntKind.i64 ((1 : Int) + Prod.fst b_3), wr IntKind.i64 (wr IntKind.i64 ((1 : Int) + Prod.fst b_3) + Prod.fst b_4), ([] : List UInt8))) = some ((l, n'), m) ∧ MayP m ∧ Sh m ∧ m.2.2.1 = to ∧ m.2.2.2.1 ≤ 3 ∧ 0 ≤ n' ∧ n' ≤ n0 + 20 := by
    intro hk
    obtain ⟨lo, n4, e4, d1, d2, d3, d4⟩ := Num_eq N 9 l n3 (by omega) (by omega) (by omega) hel
    rw [e4, obind_s]
    try simp only
    obtain ⟨hi, n5, e5, g1, g2, g3, g4⟩ := Num_eq N 6 l n4 (by omega) (by omega) (by omega) hel
    rw [e5, obind_s]
    try simp only
    have w1 : wr .i64 (1 + lo) = 1 + lo := wr_m (by omega) (by omega)
    have w2 : wr .i64 (1 + lo + hi) = 1 + lo + hi := wr_m (by omega) (by omega)
    rw [w1, w2]
    refine ⟨_, _, rfl, ⟨hb.1, hb.2.1, hb.2.2.1, hb.2.2.2.1, hb.2.2.2.2, ?_, ?_⟩, ⟨by simp only; omega, by simp only; omega, by simp only; omega, by simp only; omega, by simp, by simp, fun v hv => by simp at hv, by simp only; omega, by simp only; omega⟩, rfl, by first | omega | (simp only; omega), by first | omega | (simp only; omega), by first | omega | (simp only; omega)⟩
    · unfold ownF; simp only; rw [if_neg k2, if_neg k5, if_neg k7, if_pos hk]
    · unfold Fits; simp only; rw [if_neg (fun q => q.elim k2 k5), if_neg k7, if_pos hk]; exact ⟨⟨by omega, by omega⟩, by omega⟩
  by_cases k8 : K = 8
  · rw [dT k8, cnd_t, obind_s]
    try simp only
    rw [cnd_t]
    exact two (.inl k8)
  rw [dF k8, cnd_f, obind_s]
  try simp only
  by_cases k9 : K = 9
  · rw [dT k9, cnd_t]
    exact two (.inr k9)
  · rw [dF k9, cnd_f]
    refine ⟨_, _, rfl, ⟨hb.1, hb.2.1, hb.2.2.1, hb.2.2.2.1, hb.2.2.2.2, ?_, ?_⟩, ⟨by simp only; omega, by simp only; omega, by simp only; omega, by simp only; omega, by simp, by simp, fun v hv => by simp at hv, by simp, by simp⟩, rfl, by first | omega | (simp only; omega), by first | omega | (simp only; omega), by first | omega | (simp only; omega)⟩
    · unfold ownF; simp only; rw [if_neg k2, if_neg k5, if_neg k7, if_neg (fun q => q.elim k8 k9)]
    · unfold Fits; simp only; rw [if_neg (fun q => q.elim k2 k5), if_neg k7, if_neg (fun q => q.elim k8 k9)]; trivial
theorem filter1 (p : Kd → Bool) (x : Kd) : [x].filter (fun k => !p k) = if p x = true then [] else [x] := by
  rw [List.filter_cons]
  cases p x <;> rfl
theorem take_snocK {l : List Kd} {k : Nat} (h : k < l.length) : l.take (k + 1) = l.take k ++ [l.getD k kD] := by
  rw [List.take_succ_eq_append_getElem h, List.getD_eq_getElem?_getD, List.getElem?_eq_getElem h]; rfl
theorem idx_Prune_eq (N : Nat) (hN : 2000 ≤ N) (l : List Kd) (c : Int) (p : Kd → Bool) (hp : ∀ k ∈ l, W_kids_Prune_1 N (k, c) = some (p k, c)) (hl : l.length ≤ 1000) : ∃ r : Int, W_slices_IndexFunc_api_Kid__kids_Prune_1 N (l, c) = some (r, c) ∧ ((r = -1 ∧ ∀ x ∈ l, p x = false) ∨ ∃ i : Nat, r = i ∧ i < l.length ∧ p (l.getD i kD) = true ∧ ∀ x ∈ l.take i, p x = false) := by
  unfold W_slices_IndexFunc_api_Kid__kids_Prune_1 V_slices_IndexFunc_api_Kid__kids_Prune_1
  try simp only
  refine loop_G (N := N) (fun o => ∃ r : Int, o = some (r, c) ∧ ((r = -1 ∧ ∀ x ∈ l, p x = false) ∨ ∃ i : Nat, r = i ∧ i < l.length ∧ p (l.getD i kD) = true ∧ ∀ x ∈ l.take i, p x = false)) (fun k (v : Int × Int) => v = (↑k, c) ∧ k ≤ l.length ∧ ∀ x ∈ l.take k, p x = false) l.length
    (fun r : Int ⊕ Int × Int => (r = .inl c ∧ ∀ x ∈ l, p x = false) ∨ ∃ i : Nat, r = .inr ((i : Int), c) ∧ i < l.length ∧ p (l.getD i kD) = true ∧ ∀ x ∈ l.take i, p x = false) ⟨rfl, by omega, by simp⟩ (by omega) ?_ (fun k v h => h.2.1) ?_
  · rintro r (⟨rfl, h⟩ | ⟨i, rfl, h⟩)
    · rw [selim_l]; exact ⟨-1, rfl, .inl ⟨rfl, h⟩⟩
    · rw [selim_r]; exact ⟨i, rfl, .inr ⟨i, rfl, h⟩⟩
  · rintro k v ⟨rfl, hk, hq⟩
    try simp only
    by_cases cl : (k : Int) < l.length
    case neg =>
      right
      rw [dF cl, cnd_f]
      refine ⟨_, rfl, .inl ⟨rfl, fun x hx => hq x ?_⟩⟩
      rw [List.take_of_length_le (by omega)]; exact hx
    have hm := getD_memK (l := l) (i := k) (by omega)
    rw [dT cl, cnd_t, dT (by omega), Bool.and_self, cnd_t, Int.toNat_natCast]
    show (∃ y, obind (W_kids_Prune_1 N (l.getD k kD, c)) _ = _ ∧ _) ∨ (∃ y, obind (W_kids_Prune_1 N (l.getD k kD, c)) _ = _ ∧ _)
    rw [hp _ hm, obind_s]
    try simp only
    cases hb : p (l.getD k kD) with
    | true => right; rw [cnd_t]; exact ⟨_, rfl, .inr ⟨k, rfl, by omega, hb, hq⟩⟩
    | false =>
      left
      rw [cnd_f, wr_m (by omega) (by omega)]
      refine ⟨_, rfl, by simp, by omega, fun x hx => ?_⟩
      rw [take_snocK (by omega)] at hx
      rcases List.mem_append.1 hx with hx | hx
      · exact hq x hx
      · rw [List.mem_singleton.1 hx]; exact hb
theorem del_Prune_eq (N : Nat) (hN : 2000 ≤ N) (l : List Kd) (c : Int) (p : Kd → Bool) (hp : ∀ k ∈ l, W_kids_Prune_1 N (k, c) = some (p k, c)) (hl : l.length ≤ 1000) : W_slices_DeleteFunc_api_Kid__kids_Prune_1 N (l, c) = some (l.filter (fun k => !p k), c) := by
  obtain ⟨r, h1, h2⟩ := idx_Prune_eq N hN l c p hp hl
  unfold W_slices_DeleteFunc_api_Kid__kids_Prune_1 V_slices_DeleteFunc_api_Kid__kids_Prune_1
  try simp only
  rw [h1, obind_s]
  try simp only
  rcases h2 with ⟨rfl, hall⟩ | ⟨i, rfl, hi, hpi, hq⟩
  · rw [dT rfl, cnd_t, List.filter_eq_self.2 (fun x hx => by rw [hall x hx]; rfl)]
  rw [dF (by omega), cnd_f, wr_m (z := (i : Int) + 1) (by omega) (by omega)]
  have f0 : (l.take (i + 1)).filter (fun k => !p k) = l.take i := by
    rw [take_snocK hi, List.filter_append, List.filter_eq_self.2 (fun x hx => by rw [hq x hx]; rfl)]
    rw [filter1, hpi]; simp
  refine loop_G (N := N) (fun o => o = some (l.filter (fun k => !p k), c)) (fun k (v : Int × Int × List Kd × Int) => ∃ (a b : Nat), v = ((a : Int), (b : Int), v.2.2.1, c) ∧ b = i + 1 + k ∧ a < b ∧ b ≤ l.length ∧ v.2.2.1.length = l.length ∧ v.2.2.1.take a = (l.take b).filter (fun k => !p k) ∧ v.2.2.1.drop b = l.drop b) l.length
    (fun r : Int × List Kd × Int => ∃ a : Nat, r = ((a : Int), r.2.1, c) ∧ a ≤ r.2.1.length ∧ r.2.1.length = l.length ∧ r.2.1.take a = l.filter (fun k => !p k)) ⟨i, i + 1, rfl, rfl, by omega, by omega, rfl, f0.symm, rfl⟩ (by omega) ?_ (fun k v h => by obtain ⟨a, b, _, h1, _, h2, _⟩ := h; omega) ?_
  · rintro ⟨n, row, c'⟩ ⟨a, e, ha, hlen, hr⟩
    simp only at e ha hlen hr
    injection e with e1 e2
    injection e2 with e3 e4
    subst e1 e4
    have hz : (putL row (List.replicate (row.length - a) ((0 : Int), (0 : Int), (0 : Int))) (0 + a)).length = row.length := by
      simp [putL]; omega
    refine (cnd_T (show (0 : Int) ≤ (a : Int) by omega)).trans ?_
    refine (cnd_T (show (a : Int) ≤ (row.length : Int) by omega)).trans ?_
    refine (cnd_T (show (0 : Int) ≤ (a : Int) by omega)).trans ?_
    refine (cnd_T (show ((0 : Nat) : Int) + (a : Int) ≤ ((putL row (List.replicate (row.length - a) ((0 : Int), (0 : Int), (0 : Int))) (0 + a)).length : Int) by rw [hz]; omega)).trans ?_
    have : List.drop (0 + 0) (List.take (0 + 0 + (a - 0)) (putL row (List.replicate (row.length - a) ((0 : Int), (0 : Int), (0 : Int))) (0 + a))) = row.take a := by
      simp only [Nat.zero_add, Nat.sub_zero, List.drop_zero]
      unfold putL
      rw [List.take_append_of_le_length (by simp; omega), List.take_take]
      simp
    show some (List.drop (0 + 0) (List.take (0 + 0 + (a - 0)) (putL row (List.replicate (row.length - a) ((0 : Int), (0 : Int), (0 : Int))) (0 + a))), c') = _
    rw [this, hr]
  · rintro k ⟨n, j, row, c'⟩ ⟨a, b, e, hb, hab, hbl, hlen, ht, hd⟩
    simp only at e hlen ht hd
    injection e with e1 e2
    injection e2 with e3 e4
    injection e4 with e5 e6
    subst e1 e3 e6
    try simp only
    by_cases cl : (b : Int) < row.length
    case neg =>
      right
      rw [dF cl, cnd_f]
      refine ⟨_, rfl, a, rfl, by simp only; omega, hlen, ?_⟩
      try simp only
      rw [ht, List.take_of_length_le (by omega)]
    left
    have hx : row.getD b kD = l.getD b kD := by
      have h1 := drop_consK (l := row) (i := b) (by omega)
      have h2 := drop_consK (l := l) (i := b) (by omega)
      rw [hd, h2] at h1
      injection h1 with h1 _
      exact h1.symm
    have hm := getD_memK (l := l) (i := b) (by omega)
    rw [dT cl, cnd_t, dT (by omega), Bool.and_self, cnd_t, Int.toNat_natCast]
    show ∃ y, obind (W_kids_Prune_1 N (row.getD b kD, c')) _ = _ ∧ _
    rw [hx, hp _ hm, obind_s]
    try simp only
    have hd1 : ∀ r2 : List Kd, r2.drop b = l.drop b → r2.drop (b + 1) = l.drop (b + 1) := fun r2 h => by rw [← List.drop_drop, ← List.drop_drop, h]
    rw [wr_m (z := (b : Int) + 1) (by omega) (by omega)]
    cases hb2 : p (l.getD b kD) with
    | true =>
      rw [Bool.not_true, cnd_f]
      refine ⟨_, rfl, a, b + 1, by simp only; rfl, by omega, by omega, by omega, hlen, ?_, hd1 row hd⟩
      try simp only
      rw [ht, take_snocK (by omega), List.filter_append, filter1, hb2]
      simp
    | false =>
      rw [Bool.not_false, cnd_t, dT (show (0 : Int) ≤ (a : Int) by omega), dT (show (a : Int) < row.length by omega), Bool.and_self, cnd_t, wr_m (z := (a : Int) + 1) (by omega) (by omega), Int.toNat_natCast]
      refine ⟨_, rfl, a + 1, b + 1, by simp only; rfl, by omega, by omega, by omega, ?_, ?_, ?_⟩
      · show (putL row [l.getD b kD] a).length = _
        unfold putL
        simp only [List.length_append, List.length_take, List.length_drop, List.length_singleton]; omega
      · show (putL row [l.getD b kD] a).take (a + 1) = _
        rw [take_snocK (l := l) (k := b) (by omega), List.filter_append, ← ht, filter1, hb2]
        unfold putL
        rw [List.take_append, List.take_of_length_le (by simp; omega), List.length_take, show a + 1 - min a row.length = 1 by omega]
        rfl
      · show (putL row [l.getD b kD] a).drop (b + 1) = _
        rw [← hd1 row hd]
        unfold putL
        rw [List.drop_append, List.drop_eq_nil_of_le (by simp; omega), List.nil_append, List.drop_append, List.drop_eq_nil_of_le (by simp; omega), List.nil_append, List.drop_drop]
        congr 1
        simp
        omega
theorem prune_eq (N : Nat) (hN : 2000 ≤ N) (l : List Kd) (now : Int) (hl : l.length ≤ 1000) (h1 : -1000000000 ≤ now) (h2 : now ≤ 1000000000) : W_kids_Prune N (l, now) = some (l.filter (fun k => !decide (k.2.2 < now - 20))) := by
  unfold W_kids_Prune V_kids_Prune
  try simp only
  rw [pCloneK N l (by omega), obind_s, del_Prune_eq N hN l now (fun k => decide (k.2.2 < now - 20)) (fun k _ => by unfold W_kids_Prune_1 V_kids_Prune_1; simp only; rw [wr_m (by omega) (by omega)]) hl, obind_s]
def freshM : TT → Bool
  | (id, _, now, par, _, _, _, _, born, _, _, _, _) => if id = 1 then true else if par ≠ 0 then decide (now - born ≤ 20) else false
def letgo : TT → Int → TT
  | (id, inc, now, _, _, grd, _, ep, born, _, unt, _, kids), s => (id, inc, now, 0, 0, grd, [], ep, born, 0, unt, s, kids)
def vainM : TT → TT
  | (id, inc, now, par, pinc, grd, path, ep, born, _, unt, stp, kids) => (id, inc, now, par, pinc, grd, path, ep, born, 0, unt, stp + 1, kids)
def sayM : TT → Int → Int → Ms
  | (id, inc, _), k, to => (k, id, to, inc, 0, 0, [], 0, 0, [])
def fullM : TT → Int → Int → Int → Ms
  | (id, inc, now, _, _, _, path, ep, born, _), k, to, lo => (k, id, to, inc, ep, now - born, path, lo, 0, [])
def prK (now : Int) (l : List Kd) : List Kd := l.filter (fun k => !decide (k.2.2 < now - 20))
def tick1 : TT → TT
  | (id, inc, now, par, pinc, grd, path, ep, born, ask, unt, stp, kids) =>
    if id = 1 ∧ (now + 1) % 2 = 0 then (id, inc, now + 1, par, pinc, grd, path, ep + 1, now + 1, ask, unt, stp, prK (now + 1) kids)
    else (id, inc, now + 1, par, pinc, grd, path, ep, born, ask, unt, stp, prK (now + 1) kids)
def tick2 (t : TT) : TT := if t.2.2.2.1 ≠ 0 ∧ freshM t = false then letgo t 0 else t
def seekM : TT → TT × List Ms
  | (id, inc, now, par, pinc, grd, path, ep, born, ask, unt, stp, kids) =>
    if ask ≠ 0 then
      if unt ≤ now then ((id, inc, now, par, pinc, grd, path, ep, born, if stp + 1 = 0 ∧ grd ≠ 0 ∧ grd ≠ id then grd else 1, now + 3, stp + 1, kids), [(1, id, if stp + 1 = 0 ∧ grd ≠ 0 ∧ grd ≠ id then grd else 1, inc, 0, 0, [], 0, 0, [])])
      else ((id, inc, now, par, pinc, grd, path, ep, born, ask, unt, stp, kids), [])
    else ((id, inc, now, par, pinc, grd, path, ep, born, if stp = 0 ∧ grd ≠ 0 ∧ grd ≠ id then grd else 1, now + 3, stp, kids), [(1, id, if stp = 0 ∧ grd ≠ 0 ∧ grd ≠ id then grd else 1, inc, 0, 0, [], 0, 0, [])])
def tick3 (t : TT) : TT × List Ms := if t.2.2.2.1 = 0 ∧ t.1 ≠ 1 then seekM t else (t, [])
def beatM (t : TT) : List Ms := (if t.2.2.2.1 ≠ 0 then [sayM t 4 t.2.2.2.1] else []) ++ (if freshM t = true then t.2.2.2.2.2.2.2.2.2.2.2.2.map fun k => fullM t 5 k.1 0 else [])
def tickM (t : TT) : List Ms × TT :=
  let a := tick3 (tick2 (tick1 t))
  (if (t.2.2.1 + 1) % 2 = 0 then a.2 ++ beatM a.1 else a.2, a.1)
/-- Bounds of a tie. -/
def Tb (B : Int) : TT → Prop
  | (id, inc, now, par, pinc, grd, path, ep, born, ask, unt, stp, kids) => (1 ≤ id ∧ id ≤ 8) ∧ (0 ≤ now ∧ now ≤ B) ∧ (-1000 ≤ born ∧ born ≤ B) ∧ (0 ≤ stp ∧ stp ≤ B) ∧ (unt ≤ B + 3 ∧ 0 ≤ unt) ∧ (0 ≤ ep ∧ ep ≤ B + 1000) ∧ path.length ≤ 10 ∧ Kw 1 kids ∧ (0 ≤ ask ∧ ask ≤ 8) ∧ (0 ≤ grd ∧ grd ≤ 8)
theorem Tb.kl {B : Int} {t : TT} (h : Tb B t) : t.2.2.2.2.2.2.2.2.2.2.2.2.length ≤ 8 := by
  obtain ⟨id, inc, now, par, pinc, grd, path, ep, born, ask, unt, stp, kids⟩ := t
  obtain ⟨h1, h2, h3, h4, h5, h6, h7, h8, h9, h10⟩ := h
  have := h8.len (by omega)
  simp only; omega
theorem tell_eq (N : Nat) (t : TT) (k to : Int) : W_tie_tell N (t, k, to) = some (sayM t k to) := rfl
theorem letGo_eq (N : Nat) (t : TT) (s : Int) : W_tie_letGo N (t, s) = some (letgo t s) := rfl
theorem vain_eq (N : Nat) {B : Int} (t : TT) (h : Tb B t) (hB : B ≤ 1000000000) : W_tie_vain N t = some (vainM t) := by
  obtain ⟨id, inc, now, par, pinc, grd, path, ep, born, ask, unt, stp, kids⟩ := t
  obtain ⟨h1, h2, h3, h4, h5, h6, h7, h8, h9, h10⟩ := h
  unfold W_tie_vain V_tie_vain vainM
  try simp only
  rw [wr_m (by omega) (by omega)]
theorem fresh_eq (N : Nat) {B : Int} (t : TT) (h : Tb B t) (hB : B ≤ 1000000000) : W_tie_Fresh N t = some (freshM t) := by
  obtain ⟨id, inc, now, par, pinc, grd, path, ep, born, ask, unt, stp, kids⟩ := t
  obtain ⟨h1, h2, h3, h4, h5, h6, h7, h8, h9, h10⟩ := h
  unfold W_tie_Fresh V_tie_Fresh W_tie_age V_tie_age freshM
  try simp only
  rw [wr_m (by omega) (by omega)]
  by_cases c : id = 1
  · rw [dT c, cnd_t, if_pos c]
  · rw [dF c, cnd_f, if_neg c]
    by_cases c2 : par ≠ 0
    · rw [dT c2, cnd_t, obind_s, if_pos c2]
    · rw [dF c2, cnd_f, if_neg c2]
theorem tellWay_eq (N : Nat) {B : Int} (t : TT) (h : Tb B t) (hB : B ≤ 1000000000) (k to : Int) : W_tie_tellWay N (t, k, to) = some (fullM t k to 0) := by
  obtain ⟨id, inc, now, par, pinc, grd, path, ep, born, ask, unt, stp, kids⟩ := t
  obtain ⟨h1, h2, h3, h4, h5, h6, h7, h8, h9, h10⟩ := h
  unfold W_tie_tellWay V_tie_tellWay W_tie_age V_tie_age
  try simp only
  rw [tell_eq, obind_s, wr_m (by omega) (by omega), obind_s, pCloneN N path (by omega), obind_s]
  rfl
theorem twinT_eq (N : Nat) {B : Int} (t : TT) (h : Tb B t) : W_twin_Tie N t = some t := by
  have hk := h.kl
  obtain ⟨id, inc, now, par, pinc, grd, path, ep, born, ask, unt, stp, kids⟩ := t
  obtain ⟨h1, h2, h3, h4, h5, h6, h7, h8, h9, h10⟩ := h
  unfold W_twin_Tie V_twin_Tie
  simp only at hk ⊢
  rw [pCloneN N path (by omega), obind_s, pCloneK N kids (by omega), obind_s]
theorem seek0_eq (N : Nat) (id inc now par pinc grd : Int) (path : List Int) (ep born unt stp : Int) (kids : List Kd) (z : TT) (hn : 0 ≤ now) (hn2 : now ≤ 1000000000) : (obind (obind (cnd (decide (stp = (0 : Int))) (some (decide (grd ≠ (0 : Int)), ((id, inc, now, par, pinc, grd, path, ep, born, (1 : Int), unt, stp, kids) : TT), z)) (some (false, ((id, inc, now, par, pinc, grd, path, ep, born, (1 : Int), unt, stp, kids) : TT), z))) fun (b : Bool × TT × TT) => cnd b.1 (cnd (decide (b.2.1.2.2.2.2.2.1 ≠ b.2.1.1)) (some ((b.2.1.1, b.2.1.2.1, b.2.1.2.2.1, b.2.1.2.2.2.1, b.2.1.2.2.2.2.1, b.2.1.2.2.2.2.2.1, b.2.1.2.2.2.2.2.2.1, b.2.1.2.2.2.2.2.2.2.1, b.2.1.2.2.2.2.2.2.2.2.1, b.2.1.2.2.2.2.2.1, b.2.1.2.2.2.2.2.2.2.2.2.2), b.2.2)) (some b.2)) (some b.2)) fun (b : TT × TT) => obind (W_tie_tell N ((b.1.1, b.1.2.1, b.1.2.2.1, b.1.2.2.2.1, b.1.2.2.2.2.1, b.1.2.2.2.2.2.1, b.1.2.2.2.2.2.2.1, b.1.2.2.2.2.2.2.2.1, b.1.2.2.2.2.2.2.2.2.1, b.1.2.2.2.2.2.2.2.2.2.1, wr .i64 (b.1.2.2.1 + (3 : Int)), b.1.2.2.2.2.2.2.2.2.2.2.2), (1 : Int), b.1.2.2.2.2.2.2.2.2.2.1)) fun (b_1 : Ms) => some (((b.1.1, b.1.2.1, b.1.2.2.1, b.1.2.2.2.1, b.1.2.2.2.2.1, b.1.2.2.2.2.2.1, b.1.2.2.2.2.2.2.1, b.1.2.2.2.2.2.2.2.1, b.1.2.2.2.2.2.2.2.2.1, b.1.2.2.2.2.2.2.2.2.2.1, wr .i64 (b.1.2.2.1 + (3 : Int)), b.1.2.2.2.2.2.2.2.2.2.2.2) : TT), [b_1])) = some (((id, inc, now, par, pinc, grd, path, ep, born, if stp = 0 ∧ grd ≠ 0 ∧ grd ≠ id then grd else 1, now + 3, stp, kids) : TT), [((1, id, if stp = 0 ∧ grd ≠ 0 ∧ grd ≠ id then grd else 1, inc, 0, 0, [], 0, 0, []) : Ms)]) := by
  have w : wr .i64 (now + 3) = now + 3 := wr_m (by omega) (by omega)
  by_cases c1 : stp = 0
  · rw [dT c1, cnd_t, obind_s]
    try simp only
    by_cases c2 : grd ≠ 0
    · rw [dT c2, cnd_t]
      by_cases c3 : grd ≠ id
      · rw [dT c3, cnd_t, obind_s]
        try simp only
        rw [w, tell_eq, obind_s, if_pos ⟨c1, c2, c3⟩]
        rfl
      · rw [dF c3, cnd_f, obind_s]
        try simp only
        rw [w, tell_eq, obind_s, if_neg (fun q => c3 q.2.2)]
        rfl
    · rw [dF c2, cnd_f, obind_s]
      try simp only
      rw [w, tell_eq, obind_s, if_neg (fun q => c2 q.2.1)]
      rfl
  · rw [dF c1, cnd_f, obind_s]
    try simp only
    rw [cnd_f, obind_s]
    try simp only
    rw [w, tell_eq, obind_s, if_neg (fun q => c1 q.1)]
    rfl
theorem seekT_eq (N : Nat) {B : Int} (t : TT) (h : Tb B t) (hB : B ≤ 1000000000) : W_tie_seek N t = some (seekM t) := by
  have hv := vain_eq N t h hB
  obtain ⟨id, inc, now, par, pinc, grd, path, ep, born, ask, unt, stp, kids⟩ := t
  obtain ⟨h1, h2, h3, h4, h5, h6, h7, h8, h9, h10⟩ := h
  unfold W_tie_seek V_tie_seek seekM
  try simp only
  by_cases c1 : ask ≠ 0
  · rw [dT c1, cnd_t, if_pos c1]
    by_cases c2 : unt ≤ now
    · rw [dT c2, cnd_t, if_pos c2, hv, obind_s]
      unfold vainM
      try simp only
      rw [obind_s]
      try simp only
      rw [dF (by omega), cnd_f]
      exact seek0_eq N id inc now par pinc grd path ep born unt (stp + 1) kids _ h2.1 (by omega)
    · rw [dF c2, cnd_f, if_neg c2, obind_s]
      try simp only
      rw [dT c1, cnd_t]
  · rw [dF c1, cnd_f, if_neg c1, obind_s]
    try simp only
    rw [dF c1, cnd_f]
    exact seek0_eq N id inc now par pinc grd path ep born unt stp kids _ h2.1 (by omega)
theorem beat_eq (N : Nat) (hN : 2000 ≤ N) {B : Int} (t : TT) (h : Tb B t) (hB : B ≤ 1000000000) : W_tie_beat N t = some (beatM t) := by
  have hf := fresh_eq N t h hB
  have hk := h.kl
  have ht := tellWay_eq N t h hB
  unfold W_tie_beat V_tie_beat beatM
  obtain ⟨o, ho, hol⟩ : ∃ o, (cnd (decide (t.2.2.2.1 ≠ (0 : Int))) (obind (W_tie_tell N (t, (4 : Int), t.2.2.2.1)) fun (b : Ms) => some (t, [b])) (some (t, []))) = some (t, o) ∧ o = (if t.2.2.2.1 ≠ 0 then [sayM t 4 t.2.2.2.1] else []) := by
    by_cases c : t.2.2.2.1 ≠ 0
    · rw [dT c, cnd_t, tell_eq, obind_s, if_pos c]; exact ⟨_, rfl, rfl⟩
    · rw [dF c, cnd_f, if_neg c]; exact ⟨_, rfl, rfl⟩
  rw [ho, obind_s, ← hol]
  try simp only
  rw [hf, obind_s]
  have ho1 : o.length ≤ 1 := by rw [hol]; split <;> simp
  cases hF : freshM t with
  | false => rw [cnd_f, if_neg (by simp), List.append_nil]
  | true =>
    rw [cnd_t, if_pos rfl]
    obtain ⟨K, hK⟩ : ∃ K, t.2.2.2.2.2.2.2.2.2.2.2.2 = K := ⟨_, rfl⟩
    rw [hK] at hk ⊢
    refine loop_G (N := N) (x := (0, t, o)) (fun q => q = some (o ++ K.map fun k => fullM t 5 k.1 0)) (fun k (v : Int × TT × List Ms) => v = (↑k, t, o ++ (K.take k).map fun k => fullM t 5 k.1 0) ∧ k ≤ K.length) K.length (fun r : List Ms => r = o ++ K.map fun k => fullM t 5 k.1 0) ⟨by simp, by omega⟩ (by omega) (fun r h => by rw [h]) (fun k v h => h.2) ?_
    rintro k v ⟨rfl, hk2⟩
    try simp only
    by_cases c : (k : Int) < K.length
    case neg =>
      right
      rw [dF c, cnd_f]
      exact ⟨_, rfl, by rw [List.take_of_length_le (by omega)]⟩
    left
    rw [dT c, cnd_t, dT (by omega), Bool.and_self, cnd_t, Int.toNat_natCast, ht, obind_s]
    refine ⟨_, cnd_T (by simp only [List.length_append, List.length_map, List.length_take, List.length_singleton]; omega), ?_, by omega⟩
    rw [wr_m (by omega) (by omega), List.append_assoc, take_snocK (by omega), List.map_append]
    rfl
theorem Tb.mono {B B' : Int} {t : TT} (h : Tb B t) (hB : B ≤ B') : Tb B' t := by
  obtain ⟨id, inc, now, par, pinc, grd, path, ep, born, ask, unt, stp, kids⟩ := t
  obtain ⟨h1, h2, h3, h4, h5, h6, h7, h8, h9, h10⟩ := h
  exact ⟨h1, by omega, by omega, by omega, by omega, by omega, h7, h8, h9, h10⟩
theorem tick1_def (id inc now par pinc grd : Int) (path : List Int) (ep born ask unt stp : Int) (kids : List Kd) : tick1 (id, inc, now, par, pinc, grd, path, ep, born, ask, unt, stp, kids) = if id = 1 ∧ (now + 1) % 2 = 0 then (id, inc, now + 1, par, pinc, grd, path, ep + 1, now + 1, ask, unt, stp, prK (now + 1) kids)
    else (id, inc, now + 1, par, pinc, grd, path, ep, born, ask, unt, stp, prK (now + 1) kids) := rfl
theorem Tb.t1 {B : Int} {t : TT} (h : Tb B t) : Tb (B + 1) (tick1 t) := by
  obtain ⟨id, inc, now, par, pinc, grd, path, ep, born, ask, unt, stp, kids⟩ := t
  obtain ⟨h1, h2, h3, h4, h5, h6, h7, h8, h9, h10⟩ := h
  rw [tick1_def]
  split
  · exact ⟨h1, by omega, by omega, by omega, by omega, by omega, h7, h8.filter _, h9, h10⟩
  · exact ⟨h1, by omega, by omega, by omega, by omega, by omega, h7, h8.filter _, h9, h10⟩
theorem Tb.off {B : Int} {t : TT} (h : Tb B t) {s : Int} (hs : 0 ≤ s ∧ s ≤ B) : Tb B (letgo t s) := by
  obtain ⟨id, inc, now, par, pinc, grd, path, ep, born, ask, unt, stp, kids⟩ := t
  obtain ⟨h1, h2, h3, h4, h5, h6, h7, h8, h9, h10⟩ := h
  exact ⟨h1, h2, h3, hs, h5, h6, by simp, h8, by omega, h10⟩
theorem Tb.b0 {B : Int} {t : TT} (h : Tb B t) : 0 ≤ B := by
  obtain ⟨id, inc, now, par, pinc, grd, path, ep, born, ask, unt, stp, kids⟩ := t
  obtain ⟨h1, h2, h3, h4, h5, h6, h7, h8, h9, h10⟩ := h
  omega
theorem Tb.t2 {B : Int} {t : TT} (h : Tb B t) : Tb B (tick2 t) := by
  unfold tick2
  split
  · exact h.off ⟨by omega, h.b0⟩
  · exact h
theorem Tb.vain {B : Int} {t : TT} (h : Tb B t) : Tb (B + 1) (vainM t) := by
  obtain ⟨id, inc, now, par, pinc, grd, path, ep, born, ask, unt, stp, kids⟩ := t
  obtain ⟨h1, h2, h3, h4, h5, h6, h7, h8, h9, h10⟩ := h
  exact ⟨h1, by omega, by omega, by omega, by omega, by omega, h7, h8, by omega, h10⟩
theorem Tb.seek {B : Int} {t : TT} (h : Tb B t) : Tb (B + 1) (seekM t).1 ∧ (seekM t).2.length ≤ 1 := by
  obtain ⟨id, inc, now, par, pinc, grd, path, ep, born, ask, unt, stp, kids⟩ := t
  obtain ⟨h1, h2, h3, h4, h5, h6, h7, h8, h9, h10⟩ := h
  unfold seekM
  try simp only
  split
  · split
    · exact ⟨⟨h1, by omega, by omega, by omega, by omega, by omega, h7, h8, by split <;> omega, h10⟩, by simp⟩
    · exact ⟨⟨h1, by omega, by omega, by omega, by omega, by omega, h7, h8, h9, h10⟩, by simp⟩
  · exact ⟨⟨h1, by omega, by omega, by omega, by omega, by omega, h7, h8, by split <;> omega, h10⟩, by simp⟩
theorem Tb.t3 {B : Int} {t : TT} (h : Tb B t) : Tb (B + 1) (tick3 t).1 ∧ (tick3 t).2.length ≤ 1 := by
  unfold tick3
  split
  · exact h.seek
  · exact ⟨h.mono (by omega), by simp⟩
theorem tick1_now (t : TT) : (tick1 t).2.2.1 = t.2.2.1 + 1 := by
  obtain ⟨id, inc, now, par, pinc, grd, path, ep, born, ask, unt, stp, kids⟩ := t
  rw [tick1_def]
  split <;> rfl
theorem beat_len {B : Int} {t : TT} (h : Tb B t) : (beatM t).length ≤ 9 := by
  have := h.kl
  unfold beatM
  rw [List.length_append]
  have a : (if t.2.2.2.1 ≠ 0 then [sayM t 4 t.2.2.2.1] else []).length ≤ 1 := by split <;> simp
  have b : (if freshM t = true then t.2.2.2.2.2.2.2.2.2.2.2.2.map fun k => fullM t 5 k.1 0 else []).length ≤ 8 := by split <;> simp; omega
  omega
theorem Tb.tick {B : Int} {t : TT} (h : Tb B t) : Tb (B + 2) (tickM t).2 := by
  have := (h.t1.t2.t3).1
  rwa [show B + 1 + 1 = B + 2 by omega] at this
theorem tick_eq (N : Nat) (hN : 2000 ≤ N) {B : Int} (t : TT) (h : Tb B t) (hB : B ≤ 1000000) : W_tie_Tick N t = some (tickM t) := by
  have htw := twinT_eq N t h
  have h1 := h.t1
  have h2 := h1.t2
  obtain ⟨h3, h3l⟩ := h2.t3
  have fr := fresh_eq N _ h1 (by omega)
  have sk := seekT_eq N _ h2 (by omega)
  have bt := beat_eq N hN _ h3 (by omega)
  have bl := beat_len h3
  unfold tickM
  try simp only
  have hkl := h.kl
  have hnow := tick1_now t
  have hid : (tick1 t).1 = t.1 ∧ (tick1 t).2.2.2.1 = t.2.2.2.1 := by
    obtain ⟨id, inc, now, par, pinc, grd, path, ep, born, ask, unt, stp, kids⟩ := t
    rw [tick1_def]
    split <;> exact ⟨rfl, rfl⟩
  unfold W_tie_Tick V_tie_Tick
  rw [htw, obind_s]
  have hb : 0 ≤ t.2.2.1 ∧ t.2.2.1 ≤ B ∧ 0 ≤ t.2.2.2.2.2.2.2.1 ∧ t.2.2.2.2.2.2.2.1 ≤ B + 1000 := by
    obtain ⟨id, inc, now, par, pinc, grd, path, ep, born, ask, unt, stp, kids⟩ := t
    obtain ⟨h1, h2, h3, h4, h5, h6, h7, h8, h9, h10⟩ := h
    exact ⟨h2.1, h2.2, h6.1, h6.2⟩
  rw [wr_m (z := t.2.2.1 + 1) (by omega) (by omega), prune_eq N hN _ _ (by omega) (by omega) (by omega), obind_s, wr_m (z := t.2.2.2.2.2.2.2.1 + 1) (by omega) (by omega), tm _ _ (by omega)]
  obtain ⟨z, hz⟩ : ∃ z : TT, z = (0, 0, 0, 0, 0, 0, [], 0, 0, 0, 0, 0, []) := ⟨_, rfl⟩
  have e1 : ∀ {β : Type} (G : TT × TT → Option β), obind (cnd (decide (t.1 = (1 : Int))) (cnd (decide ((t.2.2.1 + 1) % 2 = (0 : Int))) (some (((0 : Int), (0 : Int), (0 : Int), (0 : Int), (0 : Int), (0 : Int), [], (0 : Int), (0 : Int), (0 : Int), (0 : Int), (0 : Int), []), t.1, t.2.1, t.2.2.1 + 1, t.2.2.2.1, t.2.2.2.2.1, t.2.2.2.2.2.1, t.2.2.2.2.2.2.1, t.2.2.2.2.2.2.2.1 + 1, t.2.2.1 + 1, t.2.2.2.2.2.2.2.2.2.1, t.2.2.2.2.2.2.2.2.2.2.1, t.2.2.2.2.2.2.2.2.2.2.2.1, prK (t.2.2.1 + 1) t.2.2.2.2.2.2.2.2.2.2.2.2)) (some (((0 : Int), (0 : Int), (0 : Int), (0 : Int), (0 : Int), (0 : Int), [], (0 : Int), (0 : Int), (0 : Int), (0 : Int), (0 : Int), []), t.1, t.2.1, t.2.2.1 + 1, t.2.2.2.1, t.2.2.2.2.1, t.2.2.2.2.2.1, t.2.2.2.2.2.2.1, t.2.2.2.2.2.2.2.1, t.2.2.2.2.2.2.2.2.1, t.2.2.2.2.2.2.2.2.2.1, t.2.2.2.2.2.2.2.2.2.2.1, t.2.2.2.2.2.2.2.2.2.2.2.1, prK (t.2.2.1 + 1) t.2.2.2.2.2.2.2.2.2.2.2.2))) (some (((0 : Int), (0 : Int), (0 : Int), (0 : Int), (0 : Int), (0 : Int), [], (0 : Int), (0 : Int), (0 : Int), (0 : Int), (0 : Int), []), t.1, t.2.1, t.2.2.1 + 1, t.2.2.2.1, t.2.2.2.2.1, t.2.2.2.2.2.1, t.2.2.2.2.2.2.1, t.2.2.2.2.2.2.2.1, t.2.2.2.2.2.2.2.2.1, t.2.2.2.2.2.2.2.2.2.1, t.2.2.2.2.2.2.2.2.2.2.1, t.2.2.2.2.2.2.2.2.2.2.2.1, prK (t.2.2.1 + 1) t.2.2.2.2.2.2.2.2.2.2.2.2))) G = G (z, tick1 t) := by
    intro β G
    obtain ⟨id, inc, now, par, pinc, grd, path, ep, born, ask, unt, stp, kids⟩ := t
    rw [hz, tick1_def]
    try simp only
    by_cases c1 : id = 1
    · rw [dT c1, cnd_t]
      by_cases c2 : (now + 1) % 2 = 0
      · rw [dT c2, cnd_t, obind_s, if_pos ⟨c1, c2⟩]
      · rw [dF c2, cnd_f, obind_s, if_neg (fun q => c2 q.2)]
    · rw [dF c1, cnd_f, obind_s, if_neg (fun q => c1 q.1)]
  refine (e1 _).trans ?_
  clear e1
  try simp only
  have e2 : ∀ {β : Type} (G : TT × TT → Option β), obind (cnd (decide ((tick1 t).2.2.2.1 ≠ (0 : Int))) (obind (W_tie_Fresh N (tick1 t)) fun (b : Bool) => cnd (!b) (obind (W_tie_letGo N (tick1 t, (0 : Int))) fun (b : TT) => some (z, b)) (some (z, tick1 t))) (some (z, tick1 t))) G = G (z, tick2 (tick1 t)) := by
    intro β G
    unfold tick2
    by_cases c1 : (tick1 t).2.2.2.1 ≠ 0
    · rw [dT c1, cnd_t, fr, obind_s]
      cases hf : freshM (tick1 t) with
      | true => rw [Bool.not_true, cnd_f, obind_s, if_neg (by simp)]
      | false => rw [Bool.not_false, cnd_t, letGo_eq, obind_s, obind_s, if_pos ⟨c1, rfl⟩]
    · rw [dF c1, cnd_f, obind_s, if_neg (fun q => c1 q.1)]
  refine (e2 _).trans ?_
  clear e2
  try simp only
  have e3 : ∀ {β : Type} (G : TT × TT × List Ms → Option β), obind (cnd (decide ((tick2 (tick1 t)).2.2.2.1 = (0 : Int))) (cnd (decide ((tick2 (tick1 t)).1 ≠ (1 : Int))) (obind (W_tie_seek N (tick2 (tick1 t))) fun (b : TT × List Ms) => some (z, b)) (some (z, tick2 (tick1 t), []))) (some (z, tick2 (tick1 t), []))) G = G (z, tick3 (tick2 (tick1 t))) := by
    intro β G
    unfold tick3
    by_cases c1 : (tick2 (tick1 t)).2.2.2.1 = 0
    · rw [dT c1, cnd_t]
      by_cases c2 : (tick2 (tick1 t)).1 ≠ 1
      · rw [dT c2, cnd_t, sk, obind_s, obind_s, if_pos ⟨c1, c2⟩]
      · rw [dF c2, cnd_f, obind_s, if_neg (fun q => c2 q.2)]
    · rw [dF c1, cnd_f, obind_s, if_neg (fun q => c1 q.1)]
  refine (e3 _).trans ?_
  clear e3
  try simp only
  generalize tick3 (tick2 (tick1 t)) = a at *
  by_cases c : (t.2.2.1 + 1) % 2 = 0
  · rw [dT c, cnd_t, if_pos c, bt, obind_s, cnd_T (by omega)]
  · rw [dF c, cnd_f, if_neg c]
/-! What comes. -/
def grandM (p : List Int) : Int := if (p.length : Int) < 2 then 0 else p.getD (p.length - 2) 0
def grdM (p : List Int) : Int := if grandM p = 0 then 1 else grandM p
def isUp (t : TT) (m : Ms) : Prop := t.2.2.2.1 ≠ 0 ∧ m.2.1 = t.2.2.2.1
def isAsk (t : TT) (m : Ms) : Prop := t.2.2.2.2.2.2.2.2.2.1 ≠ 0 ∧ m.2.1 = t.2.2.2.2.2.2.2.2.2.1
instance (t : TT) (m : Ms) : Decidable (isUp t m) := by unfold isUp; infer_instance
instance (t : TT) (m : Ms) : Decidable (isAsk t m) := by unfold isAsk; infer_instance
def withK : TT → List Kd → TT
  | (id, inc, now, par, pinc, grd, path, ep, born, ask, unt, stp, _), kids => (id, inc, now, par, pinc, grd, path, ep, born, ask, unt, stp, kids)
def hearM (l : List Kd) (k : Kd) : List Kd := if oldK l k.1 k.2.1 = true then l else putK k l
def mostM (t : TT) : Int := if t.1 = 1 then 8 else 3
def attachM (t : TT) (m : Ms) (lo : Int) : List Ms × TT :=
  if freshM t = false ∨ m.2.1 ∈ t.2.2.2.2.2.2.1 ∨ ((findK t.2.2.2.2.2.2.2.2.2.2.2.2 m.2.1).1 = false ∧ mostM t ≤ (t.2.2.2.2.2.2.2.2.2.2.2.2.length : Int)) then ([sayM t 3 m.2.1], t)
  else ([fullM t 2 m.2.1 lo], withK t (hearM t.2.2.2.2.2.2.2.2.2.2.2.2 (m.2.1, m.2.2.2.1, t.2.2.1)))
open Classical in
noncomputable def acceptM (t : TT) (m : Ms) : List Ms × TT :=
  if isUp t m then ([], t) else if isAsk t m ∧ t.2.2.2.1 = 0 then
    if VP (m.2.2.2.2.2.2.1 ++ [t.1]) ∧ m.2.2.2.2.2.1 ≤ 20 then
      ([], (t.1, t.2.1, t.2.2.1, m.2.1, m.2.2.2.1, grdM m.2.2.2.2.2.2.1, m.2.2.2.2.2.2.1 ++ [t.1], m.2.2.2.2.1, t.2.2.1 - m.2.2.2.2.2.1, 0, t.2.2.2.2.2.2.2.2.2.2.1, 0, t.2.2.2.2.2.2.2.2.2.2.2.2))
    else ([sayM t 6 m.2.1], vainM t)
  else ([sayM t 6 m.2.1], t)
def refuseM (t : TT) (m : Ms) : TT := if isUp t m then letgo t 0 else if isAsk t m then vainM t else t
def beatUpM (t : TT) (m : Ms) : List Ms × TT :=
  if (findK t.2.2.2.2.2.2.2.2.2.2.2.2 m.2.1).1 = false then ([sayM t 3 m.2.1], t) else ([], withK t (hearM t.2.2.2.2.2.2.2.2.2.2.2.2 (m.2.1, m.2.2.2.1, t.2.2.1)))
open Classical in
noncomputable def beatDnM (t : TT) (m : Ms) : List Ms × TT :=
  if isUp t m then
    if VP (m.2.2.2.2.2.2.1 ++ [t.1]) then
      ([], (t.1, t.2.1, t.2.2.1, t.2.2.2.1, t.2.2.2.2.1, grdM m.2.2.2.2.2.2.1, m.2.2.2.2.2.2.1 ++ [t.1], if t.2.2.2.2.2.2.2.2.1 < t.2.2.1 - m.2.2.2.2.2.1 then m.2.2.2.2.1 else t.2.2.2.2.2.2.2.1, if t.2.2.2.2.2.2.2.2.1 < t.2.2.1 - m.2.2.2.2.2.1 then t.2.2.1 - m.2.2.2.2.2.1 else t.2.2.2.2.2.2.2.2.1, t.2.2.2.2.2.2.2.2.2))
    else ([sayM t 6 m.2.1], letgo t 1)
  else ([sayM t 6 m.2.1], t)
noncomputable def dispM (t : TT) (m : Ms) (lo : Int) : List Ms × TT :=
  if m.1 = 1 then attachM t m lo else if m.1 = 2 then acceptM t m else if m.1 = 3 then ([], refuseM t m) else if m.1 = 4 then beatUpM t m else if m.1 = 5 then beatDnM t m
  else if m.1 = 6 then ([], withK t (t.2.2.2.2.2.2.2.2.2.2.2.2.filter fun k => !decide (k.1 = m.2.1))) else ([], t)
noncomputable def comesT (t : TT) (m : Ms) (lo : Int) : List Ms × TT :=
  if oldK t.2.2.2.2.2.2.2.2.2.2.2.2 m.2.1 m.2.2.2.1 = true then ([], t) else
  if isUp t m then (if m.2.2.2.1 < t.2.2.2.2.1 then ([], t) else dispM (if t.2.2.2.2.1 < m.2.2.2.1 then letgo t 0 else t) m lo) else dispM t m lo
/-- Bounds of a message. -/
structure Mb (m : Ms) : Prop where
  fr : 1 ≤ m.2.1 ∧ m.2.1 ≤ 8
  age : 0 ≤ m.2.2.2.2.2.1 ∧ m.2.2.2.2.2.1 ≤ 1000
  ep : 0 ≤ m.2.2.2.2.1 ∧ m.2.2.2.2.1 ≤ 1000
  pl : m.2.2.2.2.2.2.1.length ≤ 1000
theorem Tb.hear {B : Int} {t : TT} (h : Tb B t) (N : Nat) (hN : 2000 ≤ N) (a b c : Int) : ∃ q, W_kids_Hear N (t.2.2.2.2.2.2.2.2.2.2.2.2, a, b, c) = some (hearM t.2.2.2.2.2.2.2.2.2.2.2.2 (a, b, c), q) := by
  have hk := h.kl
  obtain ⟨id, inc, now, par, pinc, grd, path, ep, born, ask, unt, stp, kids⟩ := t
  obtain ⟨h1, h2, h3, h4, h5, h6, h7, h8, h9, h10⟩ := h
  have := hear_eq N hN kids 1 (a, b, c) h8 (by simp only at hk; omega)
  simp only at this ⊢
  rw [this]
  unfold hearM
  split
  · exact ⟨_, rfl⟩
  · exact ⟨_, rfl⟩
theorem Tb.pl {B : Int} {t : TT} (h : Tb B t) : t.2.2.2.2.2.2.1.length ≤ 10 := by
  obtain ⟨id, inc, now, par, pinc, grd, path, ep, born, ask, unt, stp, kids⟩ := t
  obtain ⟨h1, h2, h3, h4, h5, h6, h7, h8, h9, h10⟩ := h
  exact h7
theorem Tb.wk {B : Int} {t : TT} (h : Tb B t) {l : List Kd} (hl : Kw 1 l) : Tb B (withK t l) := by
  obtain ⟨id, inc, now, par, pinc, grd, path, ep, born, ask, unt, stp, kids⟩ := t
  obtain ⟨h1, h2, h3, h4, h5, h6, h7, h8, h9, h10⟩ := h
  exact ⟨h1, h2, h3, h4, h5, h6, h7, hl, h9, h10⟩
theorem Tb.kw {B : Int} {t : TT} (h : Tb B t) : Kw 1 t.2.2.2.2.2.2.2.2.2.2.2.2 := by
  obtain ⟨id, inc, now, par, pinc, grd, path, ep, born, ask, unt, stp, kids⟩ := t
  obtain ⟨h1, h2, h3, h4, h5, h6, h7, h8, h9, h10⟩ := h
  exact h8
theorem Kw.hear {l : List Kd} (h : Kw 1 l) {k : Kd} (h1 : 1 ≤ k.1) (h2 : k.1 ≤ 8) : Kw 1 (hearM l k) := by
  unfold hearM
  split
  · exact h
  · exact h.put h1 h2
theorem withK_eq (t : TT) (l : List Kd) : (t.1, t.2.1, t.2.2.1, t.2.2.2.1, t.2.2.2.2.1, t.2.2.2.2.2.1, t.2.2.2.2.2.2.1, t.2.2.2.2.2.2.2.1, t.2.2.2.2.2.2.2.2.1, t.2.2.2.2.2.2.2.2.2.1, t.2.2.2.2.2.2.2.2.2.2.1, t.2.2.2.2.2.2.2.2.2.2.2.1, l) = withK t l := by
  obtain ⟨id, inc, now, par, pinc, grd, path, ep, born, ask, unt, stp, kids⟩ := t
  rfl
theorem VP_rng {p : List Int} (h : VP p) : ∀ x ∈ p, 1 ≤ x ∧ x ≤ 8 := by
  intro x hx
  obtain ⟨j, hj, rfl⟩ := mem_getD hx
  exact ⟨(h.2.2.2 j hj).1, (h.2.2.2 j hj).2.1⟩
theorem grdM_rng {p : List Int} (h : ∀ x ∈ p, 1 ≤ x ∧ x ≤ 8) : 0 ≤ grdM p ∧ grdM p ≤ 8 := by
  have hg : 0 ≤ grandM p ∧ grandM p ≤ 8 := by
    unfold grandM
    split
    · omega
    · have := h _ (getD_mem (l := p) (j := p.length - 2) (by omega)); omega
  unfold grdM
  split <;> omega
theorem Tb.disp {B : Int} {t : TT} (h : Tb B t) (m : Ms) (hm : Mb m) (lo : Int) (h1B : 1 ≤ B) : Tb (B + 1) (dispM t m lo).2 := by
  have hmo := h.mono (B' := B + 1) (by omega)
  have hk : Tb (B + 1) (withK t (hearM t.2.2.2.2.2.2.2.2.2.2.2.2 (m.2.1, m.2.2.2.1, t.2.2.1))) := hmo.wk (h.kw.hear (k := (m.2.1, m.2.2.2.1, t.2.2.1)) hm.fr.1 hm.fr.2)
  unfold dispM
  split
  · unfold attachM
    split
    · exact hmo
    · exact hk
  split
  · unfold acceptM
    split
    · exact hmo
    split
    · split
      · rename_i q
        have hr := VP_rng q.1
        have hg := grdM_rng (p := m.2.2.2.2.2.2.1) (fun x hx => hr x (List.mem_append_left _ hx))
        have hl := q.1.2.1
        have ha := hm.age; have he := hm.ep
        obtain ⟨id, inc, now, par, pinc, grd, path, ep, born, ask, unt, stp, kids⟩ := t
        obtain ⟨h1, h2, h3, h4, h5, h6, h7, h8, h9, h10⟩ := h
        exact ⟨h1, by (try simp only); omega, by (try simp only); omega, by (try simp only); omega, by (try simp only); omega, by (try simp only); omega, hl, h8, by (try simp only); omega, hg⟩
      · exact h.vain
    · exact hmo
  split
  · unfold refuseM
    try simp only
    split
    · exact hmo.off ⟨by omega, by omega⟩
    · split
      · exact h.vain
      · exact hmo
  split
  · unfold beatUpM
    split
    · exact hmo
    · exact hk
  split
  · unfold beatDnM
    split
    · split
      · rename_i q
        have hr := VP_rng q
        have hg := grdM_rng (p := m.2.2.2.2.2.2.1) (fun x hx => hr x (List.mem_append_left _ hx))
        have hl := q.2.1
        have ha := hm.age; have he := hm.ep
        obtain ⟨id, inc, now, par, pinc, grd, path, ep, born, ask, unt, stp, kids⟩ := t
        obtain ⟨h1, h2, h3, h4, h5, h6, h7, h8, h9, h10⟩ := h
        refine ⟨h1, by (try simp only); omega, ?_, by (try simp only); omega, by (try simp only); omega, ?_, hl, h8, h9, hg⟩
        · simp only; split <;> omega
        · simp only; split <;> omega
      · exact hmo.off ⟨by omega, by omega⟩
    · exact hmo
  split
  · exact hmo.wk (h.kw.filter _)
  · exact hmo
theorem Tb.comes {B : Int} {t : TT} (h : Tb B t) (m : Ms) (hm : Mb m) (lo : Int) (h1B : 1 ≤ B) : Tb (B + 1) (comesT t m lo).2 := by
  have hmo := h.mono (B' := B + 1) (by omega)
  unfold comesT
  split
  · exact hmo
  split
  · split
    · exact hmo
    · split
      · exact (h.off (s := 0) ⟨by omega, by omega⟩).disp m hm lo h1B
      · exact h.disp m hm lo h1B
  · exact h.disp m hm lo h1B
theorem tick_len {B : Int} {t : TT} (h : Tb B t) : (tickM t).1.length ≤ 10 := by
  obtain ⟨a, b⟩ := h.t1.t2.t3
  have c := beat_len a
  unfold tickM
  try simp only
  split
  · rw [List.length_append]; omega
  · omega
theorem Mb.of {m : Ms} (h : MayP m) (hs : Sh m) : Mb m := by
  have e := h.2.2.2.2.2.1
  refine ⟨h.2.1, ⟨hs.a.1, by have := hs.a.2; omega⟩, ⟨hs.e.1, by have := hs.e.2; omega⟩, ?_⟩
  have hf := h.2.2.2.2.2.2
  unfold Fits at hf
  by_cases c : m.1 = 2 ∨ m.1 = 5
  · rw [if_pos c] at hf
    have := hf.2.2.1.2.1; omega
  · have hp : m.2.2.2.2.2.2.1 = [] := by
      rw [e]
      obtain ⟨k, f, t, i, e, a, p, lo, hi, s⟩ := m
      unfold ownF
      simp only at c ⊢
      split
      · rename_i q; exact absurd (.inl q) c
      · split
        · rename_i q; exact absurd (.inr q) c
        · split
          · rfl
          · split <;> rfl
    rw [hp]; simp
theorem Over_eq (N : Nat) (l : List Int) (n : Int) : W_Picks_Over N (l, n) = some (decide ((l.length : Int) ≤ n), l, n) := rfl
open Classical in
theorem putK_le (k : Kd) : ∀ (l : List Kd), (putK k l).length ≤ l.length + 1
  | [] => by simp [putK]
  | w :: r => by
    have := putK_le k r
    simp only [putK]
    split
    · simp
    · split
      · simp
      · simp only [List.length_cons]; omega
theorem putK_same : ∀ (l : List Kd) (n : Int) (k : Kd), Kw n l → (findK l k.1).1 = true → (putK k l).length = l.length
  | [], _, _, _, h => by simp [findK] at h
  | w :: r, n, k, hw, h => by
    simp only [findK] at h
    simp only [putK]
    by_cases c : w.1 = k.1
    · rw [if_pos c]; rfl
    · rw [if_neg c] at h ⊢
      by_cases c2 : k.1 < w.1
      · rw [findK_none hw.2.2 k.1 (by omega)] at h; cases h
      · rw [if_neg c2, List.length_cons, putK_same r _ k hw.2.2 h]; rfl
/-- A tie of number id, and what holds of it. -/
structure Tw (id B : Int) (t : TT) : Prop where
  b : Tb B t
  i : t.1 = id
  c : t.2.1 = 2
  p : (0 ≤ t.2.2.2.1 ∧ t.2.2.2.1 ≤ 8) ∧ t.2.2.2.1 ≠ id
  r : id = 1 → t.2.2.2.1 = 0 ∧ t.2.2.2.2.2.2.2.2.2.1 = 0
  v : (t.2.2.2.1 ≠ 0 ∨ id = 1) → VP t.2.2.2.2.2.2.1 ∧ t.2.2.2.2.2.2.1.getD (t.2.2.2.2.2.2.1.length - 1) 0 = id
  e : t.2.2.2.1 = 0 → id ≠ 1 → t.2.2.2.2.2.2.1 = []
  a : t.2.2.2.2.2.2.2.2.1 ≤ t.2.2.1
  k : ∀ k ∈ t.2.2.2.2.2.2.2.2.2.2.2.2, k.1 ≠ id ∧ (1 ≤ k.2.1 ∧ k.2.1 ≤ 1073741824) ∧ 0 ≤ k.2.2 ∧ k.2.2 ≤ B
  m : (t.2.2.2.2.2.2.2.2.2.2.2.2.length : Int) ≤ if id = 1 then 8 else 3
theorem Tw.mono {id B B' : Int} {t : TT} (h : Tw id B t) (hB : B ≤ B') : Tw id B' t :=
  ⟨h.b.mono hB, h.i, h.c, h.p, h.r, h.v, h.e, h.a, fun k hk => by have := h.k k hk; exact ⟨this.1, this.2.1, this.2.2.1, by omega⟩, h.m⟩
theorem Tw.t1 {id B : Int} {t : TT} (h : Tw id B t) : Tw id (B + 1) (tick1 t) ∧ (tick1 t).2.2.2.2.2.2.1 = t.2.2.2.2.2.2.1 := by
  have hb := h.b.t1
  obtain ⟨xid, inc, now, par, pinc, grd, path, ep, born, ask, unt, stp, kids⟩ := t
  obtain ⟨h0, h1, h2, h3, h4, h5, h6, h7, h8, h9⟩ := h
  rw [tick1_def] at hb ⊢
  have hk : ∀ k ∈ prK (now + 1) kids, k.1 ≠ id ∧ (1 ≤ k.2.1 ∧ k.2.1 ≤ 1073741824) ∧ 0 ≤ k.2.2 ∧ k.2.2 ≤ B + 1 := fun k hk => by
    have := h8 k (List.mem_filter.1 hk).1
    exact ⟨this.1, this.2.1, this.2.2.1, by omega⟩
  have hl : ((prK (now + 1) kids).length : Int) ≤ if id = 1 then 8 else 3 := by
    have := List.length_filter_le (fun k : Kd => !decide (k.2.2 < now + 1 - 20)) kids
    unfold prK
    simp only at h9
    omega
  simp only at h1 h2 h3 h4 h5 h6 h7
  split
  · rename_i q
    rw [if_pos q] at hb
    exact ⟨⟨hb, h1, h2, h3, h4, h5, h6, by simp only; omega, hk, hl⟩, rfl⟩
  · rename_i q
    rw [if_neg q] at hb
    exact ⟨⟨hb, h1, h2, h3, h4, h5, h6, by simp only; omega, hk, hl⟩, rfl⟩
theorem Tw.off {id B : Int} {t : TT} (h : Tw id B t) {s : Int} (hs : 0 ≤ s ∧ s ≤ B) (hi : id ≠ 1) (h1 : 1 ≤ id) : Tw id B (letgo t s) := by
  have hb := h.b.off hs
  obtain ⟨xid, inc, now, par, pinc, grd, path, ep, born, ask, unt, stp, kids⟩ := t
  obtain ⟨h0, h1', h2, h3, h4, h5, h6, h7, h8, h9⟩ := h
  exact ⟨hb, h1', h2, ⟨by simp [letgo], by simp only [letgo]; omega⟩, fun q => absurd q hi, fun q => by
    rcases q with q | q
    · exact absurd rfl q
    · exact absurd q hi, fun _ _ => rfl, h7, h8, h9⟩
theorem Tw.id1 {id B : Int} {t : TT} (h : Tw id B t) : 1 ≤ id ∧ id ≤ 8 := by
  have hi := h.i
  have hb := h.b
  obtain ⟨xid, inc, now, par, pinc, grd, path, ep, born, ask, unt, stp, kids⟩ := t
  have := hb.1
  simp only at hi
  omega
theorem Tw.t2 {id B : Int} {t : TT} (h : Tw id B t) : Tw id B (tick2 t) := by
  unfold tick2
  split
  · rename_i q
    exact h.off ⟨by omega, h.b.b0⟩ (fun e => q.1 (h.r e).1) h.id1.1
  · exact h
/-- What a message that is told holds. -/
def Wm (id : Int) (was : TT) (x : Ms) : Prop := MayP x ∧ x.2.1 = id ∧ x.2.2.2.1 = 2 ∧ (x.1 = 2 → x.2.2.1 ∉ was.2.2.2.2.2.2.1 ∧ freshM was = true ∧ x.2.2.1 ∉ x.2.2.2.2.2.2.1)
theorem may_say {id to k : Int} (h1 : 1 ≤ id ∧ id ≤ 8) (h2 : 1 ≤ to ∧ to ≤ 8) (h3 : to ≠ id) (hk : k = 1 ∨ k = 3 ∨ k = 4 ∨ k = 6) : MayP (k, id, to, 2, 0, 0, [], 0, 0, []) := by
  refine ⟨by simp only; omega, h1, h2, fun q => h3 q.symm, by simp, ?_, ?_⟩
  · unfold ownF
    try simp only
    rw [if_neg (by omega), if_neg (by omega), if_neg (by omega), if_neg (by omega)]
  · unfold Fits
    try simp only
    rw [if_neg (by omega), if_neg (by omega), if_neg (by omega)]
    trivial
theorem Tw.say {id B : Int} {t was : TT} (h : Tw id B t) (to k : Int) (h2 : 1 ≤ to ∧ to ≤ 8) (h3 : to ≠ id) (hk : k = 1 ∨ k = 3 ∨ k = 4 ∨ k = 6) : Wm id was (sayM t k to) := by
  have h1 := h.id1; have hi := h.i; have hc := h.c
  obtain ⟨xid, inc, now, par, pinc, grd, path, ep, born, ask, unt, stp, kids⟩ := t
  simp only at hi hc
  subst hi hc
  exact ⟨may_say h1 h2 h3 hk, rfl, rfl, fun q => by simp only [sayM] at q; omega⟩
theorem Tw.full {id B : Int} {t was : TT} (h : Tw id B t) (hB : B ≤ 1000000) (to k lo : Int) (h2 : 1 ≤ to ∧ to ≤ 8) (h3 : to ≠ id) (hk : k = 5 ∧ lo = 0 ∨ k = 2 ∧ 0 ≤ lo ∧ lo ≤ 1000000) (hf : freshM t = true) (hp : k = 2 → to ∉ was.2.2.2.2.2.2.1 ∧ freshM was = true ∧ to ∉ t.2.2.2.2.2.2.1) : Wm id was (fullM t k to lo) := by
  have h1 := h.id1; have hi := h.i; have hc := h.c
  have hv := h.v
  have ha := h.a
  have hb := h.b
  obtain ⟨xid, inc, now, par, pinc, grd, path, ep, born, ask, unt, stp, kids⟩ := t
  obtain ⟨b1, b2, b3, b4, b5, b6, b7, b8, b9, b10⟩ := hb
  simp only at hi hc hv ha hp
  subst hi hc
  have hvp : VP path := by
    refine (hv ?_).1
    unfold freshM at hf
    by_cases c : xid = 1
    · exact .inr c
    · simp only [if_neg c] at hf
      by_cases c2 : par ≠ 0
      · exact .inl c2
      · rw [if_neg c2] at hf; cases hf
  refine ⟨⟨by simp only [fullM]; omega, h1, h2, fun q => h3 q.symm, by simp [fullM], ?_, ?_⟩, rfl, rfl, fun q => hp q⟩
  · unfold ownF fullM
    try simp only
    rcases hk with ⟨rfl, rfl⟩ | ⟨rfl, _⟩
    · rfl
    · rfl
  · unfold Fits fullM
    try simp only
    rw [if_pos (by omega)]
    exact ⟨by omega, by omega, hvp, by omega, by omega⟩
theorem Tw.beat {id B : Int} {t was : TT} (h : Tw id B t) (hB : B ≤ 1000000) : ∀ x ∈ beatM t, Wm id was x := by
  intro x hx
  have hp := h.p
  have hk := h.k
  have hkw := h.b.kw
  unfold beatM at hx
  rcases List.mem_append.1 hx with hx | hx
  · split at hx
    · rename_i q
      rw [List.mem_singleton.1 hx]
      exact h.say _ 4 ⟨by omega, hp.1.2⟩ hp.2 (by omega)
    · simp at hx
  · split at hx
    · rename_i q
      obtain ⟨k, hk2, rfl⟩ := List.mem_map.1 hx
      have := hkw.mem k hk2
      exact h.full hB k.1 5 0 this (hk k hk2).1 (.inl ⟨rfl, rfl⟩) q (fun q => by omega)
    · simp at hx
theorem Tw.t3 {id B : Int} {t was : TT} (h : Tw id B t) : Tw id (B + 1) (tick3 t).1 ∧ ∀ x ∈ (tick3 t).2, Wm id was x := by
  have hb := h.b.t3.1
  unfold tick3 at hb ⊢
  split
  · rename_i q
    rw [if_pos q] at hb
    have hi1 := h.id1; have hi := h.i; have hc := h.c
    have hq2 := q.2
    have hm := h.mono (B' := B + 1) (by omega)
    obtain ⟨xid, inc, now, par, pinc, grd, path, ep, born, ask, unt, stp, kids⟩ := t
    obtain ⟨h0, h1', h2, h3, h4, h5, h6, h7, h8, h9⟩ := hm
    obtain ⟨b1, b2, b3, b4, b5, b6, b7, b8, b9, b10⟩ := h.b
    simp only at hi hc hq2
    subst hi hc
    have key : ∀ s : Int, 1 ≤ (if s = 0 ∧ grd ≠ 0 ∧ grd ≠ xid then grd else 1) ∧ (if s = 0 ∧ grd ≠ 0 ∧ grd ≠ xid then grd else (1 : Int)) ≤ 8 ∧ (if s = 0 ∧ grd ≠ 0 ∧ grd ≠ xid then grd else 1) ≠ xid := by
      intro s
      split <;> omega
    have msg : ∀ s : Int, Wm xid was (1, xid, if s = 0 ∧ grd ≠ 0 ∧ grd ≠ xid then grd else 1, 2, 0, 0, [], 0, 0, []) := fun s => ⟨may_say hi1 ⟨(key s).1, (key s).2.1⟩ (key s).2.2 (.inl rfl), rfl, rfl, fun q => by simp only at q; omega⟩
    unfold seekM at hb ⊢
    simp only at hb ⊢
    split
    · rename_i c1
      rw [if_pos c1] at hb
      split
      · rename_i c2
        rw [if_pos c2] at hb
        exact ⟨⟨hb, h1', h2, h3, fun q => absurd q hq2, h5, h6, h7, h8, h9⟩, fun x hx => by rw [List.mem_singleton.1 hx]; exact msg _⟩
      · rename_i c2
        rw [if_neg c2] at hb
        exact ⟨⟨hb, h1', h2, h3, h4, h5, h6, h7, h8, h9⟩, fun x hx => by simp at hx⟩
    · rename_i c1
      rw [if_neg c1] at hb
      exact ⟨⟨hb, h1', h2, h3, fun q => absurd q hq2, h5, h6, h7, h8, h9⟩, fun x hx => by rw [List.mem_singleton.1 hx]; exact msg _⟩
  · exact ⟨h.mono (by omega), fun x hx => by simp at hx⟩
theorem Tw.tick {id B : Int} {t was : TT} (h : Tw id B t) (hB : B ≤ 900000) : Tw id (B + 2) (tickM t).2 ∧ ∀ x ∈ (tickM t).1, Wm id was x := by
  obtain ⟨a, b⟩ := (h.t1.1.t2).t3 (was := was)
  rw [show B + 1 + 1 = B + 2 by omega] at a
  have c := a.beat (was := was) (by omega)
  unfold tickM
  try simp only
  refine ⟨a, fun x hx => ?_⟩
  split at hx
  · rcases List.mem_append.1 hx with hx | hx
    · exact b x hx
    · exact c x hx
  · exact b x hx
theorem Tw.hear {id B : Int} {t : TT} (h : Tw id B t) (m : Ms) (hm : Mb m) (hi : m.2.1 ≠ id) (hc : 1 ≤ m.2.2.2.1 ∧ m.2.2.2.1 ≤ 1073741824) (hl : (findK t.2.2.2.2.2.2.2.2.2.2.2.2 m.2.1).1 = true ∨ (t.2.2.2.2.2.2.2.2.2.2.2.2.length : Int) < mostM t) : Tw id B (withK t (hearM t.2.2.2.2.2.2.2.2.2.2.2.2 (m.2.1, m.2.2.2.1, t.2.2.1))) := by
  have hkw := h.b.kw.hear (k := (m.2.1, m.2.2.2.1, t.2.2.1)) hm.fr.1 hm.fr.2
  have hb := h.b.wk hkw
  have hkw0 := h.b.kw
  have hb0 := h.b
  obtain ⟨xid, inc, now, par, pinc, grd, path, ep, born, ask, unt, stp, kids⟩ := t
  obtain ⟨b1, b2, b3, b4, b5, b6, b7, b8, b9, b10⟩ := hb0
  obtain ⟨h0, h1', h2, h3, h4, h5, h6, h7, h8, h9⟩ := h
  simp only at hl hkw0
  have hmem : ∀ k ∈ hearM kids (m.2.1, m.2.2.2.1, now), k.1 ≠ id ∧ (1 ≤ k.2.1 ∧ k.2.1 ≤ 1073741824) ∧ 0 ≤ k.2.2 ∧ k.2.2 ≤ B := by
    intro k hk
    unfold hearM at hk
    split at hk
    · exact h8 k hk
    · rcases putK_mem _ _ _ hk with rfl | hk
      · exact ⟨hi, hc, b2⟩
      · exact h8 k hk
  have hlen : ((hearM kids (m.2.1, m.2.2.2.1, now)).length : Int) ≤ if id = 1 then 8 else 3 := by
    simp only at h9 h1'
    unfold hearM
    split
    · exact h9
    · rcases hl with hl | hl
      · rw [putK_same kids 1 _ hkw0 hl]; exact h9
      · have hle := putK_le (m.2.1, m.2.2.2.1, now) kids
        have : mostM (xid, inc, now, par, pinc, grd, path, ep, born, ask, unt, stp, kids) = if id = 1 then 8 else 3 := by
          unfold mostM
          rw [← h1']
        rw [this] at hl
        omega
  exact ⟨hb, h1', h2, h3, h4, h5, h6, h7, hmem, hlen⟩
theorem Tw.vain {id B : Int} {t : TT} (h : Tw id B t) : Tw id (B + 1) (vainM t) := by
  have hb := h.b.vain
  have hm := h.mono (B' := B + 1) (by omega)
  obtain ⟨xid, inc, now, par, pinc, grd, path, ep, born, ask, unt, stp, kids⟩ := t
  obtain ⟨h0, h1', h2, h3, h4, h5, h6, h7, h8, h9⟩ := hm
  exact ⟨hb, h1', h2, h3, fun q => ⟨(h4 q).1, rfl⟩, h5, h6, h7, h8, h9⟩
theorem last_snoc (p : List Int) (x : Int) : (p ++ [x]).getD ((p ++ [x]).length - 1) 0 = x := by
  rw [List.length_append, List.length_singleton, Nat.add_sub_cancel, List.getD_eq_getElem?_getD, List.getElem?_append_right (Nat.le_refl _)]
  simp
theorem Tw.disp {id B : Int} {t was : TT} (h : Tw id B t) (hB : B ≤ 900000) (h1B : 1 ≤ B) (m : Ms) (hm : Mb m) (hi : m.2.1 ≠ id) (hc : 1 ≤ m.2.2.2.1 ∧ m.2.2.2.1 ≤ 1073741824) (lo : Int) (hlo : 0 ≤ lo ∧ lo ≤ 1000000) (hw : freshM t = true → t = was) :
    Tw id (B + 1) (dispM t m lo).2 ∧ ∀ x ∈ (dispM t m lo).1, Wm id was x := by
  have hmo := h.mono (B' := B + 1) (by omega)
  have hid := h.id1
  have hfr := hm.fr
  have no : ∀ k, k = 3 ∨ k = 6 → ∀ x ∈ [sayM t k m.2.1], Wm id was x := fun k hk x hx => by
    rw [List.mem_singleton.1 hx]
    exact h.say m.2.1 k hfr hi (by omega)
  have hbd := h.b.disp m hm lo h1B
  unfold dispM at hbd ⊢
  split
  · unfold attachM
    split
    · exact ⟨hmo, no 3 (.inl rfl)⟩
    · rename_i q
      have q1 : freshM t = true := by cases hF : freshM t with | true => rfl | false => exact absurd (.inl hF) q
      have q2 : m.2.1 ∉ t.2.2.2.2.2.2.1 := fun e => q (.inr (.inl e))
      have q3 : (findK t.2.2.2.2.2.2.2.2.2.2.2.2 m.2.1).1 = true ∨ (t.2.2.2.2.2.2.2.2.2.2.2.2.length : Int) < mostM t := by
        cases hF : (findK t.2.2.2.2.2.2.2.2.2.2.2.2 m.2.1).1 with
        | true => exact .inl rfl
        | false =>
          right
          apply Classical.byContradiction
          intro e
          exact q (.inr (.inr ⟨hF, by omega⟩))
      refine ⟨hmo.hear m hm hi hc q3, fun x hx => ?_⟩
      rw [List.mem_singleton.1 hx]
      exact h.full (by omega) m.2.1 2 lo hfr hi (.inr ⟨rfl, hlo⟩) q1 (fun _ => ⟨by rw [← hw q1]; exact q2, by rw [← hw q1]; exact q1, q2⟩)
  rename_i nk1
  rw [if_neg nk1] at hbd
  split
  · rename_i k2
    rw [if_pos k2] at hbd
    unfold acceptM at hbd ⊢
    split
    · exact ⟨hmo, fun x hx => by simp at hx⟩
    rename_i u
    rw [if_neg u] at hbd
    split
    · rename_i q
      rw [if_pos q] at hbd
      split
      · rename_i q2
        rw [if_pos q2] at hbd
        have hne : id ≠ 1 := fun e => q.1.1 (h.r e).2
        have hi' := h.i
        have ha := hm.age
        refine ⟨⟨hbd, h.i, h.c, ⟨⟨by simp only; omega, hfr.2⟩, hi⟩, fun e => absurd e hne, fun _ => ⟨q2.1, by simp only; rw [last_snoc]; exact hi'⟩, fun e => by simp only at e; omega, by simp only; omega, hmo.k, h.m⟩, fun x hx => by simp at hx⟩
      · exact ⟨h.vain, no 6 (.inr rfl)⟩
    · exact ⟨hmo, no 6 (.inr rfl)⟩
  rename_i nk2
  rw [if_neg nk2] at hbd
  split
  · refine ⟨?_, fun x hx => by simp at hx⟩
    unfold refuseM
    try simp only
    split
    · rename_i u
      exact hmo.off ⟨by omega, by omega⟩ (fun e => u.1 (h.r e).1) hid.1
    · split
      · exact h.vain
      · exact hmo
  split
  · unfold beatUpM
    split
    · exact ⟨hmo, no 3 (.inl rfl)⟩
    · rename_i q
      have q3 : (findK t.2.2.2.2.2.2.2.2.2.2.2.2 m.2.1).1 = true := by
        cases hF : (findK t.2.2.2.2.2.2.2.2.2.2.2.2 m.2.1).1 with
        | true => rfl
        | false => exact absurd hF q
      exact ⟨hmo.hear m hm hi hc (.inl q3), fun x hx => by simp at hx⟩
  rename_i nk3 nk4
  rw [if_neg nk3, if_neg nk4] at hbd
  split
  · rename_i k5
    rw [if_pos k5] at hbd
    unfold beatDnM at hbd ⊢
    split
    · rename_i u
      rw [if_pos u] at hbd
      have hne : id ≠ 1 := fun e => u.1 (h.r e).1
      split
      · rename_i q2
        rw [if_pos q2] at hbd
        have hi' := h.i
        have ha := hm.age
        have haa := h.a
        refine ⟨⟨hbd, h.i, h.c, h.p, fun e => absurd e hne, fun _ => ⟨q2, by simp only; rw [last_snoc]; exact hi'⟩, fun e => absurd e u.1, ?_, hmo.k, h.m⟩, fun x hx => by simp at hx⟩
        try simp only
        split <;> omega
      · exact ⟨hmo.off ⟨by omega, by omega⟩ hne hid.1, no 6 (.inr rfl)⟩
    · exact ⟨hmo, no 6 (.inr rfl)⟩
  split
  · refine ⟨?_, fun x hx => by simp at hx⟩
    have hb := hmo.b.wk (h.b.kw.filter fun k => !decide (k.1 = m.2.1))
    have hl := List.length_filter_le (fun k : Kd => !decide (k.1 = m.2.1)) t.2.2.2.2.2.2.2.2.2.2.2.2
    obtain ⟨xid, inc, now, par, pinc, grd, path, ep, born, ask, unt, stp, kids⟩ := t
    obtain ⟨h0, h1', h2, h3, h4, h5, h6, h7, h8, h9⟩ := hmo
    exact ⟨hb, h1', h2, h3, h4, h5, h6, h7, fun k hk => h8 k (List.mem_filter.1 hk).1, by simp only at h9 hl ⊢; simp only [withK]; omega⟩
  · exact ⟨hmo, fun x hx => by simp at hx⟩
theorem Tw.comes {id B : Int} {t : TT} (h : Tw id B t) (hB : B ≤ 900000) (h1B : 1 ≤ B) (m : Ms) (hm : Mb m) (hi : m.2.1 ≠ id) (hc : 1 ≤ m.2.2.2.1 ∧ m.2.2.2.1 ≤ 1073741824) (lo : Int) (hlo : 0 ≤ lo ∧ lo ≤ 1000000) :
    Tw id (B + 1) (comesT t m lo).2 ∧ ∀ x ∈ (comesT t m lo).1, Wm id t x := by
  have hmo := h.mono (B' := B + 1) (by omega)
  unfold comesT
  split
  · exact ⟨hmo, fun x hx => by simp at hx⟩
  split
  · rename_i u
    split
    · exact ⟨hmo, fun x hx => by simp at hx⟩
    · split
      · have hne : id ≠ 1 := fun e => u.1 (h.r e).1
        have hx := h.i
        refine (h.off (s := 0) ⟨by omega, by omega⟩ hne h.id1.1).disp hB h1B m hm hi hc lo hlo (fun q => ?_)
        exfalso
        obtain ⟨xid, inc, now, par, pinc, grd, path, ep, born, ask, unt, stp, kids⟩ := t
        simp only at hx
        unfold letgo freshM at q
        simp only at q
        rw [if_neg (by omega), if_neg (fun e => e rfl)] at q
        cases q
      · exact h.disp hB h1B m hm hi hc lo hlo (fun _ => rfl)
  · exact h.disp hB h1B m hm hi hc lo hlo (fun _ => rfl)
theorem dTi {p : Prop} {i : Decidable p} (h : p) : @decide p i = true := decide_eq_true h
abbrev mD : Ms := ((0 : Int), (0 : Int), (0 : Int), (0 : Int), (0 : Int), (0 : Int), ([] : List Int), (0 : Int), (0 : Int), ([] : List UInt8))
theorem getD_memM {l : List Ms} {i : Nat} (h : i < l.length) : l.getD i mD ∈ l := by
  rw [List.getD_eq_getElem?_getD, List.getElem?_eq_getElem h]; exact List.getElem_mem h
theorem Kw.at : ∀ {l : List Kd} {n : Int}, Kw n l → ∀ j, j + 1 < l.length → (l.getD j kD).1 < (l.getD (j + 1) kD).1
  | [], _, _, j, hj => by simp at hj
  | [w], _, _, j, hj => by simp at hj
  | w :: x :: r, n, h, 0, _ => by have := h.2.2.1; simp; omega
  | w :: x :: r, n, h, j + 1, hj => by
    have := h.2.2.at j (by simp at hj ⊢; omega)
    simpa using this
/-- What the reference's kids functions do. -/
theorem rFind_eq (N : Nat) (hN : 2000 ≤ N) (l : List Kd) (s : Int) (hl : l.length ≤ 1000) : W_ref1_Find N (l, s) = some (findK l s) := by
  unfold W_ref1_Find V_ref1_Find
  try simp only
  refine loop_G (N := N) (fun o => o = some (findK l s)) (fun k (v : Int × Kd) => v = ((k : Int), kD) ∧ k ≤ l.length ∧ findK (l.drop k) s = findK l s) l.length (fun r : Kd ⊕ (Bool × Kd) => (r = .inl kD ∧ findK l s = (false, kD)) ∨ r = .inr (findK l s)) ⟨rfl, by omega, rfl⟩ (by omega) ?_ (fun k v h => h.2.1) ?_
  · rintro r (⟨rfl, h⟩ | rfl)
    · rw [selim_l, h]
    · rw [selim_r]
  · rintro k v ⟨rfl, hk, hg⟩
    try simp only
    by_cases c : (k : Int) < l.length
    case neg =>
      right
      rw [dF c, cnd_f]
      rw [List.drop_eq_nil_of_le (by omega)] at hg
      exact ⟨_, rfl, .inl ⟨rfl, hg.symm⟩⟩
    rw [drop_consK (by omega)] at hg
    simp only [findK] at hg
    rw [dT c, cnd_t, dT (show (0 : Int) ≤ (k : Int) by omega), Bool.and_self, cnd_t, Int.toNat_natCast]
    by_cases c2 : (l.getD k kD).1 = s
    · right
      rw [if_pos c2] at hg
      rw [dT c2, cnd_t, cnd_t]
      exact ⟨_, rfl, .inr (by rw [← hg])⟩
    · left
      rw [if_neg c2] at hg
      rw [dF c2, cnd_f, wr_m (by omega) (by omega)]
      exact ⟨_, rfl, by rw [show ((k + 1 : Nat) : Int) = k + 1 by omega], by omega, hg⟩
theorem rOld_eq (N : Nat) (hN : 2000 ≤ N) (l : List Kd) (s inc : Int) (hl : l.length ≤ 1000) : W_ref1_Old N (l, s, inc) = some (oldK l s inc) := by
  unfold W_ref1_Old V_ref1_Old oldK
  try simp only
  rw [rFind_eq N hN l s hl, obind_s]
  cases (findK l s).1 <;> rfl
theorem rDrop_eq (N : Nat) (hN : 2000 ≤ N) (l : List Kd) (id : Int) (hl : l.length ≤ 1000) : W_ref1_Drop N (l, id) = some (l.filter (fun k => !decide (k.1 = id))) := by
  unfold W_ref1_Drop V_ref1_Drop
  try simp only
  refine loop_G (N := N) (fun o => o = some (l.filter (fun k => !decide (k.1 = id)))) (fun k (v : Int × List Kd) => v = ((k : Int), (l.take k).filter (fun k => !decide (k.1 = id))) ∧ k ≤ l.length) l.length (fun r : List Kd => r = l.filter (fun k => !decide (k.1 = id))) ⟨rfl, by omega⟩ (by omega) ?_ (fun k v h => h.2) ?_
  · rintro r rfl; rfl
  · rintro k v ⟨rfl, hk⟩
    try simp only
    by_cases c : (k : Int) < l.length
    case neg =>
      right
      rw [dF c, cnd_f, List.take_of_length_le (by omega)]
      exact ⟨_, rfl, rfl⟩
    left
    have hlen : ((l.take k).filter (fun k => !decide (k.1 = id))).length ≤ k := Nat.le_trans (List.length_filter_le _ _) (by simp; omega)
    have hs : (l.take (k + 1)).filter (fun k => !decide (k.1 = id)) = (l.take k).filter (fun k => !decide (k.1 = id)) ++ [l.getD k kD].filter (fun k => !decide (k.1 = id)) := by
      rw [take_snocK (by omega), List.filter_append]
    rw [dT c, cnd_t, dT (show (0 : Int) ≤ (k : Int) by omega), Bool.and_self, cnd_t, Int.toNat_natCast, wr_m (z := (k : Int) + 1) (by omega) (by omega)]
    refine ⟨(((k + 1 : Nat) : Int), (l.take (k + 1)).filter (fun k => !decide (k.1 = id))), ?_, rfl, by omega⟩
    rw [hs, show ((k + 1 : Nat) : Int) = k + 1 by omega]
    generalize hq : (l.take k).filter (fun k => !decide (k.1 = id)) = q at *
    by_cases c2 : (l.getD k kD).1 = id
    · rw [dF (fun h => h c2), cnd_f, filter1, if_pos (dT c2), List.append_nil]
    · rw [dT c2, cnd_t, cnd_t, dT (by simp only [List.length_singleton]; omega), cnd_t, filter1, if_neg (by rw [dF c2]; simp)]
theorem rPrune_eq (N : Nat) (hN : 2000 ≤ N) (l : List Kd) (now : Int) (hl : l.length ≤ 1000) (h1 : -1000000000 ≤ now) (h2 : now ≤ 1000000000) (hh : ∀ k ∈ l, -1000000000 ≤ k.2.2 ∧ k.2.2 ≤ 1000000000) : W_ref1_Prune N (l, now) = some (l.filter (fun k => !decide (k.2.2 < now - 20))) := by
  unfold W_ref1_Prune V_ref1_Prune
  try simp only
  refine loop_G (N := N) (fun o => o = some (l.filter (fun k => !decide (k.2.2 < now - 20)))) (fun k (v : Int × List Kd) => v = ((k : Int), (l.take k).filter (fun k => !decide (k.2.2 < now - 20))) ∧ k ≤ l.length) l.length (fun r : List Kd => r = l.filter (fun k => !decide (k.2.2 < now - 20))) ⟨rfl, by omega⟩ (by omega) ?_ (fun k v h => h.2) ?_
  · rintro r rfl; rfl
  · rintro k v ⟨rfl, hk⟩
    try simp only
    by_cases c : (k : Int) < l.length
    case neg =>
      right
      rw [dF c, cnd_f, List.take_of_length_le (by omega)]
      exact ⟨_, rfl, rfl⟩
    left
    have hlen : ((l.take k).filter (fun k => !decide (k.2.2 < now - 20))).length ≤ k := Nat.le_trans (List.length_filter_le _ _) (by simp; omega)
    have hs : (l.take (k + 1)).filter (fun k => !decide (k.2.2 < now - 20)) = (l.take k).filter (fun k => !decide (k.2.2 < now - 20)) ++ [l.getD k kD].filter (fun k => !decide (k.2.2 < now - 20)) := by
      rw [take_snocK (by omega), List.filter_append]
    have hb := hh _ (getD_memK (l := l) (i := k) (by omega))
    rw [dT c, cnd_t, dT (show (0 : Int) ≤ (k : Int) by omega), Bool.and_self, cnd_t, Int.toNat_natCast, wr_m (z := (k : Int) + 1) (by omega) (by omega)]
    refine ⟨(((k + 1 : Nat) : Int), (l.take (k + 1)).filter (fun k => !decide (k.2.2 < now - 20))), ?_, rfl, by omega⟩
    rw [hs, show ((k + 1 : Nat) : Int) = k + 1 by omega]
    generalize hq : (l.take k).filter (fun k => !decide (k.2.2 < now - 20)) = q at *
    have w : wr .i64 (now - (l.getD k kD).2.2) = now - (l.getD k kD).2.2 := wr_m (by omega) (by omega)
    show cnd (decide (wr .i64 (now - (l.getD k kD).2.2) ≤ 20)) _ _ = _
    rw [w]
    by_cases c2 : (l.getD k kD).2.2 < now - 20
    · rw [dF (by omega), cnd_f, filter1, if_pos (dT c2), List.append_nil]
    · rw [dT (by omega), cnd_t, cnd_t, dT (by simp only [List.length_singleton]; omega), cnd_t, filter1, if_neg (by rw [dF c2]; simp)]
/-- A kid ahead of the first above it. -/
def insR (k : Kd) : List Kd → List Kd
  | [] => [k]
  | w :: r => if k.1 < w.1 then k :: w :: r else w :: insR k r
theorem filter_above {n : Int} : ∀ {l : List Kd}, Kw n l → ∀ id : Int, id < n → l.filter (fun k => !decide (k.1 = id)) = l
  | [], _, _, _ => rfl
  | w :: r, h, id, hi => by
    have := h.1
    rw [List.filter_cons, if_pos (by rw [dF (by omega)]; rfl), filter_above (h.2.2) id (by omega)]
theorem insR_put (k : Kd) : ∀ {l : List Kd} {n : Int}, Kw n l → insR k (l.filter (fun w => !decide (w.1 = k.1))) = putK k l
  | [], _, _ => rfl
  | w :: r, n, h => by
    rw [List.filter_cons]
    simp only [putK]
    by_cases c : w.1 = k.1
    · rw [if_neg (by rw [dT c]; simp), if_pos c, filter_above h.2.2 k.1 (by omega)]
      cases r with
      | nil => rfl
      | cons y r =>
        have := h.2.2.1
        simp only [insR]
        rw [if_pos (by omega)]
    · rw [if_pos (by rw [dF c]; rfl), if_neg c]
      simp only [insR]
      by_cases c2 : k.1 < w.1
      · rw [if_pos c2, if_pos c2, filter_above h.2.2 k.1 (by omega)]
      · rw [if_neg c2, if_neg c2, insR_put k h.2.2]
theorem rHear_eq (N : Nat) (hN : 2000 ≤ N) (l : List Kd) (n : Int) (k : Kd) (hw : Kw n l) (hl : l.length ≤ 1000) : W_ref1_Hear N (l, k) = some (if oldK l k.1 k.2.1 = true then (l, false) else (putK k l, true)) := by
  unfold W_ref1_Hear V_ref1_Hear
  try simp only
  rw [rOld_eq N hN l k.1 k.2.1 hl, obind_s]
  cases oldK l k.1 k.2.1 with
  | true => rw [cnd_t, if_pos rfl]
  | false =>
    rw [cnd_f, if_neg (by simp), rDrop_eq N hN l k.1 hl, obind_s, ← insR_put k hw]
    have hfl : (l.filter (fun w => !decide (w.1 = k.1))).length ≤ 1000 := Nat.le_trans (List.length_filter_le _ _) hl
    generalize l.filter (fun w => !decide (w.1 = k.1)) = q at *
    refine loop_G (N := N) (fun o => o = some (insR k q, true)) (fun i (v : Int × Kd × List Kd) => v = ((i : Int), k, q) ∧ i ≤ q.length ∧ q.take i ++ insR k (q.drop i) = insR k q) q.length (fun r : (Kd × List Kd) ⊕ (List Kd × Bool) => (r = .inl (k, q) ∧ q ++ [k] = insR k q) ∨ r = .inr (insR k q, true)) ⟨rfl, by omega, rfl⟩ (by omega) ?_ (fun k v h => h.2.1) ?_
    · rintro r (⟨rfl, h⟩ | rfl)
      · rw [selim_l]
        try simp only
        rw [dT (by simp only [List.length_singleton]; omega), cnd_t, h]
      · rw [selim_r]
    · rintro i v ⟨rfl, hk, hg⟩
      try simp only
      by_cases c : (i : Int) < q.length
      case neg =>
        right
        rw [dF c, cnd_f]
        rw [List.drop_eq_nil_of_le (by omega), List.take_of_length_le (by omega)] at hg
        exact ⟨_, rfl, .inl ⟨rfl, hg⟩⟩
      have hg0 := hg
      rw [drop_consK (by omega)] at hg
      simp only [insR] at hg
      rw [dT c, cnd_t, dT (show (0 : Int) ≤ (i : Int) by omega), Bool.and_self, cnd_t, Int.toNat_natCast]
      by_cases c2 : k.1 < (q.getD i kD).1
      · right
        rw [if_pos c2, ← drop_consK (by omega)] at hg
        rw [dT c2, cnd_t]
        simp only [cutT, Option.getD_none, Option.getD_some, Int.toNat_natCast, Int.toNat_zero, Nat.zero_add, Nat.sub_zero, List.drop_zero]
        rw [show i + (q.length - i) = q.length by omega, List.take_length]
        have e1 : (q.take i).length ≤ 1000 := by simp; omega
        have e2 : (q.drop i).length ≤ 1000 := by simp; omega
        repeat first | rw [cnd_t] | rw [dT (by first | omega | (simp only [List.length_singleton]; omega) | (simp only [List.length_append, List.length_singleton]; omega))]
        exact ⟨_, rfl, .inr (by rw [← hg, List.append_assoc]; rfl)⟩
      · left
        rw [if_neg c2] at hg
        rw [dF c2, cnd_f, wr_m (by omega) (by omega)]
        refine ⟨_, rfl, by rw [show ((i + 1 : Nat) : Int) = i + 1 by omega], by omega, ?_⟩
        rw [take_snocK (by omega), List.append_assoc]
        exact hg
theorem ob_eq {α β : Type} {o : Option α} {g : α → Option β} {r : Option β} (v : α) (h : o = some v) (hg : g v = r) : obind o g = r := by rw [h]; exact hg
/-! The reference. -/
theorem rFresh_eq (N : Nat) {B : Int} (t : TT) (h : Tb B t) (hB : B ≤ 1000000000) : W_ref19_Fresh N t = some (freshM t) := by
  obtain ⟨id, inc, now, par, pinc, grd, path, ep, born, ask, unt, stp, kids⟩ := t
  obtain ⟨h1, h2, h3, h4, h5, h6, h7, h8, h9, h10⟩ := h
  unfold W_ref19_Fresh V_ref19_Fresh freshM
  try simp only
  rw [wr_m (by omega) (by omega)]
  by_cases c : id = 1
  · rw [dT c, cnd_t, if_pos c]
  · rw [dF c, cnd_f, if_neg c]
    by_cases c2 : par ≠ 0
    · rw [dT c2, cnd_t, if_pos c2]
    · rw [dF c2, cnd_f, if_neg c2]
theorem rOff_eq (N : Nat) (t : TT) (s : Int) : W_ref19_off N (t, s) = some (letgo t s) := rfl
theorem rSays_eq (N : Nat) (t : TT) (k to : Int) : W_ref19_says N (t, k, to) = some (sayM t k to) := rfl
theorem rFull_eq (N : Nat) {B : Int} (t : TT) (h : Tb B t) (hB : B ≤ 1000000000) (k to : Int) : W_ref19_full N (t, k, to) = some (fullM t k to 0) := by
  obtain ⟨id, inc, now, par, pinc, grd, path, ep, born, ask, unt, stp, kids⟩ := t
  obtain ⟨h1, h2, h3, h4, h5, h6, h7, h8, h9, h10⟩ := h
  unfold W_ref19_full V_ref19_full
  rw [rSays_eq, obind_s]
  try simp only
  rw [wr_m (by omega) (by omega), cnd_T (by omega)]
  rfl
theorem rPruneK_eq (N : Nat) (hN : 2000 ≤ N) (l : List Kd) (now : Int) (hl : l.length ≤ 1000) (h1 : -1000000000 ≤ now) (h2 : now ≤ 1000000000) (hh : ∀ k ∈ l, -1000000000 ≤ k.2.2 ∧ k.2.2 ≤ 1000000000) : W_ref1_Prune N (l, now) = some (prK now l) := rPrune_eq N hN l now hl h1 h2 hh
theorem tick3_root {t : TT} (h : t.1 = 1) : tick3 (tick2 (tick1 t)) = (tick1 t, []) := by
  have e1 : (tick1 t).1 = 1 := by
    obtain ⟨id, inc, now, par, pinc, grd, path, ep, born, ask, unt, stp, kids⟩ := t
    rw [tick1_def]; split <;> exact h
  have e2 : freshM (tick1 t) = true := by
    generalize tick1 t = u at *
    obtain ⟨id, inc, now, par, pinc, grd, path, ep, born, ask, unt, stp, kids⟩ := u
    unfold freshM
    exact if_pos e1
  unfold tick2
  rw [if_neg (by rw [e2]; simp)]
  unfold tick3
  rw [if_neg (fun q => q.2 e1)]
theorem rSeek_eq (N : Nat) {B : Int} (u z : TT) (h : Tb B u) (hB : B ≤ 1000000000) : (obind (cnd (decide (u.2.2.2.2.2.2.2.2.2.1 ≠ (0 : Int))) (cnd (decide (u.2.2.2.2.2.2.2.2.2.2.1 ≤ u.2.2.1)) (some ((u.1, u.2.1, u.2.2.1, u.2.2.2.1, u.2.2.2.2.1, u.2.2.2.2.2.1, u.2.2.2.2.2.2.1, u.2.2.2.2.2.2.2.1, u.2.2.2.2.2.2.2.2.1, (0 : Int), u.2.2.2.2.2.2.2.2.2.2.1, wr .i64 (u.2.2.2.2.2.2.2.2.2.2.2.1 + (1 : Int)), u.2.2.2.2.2.2.2.2.2.2.2.2), z)) (some (u, z))) (some (u, z))) fun (b : TT × TT) => cnd (decide (b.1.2.2.2.2.2.2.2.2.2.1 = (0 : Int))) (obind (obind (cnd (decide (b.1.2.2.2.2.2.2.2.2.2.2.2.1 = (0 : Int))) (some (decide (b.1.2.2.2.2.2.1 ≠ (0 : Int)), (b.1.1, b.1.2.1, b.1.2.2.1, b.1.2.2.2.1, b.1.2.2.2.2.1, b.1.2.2.2.2.2.1, b.1.2.2.2.2.2.2.1, b.1.2.2.2.2.2.2.2.1, b.1.2.2.2.2.2.2.2.2.1, (1 : Int), wr .i64 (b.1.2.2.1 + (3 : Int)), b.1.2.2.2.2.2.2.2.2.2.2.2), b.2)) (some (false, (b.1.1, b.1.2.1, b.1.2.2.1, b.1.2.2.2.1, b.1.2.2.2.2.1, b.1.2.2.2.2.2.1, b.1.2.2.2.2.2.2.1, b.1.2.2.2.2.2.2.2.1, b.1.2.2.2.2.2.2.2.2.1, (1 : Int), wr .i64 (b.1.2.2.1 + (3 : Int)), b.1.2.2.2.2.2.2.2.2.2.2.2), b.2))) fun (b : Bool × TT × TT) => cnd b.1 (cnd (decide (b.2.1.2.2.2.2.2.1 ≠ b.2.1.1)) (some ((b.2.1.1, b.2.1.2.1, b.2.1.2.2.1, b.2.1.2.2.2.1, b.2.1.2.2.2.2.1, b.2.1.2.2.2.2.2.1, b.2.1.2.2.2.2.2.2.1, b.2.1.2.2.2.2.2.2.2.1, b.2.1.2.2.2.2.2.2.2.2.1, b.2.1.2.2.2.2.2.1, b.2.1.2.2.2.2.2.2.2.2.2.2), b.2.2)) (some b.2)) (some b.2)) fun (b : TT × TT) => obind (W_ref19_says N (b.1, (1 : Int), b.1.2.2.2.2.2.2.2.2.2.1)) fun (b_1 : Ms) => some (b.1, b.2, [b_1])) (some (b.1, b.2, []))) = some ((seekM u).1, z, (seekM u).2) := by
  obtain ⟨id, inc, now, par, pinc, grd, path, ep, born, ask, unt, stp, kids⟩ := u
  obtain ⟨h1, h2, h3, h4, h5, h6, h7, h8, h9, h10⟩ := h
  have w3 : wr .i64 (now + 3) = now + 3 := wr_m (by omega) (by omega)
  have w1 : wr .i64 (stp + 1) = stp + 1 := wr_m (by omega) (by omega)
  unfold seekM
  try simp only
  rw [w1]
  by_cases c1 : ask ≠ 0
  · rw [dT c1, cnd_t, if_pos c1]
    by_cases c2 : unt ≤ now
    · rw [dT c2, cnd_t, if_pos c2, obind_s]
      try simp only
      rw [dTi (p := True) trivial, cnd_t, dF (show ¬ stp + 1 = 0 by omega), cnd_f, obind_s]
      try simp only
      rw [cnd_f, obind_s]
      try simp only
      rw [rSays_eq, obind_s, w3, if_neg (fun q => by omega)]
      rfl
    · rw [dF c2, cnd_f, if_neg c2, obind_s]
      try simp only
      rw [dF (show ¬ ask = 0 from c1), cnd_f]
  · rw [dF c1, cnd_f, if_neg c1, obind_s]
    try simp only
    rw [dT (show ask = 0 by omega), cnd_t]
    by_cases d1 : stp = 0
    · rw [dT d1, cnd_t, obind_s]
      try simp only
      by_cases d2 : grd ≠ 0
      · rw [dT d2, cnd_t]
        by_cases d3 : grd ≠ id
        · rw [dT d3, cnd_t, obind_s]
          try simp only
          rw [rSays_eq, obind_s, w3, if_pos ⟨d1, d2, d3⟩]
          rfl
        · rw [dF d3, cnd_f, obind_s]
          try simp only
          rw [rSays_eq, obind_s, w3, if_neg (fun q => d3 q.2.2)]
          rfl
      · rw [dF d2, cnd_f, obind_s]
        try simp only
        rw [rSays_eq, obind_s, w3, if_neg (fun q => d2 q.2.1)]
        rfl
    · rw [dF d1, cnd_f, obind_s]
      try simp only
      rw [cnd_f, obind_s]
      try simp only
      rw [rSays_eq, obind_s, w3, if_neg (fun q => d1 q.1)]
      rfl
abbrev z0 : TT := ((0 : Int), (0 : Int), (0 : Int), (0 : Int), (0 : Int), (0 : Int), ([] : List Int), (0 : Int), (0 : Int), (0 : Int), (0 : Int), (0 : Int), ([] : List Kd))
theorem rTick_eq (N : Nat) (hN : 2000 ≤ N) {B : Int} (t : TT) (h : Tb B t) (hB : B ≤ 1000000) (hk : ∀ k ∈ t.2.2.2.2.2.2.2.2.2.2.2.2, -1000000000 ≤ k.2.2 ∧ k.2.2 ≤ 1000000000) : W_ref19_Tick N t = some (tickM t) := by
  have h1 := h.t1
  have h2 := h1.t2
  obtain ⟨h3, h3l⟩ := h2.t3
  have fr := rFresh_eq N _ h1 (by omega)
  have fr3 := rFresh_eq N _ h3 (by omega)
  have fu3 := rFull_eq N _ h3 (by omega)
  have hkl3 := h3.kl
  have sk := fun z => rSeek_eq N (tick2 (tick1 t)) z h2 (by omega)
  have hkl := h.kl
  have hb : 0 ≤ t.2.2.1 ∧ t.2.2.1 ≤ B ∧ 0 ≤ t.2.2.2.2.2.2.2.1 ∧ t.2.2.2.2.2.2.2.1 ≤ B + 1000 := by
    obtain ⟨id, inc, now, par, pinc, grd, path, ep, born, ask, unt, stp, kids⟩ := t
    obtain ⟨h1, h2, h3, h4, h5, h6, h7, h8, h9, h10⟩ := h
    exact ⟨h2.1, h2.2, h6.1, h6.2⟩
  unfold W_ref19_Tick V_ref19_Tick
  try simp only
  rw [wr_m (z := t.2.2.1 + 1) (by omega) (by omega), rPruneK_eq N hN _ _ (by omega) (by omega) (by omega) hk, obind_s, wr_m (z := t.2.2.2.2.2.2.2.1 + 1) (by omega) (by omega), tm _ _ (by omega)]
  refine ob_eq ((tick3 (tick2 (tick1 t))).1, z0, (tick3 (tick2 (tick1 t))).2) ?_ ?_
  · clear fr3 fu3 hkl3 h3l h3
    by_cases c1 : t.1 = 1
    · rw [tick3_root c1, dT c1, cnd_t]
      clear sk fr hk hkl
      obtain ⟨id, inc, now, par, pinc, grd, path, ep, born, ask, unt, stp, kids⟩ := t
      simp only at c1 ⊢
      rw [tick1_def]
      by_cases c2 : (now + 1) % 2 = 0
      · rw [dT c2, cnd_t, if_pos ⟨c1, c2⟩]
      · rw [dF c2, cnd_f, if_neg (fun q => c2 q.2)]
    · rw [dF c1, cnd_f]
      have ht1 : tick1 t = (t.1, t.2.1, t.2.2.1 + 1, t.2.2.2.1, t.2.2.2.2.1, t.2.2.2.2.2.1, t.2.2.2.2.2.2.1, t.2.2.2.2.2.2.2.1, t.2.2.2.2.2.2.2.2.1, t.2.2.2.2.2.2.2.2.2.1, t.2.2.2.2.2.2.2.2.2.2.1, t.2.2.2.2.2.2.2.2.2.2.2.1, prK (t.2.2.1 + 1) t.2.2.2.2.2.2.2.2.2.2.2.2) := by
        obtain ⟨id, inc, now, par, pinc, grd, path, ep, born, ask, unt, stp, kids⟩ := t
        rw [tick1_def, if_neg (fun q => c1 q.1)]
      have hid : (tick2 (tick1 t)).1 ≠ 1 := by
        unfold tick2
        rw [ht1]
        split <;> exact c1
      rw [← ht1]
      refine ob_eq (tick2 (tick1 t), z0) ?_ ?_
      · have hp : (tick1 t).2.2.2.1 = t.2.2.2.1 := by rw [ht1]
        unfold tick2
        by_cases c2 : t.2.2.2.1 ≠ 0
        · rw [dT c2, cnd_t, fr, obind_s]
          cases hf : freshM (tick1 t) with
          | true => rw [Bool.not_true, cnd_f, if_neg (by simp)]
          | false => rw [Bool.not_false, cnd_t, rOff_eq, obind_s, if_pos ⟨by rw [hp]; exact c2, rfl⟩]
        · rw [dF c2, cnd_f, if_neg (fun q => c2 (by rw [← hp]; exact q.1))]
      · unfold tick3
        generalize tick2 (tick1 t) = u at *
        try simp only
        by_cases c3 : u.2.2.2.1 = 0
        · rw [dT c3, cnd_t, if_pos ⟨c3, hid⟩]
          exact sk z0
        · rw [dF c3, cnd_f, if_neg (fun q => c3 q.1)]
  · unfold tickM
    generalize tick3 (tick2 (tick1 t)) = a at *
    try simp only
    by_cases c : (t.2.2.1 + 1) % 2 = 0
    case neg => rw [dF c, Bool.not_false, cnd_t, if_neg c]
    rw [dT c, Bool.not_true, cnd_f, if_pos c]
    refine ob_eq (a.1, z0, a.2 ++ (if a.1.2.2.2.1 ≠ 0 then [sayM a.1 4 a.1.2.2.2.1] else [])) ?_ ?_
    · by_cases c2 : a.1.2.2.2.1 ≠ 0
      · rw [dT c2, cnd_t, rSays_eq, obind_s, cnd_T (by simp only [List.length_singleton]; omega), if_pos c2]
      · rw [dF c2, cnd_f, if_neg c2, List.append_nil]
    · unfold beatM
      rw [← List.append_assoc]
      have ho : (a.2 ++ (if a.1.2.2.2.1 ≠ 0 then [sayM a.1 4 a.1.2.2.2.1] else [])).length ≤ 2 := by
        rw [List.length_append]
        split
        · simp; omega
        · simp; omega
      generalize a.2 ++ (if a.1.2.2.2.1 ≠ 0 then [sayM a.1 4 a.1.2.2.2.1] else []) = o at *
      generalize a.1 = u at *
      obtain ⟨K, hK⟩ : ∃ K, u.2.2.2.2.2.2.2.2.2.2.2.2 = K := ⟨_, rfl⟩
      try simp only
      rw [hK] at hkl3 ⊢
      refine loop_G (N := N) (x := (0, u, z0, o)) (fun q => q = some (o ++ (if freshM u = true then K.map fun k => fullM u 5 k.1 0 else []), u)) (fun k (v : Int × TT × TT × List Ms) => v = (↑k, u, z0, o ++ (K.take k).map fun k => fullM u 5 k.1 0) ∧ k ≤ K.length ∧ (k = 0 ∨ freshM u = true)) K.length (fun r : List Ms × TT × TT => r = (o ++ (if freshM u = true then K.map fun k => fullM u 5 k.1 0 else []), u, z0)) ⟨by simp, by omega, .inl rfl⟩ (by omega) (fun r h => by rw [h]) (fun k v h => h.2.1) ?_
      rintro k v ⟨rfl, hk2, hf2⟩
      try simp only
      rw [hK]
      by_cases c : (k : Int) < K.length
      case neg =>
        right
        rw [dF c, cnd_f]
        refine ⟨_, rfl, ?_⟩
        rw [List.take_of_length_le (by omega)]
        split
        · rfl
        · rename_i q
          have : k = 0 := hf2.elim (fun e => e) (fun e => absurd e q)
          have : K = [] := List.eq_nil_of_length_eq_zero (by omega)
          rw [this]; rfl
      rw [dT c, cnd_t, fr3, obind_s]
      cases hF : freshM u with
      | false =>
        right
        rw [cnd_f]
        have : k = 0 := hf2.elim (fun e => e) (fun e => by rw [hF] at e; cases e)
        subst this
        exact ⟨_, rfl, by simp⟩
      | true =>
        left
        rw [cnd_t, dT (show (0 : Int) ≤ (k : Int) by omega), Bool.and_self, cnd_t, Int.toNat_natCast]
        show ∃ y, obind (W_ref19_full N (u, 5, (K.getD k kD).1)) _ = _ ∧ _
        rw [fu3, obind_s]
        refine ⟨_, cnd_T (by simp only [List.length_append, List.length_map, List.length_take, List.length_singleton]; omega), ?_, by omega, .inr rfl⟩
        rw [wr_m (by omega) (by omega), List.append_assoc, take_snocK (by omega), List.map_append]
        rfl
theorem rGrand_eq (N : Nat) (p : List Int) (h : p.length ≤ 1000) : W_ref1_Grand N p = some (grandM p) := by
  unfold W_ref1_Grand V_ref1_Grand grandM
  by_cases c : (p.length : Int) < 2
  · rw [dT c, cnd_t, if_pos c]
  · have w : wr .i64 ((p.length : Int) - 2) = ((p.length - 2 : Nat) : Int) := by rw [wr_m (by omega) (by omega)]; omega
    rw [dF c, cnd_f, if_neg c, w, dT (by omega), dT (by omega), Bool.and_self, cnd_t, Int.toNat_natCast]
theorem rgrd_eq (N : Nat) (p : List Int) (h : p.length ≤ 1000) : W_ref19_grand N p = some (grdM p) := by
  unfold W_ref19_grand V_ref19_grand grdM
  rw [rGrand_eq N p h, obind_s]
  by_cases c : grandM p = 0
  · rw [dT c, cnd_t, if_pos c]
  · rw [dF c, cnd_f, if_neg c]
theorem rAccepted_eq (N : Nat) (hN : 2000 ≤ N) {B : Int} (t : TT) (h : Tb B t) (hB : B ≤ 1000000) (m : Ms) (hm : Mb m) : W_ref19_accepted N (t, m) = some (acceptM t m) := by
  have hb : 0 ≤ t.2.2.1 ∧ t.2.2.1 ≤ B ∧ 0 ≤ t.2.2.2.2.2.2.2.2.2.2.2.1 ∧ t.2.2.2.2.2.2.2.2.2.2.2.1 ≤ B := by
    obtain ⟨id, inc, now, par, pinc, grd, path, ep, born, ask, unt, stp, kids⟩ := t
    obtain ⟨h1, h2, h3, h4, h5, h6, h7, h8, h9, h10⟩ := h
    exact ⟨h2.1, h2.2, h4.1, h4.2⟩
  have hage := hm.age
  unfold W_ref19_accepted V_ref19_accepted acceptM
  try simp only
  by_cases u : isUp t m
  · rw [dT u.1, cnd_t, dT u.2, cnd_t, obind_s, selim_r, if_pos u]
  rw [if_neg u]
  refine ob_eq (.inl (t, m, z0)) ?_ ?_
  · by_cases c : t.2.2.2.1 ≠ 0
    · rw [dT c, cnd_t, dF (fun q => u ⟨c, q⟩), cnd_f]
    · rw [dF c, cnd_f]
  try simp only
  rw [selim_l]
  by_cases a : isAsk t m ∧ t.2.2.2.1 = 0
  · rw [if_pos a]
    refine ob_eq (.inl (t, m, z0)) ?_ ?_
    · rw [dF (show ¬ t.2.2.2.2.2.2.2.2.2.1 = 0 from a.1.1), cnd_f, obind_s]
      try simp only
      rw [dF (fun q : t.2.2.2.2.2.2.2.2.2.1 ≠ m.2.1 => q a.1.2.symm), cnd_f, dF (fun q : t.2.2.2.1 ≠ 0 => q a.2), cnd_f]
    · try simp only
      rw [selim_l, rAdd_eq N _ _ (by omega) hm.pl, obind_s, wr_m (z := t.2.2.2.2.2.2.2.2.2.2.2.1 + 1) (by omega) (by omega), wr_m (z := t.2.2.1 - m.2.2.2.2.2.1) (by omega) (by omega)]
      by_cases v : VP (m.2.2.2.2.2.2.1 ++ [t.1])
      · rw [if_pos v]
        try simp only
        rw [Bool.not_true, cnd_f]
        by_cases c3 : 20 < m.2.2.2.2.2.1
        · rw [dT c3, cnd_t, rSays_eq, obind_s, if_neg (fun q => by have := q.2; omega)]
          obtain ⟨id, inc, now, par, pinc, grd, path, ep, born, ask, unt, stp, kids⟩ := t
          rfl
        · rw [dF c3, cnd_f, rgrd_eq N _ hm.pl, obind_s, if_pos ⟨v, by omega⟩]
      · rw [if_neg v]
        try simp only
        rw [Bool.not_false, cnd_t, rSays_eq, obind_s, if_neg (fun q => v q.1)]
        obtain ⟨id, inc, now, par, pinc, grd, path, ep, born, ask, unt, stp, kids⟩ := t
        rfl
  · rw [if_neg a]
    refine ob_eq (.inr ([sayM t 6 m.2.1], t)) ?_ ?_
    · by_cases c1 : t.2.2.2.2.2.2.2.2.2.1 = 0
      · rw [dT c1, cnd_t, obind_s]
        try simp only
        rw [cnd_t, rSays_eq, obind_s]
      · rw [dF c1, cnd_f, obind_s]
        try simp only
        by_cases c2 : t.2.2.2.2.2.2.2.2.2.1 ≠ m.2.1
        · rw [dT c2, cnd_t, rSays_eq, obind_s]
        · have c3 : t.2.2.2.1 ≠ 0 := fun q => a ⟨⟨c1, by omega⟩, q⟩
          rw [dF c2, cnd_f, dT c3, cnd_t, rSays_eq, obind_s]
    · try simp only
      rw [selim_r]
theorem rHearK_eq (N : Nat) (hN : 2000 ≤ N) {B : Int} (t : TT) (h : Tb B t) (a b c : Int) : ∃ q, W_ref1_Hear N (t.2.2.2.2.2.2.2.2.2.2.2.2, a, b, c) = some (hearM t.2.2.2.2.2.2.2.2.2.2.2.2 (a, b, c), q) := by
  have hk := h.kl
  have e := rHear_eq N hN t.2.2.2.2.2.2.2.2.2.2.2.2 1 (a, b, c) h.kw (by omega)
  unfold hearM
  cases ho : oldK t.2.2.2.2.2.2.2.2.2.2.2.2 a b with
  | true => rw [if_pos (by exact ho)] at e; rw [if_pos rfl]; exact ⟨_, e⟩
  | false => rw [if_neg (by show ¬ oldK _ a b = true; rw [ho]; simp)] at e; rw [if_neg (by simp)]; exact ⟨_, e⟩
theorem rComes_eq (N : Nat) (hN : 2000 ≤ N) {B : Int} (t : TT) (h : Tb B t) (hB : B ≤ 1000000) (m : Ms) (hm : Mb m) (lo : Int) : W_ref19_Comes N (t, m, lo) = some (comesT t m lo) := by
  have hk := h.kl
  have ho := rOld_eq N hN t.2.2.2.2.2.2.2.2.2.2.2.2 m.2.1 m.2.2.2.1 (by omega)
  have hfrm := hm.fr
  unfold W_ref19_Comes V_ref19_Comes
  try simp only
  by_cases early : oldK t.2.2.2.2.2.2.2.2.2.2.2.2 m.2.1 m.2.2.2.1 = true ∨ (isUp t m ∧ m.2.2.2.1 < t.2.2.2.2.1)
  · have hc : comesT t m lo = ([], t) := by
      unfold comesT
      rcases early with e | e
      · rw [if_pos e]
      · split
        · rfl
        · rw [if_pos e.1, if_pos e.2]
    rw [hc]
    refine ob_eq (.inr ([], t)) ?_ ?_
    · rw [ho, obind_s]
      cases hO : oldK t.2.2.2.2.2.2.2.2.2.2.2.2 m.2.1 m.2.2.2.1 with
      | true => rw [cnd_t]
      | false =>
        rcases early with e | e
        · rw [hO] at e; cases e
        · rw [cnd_f, dT e.1.2, cnd_t, dT e.2, cnd_t]
    · try simp only
      rw [selim_r]
  have hO : oldK t.2.2.2.2.2.2.2.2.2.2.2.2 m.2.1 m.2.2.2.1 = false := by
    cases hO : oldK t.2.2.2.2.2.2.2.2.2.2.2.2 m.2.1 m.2.2.2.1 with
    | true => exact absurd (.inl hO) early
    | false => rfl
  refine ob_eq (.inl (t, m, z0)) ?_ ?_
  · rw [ho, obind_s, hO, cnd_f]
    by_cases u : m.2.1 = t.2.2.2.1
    · rw [dT u, cnd_t, dF (fun q => early (.inr ⟨⟨by omega, u⟩, q⟩)), cnd_f]
    · rw [dF u, cnd_f]
  have hc : comesT t m lo = dispM (if isUp t m ∧ t.2.2.2.2.1 < m.2.2.2.1 then letgo t 0 else t) m lo := by
    unfold comesT
    rw [if_neg (by rw [hO]; simp)]
    by_cases u : isUp t m
    · rw [if_pos u, if_neg (fun q => early (.inr ⟨u, q⟩))]
      by_cases c : t.2.2.2.2.1 < m.2.2.2.1
      · rw [if_pos c, if_pos ⟨u, c⟩]
      · rw [if_neg c, if_neg (fun q => c q.2)]
    · rw [if_neg u, if_neg (fun q => u q.1)]
  rw [hc]
  try simp only
  rw [selim_l]
  refine ob_eq ((if isUp t m ∧ t.2.2.2.2.1 < m.2.2.2.1 then letgo t 0 else t), m, z0) ?_ ?_
  · by_cases u : m.2.1 = t.2.2.2.1
    · rw [dT u, cnd_t]
      by_cases c : t.2.2.2.2.1 < m.2.2.2.1
      · rw [dT c, cnd_t, rOff_eq, obind_s, if_pos ⟨⟨by omega, u⟩, c⟩]
      · rw [dF c, cnd_f, if_neg (fun q => c q.2)]
    · rw [dF u, cnd_f, if_neg (fun q => u q.1.2)]
  have hT : Tb B (if isUp t m ∧ t.2.2.2.2.1 < m.2.2.2.1 then letgo t 0 else t) := by
    split
    · exact h.off ⟨by omega, h.b0⟩
    · exact h
  clear hc hO early ho hk h
  generalize (if isUp t m ∧ t.2.2.2.2.1 < m.2.2.2.1 then letgo t 0 else t) = t at *
  have h := hT
  clear hT
  have hk := h.kl
  have hpl := h.pl
  have hb : 0 ≤ t.2.2.1 ∧ t.2.2.1 ≤ B ∧ 0 ≤ t.2.2.2.2.2.2.2.2.2.2.2.1 ∧ t.2.2.2.2.2.2.2.2.2.2.2.1 ≤ B := by
    obtain ⟨id, inc, now, par, pinc, grd, path, ep, born, ask, unt, stp, kids⟩ := t
    obtain ⟨h1, h2, h3, h4, h5, h6, h7, h8, h9, h10⟩ := h
    exact ⟨h2.1, h2.2, h4.1, h4.2⟩
  have hage := hm.age
  have hfind := rFind_eq N hN t.2.2.2.2.2.2.2.2.2.2.2.2 m.2.1 (by omega)
  obtain ⟨hq, hhear⟩ := rHearK_eq N hN t h m.2.1 m.2.2.2.1 t.2.2.1
  have hkw := h.kw.hear (k := (m.2.1, m.2.2.2.1, t.2.2.1)) hm.fr.1 hm.fr.2
  try simp only
  refine ob_eq (decide (isUp t m), t, m, z0) ?_ ?_
  · by_cases c : t.2.2.2.1 ≠ 0
    · rw [dT c, cnd_t]
      refine congrArg some (congrArg (fun b => (b, t, m, z0)) (decide_eq_decide.2 ⟨fun q => ⟨c, q⟩, fun q => q.2⟩))
    · rw [dF c, cnd_f, decide_eq_false (fun q : isUp t m => c q.1)]
  try simp only
  unfold dispM
  by_cases c1 : m.1 = 1
  · rw [dT c1, cnd_t, if_pos c1, hfind, obind_s]
    unfold attachM
    have hfr := rFresh_eq N t h (by omega)
    have hhas := rHas_eq N t.2.2.2.2.2.2.1 m.2.1 (by omega) (by omega)
    refine ob_eq (mostM t, t, m, z0) ?_ ?_
    · unfold mostM
      by_cases c : t.1 = 1
      · rw [dT c, cnd_t, if_pos c]
      · rw [dF c, cnd_f, if_neg c]
    try simp only
    by_cases q : freshM t = false ∨ m.2.1 ∈ t.2.2.2.2.2.2.1 ∨ ((findK t.2.2.2.2.2.2.2.2.2.2.2.2 m.2.1).1 = false ∧ mostM t ≤ (t.2.2.2.2.2.2.2.2.2.2.2.2.length : Int))
    · rw [if_pos q]
      refine ob_eq (.inr ([sayM t 3 m.2.1], t)) ?_ (by (try simp only); rw [selim_r])
      rw [hfr, obind_s]
      cases hF : freshM t with
      | false =>
        rw [Bool.not_false, cnd_t, obind_s]
        try simp only
        rw [cnd_t, rSays_eq, obind_s]
      | true =>
        rw [Bool.not_true, cnd_f, hhas, obind_s, obind_s]
        try simp only
        by_cases c2 : m.2.1 ∈ t.2.2.2.2.2.2.1
        · rw [dT c2, cnd_t, rSays_eq, obind_s]
        · obtain ⟨q1, q2⟩ := q.elim (fun e => by rw [hF] at e; cases e) (fun e => e.elim (fun e => absurd e c2) id)
          rw [dF c2, cnd_f, q1, Bool.not_false, cnd_t, dT q2, cnd_t, rSays_eq, obind_s]
    · rw [if_neg q]
      have hF : freshM t = true := by
        cases hF : freshM t with
        | false => exact absurd (.inl hF) q
        | true => rfl
      have c2 : ¬ m.2.1 ∈ t.2.2.2.2.2.2.1 := fun e => q (.inr (.inl e))
      refine ob_eq (.inl (t, m, z0)) ?_ ?_
      · rw [hfr, obind_s, hF, Bool.not_true, cnd_f, hhas, obind_s, obind_s]
        try simp only
        rw [dF c2, cnd_f]
        cases hf : (findK t.2.2.2.2.2.2.2.2.2.2.2.2 m.2.1).1 with
        | true => rw [Bool.not_true, cnd_f]
        | false => rw [Bool.not_false, cnd_t, dF (fun e => q (.inr (.inr ⟨hf, e⟩))), cnd_f]
      · try simp only
        rw [selim_l, hhear, obind_s]
        try simp only
        rw [withK_eq, rFull_eq N _ (h.wk hkw) (by omega), obind_s]
        obtain ⟨id, inc, now, par, pinc, grd, path, ep, born, ask, unt, stp, kids⟩ := t
        rfl
  rw [dF c1, cnd_f, if_neg c1]
  by_cases c2 : m.1 = 2
  · rw [dT c2, cnd_t, if_pos c2, rAccepted_eq N hN t h hB m hm, obind_s]
  rw [dF c2, cnd_f, if_neg c2]
  by_cases c3 : m.1 = 3
  · rw [dT c3, cnd_t, if_pos c3]
    refine ob_eq ((if isAsk t m then vainM t else t), z0) ?_ ?_
    · by_cases d : t.2.2.2.2.2.2.2.2.2.1 ≠ 0
      · rw [dT d, cnd_t]
        by_cases d2 : t.2.2.2.2.2.2.2.2.2.1 = m.2.1
        · rw [dT d2, cnd_t, if_pos ⟨d, d2.symm⟩, wr_m (z := t.2.2.2.2.2.2.2.2.2.2.2.1 + 1) (by omega) (by omega)]
          obtain ⟨id, inc, now, par, pinc, grd, path, ep, born, ask, unt, stp, kids⟩ := t
          rfl
        · rw [dF d2, cnd_f, if_neg (fun q => d2 q.2.symm)]
      · rw [dF d, cnd_f, if_neg (fun q => d q.1)]
    · unfold refuseM
      try simp only
      by_cases u : isUp t m
      · rw [decide_eq_true u, cnd_t, rOff_eq, obind_s, if_pos u]
        split
        · obtain ⟨id, inc, now, par, pinc, grd, path, ep, born, ask, unt, stp, kids⟩ := t
          rfl
        · rfl
      · rw [decide_eq_false u, cnd_f, if_neg u]
  rw [dF c3, cnd_f, if_neg c3]
  by_cases c4 : m.1 = 4
  · rw [dT c4, cnd_t, if_pos c4, hfind, obind_s]
    unfold beatUpM
    cases hf : (findK t.2.2.2.2.2.2.2.2.2.2.2.2 m.2.1).1 with
    | false => rw [Bool.not_false, cnd_t, rSays_eq, obind_s, if_pos rfl]
    | true =>
      rw [Bool.not_true, cnd_f, hhear, obind_s, if_neg (by simp)]
      try simp only
      rw [withK_eq]
  rw [dF c4, cnd_f, if_neg c4]
  by_cases c5 : m.1 = 5
  · rw [dT c5, cnd_t, if_pos c5]
    unfold beatDnM
    by_cases u : isUp t m
    · rw [decide_eq_true u, Bool.not_true, cnd_f, if_pos u, rAdd_eq N _ _ (by omega) hm.pl, obind_s, wr_m (z := t.2.2.1 - m.2.2.2.2.2.1) (by omega) (by omega)]
      by_cases v : VP (m.2.2.2.2.2.2.1 ++ [t.1])
      · rw [if_pos v, if_pos v]
        try simp only
        rw [Bool.not_true, cnd_f, rgrd_eq N _ hm.pl, obind_s]
        by_cases c : t.2.2.2.2.2.2.2.2.1 < t.2.2.1 - m.2.2.2.2.2.1
        · rw [dT c, cnd_t, if_pos c, if_pos c]
        · rw [dF c, cnd_f, if_neg c, if_neg c]
      · rw [if_neg v, if_neg v]
        try simp only
        rw [Bool.not_false, cnd_t, rOff_eq, obind_s, rSays_eq, obind_s]
    · rw [decide_eq_false u, Bool.not_false, cnd_t, if_neg u, rSays_eq, obind_s]
  rw [dF c5, cnd_f, if_neg c5]
  by_cases c6 : m.1 = 6
  · rw [dT c6, cnd_t, if_pos c6, rDrop_eq N hN _ _ (by omega), obind_s, withK_eq]
  · rw [dF c6, cnd_f, if_neg c6]
theorem ob_exl {α β ρ : Type} {o : Option α} {g : α → Option (β ⊕ ρ)} {R : β → Prop} (V : α → Prop) (h : ∃ v, o = some v ∧ V v) (hg : ∀ v, V v → ∃ y, g v = some (.inl y) ∧ R y) : ∃ y, obind o g = some (.inl y) ∧ R y := by
  obtain ⟨v, e, hv⟩ := h
  rw [e]; exact hg v hv
theorem rNew_eq (N : Nat) (id inc now g : Int) : W_ref19_New N (id, inc, now, g) = some (if id = 1 then (id, inc, now, 0, 0, g, [1], 0, now, 0, 0, 0, []) else (id, inc, now, 0, 0, g, [], 0, 0, 0, 0, 0, [])) := by
  unfold W_ref19_New V_ref19_New
  by_cases c : id = 1
  · rw [dT c, cnd_t, if_pos c]
  · rw [dF c, cnd_f, if_neg c]
theorem new_TwN (id g now : Int) (h1 : 1 ≤ id ∧ id ≤ 8) (hg : 0 ≤ g ∧ g ≤ 8) (hn : 0 ≤ now ∧ now ≤ 9) : Tw id 10 (if id = 1 then (id, 2, now, 0, 0, g, [1], 0, now, 0, 0, 0, []) else (id, 2, now, 0, 0, g, [], 0, 0, 0, 0, 0, [])) := by
  split
  · rename_i q
    exact ⟨⟨h1, by omega, by omega, by omega, by omega, by omega, by simp, trivial, by omega, hg⟩, rfl, rfl, ⟨by simp, by simp only; omega⟩, fun _ => ⟨rfl, rfl⟩, fun _ => ⟨VP_one, by simp [q]⟩, fun _ e => absurd q e, by simp, fun k hk => by simp at hk, by simp; split <;> omega⟩
  · rename_i q
    exact ⟨⟨h1, by omega, by omega, by omega, by omega, by omega, by simp, trivial, by omega, hg⟩, rfl, rfl, ⟨by simp, by simp only; omega⟩, fun e => absurd e q, fun e => by
      rcases e with e | e
      · exact absurd rfl e
      · exact absurd e q, fun _ _ => rfl, by simp only; omega, fun k hk => by simp at hk, by simp; split <;> omega⟩
def pinc (t : TT) : Int := t.2.2.2.2.1
def kidsT (t : TT) : List Kd := t.2.2.2.2.2.2.2.2.2.2.2.2
def parT (t : TT) : Int := t.2.2.2.1
def TR (t u : TT) : Prop := (∀ k ∈ kidsT u, k ∈ kidsT t) ∧ (parT u ≠ 0 → parT t ≠ 0 ∧ pinc u = pinc t)
theorem TR.refl (t : TT) : TR t t := ⟨fun _ h => h, fun h => ⟨h, rfl⟩⟩
theorem TR.trans {t u v : TT} (h : TR t u) (k : TR u v) : TR t v := ⟨fun x hx => h.1 x (k.1 x hx), fun hx => ⟨(h.2 (k.2 hx).1).1, (k.2 hx).2.trans (h.2 (k.2 hx).1).2⟩⟩
theorem TR.t1 (t : TT) : TR t (tick1 t) := by
  obtain ⟨id, inc, now, par, pinc, grd, path, ep, born, ask, unt, stp, kids⟩ := t
  rw [tick1_def]
  split <;> exact ⟨fun k hk => (List.mem_filter.1 hk).1, fun h => ⟨h, rfl⟩⟩
theorem TR.off (t : TT) (s : Int) : TR t (letgo t s) := by
  obtain ⟨id, inc, now, par, pinc, grd, path, ep, born, ask, unt, stp, kids⟩ := t
  exact ⟨fun k hk => hk, fun h => absurd rfl h⟩
theorem TR.t2 (t : TT) : TR t (tick2 t) := by
  unfold tick2
  split
  · exact TR.off t 0
  · exact TR.refl t
theorem TR.t3 (t : TT) : TR t (tick3 t).1 := by
  unfold tick3
  split
  · obtain ⟨id, inc, now, par, pinc, grd, path, ep, born, ask, unt, stp, kids⟩ := t
    unfold seekM
    try simp only
    split
    · split <;> exact ⟨fun k hk => hk, fun h => ⟨h, rfl⟩⟩
    · exact ⟨fun k hk => hk, fun h => ⟨h, rfl⟩⟩
  · exact TR.refl t
theorem TR.tick (t : TT) : TR t (tickM t).2 := ((TR.t1 t).trans (TR.t2 _)).trans (TR.t3 _)
theorem hearM_mem {l : List Kd} {k w : Kd} (h : w ∈ hearM l k) : w = k ∨ w ∈ l := by
  unfold hearM at h
  split at h
  · exact .inr h
  · exact putK_mem k l w h
def TC (t : TT) (i : Int) (u : TT) : Prop := (∀ k ∈ kidsT u, k ∈ kidsT t ∨ k.2.1 = i) ∧ (parT u ≠ 0 → (parT t ≠ 0 ∧ pinc u = pinc t) ∨ pinc u = i)
theorem TC.of {t u : TT} (i : Int) (h : TR t u) : TC t i u := ⟨fun k hk => .inl (h.1 k hk), fun e => .inl (h.2 e)⟩
theorem TC.disp (t : TT) (m : Ms) (lo : Int) : TC t m.2.2.2.1 (dispM t m lo).2 := by
  have hr := TR.refl t
  have hk : TC t m.2.2.2.1 (withK t (hearM t.2.2.2.2.2.2.2.2.2.2.2.2 (m.2.1, m.2.2.2.1, t.2.2.1))) := by
    obtain ⟨id, inc, now, par, pinc, grd, path, ep, born, ask, unt, stp, kids⟩ := t
    refine ⟨fun k hk => ?_, fun e => .inl ⟨e, rfl⟩⟩
    rcases hearM_mem hk with e | e
    · right; rw [e]
    · exact .inl e
  unfold dispM
  split
  · unfold attachM
    split
    · exact .of _ hr
    · exact hk
  split
  · unfold acceptM
    split
    · exact .of _ hr
    · split
      · split
        · exact ⟨fun k hk => .inl hk, fun _ => .inr rfl⟩
        · obtain ⟨id, inc, now, par, pinc, grd, path, ep, born, ask, unt, stp, kids⟩ := t
          exact ⟨fun k hk => .inl hk, fun e => .inl ⟨e, rfl⟩⟩
      · exact .of _ hr
  split
  · unfold refuseM
    try simp only
    split
    · exact .of _ (TR.off t 0)
    · split
      · obtain ⟨id, inc, now, par, pinc, grd, path, ep, born, ask, unt, stp, kids⟩ := t
        exact ⟨fun k hk => .inl hk, fun e => .inl ⟨e, rfl⟩⟩
      · exact .of _ hr
  split
  · unfold beatUpM
    split
    · exact .of _ hr
    · exact hk
  split
  · unfold beatDnM
    split
    · split
      · exact ⟨fun k hk => .inl hk, fun e => .inl ⟨e, rfl⟩⟩
      · exact .of _ (TR.off t 1)
    · exact .of _ hr
  split
  · obtain ⟨id, inc, now, par, pinc, grd, path, ep, born, ask, unt, stp, kids⟩ := t
    exact ⟨fun k hk => .inl (List.mem_filter.1 hk).1, fun e => .inl ⟨e, rfl⟩⟩
  · exact .of _ hr
theorem TC.comes (t : TT) (m : Ms) (lo : Int) : TC t m.2.2.2.1 (comesT t m lo).2 := by
  unfold comesT
  split
  · exact .of _ (TR.refl t)
  split
  · split
    · exact .of _ (TR.refl t)
    · split
      · have h := TC.disp (letgo t 0) m lo
        have ho := TR.off t 0
        exact ⟨fun k hk => (h.1 k hk).elim (fun e => .inl (ho.1 k e)) .inr, fun e => (h.2 e).elim (fun q => .inl ⟨(ho.2 q.1).1, q.2.trans (ho.2 q.1).2⟩) .inr⟩
      · exact TC.disp t m lo
  · exact TC.disp t m lo
structure Pt (id B : Int) (t : TT) : Prop where
  w : Tw id B t
  p : parT t ≠ 0 → 1 ≤ pinc t ∧ pinc t ≤ 3
  k : ∀ k ∈ kidsT t, k.2.1 ≤ 3
theorem Pt.tick {id B : Int} {t : TT} (h : Pt id B t) (hB : B ≤ 900000) : Pt id (B + 2) (tickM t).2 := by
  have r := TR.tick t
  exact ⟨(h.w.tick (was := t) hB).1, fun e => by rw [(r.2 e).2]; exact h.p (r.2 e).1, fun k hk => h.k k (r.1 k hk)⟩
theorem Pt.comes {id B : Int} {t : TT} (h : Pt id B t) (hB : B ≤ 900000) (h1B : 1 ≤ B) (m : Ms) (hm : Mb m) (hi : m.2.1 ≠ id) (hc : 1 ≤ m.2.2.2.1 ∧ m.2.2.2.1 ≤ 3) (lo : Int) (hlo : 0 ≤ lo ∧ lo ≤ 1000000) : Pt id (B + 2) (comesT t m lo).2 := by
  have r := TC.comes t m lo
  refine ⟨(h.w.comes hB h1B m hm hi ⟨hc.1, by omega⟩ lo hlo).1.mono (by omega), fun e => ?_, fun k hk => ?_⟩
  · rcases r.2 e with q | q
    · rw [q.2]; exact h.p q.1
    · rw [q]; exact hc
  · rcases r.1 k hk with q | q
    · exact h.k k q
    · rw [q]; exact hc.2
theorem path_back {p : List Int} (h : VP p) : [(1 : Int)] ++ List.drop 1 (List.take p.length p) = p := by
  have h1 := h.1; have h2 := h.2.2.1
  cases p with
  | nil => simp at h1
  | cons a r =>
    have : a = 1 := h2
    subst this
    simp
theorem Tie_eq (N : Nat) (hN : 2000 ≤ N) (id : Int) (hi : 1 ≤ id ∧ id ≤ 8) (l : List Int) (hl : l.length ≤ 200) (hel : ∀ x ∈ l, 0 ≤ x ∧ x ≤ 255) : ∃ t n, W_Picks_Tie N (id, 40, l, 0) = some ((l, n), t) ∧ Pt id 100 t := by
  unfold W_Picks_Tie V_Picks_Tie
  try simp only
  obtain ⟨now, n0, e0, z1, z2, z3, z4⟩ := Num_eq N 5 l 0 (by omega) (by omega) (by omega) hel
  rw [e0, obind_s]
  try simp only
  obtain ⟨g, n1, e1, a1, a2, a3, a4⟩ := Num_eq N 4 l n0 (by omega) (by omega) (by omega) hel
  rw [e1, obind_s, rNew_eq, obind_s]
  try simp only
  have hT0 := new_TwN id g now hi ⟨a1, by omega⟩ ⟨by omega, by omega⟩
  have hP0 : Pt id 10 (if id = 1 then ((id, 2, now, 0, 0, g, [1], 0, now, 0, 0, 0, []) : TT) else (id, 2, now, 0, 0, g, [], 0, 0, 0, 0, 0, [])) := by
    refine ⟨hT0, ?_, ?_⟩
    · split <;> exact fun e => absurd rfl e
    · split <;> exact fun k hk => by simp [kidsT] at hk
  obtain ⟨t0, ht0⟩ : ∃ t0, (if id = 1 then ((id, 2, now, 0, 0, g, [1], 0, now, 0, 0, 0, []) : TT) else (id, 2, now, 0, 0, g, [], 0, 0, 0, 0, 0, [])) = t0 := ⟨_, rfl⟩
  rw [ht0] at hP0
  rw [ht0]
  clear hT0 ht0
  refine loop_G (N := N) (x := (0, (l, n1), z0, t0)) (fun o => ∃ t n, o = some ((l, n), t) ∧ Pt id 100 t) (fun k (v : Int × (List Int × Int) × TT × TT) => ∃ n t, v = (↑k, (l, n), z0, t) ∧ k ≤ 40 ∧ 0 ≤ n ∧ Pt id (10 + 2 * k) t) 40 (fun r : (List Int × Int) × TT × TT => ∃ n t, r = ((l, n), z0, t) ∧ Pt id 100 t) ⟨n1, t0, rfl, by omega, by omega, by simpa using hP0⟩ (by omega) ?_ (fun k v h => by obtain ⟨n, t, _, h, _⟩ := h; exact h) ?_
  · rintro r ⟨n, t, rfl, h⟩
    exact ⟨t, n, rfl, h⟩
  rintro k v ⟨n, t, rfl, hk, hn, hP⟩
  have fin : Pt id 100 t := ⟨hP.w.mono (by omega), hP.p, hP.k⟩
  try simp only
  by_cases c40 : (k : Int) < 40
  case neg => right; rw [dF c40, cnd_f]; exact ⟨_, rfl, _, _, rfl, fin⟩
  rw [dT c40, cnd_t, Over_eq, obind_s]
  by_cases co : (l.length : Int) ≤ n
  · right
    rw [dT co, Bool.not_true, cnd_f]
    exact ⟨_, rfl, _, _, rfl, fin⟩
  rw [dF co, Bool.not_false, cnd_t]
  left
  have hkb : ∀ q ∈ t.2.2.2.2.2.2.2.2.2.2.2.2, -1000000000 ≤ q.2.2 ∧ q.2.2 ≤ 1000000000 := fun q hq => by have := (hP.w.k q hq).2.2; omega
  have hab : 0 ≤ t.2.2.2.2.2.2.2.2.2.1 ∧ t.2.2.2.2.2.2.2.2.2.1 ≤ 8 := hP.w.b.2.2.2.2.2.2.2.2.1
  obtain ⟨b, n2, e2, b1, b2, b3, b4⟩ := Num_eq N 4 l n (by omega) (by omega) (by omega) hel
  rw [e2, obind_s]
  try simp only
  rw [wr_m (z := (k : Int) + 1) (by omega) (by omega)]
  by_cases b0 : b = 0
  · rw [dT b0, cnd_t, rTick_eq N hN t hP.w.b (by omega) hkb, obind_s]
    have := hP.tick (by omega)
    exact ⟨_, rfl, _, _, by rw [show ((k + 1 : Nat) : Int) = k + 1 by omega], by omega, by omega, by rw [show 10 + 2 * ((k + 1 : Nat) : Int) = 10 + 2 * k + 2 by omega]; exact this⟩
  rw [dF b0, cnd_f]
  obtain ⟨m, n3, e3, hm, hs, hto, hin, p1, p2⟩ := Msg_eqn N (by omega) id l n2 (by omega) (by omega) hi hel
  have hmb := Mb.of hm hs
  have hmf : m.2.1 ≠ id := by rw [← hto]; exact hm.2.2.2.1
  have hmi : 1 ≤ m.2.2.2.1 := hm.2.2.2.2.1.1
  have last : ∀ (w : Ms) (n' : Int), Mb w → w.2.1 ≠ id → 1 ≤ w.2.2.2.1 → w.2.2.2.1 ≤ 3 → 0 ≤ n' → ∃ y, obind (W_ref19_Comes N (t, w, (1 : Int))) (fun (b : List Ms × TT) => (some (Sum.inl ((k : Int) + 1, (l, n'), z0, b.2)) : Option ((Int × (List Int × Int) × TT × TT) ⊕ (List Int × Int) × TT × TT))) = some (.inl y) ∧ ∃ n t, y = (((k + 1 : Nat) : Int), (l, n), z0, t) ∧ k + 1 ≤ 40 ∧ 0 ≤ n ∧ Pt id (10 + 2 * ((k + 1 : Nat) : Int)) t := by
    intro w n' w1 w2 w3 w4 hn'
    rw [rComes_eq N hN t hP.w.b (by omega) w w1 _, obind_s]
    have := hP.comes (by omega) (by omega) w w1 w2 ⟨w3, w4⟩ 1 (by omega)
    exact ⟨_, rfl, _, _, by rw [show ((k + 1 : Nat) : Int) = k + 1 by omega], by omega, hn', by rw [show 10 + 2 * ((k + 1 : Nat) : Int) = 10 + 2 * k + 2 by omega]; exact this⟩
  by_cases c1 : b = 1
  · rw [dT c1, cnd_t, e3, obind_s]
    try simp only
    refine ob_exl (fun u : (List Int × Int) × TT × TT × Ms => ∃ w n, u = ((l, n), z0, t, w) ∧ (Mb w ∧ w.2.1 ≠ id ∧ 1 ≤ w.2.2.2.1 ∧ w.2.2.2.1 ≤ 3) ∧ 0 ≤ n) ?_ ?_
    · by_cases d0 : t.2.2.2.2.2.2.2.2.2.1 ≠ 0
      · rw [dT d0, cnd_t]
        by_cases d1 : t.2.2.2.2.2.2.2.2.2.1 ≠ id
        · rw [dT d1, cnd_t]
          obtain ⟨x5, n5, e5, f1, f2, f3, f4⟩ := Num_eq N 2 l n3 (by omega) (by omega) (by omega) hel
          rw [e5, obind_s]
          try simp only
          obtain ⟨x6, n6, e6, g1, g2, g3, g4⟩ := Num_eq N 9 l n5 (by omega) (by omega) (by omega) hel
          rw [e6, obind_s]
          try simp only
          obtain ⟨x7, n7, e7, h1, h2, h3, h4⟩ := Num_eq N 22 l n6 (by omega) (by omega) (by omega) hel
          rw [e7, obind_s]
          try simp only
          obtain ⟨p, n8, e8, i1, i2, i3⟩ := Path_eq N l n7 (by omega) (by omega) (by omega) hel
          rw [e8, obind_s]
          try simp only
          obtain ⟨x9, n9, e9, j1, j2, j3, j4⟩ := Num_eq N 4 l n8 (by omega) (by omega) (by omega) hel
          have hpl := i1.2.1
          have hpl1 := i1.1
          rw [dT (show (0 : Int) ≤ 1 by omega), dT (show (1 : Int) ≤ p.length by omega), Bool.and_self, cnd_t, path_back i1, cnd_T (by omega), e9, obind_s, wr_m (z := 1 + x5) (by omega) (by omega), wr_m (z := 1 + x9) (by omega) (by omega)]
          exact ⟨_, rfl, _, _, rfl, ⟨⟨⟨by simp only; omega, by simp only; omega⟩, ⟨by simp only; omega, by simp only; omega⟩, ⟨by simp only; omega, by simp only; omega⟩, by simp only; omega⟩, d1, by simp only; omega, by simp only; omega⟩, by omega⟩
        · rw [dF d1, cnd_f]
          exact ⟨_, rfl, _, _, rfl, ⟨hmb, hmf, hmi, hin⟩, by omega⟩
      · rw [dF d0, cnd_f]
        exact ⟨_, rfl, _, _, rfl, ⟨hmb, hmf, hmi, hin⟩, by omega⟩
    · rintro u ⟨w, n5, rfl, ⟨w1, w2, w3, w4⟩, q1⟩
      exact last w n5 w1 w2 w3 w4 q1
  rw [dF c1, cnd_f]
  by_cases c2 : b = 2
  · rw [dT c2, cnd_t, e3, obind_s]
    try simp only
    refine ob_exl (fun u : (List Int × Int) × TT × TT × Ms => ∃ w n, u = ((l, n), z0, t, w) ∧ (Mb w ∧ w.2.1 ≠ id ∧ 1 ≤ w.2.2.2.1 ∧ w.2.2.2.1 ≤ 3) ∧ 0 ≤ n) ?_ ?_
    · by_cases d0 : t.2.2.2.1 ≠ 0
      · rw [dT d0, cnd_t]
        obtain ⟨x6, n6, e6, g1, g2, g3, g4⟩ := Num_eq N 30 l n3 (by omega) (by omega) (by omega) hel
        rw [e6, obind_s]
        try simp only
        obtain ⟨x7, n7, e7, h1, h2, h3, h4⟩ := Num_eq N 20 l n6 (by omega) (by omega) (by omega) hel
        rw [e7, obind_s]
        try simp only
        obtain ⟨p, n8, e8, i1, i2, i3⟩ := Path_eq N l n7 (by omega) (by omega) (by omega) hel
        rw [e8, obind_s]
        try simp only
        obtain ⟨x9, n9, e9, j1, j2, j3, j4⟩ := Num_eq N 9 l n8 (by omega) (by omega) (by omega) hel
        rw [e9, obind_s]
        have hpl := i1.2.1
        have hpp := hP.w.p
        have hpi := hP.p d0
        exact ⟨_, rfl, _, _, rfl, ⟨⟨⟨by simp only; omega, by simp only; omega⟩, ⟨by simp only; omega, by simp only; omega⟩, ⟨by simp only; omega, by simp only; omega⟩, by simp only; omega⟩, hpp.2, hpi.1, hpi.2⟩, by omega⟩
      · rw [dF d0, cnd_f]
        exact ⟨_, rfl, _, _, rfl, ⟨hmb, hmf, hmi, hin⟩, by omega⟩
    · rintro u ⟨w, n5, rfl, ⟨w1, w2, w3, w4⟩, q1⟩
      exact last w n5 w1 w2 w3 w4 q1
  rw [dF c2, cnd_f, e3, obind_s]
  exact last m n3 hmb hmf hmi hin p1
theorem fresh_def (t : TT) : freshM t = if t.1 = 1 then true else if t.2.2.2.1 ≠ 0 then decide (t.2.2.1 - t.2.2.2.2.2.2.2.2.1 ≤ 20) else false := by
  obtain ⟨id, inc, now, par, pinc, grd, path, ep, born, ask, unt, stp, kids⟩ := t
  rfl
theorem tick_msgs (t : TT) : ∀ m ∈ (tickM t).1, (m.1 = 5 → m.2.2.2.2.2.1 = (tickM t).2.2.2.1 - (tickM t).2.2.2.2.2.2.2.2.2.1) ∧ (m.1 = 4 → m.2.2.1 = (tickM t).2.2.2.2.1) := by
  have h3 : ∀ u : TT, ∀ m ∈ (tick3 u).2, m.1 = 1 := by
    intro u m hm
    obtain ⟨id, inc, now, par, pinc, grd, path, ep, born, ask, unt, stp, kids⟩ := u
    unfold tick3 at hm
    split at hm
    · unfold seekM at hm
      simp only at hm
      split at hm
      · split at hm
        · rw [List.mem_singleton.1 hm]
        · simp at hm
      · rw [List.mem_singleton.1 hm]
    · simp at hm
  have hb : ∀ u : TT, ∀ m ∈ beatM u, (m.1 = 5 → m.2.2.2.2.2.1 = u.2.2.1 - u.2.2.2.2.2.2.2.2.1) ∧ (m.1 = 4 → m.2.2.1 = u.2.2.2.1) := by
    intro u m hm
    obtain ⟨id, inc, now, par, pinc, grd, path, ep, born, ask, unt, stp, kids⟩ := u
    unfold beatM at hm
    rcases List.mem_append.1 hm with hm | hm
    · split at hm
      · rw [List.mem_singleton.1 hm]
        exact ⟨fun e => absurd (show (4 : Int) = 5 from e) (by decide), fun _ => rfl⟩
      · simp at hm
    · split at hm
      · obtain ⟨k, _, rfl⟩ := List.mem_map.1 hm
        exact ⟨fun _ => rfl, fun e => absurd (show (5 : Int) = 4 from e) (by decide)⟩
      · simp at hm
  intro m hm
  have hm' : m ∈ (if (t.2.2.1 + 1) % 2 = 0 then (tick3 (tick2 (tick1 t))).2 ++ beatM (tick3 (tick2 (tick1 t))).1 else (tick3 (tick2 (tick1 t))).2) := hm
  show (m.1 = 5 → m.2.2.2.2.2.1 = (tick3 (tick2 (tick1 t))).1.2.2.1 - (tick3 (tick2 (tick1 t))).1.2.2.2.2.2.2.2.2.1) ∧ (m.1 = 4 → m.2.2.1 = (tick3 (tick2 (tick1 t))).1.2.2.2.1)
  split at hm'
  · rcases List.mem_append.1 hm' with q | q
    · have := h3 _ m q
      exact ⟨fun e => by omega, fun e => by omega⟩
    · exact hb _ m q
  · have := h3 _ m hm'
    exact ⟨fun e => by omega, fun e => by omega⟩
theorem tick_age (t : TT) (hid : t.1 ≠ 1) (hp : t.2.2.2.1 ≠ 0) : (tickM t).2.1 = t.1 ∧ (tickM t).2.2.2.2.2.2.2.2.2.1 = t.2.2.2.2.2.2.2.2.1 ∧ (tickM t).2.2.2.1 = t.2.2.1 + 1 ∧ ((tickM t).2.2.2.2.1 = 0 → 20 < t.2.2.1 + 1 - t.2.2.2.2.2.2.2.2.1) ∧ ((tickM t).2.2.2.2.1 ≠ 0 → t.2.2.1 + 1 - t.2.2.2.2.2.2.2.2.1 ≤ 20) := by
  show (tick3 (tick2 (tick1 t))).1.1 = t.1 ∧ (tick3 (tick2 (tick1 t))).1.2.2.2.2.2.2.2.2.1 = t.2.2.2.2.2.2.2.2.1 ∧ (tick3 (tick2 (tick1 t))).1.2.2.1 = t.2.2.1 + 1 ∧ ((tick3 (tick2 (tick1 t))).1.2.2.2.1 = 0 → 20 < t.2.2.1 + 1 - t.2.2.2.2.2.2.2.2.1) ∧ ((tick3 (tick2 (tick1 t))).1.2.2.2.1 ≠ 0 → t.2.2.1 + 1 - t.2.2.2.2.2.2.2.2.1 ≤ 20)
  obtain ⟨id, inc, now, par, pinc, grd, path, ep, born, ask, unt, stp, kids⟩ := t
  simp only at hid hp
  rw [tick1_def, if_neg (fun q => hid q.1)]
  have hfr : freshM (id, inc, now + 1, par, pinc, grd, path, ep, born, ask, unt, stp, prK (now + 1) kids) = decide (now + 1 - born ≤ 20) := by
    rw [fresh_def]
    try simp only
    rw [if_neg hid, if_pos hp]
  unfold tick2
  rw [hfr]
  by_cases c : now + 1 - born ≤ 20
  · rw [if_neg (by rw [dT c]; simp)]
    unfold tick3
    rw [if_neg (fun q => hp q.1)]
    exact ⟨rfl, rfl, rfl, fun e => absurd e hp, fun _ => c⟩
  · rw [if_pos ⟨hp, dF c⟩]
    unfold letgo tick3
    rw [if_pos ⟨rfl, hid⟩]
    unfold seekM
    try simp only
    split
    · split
      · exact ⟨rfl, rfl, rfl, fun _ => by (try simp only); omega, fun e => absurd rfl e⟩
      · exact ⟨rfl, rfl, rfl, fun _ => by (try simp only); omega, fun e => absurd rfl e⟩
    · exact ⟨rfl, rfl, rfl, fun _ => by (try simp only); omega, fun e => absurd rfl e⟩
theorem law_aux (N : Nat) (hN : 2000 ≤ N) (hbeg : W_law19_begun N () = some true) (l : List Int) (hel : ∀ x ∈ l, 0 ≤ x ∧ x ≤ 255) (w : Int) (hw : 0 ≤ w) (hw2 : w ≤ 255) : W_law19_TieAges N (l, w) = some true := by
  unfold W_law19_TieAges V_law19_TieAges
  try simp only
  rw [hbeg, obind_s, Bool.not_true, cnd_f]
  by_cases h200 : (200 : Int) < l.length
  · rw [dT h200, cnd_t]
  rw [dF h200, cnd_f]
  have hM : W_Made N l = some (l, 0) := rfl
  rw [hM, obind_s, tm _ _ hw, wr_m (z := w % 7) (by omega) (by omega), wr_m (z := 2 + w % 7) (by omega) (by omega)]
  obtain ⟨id, hid⟩ : ∃ id, 2 + w % 7 = id := ⟨_, rfl⟩
  rw [hid]
  have hi : 2 ≤ id ∧ id ≤ 8 := by omega
  clear hid
  obtain ⟨t, n, e1, hP⟩ := Tie_eq N hN id ⟨by omega, hi.2⟩ l (by omega) hel
  have hti := hP.w.i
  have hag := hP.w.a
  have hbd : ∀ (B : Int) (u : TT), Tb B u → 0 ≤ u.2.2.1 ∧ u.2.2.1 ≤ B ∧ -1000 ≤ u.2.2.2.2.2.2.2.2.1 ∧ u.2.2.2.2.2.2.2.2.1 ≤ B := by
    intro B u h
    obtain ⟨xid, inc, now, par, pinc, grd, path, ep, born, ask, unt, stp, kids⟩ := u
    exact ⟨h.2.1.1, h.2.1.2, h.2.2.1.1, h.2.2.1.2⟩
  have hb0 := hbd _ _ hP.w.b
  rw [e1, obind_s]
  try simp only
  rw [fresh_eq N t hP.w.b (by omega), obind_s, wr_m (z := t.2.2.1 - t.2.2.2.2.2.2.2.2.1) (by omega) (by omega)]
  have hfr : freshM t = (if t.2.2.2.1 ≠ 0 then decide (t.2.2.1 - t.2.2.2.2.2.2.2.2.1 ≤ 20) else false) := by
    rw [fresh_def, if_neg (by omega)]
  rw [hfr]
  by_cases hp : t.2.2.2.1 ≠ 0
  case neg =>
    rw [if_neg hp, Bool.not_false, cnd_t, dT (show t.2.2.2.1 = 0 by omega), cnd_t]
  rw [if_pos hp]
  by_cases hf : t.2.2.1 - t.2.2.2.2.2.2.2.2.1 ≤ 20
  case neg =>
    rw [dF hf, Bool.not_false, cnd_t, dF hp, cnd_f, dT (by omega)]
  rw [dT hf, Bool.not_true, cnd_f]
  refine loop_G (N := N) (x := (0, t)) (fun o => o = some true) (fun k (v : Int × TT) => v.1 = k ∧ k ≤ 21 ∧ Tb (100 + 2 * k) v.2 ∧ v.2.1 = id ∧ v.2.2.2.2.1 ≠ 0 ∧ v.2.2.2.1 - v.2.2.2.2.2.2.2.2.2.1 ≤ 20 ∧ (k : Int) ≤ v.2.2.2.1 - v.2.2.2.2.2.2.2.2.2.1) 21 (fun r : PUnit ⊕ Bool => r = .inr true) ⟨rfl, by omega, by simpa using hP.w.b, hti, hp, hf, by simp only; omega⟩ (by omega) (fun r h => by rw [h, selim_r]) (fun k v h => h.2.1) ?_
  rintro k ⟨i, u⟩ ⟨e, hk, hT, hui, hup, hua, hka⟩
  simp only at e hT hui hup hua hka ⊢
  subst e
  have hub := hbd _ _ hT
  have hage := tick_age u (by omega) hup
  have hmsg := tick_msgs u
  have htl := tick_len hT
  have hTx := hT.tick
  rw [dT (show (k : Int) ≤ 21 by omega), cnd_t, dT hup, cnd_t, wr_m (z := u.2.2.1 - u.2.2.2.2.2.2.2.2.1) (by omega) (by omega), dF (show ¬ 20 < u.2.2.1 - u.2.2.2.2.2.2.2.2.1 by omega), cnd_f, tick_eq N hN u hT (by omega), obind_s]
  obtain ⟨x, hx⟩ : ∃ x, (tickM u).2 = x := ⟨_, rfl⟩
  obtain ⟨M, hMM⟩ : ∃ M, (tickM u).1 = M := ⟨_, rfl⟩
  rw [hx] at hage hmsg hTx ⊢
  rw [hMM] at hmsg htl ⊢
  have hxb := hbd _ _ hTx
  refine loop_G (N := N) (x := (0, u, x)) (fun o => (∃ y, o = some (.inl y : (Int × TT) ⊕ (PUnit ⊕ Bool)) ∧ y.1 = ((k + 1 : Nat) : Int) ∧ k + 1 ≤ 21 ∧ Tb (100 + 2 * ((k + 1 : Nat) : Int)) y.2 ∧ y.2.1 = id ∧ y.2.2.2.2.1 ≠ 0 ∧ y.2.2.2.1 - y.2.2.2.2.2.2.2.2.2.1 ≤ 20 ∧ ((k + 1 : Nat) : Int) ≤ y.2.2.2.1 - y.2.2.2.2.2.2.2.2.2.1) ∨ ∃ r, o = some (.inr r) ∧ r = .inr true) (fun j (v : Int × TT × TT) => v = (↑j, u, x) ∧ j ≤ M.length) M.length (fun r : TT × TT ⊕ Bool => r = .inl (u, x)) ⟨rfl, by omega⟩ (by omega) ?_ (fun j v h => h.2) ?_
  · rintro r rfl
    rw [selim_l]
    try simp only
    rw [dF (show ¬ x.2.2.2.2.2.2.2.2.1 ≠ u.2.2.2.2.2.2.2.2.1 from fun q => q hage.2.1), cnd_f, wr_m (z := u.2.2.1 + 1) (by omega) (by omega), dF (show ¬ x.2.2.1 ≠ u.2.2.1 + 1 from fun q => q hage.2.2.1), cnd_f]
    by_cases c : x.2.2.2.1 = 0
    · right
      rw [dT c, cnd_t, wr_m (by omega) (by omega), dT (by have := hage.2.2.2.1 c; omega)]
      exact ⟨_, rfl, rfl⟩
    · left
      have h20 := hage.2.2.2.2 c
      rw [dF c, cnd_f, wr_m (by omega) (by omega)]
      refine ⟨_, rfl, by simp only; omega, by omega, ?_, by simp only; omega, c, by simp only; omega, by simp only; omega⟩
      rw [show 100 + 2 * ((k + 1 : Nat) : Int) = 100 + 2 * k + 2 by omega]; exact hTx
  · rintro j v ⟨rfl, hj⟩
    try simp only
    by_cases cj : (j : Int) < M.length
    case neg => right; rw [dF cj, cnd_f]; exact ⟨_, rfl, rfl⟩
    left
    obtain ⟨m1, m2⟩ := hmsg _ (getD_memM (l := M) (i := j) (by omega))
    rw [dT cj, cnd_t, dT (show (0 : Int) ≤ (j : Int) by omega), Bool.and_self, cnd_t, Int.toNat_natCast, wr_m (z := (j : Int) + 1) (by omega) (by omega), wr_m (z := x.2.2.1 - x.2.2.2.2.2.2.2.2.1) (by omega) (by omega)]
    have last : cnd true (cnd (decide ((M.getD j mD).1 = (4 : Int))) (cnd true (cnd (decide ((M.getD j mD).2.2.1 ≠ x.2.2.2.1)) (some (Sum.inr (Sum.inr false))) (some (Sum.inl ((j : Int) + 1, u, x)))) none) (some (Sum.inl ((j : Int) + 1, u, x)))) none = (some (Sum.inl ((j : Int) + 1, u, x)) : Option ((Int × TT × TT) ⊕ (TT × TT ⊕ Bool))) := by
      rw [cnd_t]
      by_cases c4 : (M.getD j mD).1 = 4
      · rw [dT c4, cnd_t, cnd_t, dF (fun q => q (m2 c4)), cnd_f]
      · rw [dF c4, cnd_f]
    refine ⟨(((j + 1 : Nat) : Int), u, x), ?_, rfl, by omega⟩
    rw [show ((j + 1 : Nat) : Int) = j + 1 by omega]
    show cnd (decide ((M.getD j mD).1 = 5)) _ _ = _
    by_cases c5 : (M.getD j mD).1 = 5
    · rw [dT c5, cnd_t, cnd_t]
      show cnd (decide ((M.getD j mD).2.2.2.2.2.1 ≠ _)) _ _ = _
      rw [dF (fun q => q (m1 c5)), cnd_f]
      exact last
    · rw [dF c5, cnd_f]
      exact last
def NN : Nat := 20000
theorem begun_ok : W_law19_begun NN () = some true := by decide +kernel
theorem law_true (y0 : List Int) (y1 : Int) (h0 : Twf (.list (.int .u8)) y0) (h1 : Twf (.int .u8) y1) : W_law19_TieAges NN (y0, y1) = some true := by
  refine law_aux NN (by decide) begun_ok y0 (fun x hx => ?_) y1 h1.1 (by have : y1 ≤ 255 := h1.2; omega)
  have := h0.2 x hx
  exact ⟨this.1, this.2⟩

theorem spec (y0 : List Int) (y1 : Int) (h0 : Twf (.list (.int .u8)) y0) (h1 : Twf (.int .u8) y1) : Spec2 P0 6 [valW (.list (.int .u8)) y0, valW (.int .u8) y1] [] (.bs true) [] [] := (con_law19_TieAges_ok NN).2 (y0, y1) true (law_true y0 y1 h0 h1)
theorem lifted (os : Os) (started : os.Started) (H : Type) (enc : TypeId × Value → H) :
    ReturnsInHanded {} Try.checked os 6 .any (Rows.tieAgesSpec.pre6 enc Try.prog Try.f6 Rows.tieAgesRow.domain false) (Rows.tieAgesSpec.post enc Try.prog Try.f6 false true false false) := by
  refine returnsInHanded_of_change (C := Try.checked) own started (by kernel_rfl) Try.func6
    (ChangeSpec.witness6 (enc := enc) (C := Try.checked) false ⟨#[], #[.slice none 0 0, .int .u8 0], []⟩ 8 (by kernel_rfl) (by kernel_rfl) (by kernel_rfl) (by kernel_rfl)) ?_
  intro W base args ds gs before hval0 hW hcnd _
  have hval : ∀ (j : Nat) t v, Try.f6.params[j]? = some t → args[j]? = some v → Value.okWide Try.prog W .any base t v := hval0
  have hW' := hW
  obtain ⟨p, q, hA0, hV, rfl, hfz, hnd⟩ := hW
  have hA : DataW.TrodAll enc Try.prog W 0 (fun _ => true) true Try.f6.params.toList args.toList ds p := hA0
  rw [Try.params6] at hA hval
  obtain ⟨v0, vs0, d0, ds0, p0, q0, hargs, rfl, rfl, h0, r0⟩ := trodAll_cons hA
  obtain ⟨v1, vs1, d1, ds1, p1, q1, rfl, rfl, rfl, h1, r1⟩ := trodAll_cons r0
  obtain ⟨rfl, rfl, rfl⟩ := trodAll_nil r1
  obtain rfl : args = #[v0, v1] := by cases args; simp_all
  obtain ⟨rfl, rfl⟩ := trodVars_none hV
  have k0 := h0
  have lt0 : ∀ x ∈ p0, x.block < W.heap.size := by obtain ⟨m, hm⟩ := k0; exact DataW.trod_lt m _ _ _ hm
  obtain ⟨y0, rp0, wf0⟩ := arg_ok (n := 12) (ty := (.list (.int .u8))) (by kernel_rfl) (hval 0 _ v0 rfl rfl) h0
  have k1 := h1
  have lt1 : ∀ x ∈ p1, x.block < W.heap.size := by obtain ⟨m, hm⟩ := k1; exact DataW.trod_lt m _ _ _ hm
  obtain ⟨y1, rp1, wf1⟩ := arg_ok (n := 12) (ty := (.int .u8)) (by kernel_rfl) (hval 1 _ v1 rfl rfl) h1
  clear hA0 hval0
  refine (law_of2 (spec y0 y1 wf0 wf1) W #[v0, v1] (.cons rp0 (.cons rp1 .nil))).mono fun e W' ⟨he, bel⟩ => ?_
  subst he
  exact ⟨_, rfl, _, _, _, [], _, [], hW', trodAll_mk1 (shut_bool Try.underlying4 _), (trodAll_cons_mk (Below.trod laidOut (by kernel_rfl) (of_decide_eq_true (by kernel_rfl)) k0 bel lt0) (trodAll_cons_mk (Below.trod laidOut (by kernel_rfl) (of_decide_eq_true (by kernel_rfl)) k1 bel lt1) trodAll_mk0)), rfl, bel.frame _, fun h => by cases h⟩

theorem over : Rows.tieAgesRow.holds Try.pinned (OpenSpec.ofChange Rows.tieAgesSpec) :=
  OpenClaim.holds_of_wide 6 Try.f6 rfl rfl rfl rfl rfl rfl rfl ⟨rfl, rfl, rfl, rfl, rfl⟩ rfl rfl rfl rfl rfl (by kernel_rfl) Try.func6 (by kernel_rfl)
    (of_decide_eq_true (by kernel_rfl)) (by unfold Func.isWrapper; first | (rw [if_pos (by decide +kernel)]; kernel_rfl) | (rw [if_neg (by decide +kernel)]; exact ⟨rfl, rfl⟩))
    (fun os started H enc _ => lifted os started H enc)

theorem holds : Rows.TieAgesSaid := over
end Go.Proofs.Ythpfomhimmppiaa.tieAgesX
