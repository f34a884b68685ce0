/- MsgApart: for all arguments the call returns true. The law is brought to a function of Lean's own (W_..) by the machine of the texts beside it, and that is reckoned; no condition. -/
import Derived.Test.YtfgceflanjeejaaMsgApartW0
namespace Go.Proofs.Ytfgceflanjeejaa.msgApartX
open Go.Abs Go.RowKit Go.ChangeShapes Go.WideShapes Go.ChangeAt
set_option maxRecDepth 100000
set_option linter.unusedVariables false
set_option linter.unusedSimpArgs false
/-! What is reckoned. -/
-- PURE
theorem wr_s {z : Int} (h : 0 ≤ z) (h2 : z ≤ 140737488355328) : wr .i64 z = z := wr_i64 (by omega) (by omega)
theorem getD_mem {l : List Int} {j : Nat} (h : j < l.length) : l.getD j 0 ∈ l := by
  rw [List.getD_eq_getElem?_getD, List.getElem?_eq_getElem h]; exact List.getElem_mem h
theorem mem_getD {l : List Int} {x : Int} (h : x ∈ l) : ∃ j, j < l.length ∧ l.getD j 0 = x := by
  obtain ⟨j, hj, e⟩ := List.getElem_of_mem h
  exact ⟨j, hj, by rw [List.getD_eq_getElem?_getD, List.getElem?_eq_getElem hj]; exact e⟩
theorem Index_eq (N : Nat) (l : List Int) (x : Int) (hN : l.length < N) (hl : l.length ≤ 140737488355327) : ∃ r, W_slices_Index_int N (l, x) = some r ∧ (0 ≤ r ↔ x ∈ l) := by
  unfold W_slices_Index_int
  obtain ⟨r, h1, h2⟩ := loopN_run (N := N) (f := fun (v : Int) =>
      cnd (decide (v < ↑(List.length (Prod.fst (l, x)))))
        (cnd (decide ((0 : Int) ≤ v) && decide (v < ↑(List.length (Prod.fst (l, x)))))
          (cnd (decide (Prod.snd (l, x) = List.getD (Prod.fst (l, x)) (Int.toNat v) (0 : Int))) (some (Sum.inr (Sum.inr v)))
            (some (Sum.inl (wr IntKind.i64 (v + (1 : Int))))))
          none)
        (some (Sum.inr (Sum.inl ())))) (x := Int.ofNat 0)
    (fun v => 0 ≤ v ∧ v ≤ l.length ∧ ∀ j : Nat, (j : Int) < v → l.getD j 0 ≠ x) (fun v => l.length - v.toNat) (fun r : PUnit ⊕ Int => match r with | .inl _ => x ∉ l | .inr k => 0 ≤ k ∧ x ∈ l) (fun v ⟨g1, g2, g3⟩ => by
      simp only
      by_cases h : v < l.length
      · simp only [dT h, dT g1, Bool.and_self, cnd_t]
        by_cases he : x = l.getD v.toNat 0
        · right
          rw [dT he, cnd_t]
          exact ⟨_, rfl, g1, by rw [he]; exact getD_mem (by omega)⟩
        · left
          rw [dF he, cnd_f, wr_s (by omega) (by omega)]
          refine ⟨_, rfl, ⟨by omega, by omega, fun j hj => ?_⟩, by omega⟩
          by_cases hjv : (j : Int) < v
          · exact g3 j hjv
          · have : j = v.toNat := by omega
            subst this
            exact fun e => he e.symm
      · right
        rw [dF h, cnd_f]
        refine ⟨_, rfl, fun hm => ?_⟩
        obtain ⟨j, hj, e⟩ := mem_getD hm
        exact g3 j (by omega) e) ⟨by simp, by simp, fun j hj => by simp at hj; omega⟩ (by simp; omega)
  rw [h1, obind_s]
  cases r with
  | inl u => exact ⟨-1, rfl, by simp only at h2; simp [h2]⟩
  | inr k => exact ⟨k, rfl, by simp only at h2; simp [h2.1, h2.2]⟩
theorem Has_eq (N : Nat) (l : List Int) (x : Int) (hN : l.length < N) (hl : l.length ≤ 140737488355327) : W_path_Has N (l, x) = some (decide (x ∈ l)) := by
  obtain ⟨r, h1, h2⟩ := Index_eq N l x hN hl
  unfold W_path_Has W_slices_Contains_int
  simp only [h1, obind_s]
  by_cases h : x ∈ l
  · rw [dT (h2.2 h), dT h]
  · rw [dF (fun e => h (h2.1 e)), dF h]
def VP (x : List Int) : Prop := 1 ≤ x.length ∧ x.length ≤ 10 ∧ x.getD 0 0 = 1 ∧ ∀ j, j < x.length → 1 ≤ x.getD j 0 ∧ x.getD j 0 ≤ 8 ∧ x.getD j 0 ∉ x.take j
open Classical in
theorem pread_eq (N : Nat) (x : List Int) (hN : 12 ≤ N) : W_path_read N x = some (if VP x then .inl x else .inr ()) := by
  unfold W_path_read
  by_cases h1 : (x.length : Int) < 1
  · rw [dT h1, cnd_t, obind_s, cnd_t, if_neg (fun h => by have := h.1; omega)]
  rw [dF h1, cnd_f, obind_s]
  by_cases h2 : (10 : Int) < x.length
  · rw [dT h2, cnd_t, if_neg (fun h => by have := h.2.1; omega)]
  rw [dF h2, cnd_f, dT (show (0 : Int) ≤ 0 by omega), dT (show (0 : Int) < x.length by omega), Bool.and_self, cnd_t]
  by_cases h3 : x.getD 0 0 = 1
  case neg => rw [dT h3, cnd_t, if_neg (fun h => h3 h.2.2.1)]
  rw [dF (by simpa using h3), cnd_f]
  refine obind_loop (fun v : Int => 0 ≤ v ∧ v ≤ x.length ∧ ∀ j : Nat, (j : Int) < v → 1 ≤ x.getD j 0 ∧ x.getD j 0 ≤ 8 ∧ x.getD j 0 ∉ x.take j) (fun v => x.length - v.toNat)
    (fun r : PUnit ⊕ List Int ⊕ PUnit => (r = .inl () ∧ VP x) ∨ (r = .inr (.inr ()) ∧ ¬ VP x)) ⟨by simp, by simp, fun j hj => by simp at hj; omega⟩ (by simp; omega) ?_ ?_
  · rintro r (⟨rfl, h⟩ | ⟨rfl, h⟩)
    · rw [selim_l, if_pos h]
    · rw [selim_r, if_neg h]
  · rintro v ⟨g1, g2, g3⟩
    by_cases h : v < x.length
    · simp only [dT h, dT g1, Bool.and_self, cnd_t, dT (show v ≤ x.length by omega), List.drop_zero]
      have bad : ¬ (1 ≤ x.getD v.toNat 0 ∧ x.getD v.toNat 0 ≤ 8 ∧ x.getD v.toNat 0 ∉ x.take v.toNat) → ¬ VP x := fun hb hv => hb (hv.2.2.2 v.toNat (by omega))
      by_cases b1 : x.getD v.toNat 0 < 1
      · right
        rw [dT b1, cnd_t, obind_s, cnd_t]
        exact ⟨_, rfl, .inr ⟨rfl, bad (fun h => by omega)⟩⟩
      rw [dF b1, cnd_f, obind_s]
      by_cases b2 : 8 < x.getD v.toNat 0
      · right
        rw [dT b2, cnd_t]
        exact ⟨_, rfl, .inr ⟨rfl, bad (fun h => by omega)⟩⟩
      rw [dF b2, cnd_f, Has_eq N _ _ (by rw [List.length_take]; omega) (by rw [List.length_take]; omega), obind_s]
      by_cases b3 : x.getD v.toNat 0 ∈ x.take v.toNat
      · right
        rw [dT b3, cnd_t]
        exact ⟨_, rfl, .inr ⟨rfl, bad (fun h => h.2.2 b3)⟩⟩
      left
      rw [dF b3, cnd_f, wr_s (by omega) (by omega)]
      refine ⟨_, rfl, ⟨by omega, by omega, fun j hj => ?_⟩, by omega⟩
      by_cases hjv : (j : Int) < v
      · exact g3 j hjv
      · have : j = v.toNat := by omega
        subst this
        exact ⟨by omega, by omega, b3⟩
    · right
      rw [dF h, cnd_f]
      exact ⟨_, rfl, .inl ⟨rfl, by omega, by omega, h3, fun j hj => g3 j (by omega)⟩⟩
/-- One more. -/
theorem VP_snoc {p : List Int} (hp : VP p) (id : Int) : VP (p ++ [id]) ↔ (p.length < 10 ∧ 1 ≤ id ∧ id ≤ 8 ∧ id ∉ p) := by
  have gl : (p ++ [id]).getD p.length 0 = id := by simp [List.getD_eq_getElem?_getD]
  have go : ∀ j, j < p.length → (p ++ [id]).getD j 0 = p.getD j 0 := fun j hj => by
    rw [List.getD_eq_getElem?_getD, List.getD_eq_getElem?_getD, List.getElem?_append_left hj]
  constructor
  · rintro ⟨h1, h2, h3, h4⟩
    have := h4 p.length (by simp)
    rw [gl, List.take_left'  rfl] at this
    simp at h2
    exact ⟨by omega, this.1, this.2.1, this.2.2⟩
  · rintro ⟨h1, h2, h3, h4⟩
    obtain ⟨a1, a2, a3, a4⟩ := hp
    refine ⟨by simp, by simp; omega, by rw [go 0 (by omega)]; exact a3, fun j hj => ?_⟩
    by_cases hjp : j < p.length
    · rw [go j hjp, List.take_append_of_le_length (by omega)]
      exact a4 j hjp
    · simp at hj
      have : j = p.length := by omega
      subst this
      rw [gl, List.take_left' rfl]
      exact ⟨h2, h3, h4⟩
open Classical in
theorem May_eq (N : Nat) (p : List Int) (hN : 12 ≤ N) : W_path_May N p = some (decide (VP p)) := by
  unfold W_path_May
  rw [pread_eq N _ hN, obind_s]
  split
  · rename_i h; rw [selim_l, dT h]
  · rename_i h; rw [selim_r, dF h]
open Classical in
/-- A loop that looks at each place till one is bad. -/
theorem all_loop {N len : Nat} {β : Type} {f : Int → Option (Int ⊕ (PUnit ⊕ β))} (bad : Nat → Prop) (r : β) (hN : len < N)
    (hf : ∀ v : Int, 0 ≤ v → v < len → f v = if bad v.toNat then some (.inr (.inr r)) else some (.inl (v + 1))) (he : ∀ v : Int, 0 ≤ v → ¬ v < len → f v = some (.inr (.inl ()))) :
    loopN N f (Int.ofNat 0) = some (if ∃ j, j < len ∧ bad j then .inr r else .inl ()) := by
  obtain ⟨q, h1, h2⟩ := loopN_run (N := N) (f := f) (x := Int.ofNat 0) (fun v => 0 ≤ v ∧ v ≤ len ∧ ∀ j : Nat, (j : Int) < v → ¬ bad j) (fun v => len - v.toNat)
    (fun q => q = if ∃ j, j < len ∧ bad j then .inr r else .inl ()) (fun v ⟨g1, g2, g3⟩ => by
      by_cases h : v < len
      · rw [hf v g1 h]
        by_cases hb : bad v.toNat
        · right
          rw [if_pos hb]
          exact ⟨_, rfl, by rw [if_pos ⟨v.toNat, by omega, hb⟩]⟩
        · left
          rw [if_neg hb]
          refine ⟨_, rfl, ⟨by omega, by omega, fun j hj => ?_⟩, by omega⟩
          by_cases hjv : (j : Int) < v
          · exact g3 j hjv
          · have : j = v.toNat := by omega
            subst this; exact hb
      · right
        rw [he v g1 h]
        exact ⟨_, rfl, by rw [if_neg]; rintro ⟨j, hj, hb⟩; exact g3 j (by omega) hb⟩) ⟨by simp, by simp, fun j hj => by simp at hj; omega⟩ (by simp; omega)
  rw [h1, h2]
open Classical in
theorem rHas_eq (N : Nat) (l : List Int) (x : Int) (hN : l.length < N) (hl : l.length ≤ 140737488355327) : W_ref1_Has N (l, x) = some (decide (x ∈ l)) := by
  unfold W_ref1_Has
  simp only
  rw [all_loop (len := l.length) (fun j => l.getD j 0 = x) true hN (fun v h1 h2 => by
    rw [dT h2, cnd_t, dT h1, Bool.and_self, cnd_t]
    by_cases h : l.getD v.toNat 0 = x
    · rw [dT h, cnd_t, if_pos h]
    · rw [dF h, cnd_f, if_neg h, wr_s (by omega) (by omega)]) (fun v _ h => by rw [dF h, cnd_f]), obind_s]
  by_cases h : x ∈ l
  · rw [if_pos (mem_getD h), selim_r, dT h]
  · rw [if_neg (fun ⟨j, hj, e⟩ => h (e ▸ getD_mem hj)), selim_l, dF h]
open Classical in
theorem rMay_eq (N : Nat) (x : List Int) (hN : 12 ≤ N) : W_ref1_MayPath N x = some (decide (VP x)) := by
  unfold W_ref1_MayPath
  by_cases h1 : (x.length : Int) < 1
  · rw [dT h1, cnd_t, obind_s, cnd_t, dF (fun h => by have := h.1; omega)]
  rw [dF h1, cnd_f, obind_s]
  by_cases h2 : (10 : Int) < x.length
  · rw [dT h2, cnd_t, dF (fun h => by have := h.2.1; omega)]
  rw [dF h2, cnd_f, dT (show (0 : Int) ≤ 0 by omega), dT (show (0 : Int) < x.length by omega), Bool.and_self, cnd_t]
  by_cases h3 : x.getD 0 0 = 1
  case neg => rw [dT h3, cnd_t, dF (fun h => h3 h.2.2.1)]
  rw [dF (by simpa using h3), cnd_f]
  rw [all_loop (len := x.length) (fun j => ¬ (1 ≤ x.getD j 0 ∧ x.getD j 0 ≤ 8 ∧ x.getD j 0 ∉ x.take j)) false (by omega) (fun v g1 g2 => by
    rw [dT g2, dT g1, cnd_t, Bool.and_self, cnd_t, dT (show v ≤ x.length by omega), cnd_t, Bool.and_self, cnd_t, cnd_t, List.drop_zero]
    by_cases b1 : x.getD v.toNat 0 < 1
    · rw [dT b1, cnd_t, if_pos (fun h => by omega)]
    rw [dF b1, cnd_f]
    by_cases b2 : 8 < x.getD v.toNat 0
    · rw [dT b2, cnd_t, if_pos (fun h => by omega)]
    rw [dF b2, cnd_f, rHas_eq N _ _ (by rw [List.length_take]; omega) (by rw [List.length_take]; omega), obind_s]
    by_cases b3 : x.getD v.toNat 0 ∈ x.take v.toNat
    · rw [dT b3, cnd_t, if_pos (fun h => h.2.2 b3)]
    rw [dF b3, cnd_f, if_neg (fun h => h ⟨by omega, by omega, b3⟩), wr_s (by omega) (by omega)]) (fun v _ h => by rw [dF h, cnd_f]), obind_s]
  by_cases hv : VP x
  · rw [if_neg (fun ⟨j, hj, hb⟩ => hb (hv.2.2.2 j hj)), selim_l, dT hv]
  · rw [if_pos, selim_r, dF hv]
    refine Classical.byContradiction fun hn => hv ⟨by omega, by omega, h3, fun j hj => Classical.byContradiction fun hb => hn ⟨j, hj, hb⟩⟩
open Classical in
theorem rAdd_eq (N : Nat) (p : List Int) (id : Int) (hN : 12 ≤ N) (hl : p.length ≤ 1000) : W_ref1_AddPath N (p, id) = some (if VP (p ++ [id]) then (p ++ [id], true) else ([], false)) := by
  unfold W_ref1_AddPath
  simp only
  rw [dT (by omega), cnd_t, dT (by simp; omega), cnd_t, rMay_eq N _ hN, obind_s]
  by_cases h : VP (p ++ [id])
  · rw [dT h, if_pos h, Bool.not_true, cnd_f]
  · rw [dF h, if_neg h, Bool.not_false, cnd_t]
theorem Num_eq (N : Nat) (m : Int) (l : List Int) (n : Int) (hm : 1 ≤ m) (hn : 0 ≤ n) (hn2 : n ≤ 1000000) (hel : ∀ x ∈ l, 0 ≤ x ∧ x ≤ 255) : ∃ k n', W_Picks_Num N (m, l, n) = some (k, l, n') ∧ 0 ≤ k ∧ k < m ∧ n ≤ n' ∧ n' ≤ n + 1 := by
  unfold W_Picks_Num
  simp only
  by_cases h : (l.length : Int) ≤ n
  · rw [dT h, cnd_t]; exact ⟨_, _, rfl, by omega, by omega, by omega, by omega⟩
  rw [dF h, cnd_f, dF (by omega), cnd_f, wr_s (z := n + 1) (by omega) (by omega), wr_s (z := n + 1 - 1) (by omega) (by omega), dT (by omega), dT (by omega), Bool.and_self, cnd_t, dF (by omega), Bool.not_false, cnd_t]
  have hb := hel (l.getD (n + 1 - 1).toNat 0) (getD_mem (by omega))
  rw [wr_s (by omega) (by omega), Int.tmod_eq_emod_of_nonneg (by omega)]
  exact ⟨_, _, rfl, Int.emod_nonneg _ (by omega), Int.emod_lt_of_pos _ (by omega), by omega, by omega⟩
open Classical in
theorem Path_eq (N : Nat) (l : List Int) (n : Int) (hN : 12 ≤ N) (hn : 0 ≤ n) (hn2 : n ≤ 1000) (hel : ∀ x ∈ l, 0 ≤ x ∧ x ≤ 255) : ∃ p n', W_Picks_Path N (l, n) = some (p, l, n') ∧ VP p ∧ n ≤ n' ∧ n' ≤ n + 5 := by
  unfold W_Picks_Path
  simp only
  obtain ⟨k, n1, e1, a1, a2, a3, a4⟩ := Num_eq N 4 l n (by omega) hn (by omega) hel
  rw [e1, obind_s]
  simp only
  obtain ⟨r, h1, h2⟩ := loopN_run (N := N) (f := fun (v : List Int × Int × List Int × Int) =>
        cnd (decide ((0 : Int) < Prod.fst (Prod.snd v)))
          (obind (W_Picks_Num N ((7 : Int), Prod.fst (Prod.snd (Prod.snd v)), Prod.snd (Prod.snd (Prod.snd v))))
            fun (b : Int × List Int × Int) =>
            obind (W_ref1_AddPath N (Prod.fst v, wr IntKind.i64 ((2 : Int) + Prod.fst b)))
              fun (b_1 : List Int × Bool) =>
              cnd (Prod.snd b_1)
                (some
                  (Sum.inl
                    (Prod.fst b_1, wr IntKind.i64 (Prod.fst (Prod.snd v) - (1 : Int)), Prod.fst (Prod.snd b),
                      Prod.snd (Prod.snd b))))
                (some
                  (Sum.inl
                    (Prod.fst v, wr IntKind.i64 (Prod.fst (Prod.snd v) - (1 : Int)), Prod.fst (Prod.snd b),
                      Prod.snd (Prod.snd b)))))
          (some (Sum.inr (Prod.fst v, Prod.fst (Prod.snd (Prod.snd v)), Prod.snd (Prod.snd (Prod.snd v)))))) (x := ([1], k, l, n1))
    (fun v => VP v.1 ∧ 0 ≤ v.2.1 ∧ v.2.1 ≤ 4 ∧ v.2.2.1 = l ∧ n ≤ v.2.2.2 ∧ v.2.2.2 + v.2.1 ≤ n + 5) (fun v => v.2.1.toNat) (fun r => VP r.1 ∧ r.2.1 = l ∧ n ≤ r.2.2 ∧ r.2.2 ≤ n + 5) (fun v => by
      obtain ⟨p, i, l', m⟩ := v
      rintro ⟨g1, g2, g3, g4, g5, g6⟩
      simp only at g1 g2 g3 g4 g5 g6 ⊢
      subst g4
      by_cases hi : 0 < i
      · left
        obtain ⟨k', m', f1, f2, f3, f4, f5⟩ := Num_eq N 7 l' m (by omega) (by omega) (by omega) hel
        have hp := g1.2.1
        rw [dT hi, cnd_t, f1, obind_s]
        simp only
        rw [wr_s (z := 2 + k') (by omega) (by omega), rAdd_eq N p _ hN (by omega), obind_s, wr_s (z := i - 1) (by omega) (by omega)]
        by_cases hv : VP (p ++ [2 + k'])
        · simp only [if_pos hv, cnd_t]
          exact ⟨_, rfl, ⟨hv, by simp only; omega, by simp only; omega, rfl, by simp only; omega, by simp only; omega⟩, by simp only; omega⟩
        · simp only [if_neg hv, cnd_f]
          exact ⟨_, rfl, ⟨g1, by simp only; omega, by simp only; omega, rfl, by simp only; omega, by simp only; omega⟩, by simp only; omega⟩
      · right
        rw [dF hi, cnd_f]
        exact ⟨_, rfl, g1, rfl, by simp only; omega, by simp only; omega⟩)
    ⟨⟨by simp, by simp, by simp, fun j hj => by
      have : j = 0 := by simpa using hj
      subst this; simp⟩, by simp only; omega, by simp only; omega, rfl, by simp only; omega, by simp only; omega⟩ (by simp only; omega)
  rw [h1, obind_s]
  obtain ⟨b1, b2, b3, b4⟩ := h2
  obtain ⟨p, l', m⟩ := r
  simp only at b1 b2 b3 b4
  subst b2
  exact ⟨_, _, rfl, b1, b3, b4⟩
theorem wr_u32 {z : Int} (h : 0 ≤ z) (h2 : z ≤ 4294967295) : wr .u32 z = z := by
  have e1 : lo .u32 = 0 := by rfl
  have e2 : hi .u32 = 4294967295 := by rfl
  unfold wr
  rw [if_pos ⟨by omega, by omega⟩]
theorem wr_i32 {z : Int} (h : -2147483648 ≤ z) (h2 : z ≤ 2147483647) : wr .i32 z = z := by
  have e1 : lo .i32 = -2147483648 := by rfl
  have e2 : hi .i32 = 2147483647 := by rfl
  unfold wr
  rw [if_pos ⟨by omega, by omega⟩]
theorem getD_memI {l : List Int} {j : Nat} (h : j < l.length) : l.getD j 0 ∈ l := by
  rw [List.getD_eq_getElem?_getD, List.getElem?_eq_getElem h]; exact List.getElem_mem h
/-- Exclusive or. -/
def X (a b : Int) : Int := ((BitVec.ofInt 32 a ^^^ BitVec.ofInt 32 b).toNat : Int)
theorem X_rng (a b : Int) : 0 ≤ X a b ∧ X a b ≤ 4294967295 := by
  unfold X
  have := (BitVec.ofInt 32 a ^^^ BitVec.ofInt 32 b).isLt
  omega
theorem X_wr (a b : Int) : wr .u32 ((BitVec.ofInt 32 a ^^^ BitVec.ofInt 32 b).toNat : Int) = X a b := wr_u32 (X_rng a b).1 (X_rng a b).2
theorem and_one (v : Int) (h : 0 ≤ v) (h2 : v ≤ 4294967295) : wr .u32 ((BitVec.ofInt 32 v &&& BitVec.ofInt 32 1).toNat : Int) = v % 2 := by
  have e : (BitVec.ofInt 32 v &&& BitVec.ofInt 32 1).toNat = (v % 2).toNat := by
    rw [BitVec.toNat_and, BitVec.toNat_ofInt, BitVec.toNat_ofInt]
    have e1 : ((1 : Int) % ((2 ^ 32 : Nat) : Int)).toNat = 1 := by decide
    have e2 : (v % ((2 ^ 32 : Nat) : Int)).toNat = v.toNat := by
      have : v % ((2 ^ 32 : Nat) : Int) = v := Int.emod_eq_of_lt h (by omega)
      rw [this]
    rw [e1, e2, Nat.and_one_is_mod]
    omega
  rw [e, wr_u32 (by omega) (by omega)]
  omega
def s1 (c : Int) : Int := if c % 2 = 1 then X (c / 2) 3988292384 else c / 2
theorem s1_rng {c : Int} (h : 0 ≤ c) (h2 : c ≤ 4294967295) : 0 ≤ s1 c ∧ s1 c ≤ 4294967295 := by
  unfold s1
  split
  · exact X_rng _ _
  · omega
def s1n : Nat → Int → Int
  | 0, c => c
  | n + 1, c => s1 (s1n n c)
theorem s1n_rng {c : Int} (h : 0 ≤ c) (h2 : c ≤ 4294967295) : ∀ n, 0 ≤ s1n n c ∧ s1n n c ≤ 4294967295
  | 0 => ⟨h, h2⟩
  | n + 1 => s1_rng (s1n_rng h h2 n).1 (s1n_rng h h2 n).2
/-- Eight times. -/
theorem loop8 {N : Nat} (hN : 9 ≤ N) {f : Int × Int → Option ((Int × Int) ⊕ Int)} {c : Int} (h : 0 ≤ c) (h2 : c ≤ 4294967295) (hf : ∀ v : Int × Int, 0 ≤ v.1 → v.1 ≤ 4294967295 → 0 ≤ v.2 → v.2 < 8 → f v = some (.inl (s1 v.1, v.2 + 1)))
    (he : ∀ v : Int × Int, ¬ v.2 < 8 → f v = some (.inr v.1)) : loopN N f (c, 0) = some (s1n 8 c) := by
  obtain ⟨r, h1, h3⟩ := loopN_run (N := N) (f := f) (x := (c, 0)) (fun v => 0 ≤ v.2 ∧ v.2 ≤ 8 ∧ v.1 = s1n v.2.toNat c) (fun v => 8 - v.2.toNat) (fun r => r = s1n 8 c) (fun v ⟨g1, g2, g3⟩ => by
    by_cases hv : v.2 < 8
    · left
      have hr := s1n_rng h h2 v.2.toNat
      rw [hf v (by omega) (by omega) g1 hv]
      refine ⟨_, rfl, ⟨by simp only; omega, by simp only; omega, ?_⟩, by simp only; omega⟩
      simp only
      rw [show (v.2 + 1).toNat = v.2.toNat + 1 by omega, g3]; rfl
    · right
      rw [he v hv]
      refine ⟨_, rfl, ?_⟩
      rw [g3, show v.2.toNat = 8 by omega]) ⟨by simp, by simp, rfl⟩ (by simp; omega)
  rw [h1, h3]
def fold (c : Int) (l : List Int) : Int := l.foldl (fun c b => s1n 8 (X c b)) c
theorem fold_snoc (c : Int) (l : List Int) (b : Int) : fold c (l ++ [b]) = s1n 8 (X (fold c l) b) := by simp [fold]
theorem fold_rng {c : Int} (h : 0 ≤ c) (h2 : c ≤ 4294967295) : ∀ l : List Int, 0 ≤ fold c l ∧ fold c l ≤ 4294967295 := by
  intro l
  induction l generalizing c with
  | nil => exact ⟨h, h2⟩
  | cons b r ih =>
    have hx := X_rng c b
    have := s1n_rng hx.1 hx.2 8
    exact ih this.1 this.2
/-- All bytes. -/
theorem loopB {N : Nat} {x : List Int} (hN : x.length < N) {f : Int × Int → Option ((Int × Int) ⊕ Int)} (hf : ∀ v : Int × Int, 0 ≤ v.1 → v.1 ≤ 4294967295 → 0 ≤ v.2 → v.2 < x.length → f v = some (.inl (s1n 8 (X v.1 (x.getD v.2.toNat 0)), v.2 + 1)))
    (he : ∀ v : Int × Int, ¬ v.2 < x.length → f v = some (.inr v.1)) : loopN N f (4294967295, 0) = some (fold 4294967295 x) := by
  obtain ⟨r, h1, h3⟩ := loopN_run (N := N) (f := f) (x := (4294967295, 0)) (fun v => 0 ≤ v.2 ∧ v.2 ≤ x.length ∧ v.1 = fold 4294967295 (x.take v.2.toNat)) (fun v => x.length - v.2.toNat) (fun r => r = fold 4294967295 x) (fun v ⟨g1, g2, g3⟩ => by
    by_cases hv : v.2 < x.length
    · left
      have hr := fold_rng (c := 4294967295) (by omega) (by omega) (x.take v.2.toNat)
      rw [hf v (by omega) (by omega) g1 hv]
      refine ⟨_, rfl, ⟨by simp only; omega, by simp only; omega, ?_⟩, by simp only; omega⟩
      simp only
      have hl : v.2.toNat < x.length := by omega
      have e : x.take (v.2.toNat + 1) = x.take v.2.toNat ++ [x.getD v.2.toNat 0] := by
        rw [List.getD_eq_getElem?_getD, List.getElem?_eq_getElem hl]
        simp
      rw [show (v.2 + 1).toNat = v.2.toNat + 1 by omega, e, fold_snoc, g3]
    · right
      rw [he v hv]
      refine ⟨_, rfl, ?_⟩
      rw [g3, List.take_of_length_le (by omega)]) ⟨by simp, by simp, rfl⟩ (by simp; omega)
  rw [h1, h3]
theorem obind_self {α : Type} (m : Option α) : obind m (fun b => some b) = m := by cases m <;> rfl
theorem step_eq (N : Nat) (hN : 9 ≤ N) (c b : Int) (hb : 0 ≤ b ∧ b ≤ 255) : W_crc_step N (c, b) = some (s1n 8 (X c b)) := by
  unfold W_crc_step
  simp only
  rw [obind_self, wr_u32 (z := b) (by omega) (by omega), X_wr]
  refine loop8 hN (X_rng c b).1 (X_rng c b).2 (fun v g1 g2 g3 g4 => ?_) (fun v h => by rw [dF h, cnd_f])
  rw [dT g4, cnd_t, and_one _ g1 g2, X_wr, wr_s (by omega) (by omega)]
  have e : Int.fdiv v.1 ((2 : Int) ^ 1) = v.1 / 2 := Int.fdiv_eq_ediv_of_nonneg _ (by decide)
  rw [e]
  unfold s1
  by_cases h : v.1 % 2 = 1
  · rw [dT h, cnd_t, if_pos h]
  · rw [dF h, cnd_f, if_neg h]
theorem Sum_eq (N : Nat) (x : List Int) (hN : 9 ≤ N) (hx : x.length < N) (hl : x.length ≤ 1000000) (h : ∀ b ∈ x, 0 ≤ b ∧ b ≤ 255) : W_crc_Sum N x = some (X (IntKind.max .u32) (fold 4294967295 x)) := by
  unfold W_crc_Sum
  rw [loopB hx (fun v g1 g2 g3 g4 => ?_) (fun v h => by rw [dF h, cnd_f]), obind_s, X_wr]
  have hb := h _ (getD_memI (l := x) (j := v.2.toNat) (by omega))
  rw [dT g4, cnd_t, dT g3, Bool.and_self, cnd_t, wr_i32 (by omega) (by omega), step_eq N hN _ _ hb, obind_s, wr_s (by omega) (by omega)]
theorem wr_m {z : Int} (h : -140737488355328 ≤ z) (h2 : z ≤ 140737488355328) : wr .i64 z = z := wr_i64 (by omega) (by omega)
theorem cnd_T {α : Type} {p : Prop} {i : Decidable p} {x y : α} (h : p) : cnd (@decide p i) x y = x := by rw [decide_eq_true h]; rfl
theorem cnd_F {α : Type} {p : Prop} {i : Decidable p} {x y : α} (h : ¬ p) : cnd (@decide p i) x y = y := by rw [decide_eq_false h]; rfl
def U8 (l : List Int) : Prop := ∀ n ∈ l, 0 ≤ n ∧ n ≤ 255
theorem U8_all {l : List Int} (h : U8 l) : (List.all l fun (n : Int) => decide ((0 : Int) ≤ n) && decide (n < (256 : Int))) = true := by
  rw [List.all_eq_true]
  intro n hn
  have := h n hn
  simp only [Bool.and_eq_true, decide_eq_true_eq]; omega
theorem U8_app {a b : List Int} (ha : U8 a) (hb : U8 b) : U8 (a ++ b) := fun n hn => (List.mem_append.1 hn).elim (ha n) (hb n)
theorem U8_take {a : List Int} (ha : U8 a) (k : Nat) : U8 (a.take k) := fun n hn => ha n (List.mem_of_mem_take hn)
theorem U8_drop {a : List Int} (ha : U8 a) (k : Nat) : U8 (a.drop k) := fun n hn => ha n (List.mem_of_mem_drop hn)
theorem U8_get {a : List Int} (ha : U8 a) (j : Nat) (hj : j < a.length) : 0 ≤ a.getD j 0 ∧ a.getD j 0 ≤ 255 := by
  rw [List.getD_eq_getElem?_getD, List.getElem?_eq_getElem hj]
  exact ha _ (List.getElem_mem hj)
def encF : Nat → Int → List Int
  | 0, v => [v]
  | k + 1, v => if v < 128 then [v] else (v % 128 + 128) :: encF k (v / 128)
theorem encF_U8 : ∀ (k : Nat) (v : Int), 0 ≤ v → v < 128 * 128 ^ k → U8 (encF k v) ∧ (encF k v).length ≤ k + 1 ∧ 0 < (encF k v).length
  | 0, v, h, h2 => by
    refine ⟨fun n hn => ?_, by simp [encF], by simp [encF]⟩
    simp only [encF, List.mem_singleton] at hn
    subst hn
    simp at h2
    omega
  | k + 1, v, h, h2 => by
    simp only [encF]
    split
    · refine ⟨fun n hn => ?_, by simp, by simp⟩
      simp only [List.mem_singleton] at hn
      subst hn; omega
    · have h3 : v < 128 * 128 ^ k * 128 := by rw [Int.pow_succ] at h2; omega
      obtain ⟨a, b, _⟩ := encF_U8 k (v / 128) (by omega) (by omega)
      refine ⟨fun n hn => ?_, by simp only [List.length_cons]; omega, by simp⟩
      rcases List.mem_cons.1 hn with rfl | hn
      · omega
      · exact a n hn
theorem putLoop {f : Int × List Int → Option ((Int × List Int) ⊕ (Int × List Int))} (h1 : ∀ v l, 0 ≤ v → v < 128 → f (v, l) = some (.inr (v, l)))
    (h2 : ∀ v l, 128 ≤ v → v ≤ 1073741824 → l.length ≤ 2000 → f (v, l) = some (.inl (v / 128, l ++ [v % 128 + 128]))) :
    ∀ (k N : Nat) (v : Int) (l : List Int), k < N → 0 ≤ v → v ≤ 1073741824 → v < 128 * 128 ^ k → l.length + k ≤ 2000 → ∃ v' l', loopN N f (v, l) = some (v', l') ∧ l' ++ [v'] = l ++ encF k v ∧ 0 ≤ v' ∧ v' < 128
  | k, 0, v, l, hN, _, _, _, _ => by omega
  | 0, N + 1, v, l, hN, hv, hm, hk, hl => by
    simp at hk
    exact ⟨v, l, by simp only [loopN, h1 v l hv hk], rfl, hv, hk⟩
  | k + 1, N + 1, v, l, hN, hv, hm, hk, hl => by
    by_cases c : v < 128
    · exact ⟨v, l, by simp only [loopN, h1 v l hv c], by simp only [encF, if_pos c], hv, c⟩
    · have h3 : v < 128 * 128 ^ k * 128 := by rw [Int.pow_succ] at hk; omega
      obtain ⟨v', l', e1, e2, e3, e4⟩ := putLoop h1 h2 k N (v / 128) (l ++ [v % 128 + 128]) (by omega) (by omega) (by omega) (by omega) (by simp only [List.length_append, List.length_singleton]; omega)
      refine ⟨v', l', by simp only [loopN, h2 v l (by omega) hm (by omega)]; exact e1, ?_, e3, e4⟩
      rw [e2]
      simp only [encF, if_neg c, List.append_assoc, List.singleton_append]
def enc (v : Int) : List Int := encF 4 v
theorem Clone_b (N : Nat) (l : List Int) (hl : l.length ≤ 1000) : W_bytes_Clone N l = some l := by
  unfold W_bytes_Clone
  rw [dT (by omega), cnd_t]
theorem stepP1 (v : Int) (l : List Int) (h : v < 128) : cnd (decide ((128 : Int) ≤ v))
              (cnd (decide ((List.length l + List.length [wr IntKind.u8 (wr IntKind.i64 (Int.tmod v (128 : Int) + (128 : Int)))]) * (1 : Nat) ≤ (140737488355328 : Nat)))
                (some (Sum.inl (wr IntKind.i64 (Int.tdiv v (128 : Int)), l ++ [wr IntKind.u8 (wr IntKind.i64 (Int.tmod v (128 : Int) + (128 : Int)))])))
                none)
              (some (Sum.inr (v, l) : (Int × List Int) ⊕ (Int × List Int))) = some (Sum.inr (v, l)) := by rw [dF (by omega), cnd_f]
theorem stepP2 (v : Int) (l : List Int) (h : 128 ≤ v) (h2 : v ≤ 1073741824) (hl : l.length ≤ 2000) : cnd (decide ((128 : Int) ≤ v))
              (cnd (decide ((List.length l + List.length [wr IntKind.u8 (wr IntKind.i64 (Int.tmod v (128 : Int) + (128 : Int)))]) * (1 : Nat) ≤ (140737488355328 : Nat)))
                (some (Sum.inl (wr IntKind.i64 (Int.tdiv v (128 : Int)), l ++ [wr IntKind.u8 (wr IntKind.i64 (Int.tmod v (128 : Int) + (128 : Int)))])))
                none)
              (some (Sum.inr (v, l) : (Int × List Int) ⊕ (Int × List Int))) = some (Sum.inl (v / 128, l ++ [v % 128 + 128])) := by
  rw [dT h, cnd_t, Int.tmod_eq_emod_of_nonneg (by omega), Int.tdiv_eq_ediv_of_nonneg (by omega), wr_m (by omega) (by omega), wr_m (by omega) (by omega), wr_u8 (by omega) (by omega), dT (by simp only [List.length_singleton]; omega), cnd_t]
theorem Put_eq (N : Nat) (hN : 100 ≤ N) (l : List Int) (v : Int) (hl : l.length ≤ 1000) (h0 : 0 ≤ v) (h1 : v ≤ 1073741824) : W_bits_Put N (l, v) = some (l ++ enc v) := by
  unfold W_bits_Put
  simp only [Clone_b N l hl, obind_s]
  rw [dF (by omega), cnd_f, dF (by omega), cnd_f]
  obtain ⟨v', l', e1, e2, e3, e4⟩ := putLoop (f := fun (v : Int × List Int) => cnd (decide ((128 : Int) ≤ Prod.fst v))
              (cnd (decide ((List.length (Prod.snd v) + List.length [wr IntKind.u8 (wr IntKind.i64 (Int.tmod (Prod.fst v) (128 : Int) + (128 : Int)))]) * (1 : Nat) ≤ (140737488355328 : Nat)))
                (some (Sum.inl (wr IntKind.i64 (Int.tdiv (Prod.fst v) (128 : Int)), Prod.snd v ++ [wr IntKind.u8 (wr IntKind.i64 (Int.tmod (Prod.fst v) (128 : Int) + (128 : Int)))])))
                none)
              (some (Sum.inr (Prod.fst v, Prod.snd v)))) (fun v l h h2 => stepP1 v l h2) (fun v l h h2 hl => stepP2 v l h h2 hl) 4 N v l (by omega) h0 h1 (by omega) (by omega)
  rw [e1, obind_s]
  simp only
  have hlen : l'.length ≤ 1010 := by
    have := congrArg List.length e2
    have h3 := (encF_U8 4 v h0 (by omega)).2.1
    simp only [List.length_append, List.length_singleton] at this
    omega
  rw [wr_u8 e3 (by omega), dT (by simp only [List.length_singleton]; omega), cnd_t, e2]
  rfl
theorem enc_U8 {v : Int} (h0 : 0 ≤ v) (h1 : v ≤ 1073741824) : U8 (enc v) ∧ (enc v).length ≤ 5 ∧ 0 < (enc v).length := encF_U8 4 v h0 (by omega)
def by8 (s : List UInt8) : List Int := List.map (fun (b : UInt8) => (↑(UInt8.toNat b) : Int)) s
theorem by8_U8 (s : List UInt8) : U8 (by8 s) := by
  intro n hn
  obtain ⟨b, _, rfl⟩ := List.mem_map.1 hn
  have := b.toNat_lt
  omega
theorem PutText_eq (N : Nat) (hN : 100 ≤ N) (l : List Int) (s : List UInt8) (hl : l.length ≤ 1000) (hs : s.length ≤ 200) : W_bits_PutText N (l, s) = some (l ++ enc s.length ++ by8 s) := by
  have h3 := (enc_U8 (v := (s.length : Int)) (by omega) (by omega)).2.1
  unfold W_bits_PutText
  simp only
  rw [dF (by omega), cnd_f, Put_eq N hN l _ hl (by omega) (by omega), obind_s, dT (by simp only [List.length_append, List.length_map]; omega), cnd_t]
  rfl
/-- The number that bytes begin with. -/
def rd : List Int → Nat → Int → Int → Option (Int × Int)
  | [], _, _, _ => none
  | c :: r, i, v, u => if 5 ≤ i then none else if c < 128 then (if (0 < i ∧ c = 0) ∨ 1073741824 < v + c % 128 * u then none else some (v + c % 128 * u, (i : Int) + 1)) else rd r (i + 1) (v + c % 128 * u) (u * 128)
theorem rd_big : ∀ (l : List Int) (i : Nat) (v u : Int), U8 l → 1073741824 < v → 0 ≤ u → rd l i v u = none
  | [], _, _, _, _, _, _ => rfl
  | c :: r, i, v, u, hU, hv, hu => by
    have hc := hU c (by simp)
    have hm : 0 ≤ c % 128 * u := Int.mul_nonneg (by omega) hu
    simp only [rd]
    split
    · rfl
    · split
      · rw [if_pos (.inr (by omega))]
      · exact rd_big r _ _ _ (fun n hn => hU n (by simp [hn])) (by omega) (by omega)
theorem rd_rng : ∀ (l : List Int) (i : Nat) (v u : Int) (x n : Int), U8 l → 0 ≤ v → 0 ≤ u → rd l i v u = some (x, n) → 0 ≤ x ∧ x ≤ 1073741824 ∧ (i : Int) + 1 ≤ n ∧ n ≤ i + l.length ∧ n ≤ 5
  | [], _, _, _, _, _, _, _, _, h => by cases h
  | c :: r, i, v, u, x, n, hU, hv, hu, h => by
    have hc := hU c (by simp)
    have hm : 0 ≤ c % 128 * u := Int.mul_nonneg (by omega) hu
    simp only [rd] at h
    split at h
    · cases h
    · split at h
      · split at h
        · cases h
        · rename_i h5 _ hn
          have hn2 : ¬ 1073741824 < v + c % 128 * u := fun q => hn (.inr q)
          injection h with h
          injection h with h1 h2
          subst h1 h2
          simp only [List.length_cons]
          omega
      · have := rd_rng r (i + 1) _ _ x n (fun n hn => hU n (by simp [hn])) (by omega) (by omega) h
        simp only [List.length_cons]
        omega
theorem drop_cons {l : List Int} {i : Nat} (h : i < l.length) : l.drop i = l.getD i 0 :: l.drop (i + 1) := by
  rw [List.drop_eq_getElem_cons h, List.getD_eq_getElem?_getD, List.getElem?_eq_getElem h]; rfl
def pw (i : Nat) : Int := 128 ^ i
theorem pw_succ (i : Nat) : pw (i + 1) = pw i * 128 := Int.pow_succ _ _
theorem pw_pos (i : Nat) : 0 < pw i := Int.pow_pos (by omega)
theorem pw_le {i : Nat} (h : i ≤ 5) : pw i ≤ 34359738368 := by
  have : i = 0 ∨ i = 1 ∨ i = 2 ∨ i = 3 ∨ i = 4 ∨ i = 5 := by omega
  rcases this with rfl | rfl | rfl | rfl | rfl | rfl <;> decide
/-- What a round of either loop knows. -/
structure RdI (x : List Int) (v u : Int) (i : Nat) : Prop where
  le : i ≤ x.length
  i5 : i ≤ 5
  eu : u = pw i
  v0 : 0 ≤ v
  v1 : v < pw i
  same : rd (x.drop i) i v u = rd x 0 0 1
theorem RdI.zero (x : List Int) : RdI x 0 1 0 := ⟨by omega, by omega, rfl, by omega, by decide, rfl⟩
theorem RdI.bnd {x : List Int} {v u : Int} {i : Nat} (h : RdI x v u i) (hU : U8 x) (hi : i < x.length) : 0 ≤ v + x.getD i 0 % 128 * u ∧ v + x.getD i 0 % 128 * u < pw (i + 1) ∧ 0 ≤ x.getD i 0 % 128 * u ∧ x.getD i 0 % 128 * u ≤ 127 * pw i := by
  have hc := U8_get hU i hi
  have hp := pw_pos i
  have e := h.eu
  have v0 := h.v0
  have v1 := h.v1
  have h1 : 0 ≤ x.getD i 0 % 128 * u := Int.mul_nonneg (by omega) (by omega)
  have h2 : x.getD i 0 % 128 * u ≤ 127 * u := Int.mul_le_mul_of_nonneg_right (by omega) (by omega)
  rw [pw_succ]
  refine ⟨by omega, by omega, h1, by omega⟩
theorem RdI.next {x : List Int} {v u : Int} {i : Nat} (h : RdI x v u i) (hU : U8 x) (hi : i < x.length) (h5 : i < 5) (hc : ¬ x.getD i 0 < 128) : RdI x (v + x.getD i 0 % 128 * u) (u * 128) (i + 1) := by
  obtain ⟨b1, b2, _⟩ := h.bnd hU hi
  refine ⟨by omega, by omega, by rw [h.eu, pw_succ], b1, b2, ?_⟩
  rw [← h.same, drop_cons hi]
  simp only [rd]
  rw [if_neg (by omega), if_neg hc]
theorem RdI.at_ {x : List Int} {v u : Int} {i : Nat} (h : RdI x v u i) (hi : i < x.length) : rd x 0 0 1 = if 5 ≤ i then none else if x.getD i 0 < 128 then (if (0 < i ∧ x.getD i 0 = 0) ∨ 1073741824 < v + x.getD i 0 % 128 * u then none else some (v + x.getD i 0 % 128 * u, (i : Int) + 1)) else rd (x.drop (i + 1)) (i + 1) (v + x.getD i 0 % 128 * u) (u * 128) := by
  rw [← h.same, drop_cons hi]
  rfl
theorem RdI.stop {x : List Int} {v u : Int} {i : Nat} (h : RdI x v u i) (hi : x.length ≤ i) : rd x 0 0 1 = none := by
  rw [← h.same, List.drop_eq_nil_of_le hi]; rfl
def tk (o : Option (Int × Int)) : Int × Int × Bool := match o with
  | some (v, n) => (v, n, true)
  | none => (0, 0, false)
/-- The text that bytes begin with. -/
def tt (x : List Int) : List UInt8 × Int × Bool := match rd x 0 0 1 with
  | some (v, n) => if (x.length : Int) - n < v then ([], 0, false) else (bytesI ((x.take (n + v).toNat).drop n.toNat), n + v, true)
  | none => ([], 0, false)
theorem mul_split (v u : Int) : v % 128 * u + v / 128 * (u * 128) = v * u := by
  have h := Int.emod_add_mul_ediv v 128
  have e : v / 128 * (u * 128) = 128 * (v / 128) * u := by rw [Int.mul_comm u 128, ← Int.mul_assoc, Int.mul_comm (v / 128) 128]
  rw [e, ← Int.add_mul, h]
theorem rd_enc : ∀ (k : Nat) (v : Int) (r : List Int) (i : Nat) (acc u : Int), 0 ≤ v → v < 128 * 128 ^ k → i + k ≤ 4 → (0 < i → 0 < v) → acc + v * u ≤ 1073741824 → 0 ≤ u → rd (encF k v ++ r) i acc u = some (acc + v * u, (i : Int) + ((encF k v).length : Int))
  | 0, v, r, i, acc, u, h0, h1, hi, hp, hm, hu => by
    simp at h1
    simp only [encF, List.singleton_append, rd]
    rw [if_neg (by omega), if_pos h1, if_neg (by
      rintro (⟨a, b⟩ | a)
      · have := hp a; omega
      · rw [Int.emod_eq_of_lt h0 h1] at a; omega), Int.emod_eq_of_lt h0 h1]
    rfl
  | k + 1, v, r, i, acc, u, h0, h1, hi, hp, hm, hu => by
    simp only [encF]
    split
    · rename_i hv
      simp only [List.singleton_append, rd]
      rw [if_neg (by omega), if_pos hv, if_neg (by
        rintro (⟨a, b⟩ | a)
        · have := hp a; omega
        · rw [Int.emod_eq_of_lt h0 hv] at a; omega), Int.emod_eq_of_lt h0 hv]
      rfl
    · rename_i hv
      have h3 : v < 128 * 128 ^ k * 128 := by rw [Int.pow_succ] at h1; omega
      have e1 : (v % 128 + 128) % 128 = v % 128 := by omega
      have e2 : acc + v % 128 * u + v / 128 * (u * 128) = acc + v * u := by rw [Int.add_assoc, mul_split]
      simp only [List.cons_append, rd]
      rw [if_neg (by omega), if_neg (by omega), e1, rd_enc k (v / 128) r (i + 1) (acc + v % 128 * u) (u * 128) (by omega) (by omega) (by omega) (fun _ => by omega) (by rw [e2]; exact hm) (by omega), e2]
      simp only [List.length_cons]
      congr 2
      omega
theorem rd_big8 : ∀ (l : List Int) (i : Nat) (v u : Int), (∀ n ∈ l, 128 ≤ n) → rd l i v u = none
  | [], _, _, _, _ => rfl
  | c :: r, i, v, u, h => by
    have hc := h c (by simp)
    simp only [rd]
    split
    · rfl
    · rw [if_neg (by omega)]
      exact rd_big8 r _ _ _ (fun n hn => h n (by simp [hn]))
theorem enc_front : ∀ (k : Nat) (v : Int) (j : Nat), 0 ≤ v → j < (encF k v).length → ∀ n ∈ (encF k v).take j, 128 ≤ n
  | 0, v, j, h, hj => by
    simp only [encF, List.length_singleton] at hj
    have : j = 0 := by omega
    subst this
    simp
  | k + 1, v, j, h, hj => by
    simp only [encF] at hj ⊢
    split at hj
    · simp only [List.length_singleton] at hj
      have : j = 0 := by omega
      subst this
      simp
    · rename_i hv
      rw [if_neg hv]
      cases j with
      | zero => simp
      | succ j =>
        simp only [List.length_cons] at hj
        intro n hn
        rw [List.take_succ_cons] at hn
        rcases List.mem_cons.1 hn with rfl | hn
        · omega
        · exact enc_front k (v / 128) j (by omega) (by omega) n hn
theorem rd_back : ∀ (l : List Int) (i : Nat) (acc u x n : Int), U8 l → 0 ≤ u → rd l i acc u = some (x, n) → ∃ d : Int, ∃ m : Nat, x = acc + d * u ∧ 0 ≤ d ∧ (0 < i → 0 < d) ∧ n = (i : Int) + m ∧ i ≤ 4 ∧ encF (4 - i) d = l.take m
  | [], _, _, _, _, _, _, _, h => by cases h
  | c :: r, i, acc, u, x, n, hU, hu, h => by
    have hc := hU c (by simp)
    simp only [rd] at h
    split at h
    · cases h
    · rename_i h5
      split at h
      · rename_i hs
        split at h
        · cases h
        · rename_i hno
          injection h with h
          injection h with h1 h2
          have e1 : c % 128 = c := Int.emod_eq_of_lt hc.1 hs
          refine ⟨c, 1, by rw [← h1, e1], hc.1, fun hi => ?_, by omega, by omega, ?_⟩
          · have : ¬ c = 0 := fun e => hno (.inl ⟨hi, e⟩)
            omega
          · rw [List.take_succ_cons, List.take_zero]
            cases 4 - i with
            | zero => rfl
            | succ k => simp only [encF, if_pos hs]
      · rename_i hs
        obtain ⟨d, m, e1, e2, e3, e4, e5, e6⟩ := rd_back r (i + 1) _ _ x n (fun n hn => hU n (by simp [hn])) (by omega) h
        have hd := e3 (by omega)
        refine ⟨c % 128 + 128 * d, m + 1, ?_, by omega, fun _ => by omega, by omega, by omega, ?_⟩
        · rw [e1, Int.add_mul, ← Int.add_assoc, Int.mul_comm u 128, ← Int.mul_assoc, Int.mul_comm d 128]
        · have e7 : 4 - i = 4 - (i + 1) + 1 := by omega
          rw [e7]
          simp only [encF]
          rw [if_neg (by omega), show (c % 128 + 128 * d) % 128 + 128 = c by omega, show (c % 128 + 128 * d) / 128 = d by omega, e6, List.take_succ_cons]
theorem bytes_by8 (s : List UInt8) : bytesI (by8 s) = s := by
  unfold bytesI by8
  rw [List.map_map]
  conv => rhs; rw [← List.map_id s]
  apply List.map_congr_left
  intro b _
  simp
theorem rd_put {v : Int} (h0 : 0 ≤ v) (h1 : v ≤ 1073741824) (r : List Int) : rd (enc v ++ r) 0 0 1 = some (v, ((enc v).length : Int)) := by
  have := rd_enc 4 v r 0 0 1 h0 (by omega) (by omega) (fun h => by omega) (by omega) (by omega)
  unfold enc
  rw [this]
  congr 2 <;> omega
theorem rd_cut {v : Int} (h0 : 0 ≤ v) {j : Nat} (hj : j < (enc v).length) : rd ((enc v).take j) 0 0 1 = none := rd_big8 _ _ _ _ (enc_front 4 v j h0 hj)
theorem tt_put (s : List UInt8) (r : List Int) (hs : s.length ≤ 200) : tt (enc s.length ++ by8 s ++ r) = (s, (((enc s.length ++ by8 s).length : Nat) : Int), true) := by
  have hb : (by8 s).length = s.length := by simp [by8]
  unfold tt
  rw [List.append_assoc, rd_put (by omega) (by omega)]
  simp only
  rw [if_neg (by simp only [List.length_append, hb]; omega)]
  have e1 : (((enc s.length).length : Int) + (s.length : Int)).toNat = (enc s.length ++ by8 s).length := by rw [List.length_append, hb]; omega
  rw [e1, ← List.append_assoc, List.take_left, Int.toNat_natCast, List.drop_left, bytes_by8]
  rw [List.length_append, hb]
  congr 2
theorem tt_cut (s : List UInt8) (j : Nat) (hs : s.length ≤ 200) (hj : j < (enc s.length ++ by8 s).length) : (tt ((enc s.length ++ by8 s).take j)).2.2 = false := by
  have hb : (by8 s).length = s.length := by simp [by8]
  rw [List.length_append, hb] at hj
  unfold tt
  by_cases c : j < (enc s.length).length
  · rw [List.take_append_of_le_length (by omega), rd_cut (by omega) c]
  · have e : (enc s.length ++ by8 s).take j = enc s.length ++ (by8 s).take (j - (enc s.length).length) := by
      rw [List.take_append, List.take_of_length_le (by omega)]
    rw [e, rd_put (by omega) (by omega)]
    simp only
    rw [if_pos (by simp only [List.length_append, List.length_take, hb]; omega)]
theorem cut_eq (b : List Int) (h : Int) : List.drop ((0 : Nat) + (cutT (0 : Nat) (List.length b) (List.length b) none (some h)).2.1) (List.take ((0 : Nat) + (cutT (0 : Nat) (List.length b) (List.length b) none (some h)).2.1 + ((cutT (0 : Nat) (List.length b) (List.length b) none (some h)).2.2 - (cutT (0 : Nat) (List.length b) (List.length b) none (some h)).2.1)) b) = b.take h.toNat := by
  simp [cutT]
abbrev Ms := Int × Int × Int × Int × Int × Int × List Int × Int × Int × List UInt8
theorem in_eq (N : Nat) (v a b : Int) : W_msg_in N (v, a, b) = some (decide (a ≤ v ∧ v ≤ b)) := by
  unfold W_msg_in
  simp only
  by_cases h : a ≤ v
  · rw [dT h, cnd_t]; simp only [h, true_and]
  · rw [dF h, cnd_f]; simp only [h, false_and, decide_false]
def ownF (m : Ms) : Ms :=
  if m.1 = 2 then (m.1, m.2.1, m.2.2.1, m.2.2.2.1, m.2.2.2.2.1, m.2.2.2.2.2.1, m.2.2.2.2.2.2.1, m.2.2.2.2.2.2.2.1, 0, [])
  else if m.1 = 5 then (m.1, m.2.1, m.2.2.1, m.2.2.2.1, m.2.2.2.2.1, m.2.2.2.2.2.1, m.2.2.2.2.2.2.1, 0, m.2.2.2.2.2.2.2.2.1, [])
  else if m.1 = 7 then (m.1, m.2.1, m.2.2.1, m.2.2.2.1, 0, 0, [], m.2.2.2.2.2.2.2.1, 0, m.2.2.2.2.2.2.2.2.2)
  else if m.1 = 8 ∨ m.1 = 9 then (m.1, m.2.1, m.2.2.1, m.2.2.2.1, 0, 0, [], m.2.2.2.2.2.2.2.1, m.2.2.2.2.2.2.2.2.1, [])
  else (m.1, m.2.1, m.2.2.1, m.2.2.2.1, 0, 0, [], 0, 0, [])
theorem own_eq (N : Nat) (m : Ms) : W_msg_own N m = some (ownF m) := by
  obtain ⟨k, f, t, i, e, a, p, lo, hi, s⟩ := m
  unfold W_msg_own ownF
  simp only
  by_cases h2 : k = 2
  · rw [dT h2, cnd_t, if_pos h2]
  rw [dF h2, cnd_f, if_neg h2]
  by_cases h5 : k = 5
  · rw [dT h5, cnd_t, if_pos h5]
  rw [dF h5, cnd_f, if_neg h5]
  by_cases h7 : k = 7
  · rw [dT h7, cnd_t, if_pos h7]
  rw [dF h7, cnd_f, if_neg h7]
  by_cases h8 : k = 8
  · rw [dT h8, cnd_t, obind_s, if_pos (.inl h8)]
    simp only [cnd_t]
  rw [dF h8, cnd_f, obind_s]
  simp only
  by_cases h9 : k = 9
  · rw [dT h9, cnd_t, if_pos (.inr h9)]
  · rw [dF h9, cnd_f, if_neg (fun q => q.elim h8 h9)]
open Classical in
theorem Equal_eq (N : Nat) (a b : List Int) (hN : a.length < N) (hl : a.length ≤ 140737488355327) : W_slices_Equal_int N (a, b) = some (decide (a = b)) := by
  unfold W_slices_Equal_int
  simp only
  by_cases h : (a.length : Int) = b.length
  case neg =>
    rw [dT (show (a.length : Int) ≠ b.length from h), cnd_t]
    have : ¬ a = b := fun q => h (by rw [q])
    rw [dF this]
  rw [dF (fun q : (a.length : Int) ≠ b.length => q h), cnd_f]
  have hlen : a.length = b.length := by omega
  refine obind_loop (fun v : Int => ∃ i : Nat, v = i ∧ i ≤ a.length ∧ a.take i = b.take i) (fun v => a.length - v.toNat) (fun r : PUnit ⊕ Bool => (r = .inl () ∧ a = b) ∨ (r = .inr false ∧ a ≠ b)) ⟨0, rfl, Nat.zero_le _, rfl⟩ (by show a.length - (Int.ofNat 0).toNat < N; omega) ?_ ?_
  · rintro r (⟨rfl, h⟩ | ⟨rfl, h⟩)
    · rw [selim_l, dT h]
    · rw [selim_r, dF h]
  · rintro v ⟨i, rfl, hi, ht⟩
    by_cases hlt : i < a.length
    · rw [dT (by omega), cnd_t, dT (by omega), Bool.and_self, cnd_t, dT (by omega), Bool.and_self, cnd_t, Int.toNat_natCast]
      have g1 : a.getD i 0 = a[i] := by rw [List.getD_eq_getElem?_getD, List.getElem?_eq_getElem hlt]; rfl
      have g2 : b.getD i 0 = b[i]'(by omega) := by rw [List.getD_eq_getElem?_getD, List.getElem?_eq_getElem (by omega)]; rfl
      rw [g1, g2]
      by_cases hq : a[i] = b[i]'(by omega)
      · left
        rw [dF (fun q : a[i] ≠ b[i]'(by omega) => q hq), cnd_f, wr_m (by omega) (by omega)]
        refine ⟨_, rfl, ⟨i + 1, by omega, by omega, ?_⟩, by omega⟩
        rw [List.take_add_one, List.take_add_one, ht, List.getElem?_eq_getElem hlt, List.getElem?_eq_getElem (by omega), hq]
      · right
        rw [dT hq, cnd_t]
        refine ⟨_, rfl, .inr ⟨rfl, fun q => hq ?_⟩⟩
        subst q; rfl
    · right
      rw [dF (by omega), cnd_f]
      refine ⟨_, rfl, .inl ⟨rfl, ?_⟩⟩
      rw [List.take_of_length_le (by omega), List.take_of_length_le (by omega)] at ht
      exact ht
open Classical in
theorem Same_eq (N : Nat) (m w : Ms) (hN : m.2.2.2.2.2.2.1.length < N) (hl : m.2.2.2.2.2.2.1.length ≤ 140737488355327) : W_msg_Same N (m, w) = some (decide (m = w)) := by
  obtain ⟨k, f, t, i, e, a, p, lo, hi, s⟩ := m
  obtain ⟨k', f', t', i', e', a', p', lo', hi', s'⟩ := w
  unfold W_msg_Same
  have hE := Equal_eq N p p' hN hl
  simp only
  by_cases h1 : k = k'
  case neg => simp only [decide_true, decide_false, cnd_t, cnd_f, obind_s, Prod.mk.injEq, h1, false_and, and_false, true_and]
  subst k'
  by_cases h2 : f = f'
  case neg => simp only [decide_true, decide_false, cnd_t, cnd_f, obind_s, Prod.mk.injEq, h2, false_and, and_false, true_and]
  subst f'
  by_cases h3 : t = t'
  case neg => simp only [decide_true, decide_false, cnd_t, cnd_f, obind_s, Prod.mk.injEq, h3, false_and, and_false, true_and]
  subst t'
  by_cases h4 : i = i'
  case neg => simp only [decide_true, decide_false, cnd_t, cnd_f, obind_s, Prod.mk.injEq, h4, false_and, and_false, true_and]
  subst i'
  by_cases h5 : e = e'
  case neg => simp only [decide_true, decide_false, cnd_t, cnd_f, obind_s, Prod.mk.injEq, h5, false_and, and_false, true_and]
  subst e'
  by_cases h6 : a = a'
  case neg => simp only [decide_true, decide_false, cnd_t, cnd_f, obind_s, Prod.mk.injEq, h6, false_and, and_false, true_and]
  subst a'
  simp only [decide_true, cnd_t, obind_s, hE, Prod.mk.injEq, true_and]
  by_cases h7 : p = p'
  case neg => simp only [decide_true, decide_false, cnd_t, cnd_f, obind_s, h7, false_and, and_false, true_and]
  subst h7
  simp only [decide_true, cnd_t, obind_s, true_and]
  by_cases h8 : lo = lo'
  case neg => simp only [decide_true, decide_false, cnd_t, cnd_f, obind_s, h8, false_and, and_false, true_and]
  subst h8
  simp only [decide_true, cnd_t, obind_s, true_and]
  by_cases h9 : hi = hi'
  case neg => simp only [decide_true, decide_false, cnd_t, cnd_f, obind_s, h9, false_and, and_false, true_and]
  subst h9
  simp only [decide_true, cnd_t, obind_s, true_and]
  by_cases h10 : s = s'
  · subst h10; simp only [decide_true, beq_self_eq_true]
  · have : (s == s') = false := by simpa using h10
    simp only [h10, this, decide_false]
def Fits (m : Ms) : Prop :=
  if m.1 = 2 ∨ m.1 = 5 then (0 ≤ m.2.2.2.2.1 ∧ m.2.2.2.2.1 ≤ 1073741824) ∧ (0 ≤ m.2.2.2.2.2.1 ∧ m.2.2.2.2.2.1 ≤ 1073741824) ∧ VP m.2.2.2.2.2.2.1 ∧ (0 ≤ m.2.2.2.2.2.2.2.1 ∧ m.2.2.2.2.2.2.2.1 ≤ 1000000) ∧ (0 ≤ m.2.2.2.2.2.2.2.2.1 ∧ m.2.2.2.2.2.2.2.2.1 ≤ 1000000)
  else if m.1 = 7 then (1 ≤ m.2.2.2.2.2.2.2.1 ∧ m.2.2.2.2.2.2.2.1 ≤ 1000000) ∧ (m.2.2.2.2.2.2.2.2.2.length : Int) ≤ 12
  else if m.1 = 8 ∨ m.1 = 9 then (1 ≤ m.2.2.2.2.2.2.2.1 ∧ m.2.2.2.2.2.2.2.1 ≤ m.2.2.2.2.2.2.2.2.1) ∧ m.2.2.2.2.2.2.2.2.1 ≤ 1000000
  else True
open Classical in
theorem fits_eq (N : Nat) (hN : 12 ≤ N) (m : Ms) : W_msg_fits N m = some (decide (Fits m)) := by
  obtain ⟨k, f, t, i, e, a, p, lo, hi, s⟩ := m
  have hM := May_eq N p hN
  have fin : ∀ (k : Int), (k = 2 ∨ k = 5) → W_msg_fits N (k, f, t, i, e, a, p, lo, hi, s) = some (decide ((0 ≤ e ∧ e ≤ 1073741824) ∧ (0 ≤ a ∧ a ≤ 1073741824) ∧ VP p ∧ (0 ≤ lo ∧ lo ≤ 1000000) ∧ (0 ≤ hi ∧ hi ≤ 1000000))) := by
    intro k hk
    unfold W_msg_fits
    simp only
    by_cases q1 : 0 ≤ e ∧ e ≤ 1073741824 <;> by_cases q2 : 0 ≤ a ∧ a ≤ 1073741824 <;> by_cases q3 : VP p <;> by_cases q4 : 0 ≤ lo ∧ lo ≤ 1000000 <;> by_cases q5 : 0 ≤ hi ∧ hi ≤ 1000000 <;> rcases hk with hk | hk <;> subst hk <;>
      simp only [Int.reduceEq, decide_true, decide_false, cnd_t, cnd_f, obind_s, in_eq, hM, q1, q2, q3, q4, q5, and_self, and_true, and_false, false_and]
  by_cases h25 : k = 2 ∨ k = 5
  · rw [fin k h25]
    unfold Fits
    simp only
    rw [if_pos h25]
    exact congrArg some (decide_eq_decide.2 Iff.rfl)
  clear fin
  have n2 : ¬ k = 2 := fun q => h25 (.inl q)
  have n5 : ¬ k = 5 := fun q => h25 (.inr q)
  unfold W_msg_fits Fits
  simp only [n2, n5, or_self, if_false, decide_false, cnd_f, obind_s, in_eq]
  by_cases h7 : k = 7
  · simp only [h7, decide_true, cnd_t, if_true]
    by_cases q1 : 1 ≤ lo ∧ lo ≤ 1000000
    · simp only [q1, and_self, decide_true, cnd_t, true_and]
    · simp only [q1, decide_false, cnd_f, false_and]
  simp only [h7, decide_false, cnd_f, if_false]
  have fin2 : cnd (decide (1 ≤ lo ∧ lo ≤ hi)) (some (decide (hi ≤ 1000000))) (some false) = some (decide ((1 ≤ lo ∧ lo ≤ hi) ∧ hi ≤ 1000000)) := by
    by_cases q1 : 1 ≤ lo ∧ lo ≤ hi
    · simp only [q1, and_self, decide_true, cnd_t, true_and]
    · simp only [q1, decide_false, cnd_f, false_and]
  by_cases h8 : k = 8
  · simp only [h8, decide_true, cnd_t, obind_s, true_or, if_true]
    exact fin2
  simp only [h8, decide_false, cnd_f, obind_s, false_or]
  by_cases h9 : k = 9
  · simp only [h9, decide_true, cnd_t, if_true]
    exact fin2
  · simp only [h9, decide_false, cnd_f, if_false, decide_true]
def MayP (m : Ms) : Prop := (1 ≤ m.1 ∧ m.1 ≤ 9) ∧ (1 ≤ m.2.1 ∧ m.2.1 ≤ 8) ∧ (1 ≤ m.2.2.1 ∧ m.2.2.1 ≤ 8) ∧ m.2.1 ≠ m.2.2.1 ∧ (1 ≤ m.2.2.2.1 ∧ m.2.2.2.1 ≤ 1073741824) ∧ m = ownF m ∧ Fits m
open Classical in
theorem MayM_eq (N : Nat) (hN : 12 ≤ N) (m : Ms) (hl : m.2.2.2.2.2.2.1.length < N) (hl2 : m.2.2.2.2.2.2.1.length ≤ 140737488355327) : W_msg_May N m = some (decide (MayP m)) := by
  have hS := Same_eq N m (ownF m) hl hl2
  have hF := fits_eq N hN m
  have hO := own_eq N m
  obtain ⟨k, f, t, i, e, a, p, lo, hi, s⟩ := m
  unfold W_msg_May MayP
  simp only [in_eq, obind_s]
  by_cases q1 : 1 ≤ k ∧ k ≤ 9
  case neg => simp only [q1, decide_false, cnd_f, obind_s, false_and]
  simp only [q1, and_self, decide_true, cnd_t, obind_s, true_and]
  by_cases q2 : 1 ≤ f ∧ f ≤ 8
  case neg => simp only [q2, decide_false, cnd_f, obind_s, false_and]
  simp only [q2, and_self, decide_true, cnd_t, obind_s, true_and]
  by_cases q3 : 1 ≤ t ∧ t ≤ 8
  case neg => simp only [q3, decide_false, cnd_f, obind_s, false_and]
  simp only [q3, and_self, decide_true, cnd_t, obind_s, true_and]
  by_cases q4 : f = t
  case pos => simp only [q4, ne_eq, not_true_eq_false, decide_false, cnd_f, obind_s, false_and]
  simp only [ne_eq, q4, not_false_eq_true, decide_true, cnd_t, obind_s, true_and]
  by_cases q5 : 1 ≤ i ∧ i ≤ 1073741824
  case neg => simp only [q5, decide_false, cnd_f, false_and]
  simp only [q5, and_self, decide_true, cnd_t, true_and]
  rw [hO, obind_s]
  rw [hS, obind_s]
  by_cases q6 : (k, f, t, i, e, a, p, lo, hi, s) = ownF (k, f, t, i, e, a, p, lo, hi, s)
  · rw [dT q6, cnd_t, hF, obind_s]
    congr 1
    apply Bool.eq_iff_iff.2
    simp only [decide_eq_true_eq]
    exact ⟨fun q => ⟨q6, q⟩, fun q => q.2⟩
  · rw [dF q6, cnd_f]
    congr 1
    symm
    apply dF
    exact fun q => q6 q.1
theorem numLoop {N : Nat} (hN : 100 ≤ N) (l : List Int) {f : List Int × Int → Option ((List Int × Int) ⊕ List Int)} (hr : ∀ v ∈ l, 0 ≤ v ∧ v ≤ 1073741824) (h0 : ∀ b, f (b, (l.length : Int)) = some (.inr b))
    (h1 : ∀ (i : Nat) b, i < l.length → b.length ≤ 1000 → f (b, (i : Int)) = some (.inl (b ++ enc (l.getD i 0), (i : Int) + 1))) :
    ∀ (k i M : Nat) (b : List Int), i + k = l.length → k < M → b.length + 5 * k ≤ 1000 → loopN M f (b, (i : Int)) = some (b ++ (l.drop i).flatMap enc)
  | 0, i, 0, b, _, hM, _ => by omega
  | 0, i, M + 1, b, hi, _, _ => by
    have : i = l.length := by omega
    subst this
    simp only [loopN, h0, List.drop_length, List.flatMap_nil, List.append_nil]
  | k + 1, i, 0, b, _, hM, _ => by omega
  | k + 1, i, M + 1, b, hi, hM, hb => by
    have hil : i < l.length := by omega
    have e : l.getD i 0 = l[i] := by rw [List.getD_eq_getElem?_getD, List.getElem?_eq_getElem hil]; rfl
    have hv := hr l[i] (List.getElem_mem hil)
    have he := (enc_U8 hv.1 hv.2).2.1
    simp only [loopN, h1 i b hil (by omega)]
    rw [show (i : Int) + 1 = ((i + 1 : Nat) : Int) by omega, numLoop hN l hr h0 h1 k (i + 1) M _ (by omega) (by omega) (by rw [List.length_append, e]; omega), List.append_assoc, e, List.drop_eq_getElem_cons hil, List.flatMap_cons]
theorem numbers_eq (N : Nat) (hN : 1000 ≤ N) (b l : List Int) (hr : ∀ v ∈ l, 0 ≤ v ∧ v ≤ 1073741824) (hb : b.length + 5 * l.length ≤ 1000) : W_msg_numbers N (b, l) = some (b ++ l.flatMap enc) := by
  unfold W_msg_numbers
  simp only
  rw [show (b, (0 : Int)) = (b, ((0 : Nat) : Int)) from rfl, numLoop (N := N) (by omega) l hr _ _ l.length 0 N b (by omega) (by omega) hb, obind_s, List.drop_zero]
  · intro b
    simp only
    rw [dF (by omega), cnd_f]
  · intro i b hi hb
    have e : l.getD i 0 = l[i] := by rw [List.getD_eq_getElem?_getD, List.getElem?_eq_getElem hi]; rfl
    have hv := hr l[i] (List.getElem_mem hi)
    simp only
    rw [dT (by omega), cnd_t, dT (by omega), Bool.and_self, cnd_t, Int.toNat_natCast, Put_eq N (by omega) b _ hb (by rw [e]; exact hv.1) (by rw [e]; exact hv.2), obind_s, wr_m (by omega) (by omega)]
/-- The sum of bytes, as a number and as four bytes. -/
def cs (b : List Int) : Int := X (IntKind.max .u32) (fold 4294967295 b)
def sm (b : List Int) : List Int := [cs b / 16777216 % 256, cs b / 65536 % 256, cs b / 256 % 256, cs b % 256]
theorem wr_u8m {z : Int} : wr .u8 z = z % 256 := by rw [wr_eq]; simp [IntKind.wrap, IntKind.bits, IntKind.signed]
theorem cs_rng (b : List Int) : 0 ≤ cs b ∧ cs b ≤ 4294967295 := X_rng _ _
theorem sm_U8 (b : List Int) : U8 (sm b) := by
  intro n hn
  simp only [sm, List.mem_cons, List.not_mem_nil, or_false] at hn
  omega
theorem sum_eq (N : Nat) (hN : 1000 ≤ N) (b : List Int) (hb : b.length ≤ 900) (hU : U8 b) : W_msg_sum N b = some (sm b) := by
  unfold W_msg_sum
  rw [Sum_eq N b (by omega) (by omega) (by omega) hU, obind_s]
  have hc := cs_rng b
  show some [wr .u8 (Int.fdiv (cs b) (2 ^ 24)), wr .u8 (Int.fdiv (cs b) (2 ^ 16)), wr .u8 (Int.fdiv (cs b) (2 ^ 8)), wr .u8 (cs b)] = some (sm b)
  rw [wr_u8m, wr_u8m, wr_u8m, wr_u8m, Int.fdiv_eq_ediv_of_nonneg _ (by decide), Int.fdiv_eq_ediv_of_nonneg _ (by decide), Int.fdiv_eq_ediv_of_nonneg _ (by decide)]
  rfl
/-- A message's bytes but for the sum. -/
def bd (m : Ms) : List Int := [m.1, m.2.1, m.2.2.1, m.2.2.2.1, m.2.2.2.2.1, m.2.2.2.2.2.1, (m.2.2.2.2.2.2.1.length : Int)].flatMap enc ++ m.2.2.2.2.2.2.1.flatMap enc ++ [m.2.2.2.2.2.2.2.1, m.2.2.2.2.2.2.2.2.1].flatMap enc ++ enc m.2.2.2.2.2.2.2.2.2.length ++ by8 m.2.2.2.2.2.2.2.2.2
/-- What the parts of one that may be are within. -/
structure Rg (m : Ms) : Prop where
  k : 0 ≤ m.1 ∧ m.1 ≤ 1073741824
  f : 0 ≤ m.2.1 ∧ m.2.1 ≤ 1073741824
  t : 0 ≤ m.2.2.1 ∧ m.2.2.1 ≤ 1073741824
  i : 0 ≤ m.2.2.2.1 ∧ m.2.2.2.1 ≤ 1073741824
  e : 0 ≤ m.2.2.2.2.1 ∧ m.2.2.2.2.1 ≤ 1073741824
  a : 0 ≤ m.2.2.2.2.2.1 ∧ m.2.2.2.2.2.1 ≤ 1073741824
  pl : m.2.2.2.2.2.2.1.length ≤ 10
  p : ∀ v ∈ m.2.2.2.2.2.2.1, 0 ≤ v ∧ v ≤ 1073741824
  lo : 0 ≤ m.2.2.2.2.2.2.2.1 ∧ m.2.2.2.2.2.2.2.1 ≤ 1073741824
  hi : 0 ≤ m.2.2.2.2.2.2.2.2.1 ∧ m.2.2.2.2.2.2.2.2.1 ≤ 1073741824
  s : m.2.2.2.2.2.2.2.2.2.length ≤ 12
theorem VP_mem {p : List Int} (h : VP p) : ∀ v ∈ p, 1 ≤ v ∧ v ≤ 8 := by
  intro v hv
  obtain ⟨j, hj, rfl⟩ := mem_getD hv
  have := h.2.2.2 j hj
  exact ⟨this.1, this.2.1⟩
theorem MayP.rg {m : Ms} (h : MayP m) : Rg m := by
  obtain ⟨k, f, t, i, e, a, p, lo, hi, s⟩ := m
  obtain ⟨h1, h2, h3, h4, h5, h6, h7⟩ := h
  simp only at h1 h2 h3 h4 h5
  unfold ownF at h6
  unfold Fits at h7
  simp only at h6 h7
  by_cases c2 : k = 2
  · rw [if_pos c2] at h6
    rw [if_pos (.inl c2)] at h7
    simp only [Prod.mk.injEq, true_and] at h6
    obtain ⟨g1, g2⟩ := h6
    subst g1 g2
    exact ⟨by simp only; omega, by simp only; omega, by simp only; omega, by simp only; omega, h7.1, h7.2.1, h7.2.2.1.2.1, fun v hv => by have := VP_mem h7.2.2.1 v hv; omega, by simp only; omega, by simp only; omega, by simp⟩
  rw [if_neg c2] at h6
  by_cases c5 : k = 5
  · rw [if_pos c5] at h6
    rw [if_pos (.inr c5)] at h7
    simp only [Prod.mk.injEq, true_and] at h6
    obtain ⟨g1, g2⟩ := h6
    subst g1
    exact ⟨by simp only; omega, by simp only; omega, by simp only; omega, by simp only; omega, h7.1, h7.2.1, h7.2.2.1.2.1, fun v hv => by have := VP_mem h7.2.2.1 v hv; omega, by simp only; omega, by simp only; omega, by simp only; rw [g2]; simp⟩
  rw [if_neg c5] at h6
  rw [if_neg (fun q => q.elim c2 c5)] at h7
  by_cases c7 : k = 7
  · rw [if_pos c7] at h6 h7
    simp only [Prod.mk.injEq, true_and, and_true] at h6
    obtain ⟨g1, g2, g3, g4⟩ := h6
    subst g1 g2 g3 g4
    exact ⟨by simp only; omega, by simp only; omega, by simp only; omega, by simp only; omega, by simp, by simp, by simp, fun v hv => by simp at hv, by simp only; omega, by simp, by have := h7.2; simp only; omega⟩
  rw [if_neg c7] at h6 h7
  by_cases c8 : k = 8 ∨ k = 9
  · rw [if_pos c8] at h6 h7
    simp only [Prod.mk.injEq, true_and] at h6
    obtain ⟨g1, g2, g3, g4⟩ := h6
    subst g1 g2 g3 g4
    exact ⟨by simp only; omega, by simp only; omega, by simp only; omega, by simp only; omega, by simp, by simp, by simp, fun v hv => by simp at hv, by simp only; omega, by simp only; omega, by simp⟩
  · rw [if_neg c8] at h6
    simp only [Prod.mk.injEq, true_and] at h6
    obtain ⟨g1, g2, g3, g4, g5, g6⟩ := h6
    subst g1 g2 g3 g4 g5 g6
    exact ⟨by simp only; omega, by simp only; omega, by simp only; omega, by simp only; omega, by simp, by simp, by simp, fun v hv => by simp at hv, by simp, by simp, by simp⟩
theorem flat_U8 {l : List Int} (h : ∀ v ∈ l, 0 ≤ v ∧ v ≤ 1073741824) : U8 (l.flatMap enc) ∧ (l.flatMap enc).length ≤ 5 * l.length := by
  induction l with
  | nil => exact ⟨fun n hn => by simp at hn, by simp⟩
  | cons v l ih =>
    obtain ⟨i1, i2⟩ := ih (fun x hx => h x (by simp [hx]))
    have hv := h v (by simp)
    have he := enc_U8 hv.1 hv.2
    exact ⟨U8_app he.1 i1, by simp only [List.flatMap_cons, List.length_append, List.length_cons]; omega⟩
theorem Rg.r7 {m : Ms} (h : Rg m) : ∀ v ∈ [m.1, m.2.1, m.2.2.1, m.2.2.2.1, m.2.2.2.2.1, m.2.2.2.2.2.1, (m.2.2.2.2.2.2.1.length : Int)], 0 ≤ v ∧ v ≤ 1073741824 := by
  intro v hv
  have := h.pl
  simp only [List.mem_cons, List.not_mem_nil, or_false] at hv
  rcases hv with rfl | rfl | rfl | rfl | rfl | rfl | rfl
  · exact h.k
  · exact h.f
  · exact h.t
  · exact h.i
  · exact h.e
  · exact h.a
  · omega
theorem Rg.r2 {m : Ms} (h : Rg m) : ∀ v ∈ [m.2.2.2.2.2.2.2.1, m.2.2.2.2.2.2.2.2.1], 0 ≤ v ∧ v ≤ 1073741824 := by
  intro v hv
  simp only [List.mem_cons, List.not_mem_nil, or_false] at hv
  rcases hv with rfl | rfl
  · exact h.lo
  · exact h.hi
theorem bd_U8 {m : Ms} (h : Rg m) : U8 (bd m) ∧ (bd m).length ≤ 200 := by
  have q1 := flat_U8 h.r7
  have q2 := flat_U8 h.p
  have q3 := flat_U8 h.r2
  have hs := h.s
  have hp := h.pl
  have q4 := enc_U8 (v := (m.2.2.2.2.2.2.2.2.2.length : Int)) (by omega) (by omega)
  refine ⟨U8_app (U8_app (U8_app (U8_app q1.1 q2.1) q3.1) q4.1) (by8_U8 _), ?_⟩
  have l1 := q1.2; have l2 := q2.2; have l3 := q3.2; have l4 := q4.2.1
  simp only [List.length_cons, List.length_nil] at l1 l3
  unfold bd
  simp only [List.length_append, by8, List.length_map]
  omega
open Classical in
theorem PutM_eq (N : Nat) (hN : 1000 ≤ N) (m : Ms) (hl : m.2.2.2.2.2.2.1.length < 900) : W_msg_Put N m = some (if MayP m then bd m ++ sm (bd m) else []) := by
  have hM := MayM_eq N (by omega) m (by omega) (by omega)
  obtain ⟨k, f, t, i, e, a, p, lo, hi, s⟩ := m
  unfold W_msg_Put
  simp only
  rw [hM, obind_s]
  by_cases h : MayP (k, f, t, i, e, a, p, lo, hi, s)
  case neg => rw [dF h, Bool.not_false, cnd_t, if_neg h]
  have hg := h.rg
  have q1 := flat_U8 hg.r7
  have q2 := flat_U8 hg.p
  have q3 := flat_U8 hg.r2
  have hp := hg.pl
  have hs := hg.s
  have hB := bd_U8 hg
  have l1 := q1.2; have l2 := q2.2; have l3 := q3.2
  simp only [List.length_cons, List.length_nil] at l1 l2 l3 hp hs
  rw [dT h, Bool.not_true, cnd_f, if_pos h]
  rw [numbers_eq N hN [] _ hg.r7 (by simp), obind_s, List.nil_append]
  simp only
  rw [numbers_eq N hN _ _ hg.p (by simp only; omega), obind_s]
  simp only
  rw [numbers_eq N hN _ _ hg.r2 (by simp only [List.length_append, List.length_cons, List.length_nil]; omega), obind_s, PutText_eq N (by omega) _ s (by simp only [List.length_append]; omega) (by omega), obind_s]
  have eb : bd (k, f, t, i, e, a, p, lo, hi, s) = [k, f, t, i, e, a, (p.length : Int)].flatMap enc ++ p.flatMap enc ++ [lo, hi].flatMap enc ++ enc s.length ++ by8 s := rfl
  rw [← eb, sum_eq N hN _ (by omega) hB.1, obind_s, dT (by have : (sm (bd (k, f, t, i, e, a, p, lo, hi, s))).length = 4 := rfl; omega), cnd_t]
theorem Text_eq (N : Nat) (l : List Int) (n : Int) (hn : 0 ≤ n) (hn2 : n ≤ 1000) (hel : ∀ x ∈ l, 0 ≤ x ∧ x ≤ 255) : ∃ s n', W_Picks_Text N (l, n) = some (s, l, n') ∧ s.length ≤ 12 ∧ n ≤ n' ∧ n' ≤ n + 1 := by
  unfold W_Picks_Text
  simp only
  obtain ⟨k, n1, e1, a1, a2, a3, a4⟩ := Num_eq N 5 l n (by omega) hn (by omega) hel
  rw [e1, obind_s]
  simp only
  rw [dT a1, cnd_t, dT (by omega), cnd_t]
  refine ⟨_, _, rfl, ?_, a3, a4⟩
  obtain ⟨j, rfl⟩ : ∃ j : Nat, k = j := ⟨k.toNat, by omega⟩
  have : j = 0 ∨ j = 1 ∨ j = 2 ∨ j = 3 ∨ j = 4 := by omega
  rcases this with rfl | rfl | rfl | rfl | rfl <;> decide
/-- All its numbers are short. -/
structure Sh (m : Ms) : Prop where
  k : 0 ≤ m.1 ∧ m.1 < 128
  f : 0 ≤ m.2.1 ∧ m.2.1 < 128
  t : 0 ≤ m.2.2.1 ∧ m.2.2.1 < 128
  i : 0 ≤ m.2.2.2.1 ∧ m.2.2.2.1 < 128
  e : 0 ≤ m.2.2.2.2.1 ∧ m.2.2.2.2.1 < 128
  a : 0 ≤ m.2.2.2.2.2.1 ∧ m.2.2.2.2.2.1 < 128
  p : ∀ v ∈ m.2.2.2.2.2.2.1, 0 ≤ v ∧ v < 128
  lo : 0 ≤ m.2.2.2.2.2.2.2.1 ∧ m.2.2.2.2.2.2.2.1 < 128
  hi : 0 ≤ m.2.2.2.2.2.2.2.2.1 ∧ m.2.2.2.2.2.2.2.2.1 < 128
theorem Msg_eq (N : Nat) (hN : 1000 ≤ N) (to : Int) (l : List Int) (hto : 1 ≤ to ∧ to ≤ 8) (hel : ∀ x ∈ l, 0 ≤ x ∧ x ≤ 255) : ∃ m n', W_Picks_Msg N (to, l, 0) = some ((l, n'), m) ∧ MayP m ∧ Sh m := by
  unfold W_Picks_Msg
  simp only
  obtain ⟨b, n1, e1, a1, a2, a3, a4⟩ := Num_eq N 8 l 0 (by omega) (by omega) (by omega) hel
  rw [e1, obind_s]
  simp only
  have hf : ∃ f, cnd (decide (wr .i64 ((1 : Int) + b) = to)) (some (wr .i64 ((1 : Int) + Int.tmod to 8), (l, n1), (0 : Int), (0 : Int), (0 : Int), (0 : Int), (0 : Int), (0 : Int), ([] : List Int), (0 : Int), (0 : Int), ([] : List UInt8))) (some (wr .i64 ((1 : Int) + b), (l, n1), (0 : Int), (0 : Int), (0 : Int), (0 : Int), (0 : Int), (0 : Int), ([] : List Int), (0 : Int), (0 : Int), ([] : List UInt8))) = some (f, (l, n1), (0 : Int), (0 : Int), (0 : Int), (0 : Int), (0 : Int), (0 : Int), ([] : List Int), (0 : Int), (0 : Int), ([] : List UInt8)) ∧ 1 ≤ f ∧ f ≤ 8 ∧ f ≠ to := by
    have w1 : wr .i64 (1 + b) = 1 + b := wr_m (by omega) (by omega)
    rw [w1, Int.tmod_eq_emod_of_nonneg (by omega)]
    by_cases c : 1 + b = to
    · rw [dT c, cnd_t, wr_m (by omega) (by omega)]
      exact ⟨_, rfl, by omega, by omega, by omega⟩
    · rw [dF c, cnd_f]
      exact ⟨_, rfl, by omega, by omega, c⟩
  obtain ⟨f, hf1, hf2, hf3, hf4⟩ := hf
  rw [hf1, obind_s]
  simp only
  obtain ⟨k, n2, e2, b1, b2, b3, b4⟩ := Num_eq N 9 l n1 (by omega) (by omega) (by omega) hel
  rw [e2, obind_s]
  simp only
  obtain ⟨i, n3, e3, c1, c2, c3, c4⟩ := Num_eq N 3 l n2 (by omega) (by omega) (by omega) hel
  rw [e3, obind_s]
  simp only
  have wk : wr .i64 (1 + k) = 1 + k := wr_m (by omega) (by omega)
  have wi : wr .i64 (1 + i) = 1 + i := wr_m (by omega) (by omega)
  rw [wk, wi]
  obtain ⟨K, hK⟩ : ∃ K, K = 1 + k := ⟨_, rfl⟩
  obtain ⟨I, hI⟩ : ∃ I, I = 1 + i := ⟨_, rfl⟩
  rw [← hK, ← hI]
  have hb : (1 ≤ K ∧ K ≤ 9) ∧ (1 ≤ f ∧ f ≤ 8) ∧ (1 ≤ to ∧ to ≤ 8) ∧ f ≠ to ∧ (1 ≤ I ∧ I ≤ 1073741824) := ⟨by omega, by omega, hto, hf4, by omega⟩
  by_cases k2 : K = 2
  · rw [dT k2, cnd_t]
    obtain ⟨e, n4, e4, d1, d2, d3, d4⟩ := Num_eq N 20 l n3 (by omega) (by omega) (by omega) hel
    rw [e4, obind_s]
    simp only
    obtain ⟨a, n5, e5, g1, g2, g3, g4⟩ := Num_eq N 25 l n4 (by omega) (by omega) (by omega) hel
    rw [e5, obind_s]
    simp only
    obtain ⟨p, n6, e6, p1, p2, p3⟩ := Path_eq N l n5 (by omega) (by omega) (by omega) hel
    rw [e6, obind_s]
    simp only
    obtain ⟨lo, n7, e7, q1, q2, q3, q4⟩ := Num_eq N 9 l n6 (by omega) (by omega) (by omega) hel
    rw [e7, obind_s]
    refine ⟨_, _, rfl, ⟨hb.1, hb.2.1, hb.2.2.1, hb.2.2.2.1, hb.2.2.2.2, ?_, ?_⟩, ⟨by simp only; omega, by simp only; omega, by simp only; omega, by simp only; omega, by simp only; omega, by simp only; omega, fun v hv => by have := VP_mem p1 v hv; omega, by simp only; omega, by simp⟩⟩
    · unfold ownF; simp only; rw [if_pos k2]
    · unfold Fits; simp only; rw [if_pos (.inl k2)]; exact ⟨by omega, by omega, p1, by omega, by omega⟩
  rw [dF k2, cnd_f]
  by_cases k5 : K = 5
  · rw [dT k5, cnd_t]
    obtain ⟨e, n4, e4, d1, d2, d3, d4⟩ := Num_eq N 20 l n3 (by omega) (by omega) (by omega) hel
    rw [e4, obind_s]
    simp only
    obtain ⟨a, n5, e5, g1, g2, g3, g4⟩ := Num_eq N 25 l n4 (by omega) (by omega) (by omega) hel
    rw [e5, obind_s]
    simp only
    obtain ⟨p, n6, e6, p1, p2, p3⟩ := Path_eq N l n5 (by omega) (by omega) (by omega) hel
    rw [e6, obind_s]
    simp only
    obtain ⟨lo, n7, e7, q1, q2, q3, q4⟩ := Num_eq N 12 l n6 (by omega) (by omega) (by omega) hel
    rw [e7, obind_s]
    refine ⟨_, _, rfl, ⟨hb.1, hb.2.1, hb.2.2.1, hb.2.2.2.1, hb.2.2.2.2, ?_, ?_⟩, ⟨by simp only; omega, by simp only; omega, by simp only; omega, by simp only; omega, by simp only; omega, by simp only; omega, fun v hv => by have := VP_mem p1 v hv; omega, by simp, by simp only; omega⟩⟩
    · unfold ownF; simp only; rw [if_neg k2, if_pos k5]
    · unfold Fits; simp only; rw [if_pos (.inr k5)]; exact ⟨by omega, by omega, p1, by omega, by omega⟩
  rw [dF k5, cnd_f]
  by_cases k7 : K = 7
  · rw [dT k7, cnd_t]
    obtain ⟨lo, n4, e4, d1, d2, d3, d4⟩ := Num_eq N 12 l n3 (by omega) (by omega) (by omega) hel
    rw [e4, obind_s]
    simp only
    obtain ⟨s, n5, e5, g1, g2, g3⟩ := Text_eq N l n4 (by omega) (by omega) hel
    rw [e5, obind_s]
    simp only
    have w1 : wr .i64 (1 + lo) = 1 + lo := wr_m (by omega) (by omega)
    rw [w1]
    refine ⟨_, _, rfl, ⟨hb.1, hb.2.1, hb.2.2.1, hb.2.2.2.1, hb.2.2.2.2, ?_, ?_⟩, ⟨by simp only; omega, by simp only; omega, by simp only; omega, by simp only; omega, by simp, by simp, fun v hv => by simp at hv, by simp only; omega, by simp⟩⟩
    · unfold ownF; simp only; rw [if_neg k2, if_neg k5, if_pos k7]
    · unfold Fits; simp only; rw [if_neg (fun q => q.elim k2 k5), if_pos k7]; exact ⟨by omega, by omega⟩
  rw [dF k7, cnd_f]
  have two : (K = 8 ∨ K = 9) → ∃ m n', (obind (W_Picks_Num N ((9 : Int), l, n3)) fun (b_3 : Int × List Int × Int) =>
      obind (W_Picks_Num N ((6 : Int), Prod.fst (Prod.snd b_3), Prod.snd (Prod.snd b_3))) fun (b_4 : Int × List Int × Int) =>
        some ((Prod.fst (Prod.snd b_4), Prod.snd (Prod.snd b_4)), K, f, to, I, (0 : Int), (0 : Int), ([] : List Int), wr IntKind.i64 ((1 : Int) + Prod.fst b_3), wr IntKind.i64 (wr IntKind.i64 ((1 : Int) + Prod.fst b_3) + Prod.fst b_4), ([] : List UInt8))) = some ((l, n'), m) ∧ MayP m ∧ Sh m := by
    intro hk
    obtain ⟨lo, n4, e4, d1, d2, d3, d4⟩ := Num_eq N 9 l n3 (by omega) (by omega) (by omega) hel
    rw [e4, obind_s]
    simp only
    obtain ⟨hi, n5, e5, g1, g2, g3, g4⟩ := Num_eq N 6 l n4 (by omega) (by omega) (by omega) hel
    rw [e5, obind_s]
    simp only
    have w1 : wr .i64 (1 + lo) = 1 + lo := wr_m (by omega) (by omega)
    have w2 : wr .i64 (1 + lo + hi) = 1 + lo + hi := wr_m (by omega) (by omega)
    rw [w1, w2]
    refine ⟨_, _, rfl, ⟨hb.1, hb.2.1, hb.2.2.1, hb.2.2.2.1, hb.2.2.2.2, ?_, ?_⟩, ⟨by simp only; omega, by simp only; omega, by simp only; omega, by simp only; omega, by simp, by simp, fun v hv => by simp at hv, by simp only; omega, by simp only; omega⟩⟩
    · unfold ownF; simp only; rw [if_neg k2, if_neg k5, if_neg k7, if_pos hk]
    · unfold Fits; simp only; rw [if_neg (fun q => q.elim k2 k5), if_neg k7, if_pos hk]; exact ⟨⟨by omega, by omega⟩, by omega⟩
  by_cases k8 : K = 8
  · rw [dT k8, cnd_t, obind_s]
    simp only
    rw [cnd_t]
    exact two (.inl k8)
  rw [dF k8, cnd_f, obind_s]
  simp only
  by_cases k9 : K = 9
  · rw [dT k9, cnd_t]
    exact two (.inr k9)
  · rw [dF k9, cnd_f]
    refine ⟨_, _, rfl, ⟨hb.1, hb.2.1, hb.2.2.1, hb.2.2.2.1, hb.2.2.2.2, ?_, ?_⟩, ⟨by simp only; omega, by simp only; omega, by simp only; omega, by simp only; omega, by simp, by simp, fun v hv => by simp at hv, by simp, by simp⟩⟩
    · unfold ownF; simp only; rw [if_neg k2, if_neg k5, if_neg k7, if_neg (fun q => q.elim k8 k9)]
    · unfold Fits; simp only; rw [if_neg (fun q => q.elim k2 k5), if_neg k7, if_neg (fun q => q.elim k8 k9)]; trivial
theorem enc_inj {v w : Int} {r q : List Int} (hv : 0 ≤ v ∧ v ≤ 1073741824) (hw : 0 ≤ w ∧ w ≤ 1073741824) (h : enc v ++ r = enc w ++ q) : v = w ∧ r = q := by
  have h1 := rd_put hv.1 hv.2 r
  have h2 := rd_put hw.1 hw.2 q
  rw [h, h2] at h1
  injection h1 with h1
  injection h1 with h3 h4
  subst h3
  exact ⟨rfl, List.append_cancel_left h⟩
theorem flat_inj : ∀ (p p' : List Int) {r q : List Int}, p.length = p'.length → (∀ v ∈ p, 0 ≤ v ∧ v ≤ 1073741824) → (∀ v ∈ p', 0 ≤ v ∧ v ≤ 1073741824) → p.flatMap enc ++ r = p'.flatMap enc ++ q → p = p' ∧ r = q
  | [], [], r, q, _, _, _, h => ⟨rfl, h⟩
  | [], _ :: _, _, _, hl, _, _, _ => by simp at hl
  | _ :: _, [], _, _, hl, _, _, _ => by simp at hl
  | v :: p, w :: p', r, q, hl, h1, h2, h => by
    simp only [List.flatMap_cons, List.append_assoc] at h
    obtain ⟨e1, e2⟩ := enc_inj (h1 v (by simp)) (h2 w (by simp)) h
    obtain ⟨e3, e4⟩ := flat_inj p p' (by simpa using hl) (fun x hx => h1 x (by simp [hx])) (fun x hx => h2 x (by simp [hx])) e2
    exact ⟨by rw [e1, e3], e4⟩
theorem by8_inj {s t : List UInt8} (h : by8 s = by8 t) : s = t := by rw [← bytes_by8 s, h, bytes_by8]
theorem bd_app (m : Ms) (r : List Int) : bd m ++ r = enc m.1 ++ (enc m.2.1 ++ (enc m.2.2.1 ++ (enc m.2.2.2.1 ++ (enc m.2.2.2.2.1 ++ (enc m.2.2.2.2.2.1 ++ (enc (m.2.2.2.2.2.2.1.length : Int) ++ (m.2.2.2.2.2.2.1.flatMap enc ++ (enc m.2.2.2.2.2.2.2.1 ++ (enc m.2.2.2.2.2.2.2.2.1 ++ (enc (m.2.2.2.2.2.2.2.2.2.length : Int) ++ (by8 m.2.2.2.2.2.2.2.2.2 ++ r))))))))))) := by
  simp only [bd, List.flatMap_cons, List.flatMap_nil, List.append_assoc, List.append_nil]
theorem peel {m w : Ms} {r q : List Int} (hm : Rg m) (hw : Rg w) (h : bd m ++ r = bd w ++ q) : m = w ∧ r = q := by
  rw [bd_app, bd_app] at h
  have p1 := hm.pl; have p2 := hw.pl; have s1 := hm.s; have s2 := hw.s
  obtain ⟨e1, h⟩ := enc_inj hm.k hw.k h
  obtain ⟨e2, h⟩ := enc_inj hm.f hw.f h
  obtain ⟨e3, h⟩ := enc_inj hm.t hw.t h
  obtain ⟨e4, h⟩ := enc_inj hm.i hw.i h
  obtain ⟨e5, h⟩ := enc_inj hm.e hw.e h
  obtain ⟨e6, h⟩ := enc_inj hm.a hw.a h
  obtain ⟨e7, h⟩ := enc_inj ⟨by omega, by omega⟩ ⟨by omega, by omega⟩ h
  obtain ⟨e8, h⟩ := flat_inj _ _ (by omega) hm.p hw.p h
  obtain ⟨e9, h⟩ := enc_inj hm.lo hw.lo h
  obtain ⟨e10, h⟩ := enc_inj hm.hi hw.hi h
  obtain ⟨e11, h⟩ := enc_inj ⟨by omega, by omega⟩ ⟨by omega, by omega⟩ h
  have hl : (by8 m.2.2.2.2.2.2.2.2.2).length = (by8 w.2.2.2.2.2.2.2.2.2).length := by simp only [by8, List.length_map]; omega
  obtain ⟨e12, h⟩ := List.append_inj h hl
  refine ⟨?_, h⟩
  obtain ⟨k, f, t, i, e, a, p, lo, hi, s⟩ := m
  obtain ⟨k', f', t', i', e', a', p', lo', hi', s'⟩ := w
  simp only at e1 e2 e3 e4 e5 e6 e8 e9 e10 e12
  have e13 := by8_inj e12
  subst e1 e2 e3 e4 e5 e6 e8 e9 e10 e13
  rfl
theorem enc_sh {v : Int} (h : 0 ≤ v ∧ v < 128) : enc v = [v] := by
  simp only [enc, encF, if_pos h.2]
theorem flat_sh : ∀ (l : List Int), (∀ v ∈ l, 0 ≤ v ∧ v < 128) → l.flatMap enc = l
  | [], _ => rfl
  | v :: l, h => by rw [List.flatMap_cons, enc_sh (h v (by simp)), flat_sh l (fun x hx => h x (by simp [hx]))]; rfl
theorem bd_sh {m : Ms} (hg : Rg m) (h : Sh m) : bd m = [m.1, m.2.1, m.2.2.1, m.2.2.2.1, m.2.2.2.2.1, m.2.2.2.2.2.1, (m.2.2.2.2.2.2.1.length : Int)] ++ m.2.2.2.2.2.2.1 ++ [m.2.2.2.2.2.2.2.1, m.2.2.2.2.2.2.2.2.1] ++ [(m.2.2.2.2.2.2.2.2.2.length : Int)] ++ by8 m.2.2.2.2.2.2.2.2.2 := by
  have := hg.pl; have := hg.s
  unfold bd
  rw [flat_sh _ h.p, flat_sh, flat_sh, enc_sh]
  · omega
  · intro v hv
    simp only [List.mem_cons, List.not_mem_nil, or_false] at hv
    rcases hv with rfl | rfl
    · exact h.lo
    · exact h.hi
  · intro v hv
    simp only [List.mem_cons, List.not_mem_nil, or_false] at hv
    rcases hv with rfl | rfl | rfl | rfl | rfl | rfl | rfl
    · exact h.k
    · exact h.f
    · exact h.t
    · exact h.i
    · exact h.e
    · exact h.a
    · omega
theorem bd_len {m : Ms} (hg : Rg m) (h : Sh m) : (bd m).length = 10 + m.2.2.2.2.2.2.1.length + m.2.2.2.2.2.2.2.2.2.length := by
  rw [bd_sh hg h]
  simp only [List.length_append, List.length_cons, List.length_nil, by8, List.length_map]
  omega
theorem Made_eq (N : Nat) (l : List Int) : W_Made N l = some (l, 0) := rfl
theorem by8_bytes {l : List Int} (h : U8 l) : by8 (bytesI l) = l := by
  unfold bytesI by8
  rw [List.map_map]
  conv => rhs; rw [← List.map_id l]
  apply List.map_congr_left
  intro n hn
  have := h n hn
  simp
  omega
open Classical in
theorem law_aux (N : Nat) (hN : 1000 ≤ N) (x y : List Int) (hU : U8 x) (hV : U8 y) : W_law12_MsgApart N (x, y) = some true := by
  unfold W_law12_MsgApart
  simp only
  by_cases c1 : (15 : Int) < x.length
  · rw [dT c1, cnd_t]
  rw [dF c1, cnd_f]
  by_cases c2 : (15 : Int) < y.length
  · rw [dT c2, cnd_t]
  rw [dF c2, cnd_f, Made_eq, obind_s]
  simp only
  obtain ⟨m, n', h1, h2, h3⟩ := Msg_eq N hN 2 x (by omega) hU
  obtain ⟨w, n'', k1, k2, k3⟩ := Msg_eq N hN 2 y (by omega) hV
  have hg := h2.rg
  have hw := k2.rg
  have q1 := hg.pl; have q2 := hw.pl
  have hP := PutM_eq N hN m (by omega)
  have hQ := PutM_eq N hN w (by omega)
  rw [if_pos h2] at hP
  rw [if_pos k2] at hQ
  have hS := Same_eq N m w (by omega) (by omega)
  have hT := Same_eq N m m (by omega) (by omega)
  have key : (bytesI (bd m ++ sm (bd m)) == bytesI (bd w ++ sm (bd w))) = decide (m = w) := by
    by_cases c : m = w
    · subst c; rw [dT rfl, BEq.rfl]
    · rw [dF c]
      apply beq_eq_false_iff_ne.2
      intro q
      have b1 := U8_app (bd_U8 hg).1 (sm_U8 (bd m))
      have b2 := U8_app (bd_U8 hw).1 (sm_U8 (bd w))
      have q := congrArg by8 q
      rw [by8_bytes b1, by8_bytes b2] at q
      exact c (peel hg hw q).1
  have u1 := U8_all (U8_app (bd_U8 hg).1 (sm_U8 (bd m)))
  have u2 := U8_all (U8_app (bd_U8 hw).1 (sm_U8 (bd w)))
  obtain ⟨k, f, t, i, e, a, p, lo, hi, s⟩ := m
  obtain ⟨k', f', t', i', e', a', p', lo', hi', s'⟩ := w
  rw [h1, obind_s, Made_eq, obind_s]
  simp only
  rw [k1, obind_s]
  simp only
  rw [hP, obind_s, u1, cnd_t, hQ, obind_s, u2, cnd_t, hS, obind_s, key, BEq.rfl, cnd_t, hT, obind_s, dT rfl]
def NN : Nat := 1000
theorem law_true (y0 : List Int) (y1 : List Int) (h0 : Twf (.list (.int .u8)) y0) (h1 : Twf (.list (.int .u8)) y1) : W_law12_MsgApart NN (y0, y1) = some true := law_aux NN (Nat.le_refl _) y0 y1 h0.2 h1.2

theorem spec (y0 : List Int) (y1 : List Int) (h0 : Twf (.list (.int .u8)) y0) (h1 : Twf (.list (.int .u8)) y1) : Spec2 P0 5 [valW (.list (.int .u8)) y0, valW (.list (.int .u8)) y1] [] (.bs true) [] [] := (con_law12_MsgApart_ok NN).2 (y0, y1) true (law_true y0 y1 h0 h1)
theorem lifted (os : Os) (started : os.Started) (H : Type) (enc : TypeId × Value → H) :
    ReturnsInHanded {} Try.checked os 5 .any (Rows.msgApartSpec.pre6 enc Try.prog Try.f5 Rows.msgApartRow.domain false) (Rows.msgApartSpec.post enc Try.prog Try.f5 false true false false) := by
  refine returnsInHanded_of_change (C := Try.checked) own started (by kernel_rfl) Try.func5
    (ChangeSpec.witness6 (enc := enc) (C := Try.checked) false ⟨#[], #[.slice none 0 0, .slice none 0 0], []⟩ 8 (by kernel_rfl) (by kernel_rfl) (by kernel_rfl) (by kernel_rfl)) ?_
  intro W base args ds gs before hval0 hW hcnd _
  have hval : ∀ (j : Nat) t v, Try.f5.params[j]? = some t → args[j]? = some v → Value.okWide Try.prog W .any base t v := hval0
  have hW' := hW
  obtain ⟨p, q, hA0, hV, rfl, hfz, hnd⟩ := hW
  have hA : DataW.TrodAll enc Try.prog W 0 (fun _ => true) true Try.f5.params.toList args.toList ds p := hA0
  rw [Try.params5] at hA hval
  obtain ⟨v0, vs0, d0, ds0, p0, q0, hargs, rfl, rfl, h0, r0⟩ := trodAll_cons hA
  obtain ⟨v1, vs1, d1, ds1, p1, q1, rfl, rfl, rfl, h1, r1⟩ := trodAll_cons r0
  obtain ⟨rfl, rfl, rfl⟩ := trodAll_nil r1
  obtain rfl : args = #[v0, v1] := by cases args; simp_all
  obtain ⟨rfl, rfl⟩ := trodVars_none hV
  have k0 := h0
  have lt0 : ∀ x ∈ p0, x.block < W.heap.size := by obtain ⟨m, hm⟩ := k0; exact DataW.trod_lt m _ _ _ hm
  obtain ⟨y0, rp0, wf0⟩ := arg_ok (n := 12) (ty := (.list (.int .u8))) (by kernel_rfl) (hval 0 _ v0 rfl rfl) h0
  have k1 := h1
  have lt1 : ∀ x ∈ p1, x.block < W.heap.size := by obtain ⟨m, hm⟩ := k1; exact DataW.trod_lt m _ _ _ hm
  obtain ⟨y1, rp1, wf1⟩ := arg_ok (n := 12) (ty := (.list (.int .u8))) (by kernel_rfl) (hval 1 _ v1 rfl rfl) h1
  clear hA0 hval0
  refine (law_of2 (spec y0 y1 wf0 wf1) W #[v0, v1] (.cons rp0 (.cons rp1 .nil))).mono fun e W' ⟨he, bel⟩ => ?_
  subst he
  exact ⟨_, rfl, _, _, _, [], _, [], hW', trodAll_mk1 (shut_bool Try.underlying4 _), (trodAll_cons_mk (Below.trod laidOut (by kernel_rfl) (of_decide_eq_true (by kernel_rfl)) k0 bel lt0) (trodAll_cons_mk (Below.trod laidOut (by kernel_rfl) (of_decide_eq_true (by kernel_rfl)) k1 bel lt1) trodAll_mk0)), rfl, bel.frame _, fun h => by cases h⟩

theorem over : Rows.msgApartRow.holds Try.pinned (OpenSpec.ofChange Rows.msgApartSpec) :=
  OpenClaim.holds_of_wide 5 Try.f5 rfl rfl rfl rfl rfl rfl rfl ⟨rfl, rfl, rfl, rfl, rfl⟩ rfl rfl rfl rfl rfl (by kernel_rfl) Try.func5 (by kernel_rfl)
    (of_decide_eq_true (by kernel_rfl)) (by unfold Func.isWrapper; first | (rw [if_pos (by decide +kernel)]; kernel_rfl) | (rw [if_neg (by decide +kernel)]; exact ⟨rfl, rfl⟩))
    (fun os started H enc _ => lifted os started H enc)

theorem holds : Rows.MsgApartSaid := over
end Go.Proofs.Ytfgceflanjeejaa.msgApartX
