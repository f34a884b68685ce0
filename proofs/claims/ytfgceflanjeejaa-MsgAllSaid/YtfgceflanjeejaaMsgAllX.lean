/- MsgAll: for all arguments the call returns true. The law is brought to a function of Lean's own (W_..) by the machine of the texts beside it, and that is reckoned; no condition. -/
import Derived.Test.YtfgceflanjeejaaMsgAllW0
namespace Go.Proofs.Ytfgceflanjeejaa.msgAllX
open Go.Abs Go.RowKit Go.ChangeShapes Go.WideShapes Go.ChangeAt
set_option maxRecDepth 100000
set_option linter.unusedVariables false
set_option linter.unusedSimpArgs false
/-! What is reckoned. -/
-- PURE
theorem wr_s {z : Int} (h : 0 ≤ z) (h2 : z ≤ 140737488355328) : wr .i64 z = z := wr_i64 (by omega) (by omega)
theorem getD_mem {l : List Int} {j : Nat} (h : j < l.length) : l.getD j 0 ∈ l := by
  rw [List.getD_eq_getElem?_getD, List.getElem?_eq_getElem h]; exact List.getElem_mem h
theorem mem_getD {l : List Int} {x : Int} (h : x ∈ l) : ∃ j, j < l.length ∧ l.getD j 0 = x := by
  obtain ⟨j, hj, e⟩ := List.getElem_of_mem h
  exact ⟨j, hj, by rw [List.getD_eq_getElem?_getD, List.getElem?_eq_getElem hj]; exact e⟩
theorem Index_eq (N : Nat) (l : List Int) (x : Int) (hN : l.length < N) (hl : l.length ≤ 140737488355327) : ∃ r, W_slices_Index_int N (l, x) = some r ∧ (0 ≤ r ↔ x ∈ l) := by
  unfold W_slices_Index_int V_slices_Index_int
  obtain ⟨r, h1, h2⟩ := loopN_run (N := N) (f := fun (v : Int) =>
      cnd (decide (v < ↑(List.length (Prod.fst (l, x)))))
        (cnd (decide ((0 : Int) ≤ v) && decide (v < ↑(List.length (Prod.fst (l, x)))))
          (cnd (decide (Prod.snd (l, x) = List.getD (Prod.fst (l, x)) (Int.toNat v) (0 : Int))) (some (Sum.inr (Sum.inr v)))
            (some (Sum.inl (wr IntKind.i64 (v + (1 : Int))))))
          none)
        (some (Sum.inr (Sum.inl ())))) (x := Int.ofNat 0)
    (fun v => 0 ≤ v ∧ v ≤ l.length ∧ ∀ j : Nat, (j : Int) < v → l.getD j 0 ≠ x) (fun v => l.length - v.toNat) (fun r : PUnit ⊕ Int => match r with | .inl _ => x ∉ l | .inr k => 0 ≤ k ∧ x ∈ l) (fun v ⟨g1, g2, g3⟩ => by
      simp only
      by_cases h : v < l.length
      · simp only [dT h, dT g1, Bool.and_self, cnd_t]
        by_cases he : x = l.getD v.toNat 0
        · right
          rw [dT he, cnd_t]
          exact ⟨_, rfl, g1, by rw [he]; exact getD_mem (by omega)⟩
        · left
          rw [dF he, cnd_f, wr_s (by omega) (by omega)]
          refine ⟨_, rfl, ⟨by omega, by omega, fun j hj => ?_⟩, by omega⟩
          by_cases hjv : (j : Int) < v
          · exact g3 j hjv
          · have : j = v.toNat := by omega
            subst this
            exact fun e => he e.symm
      · right
        rw [dF h, cnd_f]
        refine ⟨_, rfl, fun hm => ?_⟩
        obtain ⟨j, hj, e⟩ := mem_getD hm
        exact g3 j (by omega) e) ⟨by simp, by simp, fun j hj => by simp at hj; omega⟩ (by simp; omega)
  rw [h1, obind_s]
  cases r with
  | inl u => exact ⟨-1, rfl, by simp only at h2; simp [h2]⟩
  | inr k => exact ⟨k, rfl, by simp only at h2; simp [h2.1, h2.2]⟩
theorem Has_eq (N : Nat) (l : List Int) (x : Int) (hN : l.length < N) (hl : l.length ≤ 140737488355327) : W_path_Has N (l, x) = some (decide (x ∈ l)) := by
  obtain ⟨r, h1, h2⟩ := Index_eq N l x hN hl
  unfold W_path_Has V_path_Has W_slices_Contains_int V_slices_Contains_int
  simp only [h1, obind_s]
  by_cases h : x ∈ l
  · rw [dT (h2.2 h), dT h]
  · rw [dF (fun e => h (h2.1 e)), dF h]
def VP (x : List Int) : Prop := 1 ≤ x.length ∧ x.length ≤ 10 ∧ x.getD 0 0 = 1 ∧ ∀ j, j < x.length → 1 ≤ x.getD j 0 ∧ x.getD j 0 ≤ 8 ∧ x.getD j 0 ∉ x.take j
open Classical in
theorem pread_eq (N : Nat) (x : List Int) (hN : 12 ≤ N) : W_path_read N x = some (if VP x then .inl x else .inr ()) := by
  unfold W_path_read V_path_read
  by_cases h1 : (x.length : Int) < 1
  · rw [dT h1, cnd_t, obind_s, cnd_t, if_neg (fun h => by have := h.1; omega)]
  rw [dF h1, cnd_f, obind_s]
  by_cases h2 : (10 : Int) < x.length
  · rw [dT h2, cnd_t, if_neg (fun h => by have := h.2.1; omega)]
  rw [dF h2, cnd_f, dT (show (0 : Int) ≤ 0 by omega), dT (show (0 : Int) < x.length by omega), Bool.and_self, cnd_t]
  by_cases h3 : x.getD 0 0 = 1
  case neg => rw [dT h3, cnd_t, if_neg (fun h => h3 h.2.2.1)]
  rw [dF (by simpa using h3), cnd_f]
  refine obind_loop (fun v : Int => 0 ≤ v ∧ v ≤ x.length ∧ ∀ j : Nat, (j : Int) < v → 1 ≤ x.getD j 0 ∧ x.getD j 0 ≤ 8 ∧ x.getD j 0 ∉ x.take j) (fun v => x.length - v.toNat)
    (fun r : PUnit ⊕ List Int ⊕ PUnit => (r = .inl () ∧ VP x) ∨ (r = .inr (.inr ()) ∧ ¬ VP x)) ⟨by simp, by simp, fun j hj => by simp at hj; omega⟩ (by simp; omega) ?_ ?_
  · rintro r (⟨rfl, h⟩ | ⟨rfl, h⟩)
    · rw [selim_l, if_pos h]
    · rw [selim_r, if_neg h]
  · rintro v ⟨g1, g2, g3⟩
    by_cases h : v < x.length
    · simp only [dT h, dT g1, Bool.and_self, cnd_t, dT (show v ≤ x.length by omega), List.drop_zero]
      have bad : ¬ (1 ≤ x.getD v.toNat 0 ∧ x.getD v.toNat 0 ≤ 8 ∧ x.getD v.toNat 0 ∉ x.take v.toNat) → ¬ VP x := fun hb hv => hb (hv.2.2.2 v.toNat (by omega))
      by_cases b1 : x.getD v.toNat 0 < 1
      · right
        rw [dT b1, cnd_t, obind_s, cnd_t]
        exact ⟨_, rfl, .inr ⟨rfl, bad (fun h => by omega)⟩⟩
      rw [dF b1, cnd_f, obind_s]
      by_cases b2 : 8 < x.getD v.toNat 0
      · right
        rw [dT b2, cnd_t]
        exact ⟨_, rfl, .inr ⟨rfl, bad (fun h => by omega)⟩⟩
      rw [dF b2, cnd_f, Has_eq N _ _ (by rw [List.length_take]; omega) (by rw [List.length_take]; omega), obind_s]
      by_cases b3 : x.getD v.toNat 0 ∈ x.take v.toNat
      · right
        rw [dT b3, cnd_t]
        exact ⟨_, rfl, .inr ⟨rfl, bad (fun h => h.2.2 b3)⟩⟩
      left
      rw [dF b3, cnd_f, wr_s (by omega) (by omega)]
      refine ⟨_, rfl, ⟨by omega, by omega, fun j hj => ?_⟩, by omega⟩
      by_cases hjv : (j : Int) < v
      · exact g3 j hjv
      · have : j = v.toNat := by omega
        subst this
        exact ⟨by omega, by omega, b3⟩
    · right
      rw [dF h, cnd_f]
      exact ⟨_, rfl, .inl ⟨rfl, by omega, by omega, h3, fun j hj => g3 j (by omega)⟩⟩
open Classical in
theorem May_eq (N : Nat) (p : List Int) (hN : 12 ≤ N) : W_path_May N p = some (decide (VP p)) := by
  unfold W_path_May V_path_May
  rw [pread_eq N _ hN, obind_s]
  split
  · rename_i h; rw [selim_l, dT h]
  · rename_i h; rw [selim_r, dF h]
open Classical in
/-- A loop that looks at each place till one is bad. -/
theorem all_loop {N len : Nat} {β : Type} {f : Int → Option (Int ⊕ (PUnit ⊕ β))} (bad : Nat → Prop) (r : β) (hN : len < N)
    (hf : ∀ v : Int, 0 ≤ v → v < len → f v = if bad v.toNat then some (.inr (.inr r)) else some (.inl (v + 1))) (he : ∀ v : Int, 0 ≤ v → ¬ v < len → f v = some (.inr (.inl ()))) :
    loopN N f (Int.ofNat 0) = some (if ∃ j, j < len ∧ bad j then .inr r else .inl ()) := by
  obtain ⟨q, h1, h2⟩ := loopN_run (N := N) (f := f) (x := Int.ofNat 0) (fun v => 0 ≤ v ∧ v ≤ len ∧ ∀ j : Nat, (j : Int) < v → ¬ bad j) (fun v => len - v.toNat)
    (fun q => q = if ∃ j, j < len ∧ bad j then .inr r else .inl ()) (fun v ⟨g1, g2, g3⟩ => by
      by_cases h : v < len
      · rw [hf v g1 h]
        by_cases hb : bad v.toNat
        · right
          rw [if_pos hb]
          exact ⟨_, rfl, by rw [if_pos ⟨v.toNat, by omega, hb⟩]⟩
        · left
          rw [if_neg hb]
          refine ⟨_, rfl, ⟨by omega, by omega, fun j hj => ?_⟩, by omega⟩
          by_cases hjv : (j : Int) < v
          · exact g3 j hjv
          · have : j = v.toNat := by omega
            subst this; exact hb
      · right
        rw [he v g1 h]
        exact ⟨_, rfl, by rw [if_neg]; rintro ⟨j, hj, hb⟩; exact g3 j (by omega) hb⟩) ⟨by simp, by simp, fun j hj => by simp at hj; omega⟩ (by simp; omega)
  rw [h1, h2]
open Classical in
theorem rHas_eq (N : Nat) (l : List Int) (x : Int) (hN : l.length < N) (hl : l.length ≤ 140737488355327) : W_ref1_Has N (l, x) = some (decide (x ∈ l)) := by
  unfold W_ref1_Has V_ref1_Has
  simp only
  rw [all_loop (len := l.length) (fun j => l.getD j 0 = x) true hN (fun v h1 h2 => by
    rw [dT h2, cnd_t, dT h1, Bool.and_self, cnd_t]
    by_cases h : l.getD v.toNat 0 = x
    · rw [dT h, cnd_t, if_pos h]
    · rw [dF h, cnd_f, if_neg h, wr_s (by omega) (by omega)]) (fun v _ h => by rw [dF h, cnd_f]), obind_s]
  by_cases h : x ∈ l
  · rw [if_pos (mem_getD h), selim_r, dT h]
  · rw [if_neg (fun ⟨j, hj, e⟩ => h (e ▸ getD_mem hj)), selim_l, dF h]
open Classical in
theorem rMay_eq (N : Nat) (x : List Int) (hN : 12 ≤ N) : W_ref1_MayPath N x = some (decide (VP x)) := by
  unfold W_ref1_MayPath V_ref1_MayPath
  by_cases h1 : (x.length : Int) < 1
  · rw [dT h1, cnd_t, obind_s, cnd_t, dF (fun h => by have := h.1; omega)]
  rw [dF h1, cnd_f, obind_s]
  by_cases h2 : (10 : Int) < x.length
  · rw [dT h2, cnd_t, dF (fun h => by have := h.2.1; omega)]
  rw [dF h2, cnd_f, dT (show (0 : Int) ≤ 0 by omega), dT (show (0 : Int) < x.length by omega), Bool.and_self, cnd_t]
  by_cases h3 : x.getD 0 0 = 1
  case neg => rw [dT h3, cnd_t, dF (fun h => h3 h.2.2.1)]
  rw [dF (by simpa using h3), cnd_f]
  rw [all_loop (len := x.length) (fun j => ¬ (1 ≤ x.getD j 0 ∧ x.getD j 0 ≤ 8 ∧ x.getD j 0 ∉ x.take j)) false (by omega) (fun v g1 g2 => by
    rw [dT g2, dT g1, cnd_t, Bool.and_self, cnd_t, dT (show v ≤ x.length by omega), cnd_t, Bool.and_self, cnd_t, cnd_t, List.drop_zero]
    by_cases b1 : x.getD v.toNat 0 < 1
    · rw [dT b1, cnd_t, if_pos (fun h => by omega)]
    rw [dF b1, cnd_f]
    by_cases b2 : 8 < x.getD v.toNat 0
    · rw [dT b2, cnd_t, if_pos (fun h => by omega)]
    rw [dF b2, cnd_f, rHas_eq N _ _ (by rw [List.length_take]; omega) (by rw [List.length_take]; omega), obind_s]
    by_cases b3 : x.getD v.toNat 0 ∈ x.take v.toNat
    · rw [dT b3, cnd_t, if_pos (fun h => h.2.2 b3)]
    rw [dF b3, cnd_f, if_neg (fun h => h ⟨by omega, by omega, b3⟩), wr_s (by omega) (by omega)]) (fun v _ h => by rw [dF h, cnd_f]), obind_s]
  by_cases hv : VP x
  · rw [if_neg (fun ⟨j, hj, hb⟩ => hb (hv.2.2.2 j hj)), selim_l, dT hv]
  · rw [if_pos, selim_r, dF hv]
    refine Classical.byContradiction fun hn => hv ⟨by omega, by omega, h3, fun j hj => Classical.byContradiction fun hb => hn ⟨j, hj, hb⟩⟩
open Classical in
theorem rAdd_eq (N : Nat) (p : List Int) (id : Int) (hN : 12 ≤ N) (hl : p.length ≤ 1000) : W_ref1_AddPath N (p, id) = some (if VP (p ++ [id]) then (p ++ [id], true) else ([], false)) := by
  unfold W_ref1_AddPath V_ref1_AddPath
  simp only
  rw [dT (by omega), cnd_t, dT (by simp; omega), cnd_t, rMay_eq N _ hN, obind_s]
  by_cases h : VP (p ++ [id])
  · rw [dT h, if_pos h, Bool.not_true, cnd_f]
  · rw [dF h, if_neg h, Bool.not_false, cnd_t]
theorem Num_eq (N : Nat) (m : Int) (l : List Int) (n : Int) (hm : 1 ≤ m) (hn : 0 ≤ n) (hn2 : n ≤ 1000000) (hel : ∀ x ∈ l, 0 ≤ x ∧ x ≤ 255) : ∃ k n', W_Picks_Num N (m, l, n) = some (k, l, n') ∧ 0 ≤ k ∧ k < m ∧ n ≤ n' ∧ n' ≤ n + 1 := by
  unfold W_Picks_Num V_Picks_Num
  simp only
  by_cases h : (l.length : Int) ≤ n
  · rw [dT h, cnd_t]; exact ⟨_, _, rfl, by omega, by omega, by omega, by omega⟩
  rw [dF h, cnd_f, dF (by omega), cnd_f, wr_s (z := n + 1) (by omega) (by omega), wr_s (z := n + 1 - 1) (by omega) (by omega), dT (by omega), dT (by omega), Bool.and_self, cnd_t, dF (by omega), Bool.not_false, cnd_t]
  have hb := hel (l.getD (n + 1 - 1).toNat 0) (getD_mem (by omega))
  rw [wr_s (by omega) (by omega), Int.tmod_eq_emod_of_nonneg (by omega)]
  exact ⟨_, _, rfl, Int.emod_nonneg _ (by omega), Int.emod_lt_of_pos _ (by omega), by omega, by omega⟩
open Classical in
theorem Path_eq (N : Nat) (l : List Int) (n : Int) (hN : 12 ≤ N) (hn : 0 ≤ n) (hn2 : n ≤ 1000) (hel : ∀ x ∈ l, 0 ≤ x ∧ x ≤ 255) : ∃ p n', W_Picks_Path N (l, n) = some (p, l, n') ∧ VP p ∧ n ≤ n' ∧ n' ≤ n + 5 := by
  unfold W_Picks_Path V_Picks_Path
  simp only
  obtain ⟨k, n1, e1, a1, a2, a3, a4⟩ := Num_eq N 4 l n (by omega) hn (by omega) hel
  rw [e1, obind_s]
  simp only
  obtain ⟨r, h1, h2⟩ := loopN_run (N := N) (f := fun (v : List Int × Int × List Int × Int) =>
        cnd (decide ((0 : Int) < Prod.fst (Prod.snd v)))
          (obind (W_Picks_Num N ((7 : Int), Prod.fst (Prod.snd (Prod.snd v)), Prod.snd (Prod.snd (Prod.snd v))))
            fun (b : Int × List Int × Int) =>
            obind (W_ref1_AddPath N (Prod.fst v, wr IntKind.i64 ((2 : Int) + Prod.fst b)))
              fun (b_1 : List Int × Bool) =>
              cnd (Prod.snd b_1)
                (some
                  (Sum.inl
                    (Prod.fst b_1, wr IntKind.i64 (Prod.fst (Prod.snd v) - (1 : Int)), Prod.fst (Prod.snd b),
                      Prod.snd (Prod.snd b))))
                (some
                  (Sum.inl
                    (Prod.fst v, wr IntKind.i64 (Prod.fst (Prod.snd v) - (1 : Int)), Prod.fst (Prod.snd b),
                      Prod.snd (Prod.snd b)))))
          (some (Sum.inr (Prod.fst v, Prod.fst (Prod.snd (Prod.snd v)), Prod.snd (Prod.snd (Prod.snd v)))))) (x := ([1], k, l, n1))
    (fun v => VP v.1 ∧ 0 ≤ v.2.1 ∧ v.2.1 ≤ 4 ∧ v.2.2.1 = l ∧ n ≤ v.2.2.2 ∧ v.2.2.2 + v.2.1 ≤ n + 5) (fun v => v.2.1.toNat) (fun r => VP r.1 ∧ r.2.1 = l ∧ n ≤ r.2.2 ∧ r.2.2 ≤ n + 5) (fun v => by
      obtain ⟨p, i, l', m⟩ := v
      rintro ⟨g1, g2, g3, g4, g5, g6⟩
      simp only at g1 g2 g3 g4 g5 g6 ⊢
      subst g4
      by_cases hi : 0 < i
      · left
        obtain ⟨k', m', f1, f2, f3, f4, f5⟩ := Num_eq N 7 l' m (by omega) (by omega) (by omega) hel
        have hp := g1.2.1
        rw [dT hi, cnd_t, f1, obind_s]
        simp only
        rw [wr_s (z := 2 + k') (by omega) (by omega), rAdd_eq N p _ hN (by omega), obind_s, wr_s (z := i - 1) (by omega) (by omega)]
        by_cases hv : VP (p ++ [2 + k'])
        · simp only [if_pos hv, cnd_t]
          exact ⟨_, rfl, ⟨hv, by simp only; omega, by simp only; omega, rfl, by simp only; omega, by simp only; omega⟩, by simp only; omega⟩
        · simp only [if_neg hv, cnd_f]
          exact ⟨_, rfl, ⟨g1, by simp only; omega, by simp only; omega, rfl, by simp only; omega, by simp only; omega⟩, by simp only; omega⟩
      · right
        rw [dF hi, cnd_f]
        exact ⟨_, rfl, g1, rfl, by simp only; omega, by simp only; omega⟩)
    ⟨⟨by simp, by simp, by simp, fun j hj => by
      have : j = 0 := by simpa using hj
      subst this; simp⟩, by simp only; omega, by simp only; omega, rfl, by simp only; omega, by simp only; omega⟩ (by simp only; omega)
  rw [h1, obind_s]
  obtain ⟨b1, b2, b3, b4⟩ := h2
  obtain ⟨p, l', m⟩ := r
  simp only at b1 b2 b3 b4
  subst b2
  exact ⟨_, _, rfl, b1, b3, b4⟩
theorem wr_u32 {z : Int} (h : 0 ≤ z) (h2 : z ≤ 4294967295) : wr .u32 z = z := by
  have e1 : lo .u32 = 0 := by rfl
  have e2 : hi .u32 = 4294967295 := by rfl
  unfold wr
  rw [if_pos ⟨by omega, by omega⟩]
theorem wr_i32 {z : Int} (h : -2147483648 ≤ z) (h2 : z ≤ 2147483647) : wr .i32 z = z := by
  have e1 : lo .i32 = -2147483648 := by rfl
  have e2 : hi .i32 = 2147483647 := by rfl
  unfold wr
  rw [if_pos ⟨by omega, by omega⟩]
theorem getD_memI {l : List Int} {j : Nat} (h : j < l.length) : l.getD j 0 ∈ l := by
  rw [List.getD_eq_getElem?_getD, List.getElem?_eq_getElem h]; exact List.getElem_mem h
/-- Exclusive or. -/
def X (a b : Int) : Int := ((BitVec.ofInt 32 a ^^^ BitVec.ofInt 32 b).toNat : Int)
theorem X_rng (a b : Int) : 0 ≤ X a b ∧ X a b ≤ 4294967295 := by
  unfold X
  have := (BitVec.ofInt 32 a ^^^ BitVec.ofInt 32 b).isLt
  omega
theorem X_wr (a b : Int) : wr .u32 ((BitVec.ofInt 32 a ^^^ BitVec.ofInt 32 b).toNat : Int) = X a b := wr_u32 (X_rng a b).1 (X_rng a b).2
theorem and_one (v : Int) (h : 0 ≤ v) (h2 : v ≤ 4294967295) : wr .u32 ((BitVec.ofInt 32 v &&& BitVec.ofInt 32 1).toNat : Int) = v % 2 := by
  have e : (BitVec.ofInt 32 v &&& BitVec.ofInt 32 1).toNat = (v % 2).toNat := by
    rw [BitVec.toNat_and, BitVec.toNat_ofInt, BitVec.toNat_ofInt]
    have e1 : ((1 : Int) % ((2 ^ 32 : Nat) : Int)).toNat = 1 := by decide
    have e2 : (v % ((2 ^ 32 : Nat) : Int)).toNat = v.toNat := by
      have : v % ((2 ^ 32 : Nat) : Int) = v := Int.emod_eq_of_lt h (by omega)
      rw [this]
    rw [e1, e2, Nat.and_one_is_mod]
    omega
  rw [e, wr_u32 (by omega) (by omega)]
  omega
def s1 (c : Int) : Int := if c % 2 = 1 then X (c / 2) 3988292384 else c / 2
theorem s1_rng {c : Int} (h : 0 ≤ c) (h2 : c ≤ 4294967295) : 0 ≤ s1 c ∧ s1 c ≤ 4294967295 := by
  unfold s1
  split
  · exact X_rng _ _
  · omega
def s1n : Nat → Int → Int
  | 0, c => c
  | n + 1, c => s1 (s1n n c)
theorem s1n_rng {c : Int} (h : 0 ≤ c) (h2 : c ≤ 4294967295) : ∀ n, 0 ≤ s1n n c ∧ s1n n c ≤ 4294967295
  | 0 => ⟨h, h2⟩
  | n + 1 => s1_rng (s1n_rng h h2 n).1 (s1n_rng h h2 n).2
/-- Eight times. -/
theorem loop8 {N : Nat} (hN : 9 ≤ N) {f : Int × Int → Option ((Int × Int) ⊕ Int)} {c : Int} (h : 0 ≤ c) (h2 : c ≤ 4294967295) (hf : ∀ v : Int × Int, 0 ≤ v.1 → v.1 ≤ 4294967295 → 0 ≤ v.2 → v.2 < 8 → f v = some (.inl (s1 v.1, v.2 + 1)))
    (he : ∀ v : Int × Int, ¬ v.2 < 8 → f v = some (.inr v.1)) : loopN N f (c, 0) = some (s1n 8 c) := by
  obtain ⟨r, h1, h3⟩ := loopN_run (N := N) (f := f) (x := (c, 0)) (fun v => 0 ≤ v.2 ∧ v.2 ≤ 8 ∧ v.1 = s1n v.2.toNat c) (fun v => 8 - v.2.toNat) (fun r => r = s1n 8 c) (fun v ⟨g1, g2, g3⟩ => by
    by_cases hv : v.2 < 8
    · left
      have hr := s1n_rng h h2 v.2.toNat
      rw [hf v (by omega) (by omega) g1 hv]
      refine ⟨_, rfl, ⟨by simp only; omega, by simp only; omega, ?_⟩, by simp only; omega⟩
      simp only
      rw [show (v.2 + 1).toNat = v.2.toNat + 1 by omega, g3]; rfl
    · right
      rw [he v hv]
      refine ⟨_, rfl, ?_⟩
      rw [g3, show v.2.toNat = 8 by omega]) ⟨by simp, by simp, rfl⟩ (by simp; omega)
  rw [h1, h3]
def fold (c : Int) (l : List Int) : Int := l.foldl (fun c b => s1n 8 (X c b)) c
theorem fold_snoc (c : Int) (l : List Int) (b : Int) : fold c (l ++ [b]) = s1n 8 (X (fold c l) b) := by simp [fold]
theorem fold_rng {c : Int} (h : 0 ≤ c) (h2 : c ≤ 4294967295) : ∀ l : List Int, 0 ≤ fold c l ∧ fold c l ≤ 4294967295 := by
  intro l
  induction l generalizing c with
  | nil => exact ⟨h, h2⟩
  | cons b r ih =>
    have hx := X_rng c b
    have := s1n_rng hx.1 hx.2 8
    exact ih this.1 this.2
/-- All bytes. -/
theorem loopB {N : Nat} {x : List Int} (hN : x.length < N) {f : Int × Int → Option ((Int × Int) ⊕ Int)} (hf : ∀ v : Int × Int, 0 ≤ v.1 → v.1 ≤ 4294967295 → 0 ≤ v.2 → v.2 < x.length → f v = some (.inl (s1n 8 (X v.1 (x.getD v.2.toNat 0)), v.2 + 1)))
    (he : ∀ v : Int × Int, ¬ v.2 < x.length → f v = some (.inr v.1)) : loopN N f (4294967295, 0) = some (fold 4294967295 x) := by
  obtain ⟨r, h1, h3⟩ := loopN_run (N := N) (f := f) (x := (4294967295, 0)) (fun v => 0 ≤ v.2 ∧ v.2 ≤ x.length ∧ v.1 = fold 4294967295 (x.take v.2.toNat)) (fun v => x.length - v.2.toNat) (fun r => r = fold 4294967295 x) (fun v ⟨g1, g2, g3⟩ => by
    by_cases hv : v.2 < x.length
    · left
      have hr := fold_rng (c := 4294967295) (by omega) (by omega) (x.take v.2.toNat)
      rw [hf v (by omega) (by omega) g1 hv]
      refine ⟨_, rfl, ⟨by simp only; omega, by simp only; omega, ?_⟩, by simp only; omega⟩
      simp only
      have hl : v.2.toNat < x.length := by omega
      have e : x.take (v.2.toNat + 1) = x.take v.2.toNat ++ [x.getD v.2.toNat 0] := by
        rw [List.getD_eq_getElem?_getD, List.getElem?_eq_getElem hl]
        simp
      rw [show (v.2 + 1).toNat = v.2.toNat + 1 by omega, e, fold_snoc, g3]
    · right
      rw [he v hv]
      refine ⟨_, rfl, ?_⟩
      rw [g3, List.take_of_length_le (by omega)]) ⟨by simp, by simp, rfl⟩ (by simp; omega)
  rw [h1, h3]
theorem obind_self {α : Type} (m : Option α) : obind m (fun b => some b) = m := by cases m <;> rfl
theorem step_eq (N : Nat) (hN : 9 ≤ N) (c b : Int) (hb : 0 ≤ b ∧ b ≤ 255) : W_crc_step N (c, b) = some (s1n 8 (X c b)) := by
  unfold W_crc_step V_crc_step
  simp only
  rw [obind_self, wr_u32 (z := b) (by omega) (by omega), X_wr]
  refine loop8 hN (X_rng c b).1 (X_rng c b).2 (fun v g1 g2 g3 g4 => ?_) (fun v h => by rw [dF h, cnd_f])
  rw [dT g4, cnd_t, and_one _ g1 g2, X_wr, wr_s (by omega) (by omega)]
  have e : Int.fdiv v.1 ((2 : Int) ^ 1) = v.1 / 2 := Int.fdiv_eq_ediv_of_nonneg _ (by decide)
  rw [e]
  unfold s1
  by_cases h : v.1 % 2 = 1
  · rw [dT h, cnd_t, if_pos h]
  · rw [dF h, cnd_f, if_neg h]
theorem Sum_eq (N : Nat) (x : List Int) (hN : 9 ≤ N) (hx : x.length < N) (hl : x.length ≤ 1000000) (h : ∀ b ∈ x, 0 ≤ b ∧ b ≤ 255) : W_crc_Sum N x = some (X (IntKind.max .u32) (fold 4294967295 x)) := by
  unfold W_crc_Sum V_crc_Sum
  rw [loopB hx (fun v g1 g2 g3 g4 => ?_) (fun v h => by rw [dF h, cnd_f]), obind_s, X_wr]
  have hb := h _ (getD_memI (l := x) (j := v.2.toNat) (by omega))
  rw [dT g4, cnd_t, dT g3, Bool.and_self, cnd_t, wr_i32 (by omega) (by omega), step_eq N hN _ _ hb, obind_s, wr_s (by omega) (by omega)]
theorem wr_m {z : Int} (h : -140737488355328 ≤ z) (h2 : z ≤ 140737488355328) : wr .i64 z = z := wr_i64 (by omega) (by omega)
theorem cnd_T {α : Type} {p : Prop} {i : Decidable p} {x y : α} (h : p) : cnd (@decide p i) x y = x := by rw [decide_eq_true h]; rfl
def U8 (l : List Int) : Prop := ∀ n ∈ l, 0 ≤ n ∧ n ≤ 255
theorem U8_all {l : List Int} (h : U8 l) : (List.all l fun (n : Int) => decide ((0 : Int) ≤ n) && decide (n < (256 : Int))) = true := by
  rw [List.all_eq_true]
  intro n hn
  have := h n hn
  simp only [Bool.and_eq_true, decide_eq_true_eq]; omega
theorem U8_app {a b : List Int} (ha : U8 a) (hb : U8 b) : U8 (a ++ b) := fun n hn => (List.mem_append.1 hn).elim (ha n) (hb n)
theorem U8_take {a : List Int} (ha : U8 a) (k : Nat) : U8 (a.take k) := fun n hn => ha n (List.mem_of_mem_take hn)
theorem U8_drop {a : List Int} (ha : U8 a) (k : Nat) : U8 (a.drop k) := fun n hn => ha n (List.mem_of_mem_drop hn)
theorem U8_get {a : List Int} (ha : U8 a) (j : Nat) (hj : j < a.length) : 0 ≤ a.getD j 0 ∧ a.getD j 0 ≤ 255 := by
  rw [List.getD_eq_getElem?_getD, List.getElem?_eq_getElem hj]
  exact ha _ (List.getElem_mem hj)
def encF : Nat → Int → List Int
  | 0, v => [v]
  | k + 1, v => if v < 128 then [v] else (v % 128 + 128) :: encF k (v / 128)
theorem encF_U8 : ∀ (k : Nat) (v : Int), 0 ≤ v → v < 128 * 128 ^ k → U8 (encF k v) ∧ (encF k v).length ≤ k + 1 ∧ 0 < (encF k v).length
  | 0, v, h, h2 => by
    refine ⟨fun n hn => ?_, by simp [encF], by simp [encF]⟩
    simp only [encF, List.mem_singleton] at hn
    subst hn
    simp at h2
    omega
  | k + 1, v, h, h2 => by
    simp only [encF]
    split
    · refine ⟨fun n hn => ?_, by simp, by simp⟩
      simp only [List.mem_singleton] at hn
      subst hn; omega
    · have h3 : v < 128 * 128 ^ k * 128 := by rw [Int.pow_succ] at h2; omega
      obtain ⟨a, b, _⟩ := encF_U8 k (v / 128) (by omega) (by omega)
      refine ⟨fun n hn => ?_, by simp only [List.length_cons]; omega, by simp⟩
      rcases List.mem_cons.1 hn with rfl | hn
      · omega
      · exact a n hn
theorem putLoop {f : Int × List Int → Option ((Int × List Int) ⊕ (Int × List Int))} (h1 : ∀ v l, 0 ≤ v → v < 128 → f (v, l) = some (.inr (v, l)))
    (h2 : ∀ v l, 128 ≤ v → v ≤ 1073741824 → l.length ≤ 2000 → f (v, l) = some (.inl (v / 128, l ++ [v % 128 + 128]))) :
    ∀ (k N : Nat) (v : Int) (l : List Int), k < N → 0 ≤ v → v ≤ 1073741824 → v < 128 * 128 ^ k → l.length + k ≤ 2000 → ∃ v' l', loopN N f (v, l) = some (v', l') ∧ l' ++ [v'] = l ++ encF k v ∧ 0 ≤ v' ∧ v' < 128
  | k, 0, v, l, hN, _, _, _, _ => by omega
  | 0, N + 1, v, l, hN, hv, hm, hk, hl => by
    simp at hk
    exact ⟨v, l, by simp only [loopN, h1 v l hv hk], rfl, hv, hk⟩
  | k + 1, N + 1, v, l, hN, hv, hm, hk, hl => by
    by_cases c : v < 128
    · exact ⟨v, l, by simp only [loopN, h1 v l hv c], by simp only [encF, if_pos c], hv, c⟩
    · have h3 : v < 128 * 128 ^ k * 128 := by rw [Int.pow_succ] at hk; omega
      obtain ⟨v', l', e1, e2, e3, e4⟩ := putLoop h1 h2 k N (v / 128) (l ++ [v % 128 + 128]) (by omega) (by omega) (by omega) (by omega) (by simp only [List.length_append, List.length_singleton]; omega)
      refine ⟨v', l', by simp only [loopN, h2 v l (by omega) hm (by omega)]; exact e1, ?_, e3, e4⟩
      rw [e2]
      simp only [encF, if_neg c, List.append_assoc, List.singleton_append]
def enc (v : Int) : List Int := encF 4 v
theorem Clone_b (N : Nat) (l : List Int) (hl : l.length ≤ 1000) : W_bytes_Clone N l = some l := by
  unfold W_bytes_Clone V_bytes_Clone
  rw [dT (by omega), cnd_t]
theorem stepP1 (v : Int) (l : List Int) (h : v < 128) : cnd (decide ((128 : Int) ≤ v))
              (cnd (decide ((List.length l + List.length [wr IntKind.u8 (wr IntKind.i64 (Int.tmod v (128 : Int) + (128 : Int)))]) * (1 : Nat) ≤ (140737488355328 : Nat)))
                (some (Sum.inl (wr IntKind.i64 (Int.tdiv v (128 : Int)), l ++ [wr IntKind.u8 (wr IntKind.i64 (Int.tmod v (128 : Int) + (128 : Int)))])))
                none)
              (some (Sum.inr (v, l) : (Int × List Int) ⊕ (Int × List Int))) = some (Sum.inr (v, l)) := by rw [dF (by omega), cnd_f]
theorem stepP2 (v : Int) (l : List Int) (h : 128 ≤ v) (h2 : v ≤ 1073741824) (hl : l.length ≤ 2000) : cnd (decide ((128 : Int) ≤ v))
              (cnd (decide ((List.length l + List.length [wr IntKind.u8 (wr IntKind.i64 (Int.tmod v (128 : Int) + (128 : Int)))]) * (1 : Nat) ≤ (140737488355328 : Nat)))
                (some (Sum.inl (wr IntKind.i64 (Int.tdiv v (128 : Int)), l ++ [wr IntKind.u8 (wr IntKind.i64 (Int.tmod v (128 : Int) + (128 : Int)))])))
                none)
              (some (Sum.inr (v, l) : (Int × List Int) ⊕ (Int × List Int))) = some (Sum.inl (v / 128, l ++ [v % 128 + 128])) := by
  rw [dT h, cnd_t, Int.tmod_eq_emod_of_nonneg (by omega), Int.tdiv_eq_ediv_of_nonneg (by omega), wr_m (by omega) (by omega), wr_m (by omega) (by omega), wr_u8 (by omega) (by omega), dT (by simp only [List.length_singleton]; omega), cnd_t]
theorem Put_eq (N : Nat) (hN : 100 ≤ N) (l : List Int) (v : Int) (hl : l.length ≤ 1000) (h0 : 0 ≤ v) (h1 : v ≤ 1073741824) : W_bits_Put N (l, v) = some (l ++ enc v) := by
  unfold W_bits_Put V_bits_Put
  simp only [Clone_b N l hl, obind_s]
  rw [dF (by omega), cnd_f, dF (by omega), cnd_f]
  obtain ⟨v', l', e1, e2, e3, e4⟩ := putLoop (f := fun (v : Int × List Int) => cnd (decide ((128 : Int) ≤ Prod.fst v))
              (cnd (decide ((List.length (Prod.snd v) + List.length [wr IntKind.u8 (wr IntKind.i64 (Int.tmod (Prod.fst v) (128 : Int) + (128 : Int)))]) * (1 : Nat) ≤ (140737488355328 : Nat)))
                (some (Sum.inl (wr IntKind.i64 (Int.tdiv (Prod.fst v) (128 : Int)), Prod.snd v ++ [wr IntKind.u8 (wr IntKind.i64 (Int.tmod (Prod.fst v) (128 : Int) + (128 : Int)))])))
                none)
              (some (Sum.inr (Prod.fst v, Prod.snd v)))) (fun v l h h2 => stepP1 v l h2) (fun v l h h2 hl => stepP2 v l h h2 hl) 4 N v l (by omega) h0 h1 (by omega) (by omega)
  rw [e1, obind_s]
  simp only
  have hlen : l'.length ≤ 1010 := by
    have := congrArg List.length e2
    have h3 := (encF_U8 4 v h0 (by omega)).2.1
    simp only [List.length_append, List.length_singleton] at this
    omega
  rw [wr_u8 e3 (by omega), dT (by simp only [List.length_singleton]; omega), cnd_t, e2]
  rfl
theorem enc_U8 {v : Int} (h0 : 0 ≤ v) (h1 : v ≤ 1073741824) : U8 (enc v) ∧ (enc v).length ≤ 5 ∧ 0 < (enc v).length := encF_U8 4 v h0 (by omega)
def by8 (s : List UInt8) : List Int := List.map (fun (b : UInt8) => (↑(UInt8.toNat b) : Int)) s
theorem by8_U8 (s : List UInt8) : U8 (by8 s) := by
  intro n hn
  obtain ⟨b, _, rfl⟩ := List.mem_map.1 hn
  have := b.toNat_lt
  omega
theorem PutText_eq (N : Nat) (hN : 100 ≤ N) (l : List Int) (s : List UInt8) (hl : l.length ≤ 1000) (hs : s.length ≤ 200) : W_bits_PutText N (l, s) = some (l ++ enc s.length ++ by8 s) := by
  have h3 := (enc_U8 (v := (s.length : Int)) (by omega) (by omega)).2.1
  unfold W_bits_PutText V_bits_PutText
  simp only
  rw [dF (by omega), cnd_f, Put_eq N hN l _ hl (by omega) (by omega), obind_s, dT (by simp only [List.length_append, List.length_map]; omega), cnd_t]
  rfl
/-- The number that bytes begin with. -/
def rd : List Int → Nat → Int → Int → Option (Int × Int)
  | [], _, _, _ => none
  | c :: r, i, v, u => if 5 ≤ i then none else if c < 128 then (if (0 < i ∧ c = 0) ∨ 1073741824 < v + c % 128 * u then none else some (v + c % 128 * u, (i : Int) + 1)) else rd r (i + 1) (v + c % 128 * u) (u * 128)
theorem rd_big : ∀ (l : List Int) (i : Nat) (v u : Int), U8 l → 1073741824 < v → 0 ≤ u → rd l i v u = none
  | [], _, _, _, _, _, _ => rfl
  | c :: r, i, v, u, hU, hv, hu => by
    have hc := hU c (by simp)
    have hm : 0 ≤ c % 128 * u := Int.mul_nonneg (by omega) hu
    simp only [rd]
    split
    · rfl
    · split
      · rw [if_pos (.inr (by omega))]
      · exact rd_big r _ _ _ (fun n hn => hU n (by simp [hn])) (by omega) (by omega)
theorem rd_rng : ∀ (l : List Int) (i : Nat) (v u : Int) (x n : Int), U8 l → 0 ≤ v → 0 ≤ u → rd l i v u = some (x, n) → 0 ≤ x ∧ x ≤ 1073741824 ∧ (i : Int) + 1 ≤ n ∧ n ≤ i + l.length ∧ n ≤ 5
  | [], _, _, _, _, _, _, _, _, h => by cases h
  | c :: r, i, v, u, x, n, hU, hv, hu, h => by
    have hc := hU c (by simp)
    have hm : 0 ≤ c % 128 * u := Int.mul_nonneg (by omega) hu
    simp only [rd] at h
    split at h
    · cases h
    · split at h
      · split at h
        · cases h
        · rename_i h5 _ hn
          have hn2 : ¬ 1073741824 < v + c % 128 * u := fun q => hn (.inr q)
          injection h with h
          injection h with h1 h2
          subst h1 h2
          simp only [List.length_cons]
          omega
      · have := rd_rng r (i + 1) _ _ x n (fun n hn => hU n (by simp [hn])) (by omega) (by omega) h
        simp only [List.length_cons]
        omega
theorem drop_cons {l : List Int} {i : Nat} (h : i < l.length) : l.drop i = l.getD i 0 :: l.drop (i + 1) := by
  rw [List.drop_eq_getElem_cons h, List.getD_eq_getElem?_getD, List.getElem?_eq_getElem h]; rfl
def pw (i : Nat) : Int := 128 ^ i
theorem pw_succ (i : Nat) : pw (i + 1) = pw i * 128 := Int.pow_succ _ _
theorem pw_pos (i : Nat) : 0 < pw i := Int.pow_pos (by omega)
theorem pw_le {i : Nat} (h : i ≤ 5) : pw i ≤ 34359738368 := by
  have : i = 0 ∨ i = 1 ∨ i = 2 ∨ i = 3 ∨ i = 4 ∨ i = 5 := by omega
  rcases this with rfl | rfl | rfl | rfl | rfl | rfl <;> decide
/-- What a round of either loop knows. -/
structure RdI (x : List Int) (v u : Int) (i : Nat) : Prop where
  le : i ≤ x.length
  i5 : i ≤ 5
  eu : u = pw i
  v0 : 0 ≤ v
  v1 : v < pw i
  same : rd (x.drop i) i v u = rd x 0 0 1
theorem RdI.zero (x : List Int) : RdI x 0 1 0 := ⟨by omega, by omega, rfl, by omega, by decide, rfl⟩
theorem RdI.bnd {x : List Int} {v u : Int} {i : Nat} (h : RdI x v u i) (hU : U8 x) (hi : i < x.length) : 0 ≤ v + x.getD i 0 % 128 * u ∧ v + x.getD i 0 % 128 * u < pw (i + 1) ∧ 0 ≤ x.getD i 0 % 128 * u ∧ x.getD i 0 % 128 * u ≤ 127 * pw i := by
  have hc := U8_get hU i hi
  have hp := pw_pos i
  have e := h.eu
  have v0 := h.v0
  have v1 := h.v1
  have h1 : 0 ≤ x.getD i 0 % 128 * u := Int.mul_nonneg (by omega) (by omega)
  have h2 : x.getD i 0 % 128 * u ≤ 127 * u := Int.mul_le_mul_of_nonneg_right (by omega) (by omega)
  rw [pw_succ]
  refine ⟨by omega, by omega, h1, by omega⟩
theorem RdI.next {x : List Int} {v u : Int} {i : Nat} (h : RdI x v u i) (hU : U8 x) (hi : i < x.length) (h5 : i < 5) (hc : ¬ x.getD i 0 < 128) : RdI x (v + x.getD i 0 % 128 * u) (u * 128) (i + 1) := by
  obtain ⟨b1, b2, _⟩ := h.bnd hU hi
  refine ⟨by omega, by omega, by rw [h.eu, pw_succ], b1, b2, ?_⟩
  rw [← h.same, drop_cons hi]
  simp only [rd]
  rw [if_neg (by omega), if_neg hc]
theorem RdI.at_ {x : List Int} {v u : Int} {i : Nat} (h : RdI x v u i) (hi : i < x.length) : rd x 0 0 1 = if 5 ≤ i then none else if x.getD i 0 < 128 then (if (0 < i ∧ x.getD i 0 = 0) ∨ 1073741824 < v + x.getD i 0 % 128 * u then none else some (v + x.getD i 0 % 128 * u, (i : Int) + 1)) else rd (x.drop (i + 1)) (i + 1) (v + x.getD i 0 % 128 * u) (u * 128) := by
  rw [← h.same, drop_cons hi]
  rfl
theorem RdI.stop {x : List Int} {v u : Int} {i : Nat} (h : RdI x v u i) (hi : x.length ≤ i) : rd x 0 0 1 = none := by
  rw [← h.same, List.drop_eq_nil_of_le hi]; rfl
def tk (o : Option (Int × Int)) : Int × Int × Bool := match o with
  | some (v, n) => (v, n, true)
  | none => (0, 0, false)
/-- The text that bytes begin with. -/
def tt (x : List Int) : List UInt8 × Int × Bool := match rd x 0 0 1 with
  | some (v, n) => if (x.length : Int) - n < v then ([], 0, false) else (bytesI ((x.take (n + v).toNat).drop n.toNat), n + v, true)
  | none => ([], 0, false)
theorem mul_split (v u : Int) : v % 128 * u + v / 128 * (u * 128) = v * u := by
  have h := Int.emod_add_mul_ediv v 128
  have e : v / 128 * (u * 128) = 128 * (v / 128) * u := by rw [Int.mul_comm u 128, ← Int.mul_assoc, Int.mul_comm (v / 128) 128]
  rw [e, ← Int.add_mul, h]
theorem rd_enc : ∀ (k : Nat) (v : Int) (r : List Int) (i : Nat) (acc u : Int), 0 ≤ v → v < 128 * 128 ^ k → i + k ≤ 4 → (0 < i → 0 < v) → acc + v * u ≤ 1073741824 → 0 ≤ u → rd (encF k v ++ r) i acc u = some (acc + v * u, (i : Int) + ((encF k v).length : Int))
  | 0, v, r, i, acc, u, h0, h1, hi, hp, hm, hu => by
    simp at h1
    simp only [encF, List.singleton_append, rd]
    rw [if_neg (by omega), if_pos h1, if_neg (by
      rintro (⟨a, b⟩ | a)
      · have := hp a; omega
      · rw [Int.emod_eq_of_lt h0 h1] at a; omega), Int.emod_eq_of_lt h0 h1]
    rfl
  | k + 1, v, r, i, acc, u, h0, h1, hi, hp, hm, hu => by
    simp only [encF]
    split
    · rename_i hv
      simp only [List.singleton_append, rd]
      rw [if_neg (by omega), if_pos hv, if_neg (by
        rintro (⟨a, b⟩ | a)
        · have := hp a; omega
        · rw [Int.emod_eq_of_lt h0 hv] at a; omega), Int.emod_eq_of_lt h0 hv]
      rfl
    · rename_i hv
      have h3 : v < 128 * 128 ^ k * 128 := by rw [Int.pow_succ] at h1; omega
      have e1 : (v % 128 + 128) % 128 = v % 128 := by omega
      have e2 : acc + v % 128 * u + v / 128 * (u * 128) = acc + v * u := by rw [Int.add_assoc, mul_split]
      simp only [List.cons_append, rd]
      rw [if_neg (by omega), if_neg (by omega), e1, rd_enc k (v / 128) r (i + 1) (acc + v % 128 * u) (u * 128) (by omega) (by omega) (by omega) (fun _ => by omega) (by rw [e2]; exact hm) (by omega), e2]
      simp only [List.length_cons]
      congr 2
      omega
theorem bytes_by8 (s : List UInt8) : bytesI (by8 s) = s := by
  unfold bytesI by8
  rw [List.map_map]
  conv => rhs; rw [← List.map_id s]
  apply List.map_congr_left
  intro b _
  simp
theorem rd_put {v : Int} (h0 : 0 ≤ v) (h1 : v ≤ 1073741824) (r : List Int) : rd (enc v ++ r) 0 0 1 = some (v, ((enc v).length : Int)) := by
  have := rd_enc 4 v r 0 0 1 h0 (by omega) (by omega) (fun h => by omega) (by omega) (by omega)
  unfold enc
  rw [this]
  congr 2 <;> omega
theorem tt_put (s : List UInt8) (r : List Int) (hs : s.length ≤ 200) : tt (enc s.length ++ by8 s ++ r) = (s, (((enc s.length ++ by8 s).length : Nat) : Int), true) := by
  have hb : (by8 s).length = s.length := by simp [by8]
  unfold tt
  rw [List.append_assoc, rd_put (by omega) (by omega)]
  simp only
  rw [if_neg (by simp only [List.length_append, hb]; omega)]
  have e1 : (((enc s.length).length : Int) + (s.length : Int)).toNat = (enc s.length ++ by8 s).length := by rw [List.length_append, hb]; omega
  rw [e1, ← List.append_assoc, List.take_left, Int.toNat_natCast, List.drop_left, bytes_by8]
  rw [List.length_append, hb]
  congr 2
theorem read_eq (N : Nat) (hN : 100 ≤ N) (x : List Int) (hx : x.length ≤ 1000) (hU : U8 x) : W_bits_read N x = some (match rd x 0 0 1 with | some p => .inl p | none => .inr ()) := by
  unfold W_bits_read V_bits_read
  refine obind_loop (fun v : Int × Int × Int => ∃ i : Nat, v.2.2 = i ∧ RdI x v.1 v.2.1 i) (fun v => 6 - v.2.2.toNat) (fun r : PUnit ⊕ Int × Int ⊕ PUnit => (r = .inl () ∧ rd x 0 0 1 = none) ∨ ∃ p, r = .inr (.inl p) ∧ rd x 0 0 1 = some p) ⟨0, rfl, RdI.zero x⟩ (by show 6 - Int.toNat 0 < N; omega) ?_ ?_
  · rintro r (⟨rfl, h⟩ | ⟨p, rfl, h⟩)
    · rw [selim_l, h]
    · rw [selim_r, h]
  · rintro ⟨v, u, w⟩ ⟨i, hi, hI⟩
    simp only at hi hI ⊢
    subst hi
    by_cases hlt : (i : Int) < x.length
    case neg => right; rw [dF hlt, cnd_f]; exact ⟨_, rfl, .inl ⟨rfl, hI.stop (by omega)⟩⟩
    have hix : i < x.length := by omega
    rw [dT hlt, cnd_t, Int.toNat_natCast]
    have hat := hI.at_ hix
    rw [dT (Int.natCast_nonneg i), Bool.and_self, cnd_t]
    by_cases h5 : (i : Int) = 5
    · right; rw [dT h5, cnd_t, obind_s, cnd_t]; rw [if_pos (by omega)] at hat
      exact ⟨_, rfl, .inl ⟨rfl, hat⟩⟩
    have hi5 := hI.i5
    rw [if_neg (by omega)] at hat
    have hp := pw_le (i := i) (by omega)
    have hp1 := pw_le (i := i + 1) (by omega)
    have hp0 := pw_pos i
    obtain ⟨b1, b2, b3, b4⟩ := hI.bnd hU hix
    have hc := U8_get hU i hix
    have hu := hI.eu
    have w1 : wr .i64 (Int.tmod (x.getD i 0) 128) = x.getD i 0 % 128 := by rw [Int.tmod_eq_emod_of_nonneg hc.1, wr_m (by omega) (by omega)]
    have w2 : wr .i64 (x.getD i 0 % 128 * u) = x.getD i 0 % 128 * u := wr_m (by omega) (by omega)
    have w3 : wr .i64 (v + x.getD i 0 % 128 * u) = v + x.getD i 0 % 128 * u := wr_m (by omega) (by omega)
    have w4 : wr .i64 (u * 128) = u * 128 := wr_m (by omega) (by omega)
    have w5 : wr .i64 ((i : Int) + 1) = (i : Int) + 1 := wr_m (by omega) (by omega)
    rw [dF h5, cnd_f, obind_s, w1, w2, w3, w4, w5]
    clear w1 w2 w3 w4 w5
    by_cases hm : 1073741824 < v + x.getD i 0 % 128 * u
    · right
      rw [dT hm, cnd_t]
      refine ⟨_, rfl, .inl ⟨rfl, ?_⟩⟩
      rw [hat]
      split
      · rw [if_pos (.inr hm)]
      · exact rd_big _ _ _ _ (U8_drop hU _) hm (by omega)
    rw [dF hm, cnd_f]
    have go : ¬ (0 < i ∧ x.getD i 0 = 0) → (∃ y : Int × Int × Int, cnd (decide (x.getD i 0 < (128 : Int))) (some (Sum.inr (Sum.inr (Sum.inl (v + x.getD i 0 % 128 * u, (i : Int) + 1))))) (some (Sum.inl (v + x.getD i 0 % 128 * u, u * 128, (i : Int) + 1))) = some (.inl y : (Int × Int × Int) ⊕ (PUnit ⊕ Int × Int ⊕ PUnit)) ∧ (∃ i : Nat, y.2.2 = i ∧ RdI x y.1 y.2.1 i) ∧ 6 - y.2.2.toNat < 6 - (i : Int).toNat) ∨
        ∃ r, cnd (decide (x.getD i 0 < (128 : Int))) (some (Sum.inr (Sum.inr (Sum.inl (v + x.getD i 0 % 128 * u, (i : Int) + 1))))) (some (Sum.inl (v + x.getD i 0 % 128 * u, u * 128, (i : Int) + 1))) = some (.inr r : (Int × Int × Int) ⊕ (PUnit ⊕ Int × Int ⊕ PUnit)) ∧ ((r = .inl () ∧ rd x 0 0 1 = none) ∨ ∃ p, r = .inr (.inl p) ∧ rd x 0 0 1 = some p) := by
      intro hz
      by_cases hs : x.getD i 0 < 128
      · right
        rw [dT hs, cnd_t]
        rw [if_pos hs, if_neg (fun q => q.elim hz hm)] at hat
        exact ⟨_, rfl, .inr ⟨_, rfl, hat⟩⟩
      · left
        rw [dF hs, cnd_f]
        refine ⟨(v + x.getD i 0 % 128 * u, u * 128, (i : Int) + 1), rfl, ⟨i + 1, (Int.natCast_succ i).symm, hI.next hU hix (by omega) hs⟩, ?_⟩
        show 6 - ((i : Int) + 1).toNat < 6 - (i : Int).toNat
        omega
    by_cases hz0 : x.getD i 0 = 0
    · rw [dT hz0, cnd_t]
      by_cases hi0 : (0 : Int) < (i : Int)
      · right
        rw [dT hi0, cnd_t]
        rw [if_pos (show x.getD i 0 < 128 by omega), if_pos (.inl ⟨by omega, hz0⟩)] at hat
        exact ⟨_, rfl, .inl ⟨rfl, hat⟩⟩
      · rw [dF hi0, cnd_f]
        exact go (fun q => hi0 (by omega))
    · rw [dF hz0, cnd_f]
      exact go (fun q => hz0 q.2)
theorem Take_eq (N : Nat) (hN : 100 ≤ N) (x : List Int) (hx : x.length ≤ 1000) (hU : U8 x) : W_bits_Take N x = some (tk (rd x 0 0 1)) := by
  unfold W_bits_Take V_bits_Take
  rw [read_eq N hN x hx hU, obind_s]
  cases rd x 0 0 1 with
  | none => rfl
  | some p => rfl
theorem TakeText_eq (N : Nat) (hN : 100 ≤ N) (x : List Int) (hx : x.length ≤ 1000) (hU : U8 x) : W_bits_TakeText N x = some (tt x) := by
  unfold W_bits_TakeText V_bits_TakeText tt
  rw [read_eq N hN x hx hU, obind_s]
  cases hr : rd x 0 0 1 with
  | none => rfl
  | some p =>
    obtain ⟨v, n⟩ := p
    obtain ⟨h1, h2, h3, h4, h5⟩ := rd_rng x 0 0 1 v n hU (by omega) (by omega) hr
    simp only [selim_l]
    have w1 : wr .i64 ((x.length : Int) - n) = (x.length : Int) - n := wr_m (by omega) (by omega)
    have w2 : wr .i64 (n + v) = n + v := wr_m (by omega) (by omega)
    rw [w1, w2]
    clear w1 w2
    by_cases hc : (x.length : Int) - n < v
    · rw [dT hc, cnd_t, if_pos hc]
    · rw [dF hc, cnd_f, if_neg hc, dT (by omega), dT (by omega), dT (by omega), Bool.and_self, Bool.and_self, cnd_t, U8_all (U8_drop (U8_take hU _) _), cnd_t]
theorem PutNum_eq (N : Nat) (hN : 100 ≤ N) (l : List Int) (v : Int) (hl : l.length ≤ 1000) (h0 : 0 ≤ v) (h1 : v ≤ 1073741824) : W_ref10_PutNum N (l, v) = some (l ++ enc v) := by
  unfold W_ref10_PutNum V_ref10_PutNum
  simp only
  rw [dT (by omega), cnd_t]
  obtain ⟨v', l', e1, e2, e3, e4⟩ := putLoop (f := fun (v : Int × List Int) => cnd (decide ((128 : Int) ≤ Prod.fst v))
              (cnd (decide ((List.length (Prod.snd v) + List.length [wr IntKind.u8 (wr IntKind.i64 (Int.tmod (Prod.fst v) (128 : Int) + (128 : Int)))]) * (1 : Nat) ≤ (140737488355328 : Nat)))
                (some (Sum.inl (wr IntKind.i64 (Int.tdiv (Prod.fst v) (128 : Int)), Prod.snd v ++ [wr IntKind.u8 (wr IntKind.i64 (Int.tmod (Prod.fst v) (128 : Int) + (128 : Int)))])))
                none)
              (some (Sum.inr (Prod.fst v, Prod.snd v)))) (fun v l h h2 => stepP1 v l h2) (fun v l h h2 hl => stepP2 v l h h2 hl) 4 N v l (by omega) h0 h1 (by omega) (by omega)
  rw [e1, obind_s]
  simp only
  have hlen : l'.length ≤ 1010 := by
    have := congrArg List.length e2
    have h3 := (encF_U8 4 v h0 (by omega)).2.1
    simp only [List.length_append, List.length_singleton] at this
    omega
  rw [wr_u8 e3 (by omega), dT (by simp only [List.length_singleton]; omega), cnd_t, e2]
  rfl
theorem rPutText_eq (N : Nat) (hN : 100 ≤ N) (l : List Int) (s : List UInt8) (hl : l.length ≤ 1000) (hs : s.length ≤ 200) : W_ref10_PutText N (l, s) = some (l ++ enc s.length ++ by8 s) := by
  have h3 := (enc_U8 (v := (s.length : Int)) (by omega) (by omega)).2.1
  unfold W_ref10_PutText V_ref10_PutText
  simp only
  rw [PutNum_eq N hN l _ hl (by omega) (by omega), obind_s, dT (by simp only [List.length_append, List.length_map]; omega), cnd_t]
  rfl
theorem TakeNum_eq (N : Nat) (hN : 100 ≤ N) (x : List Int) (hx : x.length ≤ 1000) (hU : U8 x) : W_ref10_TakeNum N x = some (tk (rd x 0 0 1)) := by
  unfold W_ref10_TakeNum V_ref10_TakeNum
  refine obind_loop (fun v : Int × Int × Int => ∃ i : Nat, v.2.2 = i ∧ RdI x v.1 v.2.1 i) (fun v => 6 - v.2.2.toNat) (fun r : PUnit ⊕ Int × Int × Bool => (r = .inl () ∧ rd x 0 0 1 = none) ∨ r = .inr (tk (rd x 0 0 1))) ⟨0, rfl, RdI.zero x⟩ (by show 6 - Int.toNat 0 < N; omega) ?_ ?_
  · rintro r (⟨rfl, h⟩ | rfl)
    · rw [selim_l, h]; rfl
    · rw [selim_r]
  · rintro ⟨v, u, w⟩ ⟨i, hi, hI⟩
    simp only at hi hI ⊢
    subst hi
    by_cases hlt : (i : Int) < x.length
    case neg => right; rw [dF hlt, cnd_f]; exact ⟨_, rfl, .inl ⟨rfl, hI.stop (by omega)⟩⟩
    have hix : i < x.length := by omega
    rw [dT hlt, cnd_t, Int.toNat_natCast]
    have hat := hI.at_ hix
    by_cases h5 : (i : Int) < 5
    case neg =>
      right; rw [dF h5, cnd_f]; rw [if_pos (by omega)] at hat
      exact ⟨_, rfl, .inl ⟨rfl, hat⟩⟩
    rw [if_neg (by omega)] at hat
    have hp := pw_le (i := i) (by omega)
    have hp1 := pw_le (i := i + 1) (by omega)
    have hp0 := pw_pos i
    obtain ⟨b1, b2, b3, b4⟩ := hI.bnd hU hix
    have hc := U8_get hU i hix
    have hu := hI.eu
    have w1 : wr .i64 (Int.tmod (x.getD i 0) 128) = x.getD i 0 % 128 := by rw [Int.tmod_eq_emod_of_nonneg hc.1, wr_m (by omega) (by omega)]
    have w2 : wr .i64 (x.getD i 0 % 128 * u) = x.getD i 0 % 128 * u := wr_m (by omega) (by omega)
    have w3 : wr .i64 (v + x.getD i 0 % 128 * u) = v + x.getD i 0 % 128 * u := wr_m (by omega) (by omega)
    have w4 : wr .i64 (u * 128) = u * 128 := wr_m (by omega) (by omega)
    have w5 : wr .i64 ((i : Int) + 1) = (i : Int) + 1 := wr_m (by omega) (by omega)
    rw [dT h5, cnd_t, dT (Int.natCast_nonneg i), Bool.and_self, cnd_t, cnd_t, w1, w2, w3, w4, w5]
    clear w1 w2 w3 w4 w5
    by_cases hs : x.getD i 0 < 128
    case neg =>
      left
      rw [dF hs, cnd_f]
      refine ⟨(v + x.getD i 0 % 128 * u, u * 128, (i : Int) + 1), rfl, ⟨i + 1, (Int.natCast_succ i).symm, hI.next hU hix (by omega) hs⟩, ?_⟩
      show 6 - ((i : Int) + 1).toNat < 6 - (i : Int).toNat
      omega
    right
    rw [if_pos hs] at hat
    rw [dT hs, cnd_t]
    by_cases hz : 0 < i ∧ x.getD i 0 = 0
    · rw [dT (show (0 : Int) < (i : Int) by omega), cnd_t, cnd_t, dT hz.2, obind_s, cnd_t]
      rw [if_pos (.inl hz)] at hat
      exact ⟨_, rfl, .inr (by rw [hat]; rfl)⟩
    · have e1 : cnd (decide ((0 : Int) < (i : Int))) (cnd true (some (decide (x.getD i 0 = 0))) none) (some false) = some false := by
        by_cases h0 : (0 : Int) < (i : Int)
        · rw [dT h0, cnd_t, cnd_t, dF (fun q => hz ⟨by omega, q⟩)]
        · rw [dF h0, cnd_f]
      rw [e1, obind_s, cnd_f]
      by_cases hm : 1073741824 < v + x.getD i 0 % 128 * u
      · rw [dT hm, cnd_t]
        rw [if_pos (.inr hm)] at hat
        exact ⟨_, rfl, .inr (by rw [hat]; rfl)⟩
      · rw [dF hm, cnd_f]
        rw [if_neg (fun q => q.elim hz hm)] at hat
        exact ⟨_, rfl, .inr (by rw [hat]; rfl)⟩
theorem rTakeText_eq (N : Nat) (hN : 100 ≤ N) (x : List Int) (hx : x.length ≤ 1000) (hU : U8 x) : W_ref10_TakeText N x = some (tt x) := by
  unfold W_ref10_TakeText V_ref10_TakeText tt
  rw [TakeNum_eq N hN x hx hU]
  cases hr : rd x 0 0 1 with
  | none => rfl
  | some p =>
    obtain ⟨v, n⟩ := p
    obtain ⟨h1, h2, h3, h4, h5⟩ := rd_rng x 0 0 1 v n hU (by omega) (by omega) hr
    have e : tk (some (v, n)) = (v, n, true) := rfl
    rw [e, obind_s]
    simp only [Bool.not_true, cnd_f]
    have w1 : wr .i64 ((x.length : Int) - n) = (x.length : Int) - n := wr_m (by omega) (by omega)
    have w2 : wr .i64 (n + v) = n + v := wr_m (by omega) (by omega)
    rw [w1, w2]
    clear w1 w2
    by_cases hc : (x.length : Int) - n < v
    · rw [dT hc, cnd_t, if_pos hc]
    · rw [dF hc, cnd_f, if_neg hc, dT (by omega), dT (by omega), dT (by omega), Bool.and_self, Bool.and_self, cnd_t, U8_all (U8_drop (U8_take hU _) _), cnd_t]
      rfl
theorem rSum_eq (N : Nat) (x : List Int) (hN : 9 ≤ N) (hx : x.length < N) (hl : x.length ≤ 1000000) (h : ∀ b ∈ x, 0 ≤ b ∧ b ≤ 255) : W_ref10_Sum N x = some (X (IntKind.max .u32) (fold 4294967295 x)) := by
  unfold W_ref10_Sum V_ref10_Sum
  rw [loopB hx (fun v g1 g2 g3 g4 => ?_) (fun v h => by rw [dF h, cnd_f]), obind_s, X_wr]
  have hb := h _ (getD_memI (l := x) (j := v.2.toNat) (by omega))
  rw [dT g4, cnd_t, dT g3, Bool.and_self, cnd_t, wr_u32 (z := x.getD v.2.toNat 0) (by omega) (by omega), X_wr, loop8 hN (X_rng _ _).1 (X_rng _ _).2 (fun w k1 k2 k3 k4 => ?_) (fun v h => by rw [dF h, cnd_f]), obind_s, wr_s (by omega) (by omega)]
  have e : Int.tdiv w.1 2 = w.1 / 2 := Int.tdiv_eq_ediv_of_nonneg k1
  have e2 : Int.tmod w.1 2 = w.1 % 2 := Int.tmod_eq_emod_of_nonneg k1
  rw [dT k4, cnd_t, e, e2, wr_u32 (z := w.1 / 2) (by omega) (by omega), X_wr, wr_s (by omega) (by omega)]
  unfold s1
  by_cases h : w.1 % 2 = 1
  · rw [dT h, cnd_t, if_pos h]
  · rw [dF h, cnd_f, if_neg h]
abbrev Ms := Int × Int × Int × Int × Int × Int × List Int × Int × Int × List UInt8
theorem in_eq (N : Nat) (v a b : Int) : W_msg_in N (v, a, b) = some (decide (a ≤ v ∧ v ≤ b)) := by
  unfold W_msg_in V_msg_in
  simp only
  by_cases h : a ≤ v
  · rw [dT h, cnd_t]; simp only [h, true_and]
  · rw [dF h, cnd_f]; simp only [h, false_and, decide_false]
def ownF (m : Ms) : Ms :=
  if m.1 = 2 then (m.1, m.2.1, m.2.2.1, m.2.2.2.1, m.2.2.2.2.1, m.2.2.2.2.2.1, m.2.2.2.2.2.2.1, m.2.2.2.2.2.2.2.1, 0, [])
  else if m.1 = 5 then (m.1, m.2.1, m.2.2.1, m.2.2.2.1, m.2.2.2.2.1, m.2.2.2.2.2.1, m.2.2.2.2.2.2.1, 0, m.2.2.2.2.2.2.2.2.1, [])
  else if m.1 = 7 then (m.1, m.2.1, m.2.2.1, m.2.2.2.1, 0, 0, [], m.2.2.2.2.2.2.2.1, 0, m.2.2.2.2.2.2.2.2.2)
  else if m.1 = 8 ∨ m.1 = 9 then (m.1, m.2.1, m.2.2.1, m.2.2.2.1, 0, 0, [], m.2.2.2.2.2.2.2.1, m.2.2.2.2.2.2.2.2.1, [])
  else (m.1, m.2.1, m.2.2.1, m.2.2.2.1, 0, 0, [], 0, 0, [])
theorem own_eq (N : Nat) (m : Ms) : W_msg_own N m = some (ownF m) := by
  obtain ⟨k, f, t, i, e, a, p, lo, hi, s⟩ := m
  unfold W_msg_own V_msg_own ownF
  simp only
  by_cases h2 : k = 2
  · rw [dT h2, cnd_t, if_pos h2]
  rw [dF h2, cnd_f, if_neg h2]
  by_cases h5 : k = 5
  · rw [dT h5, cnd_t, if_pos h5]
  rw [dF h5, cnd_f, if_neg h5]
  by_cases h7 : k = 7
  · rw [dT h7, cnd_t, if_pos h7]
  rw [dF h7, cnd_f, if_neg h7]
  by_cases h8 : k = 8
  · rw [dT h8, cnd_t, obind_s, if_pos (.inl h8)]
    simp only [cnd_t]
  rw [dF h8, cnd_f, obind_s]
  simp only
  by_cases h9 : k = 9
  · rw [dT h9, cnd_t, if_pos (.inr h9)]
  · rw [dF h9, cnd_f, if_neg (fun q => q.elim h8 h9)]
open Classical in
theorem Equal_eq (N : Nat) (a b : List Int) (hN : a.length < N) (hl : a.length ≤ 140737488355327) : W_slices_Equal_int N (a, b) = some (decide (a = b)) := by
  unfold W_slices_Equal_int V_slices_Equal_int
  simp only
  by_cases h : (a.length : Int) = b.length
  case neg =>
    rw [dT (show (a.length : Int) ≠ b.length from h), cnd_t]
    have : ¬ a = b := fun q => h (by rw [q])
    rw [dF this]
  rw [dF (fun q : (a.length : Int) ≠ b.length => q h), cnd_f]
  have hlen : a.length = b.length := by omega
  refine obind_loop (fun v : Int => ∃ i : Nat, v = i ∧ i ≤ a.length ∧ a.take i = b.take i) (fun v => a.length - v.toNat) (fun r : PUnit ⊕ Bool => (r = .inl () ∧ a = b) ∨ (r = .inr false ∧ a ≠ b)) ⟨0, rfl, Nat.zero_le _, rfl⟩ (by show a.length - (Int.ofNat 0).toNat < N; omega) ?_ ?_
  · rintro r (⟨rfl, h⟩ | ⟨rfl, h⟩)
    · rw [selim_l, dT h]
    · rw [selim_r, dF h]
  · rintro v ⟨i, rfl, hi, ht⟩
    by_cases hlt : i < a.length
    · rw [dT (by omega), cnd_t, dT (by omega), Bool.and_self, cnd_t, dT (by omega), Bool.and_self, cnd_t, Int.toNat_natCast]
      have g1 : a.getD i 0 = a[i] := by rw [List.getD_eq_getElem?_getD, List.getElem?_eq_getElem hlt]; rfl
      have g2 : b.getD i 0 = b[i]'(by omega) := by rw [List.getD_eq_getElem?_getD, List.getElem?_eq_getElem (by omega)]; rfl
      rw [g1, g2]
      by_cases hq : a[i] = b[i]'(by omega)
      · left
        rw [dF (fun q : a[i] ≠ b[i]'(by omega) => q hq), cnd_f, wr_m (by omega) (by omega)]
        refine ⟨_, rfl, ⟨i + 1, by omega, by omega, ?_⟩, by omega⟩
        rw [List.take_add_one, List.take_add_one, ht, List.getElem?_eq_getElem hlt, List.getElem?_eq_getElem (by omega), hq]
      · right
        rw [dT hq, cnd_t]
        refine ⟨_, rfl, .inr ⟨rfl, fun q => hq ?_⟩⟩
        subst q; rfl
    · right
      rw [dF (by omega), cnd_f]
      refine ⟨_, rfl, .inl ⟨rfl, ?_⟩⟩
      rw [List.take_of_length_le (by omega), List.take_of_length_le (by omega)] at ht
      exact ht
open Classical in
theorem Same_eq (N : Nat) (m w : Ms) (hN : m.2.2.2.2.2.2.1.length < N) (hl : m.2.2.2.2.2.2.1.length ≤ 140737488355327) : W_msg_Same N (m, w) = some (decide (m = w)) := by
  obtain ⟨k, f, t, i, e, a, p, lo, hi, s⟩ := m
  obtain ⟨k', f', t', i', e', a', p', lo', hi', s'⟩ := w
  unfold W_msg_Same V_msg_Same
  have hE := Equal_eq N p p' hN hl
  simp only
  by_cases h1 : k = k'
  case neg => simp only [decide_true, decide_false, cnd_t, cnd_f, obind_s, Prod.mk.injEq, h1, false_and, and_false, true_and]
  subst k'
  by_cases h2 : f = f'
  case neg => simp only [decide_true, decide_false, cnd_t, cnd_f, obind_s, Prod.mk.injEq, h2, false_and, and_false, true_and]
  subst f'
  by_cases h3 : t = t'
  case neg => simp only [decide_true, decide_false, cnd_t, cnd_f, obind_s, Prod.mk.injEq, h3, false_and, and_false, true_and]
  subst t'
  by_cases h4 : i = i'
  case neg => simp only [decide_true, decide_false, cnd_t, cnd_f, obind_s, Prod.mk.injEq, h4, false_and, and_false, true_and]
  subst i'
  by_cases h5 : e = e'
  case neg => simp only [decide_true, decide_false, cnd_t, cnd_f, obind_s, Prod.mk.injEq, h5, false_and, and_false, true_and]
  subst e'
  by_cases h6 : a = a'
  case neg => simp only [decide_true, decide_false, cnd_t, cnd_f, obind_s, Prod.mk.injEq, h6, false_and, and_false, true_and]
  subst a'
  simp only [decide_true, cnd_t, obind_s, hE, Prod.mk.injEq, true_and]
  by_cases h7 : p = p'
  case neg => simp only [decide_true, decide_false, cnd_t, cnd_f, obind_s, h7, false_and, and_false, true_and]
  subst h7
  simp only [decide_true, cnd_t, obind_s, true_and]
  by_cases h8 : lo = lo'
  case neg => simp only [decide_true, decide_false, cnd_t, cnd_f, obind_s, h8, false_and, and_false, true_and]
  subst h8
  simp only [decide_true, cnd_t, obind_s, true_and]
  by_cases h9 : hi = hi'
  case neg => simp only [decide_true, decide_false, cnd_t, cnd_f, obind_s, h9, false_and, and_false, true_and]
  subst h9
  simp only [decide_true, cnd_t, obind_s, true_and]
  by_cases h10 : s = s'
  · subst h10; simp only [decide_true, beq_self_eq_true]
  · have : (s == s') = false := by simpa using h10
    simp only [h10, this, decide_false]
def Fits (m : Ms) : Prop :=
  if m.1 = 2 ∨ m.1 = 5 then (0 ≤ m.2.2.2.2.1 ∧ m.2.2.2.2.1 ≤ 1073741824) ∧ (0 ≤ m.2.2.2.2.2.1 ∧ m.2.2.2.2.2.1 ≤ 1073741824) ∧ VP m.2.2.2.2.2.2.1 ∧ (0 ≤ m.2.2.2.2.2.2.2.1 ∧ m.2.2.2.2.2.2.2.1 ≤ 1000000) ∧ (0 ≤ m.2.2.2.2.2.2.2.2.1 ∧ m.2.2.2.2.2.2.2.2.1 ≤ 1000000)
  else if m.1 = 7 then (1 ≤ m.2.2.2.2.2.2.2.1 ∧ m.2.2.2.2.2.2.2.1 ≤ 1000000) ∧ (m.2.2.2.2.2.2.2.2.2.length : Int) ≤ 12
  else if m.1 = 8 ∨ m.1 = 9 then (1 ≤ m.2.2.2.2.2.2.2.1 ∧ m.2.2.2.2.2.2.2.1 ≤ m.2.2.2.2.2.2.2.2.1) ∧ m.2.2.2.2.2.2.2.2.1 ≤ 1000000
  else True
open Classical in
theorem fits_eq (N : Nat) (hN : 12 ≤ N) (m : Ms) : W_msg_fits N m = some (decide (Fits m)) := by
  obtain ⟨k, f, t, i, e, a, p, lo, hi, s⟩ := m
  have hM := May_eq N p hN
  have fin : ∀ (k : Int), (k = 2 ∨ k = 5) → W_msg_fits N (k, f, t, i, e, a, p, lo, hi, s) = some (decide ((0 ≤ e ∧ e ≤ 1073741824) ∧ (0 ≤ a ∧ a ≤ 1073741824) ∧ VP p ∧ (0 ≤ lo ∧ lo ≤ 1000000) ∧ (0 ≤ hi ∧ hi ≤ 1000000))) := by
    intro k hk
    unfold W_msg_fits V_msg_fits
    simp only
    by_cases q1 : 0 ≤ e ∧ e ≤ 1073741824 <;> by_cases q2 : 0 ≤ a ∧ a ≤ 1073741824 <;> by_cases q3 : VP p <;> by_cases q4 : 0 ≤ lo ∧ lo ≤ 1000000 <;> by_cases q5 : 0 ≤ hi ∧ hi ≤ 1000000 <;> rcases hk with hk | hk <;> subst hk <;>
      simp only [Int.reduceEq, decide_true, decide_false, cnd_t, cnd_f, obind_s, in_eq, hM, q1, q2, q3, q4, q5, and_self, and_true, and_false, false_and]
  by_cases h25 : k = 2 ∨ k = 5
  · rw [fin k h25]
    unfold Fits
    simp only
    rw [if_pos h25]
    exact congrArg some (decide_eq_decide.2 Iff.rfl)
  clear fin
  have n2 : ¬ k = 2 := fun q => h25 (.inl q)
  have n5 : ¬ k = 5 := fun q => h25 (.inr q)
  unfold W_msg_fits V_msg_fits Fits
  simp only [n2, n5, or_self, if_false, decide_false, cnd_f, obind_s, in_eq]
  by_cases h7 : k = 7
  · simp only [h7, decide_true, cnd_t, if_true]
    by_cases q1 : 1 ≤ lo ∧ lo ≤ 1000000
    · simp only [q1, and_self, decide_true, cnd_t, true_and]
    · simp only [q1, decide_false, cnd_f, false_and]
  simp only [h7, decide_false, cnd_f, if_false]
  have fin2 : cnd (decide (1 ≤ lo ∧ lo ≤ hi)) (some (decide (hi ≤ 1000000))) (some false) = some (decide ((1 ≤ lo ∧ lo ≤ hi) ∧ hi ≤ 1000000)) := by
    by_cases q1 : 1 ≤ lo ∧ lo ≤ hi
    · simp only [q1, and_self, decide_true, cnd_t, true_and]
    · simp only [q1, decide_false, cnd_f, false_and]
  by_cases h8 : k = 8
  · simp only [h8, decide_true, cnd_t, obind_s, true_or, if_true]
    exact fin2
  simp only [h8, decide_false, cnd_f, obind_s, false_or]
  by_cases h9 : k = 9
  · simp only [h9, decide_true, cnd_t, if_true]
    exact fin2
  · simp only [h9, decide_false, cnd_f, if_false, decide_true]
def MayP (m : Ms) : Prop := (1 ≤ m.1 ∧ m.1 ≤ 9) ∧ (1 ≤ m.2.1 ∧ m.2.1 ≤ 8) ∧ (1 ≤ m.2.2.1 ∧ m.2.2.1 ≤ 8) ∧ m.2.1 ≠ m.2.2.1 ∧ (1 ≤ m.2.2.2.1 ∧ m.2.2.2.1 ≤ 1073741824) ∧ m = ownF m ∧ Fits m
open Classical in
theorem MayM_eq (N : Nat) (hN : 12 ≤ N) (m : Ms) (hl : m.2.2.2.2.2.2.1.length < N) (hl2 : m.2.2.2.2.2.2.1.length ≤ 140737488355327) : W_msg_May N m = some (decide (MayP m)) := by
  have hS := Same_eq N m (ownF m) hl hl2
  have hF := fits_eq N hN m
  have hO := own_eq N m
  obtain ⟨k, f, t, i, e, a, p, lo, hi, s⟩ := m
  unfold W_msg_May V_msg_May MayP
  simp only [in_eq, obind_s]
  by_cases q1 : 1 ≤ k ∧ k ≤ 9
  case neg => simp only [q1, decide_false, cnd_f, obind_s, false_and]
  simp only [q1, and_self, decide_true, cnd_t, obind_s, true_and]
  by_cases q2 : 1 ≤ f ∧ f ≤ 8
  case neg => simp only [q2, decide_false, cnd_f, obind_s, false_and]
  simp only [q2, and_self, decide_true, cnd_t, obind_s, true_and]
  by_cases q3 : 1 ≤ t ∧ t ≤ 8
  case neg => simp only [q3, decide_false, cnd_f, obind_s, false_and]
  simp only [q3, and_self, decide_true, cnd_t, obind_s, true_and]
  by_cases q4 : f = t
  case pos => simp only [q4, ne_eq, not_true_eq_false, decide_false, cnd_f, obind_s, false_and]
  simp only [ne_eq, q4, not_false_eq_true, decide_true, cnd_t, obind_s, true_and]
  by_cases q5 : 1 ≤ i ∧ i ≤ 1073741824
  case neg => simp only [q5, decide_false, cnd_f, false_and]
  simp only [q5, and_self, decide_true, cnd_t, true_and]
  rw [hO, obind_s]
  rw [hS, obind_s]
  by_cases q6 : (k, f, t, i, e, a, p, lo, hi, s) = ownF (k, f, t, i, e, a, p, lo, hi, s)
  · rw [dT q6, cnd_t, hF, obind_s]
    congr 1
    apply Bool.eq_iff_iff.2
    simp only [decide_eq_true_eq]
    exact ⟨fun q => ⟨q6, q⟩, fun q => q.2⟩
  · rw [dF q6, cnd_f]
    congr 1
    symm
    apply dF
    exact fun q => q6 q.1
theorem numLoop {N : Nat} (hN : 100 ≤ N) (l : List Int) {f : List Int × Int → Option ((List Int × Int) ⊕ List Int)} (hr : ∀ v ∈ l, 0 ≤ v ∧ v ≤ 1073741824) (h0 : ∀ b, f (b, (l.length : Int)) = some (.inr b))
    (h1 : ∀ (i : Nat) b, i < l.length → b.length ≤ 1000 → f (b, (i : Int)) = some (.inl (b ++ enc (l.getD i 0), (i : Int) + 1))) :
    ∀ (k i M : Nat) (b : List Int), i + k = l.length → k < M → b.length + 5 * k ≤ 1000 → loopN M f (b, (i : Int)) = some (b ++ (l.drop i).flatMap enc)
  | 0, i, 0, b, _, hM, _ => by omega
  | 0, i, M + 1, b, hi, _, _ => by
    have : i = l.length := by omega
    subst this
    simp only [loopN, h0, List.drop_length, List.flatMap_nil, List.append_nil]
  | k + 1, i, 0, b, _, hM, _ => by omega
  | k + 1, i, M + 1, b, hi, hM, hb => by
    have hil : i < l.length := by omega
    have e : l.getD i 0 = l[i] := by rw [List.getD_eq_getElem?_getD, List.getElem?_eq_getElem hil]; rfl
    have hv := hr l[i] (List.getElem_mem hil)
    have he := (enc_U8 hv.1 hv.2).2.1
    simp only [loopN, h1 i b hil (by omega)]
    rw [show (i : Int) + 1 = ((i + 1 : Nat) : Int) by omega, numLoop hN l hr h0 h1 k (i + 1) M _ (by omega) (by omega) (by rw [List.length_append, e]; omega), List.append_assoc, e, List.drop_eq_getElem_cons hil, List.flatMap_cons]
theorem numbers_eq (N : Nat) (hN : 1000 ≤ N) (b l : List Int) (hr : ∀ v ∈ l, 0 ≤ v ∧ v ≤ 1073741824) (hb : b.length + 5 * l.length ≤ 1000) : W_msg_numbers N (b, l) = some (b ++ l.flatMap enc) := by
  unfold W_msg_numbers V_msg_numbers
  simp only
  rw [show (b, (0 : Int)) = (b, ((0 : Nat) : Int)) from rfl, numLoop (N := N) (by omega) l hr _ _ l.length 0 N b (by omega) (by omega) hb, obind_s, List.drop_zero]
  · intro b
    simp only
    rw [dF (by omega), cnd_f]
  · intro i b hi hb
    have e : l.getD i 0 = l[i] := by rw [List.getD_eq_getElem?_getD, List.getElem?_eq_getElem hi]; rfl
    have hv := hr l[i] (List.getElem_mem hi)
    simp only
    rw [dT (by omega), cnd_t, dT (by omega), Bool.and_self, cnd_t, Int.toNat_natCast, Put_eq N (by omega) b _ hb (by rw [e]; exact hv.1) (by rw [e]; exact hv.2), obind_s, wr_m (by omega) (by omega)]
/-- The sum of bytes, as a number and as four bytes. -/
def cs (b : List Int) : Int := X (IntKind.max .u32) (fold 4294967295 b)
def sm (b : List Int) : List Int := [cs b / 16777216 % 256, cs b / 65536 % 256, cs b / 256 % 256, cs b % 256]
theorem wr_u8m {z : Int} : wr .u8 z = z % 256 := by rw [wr_eq]; simp [IntKind.wrap, IntKind.bits, IntKind.signed]
theorem cs_rng (b : List Int) : 0 ≤ cs b ∧ cs b ≤ 4294967295 := X_rng _ _
theorem sm_U8 (b : List Int) : U8 (sm b) := by
  intro n hn
  simp only [sm, List.mem_cons, List.not_mem_nil, or_false] at hn
  omega
theorem sum_eq (N : Nat) (hN : 1000 ≤ N) (b : List Int) (hb : b.length ≤ 900) (hU : U8 b) : W_msg_sum N b = some (sm b) := by
  unfold W_msg_sum V_msg_sum
  rw [Sum_eq N b (by omega) (by omega) (by omega) hU, obind_s]
  have hc := cs_rng b
  show some [wr .u8 (Int.fdiv (cs b) (2 ^ 24)), wr .u8 (Int.fdiv (cs b) (2 ^ 16)), wr .u8 (Int.fdiv (cs b) (2 ^ 8)), wr .u8 (cs b)] = some (sm b)
  rw [wr_u8m, wr_u8m, wr_u8m, wr_u8m, Int.fdiv_eq_ediv_of_nonneg _ (by decide), Int.fdiv_eq_ediv_of_nonneg _ (by decide), Int.fdiv_eq_ediv_of_nonneg _ (by decide)]
  rfl
/-- A message's bytes but for the sum. -/
def bd (m : Ms) : List Int := [m.1, m.2.1, m.2.2.1, m.2.2.2.1, m.2.2.2.2.1, m.2.2.2.2.2.1, (m.2.2.2.2.2.2.1.length : Int)].flatMap enc ++ m.2.2.2.2.2.2.1.flatMap enc ++ [m.2.2.2.2.2.2.2.1, m.2.2.2.2.2.2.2.2.1].flatMap enc ++ enc m.2.2.2.2.2.2.2.2.2.length ++ by8 m.2.2.2.2.2.2.2.2.2
/-- What the parts of one that may be are within. -/
structure Rg (m : Ms) : Prop where
  k : 0 ≤ m.1 ∧ m.1 ≤ 1073741824
  f : 0 ≤ m.2.1 ∧ m.2.1 ≤ 1073741824
  t : 0 ≤ m.2.2.1 ∧ m.2.2.1 ≤ 1073741824
  i : 0 ≤ m.2.2.2.1 ∧ m.2.2.2.1 ≤ 1073741824
  e : 0 ≤ m.2.2.2.2.1 ∧ m.2.2.2.2.1 ≤ 1073741824
  a : 0 ≤ m.2.2.2.2.2.1 ∧ m.2.2.2.2.2.1 ≤ 1073741824
  pl : m.2.2.2.2.2.2.1.length ≤ 10
  p : ∀ v ∈ m.2.2.2.2.2.2.1, 0 ≤ v ∧ v ≤ 1073741824
  lo : 0 ≤ m.2.2.2.2.2.2.2.1 ∧ m.2.2.2.2.2.2.2.1 ≤ 1073741824
  hi : 0 ≤ m.2.2.2.2.2.2.2.2.1 ∧ m.2.2.2.2.2.2.2.2.1 ≤ 1073741824
  s : m.2.2.2.2.2.2.2.2.2.length ≤ 12
theorem VP_mem {p : List Int} (h : VP p) : ∀ v ∈ p, 1 ≤ v ∧ v ≤ 8 := by
  intro v hv
  obtain ⟨j, hj, rfl⟩ := mem_getD hv
  have := h.2.2.2 j hj
  exact ⟨this.1, this.2.1⟩
theorem MayP.rg {m : Ms} (h : MayP m) : Rg m := by
  obtain ⟨k, f, t, i, e, a, p, lo, hi, s⟩ := m
  obtain ⟨h1, h2, h3, h4, h5, h6, h7⟩ := h
  simp only at h1 h2 h3 h4 h5
  unfold ownF at h6
  unfold Fits at h7
  simp only at h6 h7
  by_cases c2 : k = 2
  · rw [if_pos c2] at h6
    rw [if_pos (.inl c2)] at h7
    simp only [Prod.mk.injEq, true_and] at h6
    obtain ⟨g1, g2⟩ := h6
    subst g1 g2
    exact ⟨by simp only; omega, by simp only; omega, by simp only; omega, by simp only; omega, h7.1, h7.2.1, h7.2.2.1.2.1, fun v hv => by have := VP_mem h7.2.2.1 v hv; omega, by simp only; omega, by simp only; omega, by simp⟩
  rw [if_neg c2] at h6
  by_cases c5 : k = 5
  · rw [if_pos c5] at h6
    rw [if_pos (.inr c5)] at h7
    simp only [Prod.mk.injEq, true_and] at h6
    obtain ⟨g1, g2⟩ := h6
    subst g1
    exact ⟨by simp only; omega, by simp only; omega, by simp only; omega, by simp only; omega, h7.1, h7.2.1, h7.2.2.1.2.1, fun v hv => by have := VP_mem h7.2.2.1 v hv; omega, by simp only; omega, by simp only; omega, by simp only; rw [g2]; simp⟩
  rw [if_neg c5] at h6
  rw [if_neg (fun q => q.elim c2 c5)] at h7
  by_cases c7 : k = 7
  · rw [if_pos c7] at h6 h7
    simp only [Prod.mk.injEq, true_and, and_true] at h6
    obtain ⟨g1, g2, g3, g4⟩ := h6
    subst g1 g2 g3 g4
    exact ⟨by simp only; omega, by simp only; omega, by simp only; omega, by simp only; omega, by simp, by simp, by simp, fun v hv => by simp at hv, by simp only; omega, by simp, by have := h7.2; simp only; omega⟩
  rw [if_neg c7] at h6 h7
  by_cases c8 : k = 8 ∨ k = 9
  · rw [if_pos c8] at h6 h7
    simp only [Prod.mk.injEq, true_and] at h6
    obtain ⟨g1, g2, g3, g4⟩ := h6
    subst g1 g2 g3 g4
    exact ⟨by simp only; omega, by simp only; omega, by simp only; omega, by simp only; omega, by simp, by simp, by simp, fun v hv => by simp at hv, by simp only; omega, by simp only; omega, by simp⟩
  · rw [if_neg c8] at h6
    simp only [Prod.mk.injEq, true_and] at h6
    obtain ⟨g1, g2, g3, g4, g5, g6⟩ := h6
    subst g1 g2 g3 g4 g5 g6
    exact ⟨by simp only; omega, by simp only; omega, by simp only; omega, by simp only; omega, by simp, by simp, by simp, fun v hv => by simp at hv, by simp, by simp, by simp⟩
theorem flat_U8 {l : List Int} (h : ∀ v ∈ l, 0 ≤ v ∧ v ≤ 1073741824) : U8 (l.flatMap enc) ∧ (l.flatMap enc).length ≤ 5 * l.length := by
  induction l with
  | nil => exact ⟨fun n hn => by simp at hn, by simp⟩
  | cons v l ih =>
    obtain ⟨i1, i2⟩ := ih (fun x hx => h x (by simp [hx]))
    have hv := h v (by simp)
    have he := enc_U8 hv.1 hv.2
    exact ⟨U8_app he.1 i1, by simp only [List.flatMap_cons, List.length_append, List.length_cons]; omega⟩
theorem Rg.r7 {m : Ms} (h : Rg m) : ∀ v ∈ [m.1, m.2.1, m.2.2.1, m.2.2.2.1, m.2.2.2.2.1, m.2.2.2.2.2.1, (m.2.2.2.2.2.2.1.length : Int)], 0 ≤ v ∧ v ≤ 1073741824 := by
  intro v hv
  have := h.pl
  simp only [List.mem_cons, List.not_mem_nil, or_false] at hv
  rcases hv with rfl | rfl | rfl | rfl | rfl | rfl | rfl
  · exact h.k
  · exact h.f
  · exact h.t
  · exact h.i
  · exact h.e
  · exact h.a
  · omega
theorem Rg.r2 {m : Ms} (h : Rg m) : ∀ v ∈ [m.2.2.2.2.2.2.2.1, m.2.2.2.2.2.2.2.2.1], 0 ≤ v ∧ v ≤ 1073741824 := by
  intro v hv
  simp only [List.mem_cons, List.not_mem_nil, or_false] at hv
  rcases hv with rfl | rfl
  · exact h.lo
  · exact h.hi
theorem bd_U8 {m : Ms} (h : Rg m) : U8 (bd m) ∧ (bd m).length ≤ 200 := by
  have q1 := flat_U8 h.r7
  have q2 := flat_U8 h.p
  have q3 := flat_U8 h.r2
  have hs := h.s
  have hp := h.pl
  have q4 := enc_U8 (v := (m.2.2.2.2.2.2.2.2.2.length : Int)) (by omega) (by omega)
  refine ⟨U8_app (U8_app (U8_app (U8_app q1.1 q2.1) q3.1) q4.1) (by8_U8 _), ?_⟩
  have l1 := q1.2; have l2 := q2.2; have l3 := q3.2; have l4 := q4.2.1
  simp only [List.length_cons, List.length_nil] at l1 l3
  unfold bd
  simp only [List.length_append, by8, List.length_map]
  omega
open Classical in
theorem PutM_eq (N : Nat) (hN : 1000 ≤ N) (m : Ms) (hl : m.2.2.2.2.2.2.1.length < 900) : W_msg_Put N m = some (if MayP m then bd m ++ sm (bd m) else []) := by
  have hM := MayM_eq N (by omega) m (by omega) (by omega)
  obtain ⟨k, f, t, i, e, a, p, lo, hi, s⟩ := m
  unfold W_msg_Put V_msg_Put
  simp only
  rw [hM, obind_s]
  by_cases h : MayP (k, f, t, i, e, a, p, lo, hi, s)
  case neg => rw [dF h, Bool.not_false, cnd_t, if_neg h]
  have hg := h.rg
  have q1 := flat_U8 hg.r7
  have q2 := flat_U8 hg.p
  have q3 := flat_U8 hg.r2
  have hp := hg.pl
  have hs := hg.s
  have hB := bd_U8 hg
  have l1 := q1.2; have l2 := q2.2; have l3 := q3.2
  simp only [List.length_cons, List.length_nil] at l1 l2 l3 hp hs
  rw [dT h, Bool.not_true, cnd_f, if_pos h]
  rw [numbers_eq N hN [] _ hg.r7 (by simp), obind_s, List.nil_append]
  simp only
  rw [numbers_eq N hN _ _ hg.p (by simp only; omega), obind_s]
  simp only
  rw [numbers_eq N hN _ _ hg.r2 (by simp only [List.length_append, List.length_cons, List.length_nil]; omega), obind_s, PutText_eq N (by omega) _ s (by simp only [List.length_append]; omega) (by omega), obind_s]
  have eb : bd (k, f, t, i, e, a, p, lo, hi, s) = [k, f, t, i, e, a, (p.length : Int)].flatMap enc ++ p.flatMap enc ++ [lo, hi].flatMap enc ++ enc s.length ++ by8 s := rfl
  rw [← eb, sum_eq N hN _ (by omega) hB.1, obind_s, dT (by have : (sm (bd (k, f, t, i, e, a, p, lo, hi, s))).length = 4 := rfl; omega), cnd_t]
theorem Text_eq (N : Nat) (l : List Int) (n : Int) (hn : 0 ≤ n) (hn2 : n ≤ 1000) (hel : ∀ x ∈ l, 0 ≤ x ∧ x ≤ 255) : ∃ s n', W_Picks_Text N (l, n) = some (s, l, n') ∧ s.length ≤ 12 ∧ n ≤ n' ∧ n' ≤ n + 1 := by
  unfold W_Picks_Text V_Picks_Text
  simp only
  obtain ⟨k, n1, e1, a1, a2, a3, a4⟩ := Num_eq N 5 l n (by omega) hn (by omega) hel
  rw [e1, obind_s]
  simp only
  rw [dT a1, cnd_t, dT (by omega), cnd_t]
  refine ⟨_, _, rfl, ?_, a3, a4⟩
  obtain ⟨j, rfl⟩ : ∃ j : Nat, k = j := ⟨k.toNat, by omega⟩
  have : j = 0 ∨ j = 1 ∨ j = 2 ∨ j = 3 ∨ j = 4 := by omega
  rcases this with rfl | rfl | rfl | rfl | rfl <;> decide
/-- All its numbers are short. -/
structure Sh (m : Ms) : Prop where
  k : 0 ≤ m.1 ∧ m.1 < 128
  f : 0 ≤ m.2.1 ∧ m.2.1 < 128
  t : 0 ≤ m.2.2.1 ∧ m.2.2.1 < 128
  i : 0 ≤ m.2.2.2.1 ∧ m.2.2.2.1 < 128
  e : 0 ≤ m.2.2.2.2.1 ∧ m.2.2.2.2.1 < 128
  a : 0 ≤ m.2.2.2.2.2.1 ∧ m.2.2.2.2.2.1 < 128
  p : ∀ v ∈ m.2.2.2.2.2.2.1, 0 ≤ v ∧ v < 128
  lo : 0 ≤ m.2.2.2.2.2.2.2.1 ∧ m.2.2.2.2.2.2.2.1 < 128
  hi : 0 ≤ m.2.2.2.2.2.2.2.2.1 ∧ m.2.2.2.2.2.2.2.2.1 < 128
theorem Msg_eqn (N : Nat) (hN : 1000 ≤ N) (to : Int) (l : List Int) (n0 : Int) (hn0 : 0 ≤ n0) (hn1 : n0 ≤ 500) (hto : 1 ≤ to ∧ to ≤ 8) (hel : ∀ x ∈ l, 0 ≤ x ∧ x ≤ 255) : ∃ m n', W_Picks_Msg N (to, l, n0) = some ((l, n'), m) ∧ MayP m ∧ Sh m ∧ 0 ≤ n' ∧ n' ≤ n0 + 20 := by
  unfold W_Picks_Msg V_Picks_Msg
  simp only
  obtain ⟨b, n1, e1, a1, a2, a3, a4⟩ := Num_eq N 8 l n0 (by omega) (by omega) (by omega) hel
  rw [e1, obind_s]
  simp only
  have hf : ∃ f, cnd (decide (wr .i64 ((1 : Int) + b) = to)) (some (wr .i64 ((1 : Int) + Int.tmod to 8), (l, n1), (0 : Int), (0 : Int), (0 : Int), (0 : Int), (0 : Int), (0 : Int), ([] : List Int), (0 : Int), (0 : Int), ([] : List UInt8))) (some (wr .i64 ((1 : Int) + b), (l, n1), (0 : Int), (0 : Int), (0 : Int), (0 : Int), (0 : Int), (0 : Int), ([] : List Int), (0 : Int), (0 : Int), ([] : List UInt8))) = some (f, (l, n1), (0 : Int), (0 : Int), (0 : Int), (0 : Int), (0 : Int), (0 : Int), ([] : List Int), (0 : Int), (0 : Int), ([] : List UInt8)) ∧ 1 ≤ f ∧ f ≤ 8 ∧ f ≠ to := by
    have w1 : wr .i64 (1 + b) = 1 + b := wr_m (by omega) (by omega)
    rw [w1, Int.tmod_eq_emod_of_nonneg (by omega)]
    by_cases c : 1 + b = to
    · rw [dT c, cnd_t, wr_m (by omega) (by omega)]
      exact ⟨_, rfl, by omega, by omega, by omega⟩
    · rw [dF c, cnd_f]
      exact ⟨_, rfl, by omega, by omega, c⟩
  obtain ⟨f, hf1, hf2, hf3, hf4⟩ := hf
  rw [hf1, obind_s]
  simp only
  obtain ⟨k, n2, e2, b1, b2, b3, b4⟩ := Num_eq N 9 l n1 (by omega) (by omega) (by omega) hel
  rw [e2, obind_s]
  simp only
  obtain ⟨i, n3, e3, c1, c2, c3, c4⟩ := Num_eq N 3 l n2 (by omega) (by omega) (by omega) hel
  rw [e3, obind_s]
  simp only
  have wk : wr .i64 (1 + k) = 1 + k := wr_m (by omega) (by omega)
  have wi : wr .i64 (1 + i) = 1 + i := wr_m (by omega) (by omega)
  rw [wk, wi]
  obtain ⟨K, hK⟩ : ∃ K, K = 1 + k := ⟨_, rfl⟩
  obtain ⟨I, hI⟩ : ∃ I, I = 1 + i := ⟨_, rfl⟩
  rw [← hK, ← hI]
  have hb : (1 ≤ K ∧ K ≤ 9) ∧ (1 ≤ f ∧ f ≤ 8) ∧ (1 ≤ to ∧ to ≤ 8) ∧ f ≠ to ∧ (1 ≤ I ∧ I ≤ 1073741824) := ⟨by omega, by omega, hto, hf4, by omega⟩
  by_cases k2 : K = 2
  · rw [dT k2, cnd_t]
    obtain ⟨e, n4, e4, d1, d2, d3, d4⟩ := Num_eq N 20 l n3 (by omega) (by omega) (by omega) hel
    rw [e4, obind_s]
    simp only
    obtain ⟨a, n5, e5, g1, g2, g3, g4⟩ := Num_eq N 25 l n4 (by omega) (by omega) (by omega) hel
    rw [e5, obind_s]
    simp only
    obtain ⟨p, n6, e6, p1, p2, p3⟩ := Path_eq N l n5 (by omega) (by omega) (by omega) hel
    rw [e6, obind_s]
    simp only
    obtain ⟨lo, n7, e7, q1, q2, q3, q4⟩ := Num_eq N 9 l n6 (by omega) (by omega) (by omega) hel
    rw [e7, obind_s]
    refine ⟨_, _, rfl, ⟨hb.1, hb.2.1, hb.2.2.1, hb.2.2.2.1, hb.2.2.2.2, ?_, ?_⟩, ⟨by simp only; omega, by simp only; omega, by simp only; omega, by simp only; omega, by simp only; omega, by simp only; omega, fun v hv => by have := VP_mem p1 v hv; omega, by simp only; omega, by simp⟩, by first | omega | (simp only; omega), by first | omega | (simp only; omega)⟩
    · unfold ownF; simp only; rw [if_pos k2]
    · unfold Fits; simp only; rw [if_pos (.inl k2)]; exact ⟨by omega, by omega, p1, by omega, by omega⟩
  rw [dF k2, cnd_f]
  by_cases k5 : K = 5
  · rw [dT k5, cnd_t]
    obtain ⟨e, n4, e4, d1, d2, d3, d4⟩ := Num_eq N 20 l n3 (by omega) (by omega) (by omega) hel
    rw [e4, obind_s]
    simp only
    obtain ⟨a, n5, e5, g1, g2, g3, g4⟩ := Num_eq N 25 l n4 (by omega) (by omega) (by omega) hel
    rw [e5, obind_s]
    simp only
    obtain ⟨p, n6, e6, p1, p2, p3⟩ := Path_eq N l n5 (by omega) (by omega) (by omega) hel
    rw [e6, obind_s]
    simp only
    obtain ⟨lo, n7, e7, q1, q2, q3, q4⟩ := Num_eq N 12 l n6 (by omega) (by omega) (by omega) hel
    rw [e7, obind_s]
    refine ⟨_, _, rfl, ⟨hb.1, hb.2.1, hb.2.2.1, hb.2.2.2.1, hb.2.2.2.2, ?_, ?_⟩, ⟨by simp only; omega, by simp only; omega, by simp only; omega, by simp only; omega, by simp only; omega, by simp only; omega, fun v hv => by have := VP_mem p1 v hv; omega, by simp, by simp only; omega⟩, by first | omega | (simp only; omega), by first | omega | (simp only; omega)⟩
    · unfold ownF; simp only; rw [if_neg k2, if_pos k5]
    · unfold Fits; simp only; rw [if_pos (.inr k5)]; exact ⟨by omega, by omega, p1, by omega, by omega⟩
  rw [dF k5, cnd_f]
  by_cases k7 : K = 7
  · rw [dT k7, cnd_t]
    obtain ⟨lo, n4, e4, d1, d2, d3, d4⟩ := Num_eq N 12 l n3 (by omega) (by omega) (by omega) hel
    rw [e4, obind_s]
    simp only
    obtain ⟨s, n5, e5, g1, g2, g3⟩ := Text_eq N l n4 (by omega) (by omega) hel
    rw [e5, obind_s]
    simp only
    have w1 : wr .i64 (1 + lo) = 1 + lo := wr_m (by omega) (by omega)
    rw [w1]
    refine ⟨_, _, rfl, ⟨hb.1, hb.2.1, hb.2.2.1, hb.2.2.2.1, hb.2.2.2.2, ?_, ?_⟩, ⟨by simp only; omega, by simp only; omega, by simp only; omega, by simp only; omega, by simp, by simp, fun v hv => by simp at hv, by simp only; omega, by simp⟩, by first | omega | (simp only; omega), by first | omega | (simp only; omega)⟩
    · unfold ownF; simp only; rw [if_neg k2, if_neg k5, if_pos k7]
    · unfold Fits; simp only; rw [if_neg (fun q => q.elim k2 k5), if_pos k7]; exact ⟨by omega, by omega⟩
  rw [dF k7, cnd_f]
  have two : (K = 8 ∨ K = 9) → ∃ m n', (obind (W_Picks_Num N ((9 : Int), l, n3)) fun (b_3 : Int × List Int × Int) =>
      obind (W_Picks_Num N ((6 : Int), Prod.fst (Prod.snd b_3), Prod.snd (Prod.snd b_3))) fun (b_4 : Int × List Int × Int) =>
        some ((Prod.fst (Prod.snd b_4), Prod.snd (Prod.snd b_4)), K, f, to, I, (0 : Int), (0 : Int), ([] : List Int), wr IntKind.i64 ((1 : Int) + Prod.fst b_3), wr IntKind.i64 (wr IntKind.i64 ((1 : Int) + Prod.fst b_3) + Prod.fst b_4), ([] : List UInt8))) = some ((l, n'), m) ∧ MayP m ∧ Sh m ∧ 0 ≤ n' ∧ n' ≤ n0 + 20 := by
    intro hk
    obtain ⟨lo, n4, e4, d1, d2, d3, d4⟩ := Num_eq N 9 l n3 (by omega) (by omega) (by omega) hel
    rw [e4, obind_s]
    simp only
    obtain ⟨hi, n5, e5, g1, g2, g3, g4⟩ := Num_eq N 6 l n4 (by omega) (by omega) (by omega) hel
    rw [e5, obind_s]
    simp only
    have w1 : wr .i64 (1 + lo) = 1 + lo := wr_m (by omega) (by omega)
    have w2 : wr .i64 (1 + lo + hi) = 1 + lo + hi := wr_m (by omega) (by omega)
    rw [w1, w2]
    refine ⟨_, _, rfl, ⟨hb.1, hb.2.1, hb.2.2.1, hb.2.2.2.1, hb.2.2.2.2, ?_, ?_⟩, ⟨by simp only; omega, by simp only; omega, by simp only; omega, by simp only; omega, by simp, by simp, fun v hv => by simp at hv, by simp only; omega, by simp only; omega⟩, by first | omega | (simp only; omega), by first | omega | (simp only; omega)⟩
    · unfold ownF; simp only; rw [if_neg k2, if_neg k5, if_neg k7, if_pos hk]
    · unfold Fits; simp only; rw [if_neg (fun q => q.elim k2 k5), if_neg k7, if_pos hk]; exact ⟨⟨by omega, by omega⟩, by omega⟩
  by_cases k8 : K = 8
  · rw [dT k8, cnd_t, obind_s]
    simp only
    rw [cnd_t]
    exact two (.inl k8)
  rw [dF k8, cnd_f, obind_s]
  simp only
  by_cases k9 : K = 9
  · rw [dT k9, cnd_t]
    exact two (.inr k9)
  · rw [dF k9, cnd_f]
    refine ⟨_, _, rfl, ⟨hb.1, hb.2.1, hb.2.2.1, hb.2.2.2.1, hb.2.2.2.2, ?_, ?_⟩, ⟨by simp only; omega, by simp only; omega, by simp only; omega, by simp only; omega, by simp, by simp, fun v hv => by simp at hv, by simp, by simp⟩, by first | omega | (simp only; omega), by first | omega | (simp only; omega)⟩
    · unfold ownF; simp only; rw [if_neg k2, if_neg k5, if_neg k7, if_neg (fun q => q.elim k8 k9)]
    · unfold Fits; simp only; rw [if_neg (fun q => q.elim k2 k5), if_neg k7, if_neg (fun q => q.elim k8 k9)]; trivial
theorem bd_app (m : Ms) (r : List Int) : bd m ++ r = enc m.1 ++ (enc m.2.1 ++ (enc m.2.2.1 ++ (enc m.2.2.2.1 ++ (enc m.2.2.2.2.1 ++ (enc m.2.2.2.2.2.1 ++ (enc (m.2.2.2.2.2.2.1.length : Int) ++ (m.2.2.2.2.2.2.1.flatMap enc ++ (enc m.2.2.2.2.2.2.2.1 ++ (enc m.2.2.2.2.2.2.2.2.1 ++ (enc (m.2.2.2.2.2.2.2.2.2.length : Int) ++ (by8 m.2.2.2.2.2.2.2.2.2 ++ r))))))))))) := by
  simp only [bd, List.flatMap_cons, List.flatMap_nil, List.append_assoc, List.append_nil]
theorem Made_eq (N : Nat) (l : List Int) : W_Made N l = some (l, 0) := rfl
theorem by8_bytes {l : List Int} (h : U8 l) : by8 (bytesI l) = l := by
  unfold bytesI by8
  rw [List.map_map]
  conv => rhs; rw [← List.map_id l]
  apply List.map_congr_left
  intro n hn
  have := h n hn
  simp
  omega
/-- Where the reader stands: what is left. -/
def At (b : List Int) (at_ : Int) (r : List Int) : Prop := 0 ≤ at_ ∧ at_ ≤ b.length ∧ b.drop at_.toNat = r
theorem rnum_err (N : Nat) (b : List Int) (a z : Int) : W_msg_reader_number N (b, a, .inl z) = some (0, b, a, .inl z) := by
  unfold W_msg_reader_number V_msg_reader_number
  simp only
  rw [selim_l]
theorem rtxt_err (N : Nat) (b : List Int) (a z : Int) : W_msg_reader_text N (b, a, .inl z) = some ([], b, a, .inl z) := by
  unfold W_msg_reader_text V_msg_reader_text
  simp only
  rw [selim_l]
theorem rnum_eq (N : Nat) (hN : 1000 ≤ N) {b : List Int} {a : Int} (hb : b.length ≤ 900) (hU : U8 b) (h0 : 0 ≤ a) (h1 : a ≤ b.length) : W_msg_reader_number N (b, a, .inr ()) = some (match rd (b.drop a.toNat) 0 0 1 with
    | some (v, n) => (v, b, a + n, .inr ())
    | none => (0, b, a, .inl a)) := by
  unfold W_msg_reader_number V_msg_reader_number
  simp only
  have hT := Take_eq N (by omega) (b.drop a.toNat) (by rw [List.length_drop]; omega) (U8_drop hU _)
  rw [selim_r, dT h0, dT h1, Bool.and_self, cnd_t, List.take_length, hT, obind_s]
  cases hr : rd (b.drop a.toNat) 0 0 1 with
  | none =>
    simp only [tk, Bool.not_false, cnd_t, obind_s]
    rw [wr_m (by omega) (by omega), Int.add_zero]
  | some p =>
    obtain ⟨v, n⟩ := p
    obtain ⟨g1, g2, g3, g4, g5⟩ := rd_rng _ 0 0 1 v n (U8_drop hU _) (by omega) (by omega) hr
    simp only [tk, Bool.not_true, cnd_f, obind_s]
    rw [wr_m (by omega) (by omega)]
theorem rtxt_eq (N : Nat) (hN : 1000 ≤ N) {b : List Int} {a : Int} (hb : b.length ≤ 900) (hU : U8 b) (h0 : 0 ≤ a) (h1 : a ≤ b.length) : W_msg_reader_text N (b, a, .inr ()) = some ((tt (b.drop a.toNat)).1, b, a + (tt (b.drop a.toNat)).2.1, if (tt (b.drop a.toNat)).2.2 then .inr () else .inl a) ∧
    0 ≤ (tt (b.drop a.toNat)).2.1 ∧ (tt (b.drop a.toNat)).2.1 ≤ (b.drop a.toNat).length ∧ (tt (b.drop a.toNat)).1.length ≤ b.length := by
  have hT := TakeText_eq N (by omega) (b.drop a.toNat) (by rw [List.length_drop]; omega) (U8_drop hU _)
  have hl : (b.drop a.toNat).length ≤ b.length := by rw [List.length_drop]; omega
  have hR : 0 ≤ (tt (b.drop a.toNat)).2.1 ∧ (tt (b.drop a.toNat)).2.1 ≤ (b.drop a.toNat).length ∧ (tt (b.drop a.toNat)).1.length ≤ b.length := by
    unfold tt
    cases hr : rd (b.drop a.toNat) 0 0 1 with
    | none => exact ⟨by simp, by simp, by simp⟩
    | some p =>
      obtain ⟨v, n⟩ := p
      obtain ⟨g1, g2, g3, g4, g5⟩ := rd_rng _ 0 0 1 v n (U8_drop hU _) (by omega) (by omega) hr
      simp only
      split
      · exact ⟨by simp, by simp, by simp⟩
      · refine ⟨by simp only; omega, by simp only; omega, ?_⟩
        simp only [bytesI, List.length_map, List.length_drop, List.length_take] at hl ⊢
        omega
  refine ⟨?_, hR⟩
  unfold W_msg_reader_text V_msg_reader_text
  simp only
  rw [selim_r, dT h0, dT h1, Bool.and_self, cnd_t, List.take_length, hT, obind_s]
  have hl2 : ((b.drop a.toNat).length : Int) ≤ b.length := by omega
  cases h3 : (tt (b.drop a.toNat)).2.2
  · simp only [Bool.not_false, cnd_t, obind_s]
    rw [wr_m (by omega) (by omega)]
    rfl
  · simp only [Bool.not_true, cnd_f, obind_s]
    rw [wr_m (by omega) (by omega)]
    rfl
theorem At.num (N : Nat) (hN : 1000 ≤ N) {b r : List Int} {a v : Int} (hb : b.length ≤ 900) (hU : U8 b) (hv : 0 ≤ v ∧ v ≤ 1073741824) (h : At b a (enc v ++ r)) : ∃ a', W_msg_reader_number N (b, a, .inr ()) = some (v, b, a', .inr ()) ∧ At b a' r := by
  obtain ⟨h0, h1, h2⟩ := h
  have e := rnum_eq N hN hb hU h0 h1
  rw [h2, rd_put hv.1 hv.2] at e
  refine ⟨_, e, by omega, ?_, ?_⟩
  · have := congrArg List.length h2
    rw [List.length_drop, List.length_append] at this
    omega
  · rw [show (a + ((enc v).length : Int)).toNat = a.toNat + (enc v).length by omega, ← List.drop_drop, h2, List.drop_left]
theorem At.txt (N : Nat) (hN : 1000 ≤ N) {b r : List Int} {a : Int} {s : List UInt8} (hb : b.length ≤ 900) (hU : U8 b) (hs : s.length ≤ 200) (h : At b a (enc s.length ++ by8 s ++ r)) : ∃ a', W_msg_reader_text N (b, a, .inr ()) = some (s, b, a', .inr ()) := by
  obtain ⟨h0, h1, h2⟩ := h
  have e := (rtxt_eq N hN hb hU h0 h1).1
  rw [h2, tt_put s r hs] at e
  exact ⟨_, e⟩
/-- Whatever the bytes. -/
theorem num_tot (N : Nat) (hN : 1000 ≤ N) {b : List Int} {a : Int} (e : Int ⊕ Unit) (hb : b.length ≤ 900) (hU : U8 b) (h0 : 0 ≤ a) (h1 : a ≤ b.length) : ∃ v a' e', W_msg_reader_number N (b, a, e) = some (v, b, a', e') ∧ a ≤ a' ∧ a' ≤ b.length ∧ (e' = .inr () → e = .inr () ∧ a < a') ∧ 0 ≤ v ∧ v ≤ 1073741824 := by
  cases e with
  | inl z => exact ⟨_, _, _, rnum_err N b a z, by omega, h1, fun q => by (cases q), by omega, by omega⟩
  | inr u =>
    have e := rnum_eq N hN hb hU h0 h1
    cases hr : rd (b.drop a.toNat) 0 0 1 with
    | none => rw [hr] at e; exact ⟨_, _, _, e, by omega, h1, fun q => by (cases q), by omega, by omega⟩
    | some p =>
      obtain ⟨v, n⟩ := p
      obtain ⟨g1, g2, g3, g4, g5⟩ := rd_rng _ 0 0 1 v n (U8_drop hU _) (by omega) (by omega) hr
      rw [hr] at e
      rw [List.length_drop] at g4
      exact ⟨_, _, _, e, by omega, by omega, fun _ => ⟨rfl, by omega⟩, g1, g2⟩
theorem txt_tot (N : Nat) (hN : 1000 ≤ N) {b : List Int} {a : Int} (e : Int ⊕ Unit) (hb : b.length ≤ 900) (hU : U8 b) (h0 : 0 ≤ a) (h1 : a ≤ b.length) : ∃ s a' e', W_msg_reader_text N (b, a, e) = some (s, b, a', e') ∧ s.length ≤ b.length ∧ (e' = .inr () → e = .inr ()) := by
  cases e with
  | inl z => exact ⟨_, _, _, rtxt_err N b a z, by simp, fun q => by (cases q)⟩
  | inr u =>
    obtain ⟨e, h2, h3, h4⟩ := rtxt_eq N hN hb hU h0 h1
    exact ⟨_, _, _, e, h4, fun _ => rfl⟩
theorem loopG {σ ρ : Type} {f : σ → Option (σ ⊕ ρ)} (I : Nat → σ → Prop) (B : Nat) (J : ρ → Prop) (hb : ∀ k x, I k x → k ≤ B) (hs : ∀ k x, I k x → (∃ y, f x = some (.inl y) ∧ I (k + 1) y) ∨ ∃ r, f x = some (.inr r) ∧ J r) :
    ∀ (M k : Nat) (x : σ), I k x → B < M + k → ∃ r, loopN M f x = some r ∧ J r
  | 0, k, x, h, hm => by have := hb k x h; omega
  | M + 1, k, x, h, hm => by
    rcases hs k x h with ⟨y, h1, h2⟩ | ⟨r, h1, h2⟩
    · obtain ⟨r, h4, h5⟩ := loopG I B J hb hs M (k + 1) y h2 (by omega)
      exact ⟨r, by simp only [loopN, h1]; exact h4, h5⟩
    · exact ⟨r, by simp only [loopN, h1], h2⟩
theorem loop_G {σ ρ β : Type} {f : σ → Option (σ ⊕ ρ)} {g : ρ → Option β} {x : σ} {N : Nat} (Q : Option β → Prop) (I : Nat → σ → Prop) (B : Nat) (J : ρ → Prop) (hx : I 0 x) (hm : B < N) (hk : ∀ r, J r → Q (g r)) (hb : ∀ k x, I k x → k ≤ B)
    (hs : ∀ k x, I k x → (∃ y, f x = some (.inl y) ∧ I (k + 1) y) ∨ ∃ r, f x = some (.inr r) ∧ J r) : Q (obind (loopN N f x) g) := by
  obtain ⟨r, h1, h2⟩ := loopG I B J hb hs N 0 x hx (by omega)
  rw [h1]; exact hk r h2
abbrev Rs := List Int × Int × (Int ⊕ Unit)
def St0 (x : Rs) (k f t i e a : Int) (p : List Int) : Int × Int × Int × Int × Int × Int × Int × Int × List UInt8 × List Int × Rs × Int × Int × Int × Int × Int × Int × Int × Int × List UInt8 × List Int :=
  (0, 0, 0, 0, 0, 0, 0, 0, [], [], x, k, f, t, i, e, a, 0, 0, [], p)
theorem read_exact (N : Nat) (hN : 1000 ≤ N) {m : Ms} (hg : Rg m) {b r : List Int} (hb : b.length ≤ 900) (hU : U8 b) (h : b = bd m ++ r) : W_msg_read N b = some (.inr (), m) := by
  obtain ⟨k, f, t, i, e, a, p, lo, hi, s⟩ := m
  have hA : At b 0 (bd (k, f, t, i, e, a, p, lo, hi, s) ++ r) := ⟨by omega, by omega, by rw [h]; rfl⟩
  rw [bd_app] at hA
  have hp := hg.pl
  have hs := hg.s
  simp only at hA hp hs
  unfold W_msg_read V_msg_read
  obtain ⟨a1, e1, hA⟩ := hA.num N hN hb hU hg.k
  rw [e1, obind_s]
  simp only
  obtain ⟨a2, e2, hA⟩ := hA.num N hN hb hU hg.f
  rw [e2, obind_s]
  simp only
  obtain ⟨a3, e3, hA⟩ := hA.num N hN hb hU hg.t
  rw [e3, obind_s]
  simp only
  obtain ⟨a4, e4, hA⟩ := hA.num N hN hb hU hg.i
  rw [e4, obind_s]
  simp only
  obtain ⟨a5, e5, hA⟩ := hA.num N hN hb hU hg.e
  rw [e5, obind_s]
  simp only
  obtain ⟨a6, e6, hA⟩ := hA.num N hN hb hU hg.a
  rw [e6, obind_s]
  simp only
  obtain ⟨a7, e7, hA⟩ := hA.num N hN hb hU ⟨by omega, by omega⟩
  rw [e7, obind_s]
  simp only
  refine loop_G (N := N) (fun o => o = some ((Sum.inr () : Int ⊕ Unit), k, f, t, i, e, a, p, lo, hi, s)) (fun j v => ∃ at_ : Int, v = (((p.length - j : Nat) : Int), St0 (b, at_, .inr ()) k f t i e a (p.take j)) ∧ j ≤ p.length ∧ At b at_ ((p.drop j).flatMap enc ++ (enc lo ++ (enc hi ++ (enc (s.length : Int) ++ (by8 s ++ r)))))) p.length
    (fun q => ∃ at_ : Int, q = St0 (b, at_, .inr ()) k f t i e a p ∧ At b at_ (enc lo ++ (enc hi ++ (enc (s.length : Int) ++ (by8 s ++ r))))) ⟨a7, rfl, by omega, hA⟩ (by omega) ?_ (fun j v ⟨_, _, h, _⟩ => h) ?_
  · rintro q ⟨a8, rfl, hA⟩
    simp only [St0]
    obtain ⟨a9, e9, hA⟩ := hA.num N hN hb hU hg.lo
    rw [e9, obind_s]
    simp only
    obtain ⟨a10, e10, hA⟩ := hA.num N hN hb hU hg.hi
    rw [e10, obind_s]
    simp only
    rw [← List.append_assoc] at hA
    obtain ⟨a11, e11⟩ := hA.txt N hN hb hU (by omega)
    rw [e11, obind_s]
  · rintro j v ⟨at_, rfl, hj, hA⟩
    simp only [St0]
    by_cases c : j < p.length
    · left
      rw [List.drop_eq_getElem_cons c, List.flatMap_cons, List.append_assoc] at hA
      obtain ⟨a8, e8, hA⟩ := hA.num N hN hb hU (hg.p _ (List.getElem_mem c))
      rw [dT (by omega), cnd_t, selim_r, e8, obind_s]
      simp only
      refine ⟨_, cnd_T (by simp only [List.length_cons, List.length_nil, List.length_take]; omega), a8, ?_, by omega, hA⟩
      rw [wr_m (by omega) (by omega), show ((p.length - j : Nat) : Int) - 1 = ((p.length - (j + 1) : Nat) : Int) by omega, List.take_add_one, List.getElem?_eq_getElem c]
      rfl
    · right
      have e : j = p.length := by omega
      subst e
      rw [dF (by omega), cnd_f]
      refine ⟨_, rfl, at_, ?_, ?_⟩
      · rw [List.take_length]
      · rw [List.drop_length] at hA
        exact hA
theorem read_tot (N : Nat) (hN : 1000 ≤ N) {b : List Int} (hb : b.length ≤ 800) (hU : U8 b) : ∃ e m, W_msg_read N b = some (e, m) ∧ m.2.2.2.2.2.2.1.length ≤ b.length + 1 ∧ (b = [] → ∃ z, e = .inl z) := by
  unfold W_msg_read V_msg_read
  obtain ⟨k, a1, q1, e1, g1, h1, w1, r1⟩ := num_tot N hN (b := b) (a := 0) (.inr ()) (by omega) hU (by omega) (by omega)
  rw [e1, obind_s]
  simp only
  obtain ⟨f, a2, q2, e2, g2, h2, w2, r2⟩ := num_tot N hN (b := b) (a := a1) q1 (by omega) hU (by omega) h1
  rw [e2, obind_s]
  simp only
  obtain ⟨t, a3, q3, e3, g3, h3, w3, r3⟩ := num_tot N hN (b := b) (a := a2) q2 (by omega) hU (by omega) h2
  rw [e3, obind_s]
  simp only
  obtain ⟨i, a4, q4, e4, g4, h4, w4, r4⟩ := num_tot N hN (b := b) (a := a3) q3 (by omega) hU (by omega) h3
  rw [e4, obind_s]
  simp only
  obtain ⟨e, a5, q5, e5, g5, h5, w5, r5⟩ := num_tot N hN (b := b) (a := a4) q4 (by omega) hU (by omega) h4
  rw [e5, obind_s]
  simp only
  obtain ⟨a, a6, q6, e6, g6, h6, w6, r6⟩ := num_tot N hN (b := b) (a := a5) q5 (by omega) hU (by omega) h5
  rw [e6, obind_s]
  simp only
  obtain ⟨n, a7, q7, e7, g7, h7, w7, r7⟩ := num_tot N hN (b := b) (a := a6) q6 (by omega) hU (by omega) h6
  rw [e7, obind_s]
  simp only
  have hz : q7 = .inr () → b ≠ [] := fun h hb0 => by
    subst hb0
    have := w1 (w2 (w3 (w4 (w5 (w6 (w7 h).1).1).1).1).1).1
    simp at h1
    omega
  refine loop_G (N := N) (fun o => ∃ (e : Int ⊕ Unit) (m : Ms), o = some (e, m) ∧ m.2.2.2.2.2.2.1.length ≤ b.length + 1 ∧ (b = [] → ∃ z, e = .inl z)) (fun j v => ∃ (n at_ : Int) (er : Int ⊕ Unit) (p : List Int), v = (n, St0 (b, at_, er) k f t i e a p) ∧ 0 ≤ n ∧ n ≤ 1073741824 ∧ 0 ≤ at_ ∧ at_ ≤ b.length ∧ p.length = j ∧ j ≤ b.length + 1 ∧ (er = .inr () → (j : Int) ≤ at_ ∧ b ≠ [])) (b.length + 1)
    (fun q => ∃ (at_ : Int) (er : Int ⊕ Unit) (p : List Int), q = St0 (b, at_, er) k f t i e a p ∧ 0 ≤ at_ ∧ at_ ≤ b.length ∧ p.length ≤ b.length + 1 ∧ (er = .inr () → b ≠ [])) ⟨n, a7, q7, [], rfl, r7.1, r7.2, by omega, h7, rfl, by omega, fun h => ⟨by omega, hz h⟩⟩ (by omega) ?_ (fun j v ⟨_, _, _, _, _, _, _, _, _, _, h, _⟩ => h) ?_
  · rintro q ⟨a8, er, p, rfl, g8, h8, hp, hne⟩
    simp only [St0]
    obtain ⟨lo, a9, q9, e9, g9, h9, w9, r9⟩ := num_tot N hN (b := b) (a := a8) er (by omega) hU (by omega) h8
    rw [e9, obind_s]
    simp only
    obtain ⟨hi, a10, q10, e10, g10, h10, w10, r10⟩ := num_tot N hN (b := b) (a := a9) q9 (by omega) hU (by omega) h9
    rw [e10, obind_s]
    simp only
    obtain ⟨s, a11, q11, e11, g11, w11⟩ := txt_tot N hN (b := b) (a := a10) q10 (by omega) hU (by omega) h10
    rw [e11, obind_s]
    refine ⟨_, _, rfl, hp, fun hb0 => ?_⟩
    cases hq : q11 with
    | inl z => exact ⟨z, rfl⟩
    | inr u => exact absurd hb0 (hne (w9 (w10 (w11 hq)).1).1)
  · rintro j v ⟨n, at_, er, p, rfl, hn0, hn1, ha0, ha1, hp, hj, her⟩
    simp only [St0]
    by_cases c : 0 < n
    · rw [dT c, cnd_t]
      cases er with
      | inl z =>
        right
        rw [selim_l]
        exact ⟨_, rfl, at_, .inl z, p, rfl, ha0, ha1, by omega, fun q => by cases q⟩
      | inr u =>
        left
        obtain ⟨h1', hne⟩ := her rfl
        obtain ⟨v, a8, q8, e8, g8, h8, w8, r8⟩ := num_tot N hN (b := b) (a := at_) (.inr u) (by omega) hU (by omega) ha1
        rw [selim_r, e8, obind_s]
        simp only
        exact ⟨_, cnd_T (by simp only [List.length_cons, List.length_nil]; omega), n - 1, a8, q8, p ++ [v], by rw [wr_m (by omega) (by omega)], by omega, by omega, by omega, h8, by simp [hp], by omega, fun q => ⟨by have := (w8 q).2; omega, hne⟩⟩
    · right
      rw [dF c, cnd_f]
      exact ⟨_, rfl, at_, er, p, rfl, ha0, ha1, by omega, fun q => (her q).2⟩
theorem bEqual_eq (N : Nat) (a b : List Int) (ha : U8 a) (hb : U8 b) : W_bytes_Equal N (a, b) = some (decide (a = b)) := by
  unfold W_bytes_Equal V_bytes_Equal
  simp only
  rw [U8_all ha, cnd_t, U8_all hb, cnd_t]
  congr 1
  show (bytesI a == bytesI b) = decide (a = b)
  by_cases c : a = b
  · subst c; rw [dT rfl, BEq.rfl]
  · rw [dF c]
    apply beq_eq_false_iff_ne.2
    intro q
    have q := congrArg by8 q
    rw [by8_bytes ha, by8_bytes hb] at q
    exact c q
theorem Take_good (N : Nat) (hN : 1000 ≤ N) {m : Ms} (h : MayP m) : W_msg_Take N (bd m ++ sm (bd m)) = some (true, m) := by
  have hg := h.rg
  have hB := bd_U8 hg
  have hU := U8_app hB.1 (sm_U8 (bd m))
  have hl : (bd m ++ sm (bd m)).length ≤ 300 := by rw [List.length_append]; have : (sm (bd m)).length = 4 := rfl; omega
  have hR := read_exact N hN hg (b := bd m ++ sm (bd m)) (r := sm (bd m)) (by omega) hU rfl
  have hp := hg.pl
  have hP := PutM_eq N hN m (by omega)
  rw [if_pos h] at hP
  have hE := bEqual_eq N _ _ hU hU
  rw [dT rfl] at hE
  obtain ⟨k, f, t, i, e, a, p, lo, hi, s⟩ := m
  unfold W_msg_Take V_msg_Take
  rw [hR, obind_s, selim_r]
  simp only
  rw [hP, obind_s, hE, obind_s, Bool.not_true, cnd_f]
open Classical in
theorem SameI_eq (N : Nat) (a b : List Int) (hN : a.length < N) (hl : a.length ≤ 140737488355327) : W_ref1_SameInts N (a, b) = some (decide (a = b)) := by
  unfold W_ref1_SameInts V_ref1_SameInts
  simp only
  by_cases h : (a.length : Int) = b.length
  case neg =>
    rw [dT (show (a.length : Int) ≠ b.length from h), cnd_t]
    have : ¬ a = b := fun q => h (by rw [q])
    rw [dF this]
  rw [dF (fun q : (a.length : Int) ≠ b.length => q h), cnd_f]
  have hlen : a.length = b.length := by omega
  refine obind_loop (fun v : Int => ∃ i : Nat, v = i ∧ i ≤ a.length ∧ a.take i = b.take i) (fun v => a.length - v.toNat) (fun r : PUnit ⊕ Bool => (r = .inl () ∧ a = b) ∨ (r = .inr false ∧ a ≠ b)) ⟨0, rfl, Nat.zero_le _, rfl⟩ (by show a.length - (Int.ofNat 0).toNat < N; omega) ?_ ?_
  · rintro r (⟨rfl, h⟩ | ⟨rfl, h⟩)
    · rw [selim_l, dT h]
    · rw [selim_r, dF h]
  · rintro v ⟨i, rfl, hi, ht⟩
    by_cases hlt : i < a.length
    · rw [dT (by omega), cnd_t, dT (by omega), Bool.and_self, cnd_t, dT (by omega), Bool.and_self, cnd_t, Int.toNat_natCast]
      have g1 : a.getD i 0 = a[i] := by rw [List.getD_eq_getElem?_getD, List.getElem?_eq_getElem hlt]; rfl
      have g2 : b.getD i 0 = b[i]'(by omega) := by rw [List.getD_eq_getElem?_getD, List.getElem?_eq_getElem (by omega)]; rfl
      rw [g1, g2]
      by_cases hq : a[i] = b[i]'(by omega)
      · left
        rw [dF (fun q : a[i] ≠ b[i]'(by omega) => q hq), cnd_f, wr_m (by omega) (by omega)]
        refine ⟨_, rfl, ⟨i + 1, by omega, by omega, ?_⟩, by omega⟩
        rw [List.take_add_one, List.take_add_one, ht, List.getElem?_eq_getElem hlt, List.getElem?_eq_getElem (by omega), hq]
      · right
        rw [dT hq, cnd_t]
        refine ⟨_, rfl, .inr ⟨rfl, fun q => hq ?_⟩⟩
        subst q; rfl
    · right
      rw [dF (by omega), cnd_f]
      refine ⟨_, rfl, .inl ⟨rfl, ?_⟩⟩
      rw [List.take_of_length_le (by omega), List.take_of_length_le (by omega)] at ht
      exact ht
open Classical in
theorem rSame_eq (N : Nat) (m w : Ms) (hN : m.2.2.2.2.2.2.1.length < N) (hl : m.2.2.2.2.2.2.1.length ≤ 140737488355327) : W_ref10_SameMsg N (m, w) = some (decide (m = w)) := by
  obtain ⟨k, f, t, i, e, a, p, lo, hi, s⟩ := m
  obtain ⟨k', f', t', i', e', a', p', lo', hi', s'⟩ := w
  unfold W_ref10_SameMsg V_ref10_SameMsg
  have hE := SameI_eq N p p' hN hl
  simp only
  by_cases h1 : k = k'
  case neg => simp only [decide_true, decide_false, cnd_t, cnd_f, obind_s, Prod.mk.injEq, h1, false_and, and_false, true_and]
  subst h1
  by_cases h2 : f = f'
  case neg => simp only [decide_true, decide_false, cnd_t, cnd_f, obind_s, Prod.mk.injEq, h2, false_and, and_false, true_and]
  subst h2
  by_cases h3 : t = t'
  case neg => simp only [decide_true, decide_false, cnd_t, cnd_f, obind_s, Prod.mk.injEq, h3, false_and, and_false, true_and]
  subst h3
  by_cases h4 : i = i'
  case neg => simp only [decide_true, decide_false, cnd_t, cnd_f, obind_s, Prod.mk.injEq, h4, false_and, and_false, true_and]
  subst h4
  by_cases h5 : e = e'
  case neg => simp only [decide_true, decide_false, cnd_t, cnd_f, obind_s, Prod.mk.injEq, h5, false_and, and_false, true_and]
  subst h5
  by_cases h6 : a = a'
  case neg => simp only [decide_true, decide_false, cnd_t, cnd_f, obind_s, Prod.mk.injEq, h6, false_and, and_false, true_and]
  subst h6
  by_cases h8 : lo = lo'
  case neg => simp only [decide_true, decide_false, cnd_t, cnd_f, obind_s, Prod.mk.injEq, h8, false_and, and_false, true_and]
  subst h8
  by_cases h9 : hi = hi'
  case neg => simp only [decide_true, decide_false, cnd_t, cnd_f, obind_s, Prod.mk.injEq, h9, false_and, and_false, true_and]
  subst h9
  by_cases h10 : s = s'
  case neg =>
    have : (s == s') = false := by simpa using h10
    simp only [decide_true, decide_false, cnd_t, cnd_f, obind_s, Prod.mk.injEq, h10, this, false_and, and_false, true_and]
  subst h10
  simp only [decide_true, beq_self_eq_true, cnd_t, obind_s, hE, Prod.mk.injEq, true_and, and_true]
open Classical in
theorem rMay_all (N : Nat) (hN : 12 ≤ N) (m : Ms) (hS : ∀ x : Ms, x.2.2.2.2.2.2.1.length ≤ m.2.2.2.2.2.2.1.length → W_ref10_SameMsg N (x, m) = some (decide (x = m))) : W_ref10_MayMsg N m = some (decide (MayP m)) := by
  obtain ⟨k, f, t, i, e, a, p, lo, hi, s⟩ := m
  have hM := rMay_eq N p hN
  have hq : ∀ v, W_ref10_seq N v = some (decide (0 ≤ v ∧ v ≤ 1000000)) := fun v => by
    unfold W_ref10_seq V_ref10_seq
    by_cases h : 0 ≤ v
    · simp only [h, decide_true, cnd_t, true_and]
    · simp only [h, decide_false, cnd_f, false_and]
  have hsp : W_ref1_MaySpan N (lo, hi) = some (decide ((1 ≤ lo ∧ lo ≤ hi) ∧ hi ≤ 1000000)) := by
    unfold W_ref1_MaySpan V_ref1_MaySpan
    simp only
    by_cases h : 1 ≤ lo
    · simp only [h, decide_true, cnd_t, obind_s, true_and]
      by_cases h2 : lo ≤ hi
      · simp only [h2, decide_true, cnd_t, true_and]
      · simp only [h2, decide_false, cnd_f, false_and]
    · simp only [h, decide_false, cnd_f, obind_s, false_and]
  simp only at hS
  by_cases g1 : (1 ≤ k ∧ k ≤ 9) ∧ (1 ≤ f ∧ f ≤ 8) ∧ (1 ≤ t ∧ t ≤ 8) ∧ f ≠ t ∧ (1 ≤ i ∧ i ≤ 1073741824)
  case neg =>
    have hno : ¬ MayP (k, f, t, i, e, a, p, lo, hi, s) := fun h => g1 ⟨h.1, h.2.1, h.2.2.1, h.2.2.2.1, h.2.2.2.2.1⟩
    rw [dF hno]
    unfold W_ref10_MayMsg V_ref10_MayMsg
    simp only
    by_cases a1 : k < 1
    · simp only [a1, decide_true, cnd_t, obind_s]
    simp only [a1, decide_false, cnd_f, obind_s]
    by_cases a2 : 9 < k
    · simp only [a2, decide_true, cnd_t, obind_s]
    simp only [a2, decide_false, cnd_f, obind_s]
    by_cases a3 : f < 1
    · simp only [a3, decide_true, cnd_t, obind_s]
    simp only [a3, decide_false, cnd_f, obind_s]
    by_cases a4 : 8 < f
    · simp only [a4, decide_true, cnd_t, obind_s]
    simp only [a4, decide_false, cnd_f, obind_s]
    by_cases a5 : t < 1
    · simp only [a5, decide_true, cnd_t, obind_s]
    simp only [a5, decide_false, cnd_f, obind_s]
    by_cases a6 : 8 < t
    · simp only [a6, decide_true, cnd_t, obind_s]
    simp only [a6, decide_false, cnd_f, obind_s]
    by_cases a7 : f = t
    · simp only [a7, decide_true, cnd_t, obind_s]
    simp only [a7, decide_false, cnd_f, obind_s]
    by_cases a8 : i < 1
    · simp only [a8, decide_true, cnd_t, obind_s]
    simp only [a8, decide_false, cnd_f, obind_s]
    have a9 : 1073741824 < i := by
      apply Classical.byContradiction
      intro a9
      exact g1 ⟨by omega, by omega, by omega, a7, by omega⟩
    simp only [a9, decide_true, cnd_t]
  have hbase : MayP (k, f, t, i, e, a, p, lo, hi, s) ↔ ((k, f, t, i, e, a, p, lo, hi, s) = ownF (k, f, t, i, e, a, p, lo, hi, s) ∧ Fits (k, f, t, i, e, a, p, lo, hi, s)) := ⟨fun h => h.2.2.2.2.2, fun h => ⟨g1.1, g1.2.1, g1.2.2.1, g1.2.2.2.1, g1.2.2.2.2, h⟩⟩
  have a1 : ¬ k < 1 := by omega
  have a2 : ¬ 9 < k := by omega
  have a3 : ¬ f < 1 := by omega
  have a4 : ¬ 8 < f := by omega
  have a5 : ¬ t < 1 := by omega
  have a6 : ¬ 8 < t := by omega
  have a7 : ¬ f = t := g1.2.2.2.1
  have a8 : ¬ i < 1 := by omega
  have a9 : ¬ 1073741824 < i := by omega
  unfold W_ref10_MayMsg V_ref10_MayMsg
  simp only [a1, a2, a3, a4, a5, a6, a7, a8, a9, decide_false, cnd_f, obind_s]
  rw [show decide (MayP (k, f, t, i, e, a, p, lo, hi, s)) = decide ((k, f, t, i, e, a, p, lo, hi, s) = ownF (k, f, t, i, e, a, p, lo, hi, s) ∧ Fits (k, f, t, i, e, a, p, lo, hi, s)) from decide_eq_decide.2 hbase]
  clear hbase
  have fin : ∀ (x : Ms), x.2.2.2.2.2.2.1.length ≤ p.length → ownF (k, f, t, i, e, a, p, lo, hi, s) = x → (x = (k, f, t, i, e, a, p, lo, hi, s) → Fits (k, f, t, i, e, a, p, lo, hi, s)) → (obind (W_ref10_SameMsg N (x, (k, f, t, i, e, a, p, lo, hi, s))) fun (b : Bool) => some b) = some (decide ((k, f, t, i, e, a, p, lo, hi, s) = ownF (k, f, t, i, e, a, p, lo, hi, s) ∧ Fits (k, f, t, i, e, a, p, lo, hi, s))) := by
    intro x hx ho hf
    rw [hS x hx, obind_s, ho]
    exact congrArg some (decide_eq_decide.2 ⟨fun q => ⟨q.symm, hf q⟩, fun q => q.1.symm⟩)
  have nof : ¬ Fits (k, f, t, i, e, a, p, lo, hi, s) → some false = some (decide ((k, f, t, i, e, a, p, lo, hi, s) = ownF (k, f, t, i, e, a, p, lo, hi, s) ∧ Fits (k, f, t, i, e, a, p, lo, hi, s))) := fun h => congrArg some (dF (fun q => h q.2)).symm
  by_cases k2 : k = 2
  · have ho : ownF (k, f, t, i, e, a, p, lo, hi, s) = (k, f, t, i, e, a, p, lo, 0, []) := by unfold ownF; simp only; rw [if_pos k2]
    have hF : Fits (k, f, t, i, e, a, p, lo, hi, s) ↔ (0 ≤ e ∧ e ≤ 1073741824) ∧ (0 ≤ a ∧ a ≤ 1073741824) ∧ VP p ∧ (0 ≤ lo ∧ lo ≤ 1000000) ∧ (0 ≤ hi ∧ hi ≤ 1000000) := by unfold Fits; simp only; rw [if_pos (.inl k2)]
    subst k2
    simp only [Int.reduceEq, decide_true, decide_false, cnd_t, cnd_f, obind_s]
    by_cases b1 : 0 ≤ e
    case neg =>
      simp only [b1, decide_false, cnd_t, cnd_f, obind_s]
      exact nof (fun q => b1 (hF.1 q).1.1)
    simp only [b1, decide_true, cnd_t, obind_s]
    by_cases b2 : e ≤ 1073741824
    case neg =>
      simp only [b2, decide_false, cnd_t, cnd_f, obind_s]
      exact nof (fun q => b2 (hF.1 q).1.2)
    simp only [b2, decide_true, cnd_t, obind_s]
    by_cases b3 : 0 ≤ a
    case neg =>
      simp only [b3, decide_false, cnd_t, cnd_f, obind_s]
      exact nof (fun q => b3 (hF.1 q).2.1.1)
    simp only [b3, decide_true, cnd_t, obind_s]
    by_cases b4 : a ≤ 1073741824
    case neg =>
      simp only [b4, decide_false, cnd_t, cnd_f, obind_s]
      exact nof (fun q => b4 (hF.1 q).2.1.2)
    simp only [b4, decide_true, cnd_t, obind_s, hM]
    by_cases b5 : VP p
    case neg =>
      simp only [b5, decide_false, cnd_t, cnd_f, obind_s]
      exact nof (fun q => b5 (hF.1 q).2.2.1)
    simp only [b5, decide_true, cnd_t, obind_s, hq]
    by_cases b6 : 0 ≤ lo ∧ lo ≤ 1000000
    case neg =>
      simp only [b6, decide_false, cnd_t, cnd_f, obind_s]
      exact nof (fun q => b6 (hF.1 q).2.2.2.1)
    simp only [b6, and_self, decide_true, cnd_t, obind_s]
    refine fin (2, f, t, i, e, a, p, lo, 0, []) (Nat.le_refl _) ho (fun q => hF.2 ⟨⟨b1, b2⟩, ⟨b3, b4⟩, b5, b6, ?_⟩)
    simp only [Prod.mk.injEq] at q
    omega
  by_cases k5 : k = 5
  · have ho : ownF (k, f, t, i, e, a, p, lo, hi, s) = (k, f, t, i, e, a, p, 0, hi, []) := by unfold ownF; simp only; rw [if_neg k2, if_pos k5]
    have hF : Fits (k, f, t, i, e, a, p, lo, hi, s) ↔ (0 ≤ e ∧ e ≤ 1073741824) ∧ (0 ≤ a ∧ a ≤ 1073741824) ∧ VP p ∧ (0 ≤ lo ∧ lo ≤ 1000000) ∧ (0 ≤ hi ∧ hi ≤ 1000000) := by unfold Fits; simp only; rw [if_pos (.inr k5)]
    subst k5
    simp only [Int.reduceEq, decide_true, decide_false, cnd_t, cnd_f, obind_s]
    by_cases b1 : 0 ≤ e
    case neg =>
      simp only [b1, decide_false, cnd_t, cnd_f, obind_s]
      exact nof (fun q => b1 (hF.1 q).1.1)
    simp only [b1, decide_true, cnd_t, obind_s]
    by_cases b2 : e ≤ 1073741824
    case neg =>
      simp only [b2, decide_false, cnd_t, cnd_f, obind_s]
      exact nof (fun q => b2 (hF.1 q).1.2)
    simp only [b2, decide_true, cnd_t, obind_s]
    by_cases b3 : 0 ≤ a
    case neg =>
      simp only [b3, decide_false, cnd_t, cnd_f, obind_s]
      exact nof (fun q => b3 (hF.1 q).2.1.1)
    simp only [b3, decide_true, cnd_t, obind_s]
    by_cases b4 : a ≤ 1073741824
    case neg =>
      simp only [b4, decide_false, cnd_t, cnd_f, obind_s]
      exact nof (fun q => b4 (hF.1 q).2.1.2)
    simp only [b4, decide_true, cnd_t, obind_s, hM]
    by_cases b5 : VP p
    case neg =>
      simp only [b5, decide_false, cnd_t, cnd_f, obind_s]
      exact nof (fun q => b5 (hF.1 q).2.2.1)
    simp only [b5, decide_true, cnd_t, obind_s, hq]
    by_cases b6 : 0 ≤ hi ∧ hi ≤ 1000000
    case neg =>
      simp only [b6, decide_false, cnd_t, cnd_f, obind_s]
      exact nof (fun q => b6 (hF.1 q).2.2.2.2)
    simp only [b6, and_self, decide_true, cnd_t, obind_s]
    refine fin (5, f, t, i, e, a, p, 0, hi, []) (Nat.le_refl _) ho (fun q => hF.2 ⟨⟨b1, b2⟩, ⟨b3, b4⟩, b5, ?_, b6⟩)
    simp only [Prod.mk.injEq] at q
    omega
  by_cases k7 : k = 7
  · have ho : ownF (k, f, t, i, e, a, p, lo, hi, s) = (k, f, t, i, 0, 0, [], lo, 0, s) := by unfold ownF; simp only; rw [if_neg k2, if_neg k5, if_pos k7]
    have hF : Fits (k, f, t, i, e, a, p, lo, hi, s) ↔ (1 ≤ lo ∧ lo ≤ 1000000) ∧ (s.length : Int) ≤ 12 := by unfold Fits; simp only; rw [if_neg (fun q => q.elim k2 k5), if_pos k7]
    subst k7
    simp only [Int.reduceEq, decide_true, decide_false, cnd_t, cnd_f, obind_s]
    by_cases b1 : 1 ≤ lo
    case neg =>
      simp only [b1, decide_false, cnd_t, cnd_f, obind_s]
      exact nof (fun q => b1 (hF.1 q).1.1)
    simp only [b1, decide_true, cnd_t, obind_s, hq]
    by_cases b2 : 0 ≤ lo ∧ lo ≤ 1000000
    case neg =>
      simp only [b2, decide_false, cnd_t, cnd_f, obind_s]
      exact nof (fun q => b2 ⟨by omega, (hF.1 q).1.2⟩)
    simp only [b2, and_self, decide_true, cnd_t, obind_s]
    by_cases b3 : (s.length : Int) ≤ 12
    case neg =>
      simp only [b3, decide_false, cnd_t, cnd_f, obind_s]
      exact nof (fun q => b3 (hF.1 q).2)
    simp only [b3, decide_true, cnd_t, obind_s]
    exact fin (7, f, t, i, 0, 0, [], lo, 0, s) (Nat.zero_le _) ho (fun _ => hF.2 ⟨⟨b1, b2.2⟩, b3⟩)
  by_cases k8 : k = 8 ∨ k = 9
  · have ho : ownF (k, f, t, i, e, a, p, lo, hi, s) = (k, f, t, i, 0, 0, [], lo, hi, []) := by unfold ownF; simp only; rw [if_neg k2, if_neg k5, if_neg k7, if_pos k8]
    have hF : Fits (k, f, t, i, e, a, p, lo, hi, s) ↔ (1 ≤ lo ∧ lo ≤ hi) ∧ hi ≤ 1000000 := by unfold Fits; simp only; rw [if_neg (fun q => q.elim k2 k5), if_neg k7, if_pos k8]
    have e8 : (cnd (decide (k = 8)) (some true) (some (decide (k = 9))) : Option Bool) = some true := by
      rcases k8 with q | q
      · rw [dT q, cnd_t]
      · rw [dF (by omega), cnd_f, dT q]
    simp only [k2, k5, k7, decide_false, cnd_f, obind_s]
    have two : ∀ {α : Type} (g : Bool → α), cnd (decide (k = 8)) (some (g (decide (k = 8)))) (some (g (decide (k = 9)))) = some (g true) := by
      intro α g
      rcases k8 with q | q
      · rw [dT q, cnd_t]
      · rw [dF (show ¬ k = 8 by omega), cnd_f, dT q]
    rw [two (fun c => (c, (k, f, t, i, e, a, p, lo, hi, s), k, f, t, i, (0 : Int), (0 : Int), ([] : List Int), (0 : Int), (0 : Int), ([] : List UInt8))), obind_s]
    simp only [cnd_t, hsp, obind_s]
    by_cases b1 : (1 ≤ lo ∧ lo ≤ hi) ∧ hi ≤ 1000000
    case neg =>
      simp only [b1, decide_false, cnd_f]
      exact nof (fun q => b1 (hF.1 q))
    simp only [b1, and_self, decide_true, cnd_t]
    exact fin (k, f, t, i, 0, 0, [], lo, hi, []) (Nat.zero_le _) ho (fun _ => hF.2 b1)
  · have ho : ownF (k, f, t, i, e, a, p, lo, hi, s) = (k, f, t, i, 0, 0, [], 0, 0, []) := by unfold ownF; simp only; rw [if_neg k2, if_neg k5, if_neg k7, if_neg k8]
    have hF : Fits (k, f, t, i, e, a, p, lo, hi, s) := by unfold Fits; simp only; rw [if_neg (fun q => q.elim k2 k5), if_neg k7, if_neg k8]; trivial
    have n8 : ¬ k = 8 := fun q => k8 (.inl q)
    have n9 : ¬ k = 9 := fun q => k8 (.inr q)
    simp only [k2, k5, k7, n8, n9, decide_false, cnd_f, cnd_t, obind_s]
    exact fin (k, f, t, i, 0, 0, [], 0, 0, []) (Nat.zero_le _) ho (fun _ => hF)
theorem numLoop3 (l : List Int) (m : Ms) {f : Int × Ms × List Int → Option ((Int × Ms × List Int) ⊕ (Ms × List Int))} (hr : ∀ v ∈ l, 0 ≤ v ∧ v ≤ 1073741824) (h0 : ∀ b, f ((l.length : Int), m, b) = some (.inr (m, b)))
    (h1 : ∀ (i : Nat) b, i < l.length → b.length ≤ 1000 → f ((i : Int), m, b) = some (.inl ((i : Int) + 1, m, b ++ enc (l.getD i 0)))) :
    ∀ (k i M : Nat) (b : List Int), i + k = l.length → k < M → b.length + 5 * k ≤ 1000 → loopN M f ((i : Int), m, b) = some (m, b ++ (l.drop i).flatMap enc)
  | 0, i, 0, b, _, hM, _ => by omega
  | 0, i, M + 1, b, hi, _, _ => by
    have : i = l.length := by omega
    subst this
    simp only [loopN, h0, List.drop_length, List.flatMap_nil, List.append_nil]
  | k + 1, i, 0, b, _, hM, _ => by omega
  | k + 1, i, M + 1, b, hi, hM, hb => by
    have hil : i < l.length := by omega
    have e : l.getD i 0 = l[i] := by rw [List.getD_eq_getElem?_getD, List.getElem?_eq_getElem hil]; rfl
    have hv := hr l[i] (List.getElem_mem hil)
    have he := (enc_U8 hv.1 hv.2).2.1
    simp only [loopN, h1 i b hil (by omega)]
    rw [show (i : Int) + 1 = ((i + 1 : Nat) : Int) by omega, numLoop3 l m hr h0 h1 k (i + 1) M _ (by omega) (by omega) (by rw [List.length_append, e]; omega), List.append_assoc, e, List.drop_eq_getElem_cons hil, List.flatMap_cons]
open Classical in
noncomputable def pm (m : Ms) : List Int := if MayP m then bd m ++ sm (bd m) else []
theorem pm_U8 (m : Ms) : U8 (pm m) := by
  unfold pm
  split
  · rename_i h; exact U8_app (bd_U8 h.rg).1 (sm_U8 _)
  · intro n hn; simp at hn
open Classical in
theorem rPut_eq (N : Nat) (hN : 1000 ≤ N) (m : Ms) (hM : W_ref10_MayMsg N m = some (decide (MayP m))) : W_ref10_PutMsg N m = some (pm m) := by
  obtain ⟨k, f, t, i, e, a, p, lo, hi, s⟩ := m
  unfold W_ref10_PutMsg V_ref10_PutMsg pm
  simp only
  rw [hM, obind_s]
  by_cases h : MayP (k, f, t, i, e, a, p, lo, hi, s)
  case neg => rw [dF h, Bool.not_false, cnd_t, if_neg h]
  have hg := h.rg
  have q1 := flat_U8 hg.r7
  have q2 := flat_U8 hg.p
  have q3 := flat_U8 hg.r2
  have hp := hg.pl
  have hs := hg.s
  have hB := bd_U8 hg
  have l1 := q1.2; have l2 := q2.2; have l3 := q3.2
  have r7 := hg.r7; have rp := hg.p; have r2 := hg.r2
  simp only [List.length_cons, List.length_nil] at l1 l2 l3 hp hs
  simp only at r7 rp r2
  rw [dT h, Bool.not_true, cnd_f, if_pos h]
  obtain ⟨L, hL⟩ : ∃ L, L = [k, f, t, i, e, a, (p.length : Int)] ++ p ++ [lo, hi] := ⟨_, rfl⟩
  have hLl : L.length = 9 + p.length := by rw [hL]; simp only [List.length_append, List.length_cons, List.length_nil]; omega
  have hLr : ∀ v ∈ L, 0 ≤ v ∧ v ≤ 1073741824 := by
    intro v hv
    rw [hL] at hv
    rcases List.mem_append.1 hv with hv | hv
    · rcases List.mem_append.1 hv with hv | hv
      · exact r7 v hv
      · exact rp v hv
    · exact r2 v hv
  have hLf : L.flatMap enc = [k, f, t, i, e, a, (p.length : Int)].flatMap enc ++ p.flatMap enc ++ [lo, hi].flatMap enc := by rw [hL, List.flatMap_append, List.flatMap_append]
  rw [cnd_T (by simp only [List.length_cons, List.length_nil]; omega), cnd_T (by simp only [List.length_append, List.length_cons, List.length_nil]; omega), ← hL]
  rw [show ((0 : Int), (k, f, t, i, e, a, p, lo, hi, s), ([] : List Int)) = (((0 : Nat) : Int), (k, f, t, i, e, a, p, lo, hi, s), []) from rfl, numLoop3 L (k, f, t, i, e, a, p, lo, hi, s) hLr _ _ L.length 0 N [] (by omega) (by omega) (by simp; omega), obind_s, List.drop_zero, List.nil_append]
  rotate_left
  · intro b
    simp only
    rw [dF (by omega), cnd_f]
  · intro i b hi hb
    have ee : L.getD i 0 = L[i] := by rw [List.getD_eq_getElem?_getD, List.getElem?_eq_getElem hi]; rfl
    have hv := hLr L[i] (List.getElem_mem hi)
    simp only
    rw [dT (by omega), cnd_t, dT (by omega), Bool.and_self, cnd_t, Int.toNat_natCast, PutNum_eq N (by omega) b _ hb (by rw [ee]; exact hv.1) (by rw [ee]; exact hv.2), obind_s, wr_m (by omega) (by omega)]
  simp only
  rw [rPutText_eq N (by omega) _ s (by rw [hLf]; simp only [List.length_append]; omega) (by omega), obind_s]
  have eb : bd (k, f, t, i, e, a, p, lo, hi, s) = L.flatMap enc ++ enc s.length ++ by8 s := by rw [hLf]; rfl
  rw [← eb, rSum_eq N _ (by omega) (by omega) (by omega) hB.1, obind_s]
  have es : ∀ b : List Int, [wr IntKind.u8 (Int.fdiv (X (IntKind.max .u32) (fold 4294967295 b)) ((2 : Int) ^ (24 : Nat))), wr IntKind.u8 (Int.fdiv (X (IntKind.max .u32) (fold 4294967295 b)) ((2 : Int) ^ (16 : Nat))), wr IntKind.u8 (Int.fdiv (X (IntKind.max .u32) (fold 4294967295 b)) ((2 : Int) ^ (8 : Nat))), wr IntKind.u8 (X (IntKind.max .u32) (fold 4294967295 b))] = sm b := by
    intro b
    rw [wr_u8m, wr_u8m, wr_u8m, wr_u8m, Int.fdiv_eq_ediv_of_nonneg _ (by decide), Int.fdiv_eq_ediv_of_nonneg _ (by decide), Int.fdiv_eq_ediv_of_nonneg _ (by decide)]
    rfl
  rw [es, cnd_T (by have : (sm (bd (k, f, t, i, e, a, p, lo, hi, s))).length = 4 := rfl; omega)]
theorem rrn_bad (N : Nat) (hN : 1000 ≤ N) {b : List Int} (hb : b.length ≤ 900) (hU : U8 b) : W_ref10_reader_num N (b, true) = some (0, b, true) := by
  unfold W_ref10_reader_num V_ref10_reader_num
  simp only
  rw [TakeNum_eq N (by omega) b (by omega) hU, obind_s]
  cases (tk (rd b 0 0 1)).2.2 <;> rfl
theorem rrn_eq (N : Nat) (hN : 1000 ≤ N) {b : List Int} (hb : b.length ≤ 900) (hU : U8 b) : W_ref10_reader_num N (b, false) = some (match rd b 0 0 1 with
    | some (v, n) => (v, b.drop n.toNat, false)
    | none => (0, b, true)) := by
  unfold W_ref10_reader_num V_ref10_reader_num
  have ht := TakeNum_eq N (by omega) b (by omega) hU
  simp only
  cases hr : rd b 0 0 1 with
  | none =>
    rw [hr] at ht
    replace ht : W_ref10_TakeNum N b = some (0, 0, false) := ht
    rw [ht, obind_s]
    rfl
  | some p =>
    obtain ⟨v, n⟩ := p
    obtain ⟨g1, g2, g3, g4, g5⟩ := rd_rng _ 0 0 1 v n hU (by omega) (by omega) hr
    rw [hr] at ht
    replace ht : W_ref10_TakeNum N b = some (v, n, true) := ht
    rw [ht, obind_s]
    simp only [Bool.not_true, cnd_f, obind_s]
    rw [dT (by omega), dT (by omega), Bool.and_self, cnd_t, List.take_length]
theorem rrn_put (N : Nat) (hN : 1000 ≤ N) {r : List Int} {v : Int} (hv : 0 ≤ v ∧ v ≤ 1073741824) (hb : (enc v ++ r).length ≤ 900) (hU : U8 (enc v ++ r)) : W_ref10_reader_num N (enc v ++ r, false) = some (v, r, false) ∧ r.length ≤ 900 ∧ U8 r := by
  have h := rrn_eq N hN hb hU
  rw [rd_put hv.1 hv.2] at h
  rw [h]
  simp only [Int.toNat_natCast, List.drop_left]
  rw [List.length_append] at hb
  exact ⟨trivial, by omega, fun n hn => hU n (List.mem_append_right _ hn)⟩
theorem rrt_put (N : Nat) (hN : 1000 ≤ N) {s : List UInt8} (hs : s.length ≤ 200) : W_ref10_reader_text N (enc s.length ++ by8 s, false) = some (s, [], false) := by
  have he := enc_U8 (v := (s.length : Int)) (by omega) (by omega)
  have hU : U8 (enc s.length ++ by8 s) := U8_app he.1 (by8_U8 s)
  have hl : (enc s.length ++ by8 s).length ≤ 300 := by simp only [List.length_append, by8, List.length_map]; omega
  have ht := rTakeText_eq N (by omega) (enc s.length ++ by8 s) (by omega) hU
  have h2 := tt_put s [] hs
  rw [List.append_nil] at h2
  rw [h2] at ht
  unfold W_ref10_reader_text V_ref10_reader_text
  simp only
  rw [ht, obind_s]
  simp only [Bool.not_true, cnd_f, obind_s]
  rw [dT (by omega), dT (by omega), Bool.and_self, cnd_t, List.take_length, Int.toNat_natCast, List.drop_length]
theorem rrn_tot (N : Nat) (hN : 1000 ≤ N) {b : List Int} (c : Bool) (hb : b.length ≤ 900) (hU : U8 b) : ∃ v b' c', W_ref10_reader_num N (b, c) = some (v, b', c') ∧ b'.length ≤ b.length ∧ U8 b' ∧ (c' = false → c = false ∧ b'.length < b.length) ∧ 0 ≤ v ∧ v ≤ 1073741824 := by
  cases c with
  | true => exact ⟨_, _, _, rrn_bad N hN hb hU, Nat.le_refl _, hU, fun q => by (cases q), by omega, by omega⟩
  | false =>
    have h := rrn_eq N hN hb hU
    cases hr : rd b 0 0 1 with
    | none => rw [hr] at h; exact ⟨_, _, _, h, Nat.le_refl _, hU, fun q => by (cases q), by omega, by omega⟩
    | some p =>
      obtain ⟨v, n⟩ := p
      obtain ⟨g1, g2, g3, g4, g5⟩ := rd_rng _ 0 0 1 v n hU (by omega) (by omega) hr
      rw [hr] at h
      exact ⟨_, _, _, h, by rw [List.length_drop]; omega, U8_drop hU _, fun _ => ⟨rfl, by rw [List.length_drop]; omega⟩, g1, g2⟩
theorem rrt_tot (N : Nat) (hN : 1000 ≤ N) {b : List Int} (c : Bool) (hb : b.length ≤ 900) (hU : U8 b) : ∃ s b' c', W_ref10_reader_text N (b, c) = some (s, b', c') ∧ s.length ≤ b.length := by
  have ht := rTakeText_eq N (by omega) b (by omega) hU
  unfold W_ref10_reader_text V_ref10_reader_text
  simp only
  unfold tt at ht
  cases hr : rd b 0 0 1 with
  | none =>
    rw [hr] at ht
    simp only at ht
    rw [ht, obind_s]
    exact ⟨_, _, _, rfl, Nat.zero_le _⟩
  | some p =>
    obtain ⟨v, n⟩ := p
    obtain ⟨g1, g2, g3, g4, g5⟩ := rd_rng _ 0 0 1 v n hU (by omega) (by omega) hr
    rw [hr] at ht
    simp only at ht
    split at ht
    · rw [ht, obind_s]
      exact ⟨_, _, _, rfl, Nat.zero_le _⟩
    · rw [ht, obind_s]
      simp only [Bool.not_true, cnd_f, obind_s]
      cases c with
      | true => rw [cnd_t]; exact ⟨_, _, _, rfl, Nat.zero_le _⟩
      | false =>
        rw [cnd_f, dT (by omega), dT (by omega), Bool.and_self, cnd_t]
        refine ⟨_, _, _, rfl, ?_⟩
        simp only [bytesI, List.length_map, List.length_drop, List.length_take]
        omega
abbrev Rs1 := List Int × Bool
def St1 (x : Rs1) (k f t i e a : Int) (p : List Int) : Int × Int × Int × Int × Int × Int × Int × Int × List UInt8 × List Int × Rs1 × Int × Int × Int × Int × Int × Int × Int × Int × List UInt8 × List Int :=
  (0, 0, 0, 0, 0, 0, 0, 0, [], [], x, k, f, t, i, e, a, 0, 0, [], p)
open Classical in
theorem rMay_eq2 (N : Nat) (hN : 1000 ≤ N) (m : Ms) (hl : m.2.2.2.2.2.2.1.length ≤ 900) : W_ref10_MayMsg N m = some (decide (MayP m)) :=
  rMay_all N (by omega) m (fun x hx => rSame_eq N x m (by omega) (by omega))
theorem rPut_eq2 (N : Nat) (hN : 1000 ≤ N) (m : Ms) (hl : m.2.2.2.2.2.2.1.length ≤ 900) : W_ref10_PutMsg N m = some (pm m) := rPut_eq N hN m (rMay_eq2 N hN m hl)
open Classical in
theorem bytes_dec {a b : List Int} (ha : U8 a) (hb : U8 b) : (bytesI a == bytesI b) = decide (a = b) := by
  by_cases c : a = b
  · subst c; rw [dT rfl, BEq.rfl]
  · rw [dF c]
    apply beq_eq_false_iff_ne.2
    intro q
    have q := congrArg by8 q
    rw [by8_bytes ha, by8_bytes hb] at q
    exact c q
def zM : Ms := (0, 0, 0, 0, 0, 0, [], 0, 0, [])
open Classical in
theorem rTake_good (N : Nat) (hN : 1000 ≤ N) {m : Ms} (h : MayP m) : W_ref10_TakeMsg N (bd m ++ sm (bd m)) = some (true, m) := by
  have hg := h.rg
  have hB := bd_U8 hg
  have hU := U8_app hB.1 (sm_U8 (bd m))
  have s4 : (sm (bd m)).length = 4 := rfl
  have hl : (bd m ++ sm (bd m)).length = (bd m).length + 4 := by rw [List.length_append, s4]
  have hP := rPut_eq2 N hN m (by have := hg.pl; omega)
  have hpm : pm m = bd m ++ sm (bd m) := by unfold pm; rw [if_pos h]
  rw [hpm] at hP
  have hcut : (bd m ++ sm (bd m)).take (bd m).length = bd m := List.take_left
  have hA : U8 (bd m) ∧ (bd m).length ≤ 900 := ⟨hB.1, by omega⟩
  have happ := bd_app m []
  rw [List.append_nil] at happ
  generalize hc : bd m ++ sm (bd m) = c at *
  obtain ⟨k, f, t, i, e, a, p, lo, hi, s⟩ := m
  have hp := hg.pl
  have hs := hg.s
  simp only at happ hp hs
  unfold W_ref10_TakeMsg V_ref10_TakeMsg
  rw [dF (by omega), cnd_f, wr_m (by omega) (by omega), dT (by omega), dT (by omega), Bool.and_self, cnd_t, List.drop_zero, show ((c.length : Int) - 4).toNat = (bd (k, f, t, i, e, a, p, lo, hi, s)).length by omega, hcut]
  rw [happ] at hA ⊢
  obtain ⟨e1, l1, u1⟩ := rrn_put N hN hg.k hA.2 hA.1
  rw [e1, obind_s]
  simp only
  obtain ⟨e2, l2, u2⟩ := rrn_put N hN hg.f l1 u1
  rw [e2, obind_s]
  simp only
  obtain ⟨e3, l3, u3⟩ := rrn_put N hN hg.t l2 u2
  rw [e3, obind_s]
  simp only
  obtain ⟨e4, l4, u4⟩ := rrn_put N hN hg.i l3 u3
  rw [e4, obind_s]
  simp only
  obtain ⟨e5, l5, u5⟩ := rrn_put N hN hg.e l4 u4
  rw [e5, obind_s]
  simp only
  obtain ⟨e6, l6, u6⟩ := rrn_put N hN hg.a l5 u5
  rw [e6, obind_s]
  simp only
  obtain ⟨e7, l7, u7⟩ := rrn_put N hN (v := (p.length : Int)) ⟨by omega, by omega⟩ l6 u6
  rw [e7, obind_s]
  simp only
  refine loop_G (N := N) (fun o => o = some (true, k, f, t, i, e, a, p, lo, hi, s)) (fun j v => v = (((p.length - j : Nat) : Int), St1 ((p.drop j).flatMap enc ++ (enc lo ++ (enc hi ++ (enc (s.length : Int) ++ (by8 s ++ [])))), false) k f t i e a (p.take j)) ∧ j ≤ p.length ∧ ((p.drop j).flatMap enc ++ (enc lo ++ (enc hi ++ (enc (s.length : Int) ++ (by8 s ++ []))))).length ≤ 900 ∧ U8 ((p.drop j).flatMap enc ++ (enc lo ++ (enc hi ++ (enc (s.length : Int) ++ (by8 s ++ [])))))) p.length
    (fun q => q = St1 (enc lo ++ (enc hi ++ (enc (s.length : Int) ++ (by8 s ++ []))), false) k f t i e a p ∧ (enc lo ++ (enc hi ++ (enc (s.length : Int) ++ (by8 s ++ [])))).length ≤ 900 ∧ U8 (enc lo ++ (enc hi ++ (enc (s.length : Int) ++ (by8 s ++ []))))) ⟨rfl, by omega, l7, u7⟩ (by omega) ?_ (fun j v ⟨_, h, _⟩ => h) ?_
  · rintro q ⟨rfl, l8, u8⟩
    simp only [St1]
    obtain ⟨e9, l9, u9⟩ := rrn_put N hN hg.lo l8 u8
    rw [e9, obind_s]
    simp only
    obtain ⟨e10, l10, u10⟩ := rrn_put N hN hg.hi l9 u9
    rw [e10, obind_s]
    simp only
    rw [List.append_nil, rrt_put N hN (by omega), obind_s]
    simp only
    rw [cnd_f, hP, obind_s, U8_all hU, cnd_t, cnd_t, BEq.rfl, Bool.not_true, cnd_f]
  · rintro j v ⟨rfl, hj, l8, u8⟩
    simp only [St1]
    by_cases c : j < p.length
    · left
      rw [List.drop_eq_getElem_cons c, List.flatMap_cons, List.append_assoc] at l8 u8 ⊢
      obtain ⟨e9, l9, u9⟩ := rrn_put N hN (hg.p _ (List.getElem_mem c)) l8 u8
      rw [dT (by omega), cnd_t, Bool.not_false, cnd_t, e9, obind_s]
      simp only
      refine ⟨_, cnd_T (by simp only [List.length_cons, List.length_nil, List.length_take]; omega), ?_, by omega, l9, u9⟩
      rw [wr_m (by omega) (by omega), show ((p.length - j : Nat) : Int) - 1 = ((p.length - (j + 1) : Nat) : Int) by omega, List.take_add_one, List.getElem?_eq_getElem c]
      rfl
    · right
      have ej : j = p.length := by omega
      subst ej
      rw [dF (by omega), cnd_f]
      rw [List.drop_length] at l8 u8 ⊢
      refine ⟨_, rfl, ?_, l8, u8⟩
      rw [List.take_length]
      rfl
open Classical in
theorem rTake_any (N : Nat) (hN : 1000 ≤ N) {b : List Int} (hb : b.length ≤ 300) (hU : U8 b) : ∃ ok x, W_ref10_TakeMsg N b = some (ok, x) ∧ (ok = true → ∃ w, MayP w ∧ b = bd w ++ sm (bd w)) ∧ (ok = false → x = zM) := by
  unfold W_ref10_TakeMsg V_ref10_TakeMsg
  by_cases c4 : (b.length : Int) < 4
  · rw [dT c4, cnd_t]; exact ⟨_, _, rfl, fun q => by (cases q), fun _ => rfl⟩
  rw [dF c4, cnd_f, wr_m (by omega) (by omega), dT (by omega), dT (by omega), Bool.and_self, cnd_t, List.drop_zero]
  have hl0 : (b.take ((b.length : Int) - 4).toNat).length ≤ 300 := by rw [List.length_take]; omega
  have hu0 : U8 (b.take ((b.length : Int) - 4).toNat) := U8_take hU _
  generalize b.take ((b.length : Int) - 4).toNat = d at *
  obtain ⟨k, d1, q1, e1, l1, u1, w1, r1⟩ := rrn_tot N hN (b := d) false (by omega) hu0
  rw [e1, obind_s]
  simp only
  obtain ⟨f, d2, q2, e2, l2, u2, w2, r2⟩ := rrn_tot N hN (b := d1) q1 (by omega) u1
  rw [e2, obind_s]
  simp only
  obtain ⟨t, d3, q3, e3, l3, u3, w3, r3⟩ := rrn_tot N hN (b := d2) q2 (by omega) u2
  rw [e3, obind_s]
  simp only
  obtain ⟨i, d4, q4, e4, l4, u4, w4, r4⟩ := rrn_tot N hN (b := d3) q3 (by omega) u3
  rw [e4, obind_s]
  simp only
  obtain ⟨e, d5, q5, e5, l5, u5, w5, r5⟩ := rrn_tot N hN (b := d4) q4 (by omega) u4
  rw [e5, obind_s]
  simp only
  obtain ⟨a, d6, q6, e6, l6, u6, w6, r6⟩ := rrn_tot N hN (b := d5) q5 (by omega) u5
  rw [e6, obind_s]
  simp only
  obtain ⟨n, d7, q7, e7, l7, u7, w7, r7⟩ := rrn_tot N hN (b := d6) q6 (by omega) u6
  rw [e7, obind_s]
  simp only
  refine loop_G (N := N) (fun o => ∃ (ok : Bool) (x : Ms), o = some (ok, x) ∧ (ok = true → ∃ w, MayP w ∧ b = bd w ++ sm (bd w)) ∧ (ok = false → x = zM)) (fun j v => ∃ (n : Int) (d' : List Int) (er : Bool) (p : List Int), v = (n, St1 (d', er) k f t i e a p) ∧ 0 ≤ n ∧ n ≤ 1073741824 ∧ d'.length ≤ 300 ∧ U8 d' ∧ p.length = j ∧ j ≤ 301 ∧ (er = false → j + d'.length ≤ 300)) 301
    (fun q => ∃ (d' : List Int) (er : Bool) (p : List Int), q = St1 (d', er) k f t i e a p ∧ d'.length ≤ 300 ∧ U8 d' ∧ p.length ≤ 301) ⟨n, d7, q7, [], rfl, r7.1, r7.2, by omega, u7, rfl, by omega, fun _ => by omega⟩ (by omega) ?_ (fun j v ⟨_, _, _, _, _, _, _, _, _, _, h, _⟩ => h) ?_
  · rintro q ⟨d', er, p, rfl, hd, hud, hp⟩
    simp only [St1]
    obtain ⟨lo, d8, q8, e8, l8, u8, w8, r8⟩ := rrn_tot N hN (b := d') er (by omega) hud
    rw [e8, obind_s]
    simp only
    obtain ⟨hi, d9, q9, e9, l9, u9, w9, r9⟩ := rrn_tot N hN (b := d8) q8 (by omega) u8
    rw [e9, obind_s]
    simp only
    obtain ⟨s, d10, q10, e10, hs⟩ := rrt_tot N hN (b := d9) q9 (by omega) u9
    rw [e10, obind_s]
    simp only
    cases q10 with
    | true => rw [cnd_t]; exact ⟨_, _, rfl, fun q => by (cases q), fun _ => rfl⟩
    | false =>
      have hP := rPut_eq2 N hN (k, f, t, i, e, a, p, lo, hi, s) (by simp only; omega)
      rw [cnd_f, hP, obind_s, U8_all (pm_U8 _), cnd_t, U8_all hU, cnd_t, bytes_dec (pm_U8 _) hU]
      by_cases c : pm (k, f, t, i, e, a, p, lo, hi, s) = b
      · rw [dT c, Bool.not_true, cnd_f]
        refine ⟨_, _, rfl, fun _ => ⟨(k, f, t, i, e, a, p, lo, hi, s), ?_⟩, fun q => by (cases q)⟩
        unfold pm at c
        by_cases hm : MayP (k, f, t, i, e, a, p, lo, hi, s)
        · rw [if_pos hm] at c; exact ⟨hm, c.symm⟩
        · rw [if_neg hm] at c
          subst c
          simp at c4
      · rw [dF c, Bool.not_false, cnd_t]
        exact ⟨_, _, rfl, fun q => by (cases q), fun _ => rfl⟩
  · rintro j v ⟨n, d', er, p, rfl, hn0, hn1, hd, hud, hp, hj, her⟩
    simp only [St1]
    by_cases c : 0 < n
    · rw [dT c, cnd_t]
      cases er with
      | true =>
        right
        rw [Bool.not_true, cnd_f]
        exact ⟨_, rfl, d', true, p, rfl, hd, hud, by omega⟩
      | false =>
        left
        obtain ⟨v, d8, q8, e8, l8, u8, w8, r8⟩ := rrn_tot N hN (b := d') false (by omega) hud
        have hjd := her rfl
        rw [Bool.not_false, cnd_t, e8, obind_s]
        simp only
        exact ⟨_, cnd_T (by simp only [List.length_cons, List.length_nil]; omega), n - 1, d8, q8, p ++ [v], by rw [wr_m (by omega) (by omega)], by omega, by omega, by omega, u8, by simp [hp], by omega, fun q => by have := (w8 q).2; omega⟩
    · right
      rw [dF c, cnd_f]
      exact ⟨_, rfl, d', er, p, rfl, hd, hud, by omega⟩
open Classical in
theorem Take_any2 (N : Nat) (hN : 1000 ≤ N) {b : List Int} (hb : b.length ≤ 300) (hU : U8 b) : ∃ ok x, W_msg_Take N b = some (ok, x) ∧ (ok = true → ∃ w, MayP w ∧ b = bd w ++ sm (bd w)) ∧ (ok = false → x = zM) := by
  obtain ⟨e, m, h1, h2, h3⟩ := read_tot N hN (b := b) (by omega) hU
  have hP := PutM_eq N hN m (by omega)
  obtain ⟨k, f, t, i, ee, a, p, lo, hi, s⟩ := m
  unfold W_msg_Take V_msg_Take
  rw [h1, obind_s]
  cases e with
  | inl z => rw [selim_l]; exact ⟨_, _, rfl, fun q => by (cases q), fun _ => rfl⟩
  | inr u =>
    rw [selim_r]
    simp only
    rw [hP, obind_s]
    by_cases h : MayP (k, f, t, i, ee, a, p, lo, hi, s)
    · rw [if_pos h, bEqual_eq N _ _ (U8_app (bd_U8 h.rg).1 (sm_U8 _)) hU, obind_s]
      by_cases q : bd (k, f, t, i, ee, a, p, lo, hi, s) ++ sm (bd (k, f, t, i, ee, a, p, lo, hi, s)) = b
      · rw [dT q, Bool.not_true, cnd_f]
        exact ⟨_, _, rfl, fun _ => ⟨_, h, q.symm⟩, fun q => by (cases q)⟩
      · rw [dF q, Bool.not_false, cnd_t]
        exact ⟨_, _, rfl, fun q => by (cases q), fun _ => rfl⟩
    · rw [if_neg h, bEqual_eq N _ _ (fun n hn => by simp at hn) hU, obind_s]
      have q : ¬ [] = b := fun q => by
        obtain ⟨z, hz⟩ := h3 q.symm
        cases hz
      rw [dF q, Bool.not_false, cnd_t]
      exact ⟨_, _, rfl, fun q => by (cases q), fun _ => rfl⟩
open Classical in
theorem Light_eq (N : Nat) (m : Ms) : W_law12_Light N m = some (decide ((m.2.2.2.2.2.2.1.length : Int) ≤ 12 ∧ (m.2.2.2.2.2.2.2.2.2.length : Int) ≤ 30)) := by
  obtain ⟨k, f, t, i, e, a, p, lo, hi, s⟩ := m
  unfold W_law12_Light V_law12_Light
  simp only
  by_cases h : (p.length : Int) ≤ 12
  · simp only [h, decide_true, cnd_t, true_and]
  · simp only [h, decide_false, cnd_f, false_and]
open Classical in
theorem PutM_eq2 (N : Nat) (hN : 1000 ≤ N) (m : Ms) (hl : m.2.2.2.2.2.2.1.length < 900) : W_msg_Put N m = some (pm m) := PutM_eq N hN m hl
open Classical in
theorem both (N : Nat) (hN : 1000 ≤ N) {b : List Int} (hb : b.length ≤ 300) (hU : U8 b) : ∃ ok x, W_msg_Take N b = some (ok, x) ∧ W_ref10_TakeMsg N b = some (ok, x) ∧ x.2.2.2.2.2.2.1.length ≤ 10 := by
  obtain ⟨o1, x1, t1, g1, f1⟩ := Take_any2 N hN hb hU
  obtain ⟨o2, x2, t2, g2, f2⟩ := rTake_any N hN hb hU
  by_cases h : ∃ w, MayP w ∧ b = bd w ++ sm (bd w)
  · obtain ⟨w, hw, e⟩ := h
    have a1 := Take_good N hN hw
    have a2 := rTake_good N hN hw
    rw [← e] at a1 a2
    exact ⟨_, _, a1, a2, hw.rg.pl⟩
  · have e1 : o1 = false := by
      cases o1 with
      | false => rfl
      | true => exact absurd (g1 rfl) h
    have e2 : o2 = false := by
      cases o2 with
      | false => rfl
      | true => exact absurd (g2 rfl) h
    subst e1 e2
    rw [f1 rfl] at t1
    rw [f2 rfl] at t2
    exact ⟨_, _, t1, t2, Nat.zero_le _⟩
open Classical in
theorem law_aux (N : Nat) (hN : 1000 ≤ N) (m : Ms) (x b : List Int) (hx : U8 x) (hU : U8 b) : W_law12_MsgAll N (m, x, b) = some true := by
  have hL := Light_eq N m
  obtain ⟨k, f, t, i, e, a, p, lo, hi, s⟩ := m
  unfold W_law12_MsgAll V_law12_MsgAll
  simp only at hL ⊢
  rw [hL, obind_s]
  by_cases c0 : (p.length : Int) ≤ 12 ∧ (s.length : Int) ≤ 30
  case neg => simp only [c0, decide_false, Bool.not_false, cnd_t, obind_s]
  rw [dT c0, Bool.not_true, cnd_f, obind_s]
  simp only
  by_cases c1 : (30 : Int) < x.length
  · rw [dT c1, cnd_t]
  rw [dF c1, cnd_f]
  by_cases c2 : (60 : Int) < b.length
  · rw [dT c2, cnd_t]
  rw [dF c2, cnd_f, Made_eq, obind_s]
  simp only
  obtain ⟨mB, n1, h1, h2, h3, h4, h5⟩ := Msg_eqn N hN 2 x 0 (by omega) (by omega) (by omega) hx
  obtain ⟨mC, n2, k1, k2, k3, k4, k5⟩ := Msg_eqn N hN 3 x n1 (by omega) (by omega) (by omega) hx
  have pB := h2.rg.pl
  have pC := k2.rg.pl
  obtain ⟨ok, z, T1, T2, pz⟩ := both N hN (b := b) (by omega) hU
  have A1 := MayM_eq N (by omega) (k, f, t, i, e, a, p, lo, hi, s) (by simp only; omega) (by simp only; omega)
  have A2 := rMay_eq2 N hN (k, f, t, i, e, a, p, lo, hi, s) (by simp only; omega)
  have A3 := PutM_eq2 N hN (k, f, t, i, e, a, p, lo, hi, s) (by simp only; omega)
  have A4 := rPut_eq2 N hN (k, f, t, i, e, a, p, lo, hi, s) (by simp only; omega)
  have A5 := U8_all (pm_U8 (k, f, t, i, e, a, p, lo, hi, s))
  have A6 := fun w : Ms => Same_eq N (k, f, t, i, e, a, p, lo, hi, s) w (by simp only; omega) (by simp only; omega)
  have A7 := fun w : Ms => rSame_eq N (k, f, t, i, e, a, p, lo, hi, s) w (by simp only; omega) (by simp only; omega)
  have B1 := MayM_eq N (by omega) mB (by omega) (by omega)
  have B2 := rMay_eq2 N hN mB (by omega)
  have B3 := PutM_eq2 N hN mB (by omega)
  have B4 := rPut_eq2 N hN mB (by omega)
  have B5 := U8_all (pm_U8 mB)
  have B6 := fun w : Ms => Same_eq N mB w (by omega) (by omega)
  have B7 := fun w : Ms => rSame_eq N mB w (by omega) (by omega)
  have B8 : decide (MayP mB) = true := dT h2
  have C1 := MayM_eq N (by omega) mC (by omega) (by omega)
  have C2 := rMay_eq2 N hN mC (by omega)
  have C3 := PutM_eq2 N hN mC (by omega)
  have C4 := rPut_eq2 N hN mC (by omega)
  have C5 := U8_all (pm_U8 mC)
  have C6 := fun w : Ms => Same_eq N mC w (by omega) (by omega)
  have C7 := fun w : Ms => rSame_eq N mC w (by omega) (by omega)
  have Z := rSame_eq N z z (by omega) (by omega)
  rw [dT rfl] at Z
  rw [h1, obind_s]
  obtain ⟨kB, fB, tB, iB, eB, aB, ppB, loB, hiB, sB⟩ := mB
  simp only
  rw [k1, obind_s]
  obtain ⟨kC, fC, tC, iC, eC, aC, ppC, loC, hiC, sC⟩ := mC
  obtain ⟨kz, fz, tz, iz, ez, az, pz', loz, hiz, sz⟩ := z
  simp only [A1, A2, A3, A4, A5, A6, A7, B1, B2, B3, B4, B5, B6, B7, B8, C1, C2, C3, C4, C5, C6, C7, T1, T2, Z, obind_s, cnd_t, cnd_f, selim_l, beq_self_eq_true, Bool.not_true]
def NN : Nat := 1000
theorem law_true (y0 : Int × Int × Int × Int × Int × Int × (List Int) × Int × Int × List UInt8) (y1 : List Int) (y2 : List Int) (h0 : Twf (.agg (.pair (.int .i64) (.pair (.int .i64) (.pair (.int .i64) (.pair (.int .i64) (.pair (.int .i64) (.pair (.int .i64) (.pair (.list (.int .i64)) (.pair (.int .i64) (.pair (.int .i64) .str)))))))))) y0) (h1 : Twf (.list (.int .u8)) y1) (h2 : Twf (.list (.int .u8)) y2) : W_law12_MsgAll NN (y0, y1, y2) = some true :=
  law_aux NN (Nat.le_refl _) y0 y1 y2 h1.2 h2.2

theorem spec (y0 : Int × Int × Int × Int × Int × Int × (List Int) × Int × Int × List UInt8) (y1 : List Int) (y2 : List Int) (h0 : Twf (.agg (.pair (.int .i64) (.pair (.int .i64) (.pair (.int .i64) (.pair (.int .i64) (.pair (.int .i64) (.pair (.int .i64) (.pair (.list (.int .i64)) (.pair (.int .i64) (.pair (.int .i64) .str)))))))))) y0) (h1 : Twf (.list (.int .u8)) y1) (h2 : Twf (.list (.int .u8)) y2) : Spec2 P0 3 [valW (.agg (.pair (.int .i64) (.pair (.int .i64) (.pair (.int .i64) (.pair (.int .i64) (.pair (.int .i64) (.pair (.int .i64) (.pair (.list (.int .i64)) (.pair (.int .i64) (.pair (.int .i64) .str)))))))))) y0, valW (.list (.int .u8)) y1, valW (.list (.int .u8)) y2] [] (.bs true) [] [] := (con_law12_MsgAll_ok NN).2 (y0, y1, y2) true (law_true y0 y1 y2 h0 h1 h2)
theorem lifted (os : Os) (started : os.Started) (H : Type) (enc : TypeId × Value → H) :
    ReturnsInHanded {} Try.checked os 3 .any (Rows.msgAllSpec.pre6 enc Try.prog Try.f3 Rows.msgAllRow.domain false) (Rows.msgAllSpec.post enc Try.prog Try.f3 false true false false) := by
  refine returnsInHanded_of_change (C := Try.checked) own started (by kernel_rfl) Try.func3
    (ChangeSpec.witness6 (enc := enc) (C := Try.checked) false ⟨#[], #[.agg #[.int .i64 0, .int .i64 0, .int .i64 0, .int .i64 0, .int .i64 0, .int .i64 0, .slice none 0 0, .int .i64 0, .int .i64 0, .string ⟨#[]⟩], .slice none 0 0, .slice none 0 0], []⟩ 8 (by kernel_rfl) (by kernel_rfl) (by kernel_rfl) (by kernel_rfl)) ?_
  intro W base args ds gs before hval0 hW hcnd _
  have hval : ∀ (j : Nat) t v, Try.f3.params[j]? = some t → args[j]? = some v → Value.okWide Try.prog W .any base t v := hval0
  have hW' := hW
  obtain ⟨p, q, hA0, hV, rfl, hfz, hnd⟩ := hW
  have hA : DataW.TrodAll enc Try.prog W 0 (fun _ => true) true Try.f3.params.toList args.toList ds p := hA0
  rw [Try.params3] at hA hval
  obtain ⟨v0, vs0, d0, ds0, p0, q0, hargs, rfl, rfl, h0, r0⟩ := trodAll_cons hA
  obtain ⟨v1, vs1, d1, ds1, p1, q1, rfl, rfl, rfl, h1, r1⟩ := trodAll_cons r0
  obtain ⟨v2, vs2, d2, ds2, p2, q2, rfl, rfl, rfl, h2, r2⟩ := trodAll_cons r1
  obtain ⟨rfl, rfl, rfl⟩ := trodAll_nil r2
  obtain rfl : args = #[v0, v1, v2] := by cases args; simp_all
  obtain ⟨rfl, rfl⟩ := trodVars_none hV
  have k0 := h0
  have lt0 : ∀ x ∈ p0, x.block < W.heap.size := by obtain ⟨m, hm⟩ := k0; exact DataW.trod_lt m _ _ _ hm
  obtain ⟨y0, rp0, wf0⟩ := arg_ok (n := 12) (ty := (.agg (.pair (.int .i64) (.pair (.int .i64) (.pair (.int .i64) (.pair (.int .i64) (.pair (.int .i64) (.pair (.int .i64) (.pair (.list (.int .i64)) (.pair (.int .i64) (.pair (.int .i64) .str))))))))))) (by kernel_rfl) (hval 0 _ v0 rfl rfl) h0
  have k1 := h1
  have lt1 : ∀ x ∈ p1, x.block < W.heap.size := by obtain ⟨m, hm⟩ := k1; exact DataW.trod_lt m _ _ _ hm
  obtain ⟨y1, rp1, wf1⟩ := arg_ok (n := 12) (ty := (.list (.int .u8))) (by kernel_rfl) (hval 1 _ v1 rfl rfl) h1
  have k2 := h2
  have lt2 : ∀ x ∈ p2, x.block < W.heap.size := by obtain ⟨m, hm⟩ := k2; exact DataW.trod_lt m _ _ _ hm
  obtain ⟨y2, rp2, wf2⟩ := arg_ok (n := 12) (ty := (.list (.int .u8))) (by kernel_rfl) (hval 2 _ v2 rfl rfl) h2
  clear hA0 hval0
  refine (law_of2 (spec y0 y1 y2 wf0 wf1 wf2) W #[v0, v1, v2] (.cons rp0 (.cons rp1 (.cons rp2 .nil)))).mono fun e W' ⟨he, bel⟩ => ?_
  subst he
  exact ⟨_, rfl, _, _, _, [], _, [], hW', trodAll_mk1 (shut_bool Try.underlying4 _), (trodAll_cons_mk (Below.trod laidOut (by kernel_rfl) (of_decide_eq_true (by kernel_rfl)) k0 bel lt0) (trodAll_cons_mk (Below.trod laidOut (by kernel_rfl) (of_decide_eq_true (by kernel_rfl)) k1 bel lt1) (trodAll_cons_mk (Below.trod laidOut (by kernel_rfl) (of_decide_eq_true (by kernel_rfl)) k2 bel lt2) trodAll_mk0))), rfl, bel.frame _, fun h => by cases h⟩

theorem over : Rows.msgAllRow.holds Try.pinned (OpenSpec.ofChange Rows.msgAllSpec) :=
  OpenClaim.holds_of_wide 3 Try.f3 rfl rfl rfl rfl rfl rfl rfl ⟨rfl, rfl, rfl, rfl, rfl⟩ rfl rfl rfl rfl rfl (by kernel_rfl) Try.func3 (by kernel_rfl)
    (of_decide_eq_true (by kernel_rfl)) (by unfold Func.isWrapper; first | (rw [if_pos (by decide +kernel)]; kernel_rfl) | (rw [if_neg (by decide +kernel)]; exact ⟨rfl, rfl⟩))
    (fun os started H enc _ => lifted os started H enc)

theorem holds : Rows.MsgAllSaid := over
end Go.Proofs.Ytfgceflanjeejaa.msgAllX
