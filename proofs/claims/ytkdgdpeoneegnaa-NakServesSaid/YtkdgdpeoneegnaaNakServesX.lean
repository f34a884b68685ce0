/- NakServes: for all arguments the call returns true. The law is brought to a function of Lean's own (W_..) by the machine of the texts beside it, and that is reckoned; no condition. -/
import Derived.Test.YtkdgdpeoneegnaaNakServesW0
namespace Go.Proofs.Ytkdgdpeoneegnaa.nakServesX
open Go.Abs Go.RowKit Go.ChangeShapes Go.WideShapes Go.ChangeAt
set_option maxRecDepth 100000
set_option linter.unusedVariables false
set_option linter.unusedSimpArgs false
/-! What is reckoned. -/
-- PURE
theorem wr_m {z : Int} (h : -140737488355328 ≤ z) (h2 : z ≤ 140737488355328) : wr .i64 z = z := wr_i64 (by omega) (by omega)
abbrev It := Int × List UInt8
abbrev iD : It := ((0 : Int), ([] : List UInt8))
def addR (l : List It) (e : It) : List It := if 6 ≤ l.length then (l ++ [e]).drop 1 else l ++ [e]
theorem addR_len (l : List It) (e : It) (hl : l.length ≤ 6) : (addR l e).length = min (l.length + 1) 6 := by
  unfold addR
  split <;> simp <;> omega
theorem addR_get (l : List It) (e : It) (hl : l.length ≤ 6) (j : Nat) (hj : j < (addR l e).length) : (addR l e).getD j iD = if j + 1 = (addR l e).length then e else l.getD (j + (l.length + 1 - (addR l e).length)) iD := by
  have h := addR_len l e hl
  rw [h] at hj ⊢
  unfold addR
  split
  · rename_i h6
    have h7 : l.length = 6 := by omega
    rw [List.getD_eq_getElem?_getD, List.getElem?_drop, h7]
    by_cases c : j + 1 = 6
    · rw [if_pos (by omega), List.getElem?_append_right (by omega), show 1 + j - l.length = 0 by omega]; rfl
    · rw [if_neg (by omega), List.getElem?_append_left (by omega), List.getD_eq_getElem?_getD]; congr 2; omega
  · rename_i h6
    rw [List.getD_eq_getElem?_getD]
    by_cases c : j = l.length
    · rw [if_pos (by omega), List.getElem?_append_right (by omega), c, Nat.sub_self]; rfl
    · rw [if_neg (by omega), List.getElem?_append_left (by omega), List.getD_eq_getElem?_getD]; congr 2; omega
abbrev Ev := Int × Int × Int × List UInt8 × Int
theorem cnd_T {α : Type} {p : Prop} {i : Decidable p} {x y : α} (h : p) : cnd (@decide p i) x y = x := by rw [decide_eq_true h]; rfl
theorem rTell (N : Nat) (a : List Ev) (n : Int) (t : List UInt8) (hl : a.length ≤ 1000) : W_ref13_Tell N (a, n, t) = some (a ++ [(1, n, n, t, 0)]) := by
  unfold W_ref13_Tell
  simp only
  rw [cnd_T (by omega), cnd_T (by simp only [List.length_cons, List.length_nil]; omega)]
theorem cut1 (l : List It) (h : 1 ≤ l.length) : List.drop ((0 : Nat) + (cutT (0 : Nat) l.length l.length (some (1 : Int)) none).2.1) (List.take ((0 : Nat) + (cutT (0 : Nat) l.length l.length (some (1 : Int)) none).2.1 + ((cutT (0 : Nat) l.length l.length (some (1 : Int)) none).2.2 - (cutT (0 : Nat) l.length l.length (some (1 : Int)) none).2.1)) l) = l.drop 1 := by
  simp only [cutT, Option.getD_some, Option.getD_none]
  have e : (1 : Int).toNat = 1 := rfl
  rw [e, show 0 + 1 + (l.length - 1) = l.length by omega, List.take_length]
theorem rAdd_eq (N : Nat) (l : List It) (e : It) (hl : l.length ≤ 6) (hs : ∀ h : 0 < l.length, (l.getD (l.length - 1) iD).1 < e.1) : W_ref13_AddRing N (l, e.1, e.2) = some (addR l e) := by
  unfold W_ref13_AddRing
  simp only [Option.getD_some]
  rw [cnd_T (by omega)]
  have tail : cnd (decide ((List.length l + List.length [(e.1, e.2)]) * (24 : Nat) ≤ (140737488355328 : Nat)))
          (cnd (decide ((6 : Int) < (↑(List.length (l ++ [(e.1, e.2)])) : Int)))
            (cnd (decide ((1 : Int) ≤ (↑(List.length (l ++ [(e.1, e.2)])) : Int))) (some (List.drop ((0 : Nat) + (cutT (0 : Nat) (l ++ [(e.1, e.2)]).length (l ++ [(e.1, e.2)]).length (some (1 : Int)) none).2.1) (List.take ((0 : Nat) + (cutT (0 : Nat) (l ++ [(e.1, e.2)]).length (l ++ [(e.1, e.2)]).length (some (1 : Int)) none).2.1 + ((cutT (0 : Nat) (l ++ [(e.1, e.2)]).length (l ++ [(e.1, e.2)]).length (some (1 : Int)) none).2.2 - (cutT (0 : Nat) (l ++ [(e.1, e.2)]).length (l ++ [(e.1, e.2)]).length (some (1 : Int)) none).2.1)) (l ++ [(e.1, e.2)])))) none)
            (some (l ++ [(e.1, e.2)])))
          none = some (addR l e) := by
    rw [dT (by simp only [List.length_singleton]; omega), cnd_t]
    unfold addR
    by_cases h6 : 6 ≤ l.length
    · rw [dT (by simp only [List.length_append, List.length_singleton]; omega), cnd_t, if_pos h6, dT (by simp only [List.length_append, List.length_singleton]; omega), cnd_t, cut1 _ (by simp)]
    · rw [dF (by simp only [List.length_append, List.length_singleton]; omega), cnd_f, if_neg h6]
  by_cases h0 : (0 : Int) < l.length
  · have w1 : wr .i64 ((l.length : Int) - 1) = ((l.length - 1 : Nat) : Int) := by rw [wr_m (by omega) (by omega)]; omega
    have h1 := hs (by omega)
    rw [dT h0, cnd_t, w1, dT (by omega), dT (by omega), Bool.and_self, cnd_t, Int.toNat_natCast, dF (by show ¬ e.1 ≤ (l.getD (l.length - 1) iD).1; omega), cnd_f]
    exact tail
  · rw [dF h0, cnd_f]
    exact tail
abbrev Fd := Int × Int × List It × List It × List Ev × Int × Int
theorem loopG {σ ρ : Type} {f : σ → Option (σ ⊕ ρ)} (I : Nat → σ → Prop) (B : Nat) (J : ρ → Prop) (hb : ∀ k x, I k x → k ≤ B) (hs : ∀ k x, I k x → (∃ y, f x = some (.inl y) ∧ I (k + 1) y) ∨ ∃ r, f x = some (.inr r) ∧ J r) :
    ∀ (M k : Nat) (x : σ), I k x → B < M + k → ∃ r, loopN M f x = some r ∧ J r
  | 0, k, x, h, hm => by have := hb k x h; omega
  | M + 1, k, x, h, hm => by
    rcases hs k x h with ⟨y, h1, h2⟩ | ⟨r, h1, h2⟩
    · obtain ⟨r, h4, h5⟩ := loopG I B J hb hs M (k + 1) y h2 (by omega)
      exact ⟨r, by simp only [loopN, h1]; exact h4, h5⟩
    · exact ⟨r, by simp only [loopN, h1], h2⟩
theorem loop_G {σ ρ β : Type} {f : σ → Option (σ ⊕ ρ)} {g : ρ → Option β} {x : σ} {N : Nat} (Q : Option β → Prop) (I : Nat → σ → Prop) (B : Nat) (J : ρ → Prop) (hx : I 0 x) (hm : B < N) (hk : ∀ r, J r → Q (g r)) (hb : ∀ k x, I k x → k ≤ B)
    (hs : ∀ k x, I k x → (∃ y, f x = some (.inl y) ∧ I (k + 1) y) ∨ ∃ r, f x = some (.inr r) ∧ J r) : Q (obind (loopN N f x) g) := by
  obtain ⟨r, h1, h2⟩ := loopG I B J hb hs N 0 x hx (by omega)
  rw [h1]; exact hk r h2
theorem wr_s {z : Int} (h : 0 ≤ z) (h2 : z ≤ 140737488355328) : wr .i64 z = z := wr_i64 (by omega) (by omega)
theorem getD_mem {l : List Int} {j : Nat} (h : j < l.length) : l.getD j 0 ∈ l := by
  rw [List.getD_eq_getElem?_getD, List.getElem?_eq_getElem h]; exact List.getElem_mem h
/-- What a row has under a number. -/
def getF : List It → Int → List UInt8 × Bool
  | [], _ => ([], false)
  | w :: r, s => if w.1 = s then (w.2, true) else getF r s
theorem drop_consI {l : List It} {i : Nat} (h : i < l.length) : l.drop i = l.getD i iD :: l.drop (i + 1) := by
  rw [List.drop_eq_getElem_cons h, List.getD_eq_getElem?_getD, List.getElem?_eq_getElem h]; rfl
theorem rGet_eq (N : Nat) (l : List It) (s : Int) (hN : 2000 ≤ N) (hl : l.length ≤ 1000) : W_ref13_Get N (l, s) = some (getF l s) := by
  unfold W_ref13_Get
  simp only
  refine loop_G (N := N) (fun o => o = some (getF l s)) (fun k (v : Int) => v = k ∧ k ≤ l.length ∧ getF (l.drop k) s = getF l s) l.length (fun r : PUnit ⊕ List UInt8 × Bool => (r = .inl () ∧ getF l s = ([], false)) ∨ r = .inr (getF l s)) ⟨rfl, by omega, rfl⟩ (by omega) ?_ (fun k v h => h.2.1) ?_
  · rintro r (⟨rfl, h⟩ | rfl)
    · rw [selim_l, h]
    · rw [selim_r]
  · rintro k v ⟨e, hk, hg⟩
    subst e
    by_cases c : (k : Int) < l.length
    case neg =>
      right
      rw [dF c, cnd_f]
      rw [List.drop_eq_nil_of_le (by omega)] at hg
      exact ⟨_, rfl, .inl ⟨rfl, hg.symm⟩⟩
    rw [drop_consI (by omega)] at hg
    simp only [getF] at hg
    rw [dT c, cnd_t, dT (by omega), Bool.and_self, cnd_t, Int.toNat_natCast]
    by_cases c2 : (l.getD k iD).1 = s
    · right
      rw [if_pos c2] at hg
      rw [dT c2, cnd_t, cnd_t]
      exact ⟨_, rfl, .inr (by rw [← hg])⟩
    · left
      rw [if_neg c2] at hg
      rw [dF c2, cnd_f, wr_m (by omega) (by omega)]
      exact ⟨_, rfl, by omega, by omega, hg⟩
/-- Rising from n on, up to K. -/
def Wk (n K : Int) : List It → Prop
  | [] => True
  | w :: r => n ≤ w.1 ∧ w.1 ≤ K ∧ Wk (w.1 + 1) K r
theorem Wk.mono : ∀ {l : List It} {n n' K K' : Int}, Wk n K l → n' ≤ n → K ≤ K' → Wk n' K' l
  | [], _, _, _, _, _, _, _ => trivial
  | w :: r, n, n', K, K', h, h1, h2 => ⟨by have := h.1; omega, by have := h.2.1; omega, h.2.2.mono (Int.le_refl _) h2⟩
def insW (x : It) : List It → List It
  | [] => [x]
  | w :: r => if x.1 < w.1 then x :: w :: r else w :: insW x r
theorem insW_len (x : It) : ∀ l, (insW x l).length = l.length + 1
  | [] => rfl
  | w :: r => by
    simp only [insW]
    split
    · rfl
    · simp only [List.length_cons, insW_len x r]
theorem Wk.ins : ∀ {l : List It} {n K : Int} {x : It}, Wk n K l → n ≤ x.1 → x.1 ≤ K → (getF l x.1).2 = false → Wk n K (insW x l)
  | [], n, K, x, _, h1, h2, _ => ⟨h1, h2, trivial⟩
  | w :: r, n, K, x, h, h1, h2, h3 => by
    simp only [getF] at h3
    by_cases c : w.1 = x.1
    · rw [if_pos c] at h3; cases h3
    rw [if_neg c] at h3
    simp only [insW]
    split
    · exact ⟨h1, h2, by omega, h.2.1, h.2.2⟩
    · exact ⟨h.1, h.2.1, h.2.2.ins (by omega) h2 h3⟩
theorem PutWin_spec (N : Nat) (hN : 2000 ≤ N) (l : List It) (n K : Int) (x : It) (hl : l.length ≤ 500) (hw : Wk n K l) (hn : 1 ≤ n) (hnK : n ≤ 1000000) (hx : 1 ≤ x.1) (hxK : x.1 ≤ K) (hK : K ≤ 1000000) : ∃ l' ok, W_ref13_PutWin N (l, n, x.1, x.2) = some (l', ok) ∧ Wk n K l' ∧ l'.length ≤ l.length + 1 := by
  unfold W_ref13_PutWin
  simp only
  rw [rGet_eq N l x.1 hN (by omega), obind_s]
  by_cases c1 : x.1 < n
  · rw [dT c1, cnd_t]; exact ⟨_, _, rfl, hw, by omega⟩
  rw [dF c1, cnd_f, wr_m (by omega) (by omega)]
  by_cases c2 : 8 ≤ x.1 - n
  · rw [dT c2, cnd_t]; exact ⟨_, _, rfl, hw, by omega⟩
  rw [dF c2, cnd_f]
  cases hg : (getF l x.1).2 with
  | true => rw [cnd_t]; exact ⟨_, _, rfl, hw, by omega⟩
  | false =>
    rw [cnd_f]
    have hI := hw.ins (by omega) hxK hg
    have hIl := insW_len x l
    refine loop_G (N := N) (fun o => ∃ l' ok, o = some (l', ok) ∧ Wk n K l' ∧ l'.length ≤ l.length + 1) (fun k (v : Bool × Int × It × List It) => v.2.1 = k ∧ k ≤ l.length ∧ v.2.2.1 = x ∧ ((v.1 = false ∧ v.2.2.2 ++ insW x (l.drop k) = insW x l) ∨ (v.1 = true ∧ v.2.2.2 ++ l.drop k = insW x l))) l.length
      (fun r : Bool × It × List It => r.2.1 = x ∧ ((r.1 = false ∧ r.2.2 ++ [x] = insW x l) ∨ (r.1 = true ∧ r.2.2 = insW x l))) ⟨rfl, by omega, rfl, .inl ⟨rfl, rfl⟩⟩ (by omega) ?_ (fun k v h => h.2.1) ?_
    · rintro ⟨p, y, o⟩ ⟨rfl, h⟩
      simp only at h ⊢
      rcases h with ⟨rfl, h⟩ | ⟨rfl, rfl⟩
      · have := congrArg List.length h
        rw [hIl, List.length_append] at this
        simp only [List.length_cons, List.length_nil] at this
        rw [Bool.not_false, cnd_t, cnd_T (by simp only [List.length_cons, List.length_nil]; omega)]
        exact ⟨_, _, rfl, by rw [h]; exact hI, by rw [h, hIl]; omega⟩
      · rw [Bool.not_true, cnd_f]
        exact ⟨_, _, rfl, hI, by rw [hIl]; omega⟩
    · rintro k ⟨p, i, y, o⟩ ⟨e1, hk, rfl, h⟩
      simp only at e1 h ⊢
      subst e1
      by_cases c : (k : Int) < l.length
      case neg =>
        right
        rw [dF c, cnd_f]
        rw [List.drop_eq_nil_of_le (by omega)] at h
        refine ⟨_, rfl, rfl, ?_⟩
        rcases h with ⟨rfl, h⟩ | ⟨rfl, h⟩
        · exact .inl ⟨rfl, h⟩
        · rw [List.append_nil] at h; exact .inr ⟨rfl, h⟩
      left
      rw [drop_consI (by omega)] at h
      have hol : o.length ≤ l.length + 1 := by
        rcases h with ⟨_, h⟩ | ⟨_, h⟩ <;>
        · have := congrArg List.length h
          rw [hIl, List.length_append] at this
          omega
      rw [dT c, cnd_t, dT (show (0 : Int) ≤ (k : Int) by omega), Bool.and_self, cnd_t, Int.toNat_natCast, wr_m (by omega) (by omega)]
      rcases h with ⟨rfl, h⟩ | ⟨rfl, h⟩
      · rw [Bool.not_false, cnd_t]
        simp only [insW] at h
        by_cases c3 : y.1 < (l.getD k iD).1
        · rw [if_pos c3] at h
          rw [dT c3, cnd_t, cnd_T (by simp only [List.length_cons, List.length_nil]; omega), obind_s]
          simp only [cnd_t]
          refine ⟨_, cnd_T (by simp only [List.length_append, List.length_cons, List.length_nil]; omega), by simp only; omega, by omega, rfl, .inr ⟨rfl, ?_⟩⟩
          simp only [List.append_assoc]
          exact h
        · rw [if_neg c3] at h
          rw [dF c3, cnd_f, obind_s]
          simp only [cnd_t]
          refine ⟨_, cnd_T (by omega), by simp only; omega, by omega, rfl, .inl ⟨rfl, ?_⟩⟩
          simp only [List.append_assoc]
          exact h
      · rw [Bool.not_true, cnd_f, obind_s]
        simp only [cnd_t]
        refine ⟨_, cnd_T (by omega), by simp only; omega, by omega, rfl, .inr ⟨rfl, ?_⟩⟩
        simp only [List.append_assoc]
        exact h
structure Fo (K : Int) (c L : Nat) (f : Fd) : Prop where
  nx : 1 ≤ f.1 ∧ f.1 ≤ K + 1
  tp : 0 ≤ f.2.1 ∧ f.2.1 ≤ K
  rl : f.2.2.1.length ≤ 6
  last : ∀ _ : 0 < f.2.2.1.length, (f.2.2.1.getD (f.2.2.1.length - 1) iD).1 < f.1
  wk : Wk f.1 K f.2.2.2.1
  wl : f.2.2.2.1.length ≤ c
  ll : f.2.2.2.2.1.length + f.2.2.2.1.length ≤ L
theorem Fo.mono {K K' : Int} {c c' L L' : Nat} {f : Fd} (h : Fo K c L f) (h1 : K ≤ K') (h2 : c ≤ c') (h3 : L ≤ L') : Fo K' c' L' f :=
  ⟨⟨h.nx.1, by have := h.nx.2; omega⟩, ⟨h.tp.1, by have := h.tp.2; omega⟩, h.rl, h.last, h.wk.mono (Int.le_refl _) h1, Nat.le_trans h.wl h2, Nat.le_trans h.ll h3⟩
def z7 : Fd := (0, 0, [], [], [], 0, 0)
theorem TakeWin_nil (N : Nat) (n : Int) : W_ref13_TakeWin N ([], n) = some ([], false, 0, []) := by
  unfold W_ref13_TakeWin
  simp only [List.length_nil]
  rw [dT (by omega), cnd_t]
theorem TakeWin_no (N : Nat) (w : It) (r : List It) (n : Int) (h : w.1 ≠ n) : W_ref13_TakeWin N (w :: r, n) = some (w :: r, false, 0, []) := by
  unfold W_ref13_TakeWin
  simp only [List.length_cons]
  rw [dF (by omega), cnd_f, dT (by omega), dT (by omega), Bool.and_self, cnd_t]
  have e : (List.getD (w :: r) 0 ((0 : Int), ([] : List UInt8))) = w := rfl
  rw [e, dT h, cnd_t]
theorem TakeWin_yes (N : Nat) (w : It) (r : List It) (hr : r.length ≤ 1000) : W_ref13_TakeWin N (w :: r, w.1) = some (r, true, w.1, w.2) := by
  unfold W_ref13_TakeWin
  simp only [List.length_cons]
  have e : (List.getD (w :: r) 0 ((0 : Int), ([] : List UInt8))) = w := rfl
  have e2 : List.drop 1 (List.take (r.length + 1) (w :: r)) = r := by simp
  rw [dF (by omega), cnd_f, dT (by omega), dT (by omega), Bool.and_self, cnd_t, e, dF (fun q => q rfl), cnd_f, dT (by omega), dT (by omega), Bool.and_self, cnd_t, cnd_T (by rw [e2]; omega), cnd_t, e2]
theorem Goes_spec (N : Nat) (hN : 2000 ≤ N) {K : Int} {c L : Nat} {f : Fd} (h : Fo K c L f) (hK : K ≤ 100000) (hc : c ≤ 100) (hL : L ≤ 900) : ∃ o f', W_ref13_Goes N f = some (o, f') ∧ Fo K c L f' ∧ Wk (f'.1 + 1) K f'.2.2.2.1 ∧ f.1 ≤ f'.1 ∧ f'.2.2.2.1.length ≤ f.2.2.2.1.length ∧
    (∀ w r, f.2.2.2.1 = w :: r → w.1 = f.1 → f.1 < f'.1 ∧ f'.2.2.2.1.length < f.2.2.2.1.length) := by
  have hnx0 := h.nx
  have hwl0 := h.wl
  obtain ⟨nx, tp, R, Wn, Lg, a, b⟩ := f
  unfold W_ref13_Goes
  simp only at hnx0 hwl0 ⊢
  refine loop_G (N := N) (x := ((nx, tp, R, Wn, Lg, a, b), z7, [])) (fun q => ∃ o f', q = some (o, f') ∧ Fo K c L f' ∧ Wk (f'.1 + 1) K f'.2.2.2.1 ∧ nx ≤ f'.1 ∧ f'.2.2.2.1.length ≤ Wn.length ∧ (∀ w r, Wn = w :: r → w.1 = nx → nx < f'.1 ∧ f'.2.2.2.1.length < Wn.length))
    (fun k (v : Fd × Fd × List It) => v.2.1 = z7 ∧ v.2.2.length = k ∧ Fo K c L v.1 ∧ v.1.1 = nx + k ∧ v.1.2.2.2.1.length + k = Wn.length ∧ (k = 0 → v.1.2.2.2.1 = Wn)) Wn.length
    (fun r : List It × Fd => Fo K c L r.2 ∧ Wk (r.2.1 + 1) K r.2.2.2.2.1 ∧ nx ≤ r.2.1 ∧ r.2.2.2.2.1.length ≤ Wn.length ∧ (∀ w r', Wn = w :: r' → w.1 = nx → nx < r.2.1 ∧ r.2.2.2.2.1.length < Wn.length)) ⟨rfl, rfl, h, by simp, by simp, fun _ => rfl⟩ (by omega) ?_ (fun k v h => by have := h.2.2.2.2.1; omega) ?_
  · rintro ⟨o, n', t', R', W', L', a', b'⟩ hr
    exact ⟨_, _, rfl, hr⟩
  · rintro k ⟨⟨n', t', R', W', L', a', b'⟩, z, o⟩ ⟨rfl, hol, hf, hn, hwk, h0⟩
    have hnx := hf.nx; have hwl := hf.wl; have hll := hf.ll; have hwk2 := hf.wk; have hrl := hf.rl; have hlast := hf.last
    simp only at hol hn hwk h0 hnx hwl hll hwk2 hrl ⊢
    cases W' with
    | nil =>
      right
      rw [TakeWin_nil, obind_s]
      simp only [Bool.not_false, cnd_t]
      refine ⟨_, rfl, hf, trivial, by simp only; omega, by simp, fun w r e q => ?_⟩
      have : k ≠ 0 := fun q => by have := h0 q; rw [e] at this; cases this
      simp only [List.length_nil] at hwk ⊢
      omega
    | cons w r =>
      obtain ⟨g1, g2, g3⟩ := hwk2
      simp only [List.length_cons] at hwl hll hwk
      by_cases cw : w.1 = n'
      · left
        subst cw
        rw [TakeWin_yes N w r (by omega), obind_s]
        simp only [Bool.not_true, cnd_f]
        rw [rTell N L' w.1 w.2 (by omega), obind_s, rAdd_eq N R' (w.1, w.2) hrl hlast, obind_s]
        have hal := addR_len R' (w.1, w.2) hrl
        refine ⟨_, cnd_T (by simp only [List.length_cons, List.length_nil]; omega), rfl, by simp [hol], ?_, by simp only; rw [wr_m (by omega) (by omega)]; omega, by simp only; omega, fun q => by omega⟩
        rw [wr_m (by omega) (by omega)]
        refine ⟨⟨by simp only; omega, by simp only; omega⟩, hf.tp, by simp only; omega, fun q => ?_, g3, by simp only; omega, by simp only [List.length_append, List.length_cons, List.length_nil]; omega⟩
        simp only at q ⊢
        rw [addR_get _ _ hrl _ (by omega), if_pos (by omega)]
        simp only
        omega
      · right
        rw [TakeWin_no N w r n' cw, obind_s]
        simp only [Bool.not_false, cnd_t]
        refine ⟨_, rfl, hf, ⟨by simp only; omega, g2, g3⟩, by simp only; omega, by simp only [List.length_cons]; omega, fun w2 r2 e q => ?_⟩
        have : k ≠ 0 := fun q0 => by
          have := h0 q0
          rw [e] at this
          injection this with e1 _
          apply cw
          rw [e1]; omega
        simp only [List.length_cons]
        omega
theorem First_nil (N : Nat) : W_ref13_First N [] = some 0 := by
  unfold W_ref13_First
  rw [dT (by simp), cnd_t]
theorem First_cons (N : Nat) (w : It) (r : List It) : W_ref13_First N (w :: r) = some w.1 := by
  unfold W_ref13_First
  simp only [List.length_cons]
  rw [dF (by omega), cnd_f, dT (by omega), dT (by omega), Bool.and_self, cnd_t]
  rfl
theorem rSkip_eq (N : Nat) (a : List Ev) (lo hi why : Int) (hl : a.length ≤ 1000) : W_ref13_Skip N (a, lo, hi, why) = some (a ++ [(2, lo, hi, [], why)]) := by
  unfold W_ref13_Skip
  simp only
  rw [cnd_T (by omega), cnd_T (by omega)]
theorem Skips_spec (N : Nat) (hN : 2000 ≤ N) {K : Int} {c L : Nat} {f : Fd} (h : Fo K c L f) (hK : K ≤ 100000) (hc : c ≤ 100) (hL : L ≤ 700) (hi why : Int) (hh : hi ≤ K) : ∃ o f', W_ref13_Skips N (f, hi, why) = some (o, f') ∧ Fo K c (L + c + 1) f' := by
  have hnx0 := h.nx
  have hwl0 := h.wl
  obtain ⟨nx, tp, R, Wn, Lg, a, b⟩ := f
  unfold W_ref13_Skips
  simp only at hnx0 hwl0 ⊢
  rw [dF (by omega), cnd_f, dF (by omega), cnd_f]
  refine loop_G (N := N) (x := ((nx, tp, R, Wn, Lg, a, b), z7, [])) (fun q => ∃ o f', q = some (o, f') ∧ Fo K c (L + c + 1) f')
    (fun k (v : Fd × Fd × List (Int × Int)) => v.2.1 = z7 ∧ v.2.2.length ≤ k ∧ Fo K c (L + k) v.1 ∧ k ≤ Wn.length + 1 ∧ (v.1.1 ≤ hi → v.1.2.2.2.1.length + k ≤ Wn.length)) (Wn.length + 1)
    (fun r : List (Int × Int) × Fd × Fd => Fo K c (L + c + 1) r.2.1) ⟨rfl, by simp, h, by omega, fun _ => by simp⟩ (by omega) ?_ (fun k v h => h.2.2.2.1) ?_
  · rintro ⟨o, ⟨n', t', R', W', L', a', b'⟩, z⟩ hr
    exact ⟨_, _, rfl, hr⟩
  · rintro k ⟨⟨n', t', R', W', L', a', b'⟩, z, o⟩ ⟨rfl, hol, hf, hk, hm⟩
    have hnx := hf.nx; have hwl := hf.wl; have hll := hf.ll; have hwk2 := hf.wk; have hrl := hf.rl; have hlast := hf.last; have htp := hf.tp
    simp only at hol hnx hwl hll hwk2 hrl hlast hm htp ⊢
    by_cases cn : n' ≤ hi
    case neg =>
      right
      rw [dF cn, cnd_f]
      exact ⟨_, rfl, hf.mono (Int.le_refl _) (Nat.le_refl _) (by omega)⟩
    left
    have hm := hm cn
    rw [dT cn, cnd_t]
    -- where nothing is ahead
    have far : (∀ n, n ≤ hi + 1 → Wk n K W' → Wk (hi + 1) K W') → Wk n' K W' → (∃ y : Fd × Fd × List (Int × Int), (obind (some (hi, ((n', t', R', W', L', (0 : Int), (0 : Int)) : Fd), z7, o)) fun (b : Int × Fd × Fd × List (Int × Int)) => obind (cnd (decide (b.2.1.1 ≤ b.1)) (obind (W_ref13_Skip N (b.2.1.2.2.2.2.1, b.2.1.1, b.1, why)) fun (b_1 : List Ev) => cnd (decide ((List.length b.2.2.2 + List.length [(b.2.1.1, b.1)]) * (16 : Nat) ≤ (140737488355328 : Nat))) (some (((wr .i64 (b.1 + 1), b.2.1.2.1, b.2.1.2.2.1, b.2.1.2.2.2.1, b_1, b.2.1.2.2.2.2.2.1, b.2.1.2.2.2.2.2.2) : Fd), b.2.2.1, b.2.2.2 ++ [(b.2.1.1, b.1)])) none) (some (b.2.1, b.2.2.1, b.2.2.2))) fun (b : Fd × Fd × List (Int × Int)) => cnd (decide (b.1.1 ≤ hi)) (obind (W_ref13_Goes N b.1) fun (b_1 : List It × Fd) => some (Sum.inl (b_1.2, b.2.1, b.2.2))) (some (Sum.inl (b.1, b.2.1, b.2.2)))) = some (.inl y : (Fd × Fd × List (Int × Int)) ⊕ (List (Int × Int) × Fd × Fd)) ∧ y.2.1 = z7 ∧ y.2.2.length ≤ k + 1 ∧ Fo K c (L + (k + 1)) y.1 ∧ k + 1 ≤ Wn.length + 1 ∧ (y.1.1 ≤ hi → y.1.2.2.2.1.length + (k + 1) ≤ Wn.length)) := by
      intro hq hw
      rw [obind_s]
      simp only
      rw [dT cn, cnd_t, rSkip_eq N L' n' hi why (by omega), obind_s, cnd_T (by simp only [List.length_cons, List.length_nil]; omega), obind_s, wr_m (by omega) (by omega)]
      simp only
      rw [dF (by omega), cnd_f]
      refine ⟨_, rfl, rfl, by simp only [List.length_append, List.length_cons, List.length_nil]; omega, ⟨⟨by simp only; omega, by simp only; omega⟩, htp, hrl, fun q => by have := hlast q; simp only; omega, hq n' (by omega) hw, hwl, by simp only [List.length_append, List.length_cons, List.length_nil]; omega⟩, by omega, fun q => by simp only at q; omega⟩
    cases W' with
    | nil =>
      rw [dF (by simp), cnd_f]
      exact far (fun _ _ _ => trivial) trivial
    | cons w r =>
      obtain ⟨g1, g2, g3⟩ := hwk2
      simp only [List.length_cons] at hwl hll hm
      rw [dT (by simp only [List.length_cons]; omega), cnd_t, First_cons, obind_s]
      by_cases cf : w.1 ≤ hi
      case neg =>
        rw [dF cf, cnd_f]
        exact far (fun _ _ h => ⟨by omega, h.2.1, h.2.2⟩) ⟨g1, g2, g3⟩
      rw [dT cf, cnd_t, obind_s, obind_s, wr_m (z := w.1 - 1) (by omega) (by omega)]
      simp only
      -- a feed that has come to the first one
      have near : ∀ (Lq : List Ev) (oq : List (Int × Int)), Lq.length ≤ L'.length + 1 → oq.length ≤ k + 1 → (∃ y : Fd × Fd × List (Int × Int), (cnd (decide (w.1 ≤ hi)) (obind (W_ref13_Goes N (w.1, t', R', w :: r, Lq, (0 : Int), (0 : Int))) fun (b_1 : List It × Fd) => some (Sum.inl (b_1.2, z7, oq))) (some (Sum.inl (((w.1, t', R', w :: r, Lq, (0 : Int), (0 : Int)) : Fd), z7, oq)))) = some (.inl y : (Fd × Fd × List (Int × Int)) ⊕ (List (Int × Int) × Fd × Fd)) ∧ y.2.1 = z7 ∧ y.2.2.length ≤ k + 1 ∧ Fo K c (L + (k + 1)) y.1 ∧ k + 1 ≤ Wn.length + 1 ∧ (y.1.1 ≤ hi → y.1.2.2.2.1.length + (k + 1) ≤ Wn.length)) := by
        intro Lq oq hLq hoq
        have hF : Fo K c (L + (k + 1)) (w.1, t', R', w :: r, Lq, 0, 0) := ⟨⟨by simp only; omega, by simp only; omega⟩, htp, hrl, fun q => by have := hlast q; simp only; omega, ⟨Int.le_refl _, g2, g3⟩, by simp only [List.length_cons]; omega, by simp only [List.length_cons]; omega⟩
        obtain ⟨o', f', e1, e2, e3, e4, e5, e6⟩ := Goes_spec N hN hF hK hc (by omega)
        obtain ⟨e7, e8⟩ := e6 w r rfl rfl
        simp only [List.length_cons] at e8
        rw [dT cf, cnd_t, e1, obind_s]
        exact ⟨_, rfl, rfl, hoq, e2, by omega, fun _ => by simp only; omega⟩
      by_cases cg : n' ≤ w.1 - 1
      · rw [dT cg, cnd_t, rSkip_eq N L' n' (w.1 - 1) why (by omega), obind_s, cnd_T (by simp only [List.length_cons, List.length_nil]; omega), obind_s, wr_m (by omega) (by omega)]
        simp only
        rw [show w.1 - 1 + 1 = w.1 by omega]
        exact near (L' ++ [(2, n', w.1 - 1, [], why)]) (o ++ [(n', w.1 - 1)]) (by simp) (by simp only [List.length_append, List.length_cons, List.length_nil]; omega)
      · have e : n' = w.1 := by omega
        subst e
        rw [dF cg, cnd_f, obind_s]
        exact near L' o (by omega) (by omega)
theorem Num_eq (N : Nat) (m : Int) (l : List Int) (n : Int) (hm : 1 ≤ m) (hn : 0 ≤ n) (hn2 : n ≤ 1000000) (hel : ∀ x ∈ l, 0 ≤ x ∧ x ≤ 255) : ∃ k n', W_Picks_Num N (m, l, n) = some (k, l, n') ∧ 0 ≤ k ∧ k < m ∧ n ≤ n' ∧ n' ≤ n + 1 := by
  unfold W_Picks_Num
  simp only
  by_cases h : (l.length : Int) ≤ n
  · rw [dT h, cnd_t]; exact ⟨_, _, rfl, by omega, by omega, by omega, by omega⟩
  rw [dF h, cnd_f, dF (by omega), cnd_f, wr_s (z := n + 1) (by omega) (by omega), wr_s (z := n + 1 - 1) (by omega) (by omega), dT (by omega), dT (by omega), Bool.and_self, cnd_t, dF (by omega), Bool.not_false, cnd_t]
  have hb := hel (l.getD (n + 1 - 1).toNat 0) (getD_mem (by omega))
  rw [wr_s (by omega) (by omega), Int.tmod_eq_emod_of_nonneg (by omega)]
  exact ⟨_, _, rfl, Int.emod_nonneg _ (by omega), Int.emod_lt_of_pos _ (by omega), by omega, by omega⟩
theorem Knows_spec (N : Nat) {K : Int} {c L : Nat} {f : Fd} (h : Fo K c L f) (t : Int) (ht : t ≤ K) : ∃ f', W_ref13_Knows N (f, t) = some f' ∧ Fo K c L f' ∧ f'.1 = f.1 := by
  have hnx := h.nx
  have htp := h.tp
  obtain ⟨nx, tp, R, Wn, Lg, a, b⟩ := f
  unfold W_ref13_Knows
  simp only at hnx htp ⊢
  rw [dT (by omega), cnd_t]
  by_cases c1 : t ≤ 1000000
  · rw [dT c1, cnd_t]
    exact ⟨_, rfl, ⟨hnx, ⟨by simp only; omega, by simp only; omega⟩, h.rl, h.last, h.wk, h.wl, h.ll⟩, rfl⟩
  · rw [dF c1, cnd_f]
    exact ⟨_, rfl, h, rfl⟩
theorem Notes_spec (N : Nat) (hN : 2000 ≤ N) {K : Int} {c L : Nat} {f : Fd} (h : Fo K c L f) (hK : K ≤ 100000) (hc : c ≤ 100) (hL : L ≤ 600) (lo hi : Int) (hh : hi ≤ K) : ∃ f', W_ref13_Notes N (f, lo, hi) = some f' ∧ Fo K c (L + c + 1) f' := by
  have h0 := h.mono (Int.le_refl _) (Nat.le_refl c) (show L ≤ L + c + 1 by omega)
  have hnx := h.nx
  have hk := Knows_spec N h hi hh
  obtain ⟨nx, tp, R, Wn, Lg, a, b⟩ := f
  unfold W_ref13_Notes
  simp only at hnx ⊢
  rw [dF (by omega), cnd_f]
  have hsp : ∃ q, W_ref1_MaySpan N (lo, hi) = some q := by
    unfold W_ref1_MaySpan
    simp only
    by_cases q1 : 1 ≤ lo
    · rw [dT q1, cnd_t, obind_s]
      simp only
      by_cases q2 : lo ≤ hi
      · rw [dT q2, cnd_t]; exact ⟨_, rfl⟩
      · rw [dF q2, cnd_f]; exact ⟨_, rfl⟩
    · rw [dF q1, cnd_f, obind_s]
      simp only
      rw [cnd_f]; exact ⟨_, rfl⟩
  obtain ⟨q, hq⟩ := hsp
  rw [hq, obind_s]
  cases q with
  | false => rw [Bool.not_false, cnd_t]; exact ⟨_, rfl, h0⟩
  | true =>
    rw [Bool.not_true, cnd_f]
    obtain ⟨f1, e1, e2, e3⟩ := hk
    have h1 := e2.mono (Int.le_refl _) (Nat.le_refl c) (show L ≤ L + c + 1 by omega)
    obtain ⟨o, f2, g1, g2⟩ := Skips_spec N hN e2 hK hc (by omega) hi 1 hh
    obtain ⟨o', f3, g3, g4, _⟩ := Goes_spec N hN g2 hK hc (by omega)
    obtain ⟨nx1, tp1, R1, W1, L1, a1, b1⟩ := f1
    obtain ⟨nx2, tp2, R2, W2, L2, a2, b2⟩ := f2
    obtain ⟨nx3, tp3, R3, W3, L3, a3, b3⟩ := f3
    rw [e1, obind_s]
    simp only
    by_cases c1 : nx1 < lo
    · rw [dT c1, cnd_t]; exact ⟨_, rfl, h1⟩
    rw [dF c1, cnd_f]
    by_cases c2 : hi < nx1
    · rw [dT c2, cnd_t]; exact ⟨_, rfl, h1⟩
    rw [dF c2, cnd_f, g1, obind_s]
    simp only
    rw [g3, obind_s]
    exact ⟨_, rfl, g4⟩
theorem Wants_spec (N : Nat) {K : Int} {c L : Nat} {f : Fd} (h : Fo K c L f) (hK : K ≤ 100000) : ∃ q s, W_ref13_Wants N f = some (q, s) ∧ s.2 ≤ K ∧ 0 ≤ K := by
  have hnx := h.nx; have htp := h.tp; have hwk := h.wk
  obtain ⟨nx, tp, R, Wn, Lg, a, b⟩ := f
  unfold W_ref13_Wants
  simp only at hnx htp hwk ⊢
  have key : ∀ hi : Int, hi ≤ K → ∃ q s, (obind (some (hi, ((nx, tp, R, Wn, Lg, a, b) : Fd), (0 : Int), (0 : Int))) fun (b : Int × Fd × Int × Int) => cnd (decide (b.2.1.1 = 0)) (some (false, (0 : Int), (0 : Int))) (cnd (decide (b.1 < b.2.1.1)) (some (false, (0 : Int), (0 : Int))) (some (true, b.2.1.1, b.1)))) = some (q, s) ∧ s.2 ≤ K ∧ 0 ≤ K := by
    intro hi hh
    rw [obind_s]
    simp only
    rw [dF (by omega), cnd_f]
    by_cases q : hi < nx
    · rw [dT q, cnd_t]; exact ⟨_, _, rfl, by simp only; omega, by omega⟩
    · rw [dF q, cnd_f]; exact ⟨_, _, rfl, hh, by omega⟩
  cases Wn with
  | nil =>
    rw [dF (by simp), cnd_f]
    exact key tp htp.2
  | cons w r =>
    obtain ⟨g1, g2, g3⟩ := hwk
    rw [dT (by simp only [List.length_cons]; omega), cnd_t, First_cons, obind_s, wr_m (by omega) (by omega)]
    exact key (w.1 - 1) (by omega)
theorem Tick_spec (N : Nat) (hN : 2000 ≤ N) {K : Int} {c L : Nat} {f : Fd} (h : Fo K c L f) (hK : K ≤ 100000) (hc : c ≤ 100) (hL : L ≤ 600) (now : Int) : ∃ q f' s, W_ref13_Tick N (f, now) = some (q, f', s) ∧ Fo K c (L + c + 1) f' := by
  have h0 := h.mono (Int.le_refl _) (Nat.le_refl c) (show L ≤ L + c + 1 by omega)
  obtain ⟨q, ⟨s1, s2⟩, w1, w2, w3⟩ := Wants_spec N h hK
  simp only at w2
  obtain ⟨o, f2, g1, g2⟩ := Skips_spec N hN h hK hc (by omega) s2 2 w2
  obtain ⟨o', f3, g3, g4, _⟩ := Goes_spec N hN g2 hK hc (by omega)
  obtain ⟨nx, tp, R, Wn, Lg, a, b⟩ := f
  obtain ⟨nx2, tp2, R2, W2, L2, a2, b2⟩ := f2
  obtain ⟨nx3, tp3, R3, W3, L3, a3, b3⟩ := f3
  unfold W_ref13_Tick
  simp only
  rw [w1, obind_s]
  cases q with
  | false => simp only [Bool.not_false, cnd_t]; exact ⟨_, _, _, rfl, h0⟩
  | true =>
    simp only [Bool.not_true, cnd_f]
    have hnow : ∃ q, W_ref1_Now N ((a, b), now) = some q := by
      unfold W_ref1_Now
      simp only
      by_cases q : a = 0
      · rw [dT q, cnd_t]; exact ⟨_, rfl⟩
      · rw [dF q, cnd_f]; exact ⟨_, rfl⟩
    obtain ⟨q2, hq2⟩ := hnow
    rw [hq2, obind_s]
    cases q2 with
    | false => simp only [Bool.not_false, cnd_t]; exact ⟨_, _, _, rfl, h0⟩
    | true =>
      simp only [Bool.not_true, cnd_f]
      by_cases c3 : 3 ≤ a
      · rw [dT c3, cnd_t, g1, obind_s]
        simp only
        rw [g3, obind_s]
        exact ⟨_, _, _, rfl, g4⟩
      · rw [dF c3, cnd_f]
        have ht : ∃ p, W_ref1_Tried N ((a, b), now) = some p := by
          unfold W_ref1_Tried
          simp only
          refine loop_G (N := N) (fun q => ∃ p, q = some p) (fun k (v : Int × Int × (Int × Int) × Int × Int) => v.2.1 = k ∧ k ≤ 3) 3 (fun r : Int × (Int × Int) × Int × Int => True) ⟨rfl, by omega⟩ (by omega) (fun r _ => ⟨_, rfl⟩) (fun k v h => h.2) ?_
          rintro k ⟨u, i, ⟨x, y⟩, z1, z2⟩ ⟨e, hk⟩
          simp only at e ⊢
          subst e
          by_cases q1 : (k : Int) < x
          · rw [dT q1, cnd_t]
            by_cases q2 : (k : Int) < 3
            · left
              rw [dT q2, cnd_t]
              exact ⟨_, rfl, by simp only; rw [wr_m (by omega) (by omega)]; omega, by omega⟩
            · right
              rw [dF q2, cnd_f]; exact ⟨_, rfl, trivial⟩
          · right
            rw [dF q1, cnd_f]; exact ⟨_, rfl, trivial⟩
        obtain ⟨⟨p1, p2⟩, hp⟩ := ht
        rw [hp, obind_s]
        exact ⟨_, _, _, rfl, ⟨h0.nx, h0.tp, h0.rl, h0.last, h0.wk, h0.wl, h0.ll⟩⟩
theorem Comes_spec (N : Nat) (hN : 2000 ≤ N) {K : Int} {c L : Nat} {f : Fd} (h : Fo K c L f) (hK : K ≤ 100000) (hc : c ≤ 90) (hL : L ≤ 600) (s : Int) (t : List UInt8) (hs : s ≤ K) : ∃ f', W_ref13_Comes N (f, s, t) = some f' ∧ Fo K (c + 1) (L + 1) f' := by
  have h0 := h.mono (Int.le_refl _) (show c ≤ c + 1 by omega) (show L ≤ L + 1 by omega)
  have hnx := h.nx
  obtain ⟨f1, e1, e2, e3⟩ := Knows_spec N h s hs
  obtain ⟨nx, tp, R, Wn, Lg, a, b⟩ := f
  unfold W_ref13_Comes
  simp only at hnx ⊢
  rw [dF (by omega), cnd_f, obind_s]
  simp only
  by_cases c1 : s < 1
  · rw [dT c1, cnd_t, obind_s]
    simp only [cnd_t]
    exact ⟨_, rfl, h0⟩
  rw [dF c1, cnd_f, obind_s]
  simp only
  rw [dF (by omega), cnd_f]
  by_cases c2 : (12 : Int) < t.length
  · rw [dT c2, cnd_t]; exact ⟨_, rfl, h0⟩
  rw [dF c2, cnd_f]
  have hn1 := e2.nx; have hw1 := e2.wk; have hl1 := e2.wl; have ll1 := e2.ll
  obtain ⟨l', ok, p1, p2, p3⟩ := PutWin_spec N hN f1.2.2.2.1 f1.1 K (s, t) (by omega) hw1 (by omega) (by omega) (by simp only; omega) hs (by omega)
  obtain ⟨nx1, tp1, R1, W1, L1, a1, b1⟩ := f1
  simp only at p1 p2 p3 hl1 ll1
  have hF : Fo K (c + 1) (L + 1) (nx1, tp1, R1, l', L1, a1, b1) := ⟨hn1, e2.tp, e2.rl, e2.last, p2, by simp only; omega, by simp only; omega⟩
  obtain ⟨o', f3, g3, g4, _⟩ := Goes_spec N hN hF hK (by omega) (by omega)
  obtain ⟨nx3, tp3, R3, W3, L3, a3, b3⟩ := f3
  rw [e1, obind_s]
  simp only
  rw [p1, obind_s]
  simp only
  rw [g3, obind_s]
  exact ⟨_, rfl, g4⟩
theorem Text_eq (N : Nat) (l : List Int) (n : Int) (hn : 0 ≤ n) (hn2 : n ≤ 1000) (hel : ∀ x ∈ l, 0 ≤ x ∧ x ≤ 255) : ∃ s n', W_Picks_Text N (l, n) = some (s, l, n') ∧ n ≤ n' ∧ n' ≤ n + 1 := by
  unfold W_Picks_Text
  simp only
  obtain ⟨k, n1, e1, a1, a2, a3, a4⟩ := Num_eq N 5 l n (by omega) hn (by omega) hel
  rw [e1, obind_s]
  simp only
  rw [dT a1, cnd_t, dT (by omega), cnd_t]
  exact ⟨_, _, rfl, a3, a4⟩
/-- One deed. -/
structure Fs (j : Nat) (now n : Int) (f : Fd) (K : Int) (L : Nat) : Prop where
  n0 : 0 ≤ n ∧ n ≤ 1 + 4 * (j : Int)
  t0 : 0 ≤ now ∧ now ≤ 7 * (j : Int)
  fo : Fo K j L f
  k : K = 8 + 8 * (j : Int)
  l : L = 20 * j
theorem deed0 (N : Nat) (hN : 2000 ≤ N) (l : List Int) (hel : ∀ x ∈ l, 0 ≤ x ∧ x ≤ 255) (j : Nat) (hj : j < 15) (now n2 K : Int) (L : Nat) (f : Fd) (hf : Fo K j L f) (hk : K = 8 + 8 * (j : Int)) (hl : L = 20 * j) (hn : 0 ≤ n2 ∧ n2 ≤ 2 + 4 * (j : Int)) (ht : 0 ≤ now ∧ now ≤ 7 * (j : Int)) (z : Fd) :
    ∃ n' f', (∀ {β : Type} (g : List Int × Int → Fd → Option β), (obind (W_Picks_Num N ((3 : Int), l, n2)) fun (b : Int × List Int × Int) => obind (W_Picks_Num N ((4 : Int), b.2.1, b.2.2)) fun (b_2 : Int × List Int × Int) => obind (W_ref13_Notes N (f, max 1 (wr .i64 (wr .i64 (f.1 - 1) + b.1)), wr .i64 (max 1 (wr .i64 (wr .i64 (f.1 - 1) + b.1)) + b_2.1))) fun (b : Fd) => g (b_2.2.1, b_2.2.2) b) = g (l, n') f') ∧ Fs (j + 1) now n' f' (8 + 8 * ((j + 1 : Nat) : Int)) (20 * (j + 1)) := by
  have hnx := hf.nx
  obtain ⟨p, n3, e3, c1, c2, c3, c4⟩ := Num_eq N 3 l n2 (by omega) (by omega) (by omega) hel
  obtain ⟨q, n4, e4, d1, d2, d3, d4⟩ := Num_eq N 4 l n3 (by omega) (by omega) (by omega) hel
  have wx : wr .i64 (f.1 - 1) = f.1 - 1 := wr_m (by omega) (by omega)
  have w2 : wr .i64 (f.1 - 1 + p) = f.1 - 1 + p := wr_m (by omega) (by omega)
  have w3 : wr .i64 (max 1 (f.1 - 1 + p) + q) = max 1 (f.1 - 1 + p) + q := wr_m (by omega) (by omega)
  have hm : Fo (K + 8) j L f := hf.mono (by omega) (Nat.le_refl _) (Nat.le_refl _)
  obtain ⟨f', g1, g2⟩ := Notes_spec N hN hm (by omega) (by omega) (by omega) (max 1 (f.1 - 1 + p)) (max 1 (f.1 - 1 + p) + q) (by omega)
  refine ⟨n4, f', fun g => ?_, ⟨by omega, by omega⟩, ⟨by omega, by omega⟩, g2.mono (by omega) (by omega) (by omega), rfl, rfl⟩
  rw [e3, obind_s]
  simp only
  rw [e4, obind_s]
  simp only
  rw [wx, w2, w3, g1, obind_s]
theorem deed1 (N : Nat) (hN : 2000 ≤ N) (l : List Int) (hel : ∀ x ∈ l, 0 ≤ x ∧ x ≤ 255) (j : Nat) (hj : j < 15) (now n2 K : Int) (L : Nat) (f : Fd) (hf : Fo K j L f) (hk : K = 8 + 8 * (j : Int)) (hl : L = 20 * j) (hn : 0 ≤ n2 ∧ n2 ≤ 2 + 4 * (j : Int)) (ht : 0 ≤ now ∧ now ≤ 7 * (j : Int)) :
    ∃ n' f', (∀ {β : Type} (g : List Int × Int → Fd → Option β), (obind (W_Picks_Num N ((5 : Int), l, n2)) fun (b : Int × List Int × Int) => obind (W_ref13_Knows N (f, wr .i64 (f.1 + b.1))) fun (b_2 : Fd) => g (b.2.1, b.2.2) b_2) = g (l, n') f') ∧ Fs (j + 1) now n' f' (8 + 8 * ((j + 1 : Nat) : Int)) (20 * (j + 1)) := by
  have hnx := hf.nx
  obtain ⟨p, n3, e3, c1, c2, c3, c4⟩ := Num_eq N 5 l n2 (by omega) (by omega) (by omega) hel
  have w2 : wr .i64 (f.1 + p) = f.1 + p := wr_m (by omega) (by omega)
  have hm : Fo (K + 8) j L f := hf.mono (by omega) (Nat.le_refl _) (Nat.le_refl _)
  obtain ⟨f', g1, g2, _⟩ := Knows_spec N hm (f.1 + p) (by omega)
  refine ⟨n3, f', fun g => ?_, ⟨by omega, by omega⟩, ⟨by omega, by omega⟩, g2.mono (by omega) (by omega) (by omega), rfl, rfl⟩
  rw [e3, obind_s]
  simp only
  rw [w2, g1, obind_s]
theorem deed2 (N : Nat) (hN : 2000 ≤ N) (l : List Int) (hel : ∀ x ∈ l, 0 ≤ x ∧ x ≤ 255) (j : Nat) (hj : j < 15) (now n2 K : Int) (L : Nat) (f : Fd) (hf : Fo K j L f) (hk : K = 8 + 8 * (j : Int)) (hl : L = 20 * j) (hn : 0 ≤ n2 ∧ n2 ≤ 2 + 4 * (j : Int)) (ht : 0 ≤ now ∧ now ≤ 7 * (j : Int)) :
    ∃ t' n' f', (∀ {β : Type} (g : Int → List Int × Int → Fd → Option β), (obind (W_Picks_Num N ((6 : Int), l, n2)) fun (b : Int × List Int × Int) => obind (W_ref13_Tick N (f, wr .i64 (wr .i64 (now + 1) + b.1))) fun (b_2 : Bool × Fd × Int × Int) => g (wr .i64 (wr .i64 (now + 1) + b.1)) (b.2.1, b.2.2) b_2.2.1) = g t' (l, n') f') ∧ Fs (j + 1) t' n' f' (8 + 8 * ((j + 1 : Nat) : Int)) (20 * (j + 1)) := by
  obtain ⟨p, n3, e3, c1, c2, c3, c4⟩ := Num_eq N 6 l n2 (by omega) (by omega) (by omega) hel
  have w2 : wr .i64 (now + 1) = now + 1 := wr_m (by omega) (by omega)
  have w3 : wr .i64 (now + 1 + p) = now + 1 + p := wr_m (by omega) (by omega)
  obtain ⟨q, f', s, g1, g2⟩ := Tick_spec N hN hf (by omega) (by omega) (by omega) (now + 1 + p)
  refine ⟨now + 1 + p, n3, f', fun g => ?_, ⟨by omega, by omega⟩, ⟨by omega, by omega⟩, g2.mono (by omega) (by omega) (by omega), rfl, rfl⟩
  rw [e3, obind_s]
  simp only
  rw [w2, w3, g1, obind_s]
theorem deed3 (N : Nat) (hN : 2000 ≤ N) (l : List Int) (hel : ∀ x ∈ l, 0 ≤ x ∧ x ≤ 255) (j : Nat) (hj : j < 15) (now n2 K : Int) (L : Nat) (f : Fd) (hf : Fo K j L f) (hk : K = 8 + 8 * (j : Int)) (hl : L = 20 * j) (hn : 0 ≤ n2 ∧ n2 ≤ 2 + 4 * (j : Int)) (ht : 0 ≤ now ∧ now ≤ 7 * (j : Int)) :
    ∃ n' f', (∀ {β : Type} (g : List Int × Int → Fd → Option β), (obind (W_Picks_Num N ((5 : Int), l, n2)) fun (b : Int × List Int × Int) => obind (W_Picks_Text N (b.2.1, b.2.2)) fun (b_2 : List UInt8 × List Int × Int) => obind (W_ref13_Comes N (f, max 1 (wr .i64 (wr .i64 (f.1 - 1) + b.1)), b_2.1)) fun (b : Fd) => g (b_2.2.1, b_2.2.2) b) = g (l, n') f') ∧ Fs (j + 1) now n' f' (8 + 8 * ((j + 1 : Nat) : Int)) (20 * (j + 1)) := by
  have hnx := hf.nx
  obtain ⟨p, n3, e3, c1, c2, c3, c4⟩ := Num_eq N 5 l n2 (by omega) (by omega) (by omega) hel
  obtain ⟨t, n4, e4, d3, d4⟩ := Text_eq N l n3 (by omega) (by omega) hel
  have wx : wr .i64 (f.1 - 1) = f.1 - 1 := wr_m (by omega) (by omega)
  have w2 : wr .i64 (f.1 - 1 + p) = f.1 - 1 + p := wr_m (by omega) (by omega)
  have hm : Fo (K + 8) j L f := hf.mono (by omega) (Nat.le_refl _) (Nat.le_refl _)
  obtain ⟨f', g1, g2⟩ := Comes_spec N hN hm (by omega) (by omega) (by omega) (max 1 (f.1 - 1 + p)) t (by omega)
  refine ⟨n4, f', fun g => ?_, ⟨by omega, by omega⟩, ⟨by omega, by omega⟩, g2.mono (by omega) (by omega) (by omega), rfl, rfl⟩
  rw [e3, obind_s]
  simp only
  rw [e4, obind_s]
  simp only
  rw [wx, w2, g1, obind_s]
theorem Feed_spec (N : Nat) (hN : 2000 ≤ N) (l : List Int) (hel : ∀ x ∈ l, 0 ≤ x ∧ x ≤ 255) : ∃ f n', W_Picks_Feed N (15, l, 0) = some ((l, n'), f) ∧ Fo 200 20 400 f := by
  unfold W_Picks_Feed
  simp only
  obtain ⟨k, n1, e1, a1, a2, a3, a4⟩ := Num_eq N 5 l 0 (by omega) (by omega) (by omega) hel
  rw [e1, obind_s]
  simp only
  have hB : W_ref13_Begin N (((0 : Int), (0 : Int), [], [], [], (0 : Int), (0 : Int)), wr .i64 (1 + k)) = some (1 + k, 0, [], [], [], 0, 0) := by
    unfold W_ref13_Begin
    simp only
    rw [wr_m (by omega) (by omega), dF (by omega), cnd_f, dT (by omega), cnd_t, dT (by omega), cnd_t]
  rw [hB, obind_s]
  refine loop_G (N := N) (fun q => ∃ f n', q = some ((l, n'), f) ∧ Fo 200 20 400 f) (fun j (v : Int × Int × (List Int × Int) × Fd × Fd) => v.2.1 = j ∧ j ≤ 15 ∧ v.2.2.1.1 = l ∧ Fs j v.1 v.2.2.1.2 v.2.2.2.2 (8 + 8 * (j : Int)) (20 * j)) 15
    (fun r : (List Int × Int) × Fd × Fd => r.1.1 = l ∧ Fo 200 20 400 r.2.2) ⟨rfl, by omega, rfl, ⟨⟨by simp only; omega, by simp only; omega⟩, ⟨by simp, by simp⟩, ⟨⟨by simp only; omega, by simp only; omega⟩, ⟨by simp, by simp⟩, by simp, fun q => by simp at q, trivial, by simp, by simp⟩, by simp, by simp⟩⟩ (by omega) ?_ (fun j v h => h.2.1) ?_
  · rintro ⟨⟨l', n'⟩, z, f⟩ ⟨rfl, hf⟩
    exact ⟨_, _, rfl, hf⟩
  · rintro j ⟨now, i, ⟨l', n'⟩, z, f⟩ ⟨e, hj, rfl, hS⟩
    have hn := hS.n0; have ht := hS.t0; have hf := hS.fo
    have fin : Fo 200 20 400 f := hf.mono (by omega) (by omega) (by omega)
    clear hS
    simp only at e hn ht hf fin ⊢
    subst e
    by_cases cj : (j : Int) < 15
    case neg =>
      right
      rw [dF cj, cnd_f]
      exact ⟨_, rfl, rfl, fin⟩
    have hov : W_Picks_Over N (l', n') = some (decide ((l'.length : Int) ≤ n'), l', n') := rfl
    rw [dT cj, cnd_t, hov, obind_s]
    simp only
    by_cases co : (l'.length : Int) ≤ n'
    · right
      rw [dT co, Bool.not_true, cnd_f]
      exact ⟨_, rfl, rfl, fin⟩
    rw [dF co, Bool.not_false, cnd_t]
    left
    obtain ⟨b, n2, e2, b1, b2, b3, b4⟩ := Num_eq N 6 l' n' (by omega) (by omega) (by omega) hel
    rw [e2, obind_s]
    simp only
    have wj : wr .i64 ((j : Int) + 1) = ((j + 1 : Nat) : Int) := by rw [wr_m (by omega) (by omega)]; omega
    by_cases k0 : b = 0
    · rw [dT k0, cnd_t]
      obtain ⟨n', f', hg, hF⟩ := deed0 N hN l' hel j (by omega) now n2 _ _ f hf rfl rfl ⟨by omega, by omega⟩ ht z
      refine ⟨_, hg (fun r (q : Fd) => some (Sum.inl (now, wr .i64 ((j : Int) + 1), r, z, q))), ?_, ?_, ?_, ?_⟩
      · simp only [wj]
      · omega
      · rfl
      · exact hF
    rw [dF k0, cnd_f]
    by_cases k1 : b = 1
    · rw [dT k1, cnd_t]
      obtain ⟨n', f', hg, hF⟩ := deed1 N hN l' hel j (by omega) now n2 _ _ f hf rfl rfl ⟨by omega, by omega⟩ ht
      refine ⟨_, hg (fun r (q : Fd) => some (Sum.inl (now, wr .i64 ((j : Int) + 1), r, z, q))), ?_, ?_, ?_, ?_⟩
      · simp only [wj]
      · omega
      · rfl
      · exact hF
    rw [dF k1, cnd_f]
    by_cases k2 : b = 2
    · rw [dT k2, cnd_t]
      obtain ⟨t', n', f', hg, hF⟩ := deed2 N hN l' hel j (by omega) now n2 _ _ f hf rfl rfl ⟨by omega, by omega⟩ ht
      refine ⟨_, hg (fun t r (q : Fd) => some (Sum.inl (t, wr .i64 ((j : Int) + 1), r, z, q))), ?_, ?_, ?_, ?_⟩
      · simp only [wj]
      · omega
      · rfl
      · exact hF
    rw [dF k2, cnd_f]
    obtain ⟨n', f', hg, hF⟩ := deed3 N hN l' hel j (by omega) now n2 _ _ f hf rfl rfl ⟨by omega, by omega⟩ ht
    refine ⟨_, hg (fun r (q : Fd) => some (Sum.inl (now, wr .i64 ((j : Int) + 1), r, z, q))), ?_, ?_, ?_, ?_⟩
    · simp only [wj]
    · omega
    · rfl
    · exact hF
theorem loop_rec {σ τ ρ α : Type} (d : α) (l : List α) (mk : Int → σ → τ) (R : List α → σ → ρ) (Inv : σ → List α → Prop) {f : τ → Option (τ ⊕ ρ)}
    (hend : ∀ s, Inv s [] → f (mk l.length s) = some (.inr (R [] s)))
    (hstep : ∀ (i : Nat) (h : α) (r : List α) (s : σ), i < l.length → l.getD i d = h → Inv s (h :: r) → (∃ s', f (mk i s) = some (.inl (mk ((i : Int) + 1) s')) ∧ R (h :: r) s = R r s' ∧ Inv s' r) ∨ f (mk i s) = some (.inr (R (h :: r) s)))
    {N : Nat} {s : σ} (hN : l.length < N) (h0 : Inv s l) : loopN N f (mk 0 s) = some (R l s) := by
  have key : ∀ (rest pre : List α) (N : Nat) (s : σ), l = pre ++ rest → rest.length < N → Inv s rest → loopN N f (mk pre.length s) = some (R rest s) := by
    intro rest
    induction rest with
    | nil =>
      intro pre N s e hN hI
      obtain ⟨M, rfl⟩ : ∃ M, N = M + 1 := ⟨N - 1, by simp at hN; omega⟩
      rw [List.append_nil] at e
      subst e
      simp only [loopN, hend s hI]
    | cons h r ih =>
      intro pre N s e hN hI
      obtain ⟨M, rfl⟩ : ∃ M, N = M + 1 := ⟨N - 1, by simp at hN; omega⟩
      have hg : l.getD pre.length d = h := by rw [e, List.getD_eq_getElem?_getD, List.getElem?_append_right (Nat.le_refl _)]; simp
      have hi : pre.length < l.length := by rw [e]; simp
      rcases hstep pre.length h r s hi hg hI with ⟨s', h1, h2, h3⟩ | h1
      · simp only [loopN, h1]
        rw [h2]
        have := ih (pre ++ [h]) M s' (by rw [e]; simp) (by simp at hN; omega) h3
        simpa using this
      · simp only [loopN, h1]
  have := key l [] N s rfl hN h0
  simpa using this
theorem obind_rec {σ τ ρ α β : Type} (d : α) (l : List α) (mk : Int → σ → τ) (R : List α → σ → ρ) (Inv : σ → List α → Prop) {f : τ → Option (τ ⊕ ρ)} {N : Nat} (s : σ) {x : τ} {k : ρ → Option β} {res : Option β} (hx : x = mk 0 s) (hN : l.length < N) (h0 : Inv s l) (hk : k (R l s) = res)
    (hend : ∀ s, Inv s [] → f (mk l.length s) = some (.inr (R [] s)))
    (hstep : ∀ (i : Nat) (h : α) (r : List α) (s : σ), i < l.length → l.getD i d = h → Inv s (h :: r) → (∃ s', f (mk i s) = some (.inl (mk ((i : Int) + 1) s')) ∧ R (h :: r) s = R r s' ∧ Inv s' r) ∨ f (mk i s) = some (.inr (R (h :: r) s))) : obind (loopN N f x) k = res := by
  subst hx
  rw [loop_rec d l mk R Inv hend hstep hN h0]
  exact hk
theorem loop_rec2 {σ τ ρ α : Type} (l : List α) (mk : Int → σ → τ) (R : List α → σ → ρ) (Inv : σ → List α → List α → Prop) {f : τ → Option (τ ⊕ ρ)}
    (hend : ∀ s, Inv s l [] → f (mk l.length s) = some (.inr (R [] s)))
    (hstep : ∀ (pre : List α) (h : α) (r : List α) (s : σ), l = pre ++ h :: r → Inv s pre (h :: r) → (∃ s', f (mk pre.length s) = some (.inl (mk ((pre.length : Int) + 1) s')) ∧ R (h :: r) s = R r s' ∧ Inv s' (pre ++ [h]) r) ∨ f (mk pre.length s) = some (.inr (R (h :: r) s)))
    {N : Nat} {s : σ} (hN : l.length < N) (h0 : Inv s [] l) : loopN N f (mk 0 s) = some (R l s) := by
  have key : ∀ (rest pre : List α) (N : Nat) (s : σ), l = pre ++ rest → rest.length < N → Inv s pre rest → loopN N f (mk pre.length s) = some (R rest s) := by
    intro rest
    induction rest with
    | nil =>
      intro pre N s e hN hI
      obtain ⟨M, rfl⟩ : ∃ M, N = M + 1 := ⟨N - 1, by simp at hN; omega⟩
      rw [List.append_nil] at e
      subst e
      simp only [loopN, hend s hI]
    | cons h r ih =>
      intro pre N s e hN hI
      obtain ⟨M, rfl⟩ : ∃ M, N = M + 1 := ⟨N - 1, by simp at hN; omega⟩
      rcases hstep pre h r s e hI with ⟨s', h1, h2, h3⟩ | h1
      · simp only [loopN, h1]
        rw [h2]
        have := ih (pre ++ [h]) M s' (by rw [e]; simp) (by simp at hN; omega) h3
        simpa using this
      · simp only [loopN, h1]
  have := key l [] N s rfl hN h0
  simpa using this
abbrev Sp := Int × Int
def okS (s : Sp) : Prop := 1 ≤ s.1 ∧ s.1 ≤ s.2 ∧ s.2 ≤ 1000000
open Classical in
theorem rOk (N : Nat) (a b : Int) : W_ref1_MaySpan N (a, b) = some (decide (okS (a, b))) := by
  unfold W_ref1_MaySpan
  simp only
  by_cases h1 : 1 ≤ a
  · rw [dT h1, cnd_t, obind_s]
    simp only
    by_cases h2 : a ≤ b
    · rw [dT h2, cnd_t]
      by_cases h3 : b ≤ 1000000
      · rw [dT h3, dT (show okS (a, b) from ⟨h1, h2, h3⟩)]
      · rw [dF h3, dF (fun h : okS (a, b) => h3 h.2.2)]
    · rw [dF h2, cnd_f, dF (fun h : okS (a, b) => h2 h.2.1)]
  · rw [dF h1, cnd_f, obind_s]
    simp only
    rw [cnd_f, dF (fun h : okS (a, b) => h1 h.1)]
open Classical in
theorem rHasS_eq (N : Nat) (l : List Sp) (n : Int) (hN : l.length < N) (hl : l.length ≤ 1000) : W_ref1_HasSpan N (l, n) = some (decide (∃ h ∈ l, h.1 ≤ n ∧ n ≤ h.2)) := by
  unfold W_ref1_HasSpan
  simp only
  refine obind_rec (0, 0) l (fun i (s : Unit) => i) (fun l s => if ∃ h ∈ l, h.1 ≤ n ∧ n ≤ h.2 then (.inr true : PUnit ⊕ Bool) else .inl ()) (fun _ _ => True) () rfl hN trivial ?_ ?_ ?_
  · by_cases h : ∃ h ∈ l, h.1 ≤ n ∧ n ≤ h.2
    · rw [if_pos h, selim_r, dT h]
    · rw [if_neg h, selim_l, dF h]
  · rintro s _
    rw [dF (by omega), cnd_f, if_neg (by simp)]
  · rintro i ⟨p, q⟩ r s hi hg _
    have d1 : decide ((i : Int) < l.length) = true := dT (by omega)
    have d2 : decide ((0 : Int) ≤ i) = true := dT (by omega)
    simp only [Int.toNat_natCast, hg, d1, d2, Bool.and_self, cnd_t]
    rw [wr_m (z := (i : Int) + 1) (by omega) (by omega)]
    by_cases h1 : p ≤ n
    · rw [dT h1, cnd_t]
      by_cases h2 : n ≤ q
      · right
        rw [dT h2, cnd_t, if_pos ⟨(p, q), by simp, h1, h2⟩]
      · left
        refine ⟨(), by rw [dF h2, cnd_f], ?_, trivial⟩
        congr 1
        simp only [List.mem_cons, eq_iff_iff]
        exact ⟨fun ⟨x, hx, hc⟩ => by
          rcases hx with rfl | hx
          · exact absurd hc.2 h2
          · exact ⟨x, hx, hc⟩, fun ⟨x, hx, hc⟩ => ⟨x, .inr hx, hc⟩⟩
    · left
      refine ⟨(), by rw [dF h1, cnd_f], ?_, trivial⟩
      congr 1
      simp only [List.mem_cons, eq_iff_iff]
      exact ⟨fun ⟨x, hx, hc⟩ => by
        rcases hx with rfl | hx
        · exact absurd hc.1 h1
        · exact ⟨x, hx, hc⟩, fun ⟨x, hx, hc⟩ => ⟨x, .inr hx, hc⟩⟩
def G : Int → List Sp → Prop
  | _, [] => True
  | f, h :: r => okS h ∧ f ≤ h.1 ∧ G (h.2 + 2) r
open Classical in
theorem rMayS_eq (N : Nat) (l : List Sp) (hN : l.length < N) (hl : l.length ≤ 1000) : W_ref1_MaySpans N l = some (decide (G 1 l)) := by
  unfold W_ref1_MaySpans
  have e := loop_rec2 (N := N) (f := fun (v : Int) =>
      cnd (decide (v < (↑(List.length l) : Int)))
        (cnd (decide ((0 : Int) ≤ v) && decide (v < (↑(List.length l) : Int)))
          (obind
            (W_ref1_MaySpan N
              (Prod.fst (List.getD l (Int.toNat v) ((0 : Int), (0 : Int))),
                Prod.snd (List.getD l (Int.toNat v) ((0 : Int), (0 : Int)))))
            fun (b : Bool) =>
            cnd (!b) (some (Sum.inr (Sum.inr false)))
              (cnd (decide ((0 : Int) < v))
                (cnd (decide ((0 : Int) ≤ v) && decide (v < (↑(List.length l) : Int)))
                  (cnd
                    (decide ((0 : Int) ≤ wr IntKind.i64 (v - (1 : Int))) &&
                      decide (wr IntKind.i64 (v - (1 : Int)) < (↑(List.length l) : Int)))
                    (cnd
                      (decide
                        (Prod.fst (List.getD l (Int.toNat v) ((0 : Int), (0 : Int))) ≤
                          wr IntKind.i64
                            (Prod.snd
                                (List.getD l (Int.toNat (wr IntKind.i64 (v - (1 : Int)))) ((0 : Int), (0 : Int))) +
                              (1 : Int))))
                      (some (Sum.inr (Sum.inr false))) (some (Sum.inl (wr IntKind.i64 (v + (1 : Int))))))
                    none)
                  none)
                (some (Sum.inl (wr IntKind.i64 (v + (1 : Int)))))))
          none)
        (some (Sum.inr (Sum.inl ())))) l (fun i (s : Int) => i) (fun l f => if G f l then (.inl () : PUnit ⊕ Bool) else .inr false)
    (fun s pre _ => (pre = [] ∧ s = 1) ∨ ∃ pp p, pre = pp ++ [p] ∧ okS p ∧ s = p.2 + 2) (fun s _ => by
      rw [dF (by omega), cnd_f, if_pos (show G s [] from trivial)]) (fun pre h r s e hI => ?_) (s := 1) hN (.inl ⟨rfl, rfl⟩)
  · refine (congrArg (fun x => obind x _) e).trans ?_
    rw [obind_s]
    by_cases h : G 1 l
    · rw [if_pos h, selim_l, dT h]
    · rw [if_neg h, selim_r, dF h]
  · obtain ⟨p, q⟩ := h
    have hlen : l.length = pre.length + (r.length + 1) := by rw [e]; simp
    have hg : l.getD pre.length (0, 0) = (p, q) := by rw [e, List.getD_eq_getElem?_getD, List.getElem?_append_right (Nat.le_refl _)]; simp
    have d1 : decide ((pre.length : Int) < l.length) = true := dT (by omega)
    have d2 : decide ((0 : Int) ≤ pre.length) = true := dT (by omega)
    simp only [Int.toNat_natCast, hg, d1, d2, Bool.and_self, cnd_t, rOk, obind_s]
    rw [wr_m (z := (pre.length : Int) + 1) (by omega) (by omega)]
    by_cases ho : okS (p, q)
    case neg =>
      right
      rw [dF ho, Bool.not_false, cnd_t, if_neg (fun h : G s ((p, q) :: r) => ho h.1)]
    rw [dT ho, Bool.not_true, cnd_f]
    rcases hI with ⟨rfl, rfl⟩ | ⟨pp, ⟨p0, q0⟩, rfl, ho2, rfl⟩
    · left
      refine ⟨q + 2, by simp only [List.length_nil]; rw [dF (by omega), cnd_f], ?_, .inr ⟨[], (p, q), rfl, ho, rfl⟩⟩
      congr 1
      simp only [G, eq_iff_iff]
      exact ⟨fun h => h.2.2, fun h => ⟨ho, ho.1, h⟩⟩
    · have hg2 : l.getD pp.length (0, 0) = (p0, q0) := by
        rw [e, List.getD_eq_getElem?_getD, List.append_assoc, List.getElem?_append_right (Nat.le_refl _)]; simp
      obtain ⟨k1, k2, k3⟩ := ho2
      simp only [List.length_append, List.length_singleton] at k1 k2 k3 hlen ⊢
      have w : wr .i64 (((pp.length + 1 : Nat) : Int) - 1) = pp.length := by rw [wr_m (by omega) (by omega)]; omega
      rw [dT (by omega), cnd_t, w, dT (by omega), dT (by omega), Bool.and_self, cnd_t, Int.toNat_natCast, hg2]
      simp only
      rw [wr_m (z := q0 + 1) (by omega) (by omega)]
      by_cases hf : p ≤ q0 + 1
      · right
        rw [dT hf, cnd_t, if_neg (fun h : G (q0 + 2) ((p, q) :: r) => by have := h.2.1; simp only at this; omega)]
      · left
        refine ⟨q + 2, by rw [dF hf, cnd_f], ?_, .inr ⟨pp ++ [(p0, q0)], (p, q), rfl, ho, rfl⟩⟩
        congr 1
        simp only [G, eq_iff_iff]
        exact ⟨fun h => h.2.2, fun h => ⟨ho, by omega, h⟩⟩
def push (o : List Sp) (lo hi : Int) : List Sp := if 0 < o.length ∧ (o.getD (o.length - 1) (0, 0)).2 + 1 = lo then putL o [((o.getD (o.length - 1) (0, 0)).1, hi)] (o.length - 1) else o ++ [(lo, hi)]
theorem push_nil (lo hi : Int) : push [] lo hi = [(lo, hi)] := by unfold push; rw [if_neg (by simp)]; rfl
theorem push_snoc (o : List Sp) (t : Sp) (lo hi : Int) : push (o ++ [t]) lo hi = if t.2 + 1 = lo then o ++ [(t.1, hi)] else o ++ [t] ++ [(lo, hi)] := by
  have hl : (o ++ [t]).length - 1 = o.length := by simp
  have hg : (o ++ [t]).getD o.length (0, 0) = t := by rw [List.getD_eq_getElem?_getD]; simp
  unfold push
  rw [hl, hg]
  by_cases h : t.2 + 1 = lo
  · rw [if_pos ⟨by simp, h⟩, if_pos h]
    unfold putL
    simp
  · rw [if_neg (fun q => h q.2), if_neg h]
theorem snoc_cases (o : List Sp) : o = [] ∨ ∃ p t, o = p ++ [t] := by
  rcases List.eq_nil_or_concat o with h | ⟨p, t, h⟩
  · exact .inl h
  · exact .inr ⟨p, t, by rw [h, List.concat_eq_append]⟩
theorem Get_eq (N : Nat) (l : List It) (s : Int) (hN : 2000 ≤ N) (hl : l.length ≤ 1000) : W_ring_Get N (l, s) = some (getF l s) := by
  have hf : ∃ r : List UInt8 ⊕ PUnit, W_ring_find N (l, s) = some r ∧ ((r = .inl (getF l s).1 ∧ (getF l s).2 = true) ∨ (r = .inr () ∧ getF l s = ([], false))) := by
    unfold W_ring_find
    simp only
    refine loop_G (N := N) (fun o => ∃ r : List UInt8 ⊕ PUnit, o = some r ∧ ((r = .inl (getF l s).1 ∧ (getF l s).2 = true) ∨ (r = .inr () ∧ getF l s = ([], false)))) (fun k (v : Int) => v = k ∧ k ≤ l.length ∧ getF (l.drop k) s = getF l s) l.length (fun r : PUnit ⊕ List UInt8 ⊕ PUnit => (r = .inl () ∧ getF l s = ([], false)) ∨ (r = .inr (.inl (getF l s).1) ∧ (getF l s).2 = true)) ⟨rfl, by omega, rfl⟩ (by omega) ?_ (fun k v h => h.2.1) ?_
    · rintro r (⟨rfl, h⟩ | ⟨rfl, h⟩)
      · rw [selim_l]; exact ⟨_, rfl, .inr ⟨rfl, h⟩⟩
      · rw [selim_r]; exact ⟨_, rfl, .inl ⟨rfl, h⟩⟩
    · rintro k v ⟨e, hk, hg⟩
      subst e
      by_cases c : (k : Int) < l.length
      case neg =>
        right
        rw [dF c, cnd_f]
        rw [List.drop_eq_nil_of_le (by omega)] at hg
        exact ⟨_, rfl, .inl ⟨rfl, hg.symm⟩⟩
      rw [drop_consI (by omega)] at hg
      simp only [getF] at hg
      rw [dT c, cnd_t, dT (by omega), Bool.and_self, cnd_t, Int.toNat_natCast]
      by_cases c2 : (l.getD k iD).1 = s
      · right
        rw [if_pos c2] at hg
        rw [dT c2, cnd_t]
        exact ⟨_, rfl, .inr ⟨by rw [← hg], by rw [← hg]⟩⟩
      · left
        rw [if_neg c2] at hg
        rw [dF c2, cnd_f, wr_m (by omega) (by omega)]
        exact ⟨_, rfl, by omega, by omega, hg⟩
  obtain ⟨r, h1, h2⟩ := hf
  unfold W_ring_Get
  simp only
  rw [h1, obind_s]
  rcases h2 with ⟨rfl, h2⟩ | ⟨rfl, h2⟩
  · rw [selim_l]
    cases hq : getF l s with
    | mk a b => rw [hq] at h2; simp only at h2; rw [h2]
  · rw [selim_r, h2]
def itF (R : List It) (lo : Int) : Nat → List It
  | 0 => []
  | k + 1 => if (getF R (lo + k)).2 = true then itF R lo k ++ [(lo + k, (getF R (lo + k)).1)] else itF R lo k
def noF (R : List It) (lo : Int) : Nat → List Sp
  | 0 => []
  | k + 1 => if (getF R (lo + k)).2 = true then noF R lo k else push (noF R lo k) (lo + k) (lo + k)
theorem itF_len (R : List It) (lo : Int) : ∀ k, (itF R lo k).length ≤ k
  | 0 => by simp [itF]
  | k + 1 => by
    have := itF_len R lo k
    simp only [itF]
    split
    · simp only [List.length_append, List.length_cons, List.length_nil]; omega
    · omega
theorem itF_pre (R : List It) (lo : Int) : ∀ (C k : Nat), k ≤ C → ∃ t, itF R lo C = itF R lo k ++ t ∧ ∀ x ∈ t, lo + k ≤ x.1
  | 0, k, h => ⟨[], by have : k = 0 := (by omega); subst this; simp, fun x hx => by simp at hx⟩
  | C + 1, k, h => by
    by_cases e : k = C + 1
    · subst e; exact ⟨[], by simp, fun x hx => by simp at hx⟩
    · obtain ⟨t, h1, h2⟩ := itF_pre R lo C k (by omega)
      by_cases q : (getF R (lo + C)).2 = true
      · refine ⟨t ++ [(lo + C, (getF R (lo + C)).1)], ?_, fun x hx => ?_⟩
        · rw [show itF R lo (C + 1) = itF R lo C ++ [(lo + C, (getF R (lo + C)).1)] by simp only [itF]; rw [if_pos q], h1, List.append_assoc]
        · rcases List.mem_append.1 hx with hx | hx
          · exact h2 x hx
          · rw [List.mem_singleton.1 hx]; simp only; omega
      · exact ⟨t, by rw [show itF R lo (C + 1) = itF R lo C by simp only [itF]; rw [if_neg q], h1], h2⟩
theorem G_snoc : ∀ (o : List Sp) (f : Int) (t : Sp), G f (o ++ [t]) ↔ G f o ∧ okS t ∧ f ≤ t.1 ∧ ∀ s ∈ o, s.2 + 2 ≤ t.1
  | [], f, t => by simp [G]
  | h :: r, f, t => by
    simp only [List.cons_append, G, G_snoc r (h.2 + 2) t, List.mem_cons, forall_eq_or_imp]
    constructor
    · rintro ⟨a, b, c, d, e, g⟩
      exact ⟨⟨a, b, c⟩, d, by have := a.2.1; omega, e, g⟩
    · rintro ⟨⟨a, b, c⟩, d, _, e, g⟩
      exact ⟨a, b, c, d, e, g⟩
structure Nf (R : List It) (lo : Int) (k : Nat) (o : List Sp) : Prop where
  g : G 1 o
  hi : ∀ s ∈ o, s.2 + 1 ≤ lo + k
  has : ∀ n, (∃ s ∈ o, s.1 ≤ n ∧ n ≤ s.2) ↔ (lo ≤ n ∧ n < lo + k ∧ (getF R n).2 = false)
  len : o.length ≤ k
theorem Nf.step {R : List It} {lo : Int} {k : Nat} {o : List Sp} (h : Nf R lo k o) (hlo : 1 ≤ lo) (hk : lo + k ≤ 1000000) (hm : (getF R (lo + k)).2 = false) : Nf R lo (k + 1) (push o (lo + k) (lo + k)) := by
  have hg := h.g; have hhi := h.hi; have hhas := h.has; have hln := h.len
  have hiff : ∀ n, (lo ≤ n ∧ n < lo + ((k + 1 : Nat) : Int) ∧ (getF R n).2 = false) ↔ ((lo ≤ n ∧ n < lo + k ∧ (getF R n).2 = false) ∨ n = lo + k) := by
    intro n
    constructor
    · rintro ⟨a, b, c⟩
      by_cases e : n = lo + k
      · exact .inr e
      · exact .inl ⟨a, by omega, c⟩
    · rintro (⟨a, b, c⟩ | rfl)
      · exact ⟨a, by omega, c⟩
      · exact ⟨by omega, by omega, hm⟩
  rcases snoc_cases o with rfl | ⟨p, t, rfl⟩
  · rw [push_nil]
    refine ⟨⟨⟨by simp only; omega, by simp only; omega, by simp only; omega⟩, by simp only; omega, trivial⟩, fun s hs => by rw [List.mem_singleton.1 hs]; simp only; omega, fun n => ?_, by simp⟩
    rw [hiff, ← hhas n]
    constructor
    · rintro ⟨s, hs, a, b⟩
      rw [List.mem_singleton.1 hs] at a b
      simp only at a b
      exact .inr (by omega)
    · rintro (⟨s, hs, _⟩ | rfl)
      · simp at hs
      · exact ⟨_, List.mem_singleton.2 rfl, by simp only; omega, by simp only; omega⟩
  · obtain ⟨g1, g2, g3, g4⟩ := (G_snoc p 1 t).1 hg
    have ht := hhi t (by simp)
    rw [push_snoc]
    by_cases c : t.2 + 1 = lo + k
    · rw [if_pos c]
      refine ⟨(G_snoc p 1 _).2 ⟨g1, ⟨g2.1, by have := g2.2.1; simp only; omega, by simp only; omega⟩, g3, g4⟩, fun s hs => ?_, fun n => ?_, by simp only [List.length_append, List.length_cons, List.length_nil] at hln ⊢; omega⟩
      · rcases List.mem_append.1 hs with hs | hs
        · have := hhi s (by simp [hs]); omega
        · rw [List.mem_singleton.1 hs]; simp only; omega
      · rw [hiff, ← hhas n]
        constructor
        · rintro ⟨s, hs, a, b⟩
          rcases List.mem_append.1 hs with hs | hs
          · exact .inl ⟨s, by simp [hs], a, b⟩
          · rw [List.mem_singleton.1 hs] at a b
            simp only at a b
            by_cases e : n = lo + k
            · exact .inr e
            · exact .inl ⟨t, by simp, a, by omega⟩
        · rintro (⟨s, hs, a, b⟩ | rfl)
          · rcases List.mem_append.1 hs with hs | hs
            · exact ⟨s, by simp [hs], a, b⟩
            · rw [List.mem_singleton.1 hs] at a b
              exact ⟨(t.1, lo + k), by simp, a, by simp only; omega⟩
          · exact ⟨(t.1, lo + k), by simp, by have := g2.2.1; simp only; omega, by simp only; omega⟩
    · rw [if_neg c]
      refine ⟨(G_snoc (p ++ [t]) 1 _).2 ⟨hg, ⟨by simp only; omega, by simp only; omega, by simp only; omega⟩, by simp only; omega, fun s hs => ?_⟩, fun s hs => ?_, fun n => ?_, by simp only [List.length_append, List.length_cons, List.length_nil] at hln ⊢; omega⟩
      · rcases List.mem_append.1 hs with hs | hs
        · have := g4 s hs; have := g2.2.1; simp only; omega
        · rw [List.mem_singleton.1 hs]; simp only; omega
      · rcases List.mem_append.1 hs with hs | hs
        · have := hhi s hs; omega
        · rw [List.mem_singleton.1 hs]; simp only; omega
      · rw [hiff, ← hhas n]
        constructor
        · rintro ⟨s, hs, a, b⟩
          rcases List.mem_append.1 hs with hs | hs
          · exact .inl ⟨s, hs, a, b⟩
          · rw [List.mem_singleton.1 hs] at a b
            simp only at a b
            exact .inr (by omega)
        · rintro (⟨s, hs, a, b⟩ | rfl)
          · exact ⟨s, List.mem_append_left _ hs, a, b⟩
          · exact ⟨(lo + k, lo + k), by simp, by simp only; omega, by simp only; omega⟩
theorem noF_ok (R : List It) (lo : Int) (hlo : 1 ≤ lo) : ∀ (k : Nat), lo + k ≤ 1000000 → Nf R lo k (noF R lo k)
  | 0, _ => ⟨trivial, fun s hs => by simp [noF] at hs, fun n => ⟨fun ⟨s, hs, _⟩ => by simp [noF] at hs, fun ⟨a, b, _⟩ => by omega⟩, by simp [noF]⟩
  | k + 1, h => by
    have ih := noF_ok R lo hlo k (by omega)
    simp only [noF]
    by_cases q : (getF R (lo + k)).2 = true
    · rw [if_pos q]
      refine ⟨ih.g, fun s hs => by have := ih.hi s hs; omega, fun n => (ih.has n).trans ⟨fun ⟨a, b, c⟩ => ⟨a, by omega, c⟩, fun ⟨a, b, c⟩ => ⟨a, ?_, c⟩⟩, by have := ih.len; omega⟩
      apply Classical.byContradiction
      intro e
      have : n = lo + k := by omega
      rw [this, q] at c
      cases c
    · rw [if_neg q]
      exact ih.step hlo (by omega) (by simpa using q)
theorem dTi {p : Prop} {i : Decidable p} (h : p) : @decide p i = true := decide_eq_true h
theorem Serves_eq (N : Nat) (f : Fd) (lo hi : Int) (hN : 2000 ≤ N) (hl : f.2.2.1.length ≤ 6) (h1 : 1 ≤ f.1) (h2 : f.1 ≤ 1000) (h3 : 1 ≤ lo) (h4 : lo ≤ 1000) (h5 : 0 ≤ hi) (h6 : hi ≤ 1000) :
    W_nak_Serves N (f, lo, hi) = some (itF f.2.2.1 lo (min (min hi (f.1 - 1)) (lo + 7) + 1 - lo).toNat, noF f.2.2.1 lo (min (min hi (f.1 - 1)) (lo + 7) + 1 - lo).toNat) := by
  unfold W_nak_Serves
  simp only
  rw [dF (show ¬ f.1 < 1 by omega), cnd_f, wr_m (z := lo + 8) (by omega) (by omega), wr_m (z := lo + 8 - 1) (by omega) (by omega), show lo + 8 - 1 = lo + 7 by omega]
  obtain ⟨T, hT⟩ : ∃ T, min (min hi (f.1 - 1)) (lo + 7) = T := ⟨_, rfl⟩
  rw [hT]
  have hT7 : T ≤ lo + 7 := by omega
  refine loop_G (N := N) (fun o => o = some (itF f.2.2.1 lo (T + 1 - lo).toNat, noF f.2.2.1 lo (T + 1 - lo).toNat)) (fun k (v : Int × Fd × List It × List Sp) => v = (lo + (k : Int), f, itF f.2.2.1 lo k, noF f.2.2.1 lo k) ∧ k ≤ (T + 1 - lo).toNat) 8 (fun r : List It × List Sp => r = (itF f.2.2.1 lo (T + 1 - lo).toNat, noF f.2.2.1 lo (T + 1 - lo).toNat)) ⟨by simp [itF, noF], by omega⟩ (by omega) (fun r h => by rw [h]) (fun k v h => by have := h.2; omega) ?_
  rintro k v ⟨rfl, hk⟩
  simp only
  rw [wr_m (z := f.1 - 1) (by omega) (by omega), hT]
  by_cases c : lo + (k : Int) ≤ T
  case neg =>
    right
    rw [dF c, cnd_f]
    exact ⟨_, rfl, by rw [show k = (T + 1 - lo).toNat by omega]⟩
  left
  have hkl := itF_len f.2.2.1 lo k
  have hnl := (noF_ok f.2.2.1 lo h3 k (by omega)).len
  have w : wr .i64 (lo + (k : Int) + 1) = lo + ((k + 1 : Nat) : Int) := by rw [wr_m (by omega) (by omega)]; omega
  rw [dT c, cnd_t, Get_eq N _ _ hN (by omega), obind_s, w]
  by_cases q : (getF f.2.2.1 (lo + k)).2 = true
  · rw [q, cnd_t, dT (by simp only [List.length_singleton]; omega), cnd_t]
    refine ⟨_, rfl, ?_, by omega⟩
    simp only [itF, noF]
    rw [if_pos q, if_pos q]
  · have e1 : itF f.2.2.1 lo (k + 1) = itF f.2.2.1 lo k := by simp only [itF]; rw [if_neg q]
    have e2 : noF f.2.2.1 lo (k + 1) = push (noF f.2.2.1 lo k) (lo + k) (lo + k) := by simp only [noF]; rw [if_neg q]
    rw [Bool.not_eq_true] at q
    rw [q, cnd_f]
    refine ⟨(lo + ((k + 1 : Nat) : Int), f, itF f.2.2.1 lo (k + 1), noF f.2.2.1 lo (k + 1)), ?_, rfl, by omega⟩
    rw [e1, e2]
    generalize noF f.2.2.1 lo k = o at *
    unfold push
    by_cases p0 : 0 < o.length
    · have w1 : wr .i64 ((o.length : Int) - 1) = ((o.length - 1 : Nat) : Int) := by rw [wr_m (by omega) (by omega)]; omega
      have w2 : wr .i64 (lo + (k : Int) - 1) = lo + k - 1 := wr_m (by omega) (by omega)
      rw [w1, w2, dT (show (0 : Int) ≤ ((o.length - 1 : Nat) : Int) by omega), cnd_t, dT (show ((o.length - 1 : Nat) : Int) < o.length by omega), Bool.true_and, cnd_t, Int.toNat_natCast]
      by_cases p1 : (o.getD (o.length - 1) (0, 0)).2 = lo + k - 1
      · rw [dT p1, cnd_t, cnd_t, if_pos ⟨p0, by omega⟩]
      · rw [dF p1, cnd_f, dT (by simp only [List.length_singleton]; omega), cnd_t, if_neg (fun h => p1 (by omega))]
    · have w1 : wr .i64 ((o.length : Int) - 1) = -1 := by rw [wr_m (by omega) (by omega)]; omega
      rw [w1, dF (by omega), cnd_f, dT (by simp only [List.length_singleton]; omega), cnd_t, if_neg (fun h => p0 h.1)]
theorem HasN (N : Nat) (R : List It) (lo n : Int) (C : Nat) (hN : 2000 ≤ N) (h1 : 1 ≤ lo) (h2 : lo ≤ 1000) (h3 : C ≤ 8) : W_ref1_HasSpan N (noF R lo C, n) = some (decide (lo ≤ n ∧ n < lo + C ∧ (getF R n).2 = false)) := by
  have h := noF_ok R lo h1 C (by omega)
  rw [rHasS_eq N _ n (by have := h.len; omega) (by have := h.len; omega)]
  congr 1
  exact decide_eq_decide.2 (h.has n)
theorem itF_at (R : List It) (lo : Int) (C k : Nat) (hk : k < C) (h : (getF R (lo + k)).2 = true) : (itF R lo k).length < (itF R lo C).length ∧ (itF R lo C).getD (itF R lo k).length iD = (lo + k, (getF R (lo + k)).1) ∧ (itF R lo (k + 1)).length = (itF R lo k).length + 1 := by
  obtain ⟨t, e, _⟩ := itF_pre R lo C (k + 1) (by omega)
  have e1 : itF R lo (k + 1) = itF R lo k ++ [(lo + k, (getF R (lo + k)).1)] := by simp only [itF]; rw [if_pos h]
  rw [e, e1]
  refine ⟨by simp, ?_, by simp⟩
  rw [List.getD_eq_getElem?_getD, List.append_assoc, List.getElem?_append_right (Nat.le_refl _)]; simp
theorem itF_no (R : List It) (lo : Int) (C k : Nat) (hk : k < C) (h : (getF R (lo + k)).2 = false) : ((itF R lo k).length < (itF R lo C).length → ((itF R lo C).getD (itF R lo k).length iD).1 ≠ lo + k) ∧ itF R lo (k + 1) = itF R lo k := by
  obtain ⟨t, e, ht⟩ := itF_pre R lo C (k + 1) (by omega)
  have e1 : itF R lo (k + 1) = itF R lo k := by simp only [itF]; rw [if_neg (by rw [h]; simp)]
  refine ⟨?_, e1⟩
  rw [e, e1]
  intro hl
  rw [List.getD_eq_getElem?_getD, List.getElem?_append_right (Nat.le_refl _), Nat.sub_self]
  cases t with
  | nil => simp at hl
  | cons a r => have := ht a (by simp); simp only [List.getElem?_cons_zero, Option.getD_some]; omega
theorem law_aux (N : Nat) (hN : 2000 ≤ N) (l : List Int) (hel : ∀ x ∈ l, 0 ≤ x ∧ x ≤ 255) (a b : Int) (ha : 0 ≤ a) (ha2 : a ≤ 255) (hb : 0 ≤ b) (hb2 : b ≤ 255) : W_law17_NakServes N (l, a, b) = some true := by
  unfold W_law17_NakServes
  simp only
  by_cases h60 : (60 : Int) < l.length
  · rw [dT h60, cnd_t]
  rw [dF h60, cnd_f]
  unfold W_Made
  rw [obind_s]
  simp only
  obtain ⟨f, n', e, hF⟩ := Feed_spec N hN l hel
  rw [e, obind_s]
  simp only
  rw [Int.tmod_eq_emod_of_nonneg ha, Int.tmod_eq_emod_of_nonneg hb, wr_m (z := a % 20) (by omega) (by omega), wr_m (z := b % 12) (by omega) (by omega), wr_m (z := 1 + a % 20) (by omega) (by omega)]
  obtain ⟨lo, hlo⟩ : ∃ lo, 1 + a % 20 = lo := ⟨_, rfl⟩
  rw [hlo, wr_m (z := lo + b % 12) (by omega) (by omega)]
  obtain ⟨hi, hhi⟩ : ∃ hi, lo + b % 12 = hi := ⟨_, rfl⟩
  have l1 : 1 ≤ lo := by omega
  have l2 : lo ≤ 20 := by omega
  have l3 : lo ≤ hi := by omega
  have l4 : hi ≤ lo + 11 := by omega
  rw [hhi, wr_m (z := lo + 8) (by omega) (by omega), wr_m (z := lo - 1) (by omega) (by omega), wr_m (z := hi + 1) (by omega) (by omega)]
  clear hlo hhi ha ha2 hb hb2 h60 e hel
  have f1 := hF.nx
  have f2 := hF.rl
  clear hF
  rw [Serves_eq N f lo hi hN f2 (by omega) (by omega) l1 (by omega) (by omega) (by omega), obind_s]
  simp only
  obtain ⟨C, hC⟩ : ∃ C, (min (min hi (f.1 - 1)) (lo + 7) + 1 - lo).toNat = C := ⟨_, rfl⟩
  rw [hC]
  have c8 : C ≤ 8 := by omega
  have hno := noF_ok f.2.2.1 lo l1 C (by omega)
  rw [rMayS_eq N _ (by have := hno.len; omega) (by have := hno.len; omega), dTi hno.g, obind_s, Bool.not_true, cnd_f]
  have hit := itF_len f.2.2.1 lo C
  refine loop_G (N := N) (fun o => o = some true) (fun k (v : Int × Int × Fd) => v = (((itF f.2.2.1 lo (min k C)).length : Int), lo + (k : Int), f) ∧ lo + (k : Int) ≤ hi + 1) 12 (fun r : Int ⊕ Bool => r = .inl ((itF f.2.2.1 lo C).length : Int)) ⟨by simp [itF], by omega⟩ (by omega) (fun r h => ?_) (fun k v h => by have := h.2; omega) ?_
  · rw [h, selim_l, dT rfl, cnd_t, HasN N _ _ _ _ hN l1 (by omega) c8, obind_s, obind_s, dF (by omega), Bool.not_false, cnd_t, HasN N _ _ _ _ hN l1 (by omega) c8, obind_s, dF (by omega), Bool.not_false]
  rintro k v ⟨rfl, hk⟩
  simp only
  by_cases ce : lo + (k : Int) ≤ hi
  case neg =>
    right
    rw [dF ce, cnd_f]
    exact ⟨_, rfl, by rw [show min k C = C by omega]⟩
  left
  have w : wr .i64 (lo + (k : Int) + 1) = lo + ((k + 1 : Nat) : Int) := by rw [wr_m (by omega) (by omega)]; omega
  rw [dT ce, cnd_t, rGet_eq N _ _ hN (by omega), obind_s, w, HasN N _ _ _ _ hN l1 (by omega) c8]
  by_cases ck : k < C
  · rw [show min k C = k by omega, show min (k + 1) C = k + 1 by omega]
    rw [dT (show lo + (k : Int) < f.1 by omega), cnd_t, dT (show lo + (k : Int) < lo + 8 by omega)]
    by_cases q : (getF f.2.2.1 (lo + k)).2 = true
    · obtain ⟨q1, q2, q3⟩ := itF_at f.2.2.1 lo C k ck q
      rw [dT (show ((itF f.2.2.1 lo k).length : Int) < (itF f.2.2.1 lo C).length by omega), dT (show (0 : Int) ≤ ((itF f.2.2.1 lo k).length : Int) by omega), Int.toNat_natCast, q2, q, dT rfl]
      rw [dF (show ¬ (lo ≤ lo + (k : Int) ∧ lo + (k : Int) < lo + C ∧ true = false) by simp)]
      simp only [cnd_t, cnd_f, obind_s, Bool.and_self, Bool.not_true, Bool.not_false, beq_self_eq_true]
      exact ⟨_, rfl, by rw [q3, wr_m (by omega) (by omega)]; simp, by omega⟩
    · rw [Bool.not_eq_true] at q
      obtain ⟨q1, q2⟩ := itF_no f.2.2.1 lo C k ck q
      rw [q, q2]
      rw [dT (show (lo ≤ lo + (k : Int) ∧ lo + (k : Int) < lo + C ∧ false = false) from ⟨by omega, by omega, rfl⟩)]
      by_cases cn : (itF f.2.2.1 lo k).length < (itF f.2.2.1 lo C).length
      · rw [dT (show ((itF f.2.2.1 lo k).length : Int) < (itF f.2.2.1 lo C).length by omega), dT (show (0 : Int) ≤ ((itF f.2.2.1 lo k).length : Int) by omega), Int.toNat_natCast, dF (q1 cn)]
        simp only [cnd_t, cnd_f, obind_s, Bool.and_self, Bool.not_true, Bool.not_false, beq_self_eq_true]
        exact ⟨_, rfl, rfl, by omega⟩
      · rw [dF (show ¬ ((itF f.2.2.1 lo k).length : Int) < (itF f.2.2.1 lo C).length by omega)]
        simp only [cnd_t, cnd_f, obind_s, Bool.and_self, Bool.not_true, Bool.not_false, beq_self_eq_true]
        exact ⟨_, rfl, rfl, by omega⟩
  · rw [show min k C = C by omega, show min (k + 1) C = C by omega]
    rw [dF (show ¬ ((itF f.2.2.1 lo C).length : Int) < (itF f.2.2.1 lo C).length by omega)]
    rw [dF (show ¬ (lo ≤ lo + (k : Int) ∧ lo + (k : Int) < lo + C ∧ (getF f.2.2.1 (lo + k)).2 = false) by omega)]
    by_cases cf : lo + (k : Int) < f.1
    · rw [dT cf, cnd_t, dF (show ¬ lo + (k : Int) < lo + 8 by omega)]
      simp only [cnd_t, cnd_f, obind_s, Bool.and_self, Bool.not_true, Bool.not_false, beq_self_eq_true]
      exact ⟨_, rfl, rfl, by omega⟩
    · rw [dF cf, cnd_f]
      simp only [cnd_t, cnd_f, obind_s, Bool.and_self, Bool.not_true, Bool.not_false, beq_self_eq_true]
      exact ⟨_, rfl, rfl, by omega⟩
def NN : Nat := 2000
theorem law_true (y0 : List Int) (y1 : Int) (y2 : Int) (h0 : Twf (.list (.int .u8)) y0) (h1 : Twf (.int .u8) y1) (h2 : Twf (.int .u8) y2) : W_law17_NakServes NN (y0, y1, y2) = some true := by
  refine law_aux NN (Nat.le_refl _) y0 ?_ y1 y2 h1.1 (by have : y1 ≤ 255 := h1.2; omega) h2.1 (by have : y2 ≤ 255 := h2.2; omega)
  intro x hx
  have := h0.2 x hx
  exact ⟨this.1, this.2⟩

theorem spec (y0 : List Int) (y1 : Int) (y2 : Int) (h0 : Twf (.list (.int .u8)) y0) (h1 : Twf (.int .u8) y1) (h2 : Twf (.int .u8) y2) : Spec2 P0 3 [valW (.list (.int .u8)) y0, valW (.int .u8) y1, valW (.int .u8) y2] [] (.bs true) [] [] := (con_law17_NakServes_ok NN).2 (y0, y1, y2) true (law_true y0 y1 y2 h0 h1 h2)
theorem lifted (os : Os) (started : os.Started) (H : Type) (enc : TypeId × Value → H) :
    ReturnsInHanded {} Try.checked os 3 .any (Rows.nakServesSpec.pre6 enc Try.prog Try.f3 Rows.nakServesRow.domain false) (Rows.nakServesSpec.post enc Try.prog Try.f3 false true false false) := by
  refine returnsInHanded_of_change (C := Try.checked) own started (by kernel_rfl) Try.func3
    (ChangeSpec.witness6 (enc := enc) (C := Try.checked) false ⟨#[], #[.slice none 0 0, .int .u8 0, .int .u8 0], []⟩ 8 (by kernel_rfl) (by kernel_rfl) (by kernel_rfl) (by kernel_rfl)) ?_
  intro W base args ds gs before hval0 hW hcnd _
  have hval : ∀ (j : Nat) t v, Try.f3.params[j]? = some t → args[j]? = some v → Value.okWide Try.prog W .any base t v := hval0
  have hW' := hW
  obtain ⟨p, q, hA0, hV, rfl, hfz, hnd⟩ := hW
  have hA : DataW.TrodAll enc Try.prog W 0 (fun _ => true) true Try.f3.params.toList args.toList ds p := hA0
  rw [Try.params3] at hA hval
  obtain ⟨v0, vs0, d0, ds0, p0, q0, hargs, rfl, rfl, h0, r0⟩ := trodAll_cons hA
  obtain ⟨v1, vs1, d1, ds1, p1, q1, rfl, rfl, rfl, h1, r1⟩ := trodAll_cons r0
  obtain ⟨v2, vs2, d2, ds2, p2, q2, rfl, rfl, rfl, h2, r2⟩ := trodAll_cons r1
  obtain ⟨rfl, rfl, rfl⟩ := trodAll_nil r2
  obtain rfl : args = #[v0, v1, v2] := by cases args; simp_all
  obtain ⟨rfl, rfl⟩ := trodVars_none hV
  have k0 := h0
  have lt0 : ∀ x ∈ p0, x.block < W.heap.size := by obtain ⟨m, hm⟩ := k0; exact DataW.trod_lt m _ _ _ hm
  obtain ⟨y0, rp0, wf0⟩ := arg_ok (n := 12) (ty := (.list (.int .u8))) (by kernel_rfl) (hval 0 _ v0 rfl rfl) h0
  have k1 := h1
  have lt1 : ∀ x ∈ p1, x.block < W.heap.size := by obtain ⟨m, hm⟩ := k1; exact DataW.trod_lt m _ _ _ hm
  obtain ⟨y1, rp1, wf1⟩ := arg_ok (n := 12) (ty := (.int .u8)) (by kernel_rfl) (hval 1 _ v1 rfl rfl) h1
  have k2 := h2
  have lt2 : ∀ x ∈ p2, x.block < W.heap.size := by obtain ⟨m, hm⟩ := k2; exact DataW.trod_lt m _ _ _ hm
  obtain ⟨y2, rp2, wf2⟩ := arg_ok (n := 12) (ty := (.int .u8)) (by kernel_rfl) (hval 2 _ v2 rfl rfl) h2
  clear hA0 hval0
  refine (law_of2 (spec y0 y1 y2 wf0 wf1 wf2) W #[v0, v1, v2] (.cons rp0 (.cons rp1 (.cons rp2 .nil)))).mono fun e W' ⟨he, bel⟩ => ?_
  subst he
  exact ⟨_, rfl, _, _, _, [], _, [], hW', trodAll_mk1 (shut_bool Try.underlying4 _), (trodAll_cons_mk (Below.trod laidOut (by kernel_rfl) (of_decide_eq_true (by kernel_rfl)) k0 bel lt0) (trodAll_cons_mk (Below.trod laidOut (by kernel_rfl) (of_decide_eq_true (by kernel_rfl)) k1 bel lt1) (trodAll_cons_mk (Below.trod laidOut (by kernel_rfl) (of_decide_eq_true (by kernel_rfl)) k2 bel lt2) trodAll_mk0))), rfl, bel.frame _, fun h => by cases h⟩

theorem over : Rows.nakServesRow.holds Try.pinned (OpenSpec.ofChange Rows.nakServesSpec) :=
  OpenClaim.holds_of_wide 3 Try.f3 rfl rfl rfl rfl rfl rfl rfl ⟨rfl, rfl, rfl, rfl, rfl⟩ rfl rfl rfl rfl rfl (by kernel_rfl) Try.func3 (by kernel_rfl)
    (of_decide_eq_true (by kernel_rfl)) (by unfold Func.isWrapper; first | (rw [if_pos (by decide +kernel)]; kernel_rfl) | (rw [if_neg (by decide +kernel)]; exact ⟨rfl, rfl⟩))
    (fun os started H enc _ => lifted os started H enc)

theorem holds : Rows.NakServesSaid := over
end Go.Proofs.Ytkdgdpeoneegnaa.nakServesX
