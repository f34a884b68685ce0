/- NakAll: for all arguments the call returns true. The law is brought to a function of Lean's own (W_..) by the machine of the texts beside it, and that is reckoned; no condition. -/
import Derived.Test.YtigmbfeeodggbaaNakAllW0
namespace Go.Proofs.Ytigmbfeeodggbaa.nakAllX
open Go.Abs Go.RowKit Go.ChangeShapes Go.WideShapes Go.ChangeAt
set_option maxRecDepth 100000
set_option linter.unusedVariables false
set_option linter.unusedSimpArgs false
/-! What is reckoned. -/
-- PURE
theorem wr_m {z : Int} (h : -140737488355328 ≤ z) (h2 : z ≤ 140737488355328) : wr .i64 z = z := wr_i64 (by omega) (by omega)
theorem wr_s {z : Int} (h : 0 ≤ z) (h2 : z ≤ 140737488355328) : wr .i64 z = z := wr_i64 (by omega) (by omega)
theorem cnd_T {α : Type} {p : Prop} {i : Decidable p} {x y : α} (h : p) : cnd (@decide p i) x y = x := by rw [decide_eq_true h]; rfl
theorem cnd_F {α : Type} {p : Prop} {i : Decidable p} {x y : α} (h : ¬ p) : cnd (@decide p i) x y = y := by rw [decide_eq_false h]; rfl
theorem loopG {σ ρ : Type} {f : σ → Option (σ ⊕ ρ)} (I : Nat → σ → Prop) (B : Nat) (J : ρ → Prop) (hb : ∀ k x, I k x → k ≤ B) (hs : ∀ k x, I k x → (∃ y, f x = some (.inl y) ∧ I (k + 1) y) ∨ ∃ r, f x = some (.inr r) ∧ J r) :
    ∀ (M k : Nat) (x : σ), I k x → B < M + k → ∃ r, loopN M f x = some r ∧ J r
  | 0, k, x, h, hm => by have := hb k x h; omega
  | M + 1, k, x, h, hm => by
    rcases hs k x h with ⟨y, h1, h2⟩ | ⟨r, h1, h2⟩
    · obtain ⟨r, h4, h5⟩ := loopG I B J hb hs M (k + 1) y h2 (by omega)
      exact ⟨r, by simp only [loopN, h1]; exact h4, h5⟩
    · exact ⟨r, by simp only [loopN, h1], h2⟩
theorem loop_G {σ ρ β : Type} {f : σ → Option (σ ⊕ ρ)} {g : ρ → Option β} {x : σ} {N : Nat} (Q : Option β → Prop) (I : Nat → σ → Prop) (B : Nat) (J : ρ → Prop) (hx : I 0 x) (hm : B < N) (hk : ∀ r, J r → Q (g r)) (hb : ∀ k x, I k x → k ≤ B)
    (hs : ∀ k x, I k x → (∃ y, f x = some (.inl y) ∧ I (k + 1) y) ∨ ∃ r, f x = some (.inr r) ∧ J r) : Q (obind (loopN N f x) g) := by
  obtain ⟨r, h1, h2⟩ := loopG I B J hb hs N 0 x hx (by omega)
  rw [h1]; exact hk r h2
abbrev It := Int × List UInt8
abbrev iD : It := ((0 : Int), ([] : List UInt8))
abbrev Ev := Int × Int × Int × List UInt8 × Int
abbrev Sp := Int × Int
abbrev Fd := Int × Int × List It × List It × List Ev × Int × Int
def z7 : Fd := (0, 0, [], [], [], 0, 0)
def addR (l : List It) (e : It) : List It := if 6 ≤ l.length then (l ++ [e]).drop 1 else l ++ [e]
theorem addR_len (l : List It) (e : It) (hl : l.length ≤ 6) : (addR l e).length = min (l.length + 1) 6 := by
  unfold addR
  split <;> simp <;> omega
theorem drop_consI {l : List It} {i : Nat} (h : i < l.length) : l.drop i = l.getD i iD :: l.drop (i + 1) := by
  rw [List.drop_eq_getElem_cons h, List.getD_eq_getElem?_getD, List.getElem?_eq_getElem h]; rfl
/-- What a row has under a number. -/
def getF : List It → Int → List UInt8 × Bool
  | [], _ => ([], false)
  | w :: r, s => if w.1 = s then (w.2, true) else getF r s
/-- Rising from n on, up to K. -/
def Wk (n K : Int) : List It → Prop
  | [] => True
  | w :: r => n ≤ w.1 ∧ w.1 ≤ K ∧ Wk (w.1 + 1) K r
theorem Wk.mono : ∀ {l : List It} {n n' K K' : Int}, Wk n K l → n' ≤ n → K ≤ K' → Wk n' K' l
  | [], _, _, _, _, _, _, _ => trivial
  | w :: r, n, n', K, K', h, h1, h2 => ⟨by have := h.1; omega, by have := h.2.1; omega, h.2.2.mono (Int.le_refl _) h2⟩
theorem Wk.len : ∀ {l : List It} {n K : Int}, Wk n K l → n ≤ K + 1 → (l.length : Int) ≤ K + 1 - n
  | [], _, _, _, _ => by simp; omega
  | w :: r, n, K, h, h1 => by
    have := h.2.2.len (by have := h.2.1; omega)
    have := h.1
    simp only [List.length_cons]; omega
theorem Wk.mem : ∀ {l : List It} {n K : Int}, Wk n K l → ∀ w ∈ l, n ≤ w.1 ∧ w.1 ≤ K
  | [], _, _, _, _, h => by simp at h
  | x :: r, n, K, h, w, hw => by
    rcases List.mem_cons.1 hw with rfl | hw
    · exact ⟨h.1, h.2.1⟩
    · have := h.2.2.mem w hw; have := h.1; omega
theorem Wk.last : ∀ {l : List It} {n K : Int}, Wk n K l → ∀ _ : 0 < l.length, (l.getD (l.length - 1) iD).1 ≤ K := by
  intro l n K h hl
  have : l.getD (l.length - 1) iD ∈ l := by
    rw [List.getD_eq_getElem?_getD, List.getElem?_eq_getElem (by omega)]; exact List.getElem_mem (by omega)
  exact (h.mem _ this).2
theorem Wk.snoc : ∀ {l : List It} {n K K' : Int} {e : It}, Wk n K l → n ≤ e.1 → K < e.1 → e.1 ≤ K' → Wk n K' (l ++ [e])
  | [], _, _, _, _, _, h1, _, h3 => ⟨h1, h3, trivial⟩
  | w :: r, n, K, K', e, h, h1, h2, h3 => by
    have := h.2.1
    exact ⟨h.1, by omega, h.2.2.snoc (by omega) h2 h3⟩
theorem Wk.drop1 : ∀ {l : List It} {n K : Int}, Wk n K l → Wk n K (l.drop 1)
  | [], _, _, _ => trivial
  | w :: r, n, K, h => h.2.2.mono (by have := h.1; omega) (Int.le_refl _)
theorem Wk.ring {l : List It} {n : Int} {e : It} {K : Int} (h : Wk 1 (n - 1) l) (h1 : 1 ≤ n) (he : e.1 = n) (hK : n ≤ K) : Wk 1 K (addR l e) := by
  have := h.snoc (e := e) (K' := K) (by omega) (by omega) (by omega)
  unfold addR
  split
  · exact this.drop1
  · exact this
def insW (x : It) : List It → List It
  | [] => [x]
  | w :: r => if x.1 < w.1 then x :: w :: r else w :: insW x r
theorem insW_len (x : It) : ∀ l, (insW x l).length = l.length + 1
  | [] => rfl
  | w :: r => by
    simp only [insW]
    split
    · rfl
    · simp only [List.length_cons, insW_len x r]
theorem Wk.ins : ∀ {l : List It} {n K : Int} {x : It}, Wk n K l → n ≤ x.1 → x.1 ≤ K → (getF l x.1).2 = false → Wk n K (insW x l)
  | [], n, K, x, _, h1, h2, _ => ⟨h1, h2, trivial⟩
  | w :: r, n, K, x, h, h1, h2, h3 => by
    simp only [getF] at h3
    by_cases c : w.1 = x.1
    · rw [if_pos c] at h3; cases h3
    rw [if_neg c] at h3
    simp only [insW]
    split
    · exact ⟨h1, h2, by omega, h.2.1, h.2.2⟩
    · exact ⟨h.1, h.2.1, h.2.2.ins (by omega) h2 h3⟩
/-- What an item is put to. -/
def putM (l : List It) (n : Int) (x : It) : List It × Bool :=
  if x.1 < n ∨ 8 ≤ x.1 - n ∨ (getF l x.1).2 = true then (l, false) else (insW x l, true)
/-- What is told whose turn it is: items, next, ring, window, log. -/
def goM : List It → Int → List It → List Ev → List It × Int × List It × List It × List Ev
  | [], n, R, L => ([], n, R, [], L)
  | w :: r, n, R, L => if w.1 = n then (w :: (goM r (n + 1) (addR R w) (L ++ [(1, w.1, w.1, w.2, 0)])).1, (goM r (n + 1) (addR R w) (L ++ [(1, w.1, w.1, w.2, 0)])).2) else ([], n, R, w :: r, L)
def goesM (f : Fd) : List It × Fd :=
  let q := goM f.2.2.2.1 f.1 f.2.2.1 f.2.2.2.2.1
  (q.1, q.2.1, f.2.1, q.2.2.1, q.2.2.2.1, q.2.2.2.2, if q.1 = [] then f.2.2.2.2.2 else (0, 0))
/-- One turn of what is skipped: to hi, or to the first one ahead, and what goes then. -/
def skR (hi why : Int) : Nat → Int → List It → List It → List Ev → List Sp → List Sp × Int × List It × List It × List Ev
  | 0, n, R, W, L, o => (o, n, R, W, L)
  | j + 1, n, R, W, L, o =>
    if n ≤ hi then
      match W with
      | [] => skR hi why j (hi + 1) R [] (L ++ [(2, n, hi, [], why)]) (o ++ [(n, hi)])
      | w :: r =>
        if w.1 ≤ hi then
          if n < w.1 then
            let q := goM (w :: r) w.1 R (L ++ [(2, n, w.1 - 1, [], why)])
            skR hi why j q.2.1 q.2.2.1 q.2.2.2.1 q.2.2.2.2 (o ++ [(n, w.1 - 1)])
          else
            let q := goM (w :: r) n R L
            skR hi why j q.2.1 q.2.2.1 q.2.2.2.1 q.2.2.2.2 o
        else skR hi why j (hi + 1) R (w :: r) (L ++ [(2, n, hi, [], why)]) (o ++ [(n, hi)])
    else (o, n, R, W, L)
def skipsM (f : Fd) (hi why : Int) : List Sp × Fd :=
  if f.1 < 1 ∨ 1000000 < hi then ([], f) else
    let q := skR hi why (f.2.2.2.1.length + 2) f.1 f.2.2.1 f.2.2.2.1 f.2.2.2.2.1 []
    (q.1, q.2.1, f.2.1, q.2.2.1, q.2.2.2.1, q.2.2.2.2, if f.1 ≤ hi then (0, 0) else f.2.2.2.2.2)
def knowsM (f : Fd) (t : Int) : Fd := if 0 < f.1 ∧ t ≤ 1000000 then (f.1, max f.2.1 t, f.2.2) else f
def beginM (f : Fd) (n : Int) : Fd := if 0 < f.1 then knowsM f (n - 1) else if 1 ≤ n ∧ n ≤ 1000000 then (n, f.2) else f
def wantsM (f : Fd) : Bool × Int × Int :=
  let hi := match f.2.2.2.1 with
    | [] => f.2.1
    | w :: _ => w.1 - 1
  if f.1 = 0 ∨ hi < f.1 then (false, 0, 0) else (true, f.1, hi)
def notesM (f : Fd) (lo hi : Int) : Fd :=
  if f.1 = 0 ∨ lo < 1 ∨ hi < lo ∨ 1000000 < hi then f else
    let g := knowsM f hi
    if f.1 < lo ∨ hi < f.1 then g else (goesM (skipsM g hi 1).2).2
def comesM (f : Fd) (x : It) : Fd :=
  if f.1 = 0 ∨ x.1 < 1 ∨ 1000000 < x.1 ∨ (12 : Int) < x.2.length then f else
    let g := knowsM f x.1
    (goesM (g.1, g.2.1, g.2.2.1, (putM g.2.2.2.1 g.1 x).1, g.2.2.2.2)).2
def nowM (a : Int × Int) (now : Int) : Bool := if a.1 = 0 then true else decide (a.2 ≤ now)
def triedM (a : Int × Int) (now : Int) : Int × Int := (a.1 + 1, now + 2 * 2 ^ (min a.1.toNat 3))
def tickM (f : Fd) (now : Int) : Bool × Fd × Int × Int :=
  let s := wantsM f
  if s.1 = false ∨ nowM f.2.2.2.2.2 now = false then (false, f, 0, 0) else
    if 3 ≤ f.2.2.2.2.2.1 then (false, (goesM (skipsM f s.2.2 2).2).2, 0, 0) else
      (true, (f.1, f.2.1, f.2.2.1, f.2.2.2.1, f.2.2.2.2.1, triedM f.2.2.2.2.2 now), s.2.1, s.2.2)
/-- A log that goes from n up to m. -/
def Ch : Int → List Ev → Int → Prop
  | n, [], m => n = m
  | n, e :: r, m => e.2.1 = n ∧ e.2.1 ≤ e.2.2.1 ∧ Ch (e.2.2.1 + 1) r m
theorem Ch.len : ∀ {L : List Ev} {n m : Int}, Ch n L m → (L.length : Int) ≤ m - n
  | [], _, _, h => by have h' : _ = _ := h; simp; omega
  | e :: r, n, m, h => by
    have := h.2.2.len; have := h.1; have := h.2.1
    simp only [List.length_cons]; omega
theorem Ch.snoc : ∀ {L : List Ev} {n m : Int} {e : Ev}, Ch n L m → e.2.1 = m → m ≤ e.2.2.1 → Ch n (L ++ [e]) (e.2.2.1 + 1)
  | [], _, _, e, h, h1, h2 => by have h' : _ = _ := h; exact ⟨by omega, by omega, rfl⟩
  | x :: r, n, m, e, h, h1, h2 => ⟨h.1, h.2.1, h.2.2.snoc h1 h2⟩
/-- Such parts of a feed as may be. -/
structure Fp (K c n : Int) (R W : List It) (L : List Ev) : Prop where
  nx : 1 ≤ n ∧ n ≤ K + 1
  rk : Wk 1 (n - 1) R
  rl : R.length ≤ 6
  wk : Wk n (min K (n + 7)) W
  ch : Ch c L n
  c0 : 0 ≤ c
theorem Fp.tell {K c n : Int} {R r : List It} {w : It} {L : List Ev} (h : Fp K c n R (w :: r) L) (hw : w.1 = n) : Fp K c (n + 1) (addR R w) r (L ++ [(1, w.1, w.1, w.2, 0)]) := by
  obtain ⟨⟨a, b⟩, rk, rl, wk, ch, c0⟩ := h
  have hk := wk.2.1
  refine ⟨⟨by omega, by omega⟩, rk.ring a hw (by omega), by rw [addR_len _ _ rl]; omega, wk.2.2.mono (by omega) (by omega), ?_, c0⟩
  have := ch.snoc (e := (1, w.1, w.1, w.2, 0)) hw (by simp only; omega)
  simp only at this
  rw [hw] at this ⊢
  exact this
theorem Fp.skip {K c n : Int} {R W : List It} {L : List Ev} (h : Fp K c n R W L) {m why : Int} (hm : n ≤ m) (hk : m ≤ K) (hw : Wk (m + 1) (min K (n + 7)) W) : Fp K c (m + 1) R W (L ++ [(2, n, m, [], why)]) := by
  obtain ⟨⟨a, b⟩, rk, rl, wk, ch, c0⟩ := h
  exact ⟨⟨by omega, by omega⟩, rk.mono (Int.le_refl _) (by omega), rl, hw.mono (Int.le_refl _) (by omega), ch.snoc rfl hm, c0⟩
/-- What goes is as it may be; how far it went. -/
theorem goM_ok {K c : Int} : ∀ (W : List It) (n : Int) (R : List It) (L : List Ev), Fp K c n R W L → Fp K c (goM W n R L).2.1 (goM W n R L).2.2.1 (goM W n R L).2.2.2.1 (goM W n R L).2.2.2.2 ∧
    Wk ((goM W n R L).2.1 + 1) (min K ((goM W n R L).2.1 + 7)) (goM W n R L).2.2.2.1 ∧ n + (goM W n R L).1.length = (goM W n R L).2.1 ∧ (goM W n R L).1 ++ (goM W n R L).2.2.2.1 = W ∧ (goM W n R L).2.2.2.2 = L ++ (goM W n R L).1.map fun w => (1, w.1, w.1, w.2, 0)
  | [], n, R, L, h => ⟨h, trivial, by simp [goM], rfl, by simp [goM]⟩
  | w :: r, n, R, L, h => by
    unfold goM
    by_cases c1 : w.1 = n
    · rw [if_pos c1]
      obtain ⟨h1, h2, h3, h4, h5⟩ := goM_ok r (n + 1) _ _ (h.tell c1)
      refine ⟨h1, h2, by simp only [List.length_cons]; omega, by simp only [List.cons_append, h4], ?_⟩
      simp only [h5, List.map_cons, List.append_assoc, List.cons_append, List.nil_append]
    · rw [if_neg c1]
      have := h.wk.1
      refine ⟨h, ⟨by simp only; omega, h.wk.2⟩, by simp, rfl, by simp⟩
theorem goM_head {w : It} {r R : List It} {n : Int} {L : List Ev} (h : w.1 = n) : (goM (w :: r) n R L).1 ≠ [] ∧ (goM (w :: r) n R L).2.2.2.1.length ≤ r.length := by
  have hl : ∀ (W : List It) (n : Int) (R : List It) (L : List Ev), (goM W n R L).2.2.2.1.length ≤ W.length := by
    intro W
    induction W with
    | nil => intro n R L; simp [goM]
    | cons w r ih =>
      intro n R L
      unfold goM
      split
      · have := ih (n + 1) (addR R w) (L ++ [(1, w.1, w.1, w.2, 0)]); simp only [List.length_cons]; omega
      · simp
  unfold goM
  rw [if_pos h]
  exact ⟨by simp, hl _ _ _ _⟩
theorem skR_ok {K c hi why : Int} (hK : hi ≤ K) : ∀ (j : Nat) (n : Int) (R W : List It) (L : List Ev) (o : List Sp), Fp K c n R W L → (n ≤ hi → W.length + 1 ≤ j) →
    Fp K c (skR hi why j n R W L o).2.1 (skR hi why j n R W L o).2.2.1 (skR hi why j n R W L o).2.2.2.1 (skR hi why j n R W L o).2.2.2.2 ∧ hi < (skR hi why j n R W L o).2.1 ∧ n ≤ (skR hi why j n R W L o).2.1
  | 0, n, R, W, L, o, h, hj => by
    have : ¬ n ≤ hi := fun q => by have := hj q; omega
    exact ⟨h, by simp only [skR]; omega, by simp only [skR]; omega⟩
  | j + 1, n, R, W, L, o, h, hj => by
    unfold skR
    by_cases c0 : n ≤ hi
    case neg => rw [if_neg c0]; exact ⟨h, by simp only; omega, by simp only; omega⟩
    rw [if_pos c0]
    have hj := hj c0
    cases W with
    | nil =>
      simp only
      obtain ⟨a1, a2, a3⟩ := skR_ok hK j (hi + 1) R [] (L ++ [(2, n, hi, [], why)]) (o ++ [(n, hi)]) (h.skip c0 hK trivial) (fun q => by omega)
      exact ⟨a1, a2, by omega⟩
    | cons w r =>
      simp only [List.length_cons] at hj
      simp only
      have hw := h.wk
      by_cases c1 : w.1 ≤ hi
      · rw [if_pos c1]
        by_cases c2 : n < w.1
        · rw [if_pos c2]
          have hs : Fp K c w.1 R (w :: r) (L ++ [(2, n, w.1 - 1, [], why)]) := by
            have := h.skip (m := w.1 - 1) (why := why) (by omega) (by omega) ⟨by omega, hw.2⟩
            rwa [show w.1 - 1 + 1 = w.1 by omega] at this
          obtain ⟨g1, g2, g3, g4, _⟩ := goM_ok _ _ _ _ hs
          obtain ⟨g5, g6⟩ := goM_head (r := r) (R := R) (L := L ++ [(2, n, w.1 - 1, [], why)]) (rfl : w.1 = w.1)
          obtain ⟨a1, a2, a3⟩ := skR_ok hK j _ _ _ _ (o ++ [(n, w.1 - 1)]) g1 (fun q => by omega)
          exact ⟨a1, a2, by omega⟩
        · rw [if_neg c2]
          have e : w.1 = n := by have := hw.1; omega
          obtain ⟨g1, g2, g3, g4, _⟩ := goM_ok _ _ _ _ h
          obtain ⟨g5, g6⟩ := goM_head (r := r) (R := R) (L := L) e
          obtain ⟨a1, a2, a3⟩ := skR_ok hK j _ _ _ _ o g1 (fun q => by omega)
          exact ⟨a1, a2, by omega⟩
      · rw [if_neg c1]
        obtain ⟨a1, a2, a3⟩ := skR_ok hK j (hi + 1) R (w :: r) (L ++ [(2, n, hi, [], why)]) (o ++ [(n, hi)]) (h.skip c0 hK ⟨by omega, hw.2⟩) (fun q => by omega)
        exact ⟨a1, a2, by omega⟩
/-- A loop over a list, by a function of Lean's own. -/
theorem loop_rec {σ τ ρ α : Type} (d : α) (l : List α) (mk : Int → σ → τ) (R : List α → σ → ρ) (Inv : σ → List α → Prop) {f : τ → Option (τ ⊕ ρ)}
    (hend : ∀ s, Inv s [] → f (mk l.length s) = some (.inr (R [] s)))
    (hstep : ∀ (i : Nat) (h : α) (r : List α) (s : σ), i < l.length → l.getD i d = h → Inv s (h :: r) → (∃ s', f (mk i s) = some (.inl (mk ((i : Int) + 1) s')) ∧ R (h :: r) s = R r s' ∧ Inv s' r) ∨ f (mk i s) = some (.inr (R (h :: r) s)))
    {N : Nat} {s : σ} (hN : l.length < N) (h0 : Inv s l) : loopN N f (mk 0 s) = some (R l s) := by
  have key : ∀ (rest pre : List α) (N : Nat) (s : σ), l = pre ++ rest → rest.length < N → Inv s rest → loopN N f (mk pre.length s) = some (R rest s) := by
    intro rest
    induction rest with
    | nil =>
      intro pre N s e hN hI
      obtain ⟨M, rfl⟩ : ∃ M, N = M + 1 := ⟨N - 1, by simp at hN; omega⟩
      rw [List.append_nil] at e
      subst e
      simp only [loopN, hend s hI]
    | cons h r ih =>
      intro pre N s e hN hI
      obtain ⟨M, rfl⟩ : ∃ M, N = M + 1 := ⟨N - 1, by simp at hN; omega⟩
      have hg : l.getD pre.length d = h := by rw [e, List.getD_eq_getElem?_getD, List.getElem?_append_right (Nat.le_refl _)]; simp
      have hi : pre.length < l.length := by rw [e]; simp
      rcases hstep pre.length h r s hi hg hI with ⟨s', h1, h2, h3⟩ | h1
      · simp only [loopN, h1]
        rw [h2]
        have := ih (pre ++ [h]) M s' (by rw [e]; simp) (by simp at hN; omega) h3
        simpa using this
      · simp only [loopN, h1]
  have := key l [] N s rfl hN h0
  simpa using this
theorem obind_rec {σ τ ρ α β : Type} (d : α) (l : List α) (mk : Int → σ → τ) (R : List α → σ → ρ) (Inv : σ → List α → Prop) {f : τ → Option (τ ⊕ ρ)} {N : Nat} (s : σ) {x : τ} {k : ρ → Option β} {res : Option β} (hx : x = mk 0 s) (hN : l.length < N) (h0 : Inv s l) (hk : k (R l s) = res)
    (hend : ∀ s, Inv s [] → f (mk l.length s) = some (.inr (R [] s)))
    (hstep : ∀ (i : Nat) (h : α) (r : List α) (s : σ), i < l.length → l.getD i d = h → Inv s (h :: r) → (∃ s', f (mk i s) = some (.inl (mk ((i : Int) + 1) s')) ∧ R (h :: r) s = R r s' ∧ Inv s' r) ∨ f (mk i s) = some (.inr (R (h :: r) s))) : obind (loopN N f x) k = res := by
  subst hx
  rw [loop_rec d l mk R Inv hend hstep hN h0]
  exact hk
def okS (s : Sp) : Prop := 1 ≤ s.1 ∧ s.1 ≤ s.2 ∧ s.2 ≤ 1000000
open Classical in
theorem rOk (N : Nat) (a b : Int) : W_ref1_MaySpan N (a, b) = some (decide (okS (a, b))) := by
  unfold W_ref1_MaySpan V_ref1_MaySpan
  simp only
  by_cases h1 : 1 ≤ a
  · rw [dT h1, cnd_t, obind_s]
    simp only
    by_cases h2 : a ≤ b
    · rw [dT h2, cnd_t]
      by_cases h3 : b ≤ 1000000
      · rw [dT h3, dT (show okS (a, b) from ⟨h1, h2, h3⟩)]
      · rw [dF h3, dF (fun h : okS (a, b) => h3 h.2.2)]
    · rw [dF h2, cnd_f, dF (fun h : okS (a, b) => h2 h.2.1)]
  · rw [dF h1, cnd_f, obind_s]
    simp only
    rw [cnd_f, dF (fun h : okS (a, b) => h1 h.1)]
def B (h : Sp) : Prop := 0 ≤ h.1 ∧ h.1 ≤ 1000001 ∧ 0 ≤ h.2 ∧ h.2 ≤ 1000001
theorem okS.B {s : Sp} (h : okS s) : B s := ⟨by have := h.1; omega, by have := h.2.1; have := h.2.2; omega, by have := h.1; have := h.2.1; omega, by have := h.2.2; omega⟩
abbrev AS3 := Sp × List Sp × List Sp
def ad (s : AS3) (h : Sp) : AS3 := if h.2 + 1 < s.1.1 then (s.1, s.2.1 ++ [h], s.2.2) else if s.1.2 + 1 < h.1 then (s.1, s.2.1, s.2.2 ++ [h]) else ((min s.1.1 h.1, max s.1.2 h.2), s.2.1, s.2.2)
def adI (s : AS3) (rest : List Sp) : Prop := B s.1 ∧ s.2.1.length + s.2.2.length + rest.length ≤ 1000 ∧ ∀ h ∈ rest, B h
theorem adI_step {s : AS3} {h : Sp} {r : List Sp} (hI : adI s (h :: r)) : adI (ad s h) r := by
  obtain ⟨h1, h2, h3⟩ := hI
  have hb := h3 h (by simp)
  have hr : ∀ x ∈ r, B x := fun x hx => h3 x (by simp [hx])
  simp only [List.length_cons] at h2
  unfold ad
  split
  · exact ⟨h1, by simp; omega, hr⟩
  · split
    · exact ⟨h1, by simp; omega, hr⟩
    · refine ⟨⟨?_, ?_, ?_, ?_⟩, by simp only; omega, hr⟩ <;> (simp only; obtain ⟨_, _, _, _⟩ := h1; obtain ⟨_, _, _, _⟩ := hb; omega)
def adR (l : List Sp) (s : AS3) : List Sp × Sp × List Sp := ((l.foldl ad s).2.2, (l.foldl ad s).1, (l.foldl ad s).2.1)
open Classical in
noncomputable def addP (l : List Sp) (s : Sp) : List Sp := if okS s then (l.foldl ad (s, [], [])).2.1 ++ [(l.foldl ad (s, [], [])).1] ++ (l.foldl ad (s, [], [])).2.2 else l
theorem ad_len (l : List Sp) : ∀ s : AS3, (l.foldl ad s).2.1.length + (l.foldl ad s).2.2.length ≤ s.2.1.length + s.2.2.length + l.length := by
  induction l with
  | nil => intro s; simp
  | cons h r ih =>
    intro s
    have := ih (ad s h)
    have h2 : (ad s h).2.1.length + (ad s h).2.2.length ≤ s.2.1.length + s.2.2.length + 1 := by unfold ad; split; · simp; omega
                                                                                                split <;> simp <;> omega
    simp only [List.foldl_cons, List.length_cons]; omega
open Classical in
theorem rAddS_eq (N : Nat) (l : List Sp) (s : Sp) (hN : l.length < N) (hl : l.length ≤ 900) (hb : ∀ h ∈ l, B h) : W_ref1_AddSpan N (l, s) = some (addP l s) := by
  obtain ⟨a, b⟩ := s
  unfold W_ref1_AddSpan V_ref1_AddSpan addP
  simp only [rOk, obind_s]
  by_cases hs : okS (a, b)
  case neg => rw [dF hs, Bool.not_false, cnd_t, dT (by omega), cnd_t, if_neg hs]
  rw [dT hs, Bool.not_true, cnd_f, if_pos hs]
  refine obind_rec (0, 0) l (fun i (s : AS3) => (i, s)) adR adI ((a, b), [], []) rfl hN ⟨hs.B, by simp; omega, hb⟩ ?_ ?_ ?_
  · have hlen := ad_len l ((a, b), [], [])
    unfold adR
    simp only [List.length_nil] at hlen
    generalize l.foldl ad ((a, b), [], []) = R at *
    obtain ⟨⟨x, y⟩, fr, bk⟩ := R
    simp only at hlen ⊢
    rw [dT (by simp only [List.length_singleton]; omega), cnd_t, dT (by simp only [List.length_append, List.length_singleton]; omega), cnd_t]
  · rintro ⟨⟨x, y⟩, fr, bk⟩ hI
    simp only
    rw [dF (by omega), cnd_f]
    rfl
  · rintro i ⟨p, q⟩ r ⟨⟨x, y⟩, fr, bk⟩ hi hg hI
    left
    refine ⟨ad ((x, y), fr, bk) (p, q), ?_, rfl, adI_step hI⟩
    obtain ⟨⟨b1, b2, b3, b4⟩, hlen, hbb⟩ := hI
    obtain ⟨c1, c2, c3, c4⟩ := hbb (p, q) (by simp)
    simp only [List.length_cons] at b1 b2 b3 b4 c1 c2 c3 c4 hlen
    simp only [Int.toNat_natCast, hg]
    have d1 : decide ((i : Int) < l.length) = true := dT (by omega)
    have d2 : decide ((0 : Int) ≤ i) = true := dT (by omega)
    simp only [d1, d2, Bool.and_self, cnd_t]
    rw [wr_m (z := q + 1) (by omega) (by omega), wr_m (z := (i : Int) + 1) (by omega) (by omega), wr_m (z := y + 1) (by omega) (by omega)]
    unfold ad
    simp only
    by_cases k1 : q + 1 < x
    · rw [dT k1, cnd_t, dT (by simp only [List.length_singleton]; omega), cnd_t, if_pos k1]
    · rw [dF k1, cnd_f, if_neg k1]
      by_cases k2 : y + 1 < p
      · rw [dT k2, cnd_t, dT (by simp only [List.length_singleton]; omega), cnd_t, if_pos k2]
      · rw [dF k2, cnd_f, if_neg k2]
def Rr (a b : Sp) : Prop := a.2 + 1 < b.1
def VS (l : List Sp) : Prop := (∀ a ∈ l, okS a) ∧ l.Pairwise Rr
structure J (s : AS3) (rest : List Sp) : Prop where
  f1 : ∀ a ∈ s.2.1, okS a
  f2 : s.2.1.Pairwise Rr
  m : okS s.1
  fm : ∀ a ∈ s.2.1, a.2 + 1 < s.1.1
  b1 : ∀ a ∈ s.2.2, okS a
  b2 : s.2.2.Pairwise Rr
  bm : ∀ a ∈ s.2.2, s.1.2 + 1 < a.1
  br : ∀ a ∈ s.2.2, ∀ h ∈ rest, a.2 + 1 < h.1
  fr : ∀ a ∈ s.2.1, ∀ h ∈ rest, a.2 + 1 < h.1
  r1 : ∀ h ∈ rest, okS h
  r2 : rest.Pairwise Rr
theorem J_step {s : AS3} {h : Sp} {r : List Sp} (j : J s (h :: r)) : J (ad s h) r := by
  obtain ⟨f1, f2, m, fm, b1, b2, bm, br, fr, r1, r2⟩ := j
  have hh := r1 h (by simp)
  rw [List.pairwise_cons] at r2
  have r1' : ∀ x ∈ r, okS x := fun x hx => r1 x (by simp [hx])
  have br' : ∀ a ∈ s.2.2, ∀ x ∈ r, a.2 + 1 < x.1 := fun a ha x hx => br a ha x (by simp [hx])
  have fr' : ∀ a ∈ s.2.1, ∀ x ∈ r, a.2 + 1 < x.1 := fun a ha x hx => fr a ha x (by simp [hx])
  have bh : ∀ a ∈ s.2.2, a.2 + 1 < h.1 := fun a ha => br a ha h (by simp)
  have fh : ∀ a ∈ s.2.1, a.2 + 1 < h.1 := fun a ha => fr a ha h (by simp)
  obtain ⟨m1, m2, m3⟩ := m
  obtain ⟨g1, g2, g3⟩ := hh
  unfold ad
  split
  · rename_i k
    refine ⟨?_, ?_, ⟨m1, m2, m3⟩, ?_, b1, b2, bm, br', ?_, r1', r2.2⟩
    · intro a ha
      simp only [List.mem_append, List.mem_singleton] at ha
      rcases ha with ha | rfl
      · exact f1 a ha
      · exact ⟨g1, g2, g3⟩
    · rw [List.pairwise_append]
      exact ⟨f2, by simp, fun a ha b hb => by simp at hb; subst hb; exact fh a ha⟩
    · intro a ha
      simp only [List.mem_append, List.mem_singleton] at ha
      rcases ha with ha | rfl
      · exact fm a ha
      · exact k
    · intro a ha x hx
      simp only [List.mem_append, List.mem_singleton] at ha
      rcases ha with ha | rfl
      · exact fr' a ha x hx
      · exact r2.1 x hx
  · rename_i k
    split
    · rename_i k2
      refine ⟨f1, f2, ⟨m1, m2, m3⟩, fm, ?_, ?_, ?_, ?_, fr', r1', r2.2⟩
      · intro a ha
        simp only [List.mem_append, List.mem_singleton] at ha
        rcases ha with ha | rfl
        · exact b1 a ha
        · exact ⟨g1, g2, g3⟩
      · rw [List.pairwise_append]
        exact ⟨b2, by simp, fun a ha b hb => by simp at hb; subst hb; exact bh a ha⟩
      · intro a ha
        simp only [List.mem_append, List.mem_singleton] at ha
        rcases ha with ha | rfl
        · exact bm a ha
        · exact k2
      · intro a ha x hx
        simp only [List.mem_append, List.mem_singleton] at ha
        rcases ha with ha | rfl
        · exact br' a ha x hx
        · exact r2.1 x hx
    · rename_i k2
      have hb : ∀ a ∈ s.2.2, False := fun a ha => by
        have q1 := bm a ha
        have q2 := bh a ha
        have q3 := (b1 a ha).2.1
        omega
      refine ⟨f1, f2, ⟨by simp only; omega, by simp only; omega, by simp only; omega⟩, fun a ha => ?_, b1, b2, fun a ha => (hb a ha).elim, br', fr', r1', r2.2⟩
      have q1 := fm a ha
      have q2 := fh a ha
      simp only
      omega
theorem J_fold : ∀ (l : List Sp) (s : AS3), J s l → J (l.foldl ad s) []
  | [], s, h => h
  | x :: r, s, h => J_fold r _ (J_step h)
theorem VS_add {l : List Sp} {s : Sp} (hl : VS l) (hs : okS s) : VS (addP l s) ∧ (addP l s).length ≤ l.length + 1 := by
  have j := J_fold l (s, [], []) ⟨by simp, by simp, hs, by simp, by simp, by simp, by simp, by simp, by simp, hl.1, hl.2⟩
  have hlen := ad_len l (s, [], [])
  simp only [List.length_nil] at hlen
  unfold addP
  rw [if_pos hs]
  generalize l.foldl ad (s, [], []) = q at *
  obtain ⟨f1, f2, m, fm, b1, b2, bm, _, _, _, _⟩ := j
  refine ⟨⟨?_, ?_⟩, by simp only [List.length_append, List.length_singleton]; omega⟩
  · intro a ha
    simp only [List.mem_append, List.mem_singleton] at ha
    rcases ha with (ha | rfl) | ha
    · exact f1 a ha
    · exact m
    · exact b1 a ha
  · rw [List.pairwise_append, List.pairwise_append]
    refine ⟨⟨f2, by simp, fun a ha b hb => by simp at hb; subst hb; exact fm a ha⟩, b2, fun a ha b hb => ?_⟩
    have q2 := bm b hb
    have q3 := m.2.1
    simp only [List.mem_append, List.mem_singleton] at ha
    show a.2 + 1 < b.1
    rcases ha with ha | rfl
    · have := fm a ha; omega
    · omega
theorem SameS_self (N : Nat) (a : List Sp) (hN : a.length < N) (hl : a.length ≤ 1000) : W_ref1_SameSpans N (a, a) = some true := by
  unfold W_ref1_SameSpans V_ref1_SameSpans
  simp only
  rw [dF (by simp), cnd_f]
  refine obind_rec (0, 0) a (fun i (s : Unit) => i) (fun l s => (.inl () : PUnit ⊕ Bool)) (fun _ _ => True) () rfl hN trivial (by rw [selim_l]) ?_ ?_
  · rintro s _
    try simp only
    rw [dF (by omega), cnd_f]
  · rintro i h r s hi hg _
    left
    refine ⟨(), ?_, rfl, trivial⟩
    have d1 : decide ((i : Int) < a.length) = true := dT (by omega)
    have d2 : decide ((0 : Int) ≤ i) = true := dT (by omega)
    simp only [d1, d2, Bool.and_self, cnd_t, dT, Bool.not_true, cnd_f]
    rw [wr_m (by omega) (by omega)]
def push (o : List Sp) (lo hi : Int) : List Sp := if 0 < o.length ∧ (o.getD (o.length - 1) (0, 0)).2 + 1 = lo then putL o [((o.getD (o.length - 1) (0, 0)).1, hi)] (o.length - 1) else o ++ [(lo, hi)]
theorem push_nil (lo hi : Int) : push [] lo hi = [(lo, hi)] := by unfold push; rw [if_neg (by simp)]; rfl
theorem push_snoc (o : List Sp) (t : Sp) (lo hi : Int) : push (o ++ [t]) lo hi = if t.2 + 1 = lo then o ++ [(t.1, hi)] else o ++ [t] ++ [(lo, hi)] := by
  have hl : (o ++ [t]).length - 1 = o.length := by simp
  have hg : (o ++ [t]).getD o.length (0, 0) = t := by rw [List.getD_eq_getElem?_getD]; simp
  unfold push
  rw [hl, hg]
  by_cases h : t.2 + 1 = lo
  · rw [if_pos ⟨by simp, h⟩, if_pos h]
    unfold putL
    simp
  · rw [if_neg (fun q => h q.2), if_neg h]
theorem snoc_cases (o : List Sp) : o = [] ∨ ∃ p t, o = p ++ [t] := by
  rcases List.eq_nil_or_concat o with h | ⟨p, t, h⟩
  · exact .inl h
  · exact .inr ⟨p, t, by rw [h, List.concat_eq_append]⟩
theorem push_hi {o : List Sp} {lo hi m : Int} (ho : ∀ s ∈ o, s.2 + 1 ≤ m) (hm : hi + 1 ≤ m) : ∀ s ∈ push o lo hi, s.2 + 1 ≤ m := by
  rcases snoc_cases o with rfl | ⟨p, t, rfl⟩
  · rw [push_nil]; intro s hs; simp at hs; subst hs; exact hm
  · rw [push_snoc]
    intro s hs
    split at hs
    · simp only [List.mem_append, List.mem_singleton] at hs
      rcases hs with hs | rfl
      · exact ho s (by simp [hs])
      · exact hm
    · simp only [List.mem_append, List.mem_singleton] at hs
      rcases hs with (hs | rfl) | rfl
      · exact ho s (by simp [hs])
      · exact ho s (by simp)
      · exact hm
theorem fold_front (s : Sp) : ∀ (l fr : List Sp), (∀ t ∈ l, t.2 + 1 < s.1) → l.foldl ad (s, fr, []) = (s, fr ++ l, [])
  | [], fr, _ => by simp
  | t :: r, fr, h => by
    have e : ad (s, fr, []) t = (s, fr ++ [t], []) := by unfold ad; rw [if_pos (h t (by simp))]
    rw [List.foldl_cons, e, fold_front s r (fr ++ [t]) fun x hx => h x (by simp [hx])]
    simp
theorem addP_push {a : List Sp} {s : Sp} (ha : VS a) (hs : okS s) (hb : ∀ t ∈ a, t.2 + 1 ≤ s.1) : addP a s = push a s.1 s.2 := by
  unfold addP
  rw [if_pos hs]
  rcases snoc_cases a with rfl | ⟨p, t, rfl⟩
  · rw [push_nil]; simp
  · have hp : ∀ x ∈ p, x.2 + 1 < s.1 := fun x hx => by
      have h1 : Rr x t := (List.pairwise_append.1 ha.2).2.2 x hx t (by simp)
      have h2 := hb t (by simp)
      have h3 := (ha.1 t (by simp)).2.1
      unfold Rr at h1
      omega
    have ht := hb t (by simp)
    have ht2 := (ha.1 t (by simp)).2.1
    have hs2 := hs.2.1
    rw [List.foldl_append, fold_front s p [] hp, List.nil_append, push_snoc]
    simp only [List.foldl_cons, List.foldl_nil]
    unfold ad
    simp only
    by_cases h : t.2 + 1 = s.1
    · rw [if_neg (by omega), if_neg (by omega), if_pos h]
      simp only [List.append_nil]
      rw [show min s.1 t.1 = t.1 by omega, show max s.2 t.2 = s.2 by omega]
    · rw [if_pos (by omega), if_neg h]
      simp
open Classical in
theorem Get_eq (N : Nat) (l : List It) (s : Int) (hN : 2000 ≤ N) (hl : l.length ≤ 1000) : W_ring_Get N (l, s) = some (getF l s) := by
  have hf : ∃ r : List UInt8 ⊕ PUnit, W_ring_find N (l, s) = some r ∧ ((r = .inl (getF l s).1 ∧ (getF l s).2 = true) ∨ (r = .inr () ∧ getF l s = ([], false))) := by
    unfold W_ring_find V_ring_find
    simp only
    refine loop_G (N := N) (fun o => ∃ r : List UInt8 ⊕ PUnit, o = some r ∧ ((r = .inl (getF l s).1 ∧ (getF l s).2 = true) ∨ (r = .inr () ∧ getF l s = ([], false)))) (fun k (v : Int) => v = k ∧ k ≤ l.length ∧ getF (l.drop k) s = getF l s) l.length (fun r : PUnit ⊕ List UInt8 ⊕ PUnit => (r = .inl () ∧ getF l s = ([], false)) ∨ (r = .inr (.inl (getF l s).1) ∧ (getF l s).2 = true)) ⟨rfl, by omega, rfl⟩ (by omega) ?_ (fun k v h => h.2.1) ?_
    · rintro r (⟨rfl, h⟩ | ⟨rfl, h⟩)
      · rw [selim_l]; exact ⟨_, rfl, .inr ⟨rfl, h⟩⟩
      · rw [selim_r]; exact ⟨_, rfl, .inl ⟨rfl, h⟩⟩
    · rintro k v ⟨e, hk, hg⟩
      subst e
      by_cases c : (k : Int) < l.length
      case neg =>
        right
        rw [dF c, cnd_f]
        rw [List.drop_eq_nil_of_le (by omega)] at hg
        exact ⟨_, rfl, .inl ⟨rfl, hg.symm⟩⟩
      rw [drop_consI (by omega)] at hg
      simp only [getF] at hg
      rw [dT c, cnd_t, dT (by omega), Bool.and_self, cnd_t, Int.toNat_natCast]
      by_cases c2 : (l.getD k iD).1 = s
      · right
        rw [if_pos c2] at hg
        rw [dT c2, cnd_t]
        exact ⟨_, rfl, .inr ⟨by rw [← hg], by rw [← hg]⟩⟩
      · left
        rw [if_neg c2] at hg
        rw [dF c2, cnd_f, wr_m (by omega) (by omega)]
        exact ⟨_, rfl, by omega, by omega, hg⟩
  obtain ⟨r, h1, h2⟩ := hf
  unfold W_ring_Get V_ring_Get
  try simp only
  rw [h1, obind_s]
  rcases h2 with ⟨rfl, h2⟩ | ⟨rfl, h2⟩
  · rw [selim_l]
    cases hq : getF l s with
    | mk a b => rw [hq] at h2; simp only at h2; rw [h2]
  · rw [selim_r, h2]
def itF (R : List It) (lo : Int) : Nat → List It
  | 0 => []
  | k + 1 => if (getF R (lo + k)).2 = true then itF R lo k ++ [(lo + k, (getF R (lo + k)).1)] else itF R lo k
def noF (R : List It) (lo : Int) : Nat → List Sp
  | 0 => []
  | k + 1 => if (getF R (lo + k)).2 = true then noF R lo k else push (noF R lo k) (lo + k) (lo + k)
theorem itF_len (R : List It) (lo : Int) : ∀ k, (itF R lo k).length ≤ k
  | 0 => by simp [itF]
  | k + 1 => by
    have := itF_len R lo k
    simp only [itF]
    split
    · simp only [List.length_append, List.length_cons, List.length_nil]; omega
    · omega
theorem rTell (N : Nat) (a : List Ev) (n : Int) (t : List UInt8) (hl : a.length ≤ 100000000) : W_ref13_Tell N (a, n, t) = some (a ++ [(1, n, n, t, 0)]) := by
  unfold W_ref13_Tell V_ref13_Tell
  simp only
  rw [cnd_T (by omega), cnd_T (by simp only [List.length_cons, List.length_nil]; omega)]
theorem rSkip_eq (N : Nat) (a : List Ev) (lo hi why : Int) (hl : a.length ≤ 100000000) : W_ref13_Skip N (a, lo, hi, why) = some (a ++ [(2, lo, hi, [], why)]) := by
  unfold W_ref13_Skip V_ref13_Skip
  simp only
  rw [cnd_T (by omega), cnd_T (by omega)]
theorem cut1 (l : List It) (h : 1 ≤ l.length) : List.drop ((0 : Nat) + (cutT (0 : Nat) l.length l.length (some (1 : Int)) none).2.1) (List.take ((0 : Nat) + (cutT (0 : Nat) l.length l.length (some (1 : Int)) none).2.1 + ((cutT (0 : Nat) l.length l.length (some (1 : Int)) none).2.2 - (cutT (0 : Nat) l.length l.length (some (1 : Int)) none).2.1)) l) = l.drop 1 := by
  simp only [cutT, Option.getD_some, Option.getD_none]
  have e : (1 : Int).toNat = 1 := rfl
  rw [e, show 0 + 1 + (l.length - 1) = l.length by omega, List.take_length]
theorem rAdd_eq (N : Nat) (l : List It) (e : It) (hl : l.length ≤ 6) (hs : ∀ h : 0 < l.length, (l.getD (l.length - 1) iD).1 < e.1) : W_ref13_AddRing N (l, e.1, e.2) = some (addR l e) := by
  unfold W_ref13_AddRing V_ref13_AddRing
  simp only [Option.getD_some]
  rw [cnd_T (by omega)]
  have tail : cnd (decide ((List.length l + List.length [(e.1, e.2)]) * (24 : Nat) ≤ (140737488355328 : Nat)))
          (cnd (decide ((6 : Int) < (↑(List.length (l ++ [(e.1, e.2)])) : Int)))
            (cnd (decide ((1 : Int) ≤ (↑(List.length (l ++ [(e.1, e.2)])) : Int))) (some (List.drop ((0 : Nat) + (cutT (0 : Nat) (l ++ [(e.1, e.2)]).length (l ++ [(e.1, e.2)]).length (some (1 : Int)) none).2.1) (List.take ((0 : Nat) + (cutT (0 : Nat) (l ++ [(e.1, e.2)]).length (l ++ [(e.1, e.2)]).length (some (1 : Int)) none).2.1 + ((cutT (0 : Nat) (l ++ [(e.1, e.2)]).length (l ++ [(e.1, e.2)]).length (some (1 : Int)) none).2.2 - (cutT (0 : Nat) (l ++ [(e.1, e.2)]).length (l ++ [(e.1, e.2)]).length (some (1 : Int)) none).2.1)) (l ++ [(e.1, e.2)])))) none)
            (some (l ++ [(e.1, e.2)])))
          none = some (addR l e) := by
    rw [dT (by simp only [List.length_singleton]; omega), cnd_t]
    unfold addR
    by_cases h6 : 6 ≤ l.length
    · rw [dT (by simp only [List.length_append, List.length_singleton]; omega), cnd_t, if_pos h6, dT (by simp only [List.length_append, List.length_singleton]; omega), cnd_t, cut1 _ (by simp)]
    · rw [dF (by simp only [List.length_append, List.length_singleton]; omega), cnd_f, if_neg h6]
  by_cases h0 : (0 : Int) < l.length
  · have w1 : wr .i64 ((l.length : Int) - 1) = ((l.length - 1 : Nat) : Int) := by rw [wr_m (by omega) (by omega)]; omega
    have h1 := hs (by omega)
    rw [dT h0, cnd_t, w1, dT (by omega), dT (by omega), Bool.and_self, cnd_t, Int.toNat_natCast, dF (by show ¬ e.1 ≤ (l.getD (l.length - 1) iD).1; omega), cnd_f]
    exact tail
  · rw [dF h0, cnd_f]
    exact tail
theorem TakeWin_nil (N : Nat) (n : Int) : W_ref13_TakeWin N ([], n) = some ([], false, 0, []) := by
  unfold W_ref13_TakeWin V_ref13_TakeWin
  simp only [List.length_nil]
  rw [dT (by omega), cnd_t]
theorem TakeWin_no (N : Nat) (w : It) (r : List It) (n : Int) (h : w.1 ≠ n) : W_ref13_TakeWin N (w :: r, n) = some (w :: r, false, 0, []) := by
  unfold W_ref13_TakeWin V_ref13_TakeWin
  simp only [List.length_cons]
  rw [dF (by omega), cnd_f, dT (by omega), dT (by omega), Bool.and_self, cnd_t]
  have e : (List.getD (w :: r) 0 ((0 : Int), ([] : List UInt8))) = w := rfl
  rw [e, dT h, cnd_t]
theorem TakeWin_yes (N : Nat) (w : It) (r : List It) (hr : r.length ≤ 1000) : W_ref13_TakeWin N (w :: r, w.1) = some (r, true, w.1, w.2) := by
  unfold W_ref13_TakeWin V_ref13_TakeWin
  simp only [List.length_cons]
  have e : (List.getD (w :: r) 0 ((0 : Int), ([] : List UInt8))) = w := rfl
  have e2 : List.drop 1 (List.take (r.length + 1) (w :: r)) = r := by simp
  rw [dF (by omega), cnd_f, dT (by omega), dT (by omega), Bool.and_self, cnd_t, e, dF (fun q => q rfl), cnd_f, dT (by omega), dT (by omega), Bool.and_self, cnd_t, cnd_T (by rw [e2]; omega), cnd_t, e2]
theorem Fp.lens {K c n : Int} {R W : List It} {L : List Ev} (h : Fp K c n R W L) (hK : K ≤ 10000000) : W.length ≤ 8 ∧ L.length ≤ 10000001 ∧ ∀ _ : 0 < R.length, (R.getD (R.length - 1) iD).1 < n := by
  have a := h.wk.len (by have := h.nx; omega)
  have b := h.ch.len
  have d := h.c0
  have e := h.nx
  refine ⟨by omega, by omega, fun q => ?_⟩
  have := h.rk.last q
  omega
theorem goM_eq (w : It) (r R : List It) (L : List Ev) : goM (w :: r) w.1 R L = (w :: (goM r (w.1 + 1) (addR R w) (L ++ [(1, w.1, w.1, w.2, 0)])).1, (goM r (w.1 + 1) (addR R w) (L ++ [(1, w.1, w.1, w.2, 0)])).2) := by
  conv => lhs; unfold goM
  rw [if_pos rfl]
theorem goM_ne {w : It} {n : Int} (h : w.1 ≠ n) (r R : List It) (L : List Ev) : goM (w :: r) n R L = ([], n, R, w :: r, L) := by
  conv => lhs; unfold goM
  rw [if_neg h]
theorem rGoes_eq (N : Nat) (hN : 2000 ≤ N) {K c : Int} {f : Fd} (h : Fp K c f.1 f.2.2.1 f.2.2.2.1 f.2.2.2.2.1) (hK : K ≤ 10000000) : W_ref13_Goes N f = some (goesM f) := by
  obtain ⟨nx, tp, R, Wn, Lg, a, b⟩ := f
  unfold W_ref13_Goes V_ref13_Goes goesM
  simp only at h ⊢
  have hwl := (h.lens hK).1
  refine loop_G (N := N) (x := ((nx, tp, R, Wn, Lg, a, b), z7, [])) (fun q => q = some ((goM Wn nx R Lg).1, (goM Wn nx R Lg).2.1, tp, (goM Wn nx R Lg).2.2.1, (goM Wn nx R Lg).2.2.2.1, (goM Wn nx R Lg).2.2.2.2, if (goM Wn nx R Lg).1 = [] then (a, b) else (0, 0)))
    (fun k (v : Fd × Fd × List It) => v.2.1 = z7 ∧ Fp K c v.1.1 v.1.2.2.1 v.1.2.2.2.1 v.1.2.2.2.2.1 ∧ v.1.2.1 = tp ∧ v.1.2.2.2.1.length + k = Wn.length ∧ v.2.2.length = k ∧ (v.2.2 ++ (goM v.1.2.2.2.1 v.1.1 v.1.2.2.1 v.1.2.2.2.2.1).1, (goM v.1.2.2.2.1 v.1.1 v.1.2.2.1 v.1.2.2.2.2.1).2) = goM Wn nx R Lg ∧ v.1.2.2.2.2.2 = if v.2.2 = [] then (a, b) else (0, 0)) Wn.length
    (fun r : List It × Fd => r = ((goM Wn nx R Lg).1, (goM Wn nx R Lg).2.1, tp, (goM Wn nx R Lg).2.2.1, (goM Wn nx R Lg).2.2.2.1, (goM Wn nx R Lg).2.2.2.2, if (goM Wn nx R Lg).1 = [] then (a, b) else (0, 0))) ⟨rfl, h, rfl, by simp, rfl, by simp, by simp⟩ (by omega) ?_ (fun k v h => by have := h.2.2.2.1; omega) ?_
  · rintro r rfl; rfl
  · rintro k ⟨⟨n', t', R', W', L', a', b'⟩, z, o⟩ ⟨rfl, hf, rfl, hwk, hol, hq, hab⟩
    simp only at hf hwk hol hq hab ⊢
    obtain ⟨l1, l2, l3⟩ := hf.lens hK
    have hnx := hf.nx
    cases W' with
    | nil =>
      right
      rw [TakeWin_nil, obind_s]
      simp only [Bool.not_false, cnd_t]
      refine ⟨_, rfl, ?_⟩
      simp only [goM, List.append_nil] at hq
      rw [← hq, hab]
    | cons w r =>
      simp only [List.length_cons] at hwk l1
      by_cases cw : w.1 = n'
      · left
        obtain rfl : n' = w.1 := cw.symm
        rw [TakeWin_yes N w r (by omega), obind_s]
        simp only [Bool.not_true, cnd_f]
        rw [rTell N L' w.1 w.2 (by omega), obind_s, rAdd_eq N R' (w.1, w.2) hf.rl l3, obind_s]
        have hs := hf.tell rfl
        rw [goM_eq] at hq
        refine ⟨_, cnd_T (by simp only [List.length_cons, List.length_nil]; omega), rfl, ?_, rfl, by simp only; omega, by simp [hol], ?_, by simp⟩
        · simp only
          rw [wr_m (by omega) (by omega)]
          exact hs
        · simp only
          rw [wr_m (by omega) (by omega), ← hq]
          simp only [List.append_assoc, List.cons_append, List.nil_append]
      · right
        rw [TakeWin_no N w r n' cw, obind_s]
        simp only [Bool.not_false, cnd_t]
        rw [goM_ne cw] at hq
        refine ⟨_, rfl, ?_⟩
        simp only [List.append_nil] at hq
        rw [← hq, hab]
theorem First_cons (N : Nat) (w : It) (r : List It) : W_ref13_First N (w :: r) = some w.1 := by
  unfold W_ref13_First V_ref13_First
  simp only [List.length_cons]
  rw [dF (by omega), cnd_f, dT (by omega), dT (by omega), Bool.and_self, cnd_t]
  rfl
theorem skR_stop {hi why n : Int} {R W : List It} {L : List Ev} {o : List Sp} (h : ¬ n ≤ hi) : ∀ j, skR hi why j n R W L o = (o, n, R, W, L)
  | 0 => rfl
  | j + 1 => by unfold skR; rw [if_neg h]
theorem rSkips_eq (N : Nat) (hN : 2000 ≤ N) {K c : Int} {f : Fd} (h : 1 ≤ f.1 → Fp K c f.1 f.2.2.1 f.2.2.2.1 f.2.2.2.2.1) (hK : K ≤ 10000000) (hi why : Int) (hh : hi ≤ 1000000 → hi ≤ K) : W_ref13_Skips N (f, hi, why) = some (skipsM f hi why) := by
  obtain ⟨nx, tp, R, Wn, Lg, a, b⟩ := f
  unfold W_ref13_Skips V_ref13_Skips skipsM
  simp only at h ⊢
  by_cases c1 : nx < 1
  · rw [dT c1, cnd_t, if_pos (.inl c1)]
  rw [dF c1, cnd_f]
  by_cases c2 : 1000000 < hi
  · rw [dT c2, cnd_t, if_pos (.inr c2)]
  rw [dF c2, cnd_f, if_neg (by omega)]
  have h := h (by omega)
  have hh := hh (by omega)
  have hwl := (h.lens hK).1
  have hn0 := h.nx
  obtain ⟨T, hT⟩ : ∃ T, skR hi why (Wn.length + 2) nx R Wn Lg [] = T := ⟨_, rfl⟩
  rw [hT]
  refine loop_G (N := N) (x := ((nx, tp, R, Wn, Lg, a, b), z7, [])) (fun q => q = some (T.1, T.2.1, tp, T.2.2.1, T.2.2.2.1, T.2.2.2.2, if nx ≤ hi then (0, 0) else (a, b)))
    (fun k (v : Fd × Fd × List Sp) => v.2.1 = z7 ∧ Fp K c v.1.1 v.1.2.2.1 v.1.2.2.2.1 v.1.2.2.2.2.1 ∧ v.1.2.1 = tp ∧ v.2.2.length ≤ k ∧ v.1.2.2.2.2.2 = (if k = 0 then (a, b) else (0, 0)) ∧ (k = 0 → v.1.1 = nx) ∧ (0 < k → nx ≤ hi) ∧
      ∃ j, j + k = Wn.length + 2 ∧ (v.1.1 ≤ hi → v.1.2.2.2.1.length + 1 ≤ j) ∧ skR hi why j v.1.1 v.1.2.2.1 v.1.2.2.2.1 v.1.2.2.2.2.1 v.2.2 = T) (Wn.length + 2)
    (fun r : List Sp × Fd × Fd => r.1 = T.1 ∧ r.2.1 = (T.2.1, tp, T.2.2.1, T.2.2.2.1, T.2.2.2.2, if nx ≤ hi then (0, 0) else (a, b))) ⟨rfl, h, rfl, by simp, by simp, fun _ => rfl, fun q => by omega, Wn.length + 2, rfl, fun _ => by simp, hT⟩ (by omega) ?_ (fun k v h => by obtain ⟨j, h1, _⟩ := h.2.2.2.2.2.2.2; omega) ?_
  · rintro ⟨o, f, z⟩ ⟨rfl, rfl⟩; rfl
  · rintro k ⟨⟨n', t', R', W', L', a', b'⟩, z, o⟩ ⟨rfl, hf, rfl, hol, hab, hk0, hk1, j, hj, hw, hq⟩
    simp only at hf hol hab hk0 hk1 hw hq ⊢
    obtain ⟨l1, l2, l3⟩ := hf.lens hK
    have hnx := hf.nx
    by_cases cn : n' ≤ hi
    case neg =>
      right
      rw [dF cn, cnd_f]
      rw [skR_stop cn] at hq
      refine ⟨_, rfl, by rw [← hq], ?_⟩
      simp only
      rw [hab, ← hq]
      by_cases k0 : k = 0
      · have := hk0 k0
        rw [if_pos k0, if_neg (by omega)]
      · rw [if_neg k0, if_pos (hk1 (by omega))]
    left
    have hni : nx ≤ hi := by
      by_cases k0 : k = 0
      · have := hk0 k0; omega
      · exact hk1 (by omega)
    have hw := hw cn
    obtain ⟨j, rfl⟩ : ∃ i, j = i + 1 := ⟨j - 1, by omega⟩
    unfold skR at hq
    rw [if_pos cn] at hq
    rw [dT cn, cnd_t]
    -- where nothing is ahead
    have far : Wk (hi + 1) (min K (n' + 7)) W' → skR hi why j (hi + 1) R' W' (L' ++ [(2, n', hi, [], why)]) (o ++ [(n', hi)]) = T → (∃ y : Fd × Fd × List Sp, (obind (some (hi, ((n', t', R', W', L', (0 : Int), (0 : Int)) : Fd), z7, o)) fun (b : Int × Fd × Fd × List Sp) => obind (cnd (decide (b.2.1.1 ≤ b.1)) (obind (W_ref13_Skip N (b.2.1.2.2.2.2.1, b.2.1.1, b.1, why)) fun (b_1 : List Ev) => cnd (decide ((List.length b.2.2.2 + List.length [(b.2.1.1, b.1)]) * (16 : Nat) ≤ (140737488355328 : Nat))) (some (((wr .i64 (b.1 + 1), b.2.1.2.1, b.2.1.2.2.1, b.2.1.2.2.2.1, b_1, b.2.1.2.2.2.2.2.1, b.2.1.2.2.2.2.2.2) : Fd), b.2.2.1, b.2.2.2 ++ [(b.2.1.1, b.1)])) none) (some (b.2.1, b.2.2.1, b.2.2.2))) fun (b : Fd × Fd × List Sp) => cnd (decide (b.1.1 ≤ hi)) (obind (W_ref13_Goes N b.1) fun (b_1 : List It × Fd) => some (Sum.inl (b_1.2, b.2.1, b.2.2))) (some (Sum.inl (b.1, b.2.1, b.2.2)))) = some (.inl y : (Fd × Fd × List Sp) ⊕ (List Sp × Fd × Fd)) ∧ y.2.1 = z7 ∧ Fp K c y.1.1 y.1.2.2.1 y.1.2.2.2.1 y.1.2.2.2.2.1 ∧ y.1.2.1 = t' ∧ y.2.2.length ≤ k + 1 ∧ y.1.2.2.2.2.2 = (if k + 1 = 0 then (a, b) else (0, 0)) ∧ (k + 1 = 0 → y.1.1 = nx) ∧ (0 < k + 1 → nx ≤ hi) ∧
      ∃ j, j + (k + 1) = Wn.length + 2 ∧ (y.1.1 ≤ hi → y.1.2.2.2.1.length + 1 ≤ j) ∧ skR hi why j y.1.1 y.1.2.2.1 y.1.2.2.2.1 y.1.2.2.2.2.1 y.2.2 = T) := by
      intro hwk hq
      rw [obind_s]
      simp only
      rw [dT cn, cnd_t, rSkip_eq N L' n' hi why (by omega), obind_s, cnd_T (by simp only [List.length_cons, List.length_nil]; omega), obind_s, wr_m (by omega) (by omega)]
      simp only
      rw [dF (by omega), cnd_f]
      exact ⟨_, rfl, rfl, hf.skip cn hh hwk, rfl, by simp only [List.length_append, List.length_cons, List.length_nil]; omega, by rw [if_neg (by omega)], fun q => by omega, fun _ => hni, j, by omega, fun q => by simp only at q; omega, hq⟩
    cases W' with
    | nil =>
      rw [dF (by simp), cnd_f]
      exact far trivial hq
    | cons w r =>
      have hwk := hf.wk
      simp only [List.length_cons] at hw l1
      rw [dT (by simp only [List.length_cons]; omega), cnd_t, First_cons, obind_s]
      simp only at hq
      by_cases cf : w.1 ≤ hi
      case neg =>
        rw [dF cf, cnd_f]
        rw [if_neg cf] at hq
        exact far ⟨by omega, hwk.2⟩ hq
      rw [if_pos cf] at hq
      have hw1 := hwk.1
      rw [dT cf, cnd_t, obind_s, obind_s, wr_m (z := w.1 - 1) (by omega) (by omega)]
      simp only
      -- a feed that has come to the first one
      have near : ∀ (Lq : List Ev) (oq : List Sp), Fp K c w.1 R' (w :: r) Lq → oq.length ≤ k + 1 → skR hi why j (goM (w :: r) w.1 R' Lq).2.1 (goM (w :: r) w.1 R' Lq).2.2.1 (goM (w :: r) w.1 R' Lq).2.2.2.1 (goM (w :: r) w.1 R' Lq).2.2.2.2 oq = T → (∃ y : Fd × Fd × List Sp, (cnd (decide (w.1 ≤ hi)) (obind (W_ref13_Goes N (w.1, t', R', w :: r, Lq, (0 : Int), (0 : Int))) fun (b_1 : List It × Fd) => some (Sum.inl (b_1.2, z7, oq))) (some (Sum.inl (((w.1, t', R', w :: r, Lq, (0 : Int), (0 : Int)) : Fd), z7, oq)))) = some (.inl y : (Fd × Fd × List Sp) ⊕ (List Sp × Fd × Fd)) ∧ y.2.1 = z7 ∧ Fp K c y.1.1 y.1.2.2.1 y.1.2.2.2.1 y.1.2.2.2.2.1 ∧ y.1.2.1 = t' ∧ y.2.2.length ≤ k + 1 ∧ y.1.2.2.2.2.2 = (if k + 1 = 0 then (a, b) else (0, 0)) ∧ (k + 1 = 0 → y.1.1 = nx) ∧ (0 < k + 1 → nx ≤ hi) ∧
        ∃ j, j + (k + 1) = Wn.length + 2 ∧ (y.1.1 ≤ hi → y.1.2.2.2.1.length + 1 ≤ j) ∧ skR hi why j y.1.1 y.1.2.2.1 y.1.2.2.2.1 y.1.2.2.2.2.1 y.2.2 = T) := by
        intro Lq oq hF hoq hq
        rw [dT cf, cnd_t, rGoes_eq N hN (f := (w.1, t', R', w :: r, Lq, (0 : Int), (0 : Int))) hF hK, obind_s]
        obtain ⟨g1, g2, g3, g4, _⟩ := goM_ok _ _ _ _ hF
        obtain ⟨g5, g6⟩ := goM_head (r := r) (R := R') (L := Lq) (rfl : w.1 = w.1)
        refine ⟨_, rfl, rfl, g1, rfl, hoq, ?_, fun q => by omega, fun _ => hni, j, by omega, fun q => by simp only [goesM]; omega, hq⟩
        simp only [goesM]
        rw [if_neg g5, if_neg (by omega)]
      by_cases cg : n' ≤ w.1 - 1
      · rw [if_pos (show n' < w.1 by omega)] at hq
        rw [dT cg, cnd_t, rSkip_eq N L' n' (w.1 - 1) why (by omega), obind_s, cnd_T (by simp only [List.length_cons, List.length_nil]; omega), obind_s, wr_m (by omega) (by omega)]
        simp only
        rw [show w.1 - 1 + 1 = w.1 by omega]
        refine near (L' ++ [(2, n', w.1 - 1, [], why)]) (o ++ [(n', w.1 - 1)]) ?_ (by simp only [List.length_append, List.length_cons, List.length_nil]; omega) hq
        have := hf.skip (m := w.1 - 1) (why := why) (by omega) (by omega) ⟨by omega, hwk.2⟩
        rwa [show w.1 - 1 + 1 = w.1 by omega] at this
      · rw [if_neg (show ¬ n' < w.1 by omega)] at hq
        have e : n' = w.1 := by omega
        subst e
        rw [dF cg, cnd_f, obind_s]
        exact near L' o hf (by omega) hq
theorem rKnows_eq (N : Nat) (f : Fd) (t : Int) : W_ref13_Knows N (f, t) = some (knowsM f t) := by
  obtain ⟨nx, tp, R, Wn, Lg, a, b⟩ := f
  unfold W_ref13_Knows V_ref13_Knows knowsM
  simp only
  by_cases c1 : 0 < nx
  · rw [dT c1, cnd_t]
    by_cases c2 : t ≤ 1000000
    · rw [dT c2, cnd_t, if_pos ⟨c1, c2⟩]
    · rw [dF c2, cnd_f, if_neg (fun q => c2 q.2)]
  · rw [dF c1, cnd_f, if_neg (fun q => c1 q.1)]
theorem rBegin_eq (N : Nat) (f : Fd) (n : Int) (hw : 0 < f.1 → knowsM f (wr .i64 (n - 1)) = knowsM f (n - 1)) : W_ref13_Begin N (f, n) = some (beginM f n) := by
  have hk := rKnows_eq N f (wr .i64 (n - 1))
  obtain ⟨nx, tp, R, Wn, Lg, a, b⟩ := f
  unfold W_ref13_Begin V_ref13_Begin beginM
  simp only at hw ⊢
  by_cases c1 : 0 < nx
  · rw [dT c1, cnd_t, if_pos c1, hk, obind_s, hw c1]
  · rw [dF c1, cnd_f, if_neg c1]
    by_cases c2 : 1 ≤ n
    · rw [dT c2, cnd_t]
      by_cases c3 : n ≤ 1000000
      · rw [dT c3, cnd_t, if_pos ⟨c2, c3⟩]
      · rw [dF c3, cnd_f, if_neg (fun q => c3 q.2)]
    · rw [dF c2, cnd_f, if_neg (fun q => c2 q.1)]
theorem rWants_eq (N : Nat) {K c : Int} {f : Fd} (h0 : 0 ≤ f.1) (h : 1 ≤ f.1 → Fp K c f.1 f.2.2.1 f.2.2.2.1 f.2.2.2.2.1) (hz : f.1 = 0 → f.2.2.2.1 = []) (hK : K ≤ 10000000) : W_ref13_Wants N f = some (wantsM f) := by
  obtain ⟨nx, tp, R, Wn, Lg, a, b⟩ := f
  unfold W_ref13_Wants V_ref13_Wants wantsM
  simp only at h hz h0 ⊢
  have key : ∀ hi : Int, (obind (some (hi, ((nx, tp, R, Wn, Lg, a, b) : Fd), (0 : Int), (0 : Int))) fun (b : Int × Fd × Int × Int) => cnd (decide (b.2.1.1 = 0)) (some (false, (0 : Int), (0 : Int))) (cnd (decide (b.1 < b.2.1.1)) (some (false, (0 : Int), (0 : Int))) (some (true, b.2.1.1, b.1)))) = some (if nx = 0 ∨ hi < nx then (false, 0, 0) else (true, nx, hi)) := by
    intro hi
    rw [obind_s]
    simp only
    by_cases c0 : nx = 0
    · rw [dT c0, cnd_t, if_pos (.inl c0)]
    rw [dF c0, cnd_f]
    by_cases q : hi < nx
    · rw [dT q, cnd_t, if_pos (.inr q)]
    · rw [dF q, cnd_f, if_neg (by omega)]
  cases Wn with
  | nil =>
    rw [dF (by simp), cnd_f]
    exact key tp
  | cons w r =>
    have hn : 1 ≤ nx := by
      have : nx ≠ 0 := fun q => by have := hz q; cases this
      omega
    have hwk := (h hn).wk
    have hnx := (h hn).nx
    have hw1 := hwk.1; have hw2 := hwk.2.1
    rw [dT (by simp only [List.length_cons]; omega), cnd_t, First_cons, obind_s, wr_m (by omega) (by omega)]
    exact key (w.1 - 1)
theorem rNow_eq (N : Nat) (a : Int × Int) (now : Int) : W_ref1_Now N (a, now) = some (nowM a now) := by
  obtain ⟨a, b⟩ := a
  unfold W_ref1_Now V_ref1_Now nowM
  simp only
  by_cases q : a = 0
  · rw [dT q, cnd_t, if_pos q]
  · rw [dF q, cnd_f, if_neg q]
theorem rMaySpan_eq (N : Nat) (lo hi : Int) : W_ref1_MaySpan N (lo, hi) = some (decide (1 ≤ lo ∧ lo ≤ hi ∧ hi ≤ 1000000)) := by
  unfold W_ref1_MaySpan V_ref1_MaySpan
  simp only
  by_cases q1 : 1 ≤ lo
  · rw [dT q1, cnd_t, obind_s]
    simp only
    by_cases q2 : lo ≤ hi
    · rw [dT q2, cnd_t]; simp [q1, q2]
    · rw [dF q2, cnd_f, dF (fun q => q2 q.2.1)]
  · rw [dF q1, cnd_f, obind_s]
    simp only
    rw [cnd_f, dF (fun q => q1 q.1)]
theorem rTried_eq (N : Nat) (hN : 2000 ≤ N) (a : Int × Int) (now : Int) (h : 0 ≤ a.1) (h2 : a.1 ≤ 1000000) (hn : -100000000000000 ≤ now) (hn2 : now ≤ 100000000000000) : W_ref1_Tried N (a, now) = some (triedM a now) := by
  obtain ⟨a, b⟩ := a
  unfold W_ref1_Tried V_ref1_Tried triedM
  simp only at h h2 ⊢
  refine loop_G (N := N) (fun q => q = some (a + 1, now + 2 * 2 ^ (min a.toNat 3))) (fun k (v : Int × Int × (Int × Int) × Int × Int) => v.2.2.1 = (a, b) ∧ v.2.1 = k ∧ (k : Int) ≤ a ∧ k ≤ 3 ∧ v.1 = 2 * 2 ^ k) 3 (fun r : Int × (Int × Int) × Int × Int => r.2.1 = (a, b) ∧ r.1 = 2 * 2 ^ (min a.toNat 3)) ⟨rfl, rfl, by omega, by omega, by simp⟩ (by omega) ?_ (fun k v h => h.2.2.2.1) ?_
  · rintro ⟨u, ⟨x, y⟩, z1, z2⟩ ⟨e, e2⟩
    cases e
    simp only at e2 ⊢
    have hp : (2 : Int) * 2 ^ (min a.toNat 3) ≤ 16 ∧ 0 ≤ (2 : Int) * 2 ^ (min a.toNat 3) := by
      have hm : min a.toNat 3 ≤ 3 := by omega
      generalize min a.toNat 3 = m at hm ⊢
      have : m = 0 ∨ m = 1 ∨ m = 2 ∨ m = 3 := by omega
      rcases this with rfl | rfl | rfl | rfl <;> decide
    rw [e2, wr_m (by omega) (by omega), wr_m (by omega) (by omega)]
  · rintro k ⟨u, i, ⟨x, y⟩, z1, z2⟩ ⟨e, e2, hk, hk3, e3⟩
    cases e
    simp only at e2 e3 ⊢
    subst e2 e3
    by_cases q1 : (k : Int) < a
    · rw [dT q1, cnd_t]
      by_cases q2 : (k : Int) < 3
      · left
        have hk4 : k = 0 ∨ k = 1 ∨ k = 2 := by omega
        rw [dT q2, cnd_t]
        refine ⟨_, rfl, rfl, by simp only; rw [wr_m (by omega) (by omega)]; omega, by omega, by omega, ?_⟩
        rcases hk4 with rfl | rfl | rfl <;> (simp only; rw [wr_m (by decide) (by decide)]; decide)
      · right
        rw [dF q2, cnd_f]
        exact ⟨_, rfl, rfl, by simp only; rw [show min a.toNat 3 = k by omega]⟩
    · right
      rw [dF q1, cnd_f]
      exact ⟨_, rfl, rfl, by simp only; rw [show min a.toNat 3 = k by omega]⟩
/-- Such a feed as may be. -/
structure FI (K c : Int) (f : Fd) : Prop where
  n0 : 0 ≤ f.1
  tp : 0 ≤ f.2.1 ∧ f.2.1 ≤ K
  p : 1 ≤ f.1 → Fp K c f.1 f.2.2.1 f.2.2.2.1 f.2.2.2.2.1
  ask : 0 ≤ f.2.2.2.2.2.1 ∧ f.2.2.2.2.2.1 ≤ 3
  z : f.1 = 0 → f.2.2.1 = [] ∧ f.2.2.2.1 = [] ∧ f.2.2.2.2.1 = []
theorem FI.knows {K c : Int} {f : Fd} (h : FI K c f) (t : Int) (ht : t ≤ 1000000 → t ≤ K) : FI K c (knowsM f t) ∧ (knowsM f t).1 = f.1 := by
  unfold knowsM
  split
  · rename_i q
    have := h.tp
    have := ht q.2
    exact ⟨⟨h.n0, ⟨by simp only; omega, by simp only; omega⟩, h.p, h.ask, h.z⟩, rfl⟩
  · exact ⟨h, rfl⟩
theorem FI.goes {K c : Int} {f : Fd} (h : FI K c f) (h1 : 1 ≤ f.1) : FI K c (goesM f).2 ∧ f.1 ≤ (goesM f).2.1 ∧ Wk ((goesM f).2.1 + 1) (min K ((goesM f).2.1 + 7)) (goesM f).2.2.2.2.1 := by
  obtain ⟨g1, g2, g3, g4, g5⟩ := goM_ok _ _ _ _ (h.p h1)
  unfold goesM
  refine ⟨⟨by simp only; omega, h.tp, fun _ => g1, ?_, fun q => by simp only at q; omega⟩, by simp only; omega, g2⟩
  simp only
  split
  · exact h.ask
  · exact ⟨by simp, by simp⟩
theorem FI.skips {K c : Int} {f : Fd} (h : FI K c f) (h1 : 1 ≤ f.1) (hi why : Int) (hh : hi ≤ 1000000 → hi ≤ K) : FI K c (skipsM f hi why).2 ∧ f.1 ≤ (skipsM f hi why).2.1 ∧ (hi ≤ 1000000 → hi < (skipsM f hi why).2.1) := by
  unfold skipsM
  by_cases c2 : 1000000 < hi
  · rw [if_pos (.inr c2)]; exact ⟨h, by simp only; omega, fun q => by omega⟩
  rw [if_neg (by omega)]
  obtain ⟨g1, g2, g3⟩ := skR_ok (why := why) (hh (by omega)) (f.2.2.2.1.length + 2) _ _ _ _ [] (h.p h1) (fun _ => by omega)
  refine ⟨⟨by simp only; omega, h.tp, fun _ => g1, ?_, fun q => by simp only at q; omega⟩, by simp only; omega, fun _ => by simp only; omega⟩
  simp only
  split
  · exact ⟨by simp, by simp⟩
  · exact h.ask
theorem rNotes_eq (N : Nat) (hN : 2000 ≤ N) {K c : Int} {f : Fd} (h : FI K c f) (hK : K ≤ 10000000) (lo hi : Int) (hh : hi ≤ 1000000 → hi ≤ K) : W_ref13_Notes N (f, lo, hi) = some (notesM f lo hi) := by
  obtain ⟨k1, k2⟩ := h.knows hi hh
  have hkn := rKnows_eq N f hi
  have h0 := h.n0
  obtain ⟨nx, tp, R, Wn, Lg, a, b⟩ := f
  unfold W_ref13_Notes V_ref13_Notes notesM
  simp only at k2 h0 ⊢
  by_cases c0 : nx = 0
  · rw [dT c0, cnd_t, if_pos (.inl c0)]
  rw [dF c0, cnd_f, rMaySpan_eq, obind_s]
  by_cases cs : 1 ≤ lo ∧ lo ≤ hi ∧ hi ≤ 1000000
  case neg => rw [dF cs, Bool.not_false, cnd_t, if_pos (by omega)]
  rw [dT cs, Bool.not_true, cnd_f, if_neg (by omega), hkn, obind_s]
  obtain ⟨g, hg⟩ : ∃ g, knowsM (nx, tp, R, Wn, Lg, a, b) hi = g := ⟨_, rfl⟩
  rw [hg] at k1 k2 ⊢
  rw [← k2]
  by_cases c1 : g.1 < lo
  · rw [dT c1, cnd_t, if_pos (.inl c1)]
  rw [dF c1, cnd_f]
  by_cases c2 : hi < g.1
  · rw [dT c2, cnd_t, if_pos (.inr c2)]
  rw [dF c2, cnd_f, if_neg (by omega)]
  have hg1 : 1 ≤ g.1 := by omega
  obtain ⟨s1, s2, s3⟩ := k1.skips hg1 hi 1 hh
  have e1 := rSkips_eq N hN k1.p hK hi 1 hh
  have e2 := rGoes_eq N hN (s1.p (by omega)) hK
  rw [e1, obind_s]
  show obind (W_ref13_Goes N (skipsM g hi 1).2) _ = _
  rw [e2, obind_s]
theorem rTick_eq (N : Nat) (hN : 2000 ≤ N) {K c : Int} {f : Fd} (h : FI K c f) (hK : K ≤ 1000000) (now : Int) (hn : -100000000000000 ≤ now) (hn2 : now ≤ 100000000000000) : W_ref13_Tick N (f, now) = some (tickM f now) := by
  have hw := rWants_eq N h.n0 h.p (fun q => (h.z q).2.1) (by omega)
  have hwk : (wantsM f).1 = true → 1 ≤ f.1 ∧ (wantsM f).2.2 ≤ K := by
    have h0 := h.n0; have hp := h.p; have htp := h.tp
    obtain ⟨nx, tp, R, Wn, Lg, a, b⟩ := f
    unfold wantsM
    simp only at h0 hp htp ⊢
    cases Wn with
    | nil =>
      simp only
      split
      · intro q; cases q
      · intro _; simp only; omega
    | cons w r =>
      simp only
      split
      · intro q; cases q
      · intro _
        have := (hp (by omega)).wk.2.1
        simp only; omega
  have hnow := rNow_eq N f.2.2.2.2.2 now
  have htr := rTried_eq N hN f.2.2.2.2.2 now h.ask.1 (by have := h.ask; omega) hn hn2
  have hsk := fun hi hh => rSkips_eq N hN (hi := hi) (why := 2) h.p (by omega) hh
  have hfi := fun h1 hi hh => h.skips h1 hi 2 hh
  obtain ⟨nx, tp, R, Wn, Lg, a, b⟩ := f
  unfold W_ref13_Tick V_ref13_Tick tickM
  simp only at hnow htr hwk hfi ⊢
  rw [hw, obind_s]
  obtain ⟨s, hs⟩ : ∃ s, wantsM (nx, tp, R, Wn, Lg, a, b) = s := ⟨_, rfl⟩
  rw [hs] at hwk ⊢
  obtain ⟨q, s1, s2⟩ := s
  simp only at hwk ⊢
  cases q with
  | false => rw [Bool.not_false, cnd_t, if_pos (.inl rfl)]
  | true =>
    obtain ⟨w1, w2⟩ := hwk rfl
    rw [Bool.not_true, cnd_f, hnow, obind_s]
    cases hq : nowM (a, b) now with
    | false => rw [Bool.not_false, cnd_t, if_pos (.inr rfl)]
    | true =>
      rw [Bool.not_true, cnd_f, if_neg (by simp)]
      by_cases c3 : 3 ≤ a
      · rw [dT c3, cnd_t, if_pos c3, hsk s2 (fun _ => w2), obind_s]
        obtain ⟨g1, g2, _⟩ := hfi w1 s2 (fun _ => w2)
        have e2 := rGoes_eq N hN (g1.p (by omega)) (by omega)
        show obind (W_ref13_Goes N (skipsM (nx, tp, R, Wn, Lg, a, b) s2 2).2) _ = _
        rw [e2, obind_s]
      · rw [dF c3, cnd_f, if_neg c3, htr, obind_s]
theorem pCloneI (N : Nat) (l : List It) (hl : l.length ≤ 100000000) : W_slices_Clone_api_Item N l = some l := by
  unfold W_slices_Clone_api_Item V_slices_Clone_api_Item
  rw [cnd_T (by omega)]
theorem pCloneE (N : Nat) (l : List Ev) (hl : l.length ≤ 100000000) : W_slices_Clone_api_Event N l = some l := by
  unfold W_slices_Clone_api_Event V_slices_Clone_api_Event
  rw [cnd_T (by omega)]
theorem pTell (N : Nat) (a : List Ev) (n : Int) (t : List UInt8) (hl : a.length ≤ 100000000) : W_log_Tell N (a, n, t) = some (a ++ [(1, n, n, t, 0)]) := by
  unfold W_log_Tell V_log_Tell
  simp only
  rw [pCloneE N a hl, obind_s, cnd_T (by simp only [List.length_cons, List.length_nil]; omega)]
theorem pSkip (N : Nat) (a : List Ev) (lo hi why : Int) (hl : a.length ≤ 100000000) : W_log_Skip N (a, lo, hi, why) = some (a ++ [(2, lo, hi, [], why)]) := by
  unfold W_log_Skip V_log_Skip
  simp only
  rw [pCloneE N a hl, obind_s, cnd_T (by omega)]
theorem pAdd (N : Nat) (l : List It) (e : It) (hl : l.length ≤ 6) (hs : ∀ h : 0 < l.length, (l.getD (l.length - 1) iD).1 < e.1) : W_ring_Add N (l, e.1, e.2) = some (addR l e) := by
  unfold W_ring_Add V_ring_Add
  simp only
  rw [pCloneI N l (by omega), obind_s]
  have tail : cnd (decide ((List.length l + List.length [(e.1, e.2)]) * (24 : Nat) ≤ (140737488355328 : Nat)))
      (cnd (decide ((6 : Int) < (↑(List.length (l ++ [(e.1, e.2)])) : Int))) (obind (W_slices_Delete_api_Item N ((0 : Int), (1 : Int), l ++ [(e.1, e.2)])) fun (b : List It) => some b) (some (l ++ [(e.1, e.2)]))) none = some (addR l e) := by
    rw [cnd_T (by simp only [List.length_singleton]; omega)]
    unfold addR
    by_cases h6 : 6 ≤ l.length
    · rw [if_pos h6, cnd_T (by simp only [List.length_append, List.length_singleton]; omega)]
      unfold W_slices_Delete_api_Item
      simp only
      rw [dT (by omega), dT (by simp only [List.length_append, List.length_singleton]; omega), dT (by omega), dT (by simp only [List.length_append, List.length_singleton]; omega), dT (by simp only [List.length_append, List.length_singleton]; omega)]
      simp only [Bool.and_self, cnd_t, obind_s]
      rfl
    · rw [if_neg h6, cnd_F (by simp only [List.length_append, List.length_singleton]; omega)]
  by_cases h0 : (0 : Int) < l.length
  · have w1 : wr .i64 ((l.length : Int) - 1) = ((l.length - 1 : Nat) : Int) := by rw [wr_m (by omega) (by omega)]; omega
    have h1 := hs (by omega)
    rw [dT h0, cnd_t, w1, dT (by omega), dT (by omega), Bool.and_self, cnd_t, Int.toNat_natCast, dF (by show ¬ e.1 ≤ (l.getD (l.length - 1) iD).1; omega), cnd_f]
    exact tail
  · rw [dF h0, cnd_f]
    exact tail
theorem Take_nil (N : Nat) (n : Int) : W_win_Take N ([], n) = some ([], false, 0, []) := by
  unfold W_win_Take V_win_Take
  simp only [List.length_nil]
  rw [dT (by omega), cnd_t, pCloneI N [] (by simp), obind_s]
theorem Take_no (N : Nat) (w : It) (r : List It) (n : Int) (h : w.1 ≠ n) (hr : r.length ≤ 1000) : W_win_Take N (w :: r, n) = some (w :: r, false, 0, []) := by
  unfold W_win_Take V_win_Take
  simp only [List.length_cons]
  rw [dF (by omega), cnd_f, dT (by omega), dT (by omega), Bool.and_self, cnd_t]
  have e : (List.getD (w :: r) 0 ((0 : Int), ([] : List UInt8))) = w := rfl
  rw [e, dT h, cnd_t, pCloneI N (w :: r) (by simp only [List.length_cons]; omega), obind_s]
theorem Take_yes (N : Nat) (w : It) (r : List It) (hr : r.length ≤ 1000) : W_win_Take N (w :: r, w.1) = some (r, true, w.1, w.2) := by
  unfold W_win_Take V_win_Take
  simp only [List.length_cons]
  have e : (List.getD (w :: r) 0 ((0 : Int), ([] : List UInt8))) = w := rfl
  have e2 : List.drop 1 (List.take (r.length + 1) (w :: r)) = r := by simp
  rw [dF (by omega), cnd_f, dT (by omega), dT (by omega), Bool.and_self, cnd_t, e, dF (fun q => q rfl), cnd_f, dT (by omega), dT (by omega), Bool.and_self, cnd_t, e2, pCloneI N r (by omega), obind_s, cnd_t]
theorem pTwin (N : Nat) (f : Fd) (h1 : f.2.2.1.length ≤ 100000000) (h2 : f.2.2.2.1.length ≤ 100000000) (h3 : f.2.2.2.2.1.length ≤ 100000000) : W_twin_Feed N f = some f := by
  obtain ⟨n, t, R, Wn, L, a, b⟩ := f
  unfold W_twin_Feed V_twin_Feed
  simp only at h1 h2 h3 ⊢
  rw [pCloneI N R h1, obind_s, pCloneI N Wn h2, obind_s, pCloneE N L h3, obind_s]
theorem Fp.twin (N : Nat) {K c : Int} {f : Fd} (h : Fp K c f.1 f.2.2.1 f.2.2.2.1 f.2.2.2.2.1) (hK : K ≤ 10000000) : W_twin_Feed N f = some f := by
  obtain ⟨a, b, _⟩ := h.lens hK
  exact pTwin N f (by have := h.rl; omega) (by omega) (by omega)
theorem FI.twin (N : Nat) {K c : Int} {f : Fd} (h : FI K c f) (hK : K ≤ 10000000) : W_twin_Feed N f = some f := by
  by_cases q : 1 ≤ f.1
  · exact (h.p q).twin N hK
  · obtain ⟨a, b, d⟩ := h.z (by have := h.n0; omega)
    exact pTwin N f (by rw [a]; simp) (by rw [b]; simp) (by rw [d]; simp)
theorem pStart (N : Nat) : W_wait_Start N () = some (0, 0) := rfl
theorem pGoes_eq (N : Nat) (hN : 2000 ≤ N) {K c : Int} {f : Fd} (h : Fp K c f.1 f.2.2.1 f.2.2.2.1 f.2.2.2.2.1) (hK : K ≤ 10000000) : W_nak_Goes N f = some (goesM f) := by
  have ht := h.twin N hK
  obtain ⟨nx, tp, R, Wn, Lg, a, b⟩ := f
  unfold W_nak_Goes V_nak_Goes goesM
  simp only at h ⊢
  rw [ht, obind_s]
  have hwl := (h.lens hK).1
  refine loop_G (N := N) (x := (z7, (nx, tp, R, Wn, Lg, a, b), [])) (fun q => q = some ((goM Wn nx R Lg).1, (goM Wn nx R Lg).2.1, tp, (goM Wn nx R Lg).2.2.1, (goM Wn nx R Lg).2.2.2.1, (goM Wn nx R Lg).2.2.2.2, if (goM Wn nx R Lg).1 = [] then (a, b) else (0, 0)))
    (fun k (v : Fd × Fd × List It) => v.1 = z7 ∧ Fp K c v.2.1.1 v.2.1.2.2.1 v.2.1.2.2.2.1 v.2.1.2.2.2.2.1 ∧ v.2.1.2.1 = tp ∧ v.2.1.2.2.2.1.length + k = Wn.length ∧ v.2.2.length = k ∧ (v.2.2 ++ (goM v.2.1.2.2.2.1 v.2.1.1 v.2.1.2.2.1 v.2.1.2.2.2.2.1).1, (goM v.2.1.2.2.2.1 v.2.1.1 v.2.1.2.2.1 v.2.1.2.2.2.2.1).2) = goM Wn nx R Lg ∧ v.2.1.2.2.2.2.2 = (a, b)) Wn.length
    (fun r : List It × Fd × Fd => r.1 = (goM Wn nx R Lg).1 ∧ r.2.2 = ((goM Wn nx R Lg).2.1, tp, (goM Wn nx R Lg).2.2.1, (goM Wn nx R Lg).2.2.2.1, (goM Wn nx R Lg).2.2.2.2, a, b)) ⟨rfl, h, rfl, by simp, rfl, by simp, rfl⟩ (by omega) ?_ (fun k v h => by have := h.2.2.2.1; omega) ?_
  · rintro ⟨o, z, f⟩ ⟨rfl, rfl⟩
    simp only
    cases hq : (goM Wn nx R Lg).1 with
    | nil => rw [dF (by simp), cnd_f, if_pos rfl]
    | cons x l => rw [dT (by simp only [List.length_cons]; omega), cnd_t, pStart, obind_s, if_neg (by simp)]
  · rintro k ⟨z, ⟨n', t', R', W', L', a', b'⟩, o⟩ ⟨rfl, hf, rfl, hwk, hol, hq, hab⟩
    simp only at hf hwk hol hq hab ⊢
    cases hab
    obtain ⟨l1, l2, l3⟩ := hf.lens hK
    have hnx := hf.nx
    cases W' with
    | nil =>
      right
      rw [Take_nil, obind_s]
      simp only [Bool.not_false, cnd_t]
      refine ⟨_, rfl, ?_⟩
      simp only [goM, List.append_nil] at hq
      rw [← hq]
      exact ⟨rfl, rfl⟩
    | cons w r =>
      simp only [List.length_cons] at hwk l1
      by_cases cw : w.1 = n'
      · left
        obtain rfl : n' = w.1 := cw.symm
        rw [Take_yes N w r (by omega), obind_s]
        simp only [Bool.not_true, cnd_f]
        rw [pTell N L' w.1 w.2 (by omega), obind_s, pAdd N R' (w.1, w.2) hf.rl l3, obind_s]
        have hs := hf.tell rfl
        rw [goM_eq] at hq
        refine ⟨_, cnd_T (by simp only [List.length_cons, List.length_nil]; omega), rfl, ?_, rfl, by simp only; omega, by simp [hol], ?_, rfl⟩
        · simp only
          rw [wr_m (by omega) (by omega)]
          exact hs
        · simp only
          rw [wr_m (by omega) (by omega), ← hq]
          simp only [List.append_assoc, List.cons_append, List.nil_append]
      · right
        rw [Take_no N w r n' cw (by omega), obind_s]
        simp only [Bool.not_false, cnd_t]
        rw [goM_ne cw] at hq
        refine ⟨_, rfl, ?_⟩
        simp only [List.append_nil] at hq
        rw [← hq]
        exact ⟨rfl, rfl⟩
theorem wFirst_nil (N : Nat) : W_win_First N [] = some 0 := by
  unfold W_win_First V_win_First
  rw [dT (by simp), cnd_t]
theorem wFirst_cons (N : Nat) (w : It) (r : List It) : W_win_First N (w :: r) = some w.1 := by
  unfold W_win_First V_win_First
  simp only [List.length_cons]
  rw [dF (by omega), cnd_f, dT (by omega), dT (by omega), Bool.and_self, cnd_t]
  rfl
theorem nFirst_nil (N : Nat) (n t : Int) (R : List It) (L : List Ev) (a b : Int) (h : 0 ≤ n) : W_nak_first N (n, t, R, [], L, a, b) = some (.inr ()) := by
  unfold W_nak_first V_nak_first
  simp only
  rw [wFirst_nil, obind_s]
  by_cases q : n ≤ 0
  · rw [dT q, cnd_t, dF (by omega), cnd_f]
  · rw [dF q, cnd_f]
theorem nFirst_cons (N : Nat) (n t : Int) (R : List It) (w : It) (r : List It) (L : List Ev) (a b : Int) (h : 1 ≤ n) (h2 : n ≤ w.1) : W_nak_first N (n, t, R, w :: r, L, a, b) = some (.inl w.1) := by
  unfold W_nak_first V_nak_first
  simp only
  rw [wFirst_cons, obind_s, dT h2, cnd_t, dT (by omega), cnd_t]
theorem pSkips_eq (N : Nat) (hN : 2000 ≤ N) {K c : Int} {f : Fd} (ht : W_twin_Feed N f = some f) (h : 1 ≤ f.1 → Fp K c f.1 f.2.2.1 f.2.2.2.1 f.2.2.2.2.1) (hK : K ≤ 10000000) (hi why : Int) (hh : hi ≤ 1000000 → hi ≤ K) : W_nak_Skips N (f, hi, why) = some (skipsM f hi why) := by
  obtain ⟨nx, tp, R, Wn, Lg, a, b⟩ := f
  unfold W_nak_Skips V_nak_Skips skipsM
  simp only at h ⊢
  rw [ht, obind_s]
  by_cases c1 : nx < 1
  · rw [dT c1, cnd_t, if_pos (.inl c1)]
  rw [dF c1, cnd_f]
  by_cases c2 : 1000000 < hi
  · rw [dT c2, cnd_t, if_pos (.inr c2)]
  rw [dF c2, cnd_f, if_neg (by omega)]
  have h := h (by omega)
  have hh := hh (by omega)
  have hwl := (h.lens hK).1
  have hn0 := h.nx
  obtain ⟨T, hT⟩ : ∃ T, skR hi why (Wn.length + 2) nx R Wn Lg [] = T := ⟨_, rfl⟩
  rw [hT]
  refine loop_G (N := N) (x := ((nx, tp, R, Wn, Lg, a, b), z7, (nx, tp, R, Wn, Lg, a, b), [], why)) (fun q => q = some (T.1, T.2.1, tp, T.2.2.1, T.2.2.2.1, T.2.2.2.2, if nx ≤ hi then (0, 0) else (a, b)))
    (fun k (v : Fd × Fd × Fd × List Sp × Int) => v.1 = (nx, tp, R, Wn, Lg, a, b) ∧ v.2.2.2.2 = why ∧ Fp K c v.2.2.1.1 v.2.2.1.2.2.1 v.2.2.1.2.2.2.1 v.2.2.1.2.2.2.2.1 ∧ v.2.2.1.2.1 = tp ∧ v.2.2.2.1.length ≤ k ∧ (k = 0 → v.2.2.1.1 = nx ∧ v.2.2.1.2.2.2.2.2 = (a, b)) ∧ (0 < k → nx ≤ hi ∧ nx < v.2.2.1.1) ∧
      ∃ j, j + k = Wn.length + 2 ∧ (v.2.2.1.1 ≤ hi → v.2.2.1.2.2.2.1.length + 1 ≤ j) ∧ skR hi why j v.2.2.1.1 v.2.2.1.2.2.1 v.2.2.1.2.2.2.1 v.2.2.1.2.2.2.2.1 v.2.2.2.1 = T) (Wn.length + 2)
    (fun r : Fd × Fd × Fd × List Sp => r.1 = (nx, tp, R, Wn, Lg, a, b) ∧ r.2.2.2 = T.1 ∧ r.2.2.1.1 = T.2.1 ∧ r.2.2.1.2.1 = tp ∧ r.2.2.1.2.2.1 = T.2.2.1 ∧ r.2.2.1.2.2.2.1 = T.2.2.2.1 ∧ r.2.2.1.2.2.2.2.1 = T.2.2.2.2 ∧ (nx ≤ hi → nx < T.2.1) ∧ (¬ nx ≤ hi → T.2.1 = nx ∧ r.2.2.1.2.2.2.2.2 = (a, b))) ⟨rfl, rfl, h, rfl, by simp, fun _ => ⟨rfl, rfl⟩, fun q => by omega, Wn.length + 2, rfl, fun _ => by simp, hT⟩ (by omega) ?_ (fun k v h => by obtain ⟨j, h1, _⟩ := h.2.2.2.2.2.2.2; omega) ?_
  · rintro ⟨f0, z, ⟨n', t', R', W', L', a', b'⟩, o⟩ ⟨e0, e1, e2, e3, e4, e5, e6, e7, e8⟩
    cases e0
    simp only at e1 e2 e3 e4 e5 e6 e7 e8 ⊢
    subst e1 e2 e3 e4 e5 e6
    by_cases q : nx ≤ hi
    · have := e7 q
      rw [dT (by omega), cnd_t, pStart, obind_s, if_pos q]
    · obtain ⟨e9, e10⟩ := e8 q
      rw [dF (by omega), cnd_f, if_neg q, e10]
  · rintro k ⟨f0, z, ⟨n', t', R', W', L', a', b'⟩, o, wy⟩ ⟨e0, e1, hf, e2, hol, hk0, hk1, j, hj, hw, hq⟩
    simp only at e0 e1 e2 hf hol hk0 hk1 hw hq ⊢
    subst e0 e1 e2
    obtain ⟨l1, l2, l3⟩ := hf.lens hK
    have hnx := hf.nx
    by_cases cn : n' ≤ hi
    case neg =>
      right
      rw [dF cn, cnd_f]
      rw [skR_stop cn] at hq
      subst hq
      refine ⟨_, rfl, rfl, rfl, rfl, rfl, rfl, rfl, rfl, fun q => by simp only; omega, fun q => ?_⟩
      have : k = 0 := by
        apply Classical.byContradiction
        intro q2
        have := hk1 (by omega)
        omega
      exact hk0 this
    left
    have hni : nx ≤ hi ∧ nx ≤ n' := by
      by_cases k0 : k = 0
      · have := hk0 k0; omega
      · have := hk1 (by omega); omega
    have hw := hw cn
    obtain ⟨j, rfl⟩ : ∃ i, j = i + 1 := ⟨j - 1, by omega⟩
    unfold skR at hq
    rw [if_pos cn] at hq
    rw [dT cn, cnd_t]
    -- where nothing is ahead
    have far : Wk (hi + 1) (min K (n' + 7)) W' → skR hi wy j (hi + 1) R' W' (L' ++ [(2, n', hi, [], wy)]) (o ++ [(n', hi)]) = T → (∃ y : Fd × Fd × Fd × List Sp × Int, (obind (W_log_Skip N (L', n', hi, wy)) fun (b_1 : List Ev) => cnd (decide ((List.length o + List.length [(n', hi)]) * (16 : Nat) ≤ (140737488355328 : Nat))) (some (Sum.inl (((nx, t', R, Wn, Lg, a, b) : Fd), z, ((wr .i64 (hi + 1), t', R', W', b_1, a', b') : Fd), o ++ [(n', hi)], wy))) none) = some (.inl y : (Fd × Fd × Fd × List Sp × Int) ⊕ (Fd × Fd × Fd × List Sp)) ∧ y.1 = (nx, t', R, Wn, Lg, a, b) ∧ y.2.2.2.2 = wy ∧ Fp K c y.2.2.1.1 y.2.2.1.2.2.1 y.2.2.1.2.2.2.1 y.2.2.1.2.2.2.2.1 ∧ y.2.2.1.2.1 = t' ∧ y.2.2.2.1.length ≤ k + 1 ∧ (k + 1 = 0 → y.2.2.1.1 = nx ∧ y.2.2.1.2.2.2.2.2 = (a, b)) ∧ (0 < k + 1 → nx ≤ hi ∧ nx < y.2.2.1.1) ∧
      ∃ j, j + (k + 1) = Wn.length + 2 ∧ (y.2.2.1.1 ≤ hi → y.2.2.1.2.2.2.1.length + 1 ≤ j) ∧ skR hi wy j y.2.2.1.1 y.2.2.1.2.2.1 y.2.2.1.2.2.2.1 y.2.2.1.2.2.2.2.1 y.2.2.2.1 = T) := by
      intro hwk hq
      rw [pSkip N L' n' hi wy (by omega), obind_s, cnd_T (by simp only [List.length_cons, List.length_nil]; omega), wr_m (by omega) (by omega)]
      exact ⟨_, rfl, rfl, rfl, hf.skip cn hh hwk, rfl, by simp only [List.length_append, List.length_cons, List.length_nil]; omega, fun q => by omega, fun _ => ⟨hni.1, by simp only; omega⟩, j, by omega, fun q => by simp only at q; omega, hq⟩
    cases W' with
    | nil =>
      rw [nFirst_nil N _ _ _ _ _ _ (by omega), obind_s, selim_r]
      exact far trivial hq
    | cons w r =>
      have hwk := hf.wk
      simp only [List.length_cons] at hw l1
      rw [nFirst_cons N _ _ _ _ _ _ _ _ (by omega) hwk.1, obind_s, selim_l]
      simp only at hq
      by_cases cf : w.1 ≤ hi
      case neg =>
        rw [dT (by omega), cnd_t]
        rw [if_neg cf] at hq
        exact far ⟨by omega, hwk.2⟩ hq
      rw [if_pos cf] at hq
      have hw1 := hwk.1
      rw [dF (by omega), cnd_f, wr_m (z := w.1 - 1) (by omega) (by omega)]
      -- a feed that has come to the first one
      have near : ∀ (Lq : List Ev) (oq : List Sp), Fp K c w.1 R' (w :: r) Lq → oq.length ≤ k + 1 → skR hi wy j (goM (w :: r) w.1 R' Lq).2.1 (goM (w :: r) w.1 R' Lq).2.2.1 (goM (w :: r) w.1 R' Lq).2.2.2.1 (goM (w :: r) w.1 R' Lq).2.2.2.2 oq = T → (∃ y : Fd × Fd × Fd × List Sp × Int, (obind (some (((nx, t', R, Wn, Lg, a, b) : Fd), z, ((w.1, t', R', w :: r, Lq, a', b') : Fd), oq, wy)) fun (b : Fd × Fd × Fd × List Sp × Int) => obind (W_nak_Goes N b.2.2.1) fun (b_1 : List It × Fd) => some (Sum.inl (b.1, b.2.1, b_1.2, b.2.2.2.1, b.2.2.2.2))) = some (.inl y : (Fd × Fd × Fd × List Sp × Int) ⊕ (Fd × Fd × Fd × List Sp)) ∧ y.1 = (nx, t', R, Wn, Lg, a, b) ∧ y.2.2.2.2 = wy ∧ Fp K c y.2.2.1.1 y.2.2.1.2.2.1 y.2.2.1.2.2.2.1 y.2.2.1.2.2.2.2.1 ∧ y.2.2.1.2.1 = t' ∧ y.2.2.2.1.length ≤ k + 1 ∧ (k + 1 = 0 → y.2.2.1.1 = nx ∧ y.2.2.1.2.2.2.2.2 = (a, b)) ∧ (0 < k + 1 → nx ≤ hi ∧ nx < y.2.2.1.1) ∧
        ∃ j, j + (k + 1) = Wn.length + 2 ∧ (y.2.2.1.1 ≤ hi → y.2.2.1.2.2.2.1.length + 1 ≤ j) ∧ skR hi wy j y.2.2.1.1 y.2.2.1.2.2.1 y.2.2.1.2.2.2.1 y.2.2.1.2.2.2.2.1 y.2.2.2.1 = T) := by
        intro Lq oq hF hoq hq
        rw [obind_s]
        simp only
        rw [pGoes_eq N hN (f := (w.1, t', R', w :: r, Lq, a', b')) hF hK, obind_s]
        obtain ⟨g1, g2, g3, g4, _⟩ := goM_ok _ _ _ _ hF
        obtain ⟨g5, g6⟩ := goM_head (r := r) (R := R') (L := Lq) (rfl : w.1 = w.1)
        have g7 : 0 < (goM (w :: r) w.1 R' Lq).1.length := List.length_pos_iff.2 g5
        exact ⟨_, rfl, rfl, rfl, g1, rfl, hoq, fun q => by omega, fun _ => ⟨hni.1, by simp only [goesM]; omega⟩, j, by omega, fun q => by simp only [goesM]; omega, hq⟩
      by_cases cg : n' < w.1
      · rw [if_pos cg] at hq
        rw [dT cg, cnd_t, pSkip N L' n' (w.1 - 1) wy (by omega), obind_s, cnd_T (by simp only [List.length_cons, List.length_nil]; omega), wr_m (by omega) (by omega), show w.1 - 1 + 1 = w.1 by omega]
        refine near (L' ++ [(2, n', w.1 - 1, [], wy)]) (o ++ [(n', w.1 - 1)]) ?_ (by simp only [List.length_append, List.length_cons, List.length_nil]; omega) hq
        have := hf.skip (m := w.1 - 1) (why := wy) (by omega) (by omega) ⟨by omega, hwk.2⟩
        rwa [show w.1 - 1 + 1 = w.1 by omega] at this
      · rw [if_neg cg] at hq
        have e : n' = w.1 := by omega
        subst e
        rw [dF cg, cnd_f]
        exact near L' o hf (by omega) hq
theorem pWants_eq (N : Nat) {K c : Int} {f : Fd} (h0 : 0 ≤ f.1) (h : 1 ≤ f.1 → Fp K c f.1 f.2.2.1 f.2.2.2.1 f.2.2.2.2.1) (hz : f.1 = 0 → f.2.2.2.1 = []) (hK : K ≤ 10000000) : W_nak_Wants N f = some (wantsM f) := by
  obtain ⟨nx, tp, R, Wn, Lg, a, b⟩ := f
  unfold W_nak_Wants V_nak_Wants wantsM
  simp only at h hz h0 ⊢
  have key : ∀ hi : Int, (obind (some (((nx, tp, R, Wn, Lg, a, b) : Fd), ((0 : Int), (0 : Int)), nx, hi)) fun (b : Fd × (Int × Int) × Int × Int) => cnd (decide (b.1.1 < 1)) (some (false, (0 : Int), (0 : Int))) (cnd (decide (b.2.2.2 < b.2.2.1)) (some (false, (0 : Int), (0 : Int))) (some (true, b.2.2.1, b.2.2.2)))) = some (if nx = 0 ∨ hi < nx then (false, 0, 0) else (true, nx, hi)) := by
    intro hi
    rw [obind_s]
    simp only
    by_cases c0 : nx = 0
    · rw [dT (by omega), cnd_t, if_pos (.inl c0)]
    rw [dF (by omega), cnd_f]
    by_cases q : hi < nx
    · rw [dT q, cnd_t, if_pos (.inr q)]
    · rw [dF q, cnd_f, if_neg (by omega)]
  cases Wn with
  | nil =>
    rw [nFirst_nil N _ _ _ _ _ _ h0, obind_s, selim_r]
    exact key tp
  | cons w r =>
    have hn : 1 ≤ nx := by
      have : nx ≠ 0 := fun q => by have := hz q; cases this
      omega
    have hwk := (h hn).wk
    have hnx := (h hn).nx
    have hw1 := hwk.1; have hw2 := hwk.2.1
    rw [nFirst_cons N _ _ _ _ _ _ _ _ hn hw1, obind_s, selim_l, wr_m (by omega) (by omega)]
    exact key (w.1 - 1)
theorem wants_le {K c : Int} {f : Fd} (h : FI K c f) (hw : (wantsM f).1 = true) : 1 ≤ f.1 ∧ (wantsM f).2.1 = f.1 ∧ f.1 ≤ (wantsM f).2.2 ∧ (wantsM f).2.2 ≤ K := by
  have h0 := h.n0; have hp := h.p; have htp := h.tp
  obtain ⟨nx, tp, R, Wn, Lg, a, b⟩ := f
  unfold wantsM at hw ⊢
  simp only at h0 hp htp hw ⊢
  cases Wn with
  | nil =>
    simp only at hw ⊢
    split at hw
    · cases hw
    · rename_i q
      rw [if_neg q]; exact ⟨by omega, rfl, by simp only; omega, by simp only; omega⟩
  | cons w r =>
    simp only at hw ⊢
    split at hw
    · cases hw
    · rename_i q
      rw [if_neg q]
      have := (hp (by omega)).wk.2.1
      exact ⟨by omega, rfl, by simp only; omega, by simp only; omega⟩
/-- Where an item has its place. -/
theorem Wk.drop : ∀ {l : List It} {n K : Int}, Wk n K l → ∀ k, Wk n K (l.drop k)
  | l, _, _, h, 0 => by simpa using h
  | [], _, _, _, k + 1 => by simp; trivial
  | w :: r, n, K, h, k + 1 => (h.2.2.drop k).mono (by have := h.1; omega) (Int.le_refl _)
theorem rGet_eq (N : Nat) (l : List It) (s : Int) (hN : 2000 ≤ N) (hl : l.length ≤ 1000) : W_ref13_Get N (l, s) = some (getF l s) := by
  unfold W_ref13_Get V_ref13_Get
  simp only
  refine loop_G (N := N) (fun o => o = some (getF l s)) (fun k (v : Int) => v = k ∧ k ≤ l.length ∧ getF (l.drop k) s = getF l s) l.length (fun r : PUnit ⊕ List UInt8 × Bool => (r = .inl () ∧ getF l s = ([], false)) ∨ r = .inr (getF l s)) ⟨rfl, by omega, rfl⟩ (by omega) ?_ (fun k v h => h.2.1) ?_
  · rintro r (⟨rfl, h⟩ | rfl)
    · rw [selim_l, h]
    · rw [selim_r]
  · rintro k v ⟨e, hk, hg⟩
    subst e
    by_cases c : (k : Int) < l.length
    case neg =>
      right
      rw [dF c, cnd_f]
      rw [List.drop_eq_nil_of_le (by omega)] at hg
      exact ⟨_, rfl, .inl ⟨rfl, hg.symm⟩⟩
    rw [drop_consI (by omega)] at hg
    simp only [getF] at hg
    rw [dT c, cnd_t, dT (by omega), Bool.and_self, cnd_t, Int.toNat_natCast]
    by_cases c2 : (l.getD k iD).1 = s
    · right
      rw [if_pos c2] at hg
      rw [dT c2, cnd_t, cnd_t]
      exact ⟨_, rfl, .inr (by rw [← hg])⟩
    · left
      rw [if_neg c2] at hg
      rw [dF c2, cnd_f, wr_m (by omega) (by omega)]
      exact ⟨_, rfl, by omega, by omega, hg⟩
theorem rPut_eq (N : Nat) (hN : 2000 ≤ N) (l : List It) (n : Int) (x : It) (hl : l.length ≤ 500) (hn : 0 ≤ n) (hn2 : n ≤ 10000001) (hx : 0 ≤ x.1) (hx2 : x.1 ≤ 10000000) : W_ref13_PutWin N (l, n, x) = some (putM l n x) := by
  unfold W_ref13_PutWin V_ref13_PutWin putM
  simp only
  rw [rGet_eq N l x.1 hN (by omega), obind_s]
  by_cases c1 : x.1 < n
  · rw [dT c1, cnd_t, if_pos (.inl c1)]
  rw [dF c1, cnd_f, wr_m (by omega) (by omega)]
  by_cases c2 : 8 ≤ x.1 - n
  · rw [dT c2, cnd_t, if_pos (.inr (.inl c2))]
  rw [dF c2, cnd_f]
  cases hg : (getF l x.1).2 with
  | true => rw [cnd_t, if_pos (.inr (.inr rfl))]
  | false =>
    rw [cnd_f, if_neg (by rintro (q | q | q) <;> first | omega | cases q)]
    have hIl := insW_len x l
    refine loop_G (N := N) (fun o => o = some (insW x l, true)) (fun k (v : Bool × Int × It × List It) => v.2.1 = k ∧ k ≤ l.length ∧ v.2.2.1 = x ∧ ((v.1 = false ∧ v.2.2.2 ++ insW x (l.drop k) = insW x l) ∨ (v.1 = true ∧ v.2.2.2 ++ l.drop k = insW x l))) l.length
      (fun r : Bool × It × List It => r.2.1 = x ∧ ((r.1 = false ∧ r.2.2 ++ [x] = insW x l) ∨ (r.1 = true ∧ r.2.2 = insW x l))) ⟨rfl, by omega, rfl, .inl ⟨rfl, rfl⟩⟩ (by omega) ?_ (fun k v h => h.2.1) ?_
    · rintro ⟨p, y, o⟩ ⟨rfl, h⟩
      simp only at h ⊢
      rcases h with ⟨rfl, h⟩ | ⟨rfl, rfl⟩
      · have := congrArg List.length h
        rw [hIl, List.length_append] at this
        simp only [List.length_cons, List.length_nil] at this
        rw [Bool.not_false, cnd_t, cnd_T (by simp only [List.length_cons, List.length_nil]; omega)]
        rw [← h]
      · rw [Bool.not_true, cnd_f]
    · rintro k ⟨p, i, y, o⟩ ⟨e1, hk, rfl, h⟩
      simp only at e1 h ⊢
      subst e1
      by_cases c : (k : Int) < l.length
      case neg =>
        right
        rw [dF c, cnd_f]
        rw [List.drop_eq_nil_of_le (by omega)] at h
        refine ⟨_, rfl, rfl, ?_⟩
        rcases h with ⟨rfl, h⟩ | ⟨rfl, h⟩
        · exact .inl ⟨rfl, h⟩
        · rw [List.append_nil] at h; exact .inr ⟨rfl, h⟩
      left
      rw [drop_consI (by omega)] at h
      have hol : o.length ≤ l.length + 1 := by
        rcases h with ⟨_, h⟩ | ⟨_, h⟩ <;>
        · have := congrArg List.length h
          rw [hIl, List.length_append] at this
          omega
      rw [dT c, cnd_t, dT (show (0 : Int) ≤ (k : Int) by omega), Bool.and_self, cnd_t, Int.toNat_natCast, wr_m (by omega) (by omega)]
      rcases h with ⟨rfl, h⟩ | ⟨rfl, h⟩
      · rw [Bool.not_false, cnd_t]
        simp only [insW] at h
        by_cases c3 : y.1 < (l.getD k iD).1
        · rw [if_pos c3] at h
          rw [dT c3, cnd_t, cnd_T (by simp only [List.length_cons, List.length_nil]; omega), obind_s]
          simp only [cnd_t]
          refine ⟨_, cnd_T (by simp only [List.length_append, List.length_cons, List.length_nil]; omega), by simp only; omega, by omega, rfl, .inr ⟨rfl, ?_⟩⟩
          simp only [List.append_assoc]
          exact h
        · rw [if_neg c3] at h
          rw [dF c3, cnd_f, obind_s]
          simp only [cnd_t]
          refine ⟨_, cnd_T (by omega), by simp only; omega, by omega, rfl, .inl ⟨rfl, ?_⟩⟩
          simp only [List.append_assoc]
          exact h
      · rw [Bool.not_true, cnd_f, obind_s]
        simp only [cnd_t]
        refine ⟨_, cnd_T (by omega), by simp only; omega, by omega, rfl, .inr ⟨rfl, ?_⟩⟩
        simp only [List.append_assoc]
        exact h
theorem FI.put {K c : Int} {f : Fd} (h : FI K c f) (h1 : 1 ≤ f.1) (x : It) (hx : x.1 ≤ K) : FI K c (f.1, f.2.1, f.2.2.1, (putM f.2.2.2.1 f.1 x).1, f.2.2.2.2) := by
  have hp := h.p h1
  refine ⟨h.n0, h.tp, fun _ => ⟨hp.nx, hp.rk, hp.rl, ?_, hp.ch, hp.c0⟩, h.ask, fun q => by simp only at q; omega⟩
  simp only
  unfold putM
  by_cases c1 : x.1 < f.1 ∨ 8 ≤ x.1 - f.1 ∨ (getF f.2.2.2.1 x.1).2 = true
  · rw [if_pos c1]; exact hp.wk
  · rw [if_neg c1]
    exact hp.wk.ins (by omega) (by omega) (by have : ¬ (getF f.2.2.2.1 x.1).2 = true := fun q => c1 (.inr (.inr q)); simpa using this)
theorem rComes_eq (N : Nat) (hN : 2000 ≤ N) {K c : Int} {f : Fd} (h : FI K c f) (hK : K ≤ 10000000) (x : It) (hx : x.1 ≤ 1000000 → x.1 ≤ K) : W_ref13_Comes N (f, x) = some (comesM f x) := by
  obtain ⟨k1, k2⟩ := h.knows x.1 hx
  have hkn := rKnows_eq N f x.1
  have h0 := h.n0
  obtain ⟨nx, tp, R, Wn, Lg, a, b⟩ := f
  unfold W_ref13_Comes V_ref13_Comes comesM
  simp only at k2 h0 ⊢
  by_cases c0 : nx = 0
  · rw [dT c0, cnd_t, obind_s]
    simp only [cnd_t, obind_s]
    rw [if_pos (.inl c0)]
  rw [dF c0, cnd_f, obind_s]
  simp only
  by_cases c1 : x.1 < 1
  · rw [dT c1, cnd_t, obind_s]
    simp only [cnd_t]
    rw [if_pos (.inr (.inl c1))]
  rw [dF c1, cnd_f, obind_s]
  simp only
  by_cases c2 : 1000000 < x.1
  · rw [dT c2, cnd_t, if_pos (.inr (.inr (.inl c2)))]
  rw [dF c2, cnd_f]
  by_cases c3 : (12 : Int) < x.2.length
  · rw [dT c3, cnd_t, if_pos (.inr (.inr (.inr c3)))]
  rw [dF c3, cnd_f, if_neg (by omega), hkn, obind_s]
  obtain ⟨g, hg⟩ : ∃ g, knowsM (nx, tp, R, Wn, Lg, a, b) x.1 = g := ⟨_, rfl⟩
  rw [hg] at k1 k2 ⊢
  have hg1 : 1 ≤ g.1 := by omega
  have hp := k1.p hg1
  have hn := hp.nx
  have hl := hp.lens hK
  have e1 := rPut_eq N hN g.2.2.2.1 g.1 x (by omega) (by omega) (by omega) (by omega) (by omega)
  have hF := k1.put hg1 x (hx (by omega))
  have e2 := rGoes_eq N hN (hF.p hg1) hK
  show obind (W_ref13_PutWin N (g.2.2.2.1, g.1, x)) _ = _
  rw [e1, obind_s]
  show obind (W_ref13_Goes N (g.1, g.2.1, g.2.2.1, (putM g.2.2.2.1 g.1 x).1, g.2.2.2.2)) _ = _
  rw [e2, obind_s]
theorem FI.notes {K c : Int} {f : Fd} (h : FI K c f) (lo hi : Int) (hh : hi ≤ 1000000 → hi ≤ K) : FI K c (notesM f lo hi) := by
  unfold notesM
  split
  · exact h
  rename_i q
  have hg := h.knows hi hh
  have h0 := h.n0
  split
  · exact hg.1
  · rename_i q2
    obtain ⟨a, b, _⟩ := hg.1.skips (by omega) hi 1 hh
    exact (a.goes (by omega)).1
theorem FI.comes {K c : Int} {f : Fd} (h : FI K c f) (x : It) (hx : x.1 ≤ 1000000 → x.1 ≤ K) : FI K c (comesM f x) := by
  unfold comesM
  split
  · exact h
  rename_i q
  have hg := h.knows x.1 hx
  have h0 := h.n0
  exact ((hg.1.put (by omega) x (hx (by omega))).goes (by simp only; omega)).1
theorem FI.tick {K c : Int} {f : Fd} (h : FI K c f) (now : Int) : FI K c (tickM f now).2.1 := by
  unfold tickM
  simp only
  split
  · exact h
  rename_i q
  obtain ⟨w1, w2, w3, w4⟩ := wants_le h (by cases hq : (wantsM f).1 with | true => rfl | false => exact absurd (.inl hq) q)
  split
  · obtain ⟨a, b, _⟩ := h.skips w1 (wantsM f).2.2 2 (fun _ => w4)
    exact (a.goes (by omega)).1
  · have ha := h.ask
    exact ⟨h.n0, h.tp, h.p, ⟨by simp only [triedM]; omega, by simp only [triedM]; omega⟩, h.z⟩
/-- A feed that has gone on. -/
def Le (f g : Fd) : Prop := f.1 ≤ g.1 ∧ f.2.1 ≤ g.2.1 ∧ ∃ e, g.2.2.2.2.1 = f.2.2.2.2.1 ++ e
theorem Le.refl (f : Fd) : Le f f := ⟨Int.le_refl _, Int.le_refl _, [], by simp⟩
theorem Le.trans {f g h : Fd} (a : Le f g) (b : Le g h) : Le f h := by
  obtain ⟨a1, a2, e1, a3⟩ := a
  obtain ⟨b1, b2, e2, b3⟩ := b
  exact ⟨by omega, by omega, e1 ++ e2, by rw [b3, a3, List.append_assoc]⟩
theorem knows_Le (f : Fd) (t : Int) : Le f (knowsM f t) := by
  unfold knowsM
  split
  · exact ⟨Int.le_refl _, by simp only; omega, [], by simp⟩
  · exact Le.refl f
theorem goM_pre : ∀ (W : List It) (n : Int) (R : List It) (L : List Ev), n ≤ (goM W n R L).2.1 ∧ ∃ e, (goM W n R L).2.2.2.2 = L ++ e
  | [], n, R, L => ⟨Int.le_refl _, [], by simp [goM]⟩
  | w :: r, n, R, L => by
    by_cases c : w.1 = n
    · subst c
      rw [goM_eq]
      obtain ⟨a, e, b⟩ := goM_pre r (w.1 + 1) (addR R w) (L ++ [(1, w.1, w.1, w.2, 0)])
      exact ⟨by simp only; omega, (1, w.1, w.1, w.2, 0) :: e, by simp only; rw [b, List.append_assoc]; rfl⟩
    · rw [goM_ne c]; exact ⟨Int.le_refl _, [], by simp⟩
theorem goes_Le (f : Fd) : Le f (goesM f).2 := by
  obtain ⟨a, e, b⟩ := goM_pre f.2.2.2.1 f.1 f.2.2.1 f.2.2.2.2.1
  exact ⟨a, Int.le_refl _, e, b⟩
theorem skR_pre (hi why : Int) : ∀ (j : Nat) (n : Int) (R W : List It) (L : List Ev) (o : List Sp), n ≤ (skR hi why j n R W L o).2.1 ∧ ∃ e, (skR hi why j n R W L o).2.2.2.2 = L ++ e
  | 0, n, R, W, L, o => ⟨Int.le_refl _, [], by simp [skR]⟩
  | j + 1, n, R, W, L, o => by
    unfold skR
    split
    case isFalse => exact ⟨Int.le_refl _, [], by simp⟩
    rename_i c
    cases W with
    | nil =>
      obtain ⟨a, e, b⟩ := skR_pre hi why j (hi + 1) R [] (L ++ [(2, n, hi, [], why)]) (o ++ [(n, hi)])
      exact ⟨by simp only; omega, _, by simp only; rw [b, List.append_assoc]⟩
    | cons w r =>
      simp only
      split
      · split
        · obtain ⟨a1, e1, b1⟩ := goM_pre (w :: r) w.1 R (L ++ [(2, n, w.1 - 1, [], why)])
          obtain ⟨a, e, b⟩ := skR_pre hi why j (goM (w :: r) w.1 R (L ++ [(2, n, w.1 - 1, [], why)])).2.1 (goM (w :: r) w.1 R (L ++ [(2, n, w.1 - 1, [], why)])).2.2.1 (goM (w :: r) w.1 R (L ++ [(2, n, w.1 - 1, [], why)])).2.2.2.1 (goM (w :: r) w.1 R (L ++ [(2, n, w.1 - 1, [], why)])).2.2.2.2 (o ++ [(n, w.1 - 1)])
          exact ⟨by omega, _, by rw [b, b1, List.append_assoc, List.append_assoc]⟩
        · obtain ⟨a1, e1, b1⟩ := goM_pre (w :: r) n R L
          obtain ⟨a, e, b⟩ := skR_pre hi why j (goM (w :: r) n R L).2.1 (goM (w :: r) n R L).2.2.1 (goM (w :: r) n R L).2.2.2.1 (goM (w :: r) n R L).2.2.2.2 o
          exact ⟨by omega, _, by rw [b, b1, List.append_assoc]⟩
      · obtain ⟨a, e, b⟩ := skR_pre hi why j (hi + 1) R (w :: r) (L ++ [(2, n, hi, [], why)]) (o ++ [(n, hi)])
        exact ⟨by omega, _, by rw [b, List.append_assoc]⟩
theorem skips_Le (f : Fd) (hi why : Int) : Le f (skipsM f hi why).2 := by
  unfold skipsM
  split
  · exact Le.refl f
  · obtain ⟨a, e, b⟩ := skR_pre hi why (f.2.2.2.1.length + 2) f.1 f.2.2.1 f.2.2.2.1 f.2.2.2.2.1 []
    exact ⟨a, Int.le_refl _, e, b⟩
theorem notes_Le (f : Fd) (lo hi : Int) : Le f (notesM f lo hi) := by
  unfold notesM
  split
  · exact Le.refl f
  · simp only
    split
    · exact knows_Le f hi
    · exact ((knows_Le f hi).trans (skips_Le _ _ _)).trans (goes_Le _)
theorem comes_Le (f : Fd) (x : It) : Le f (comesM f x) := by
  unfold comesM
  split
  · exact Le.refl f
  · exact ((knows_Le f x.1).trans ⟨Int.le_refl _, Int.le_refl _, [], by simp⟩).trans (goes_Le _)
theorem tick_Le (f : Fd) (now : Int) : Le f (tickM f now).2.1 := by
  unfold tickM
  simp only
  split
  · exact Le.refl f
  · split
    · exact (skips_Le _ _ _).trans (goes_Le _)
    · exact ⟨Int.le_refl _, Int.le_refl _, [], by simp⟩
/-- One of many deeds. -/
theorem tm (x k : Int) (h : 0 ≤ x) : Int.tmod x k = x % k := Int.tmod_eq_emod_of_nonneg h
theorem FI.lens {K c : Int} {f : Fd} (h : FI K c f) (hK : K ≤ 10000000) : f.2.2.1.length ≤ 6 ∧ f.2.2.2.1.length ≤ 8 ∧ f.2.2.2.2.1.length ≤ 10000001 := by
  by_cases q : 1 ≤ f.1
  · obtain ⟨a, b, _⟩ := (h.p q).lens hK
    exact ⟨(h.p q).rl, a, b⟩
  · obtain ⟨a, b, e⟩ := h.z (by have := h.n0; omega)
    rw [a, b, e]; simp
theorem FI.nx {K c : Int} {f : Fd} (h : FI K c f) (hK : 0 ≤ K) : 0 ≤ f.1 ∧ f.1 ≤ K + 1 := by
  refine ⟨h.n0, ?_⟩
  by_cases q : 1 ≤ f.1
  · exact (h.p q).nx.2
  · omega
theorem SameI_self (N : Nat) (l : List It) (hN : l.length < N) (hl : l.length ≤ 100000000) : W_ref13_SameItems N (l, l) = some true := by
  unfold W_ref13_SameItems V_ref13_SameItems
  simp only
  rw [dF (by simp), cnd_f]
  refine obind_loop (fun v : Int => 0 ≤ v ∧ v ≤ l.length) (fun v => l.length - v.toNat) (fun r : PUnit ⊕ Bool => r = .inl ()) ⟨by simp, by simp⟩ (by simp; omega) ?_ ?_
  · rintro r rfl; rw [selim_l]
  · rintro v ⟨g1, g2⟩
    by_cases h : v < l.length
    case neg => right; rw [dF h, cnd_f]; exact ⟨_, rfl, rfl⟩
    left
    rw [dT h, cnd_t, dT g1, Bool.and_self, cnd_t, cnd_t, dT trivial, BEq.rfl, Bool.and_self, Bool.not_true, cnd_f, wr_m (by omega) (by omega)]
    exact ⟨_, rfl, ⟨by omega, by omega⟩, by omega⟩
theorem SameE_self (N : Nat) (a : List Ev) (hN : a.length < N) (hl : a.length ≤ 100000000) : W_ref13_SameEvents N (a, a) = some true := by
  unfold W_ref13_SameEvents V_ref13_SameEvents
  simp only
  rw [dF (by simp), cnd_f]
  refine obind_loop (fun v : Int => 0 ≤ v ∧ v ≤ a.length) (fun v => a.length - v.toNat) (fun r : PUnit ⊕ Bool => r = .inl ()) ⟨by simp, by simp⟩ (by simp; omega) ?_ ?_
  · rintro r rfl; rw [selim_l]
  · rintro v ⟨g1, g2⟩
    by_cases h : v < a.length
    case neg => right; rw [dF h, cnd_f]; exact ⟨_, rfl, rfl⟩
    left
    rw [dT h, cnd_t, dT g1, Bool.and_self, cnd_t, cnd_t]
    simp only [decide_true, beq_self_eq_true, Bool.and_self, Bool.not_true, cnd_f]
    rw [wr_m (by omega) (by omega)]
    exact ⟨_, rfl, ⟨by omega, by omega⟩, by omega⟩
theorem SameF_self (N : Nat) (hN : 20000000 ≤ N) (f : Fd) (h : f.2.2.1.length ≤ 6 ∧ f.2.2.2.1.length ≤ 8 ∧ f.2.2.2.2.1.length ≤ 10000001) : W_ref13_SameFeed N (f, f) = some true := by
  obtain ⟨n, t, R, Wn, L, a, b⟩ := f
  simp only at h
  have s1 := SameI_self N R (by omega) (by omega)
  have s2 := SameI_self N Wn (by omega) (by omega)
  have s3 := SameE_self N L (by omega) (by omega)
  unfold W_ref13_SameFeed V_ref13_SameFeed
  simp only [decide_true, cnd_t, obind_s, s1, s2, s3, Bool.and_self]
/-- All items and events of a feed. -/
structure FA (P : It → Prop) (Q : Ev → Prop) (f : Fd) : Prop where
  w : ∀ x ∈ f.2.2.2.1, P x
  r : ∀ x ∈ f.2.2.1, P x
  l : ∀ e ∈ f.2.2.2.2.1, Q e
theorem addR_all {P : It → Prop} {R : List It} {w : It} (h : ∀ x ∈ R, P x) (hw : P w) : ∀ x ∈ addR R w, P x := by
  intro x hx
  have : x ∈ R ++ [w] := by
    unfold addR at hx
    split at hx
    · exact List.mem_of_mem_drop hx
    · exact hx
  rcases List.mem_append.1 this with h1 | h1
  · exact h x h1
  · rw [List.mem_singleton.1 h1]; exact hw
theorem goM_all {P : It → Prop} {Q : Ev → Prop} (hPQ : ∀ w : It, P w → Q (1, w.1, w.1, w.2, 0)) : ∀ (W : List It) (n : Int) (R : List It) (L : List Ev), (∀ x ∈ W, P x) → (∀ x ∈ R, P x) → (∀ e ∈ L, Q e) →
    (∀ x ∈ (goM W n R L).2.2.2.1, P x) ∧ (∀ x ∈ (goM W n R L).2.2.1, P x) ∧ (∀ e ∈ (goM W n R L).2.2.2.2, Q e)
  | [], n, R, L, h1, h2, h3 => ⟨h1, h2, h3⟩
  | w :: r, n, R, L, h1, h2, h3 => by
    have hw := h1 w (by simp)
    by_cases c : w.1 = n
    · subst c
      rw [goM_eq]
      exact goM_all hPQ r _ _ _ (fun x hx => h1 x (by simp [hx])) (addR_all h2 hw) (fun e he => by
        rcases List.mem_append.1 he with he | he
        · exact h3 e he
        · rw [List.mem_singleton.1 he]; exact hPQ w hw)
    · rw [goM_ne c]; exact ⟨h1, h2, h3⟩
theorem skR_all {P : It → Prop} {Q : Ev → Prop} (hPQ : ∀ w : It, P w → Q (1, w.1, w.1, w.2, 0)) (hi why : Int) : ∀ (j : Nat) (n : Int) (R W : List It) (L : List Ev) (o : List Sp), (∀ a b, n ≤ a → a ≤ b → b ≤ hi → Q (2, a, b, [], why)) → (∀ x ∈ W, P x) → (∀ x ∈ R, P x) → (∀ e ∈ L, Q e) →
    (∀ x ∈ (skR hi why j n R W L o).2.2.2.1, P x) ∧ (∀ x ∈ (skR hi why j n R W L o).2.2.1, P x) ∧ (∀ e ∈ (skR hi why j n R W L o).2.2.2.2, Q e)
  | 0, n, R, W, L, o, _, h1, h2, h3 => ⟨h1, h2, h3⟩
  | j + 1, n, R, W, L, o, hQ, h1, h2, h3 => by
    have snoc : ∀ a b, n ≤ a → a ≤ b → b ≤ hi → ∀ e ∈ L ++ [(2, a, b, [], why)], Q e := fun a b ha hb hc e he => by
      rcases List.mem_append.1 he with he | he
      · exact h3 e he
      · rw [List.mem_singleton.1 he]; exact hQ a b ha hb hc
    unfold skR
    split
    case isFalse => exact ⟨h1, h2, h3⟩
    rename_i c
    cases W with
    | nil => exact skR_all hPQ hi why j _ _ _ _ _ (fun a b ha hb hc => by omega) h1 h2 (snoc _ _ (by omega) (by omega) (by omega))
    | cons w r =>
      simp only
      split
      · split
        · obtain ⟨a1, a2, a3⟩ := goM_all hPQ (w :: r) w.1 R _ h1 h2 (snoc n (w.1 - 1) (by omega) (by omega) (by omega))
          obtain ⟨b1, _⟩ := goM_pre (w :: r) w.1 R (L ++ [(2, n, w.1 - 1, [], why)])
          exact skR_all hPQ hi why j _ _ _ _ _ (fun a b ha hb hc => hQ a b (by omega) hb hc) a1 a2 a3
        · obtain ⟨a1, a2, a3⟩ := goM_all hPQ (w :: r) n R L h1 h2 h3
          obtain ⟨b1, _⟩ := goM_pre (w :: r) n R L
          exact skR_all hPQ hi why j _ _ _ _ _ (fun a b ha hb hc => hQ a b (by omega) hb hc) a1 a2 a3
      · exact skR_all hPQ hi why j _ _ _ _ _ (fun a b ha hb hc => by omega) h1 h2 (snoc _ _ (by omega) (by omega) (by omega))
theorem FA.knows {P : It → Prop} {Q : Ev → Prop} {f : Fd} (h : FA P Q f) (t : Int) : FA P Q (knowsM f t) := by
  unfold knowsM
  split
  · exact ⟨h.w, h.r, h.l⟩
  · exact h
theorem FA.goes {P : It → Prop} {Q : Ev → Prop} (hPQ : ∀ w : It, P w → Q (1, w.1, w.1, w.2, 0)) {f : Fd} (h : FA P Q f) : FA P Q (goesM f).2 := by
  obtain ⟨a, b, c⟩ := goM_all hPQ _ f.1 _ _ h.w h.r h.l
  exact ⟨a, b, c⟩
theorem FA.skips {P : It → Prop} {Q : Ev → Prop} (hPQ : ∀ w : It, P w → Q (1, w.1, w.1, w.2, 0)) {f : Fd} (h : FA P Q f) (hi why : Int) (hQ : ∀ a b, f.1 ≤ a → a ≤ b → b ≤ hi → Q (2, a, b, [], why)) : FA P Q (skipsM f hi why).2 := by
  unfold skipsM
  split
  · exact h
  · obtain ⟨a, b, c⟩ := skR_all hPQ hi why (f.2.2.2.1.length + 2) f.1 _ _ _ [] hQ h.w h.r h.l
    exact ⟨a, b, c⟩
theorem insW_mem (x : It) : ∀ (l : List It) (w : It), w ∈ insW x l → w = x ∨ w ∈ l
  | [], w, h => by simp [insW] at h; exact .inl h
  | y :: r, w, h => by
    simp only [insW] at h
    split at h
    · rcases List.mem_cons.1 h with h | h
      · exact .inl h
      · exact .inr h
    · rcases List.mem_cons.1 h with h | h
      · exact .inr (by simp [h])
      · rcases insW_mem x r w h with h | h
        · exact .inl h
        · exact .inr (by simp [h])
theorem FA.put {P : It → Prop} {Q : Ev → Prop} {f : Fd} (h : FA P Q f) (x : It) (hx : P x) : FA P Q (f.1, f.2.1, f.2.2.1, (putM f.2.2.2.1 f.1 x).1, f.2.2.2.2) := by
  refine ⟨fun w hw => ?_, h.r, h.l⟩
  simp only at hw
  unfold putM at hw
  split at hw
  · exact h.w w hw
  · rcases insW_mem x _ w hw with rfl | hw
    · exact hx
    · exact h.w w hw
theorem FA.notes {P : It → Prop} {Q : Ev → Prop} (hPQ : ∀ w : It, P w → Q (1, w.1, w.1, w.2, 0)) {f : Fd} (h : FA P Q f) (lo hi : Int) (hQ : ∀ a b, f.1 ≤ a → a ≤ b → b ≤ hi → lo ≤ a → Q (2, a, b, [], 1)) : FA P Q (notesM f lo hi) := by
  unfold notesM
  split
  · exact h
  · simp only
    split
    · exact h.knows hi
    · rename_i q1 q2
      refine ((h.knows hi).skips hPQ hi 1 (fun a b ha hb hc => ?_)).goes hPQ
      have : (knowsM f hi).1 = f.1 := by unfold knowsM; split <;> rfl
      rw [this] at ha
      exact hQ a b ha hb hc (by omega)
theorem FA.comes {P : It → Prop} {Q : Ev → Prop} (hPQ : ∀ w : It, P w → Q (1, w.1, w.1, w.2, 0)) {f : Fd} (h : FA P Q f) (x : It) (hx : (1 ≤ x.1 ∧ x.1 ≤ 1000000 ∧ x.2.length ≤ 12) → P x) : FA P Q (comesM f x) := by
  unfold comesM
  split
  · exact h
  · rename_i q
    exact ((h.knows x.1).put x (hx ⟨by omega, by omega, by omega⟩)).goes hPQ
theorem FA.tick {P : It → Prop} {Q : Ev → Prop} (hPQ : ∀ w : It, P w → Q (1, w.1, w.1, w.2, 0)) {f : Fd} (h : FA P Q f) (now : Int) (hQ : 3 ≤ f.2.2.2.2.2.1 → ∀ a b, f.1 ≤ a → a ≤ b → Q (2, a, b, [], 2)) : FA P Q (tickM f now).2.1 := by
  unfold tickM
  simp only
  split
  · exact h
  · split
    · rename_i q
      exact (h.skips hPQ _ 2 (fun a b ha hb _ => hQ q a b ha hb)).goes hPQ
    · exact ⟨h.w, h.r, h.l⟩
/-- A window that is ahead. -/
def FS (K : Int) (f : Fd) : Prop := Wk (f.1 + 1) (min K (f.1 + 7)) f.2.2.2.1
theorem FS.knows {K : Int} {f : Fd} (h : FS K f) (t : Int) : FS K (knowsM f t) := by
  unfold knowsM
  split
  · exact h
  · exact h
theorem FS.notes {K c : Int} {f : Fd} (hf : FI K c f) (h : FS K f) (lo hi : Int) (hh : hi ≤ 1000000 → hi ≤ K) : FS K (notesM f lo hi) := by
  unfold notesM
  split
  · exact h
  rename_i q
  have hg := hf.knows hi hh
  have h0 := hf.n0
  split
  · exact h.knows hi
  · rename_i q2
    obtain ⟨a, b, _⟩ := hg.1.skips (by omega) hi 1 hh
    exact (a.goes (by omega)).2.2
theorem FS.comes {K c : Int} {f : Fd} (hf : FI K c f) (h : FS K f) (x : It) (hx : x.1 ≤ 1000000 → x.1 ≤ K) : FS K (comesM f x) := by
  unfold comesM
  split
  · exact h
  rename_i q
  have hg := hf.knows x.1 hx
  have h0 := hf.n0
  exact ((hg.1.put (by omega) x (hx (by omega))).goes (by simp only; omega)).2.2
theorem FS.tick {K c : Int} {f : Fd} (hf : FI K c f) (h : FS K f) (now : Int) : FS K (tickM f now).2.1 := by
  unfold tickM
  simp only
  split
  · exact h
  rename_i q
  obtain ⟨w1, w2, w3, w4⟩ := wants_le hf (by cases hq : (wantsM f).1 with | true => rfl | false => exact absurd (.inl hq) q)
  split
  · obtain ⟨a, b, _⟩ := hf.skips w1 (wantsM f).2.2 2 (fun _ => w4)
    exact (a.goes (by omega)).2.2
  · exact h
def eD : Ev := ((0 : Int), (0 : Int), (0 : Int), ([] : List UInt8), (0 : Int))
def EvOk (e : Ev) : Prop := (e.1 = 1 ∧ e.2.2.1 = e.2.1 ∧ e.2.2.2.1.length ≤ 12 ∧ e.2.2.2.2 = 0) ∨ (e.1 = 2 ∧ e.2.2.2.1 = [] ∧ (e.2.2.2.2 = 1 ∨ e.2.2.2.2 = 2))
theorem Ch.last : ∀ {L : List Ev} {n m : Int}, Ch n L m → L ≠ [] → (L.getD (L.length - 1) eD).2.2.1 + 1 = m
  | [], _, _, _, h => absurd rfl h
  | [e], n, m, h, _ => by have h' : _ = _ := h.2.2; simpa using h'
  | e :: x :: r, n, m, h, _ => by
    have := h.2.2.last (by simp)
    simpa using this
theorem Wk.at : ∀ {l : List It} {n K : Int}, Wk n K l → ∀ j, j + 1 < l.length → (l.getD j iD).1 < (l.getD (j + 1) iD).1
  | [], _, _, _, j, hj => by simp at hj
  | [w], _, _, _, j, hj => by simp at hj
  | w :: x :: r, n, K, h, 0, _ => by have := h.2.2.1; simp; omega
  | w :: x :: r, n, K, h, j + 1, hj => by
    have := h.2.2.at j (by simp at hj ⊢; omega)
    simpa using this
theorem getD_mem {l : List Int} {j : Nat} (h : j < l.length) : l.getD j 0 ∈ l := by
  rw [List.getD_eq_getElem?_getD, List.getElem?_eq_getElem h]; exact List.getElem_mem h
theorem Num_eq (N : Nat) (m : Int) (l : List Int) (n : Int) (hm : 1 ≤ m) (hn : 0 ≤ n) (hn2 : n ≤ 1000000) (hel : ∀ x ∈ l, 0 ≤ x ∧ x ≤ 255) : ∃ k n', W_Picks_Num N (m, l, n) = some (k, l, n') ∧ 0 ≤ k ∧ k < m ∧ n ≤ n' ∧ n' ≤ n + 1 := by
  unfold W_Picks_Num V_Picks_Num
  simp only
  by_cases h : (l.length : Int) ≤ n
  · rw [dT h, cnd_t]; exact ⟨_, _, rfl, by omega, by omega, by omega, by omega⟩
  rw [dF h, cnd_f, dF (by omega), cnd_f, wr_s (z := n + 1) (by omega) (by omega), wr_s (z := n + 1 - 1) (by omega) (by omega), dT (by omega), dT (by omega), Bool.and_self, cnd_t, dF (by omega), Bool.not_false, cnd_t]
  have hb := hel (l.getD (n + 1 - 1).toNat 0) (getD_mem (by omega))
  rw [wr_s (by omega) (by omega), Int.tmod_eq_emod_of_nonneg (by omega)]
  exact ⟨_, _, rfl, Int.emod_nonneg _ (by omega), Int.emod_lt_of_pos _ (by omega), by omega, by omega⟩
theorem Text_eq (N : Nat) (l : List Int) (n : Int) (hn : 0 ≤ n) (hn2 : n ≤ 1000) (hel : ∀ x ∈ l, 0 ≤ x ∧ x ≤ 255) : ∃ s n', W_Picks_Text N (l, n) = some (s, l, n') ∧ n ≤ n' ∧ n' ≤ n + 1 ∧ s.length ≤ 12 := by
  unfold W_Picks_Text V_Picks_Text
  try simp only
  obtain ⟨k, n1, e1, a1, a2, a3, a4⟩ := Num_eq N 5 l n (by omega) hn (by omega) hel
  rw [e1, obind_s]
  simp only
  rw [dT a1, cnd_t, dT (by omega), cnd_t]
  refine ⟨_, _, rfl, a3, a4, ?_⟩
  have : k = 0 ∨ k = 1 ∨ k = 2 ∨ k = 3 ∨ k = 4 := by omega
  rcases this with q | q | q | q | q <;> rw [q] <;> decide
theorem Fp.mono {K K' c n : Int} {R W : List It} {L : List Ev} (h : Fp K c n R W L) (hK : K ≤ K') : Fp K' c n R W L :=
  ⟨⟨h.nx.1, by have := h.nx.2; omega⟩, h.rk, h.rl, h.wk.mono (Int.le_refl _) (by omega), h.ch, h.c0⟩
theorem FI.mono {K K' c : Int} {f : Fd} (h : FI K c f) (hK : K ≤ K') : FI K' c f :=
  ⟨h.n0, ⟨h.tp.1, by have := h.tp.2; omega⟩, fun q => (h.p q).mono hK, h.ask, h.z⟩
theorem FS.mono {K K' : Int} {f : Fd} (h : FS K f) (hK : K ≤ K') : FS K' f := Wk.mono h (Int.le_refl _) (by omega)
abbrev FT (f : Fd) : Prop := FA (fun w => w.2.length ≤ 12) EvOk f
theorem FT.hpq (w : It) (hw : w.2.length ≤ 12) : EvOk (1, w.1, w.1, w.2, 0) := .inl ⟨rfl, rfl, hw, rfl⟩
/-- A made feed, behind j deeds. -/
structure Fm (j : Nat) (K c : Int) (now n : Int) (f : Fd) : Prop where
  n0 : 0 ≤ n ∧ n ≤ 1 + 4 * (j : Int)
  t0 : 0 ≤ now ∧ now ≤ 7 * (j : Int)
  fi : FI K c f
  fs : FS K f
  ft : FT f
  f1 : 1 ≤ f.1
theorem Feed_FI (N : Nat) (hN : 2000 ≤ N) (l : List Int) (hel : ∀ x ∈ l, 0 ≤ x ∧ x ≤ 255) : ∃ f n' c, W_Picks_Feed N (15, l, 0) = some ((l, n'), f) ∧ FI 200 c f ∧ FS 200 f ∧ FT f ∧ 1 ≤ f.1 ∧ 1 ≤ c := by
  unfold W_Picks_Feed V_Picks_Feed
  simp only
  obtain ⟨k, n1, e1, a1, a2, a3, a4⟩ := Num_eq N 5 l 0 (by omega) (by omega) (by omega) hel
  rw [e1, obind_s]
  simp only
  have hB := rBegin_eq N z7 (1 + k) (fun q => by simp [z7] at q)
  have eB : beginM z7 (1 + k) = (1 + k, 0, [], [], [], 0, 0) := by
    unfold beginM
    rw [if_neg (by decide), if_pos ⟨by omega, by omega⟩]
    rfl
  rw [eB] at hB
  rw [wr_m (z := 1 + k) (by omega) (by omega)]
  show ∃ f n' c, obind (W_ref13_Begin N (z7, 1 + k)) _ = _ ∧ _
  rw [hB, obind_s]
  refine loop_G (N := N) (fun q => ∃ f n' c, q = some ((l, n'), f) ∧ FI 200 c f ∧ FS 200 f ∧ FT f ∧ 1 ≤ f.1 ∧ 1 ≤ c) (fun j (v : Int × Int × (List Int × Int) × Fd × Fd) => v.2.1 = j ∧ j ≤ 15 ∧ v.2.2.1.1 = l ∧ Fm j (8 + 8 * (j : Int)) (1 + k) v.1 v.2.2.1.2 v.2.2.2.2) 15
    (fun r : (List Int × Int) × Fd × Fd => r.1.1 = l ∧ ∃ c, FI 200 c r.2.2 ∧ FS 200 r.2.2 ∧ FT r.2.2 ∧ 1 ≤ r.2.2.1 ∧ 1 ≤ c) ⟨rfl, by omega, rfl, ⟨⟨by simp only; omega, by simp only; omega⟩, ⟨by simp, by simp⟩, ⟨by simp only; omega, ⟨by simp, by simp⟩, fun _ => ⟨⟨by simp only; omega, by simp only; omega⟩, trivial, by simp, trivial, rfl, by omega⟩, ⟨by simp, by simp⟩, fun q => by simp only at q; omega⟩, trivial, ⟨fun x hx => by simp at hx, fun x hx => by simp at hx, fun x hx => by simp at hx⟩, by simp only; omega⟩⟩ (by omega) ?_ (fun j v h => h.2.1) ?_
  · rintro ⟨⟨l', n'⟩, z, f⟩ ⟨rfl, c, hf⟩
    exact ⟨_, _, c, rfl, hf⟩
  · rintro j ⟨now, i, ⟨l', n'⟩, z, f⟩ ⟨e, hj, rfl, hS⟩
    obtain ⟨hn, ht, hf, hs, hA, hf1⟩ := hS
    simp only at e hn ht hf hs hA hf1 ⊢
    subst e
    by_cases cj : (j : Int) < 15
    case neg =>
      right
      rw [dF cj, cnd_f]
      exact ⟨_, rfl, rfl, _, hf.mono (by omega), hs.mono (by omega), hA, hf1, by omega⟩
    have hov : W_Picks_Over N (l', n') = some (decide ((l'.length : Int) ≤ n'), l', n') := rfl
    rw [dT cj, cnd_t, hov, obind_s]
    simp only
    by_cases co : (l'.length : Int) ≤ n'
    · right
      rw [dT co, Bool.not_true, cnd_f]
      exact ⟨_, rfl, rfl, _, hf.mono (by omega), hs.mono (by omega), hA, hf1, by omega⟩
    rw [dF co, Bool.not_false, cnd_t]
    left
    obtain ⟨b, n2, e2, b1, b2, b3, b4⟩ := Num_eq N 6 l' n' (by omega) (by omega) (by omega) hel
    rw [e2, obind_s]
    simp only
    have hnx := hf.nx (by omega)
    have hf := hf.mono (K' := 8 + 8 * ((j + 1 : Nat) : Int)) (by omega)
    have hs := hs.mono (K' := 8 + 8 * ((j + 1 : Nat) : Int)) (by omega)
    rw [wr_m (z := (j : Int) + 1) (by omega) (by omega), show ((j : Int) + 1) = ((j + 1 : Nat) : Int) by omega]
    have fin : ∀ (g : Fd) (t m : Int), FI (8 + 8 * ((j + 1 : Nat) : Int)) (1 + k) g → FS (8 + 8 * ((j + 1 : Nat) : Int)) g → FT g → 1 ≤ g.1 → 0 ≤ m ∧ m ≤ 1 + 4 * ((j + 1 : Nat) : Int) → 0 ≤ t ∧ t ≤ 7 * ((j + 1 : Nat) : Int) → ∃ y : Int × Int × (List Int × Int) × Fd × Fd, (some (Sum.inl (t, ((j + 1 : Nat) : Int), (l', m), z, g)) : Option ((Int × Int × (List Int × Int) × Fd × Fd) ⊕ ((List Int × Int) × Fd × Fd))) = some (.inl y) ∧ y.2.1 = ((j + 1 : Nat) : Int) ∧ j + 1 ≤ 15 ∧ y.2.2.1.1 = l' ∧ Fm (j + 1) (8 + 8 * ((j + 1 : Nat) : Int)) (1 + k) y.1 y.2.2.1.2 y.2.2.2.2 := by
      intro g t m h1 h2 h3 h4 h5 h6
      exact ⟨_, rfl, rfl, by omega, rfl, h5, h6, h1, h2, h3, h4⟩
    by_cases k0 : b = 0
    · rw [dT k0, cnd_t]
      obtain ⟨p, n3, e3, c1, c2, c3, c4⟩ := Num_eq N 3 l' n2 (by omega) (by omega) (by omega) hel
      obtain ⟨q, n4, e4, d1, d2, d3, d4⟩ := Num_eq N 4 l' n3 (by omega) (by omega) (by omega) hel
      rw [e3, obind_s]
      simp only
      rw [e4, obind_s]
      simp only
      rw [wr_m (z := f.1 - 1) (by omega) (by omega), wr_m (z := f.1 - 1 + p) (by omega) (by omega), wr_m (z := max 1 (f.1 - 1 + p) + q) (by omega) (by omega)]
      have g1 := rNotes_eq N hN hf (by omega) (max 1 (f.1 - 1 + p)) (max 1 (f.1 - 1 + p) + q) (fun _ => by omega)
      show ∃ y, obind (W_ref13_Notes N (f, _)) _ = _ ∧ _
      rw [g1, obind_s]
      exact fin _ _ _ (hf.notes _ _ (fun _ => by omega)) (hs.notes hf _ _ (fun _ => by omega)) (hA.notes FT.hpq _ _ (fun a b _ _ _ _ => .inr ⟨rfl, rfl, .inl rfl⟩)) (by have := (notes_Le f (max 1 (f.1 - 1 + p)) (max 1 (f.1 - 1 + p) + q)).1; omega) (by omega) (by omega)
    rw [dF k0, cnd_f]
    by_cases k1 : b = 1
    · rw [dT k1, cnd_t]
      obtain ⟨p, n3, e3, c1, c2, c3, c4⟩ := Num_eq N 5 l' n2 (by omega) (by omega) (by omega) hel
      rw [e3, obind_s]
      simp only
      rw [wr_m (z := f.1 + p) (by omega) (by omega)]
      have g1 := rKnows_eq N f (f.1 + p)
      show ∃ y, obind (W_ref13_Knows N (f, _)) _ = _ ∧ _
      rw [g1, obind_s]
      exact fin _ _ _ (hf.knows _ (fun _ => by omega)).1 (hs.knows _) (hA.knows _) (by have := (knows_Le f (f.1 + p)).1; omega) (by omega) (by omega)
    rw [dF k1, cnd_f]
    by_cases k2 : b = 2
    · rw [dT k2, cnd_t]
      obtain ⟨p, n3, e3, c1, c2, c3, c4⟩ := Num_eq N 6 l' n2 (by omega) (by omega) (by omega) hel
      rw [e3, obind_s]
      simp only
      rw [wr_m (z := now + 1) (by omega) (by omega), wr_m (z := now + 1 + p) (by omega) (by omega)]
      have g1 := rTick_eq N hN hf (by omega) (now + 1 + p) (by omega) (by omega)
      show ∃ y, obind (W_ref13_Tick N (f, _)) _ = _ ∧ _
      rw [g1, obind_s]
      exact fin _ _ _ (hf.tick _) (hs.tick hf _) (hA.tick FT.hpq _ (fun _ a b _ _ => .inr ⟨rfl, rfl, .inr rfl⟩)) (by have := (tick_Le f (now + 1 + p)).1; omega) (by omega) (by omega)
    rw [dF k2, cnd_f]
    obtain ⟨p, n3, e3, c1, c2, c3, c4⟩ := Num_eq N 5 l' n2 (by omega) (by omega) (by omega) hel
    obtain ⟨t, n4, e4, d3, d4, d5⟩ := Text_eq N l' n3 (by omega) (by omega) hel
    rw [e3, obind_s]
    simp only
    rw [e4, obind_s]
    simp only
    rw [wr_m (z := f.1 - 1) (by omega) (by omega), wr_m (z := f.1 - 1 + p) (by omega) (by omega)]
    have g1 := rComes_eq N hN hf (by omega) (max 1 (f.1 - 1 + p), t) (fun _ => by simp only; omega)
    show ∃ y, obind (W_ref13_Comes N (f, max 1 (f.1 - 1 + p), t)) _ = _ ∧ _
    rw [g1, obind_s]
    exact fin _ _ _ (hf.comes _ (fun _ => by simp only; omega)) (hs.comes hf _ (fun _ => by simp only; omega)) (hA.comes FT.hpq _ (fun _ => d5)) (by have := (comes_Le f (max 1 (f.1 - 1 + p), t)).1; omega) (by omega) (by omega)
theorem noF_ok {R : List It} {lo : Int} (hlo : 1 ≤ lo) : ∀ k : Nat, (k = 0 ∨ lo + k ≤ 1000001) → VS (noF R lo k) ∧ (∀ t ∈ noF R lo k, t.2 + 1 ≤ lo + k) ∧ (noF R lo k).length ≤ k
  | 0, _ => ⟨⟨by simp [noF], by simp [noF]⟩, by simp [noF], by simp [noF]⟩
  | k + 1, h => by
    obtain ⟨h1, h2, h3⟩ := noF_ok (R := R) hlo k (by omega)
    have hk : lo + k ≤ 1000000 := by omega
    simp only [noF]
    split
    · exact ⟨h1, fun t ht => by have := h2 t ht; omega, by omega⟩
    · have hs : okS (lo + k, lo + k) := ⟨by simp only; omega, by simp only; omega, hk⟩
      have e := addP_push h1 hs h2
      have hv := VS_add h1 hs
      rw [e] at hv
      simp only at hv
      exact ⟨hv.1, push_hi (fun s hs => by have := h2 s hs; omega) (by omega), by omega⟩
abbrev cnt (f : Fd) (lo hi : Int) : Nat := (min (min hi (f.1 - 1)) (lo + 7) + 1 - lo).toNat
theorem pServes (N : Nat) (f : Fd) (lo hi : Int) (hN : 2000 ≤ N) (hl : f.2.2.1.length ≤ 6) (h1 : 1 ≤ f.1) (h2 : f.1 ≤ 1000001) (h3 : 1 ≤ lo) (h4 : lo ≤ 2000000000000) :
    W_nak_Serves N (f, lo, hi) = some (itF f.2.2.1 lo (cnt f lo hi), noF f.2.2.1 lo (cnt f lo hi)) := by
  unfold W_nak_Serves V_nak_Serves cnt
  simp only
  rw [dF (show ¬ f.1 < 1 by omega), cnd_f, wr_m (z := lo + 8) (by omega) (by omega), wr_m (z := lo + 8 - 1) (by omega) (by omega), show lo + 8 - 1 = lo + 7 by omega]
  obtain ⟨T, hT⟩ : ∃ T, min (min hi (f.1 - 1)) (lo + 7) = T := ⟨_, rfl⟩
  rw [hT]
  have hT7 : T ≤ lo + 7 := by omega
  have hTf : T ≤ f.1 - 1 := by omega
  refine loop_G (N := N) (fun o => o = some (itF f.2.2.1 lo (T + 1 - lo).toNat, noF f.2.2.1 lo (T + 1 - lo).toNat)) (fun k (v : Int × Fd × List It × List Sp) => v = (lo + (k : Int), f, itF f.2.2.1 lo k, noF f.2.2.1 lo k) ∧ k ≤ (T + 1 - lo).toNat) 8 (fun r : List It × List Sp => r = (itF f.2.2.1 lo (T + 1 - lo).toNat, noF f.2.2.1 lo (T + 1 - lo).toNat)) ⟨by simp [itF, noF], by omega⟩ (by omega) (fun r h => by rw [h]) (fun k v h => by have := h.2; omega) ?_
  rintro k v ⟨rfl, hk⟩
  simp only
  rw [wr_m (z := f.1 - 1) (by omega) (by omega), hT]
  by_cases c : lo + (k : Int) ≤ T
  case neg =>
    right
    rw [dF c, cnd_f]
    exact ⟨_, rfl, by rw [show k = (T + 1 - lo).toNat by omega]⟩
  left
  have hkl := itF_len f.2.2.1 lo k
  have hnl := (noF_ok (R := f.2.2.1) h3 k (by omega)).2.2
  have w : wr .i64 (lo + (k : Int) + 1) = lo + ((k + 1 : Nat) : Int) := by rw [wr_m (by omega) (by omega)]; omega
  rw [dT c, cnd_t, Get_eq N _ _ hN (by omega), obind_s, w]
  clear w
  by_cases q : (getF f.2.2.1 (lo + k)).2 = true
  · rw [q, cnd_t, dT (by simp only [List.length_singleton]; omega), cnd_t]
    refine ⟨_, rfl, ?_, by omega⟩
    simp only [itF, noF]
    rw [if_pos q, if_pos q]
  · have e1 : itF f.2.2.1 lo (k + 1) = itF f.2.2.1 lo k := by simp only [itF]; rw [if_neg q]
    have e2 : noF f.2.2.1 lo (k + 1) = push (noF f.2.2.1 lo k) (lo + k) (lo + k) := by simp only [noF]; rw [if_neg q]
    rw [Bool.not_eq_true] at q
    rw [q, cnd_f]
    refine ⟨(lo + ((k + 1 : Nat) : Int), f, itF f.2.2.1 lo (k + 1), noF f.2.2.1 lo (k + 1)), ?_, rfl, by omega⟩
    rw [e1, e2]
    generalize noF f.2.2.1 lo k = o at *
    unfold push
    by_cases p0 : 0 < o.length
    · rw [show wr .i64 ((o.length : Int) - 1) = ((o.length - 1 : Nat) : Int) by rw [wr_m (by omega) (by omega)]; omega, show wr .i64 (lo + (k : Int) - 1) = lo + k - 1 from wr_m (by omega) (by omega), dT (show (0 : Int) ≤ ((o.length - 1 : Nat) : Int) by omega), cnd_t, dT (show ((o.length - 1 : Nat) : Int) < o.length by omega), Bool.true_and, cnd_t, Int.toNat_natCast]
      by_cases p1 : (o.getD (o.length - 1) (0, 0)).2 = lo + k - 1
      · rw [dT p1, cnd_t, cnd_t, if_pos ⟨p0, by omega⟩]
      · rw [dF p1, cnd_f, dT (by simp only [List.length_singleton]; omega), cnd_t, if_neg (fun h => p1 (by omega))]
    · rw [show wr .i64 ((o.length : Int) - 1) = -1 by rw [wr_m (by omega) (by omega)]; omega, dF (by omega), cnd_f, dT (by simp only [List.length_singleton]; omega), cnd_t, if_neg (fun h => p0 h.1)]
theorem rServes (N : Nat) (f : Fd) (lo hi : Int) (hN : 2000 ≤ N) (hl : f.2.2.1.length ≤ 6) (h1 : 1 ≤ f.1) (h2 : f.1 ≤ 1000001) (h3 : 1 ≤ lo) (h4 : lo ≤ 2000000000000) :
    W_ref13_Serves N (f, lo, hi) = some (itF f.2.2.1 lo (cnt f lo hi), noF f.2.2.1 lo (cnt f lo hi)) := by
  unfold W_ref13_Serves V_ref13_Serves cnt
  simp only
  obtain ⟨T, hT⟩ : ∃ T, min (min hi (f.1 - 1)) (lo + 7) = T := ⟨_, rfl⟩
  rw [hT]
  have hT7 : T ≤ lo + 7 := by omega
  have hTf : T ≤ f.1 - 1 := by omega
  refine loop_G (N := N) (fun o => o = some (itF f.2.2.1 lo (T + 1 - lo).toNat, noF f.2.2.1 lo (T + 1 - lo).toNat)) (fun k (v : List Sp × Int × Fd × List It) => v = (noF f.2.2.1 lo k, (k : Int), f, itF f.2.2.1 lo k) ∧ k ≤ (T + 1 - lo).toNat) 8 (fun r : List It × List Sp => r = (itF f.2.2.1 lo (T + 1 - lo).toNat, noF f.2.2.1 lo (T + 1 - lo).toNat)) ⟨by simp [itF, noF], by omega⟩ (by omega) (fun r h => by rw [h]) (fun k v h => by have := h.2; omega) ?_
  rintro k v ⟨rfl, hk⟩
  simp only
  have stop : ¬ lo + (k : Int) ≤ T → (noF f.2.2.1 lo k, itF f.2.2.1 lo k) = (noF f.2.2.1 lo (T + 1 - lo).toNat, itF f.2.2.1 lo (T + 1 - lo).toNat) := fun c => by rw [show k = (T + 1 - lo).toNat by omega]
  by_cases c8 : (k : Int) < 8
  case neg =>
    right
    rw [dF c8, cnd_f]
    have := stop (by omega)
    injection this with a b
    exact ⟨_, rfl, by rw [a, b]⟩
  rw [dT c8, cnd_t, dF (show ¬ f.1 = 0 by omega), cnd_f, obind_s]
  simp only
  rw [wr_m (z := lo + (k : Int)) (by omega) (by omega)]
  by_cases c1 : hi < lo + (k : Int)
  · right
    rw [dT c1, cnd_t]
    have := stop (by omega)
    injection this with a b
    exact ⟨_, rfl, by rw [a, b]⟩
  rw [dF c1, cnd_f]
  by_cases c2 : f.1 ≤ lo + (k : Int)
  · right
    rw [dT c2, cnd_t]
    have := stop (by omega)
    injection this with a b
    exact ⟨_, rfl, by rw [a, b]⟩
  rw [dF c2, cnd_f]
  left
  have hkl := itF_len f.2.2.1 lo k
  have hno := noF_ok (R := f.2.2.1) h3 k (by omega)
  rw [rGet_eq N _ _ hN (by omega), obind_s, wr_m (z := (k : Int) + 1) (by omega) (by omega)]
  by_cases q : (getF f.2.2.1 (lo + k)).2 = true
  · rw [q, cnd_t, dT (by simp only [List.length_singleton]; omega), cnd_t]
    refine ⟨_, rfl, ?_, by omega⟩
    simp only [itF, noF]
    rw [if_pos q, if_pos q]
    rfl
  · have e1 : itF f.2.2.1 lo (k + 1) = itF f.2.2.1 lo k := by simp only [itF]; rw [if_neg q]
    have e2 : noF f.2.2.1 lo (k + 1) = push (noF f.2.2.1 lo k) (lo + k) (lo + k) := by simp only [noF]; rw [if_neg q]
    have hs : okS (lo + k, lo + k) := ⟨by simp only; omega, by simp only; omega, by simp only; omega⟩
    rw [Bool.not_eq_true] at q
    have hb : ∀ t ∈ noF f.2.2.1 lo k, B t := fun t ht => (hno.1.1 t ht).B
    rw [q, cnd_f, rAddS_eq N _ _ (by have := hno.2.2; omega) (by have := hno.2.2; omega) hb, obind_s, addP_push hno.1 hs hno.2.1]
    refine ⟨(noF f.2.2.1 lo (k + 1), ((k + 1 : Nat) : Int), f, itF f.2.2.1 lo (k + 1)), ?_, rfl, by omega⟩
    rw [e1, e2]
    rfl
theorem skR_len {hi why : Int} : ∀ (j : Nat) (n : Int) (R W : List It) (L : List Ev) (o : List Sp), (skR hi why j n R W L o).1.length ≤ o.length + j
  | 0, n, R, W, L, o => by simp [skR]
  | j + 1, n, R, W, L, o => by
    unfold skR
    split
    case isFalse => simp only; omega
    cases W with
    | nil => have := skR_len (hi := hi) (why := why) j (hi + 1) R [] (L ++ [(2, n, hi, [], why)]) (o ++ [(n, hi)]); simp only [List.length_append, List.length_singleton] at this ⊢; omega
    | cons w r =>
      simp only
      split
      · split
        · have := skR_len (hi := hi) (why := why) j (goM (w :: r) w.1 R (L ++ [(2, n, w.1 - 1, [], why)])).2.1 (goM (w :: r) w.1 R (L ++ [(2, n, w.1 - 1, [], why)])).2.2.1 (goM (w :: r) w.1 R (L ++ [(2, n, w.1 - 1, [], why)])).2.2.2.1 (goM (w :: r) w.1 R (L ++ [(2, n, w.1 - 1, [], why)])).2.2.2.2 (o ++ [(n, w.1 - 1)])
          simp only [List.length_append, List.length_singleton] at this ⊢; omega
        · have := skR_len (hi := hi) (why := why) j (goM (w :: r) n R L).2.1 (goM (w :: r) n R L).2.2.1 (goM (w :: r) n R L).2.2.2.1 (goM (w :: r) n R L).2.2.2.2 o
          omega
      · have := skR_len (hi := hi) (why := why) j (hi + 1) R (w :: r) (L ++ [(2, n, hi, [], why)]) (o ++ [(n, hi)])
        simp only [List.length_append, List.length_singleton] at this ⊢; omega
theorem skips_len {K c : Int} {f : Fd} (h : FI K c f) (hK : K ≤ 10000000) (hi why : Int) : (skipsM f hi why).1.length ≤ 10 := by
  unfold skipsM
  split
  · simp
  · have := skR_len (hi := hi) (why := why) (f.2.2.2.1.length + 2) f.1 f.2.2.1 f.2.2.2.1 f.2.2.2.2.1 []
    have := h.lens hK
    simp only [List.length_nil] at *; omega
theorem law_aux (N : Nat) (hN : 20000000 ≤ N) (l : List Int) (hel : ∀ x ∈ l, 0 ≤ x ∧ x ≤ 255) (lo hi why a b : Int) (ha : 0 ≤ a) (ha2 : a ≤ 255) (hb : 0 ≤ b) (hb2 : b ≤ 255) : W_law17_NakAll N (l, lo, hi, why, a, b) = some true := by
  unfold W_law17_NakAll V_law17_NakAll
  simp only
  by_cases h60 : (60 : Int) < l.length
  · rw [dT h60, cnd_t]
  rw [dF h60, cnd_f]
  have hM : W_Made N l = some (l, 0) := rfl
  rw [hM, obind_s]
  obtain ⟨f, n', c, e, hf, hs, hA, h1, hc⟩ := Feed_FI N (by omega) l hel
  rw [e, obind_s]
  simp only
  have hF : FI 1000000 c f := hf.mono (by omega)
  have hnx := hf.nx (by omega)
  have hl := hf.lens (by omega)
  have hz := fun q => (hf.z q).2.1
  rw [pWants_eq N hf.n0 hf.p hz (by omega), obind_s, rWants_eq N hf.n0 hf.p hz (by omega), obind_s]
  simp only [decide_true, Bool.and_self, Bool.not_true, cnd_f, beq_self_eq_true]
  rw [tm _ _ ha, tm _ _ hb, tm _ _ ha, wr_m (z := a % 20) (by omega) (by omega), wr_m (z := b % 30) (by omega) (by omega), wr_m (z := a % 3) (by omega) (by omega), wr_m (z := 1 + a % 20) (by omega) (by omega), cnd_T (by omega)]
  have sv : ∀ (lo hi : Int), 1 ≤ lo → lo ≤ 2000000000000 → W_ref13_SameItems N (itF f.2.2.1 lo (cnt f lo hi), itF f.2.2.1 lo (cnt f lo hi)) = some true ∧ W_ref1_SameSpans N (noF f.2.2.1 lo (cnt f lo hi), noF f.2.2.1 lo (cnt f lo hi)) = some true := by
    intro lo hi g1 g2
    have hk := itF_len f.2.2.1 lo (cnt f lo hi)
    have hC : cnt f lo hi ≤ 8 := by unfold cnt; omega
    have hC2 : cnt f lo hi = 0 ∨ lo + cnt f lo hi ≤ 1000001 := by unfold cnt; omega
    have hn := (noF_ok (R := f.2.2.1) g1 (cnt f lo hi) hC2).2.2
    exact ⟨SameI_self N _ (by omega) (by omega), SameS_self N _ (by omega) (by omega)⟩
  obtain ⟨s1, s2⟩ := sv (1 + a % 20) (b % 30) (by omega) (by omega)
  rw [pServes N f _ _ (by omega) hl.1 h1 (by omega) (by omega) (by omega), obind_s, rServes N f _ _ (by omega) hl.1 h1 (by omega) (by omega) (by omega), obind_s]
  simp only
  rw [s1, obind_s, Bool.not_true, cnd_f, s2, obind_s, Bool.not_true, cnd_f, obind_s, selim_l]
  have hw := hF.twin N (by omega)
  have sk : ∀ hi : Int, W_nak_Skips N (f, hi, why) = some (skipsM f hi why) ∧ W_ref13_Skips N (f, hi, why) = some (skipsM f hi why) ∧ W_ref13_SameFeed N ((skipsM f hi why).2, (skipsM f hi why).2) = some true ∧ W_ref1_SameSpans N ((skipsM f hi why).1, (skipsM f hi why).1) = some true := by
    intro hi
    refine ⟨pSkips_eq N (by omega) hw hF.p (by omega) hi why (fun q => q), rSkips_eq N (by omega) hF.p (by omega) hi why (fun q => q), SameF_self N hN _ ((hF.skips h1 hi why (fun q => q)).1.lens (by omega)), ?_⟩
    have := skips_len hF (by omega) hi why
    exact SameS_self N _ (by omega) (by omega)
  obtain ⟨k1, k2, k3, k4⟩ := sk (b % 30)
  rw [k1, obind_s, k2, obind_s, k3, obind_s, Bool.not_true, cnd_f, k4, obind_s, Bool.not_true, cnd_f]
  have rest : (obind (W_nak_Skips N (f, hi, why)) fun (b_7 : List Sp × Fd) => obind (W_ref13_Skips N (f, hi, why)) fun (b_8 : List Sp × Fd) => obind (W_ref13_SameFeed N (b_7.2, b_8.2)) fun (b_9 : Bool) => cnd (!b_9) (some false) (obind (W_ref1_SameSpans N (b_7.1, b_8.1)) fun (b_10 : Bool) => cnd (!b_10) (some false) (obind (W_nak_Goes N (f.1, f.2.1, f.2.2.1, [(f.1, [(97 : UInt8)]), (wr .i64 (f.1 + (1 : Int)), [(98 : UInt8)]), (wr .i64 (wr .i64 (f.1 + (3 : Int)) + a % 3), [(99 : UInt8)])], f.2.2.2.2)) fun (b_11 : List It × Fd) => obind (W_ref13_Goes N (f.1, f.2.1, f.2.2.1, [(f.1, [(97 : UInt8)]), (wr .i64 (f.1 + (1 : Int)), [(98 : UInt8)]), (wr .i64 (wr .i64 (f.1 + (3 : Int)) + a % 3), [(99 : UInt8)])], f.2.2.2.2)) fun (b_12 : List It × Fd) => obind (W_nak_Goes N f) fun (b_13 : List It × Fd) => obind (W_ref13_Goes N f) fun (b : List It × Fd) => obind (obind (W_ref13_SameFeed N (b_11.2, b_12.2)) fun (b_14 : Bool) => cnd b_14 (obind (W_ref13_SameItems N (b_11.1, b_12.1)) fun (b_15 : Bool) => some (b_15, b_13.2, b.2)) (some (false, b_13.2, b.2))) fun (b_14 : Bool × Fd × Fd) => obind (cnd b_14.1 (obind (W_ref13_SameFeed N b_14.2) fun (b : Bool) => some b) (some false)) fun (b_15 : Bool) => cnd b_15 (obind (W_ref13_SameItems N (b_13.1, b.1)) fun (b : Bool) => some b) (some false)))) = some true := by
    obtain ⟨k1, k2, k3, k4⟩ := sk hi
    rw [k1, obind_s, k2, obind_s, k3, obind_s, Bool.not_true, cnd_f, k4, obind_s, Bool.not_true, cnd_f]
    rw [wr_m (z := f.1 + 1) (by omega) (by omega), wr_m (z := f.1 + 3) (by omega) (by omega), wr_m (z := f.1 + 3 + a % 3) (by omega) (by omega)]
    have hp := hf.p h1
    have hg : FI 1000000 c (f.1, f.2.1, f.2.2.1, [(f.1, [(97 : UInt8)]), (f.1 + 1, [(98 : UInt8)]), (f.1 + 3 + a % 3, [(99 : UInt8)])], f.2.2.2.2) :=
      ⟨hF.n0, hF.tp, fun _ => ⟨⟨h1, by simp only; omega⟩, hp.rk, hp.rl, ⟨by simp only; omega, by simp only; omega, by simp only; omega, by simp only; omega, by simp only; omega, by simp only; omega, trivial⟩, hp.ch, hp.c0⟩, hF.ask, fun q => by simp only at q; omega⟩
    have gl := fun (g : Fd) (h : FI 1000000 c g) (q : 1 ≤ g.1) => goM_ok _ _ _ _ (h.p q)
    have il : ∀ (g : Fd) (h : FI 1000000 c g) (q : 1 ≤ g.1), W_ref13_SameItems N ((goesM g).1, (goesM g).1) = some true ∧ W_ref13_SameFeed N ((goesM g).2, (goesM g).2) = some true := by
      intro g h q
      obtain ⟨_, _, _, g4, _⟩ := goM_ok _ _ _ _ (h.p q)
      have g5 := congrArg List.length g4
      rw [List.length_append] at g5
      have := (h.lens (by omega)).2.1
      refine ⟨SameI_self N _ ?_ ?_, SameF_self N hN _ ((h.goes q).1.lens (by omega))⟩ <;> (simp only [goesM]; omega)
    obtain ⟨i1, i2⟩ := il _ hg h1
    obtain ⟨i3, i4⟩ := il _ hF h1
    rw [pGoes_eq N (by omega) (hg.p h1) (by omega), obind_s, rGoes_eq N (by omega) (hg.p h1) (by omega), obind_s, pGoes_eq N (by omega) (hF.p h1) (by omega), obind_s, rGoes_eq N (by omega) (hF.p h1) (by omega), obind_s]
    rw [i2, obind_s, cnd_t, i1, obind_s, obind_s]
    simp only
    rw [cnd_t, i4, obind_s, obind_s, cnd_t, i3, obind_s]
  by_cases cl : max lo 1 < 1099511627776
  · obtain ⟨s1, s2⟩ := sv (max lo 1) hi (by omega) (by omega)
    rw [cnd_T cl, pServes N f _ _ (by omega) hl.1 h1 (by omega) (by omega) (by omega), obind_s, rServes N f _ _ (by omega) hl.1 h1 (by omega) (by omega) (by omega), obind_s]
    simp only
    rw [s1, obind_s, Bool.not_true, cnd_f, s2, obind_s, Bool.not_true, cnd_f, obind_s, selim_l]
    exact rest
  · rw [cnd_F cl, obind_s, selim_l]
    exact rest
def NN : Nat := 20000000
theorem law_true (y0 : List Int) (y1 : Int) (y2 : Int) (y3 : Int) (y4 : Int) (y5 : Int) (h0 : Twf (.list (.int .u8)) y0) (h1 : Twf (.int .i64) y1) (h2 : Twf (.int .i64) y2) (h3 : Twf (.int .i64) y3) (h4 : Twf (.int .u8) y4) (h5 : Twf (.int .u8) y5) : W_law17_NakAll NN (y0, y1, y2, y3, y4, y5) = some true := by
  refine law_aux NN (Nat.le_refl _) y0 (fun x hx => ?_) y1 y2 y3 y4 y5 h4.1 (by have : y4 ≤ 255 := h4.2; omega) h5.1 (by have : y5 ≤ 255 := h5.2; omega)
  have := h0.2 x hx
  exact ⟨this.1, this.2⟩

theorem spec (y0 : List Int) (y1 : Int) (y2 : Int) (y3 : Int) (y4 : Int) (y5 : Int) (h0 : Twf (.list (.int .u8)) y0) (h1 : Twf (.int .i64) y1) (h2 : Twf (.int .i64) y2) (h3 : Twf (.int .i64) y3) (h4 : Twf (.int .u8) y4) (h5 : Twf (.int .u8) y5) : Spec2 P0 4 [valW (.list (.int .u8)) y0, valW (.int .i64) y1, valW (.int .i64) y2, valW (.int .i64) y3, valW (.int .u8) y4, valW (.int .u8) y5] [] (.bs true) [] [] := (con_law17_NakAll_ok NN).2 (y0, y1, y2, y3, y4, y5) true (law_true y0 y1 y2 y3 y4 y5 h0 h1 h2 h3 h4 h5)
theorem lifted (os : Os) (started : os.Started) (H : Type) (enc : TypeId × Value → H) :
    ReturnsInHanded {} Try.checked os 4 .any (Rows.nakAllSpec.pre6 enc Try.prog Try.f4 Rows.nakAllRow.domain false) (Rows.nakAllSpec.post enc Try.prog Try.f4 false true false false) := by
  refine returnsInHanded_of_change (C := Try.checked) own started (by kernel_rfl) Try.func4
    (ChangeSpec.witness6 (enc := enc) (C := Try.checked) false ⟨#[], #[.slice none 0 0, .int .i64 0, .int .i64 0, .int .i64 0, .int .u8 0, .int .u8 0], []⟩ 8 (by kernel_rfl) (by kernel_rfl) (by kernel_rfl) (by kernel_rfl)) ?_
  intro W base args ds gs before hval0 hW hcnd _
  have hval : ∀ (j : Nat) t v, Try.f4.params[j]? = some t → args[j]? = some v → Value.okWide Try.prog W .any base t v := hval0
  have hW' := hW
  obtain ⟨p, q, hA0, hV, rfl, hfz, hnd⟩ := hW
  have hA : DataW.TrodAll enc Try.prog W 0 (fun _ => true) true Try.f4.params.toList args.toList ds p := hA0
  rw [Try.params4] at hA hval
  obtain ⟨v0, vs0, d0, ds0, p0, q0, hargs, rfl, rfl, h0, r0⟩ := trodAll_cons hA
  obtain ⟨v1, vs1, d1, ds1, p1, q1, rfl, rfl, rfl, h1, r1⟩ := trodAll_cons r0
  obtain ⟨v2, vs2, d2, ds2, p2, q2, rfl, rfl, rfl, h2, r2⟩ := trodAll_cons r1
  obtain ⟨v3, vs3, d3, ds3, p3, q3, rfl, rfl, rfl, h3, r3⟩ := trodAll_cons r2
  obtain ⟨v4, vs4, d4, ds4, p4, q4, rfl, rfl, rfl, h4, r4⟩ := trodAll_cons r3
  obtain ⟨v5, vs5, d5, ds5, p5, q5, rfl, rfl, rfl, h5, r5⟩ := trodAll_cons r4
  obtain ⟨rfl, rfl, rfl⟩ := trodAll_nil r5
  obtain rfl : args = #[v0, v1, v2, v3, v4, v5] := by cases args; simp_all
  obtain ⟨rfl, rfl⟩ := trodVars_none hV
  have k0 := h0
  have lt0 : ∀ x ∈ p0, x.block < W.heap.size := by obtain ⟨m, hm⟩ := k0; exact DataW.trod_lt m _ _ _ hm
  obtain ⟨y0, rp0, wf0⟩ := arg_ok (n := 12) (ty := (.list (.int .u8))) (by kernel_rfl) (hval 0 _ v0 rfl rfl) h0
  have k1 := h1
  have lt1 : ∀ x ∈ p1, x.block < W.heap.size := by obtain ⟨m, hm⟩ := k1; exact DataW.trod_lt m _ _ _ hm
  obtain ⟨y1, rp1, wf1⟩ := arg_ok (n := 12) (ty := (.int .i64)) (by kernel_rfl) (hval 1 _ v1 rfl rfl) h1
  have k2 := h2
  have lt2 : ∀ x ∈ p2, x.block < W.heap.size := by obtain ⟨m, hm⟩ := k2; exact DataW.trod_lt m _ _ _ hm
  obtain ⟨y2, rp2, wf2⟩ := arg_ok (n := 12) (ty := (.int .i64)) (by kernel_rfl) (hval 2 _ v2 rfl rfl) h2
  have k3 := h3
  have lt3 : ∀ x ∈ p3, x.block < W.heap.size := by obtain ⟨m, hm⟩ := k3; exact DataW.trod_lt m _ _ _ hm
  obtain ⟨y3, rp3, wf3⟩ := arg_ok (n := 12) (ty := (.int .i64)) (by kernel_rfl) (hval 3 _ v3 rfl rfl) h3
  have k4 := h4
  have lt4 : ∀ x ∈ p4, x.block < W.heap.size := by obtain ⟨m, hm⟩ := k4; exact DataW.trod_lt m _ _ _ hm
  obtain ⟨y4, rp4, wf4⟩ := arg_ok (n := 12) (ty := (.int .u8)) (by kernel_rfl) (hval 4 _ v4 rfl rfl) h4
  have k5 := h5
  have lt5 : ∀ x ∈ p5, x.block < W.heap.size := by obtain ⟨m, hm⟩ := k5; exact DataW.trod_lt m _ _ _ hm
  obtain ⟨y5, rp5, wf5⟩ := arg_ok (n := 12) (ty := (.int .u8)) (by kernel_rfl) (hval 5 _ v5 rfl rfl) h5
  clear hA0 hval0
  refine (law_of2 (spec y0 y1 y2 y3 y4 y5 wf0 wf1 wf2 wf3 wf4 wf5) W #[v0, v1, v2, v3, v4, v5] (.cons rp0 (.cons rp1 (.cons rp2 (.cons rp3 (.cons rp4 (.cons rp5 .nil))))))).mono fun e W' ⟨he, bel⟩ => ?_
  subst he
  exact ⟨_, rfl, _, _, _, [], _, [], hW', trodAll_mk1 (shut_bool Try.underlying4 _), (trodAll_cons_mk (Below.trod laidOut (by kernel_rfl) (of_decide_eq_true (by kernel_rfl)) k0 bel lt0) (trodAll_cons_mk (Below.trod laidOut (by kernel_rfl) (of_decide_eq_true (by kernel_rfl)) k1 bel lt1) (trodAll_cons_mk (Below.trod laidOut (by kernel_rfl) (of_decide_eq_true (by kernel_rfl)) k2 bel lt2) (trodAll_cons_mk (Below.trod laidOut (by kernel_rfl) (of_decide_eq_true (by kernel_rfl)) k3 bel lt3) (trodAll_cons_mk (Below.trod laidOut (by kernel_rfl) (of_decide_eq_true (by kernel_rfl)) k4 bel lt4) (trodAll_cons_mk (Below.trod laidOut (by kernel_rfl) (of_decide_eq_true (by kernel_rfl)) k5 bel lt5) trodAll_mk0)))))), rfl, bel.frame _, fun h => by cases h⟩

theorem over : Rows.nakAllRow.holds Try.pinned (OpenSpec.ofChange Rows.nakAllSpec) :=
  OpenClaim.holds_of_wide 4 Try.f4 rfl rfl rfl rfl rfl rfl rfl ⟨rfl, rfl, rfl, rfl, rfl⟩ rfl rfl rfl rfl rfl (by kernel_rfl) Try.func4 (by kernel_rfl)
    (of_decide_eq_true (by kernel_rfl)) (by unfold Func.isWrapper; first | (rw [if_pos (by decide +kernel)]; kernel_rfl) | (rw [if_neg (by decide +kernel)]; exact ⟨rfl, rfl⟩))
    (fun os started H enc _ => lifted os started H enc)

theorem holds : Rows.NakAllSaid := over
end Go.Proofs.Ytigmbfeeodggbaa.nakAllX
