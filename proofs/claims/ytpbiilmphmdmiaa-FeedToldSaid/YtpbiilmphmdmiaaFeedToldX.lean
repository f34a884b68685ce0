/- FeedTold: for all arguments the call returns true. The law is brought to a function of Lean's own (W_..) by the machine of the texts beside it, and that is reckoned; no condition. -/
import Derived.Test.YtpbiilmphmdmiaaFeedToldW0
namespace Go.Proofs.Ytpbiilmphmdmiaa.feedToldX
open Go.Abs Go.RowKit Go.ChangeShapes Go.WideShapes Go.ChangeAt
set_option maxRecDepth 100000
set_option linter.unusedVariables false
set_option linter.unusedSimpArgs false
/-! What is reckoned. -/
-- PURE
theorem wr_m {z : Int} (h : -140737488355328 ≤ z) (h2 : z ≤ 140737488355328) : wr .i64 z = z := wr_i64 (by omega) (by omega)
theorem cnd_T {α : Type} {p : Prop} {i : Decidable p} {x y : α} (h : p) : cnd (@decide p i) x y = x := by rw [decide_eq_true h]; rfl
theorem cnd_F {α : Type} {p : Prop} {i : Decidable p} {x y : α} (h : ¬ p) : cnd (@decide p i) x y = y := by rw [decide_eq_false h]; rfl
theorem loopG {σ ρ : Type} {f : σ → Option (σ ⊕ ρ)} (I : Nat → σ → Prop) (B : Nat) (J : ρ → Prop) (hb : ∀ k x, I k x → k ≤ B) (hs : ∀ k x, I k x → (∃ y, f x = some (.inl y) ∧ I (k + 1) y) ∨ ∃ r, f x = some (.inr r) ∧ J r) :
    ∀ (M k : Nat) (x : σ), I k x → B < M + k → ∃ r, loopN M f x = some r ∧ J r
  | 0, k, x, h, hm => by have := hb k x h; omega
  | M + 1, k, x, h, hm => by
    rcases hs k x h with ⟨y, h1, h2⟩ | ⟨r, h1, h2⟩
    · obtain ⟨r, h4, h5⟩ := loopG I B J hb hs M (k + 1) y h2 (by omega)
      exact ⟨r, by simp only [loopN, h1]; exact h4, h5⟩
    · exact ⟨r, by simp only [loopN, h1], h2⟩
theorem loop_G {σ ρ β : Type} {f : σ → Option (σ ⊕ ρ)} {g : ρ → Option β} {x : σ} {N : Nat} (Q : Option β → Prop) (I : Nat → σ → Prop) (B : Nat) (J : ρ → Prop) (hx : I 0 x) (hm : B < N) (hk : ∀ r, J r → Q (g r)) (hb : ∀ k x, I k x → k ≤ B)
    (hs : ∀ k x, I k x → (∃ y, f x = some (.inl y) ∧ I (k + 1) y) ∨ ∃ r, f x = some (.inr r) ∧ J r) : Q (obind (loopN N f x) g) := by
  obtain ⟨r, h1, h2⟩ := loopG I B J hb hs N 0 x hx (by omega)
  rw [h1]; exact hk r h2
abbrev It := Int × List UInt8
abbrev iD : It := ((0 : Int), ([] : List UInt8))
abbrev Ev := Int × Int × Int × List UInt8 × Int
abbrev Sp := Int × Int
abbrev Fd := Int × Int × List It × List It × List Ev × Int × Int
def z7 : Fd := (0, 0, [], [], [], 0, 0)
def addR (l : List It) (e : It) : List It := if 6 ≤ l.length then (l ++ [e]).drop 1 else l ++ [e]
theorem addR_len (l : List It) (e : It) (hl : l.length ≤ 6) : (addR l e).length = min (l.length + 1) 6 := by
  unfold addR
  split <;> simp <;> omega
theorem drop_consI {l : List It} {i : Nat} (h : i < l.length) : l.drop i = l.getD i iD :: l.drop (i + 1) := by
  rw [List.drop_eq_getElem_cons h, List.getD_eq_getElem?_getD, List.getElem?_eq_getElem h]; rfl
def getF : List It → Int → List UInt8 × Bool
  | [], _ => ([], false)
  | w :: r, s => if w.1 = s then (w.2, true) else getF r s
def Wk (n K : Int) : List It → Prop
  | [] => True
  | w :: r => n ≤ w.1 ∧ w.1 ≤ K ∧ Wk (w.1 + 1) K r
theorem Wk.mono : ∀ {l : List It} {n n' K K' : Int}, Wk n K l → n' ≤ n → K ≤ K' → Wk n' K' l
  | [], _, _, _, _, _, _, _ => trivial
  | w :: r, n, n', K, K', h, h1, h2 => ⟨by have := h.1; omega, by have := h.2.1; omega, h.2.2.mono (Int.le_refl _) h2⟩
theorem Wk.len : ∀ {l : List It} {n K : Int}, Wk n K l → n ≤ K + 1 → (l.length : Int) ≤ K + 1 - n
  | [], _, _, _, _ => by simp; omega
  | w :: r, n, K, h, h1 => by
    have := h.2.2.len (by have := h.2.1; omega)
    have := h.1
    simp only [List.length_cons]; omega
theorem Wk.mem : ∀ {l : List It} {n K : Int}, Wk n K l → ∀ w ∈ l, n ≤ w.1 ∧ w.1 ≤ K
  | [], _, _, _, _, h => by simp at h
  | x :: r, n, K, h, w, hw => by
    rcases List.mem_cons.1 hw with rfl | hw
    · exact ⟨h.1, h.2.1⟩
    · have := h.2.2.mem w hw; have := h.1; omega
theorem Wk.last : ∀ {l : List It} {n K : Int}, Wk n K l → ∀ _ : 0 < l.length, (l.getD (l.length - 1) iD).1 ≤ K := by
  intro l n K h hl
  have : l.getD (l.length - 1) iD ∈ l := by
    rw [List.getD_eq_getElem?_getD, List.getElem?_eq_getElem (by omega)]; exact List.getElem_mem (by omega)
  exact (h.mem _ this).2
theorem Wk.snoc : ∀ {l : List It} {n K K' : Int} {e : It}, Wk n K l → n ≤ e.1 → K < e.1 → e.1 ≤ K' → Wk n K' (l ++ [e])
  | [], _, _, _, _, _, h1, _, h3 => ⟨h1, h3, trivial⟩
  | w :: r, n, K, K', e, h, h1, h2, h3 => by
    have := h.2.1
    exact ⟨h.1, by omega, h.2.2.snoc (by omega) h2 h3⟩
theorem Wk.drop1 : ∀ {l : List It} {n K : Int}, Wk n K l → Wk n K (l.drop 1)
  | [], _, _, _ => trivial
  | w :: r, n, K, h => h.2.2.mono (by have := h.1; omega) (Int.le_refl _)
theorem Wk.ring {l : List It} {n : Int} {e : It} {K : Int} (h : Wk 1 (n - 1) l) (h1 : 1 ≤ n) (he : e.1 = n) (hK : n ≤ K) : Wk 1 K (addR l e) := by
  have := h.snoc (e := e) (K' := K) (by omega) (by omega) (by omega)
  unfold addR
  split
  · exact this.drop1
  · exact this
theorem getF_none : ∀ {l : List It} {n K : Int}, Wk n K l → ∀ s, s < n → getF l s = ([], false)
  | [], _, _, _, _, _ => rfl
  | w :: r, n, K, h, s, hs => by
    have := h.1
    simp only [getF]
    rw [if_neg (by omega)]
    exact getF_none h.2.2 s (by omega)
def insW (x : It) : List It → List It
  | [] => [x]
  | w :: r => if x.1 < w.1 then x :: w :: r else w :: insW x r
theorem insW_len (x : It) : ∀ l, (insW x l).length = l.length + 1
  | [] => rfl
  | w :: r => by
    simp only [insW]
    split
    · rfl
    · simp only [List.length_cons, insW_len x r]
theorem Wk.ins : ∀ {l : List It} {n K : Int} {x : It}, Wk n K l → n ≤ x.1 → x.1 ≤ K → (getF l x.1).2 = false → Wk n K (insW x l)
  | [], n, K, x, _, h1, h2, _ => ⟨h1, h2, trivial⟩
  | w :: r, n, K, x, h, h1, h2, h3 => by
    simp only [getF] at h3
    by_cases c : w.1 = x.1
    · rw [if_pos c] at h3; cases h3
    rw [if_neg c] at h3
    simp only [insW]
    split
    · exact ⟨h1, h2, by omega, h.2.1, h.2.2⟩
    · exact ⟨h.1, h.2.1, h.2.2.ins (by omega) h2 h3⟩
def putM (l : List It) (n : Int) (x : It) : List It × Bool :=
  if x.1 < n ∨ 8 ≤ x.1 - n ∨ (getF l x.1).2 = true then (l, false) else (insW x l, true)
def goM : List It → Int → List It → List Ev → List It × Int × List It × List It × List Ev
  | [], n, R, L => ([], n, R, [], L)
  | w :: r, n, R, L => if w.1 = n then (w :: (goM r (n + 1) (addR R w) (L ++ [(1, w.1, w.1, w.2, 0)])).1, (goM r (n + 1) (addR R w) (L ++ [(1, w.1, w.1, w.2, 0)])).2) else ([], n, R, w :: r, L)
def goesM (f : Fd) : List It × Fd :=
  let q := goM f.2.2.2.1 f.1 f.2.2.1 f.2.2.2.2.1
  (q.1, q.2.1, f.2.1, q.2.2.1, q.2.2.2.1, q.2.2.2.2, if q.1 = [] then f.2.2.2.2.2 else (0, 0))
def skR (hi why : Int) : Nat → Int → List It → List It → List Ev → List Sp → List Sp × Int × List It × List It × List Ev
  | 0, n, R, W, L, o => (o, n, R, W, L)
  | j + 1, n, R, W, L, o =>
    if n ≤ hi then
      match W with
      | [] => skR hi why j (hi + 1) R [] (L ++ [(2, n, hi, [], why)]) (o ++ [(n, hi)])
      | w :: r =>
        if w.1 ≤ hi then
          if n < w.1 then
            let q := goM (w :: r) w.1 R (L ++ [(2, n, w.1 - 1, [], why)])
            skR hi why j q.2.1 q.2.2.1 q.2.2.2.1 q.2.2.2.2 (o ++ [(n, w.1 - 1)])
          else
            let q := goM (w :: r) n R L
            skR hi why j q.2.1 q.2.2.1 q.2.2.2.1 q.2.2.2.2 o
        else skR hi why j (hi + 1) R (w :: r) (L ++ [(2, n, hi, [], why)]) (o ++ [(n, hi)])
    else (o, n, R, W, L)
def skipsM (f : Fd) (hi why : Int) : List Sp × Fd :=
  if f.1 < 1 ∨ 1000000 < hi then ([], f) else
    let q := skR hi why (f.2.2.2.1.length + 2) f.1 f.2.2.1 f.2.2.2.1 f.2.2.2.2.1 []
    (q.1, q.2.1, f.2.1, q.2.2.1, q.2.2.2.1, q.2.2.2.2, if f.1 ≤ hi then (0, 0) else f.2.2.2.2.2)
def knowsM (f : Fd) (t : Int) : Fd := if 0 < f.1 ∧ t ≤ 1000000 then (f.1, max f.2.1 t, f.2.2) else f
def beginM (f : Fd) (n : Int) : Fd := if 0 < f.1 then knowsM f (n - 1) else if 1 ≤ n ∧ n ≤ 1000000 then (n, f.2) else f
def wantsM (f : Fd) : Bool × Int × Int :=
  let hi := match f.2.2.2.1 with
    | [] => f.2.1
    | w :: _ => w.1 - 1
  if f.1 = 0 ∨ hi < f.1 then (false, 0, 0) else (true, f.1, hi)
def notesM (f : Fd) (lo hi : Int) : Fd :=
  if f.1 = 0 ∨ lo < 1 ∨ hi < lo ∨ 1000000 < hi then f else
    let g := knowsM f hi
    if f.1 < lo ∨ hi < f.1 then g else (goesM (skipsM g hi 1).2).2
def comesM (f : Fd) (x : It) : Fd :=
  if f.1 = 0 ∨ x.1 < 1 ∨ 1000000 < x.1 ∨ (12 : Int) < x.2.length then f else
    let g := knowsM f x.1
    (goesM (g.1, g.2.1, g.2.2.1, (putM g.2.2.2.1 g.1 x).1, g.2.2.2.2)).2
def nowM (a : Int × Int) (now : Int) : Bool := if a.1 = 0 then true else decide (a.2 ≤ now)
def triedM (a : Int × Int) (now : Int) : Int × Int := (a.1 + 1, now + 2 * 2 ^ (min a.1.toNat 3))
def tickM (f : Fd) (now : Int) : Bool × Fd × Int × Int :=
  let s := wantsM f
  if s.1 = false ∨ nowM f.2.2.2.2.2 now = false then (false, f, 0, 0) else
    if 3 ≤ f.2.2.2.2.2.1 then (false, (goesM (skipsM f s.2.2 2).2).2, 0, 0) else
      (true, (f.1, f.2.1, f.2.2.1, f.2.2.2.1, f.2.2.2.2.1, triedM f.2.2.2.2.2 now), s.2.1, s.2.2)
def Ch : Int → List Ev → Int → Prop
  | n, [], m => n = m
  | n, e :: r, m => e.2.1 = n ∧ e.2.1 ≤ e.2.2.1 ∧ Ch (e.2.2.1 + 1) r m
theorem Ch.len : ∀ {L : List Ev} {n m : Int}, Ch n L m → (L.length : Int) ≤ m - n
  | [], _, _, h => by have h' : _ = _ := h; simp; omega
  | e :: r, n, m, h => by
    have := h.2.2.len; have := h.1; have := h.2.1
    simp only [List.length_cons]; omega
theorem Ch.snoc : ∀ {L : List Ev} {n m : Int} {e : Ev}, Ch n L m → e.2.1 = m → m ≤ e.2.2.1 → Ch n (L ++ [e]) (e.2.2.1 + 1)
  | [], _, _, e, h, h1, h2 => by have h' : _ = _ := h; exact ⟨by omega, by omega, rfl⟩
  | x :: r, n, m, e, h, h1, h2 => ⟨h.1, h.2.1, h.2.2.snoc h1 h2⟩
structure Fp (K c n : Int) (R W : List It) (L : List Ev) : Prop where
  nx : 1 ≤ n ∧ n ≤ K + 1
  rk : Wk 1 (n - 1) R
  rl : R.length ≤ 6
  wk : Wk n (min K (n + 7)) W
  ch : Ch c L n
  c0 : 0 ≤ c
theorem Fp.tell {K c n : Int} {R r : List It} {w : It} {L : List Ev} (h : Fp K c n R (w :: r) L) (hw : w.1 = n) : Fp K c (n + 1) (addR R w) r (L ++ [(1, w.1, w.1, w.2, 0)]) := by
  obtain ⟨⟨a, b⟩, rk, rl, wk, ch, c0⟩ := h
  have hk := wk.2.1
  refine ⟨⟨by omega, by omega⟩, rk.ring a hw (by omega), by rw [addR_len _ _ rl]; omega, wk.2.2.mono (by omega) (by omega), ?_, c0⟩
  have := ch.snoc (e := (1, w.1, w.1, w.2, 0)) hw (by simp only; omega)
  simp only at this
  rw [hw] at this ⊢
  exact this
theorem Fp.skip {K c n : Int} {R W : List It} {L : List Ev} (h : Fp K c n R W L) {m why : Int} (hm : n ≤ m) (hk : m ≤ K) (hw : Wk (m + 1) (min K (n + 7)) W) : Fp K c (m + 1) R W (L ++ [(2, n, m, [], why)]) := by
  obtain ⟨⟨a, b⟩, rk, rl, wk, ch, c0⟩ := h
  exact ⟨⟨by omega, by omega⟩, rk.mono (Int.le_refl _) (by omega), rl, hw.mono (Int.le_refl _) (by omega), ch.snoc rfl hm, c0⟩
theorem goM_ok {K c : Int} : ∀ (W : List It) (n : Int) (R : List It) (L : List Ev), Fp K c n R W L → Fp K c (goM W n R L).2.1 (goM W n R L).2.2.1 (goM W n R L).2.2.2.1 (goM W n R L).2.2.2.2 ∧
    Wk ((goM W n R L).2.1 + 1) (min K ((goM W n R L).2.1 + 7)) (goM W n R L).2.2.2.1 ∧ n + (goM W n R L).1.length = (goM W n R L).2.1 ∧ (goM W n R L).1 ++ (goM W n R L).2.2.2.1 = W ∧ (goM W n R L).2.2.2.2 = L ++ (goM W n R L).1.map fun w => (1, w.1, w.1, w.2, 0)
  | [], n, R, L, h => ⟨h, trivial, by simp [goM], rfl, by simp [goM]⟩
  | w :: r, n, R, L, h => by
    unfold goM
    by_cases c1 : w.1 = n
    · rw [if_pos c1]
      obtain ⟨h1, h2, h3, h4, h5⟩ := goM_ok r (n + 1) _ _ (h.tell c1)
      refine ⟨h1, h2, by simp only [List.length_cons]; omega, by simp only [List.cons_append, h4], ?_⟩
      simp only [h5, List.map_cons, List.append_assoc, List.cons_append, List.nil_append]
    · rw [if_neg c1]
      have := h.wk.1
      refine ⟨h, ⟨by simp only; omega, h.wk.2⟩, by simp, rfl, by simp⟩
theorem goM_head {w : It} {r R : List It} {n : Int} {L : List Ev} (h : w.1 = n) : (goM (w :: r) n R L).1 ≠ [] ∧ (goM (w :: r) n R L).2.2.2.1.length ≤ r.length := by
  have hl : ∀ (W : List It) (n : Int) (R : List It) (L : List Ev), (goM W n R L).2.2.2.1.length ≤ W.length := by
    intro W
    induction W with
    | nil => intro n R L; simp [goM]
    | cons w r ih =>
      intro n R L
      unfold goM
      split
      · have := ih (n + 1) (addR R w) (L ++ [(1, w.1, w.1, w.2, 0)]); simp only [List.length_cons]; omega
      · simp
  unfold goM
  rw [if_pos h]
  exact ⟨by simp, hl _ _ _ _⟩
theorem skR_ok {K c hi why : Int} (hK : hi ≤ K) : ∀ (j : Nat) (n : Int) (R W : List It) (L : List Ev) (o : List Sp), Fp K c n R W L → (n ≤ hi → W.length + 1 ≤ j) →
    Fp K c (skR hi why j n R W L o).2.1 (skR hi why j n R W L o).2.2.1 (skR hi why j n R W L o).2.2.2.1 (skR hi why j n R W L o).2.2.2.2 ∧ hi < (skR hi why j n R W L o).2.1 ∧ n ≤ (skR hi why j n R W L o).2.1
  | 0, n, R, W, L, o, h, hj => by
    have : ¬ n ≤ hi := fun q => by have := hj q; omega
    exact ⟨h, by simp only [skR]; omega, by simp only [skR]; omega⟩
  | j + 1, n, R, W, L, o, h, hj => by
    unfold skR
    by_cases c0 : n ≤ hi
    case neg => rw [if_neg c0]; exact ⟨h, by simp only; omega, by simp only; omega⟩
    rw [if_pos c0]
    have hj := hj c0
    cases W with
    | nil =>
      try simp only
      obtain ⟨a1, a2, a3⟩ := skR_ok hK j (hi + 1) R [] (L ++ [(2, n, hi, [], why)]) (o ++ [(n, hi)]) (h.skip c0 hK trivial) (fun q => by omega)
      exact ⟨a1, a2, by omega⟩
    | cons w r =>
      simp only [List.length_cons] at hj
      try simp only
      have hw := h.wk
      by_cases c1 : w.1 ≤ hi
      · rw [if_pos c1]
        by_cases c2 : n < w.1
        · rw [if_pos c2]
          have hs : Fp K c w.1 R (w :: r) (L ++ [(2, n, w.1 - 1, [], why)]) := by
            have := h.skip (m := w.1 - 1) (why := why) (by omega) (by omega) ⟨by omega, hw.2⟩
            rwa [show w.1 - 1 + 1 = w.1 by omega] at this
          obtain ⟨g1, g2, g3, g4, _⟩ := goM_ok _ _ _ _ hs
          obtain ⟨g5, g6⟩ := goM_head (r := r) (R := R) (L := L ++ [(2, n, w.1 - 1, [], why)]) (rfl : w.1 = w.1)
          obtain ⟨a1, a2, a3⟩ := skR_ok hK j _ _ _ _ (o ++ [(n, w.1 - 1)]) g1 (fun q => by omega)
          exact ⟨a1, a2, by omega⟩
        · rw [if_neg c2]
          have e : w.1 = n := by have := hw.1; omega
          obtain ⟨g1, g2, g3, g4, _⟩ := goM_ok _ _ _ _ h
          obtain ⟨g5, g6⟩ := goM_head (r := r) (R := R) (L := L) e
          obtain ⟨a1, a2, a3⟩ := skR_ok hK j _ _ _ _ o g1 (fun q => by omega)
          exact ⟨a1, a2, by omega⟩
      · rw [if_neg c1]
        obtain ⟨a1, a2, a3⟩ := skR_ok hK j (hi + 1) R (w :: r) (L ++ [(2, n, hi, [], why)]) (o ++ [(n, hi)]) (h.skip c0 hK ⟨by omega, hw.2⟩) (fun q => by omega)
        exact ⟨a1, a2, by omega⟩
theorem rTell (N : Nat) (a : List Ev) (n : Int) (t : List UInt8) (hl : a.length ≤ 100000000) : W_ref13_Tell N (a, n, t) = some (a ++ [(1, n, n, t, 0)]) := by
  unfold W_ref13_Tell V_ref13_Tell
  try simp only
  rw [cnd_T (by omega), cnd_T (by simp only [List.length_cons, List.length_nil]; omega)]
theorem rSkip_eq (N : Nat) (a : List Ev) (lo hi why : Int) (hl : a.length ≤ 100000000) : W_ref13_Skip N (a, lo, hi, why) = some (a ++ [(2, lo, hi, [], why)]) := by
  unfold W_ref13_Skip V_ref13_Skip
  try simp only
  rw [cnd_T (by omega), cnd_T (by omega)]
theorem cut1 (l : List It) (h : 1 ≤ l.length) : List.drop ((0 : Nat) + (cutT (0 : Nat) l.length l.length (some (1 : Int)) none).2.1) (List.take ((0 : Nat) + (cutT (0 : Nat) l.length l.length (some (1 : Int)) none).2.1 + ((cutT (0 : Nat) l.length l.length (some (1 : Int)) none).2.2 - (cutT (0 : Nat) l.length l.length (some (1 : Int)) none).2.1)) l) = l.drop 1 := by
  simp only [cutT, Option.getD_some, Option.getD_none]
  have e : (1 : Int).toNat = 1 := rfl
  rw [e, show 0 + 1 + (l.length - 1) = l.length by omega, List.take_length]
theorem rAdd_eq (N : Nat) (l : List It) (e : It) (hl : l.length ≤ 6) (hs : ∀ h : 0 < l.length, (l.getD (l.length - 1) iD).1 < e.1) : W_ref13_AddRing N (l, e.1, e.2) = some (addR l e) := by
  unfold W_ref13_AddRing V_ref13_AddRing
  simp only [Option.getD_some]
  rw [cnd_T (by omega)]
  have tail : cnd (decide ((List.length l + List.length [(e.1, e.2)]) * (24 : Nat) ≤ (140737488355328 : Nat)))
          (cnd (decide ((6 : Int) < (↑(List.length (l ++ [(e.1, e.2)])) : Int)))
            (cnd (decide ((1 : Int) ≤ (↑(List.length (l ++ [(e.1, e.2)])) : Int))) (some (List.drop ((0 : Nat) + (cutT (0 : Nat) (l ++ [(e.1, e.2)]).length (l ++ [(e.1, e.2)]).length (some (1 : Int)) none).2.1) (List.take ((0 : Nat) + (cutT (0 : Nat) (l ++ [(e.1, e.2)]).length (l ++ [(e.1, e.2)]).length (some (1 : Int)) none).2.1 + ((cutT (0 : Nat) (l ++ [(e.1, e.2)]).length (l ++ [(e.1, e.2)]).length (some (1 : Int)) none).2.2 - (cutT (0 : Nat) (l ++ [(e.1, e.2)]).length (l ++ [(e.1, e.2)]).length (some (1 : Int)) none).2.1)) (l ++ [(e.1, e.2)])))) none)
            (some (l ++ [(e.1, e.2)])))
          none = some (addR l e) := by
    rw [dT (by simp only [List.length_singleton]; omega), cnd_t]
    unfold addR
    by_cases h6 : 6 ≤ l.length
    · rw [dT (by simp only [List.length_append, List.length_singleton]; omega), cnd_t, if_pos h6, dT (by simp only [List.length_append, List.length_singleton]; omega), cnd_t, cut1 _ (by simp)]
    · rw [dF (by simp only [List.length_append, List.length_singleton]; omega), cnd_f, if_neg h6]
  by_cases h0 : (0 : Int) < l.length
  · have w1 : wr .i64 ((l.length : Int) - 1) = ((l.length - 1 : Nat) : Int) := by rw [wr_m (by omega) (by omega)]; omega
    have h1 := hs (by omega)
    rw [dT h0, cnd_t, w1, dT (by omega), dT (by omega), Bool.and_self, cnd_t, Int.toNat_natCast, dF (by show ¬ e.1 ≤ (l.getD (l.length - 1) iD).1; omega), cnd_f]
    exact tail
  · rw [dF h0, cnd_f]
    exact tail
theorem TakeWin_nil (N : Nat) (n : Int) : W_ref13_TakeWin N ([], n) = some ([], false, 0, []) := by
  unfold W_ref13_TakeWin V_ref13_TakeWin
  simp only [List.length_nil]
  rw [dT (by omega), cnd_t]
theorem TakeWin_no (N : Nat) (w : It) (r : List It) (n : Int) (h : w.1 ≠ n) : W_ref13_TakeWin N (w :: r, n) = some (w :: r, false, 0, []) := by
  unfold W_ref13_TakeWin V_ref13_TakeWin
  simp only [List.length_cons]
  rw [dF (by omega), cnd_f, dT (by omega), dT (by omega), Bool.and_self, cnd_t]
  have e : (List.getD (w :: r) 0 ((0 : Int), ([] : List UInt8))) = w := rfl
  rw [e, dT h, cnd_t]
theorem TakeWin_yes (N : Nat) (w : It) (r : List It) (hr : r.length ≤ 1000) : W_ref13_TakeWin N (w :: r, w.1) = some (r, true, w.1, w.2) := by
  unfold W_ref13_TakeWin V_ref13_TakeWin
  simp only [List.length_cons]
  have e : (List.getD (w :: r) 0 ((0 : Int), ([] : List UInt8))) = w := rfl
  have e2 : List.drop 1 (List.take (r.length + 1) (w :: r)) = r := by simp
  rw [dF (by omega), cnd_f, dT (by omega), dT (by omega), Bool.and_self, cnd_t, e, dF (fun q => q rfl), cnd_f, dT (by omega), dT (by omega), Bool.and_self, cnd_t, cnd_T (by rw [e2]; omega), cnd_t, e2]
theorem Fp.lens {K c n : Int} {R W : List It} {L : List Ev} (h : Fp K c n R W L) (hK : K ≤ 10000000) : W.length ≤ 8 ∧ L.length ≤ 10000001 ∧ ∀ _ : 0 < R.length, (R.getD (R.length - 1) iD).1 < n := by
  have a := h.wk.len (by have := h.nx; omega)
  have b := h.ch.len
  have d := h.c0
  have e := h.nx
  refine ⟨by omega, by omega, fun q => ?_⟩
  have := h.rk.last q
  omega
theorem goM_eq (w : It) (r R : List It) (L : List Ev) : goM (w :: r) w.1 R L = (w :: (goM r (w.1 + 1) (addR R w) (L ++ [(1, w.1, w.1, w.2, 0)])).1, (goM r (w.1 + 1) (addR R w) (L ++ [(1, w.1, w.1, w.2, 0)])).2) := by
  conv => lhs; unfold goM
  rw [if_pos rfl]
theorem goM_ne {w : It} {n : Int} (h : w.1 ≠ n) (r R : List It) (L : List Ev) : goM (w :: r) n R L = ([], n, R, w :: r, L) := by
  conv => lhs; unfold goM
  rw [if_neg h]
theorem rGoes_eq (N : Nat) (hN : 2000 ≤ N) {K c : Int} {f : Fd} (h : Fp K c f.1 f.2.2.1 f.2.2.2.1 f.2.2.2.2.1) (hK : K ≤ 10000000) : W_ref13_Goes N f = some (goesM f) := by
  obtain ⟨nx, tp, R, Wn, Lg, a, b⟩ := f
  unfold W_ref13_Goes V_ref13_Goes goesM
  simp only at h ⊢
  have hwl := (h.lens hK).1
  refine loop_G (N := N) (x := ((nx, tp, R, Wn, Lg, a, b), z7, [])) (fun q => q = some ((goM Wn nx R Lg).1, (goM Wn nx R Lg).2.1, tp, (goM Wn nx R Lg).2.2.1, (goM Wn nx R Lg).2.2.2.1, (goM Wn nx R Lg).2.2.2.2, if (goM Wn nx R Lg).1 = [] then (a, b) else (0, 0)))
    (fun k (v : Fd × Fd × List It) => v.2.1 = z7 ∧ Fp K c v.1.1 v.1.2.2.1 v.1.2.2.2.1 v.1.2.2.2.2.1 ∧ v.1.2.1 = tp ∧ v.1.2.2.2.1.length + k = Wn.length ∧ v.2.2.length = k ∧ (v.2.2 ++ (goM v.1.2.2.2.1 v.1.1 v.1.2.2.1 v.1.2.2.2.2.1).1, (goM v.1.2.2.2.1 v.1.1 v.1.2.2.1 v.1.2.2.2.2.1).2) = goM Wn nx R Lg ∧ v.1.2.2.2.2.2 = if v.2.2 = [] then (a, b) else (0, 0)) Wn.length
    (fun r : List It × Fd => r = ((goM Wn nx R Lg).1, (goM Wn nx R Lg).2.1, tp, (goM Wn nx R Lg).2.2.1, (goM Wn nx R Lg).2.2.2.1, (goM Wn nx R Lg).2.2.2.2, if (goM Wn nx R Lg).1 = [] then (a, b) else (0, 0))) ⟨rfl, h, rfl, by simp, rfl, by simp, by simp⟩ (by omega) ?_ (fun k v h => by have := h.2.2.2.1; omega) ?_
  · rintro r rfl; rfl
  · rintro k ⟨⟨n', t', R', W', L', a', b'⟩, z, o⟩ ⟨rfl, hf, rfl, hwk, hol, hq, hab⟩
    simp only at hf hwk hol hq hab ⊢
    obtain ⟨l1, l2, l3⟩ := hf.lens hK
    have hnx := hf.nx
    cases W' with
    | nil =>
      right
      rw [TakeWin_nil, obind_s]
      simp only [Bool.not_false, cnd_t]
      refine ⟨_, rfl, ?_⟩
      simp only [goM, List.append_nil] at hq
      rw [← hq, hab]
    | cons w r =>
      simp only [List.length_cons] at hwk l1
      by_cases cw : w.1 = n'
      · left
        obtain rfl : n' = w.1 := cw.symm
        rw [TakeWin_yes N w r (by omega), obind_s]
        simp only [Bool.not_true, cnd_f]
        rw [rTell N L' w.1 w.2 (by omega), obind_s, rAdd_eq N R' (w.1, w.2) hf.rl l3, obind_s]
        have hs := hf.tell rfl
        rw [goM_eq] at hq
        refine ⟨_, cnd_T (by simp only [List.length_cons, List.length_nil]; omega), rfl, ?_, rfl, by simp only; omega, by simp [hol], ?_, by simp⟩
        · simp only
          rw [wr_m (by omega) (by omega)]
          exact hs
        · simp only
          rw [wr_m (by omega) (by omega), ← hq]
          simp only [List.append_assoc, List.cons_append, List.nil_append]
      · right
        rw [TakeWin_no N w r n' cw, obind_s]
        simp only [Bool.not_false, cnd_t]
        rw [goM_ne cw] at hq
        refine ⟨_, rfl, ?_⟩
        simp only [List.append_nil] at hq
        rw [← hq, hab]
theorem First_cons (N : Nat) (w : It) (r : List It) : W_ref13_First N (w :: r) = some w.1 := by
  unfold W_ref13_First V_ref13_First
  simp only [List.length_cons]
  rw [dF (by omega), cnd_f, dT (by omega), dT (by omega), Bool.and_self, cnd_t]
  rfl
theorem skR_stop {hi why n : Int} {R W : List It} {L : List Ev} {o : List Sp} (h : ¬ n ≤ hi) : ∀ j, skR hi why j n R W L o = (o, n, R, W, L)
  | 0 => rfl
  | j + 1 => by unfold skR; rw [if_neg h]
theorem rSkips_eq (N : Nat) (hN : 2000 ≤ N) {K c : Int} {f : Fd} (h : 1 ≤ f.1 → Fp K c f.1 f.2.2.1 f.2.2.2.1 f.2.2.2.2.1) (hK : K ≤ 10000000) (hi why : Int) (hh : hi ≤ 1000000 → hi ≤ K) : W_ref13_Skips N (f, hi, why) = some (skipsM f hi why) := by
  obtain ⟨nx, tp, R, Wn, Lg, a, b⟩ := f
  unfold W_ref13_Skips V_ref13_Skips skipsM
  simp only at h ⊢
  by_cases c1 : nx < 1
  · rw [dT c1, cnd_t, if_pos (.inl c1)]
  rw [dF c1, cnd_f]
  by_cases c2 : 1000000 < hi
  · rw [dT c2, cnd_t, if_pos (.inr c2)]
  rw [dF c2, cnd_f, if_neg (by omega)]
  have h := h (by omega)
  have hh := hh (by omega)
  have hwl := (h.lens hK).1
  have hn0 := h.nx
  obtain ⟨T, hT⟩ : ∃ T, skR hi why (Wn.length + 2) nx R Wn Lg [] = T := ⟨_, rfl⟩
  rw [hT]
  refine loop_G (N := N) (x := ((nx, tp, R, Wn, Lg, a, b), z7, [])) (fun q => q = some (T.1, T.2.1, tp, T.2.2.1, T.2.2.2.1, T.2.2.2.2, if nx ≤ hi then (0, 0) else (a, b)))
    (fun k (v : Fd × Fd × List Sp) => v.2.1 = z7 ∧ Fp K c v.1.1 v.1.2.2.1 v.1.2.2.2.1 v.1.2.2.2.2.1 ∧ v.1.2.1 = tp ∧ v.2.2.length ≤ k ∧ v.1.2.2.2.2.2 = (if k = 0 then (a, b) else (0, 0)) ∧ (k = 0 → v.1.1 = nx) ∧ (0 < k → nx ≤ hi) ∧
      ∃ j, j + k = Wn.length + 2 ∧ (v.1.1 ≤ hi → v.1.2.2.2.1.length + 1 ≤ j) ∧ skR hi why j v.1.1 v.1.2.2.1 v.1.2.2.2.1 v.1.2.2.2.2.1 v.2.2 = T) (Wn.length + 2)
    (fun r : List Sp × Fd × Fd => r.1 = T.1 ∧ r.2.1 = (T.2.1, tp, T.2.2.1, T.2.2.2.1, T.2.2.2.2, if nx ≤ hi then (0, 0) else (a, b))) ⟨rfl, h, rfl, by simp, by simp, fun _ => rfl, fun q => by omega, Wn.length + 2, rfl, fun _ => by simp, hT⟩ (by omega) ?_ (fun k v h => by obtain ⟨j, h1, _⟩ := h.2.2.2.2.2.2.2; omega) ?_
  · rintro ⟨o, f, z⟩ ⟨rfl, rfl⟩; rfl
  · rintro k ⟨⟨n', t', R', W', L', a', b'⟩, z, o⟩ ⟨rfl, hf, rfl, hol, hab, hk0, hk1, j, hj, hw, hq⟩
    simp only at hf hol hab hk0 hk1 hw hq ⊢
    obtain ⟨l1, l2, l3⟩ := hf.lens hK
    have hnx := hf.nx
    by_cases cn : n' ≤ hi
    case neg =>
      right
      rw [dF cn, cnd_f]
      rw [skR_stop cn] at hq
      refine ⟨_, rfl, by rw [← hq], ?_⟩
      try simp only
      rw [hab, ← hq]
      by_cases k0 : k = 0
      · have := hk0 k0
        rw [if_pos k0, if_neg (by omega)]
      · rw [if_neg k0, if_pos (hk1 (by omega))]
    left
    have hni : nx ≤ hi := by
      by_cases k0 : k = 0
      · have := hk0 k0; omega
      · exact hk1 (by omega)
    have hw := hw cn
    obtain ⟨j, rfl⟩ : ∃ i, j = i + 1 := ⟨j - 1, by omega⟩
    unfold skR at hq
    rw [if_pos cn] at hq
    rw [dT cn, cnd_t]
    -- where nothing is ahead
    have far : Wk (hi + 1) (min K (n' + 7)) W' → skR hi why j (hi + 1) R' W' (L' ++ [(2, n', hi, [], why)]) (o ++ [(n', hi)]) = T → (∃ y : Fd × Fd × List Sp, (obind (some (hi, ((n', t', R', W', L', (0 : Int), (0 : Int)) : Fd), z7, o)) fun (b : Int × Fd × Fd × List Sp) => obind (cnd (decide (b.2.1.1 ≤ b.1)) (obind (W_ref13_Skip N (b.2.1.2.2.2.2.1, b.2.1.1, b.1, why)) fun (b_1 : List Ev) => cnd (decide ((List.length b.2.2.2 + List.length [(b.2.1.1, b.1)]) * (16 : Nat) ≤ (140737488355328 : Nat))) (some (((wr .i64 (b.1 + 1), b.2.1.2.1, b.2.1.2.2.1, b.2.1.2.2.2.1, b_1, b.2.1.2.2.2.2.2.1, b.2.1.2.2.2.2.2.2) : Fd), b.2.2.1, b.2.2.2 ++ [(b.2.1.1, b.1)])) none) (some (b.2.1, b.2.2.1, b.2.2.2))) fun (b : Fd × Fd × List Sp) => cnd (decide (b.1.1 ≤ hi)) (obind (W_ref13_Goes N b.1) fun (b_1 : List It × Fd) => some (Sum.inl (b_1.2, b.2.1, b.2.2))) (some (Sum.inl (b.1, b.2.1, b.2.2)))) = some (.inl y : (Fd × Fd × List Sp) ⊕ (List Sp × Fd × Fd)) ∧ y.2.1 = z7 ∧ Fp K c y.1.1 y.1.2.2.1 y.1.2.2.2.1 y.1.2.2.2.2.1 ∧ y.1.2.1 = t' ∧ y.2.2.length ≤ k + 1 ∧ y.1.2.2.2.2.2 = (if k + 1 = 0 then (a, b) else (0, 0)) ∧ (k + 1 = 0 → y.1.1 = nx) ∧ (0 < k + 1 → nx ≤ hi) ∧
      ∃ j, j + (k + 1) = Wn.length + 2 ∧ (y.1.1 ≤ hi → y.1.2.2.2.1.length + 1 ≤ j) ∧ skR hi why j y.1.1 y.1.2.2.1 y.1.2.2.2.1 y.1.2.2.2.2.1 y.2.2 = T) := by
      intro hwk hq
      rw [obind_s]
      try simp only
      rw [dT cn, cnd_t, rSkip_eq N L' n' hi why (by omega), obind_s, cnd_T (by simp only [List.length_cons, List.length_nil]; omega), obind_s, wr_m (by omega) (by omega)]
      try simp only
      rw [dF (by omega), cnd_f]
      exact ⟨_, rfl, rfl, hf.skip cn hh hwk, rfl, by simp only [List.length_append, List.length_cons, List.length_nil]; omega, by rw [if_neg (by omega)], fun q => by omega, fun _ => hni, j, by omega, fun q => by simp only at q; omega, hq⟩
    cases W' with
    | nil =>
      rw [dF (by simp), cnd_f]
      exact far trivial hq
    | cons w r =>
      have hwk := hf.wk
      simp only [List.length_cons] at hw l1
      rw [dT (by simp only [List.length_cons]; omega), cnd_t, First_cons, obind_s]
      simp only at hq
      by_cases cf : w.1 ≤ hi
      case neg =>
        rw [dF cf, cnd_f]
        rw [if_neg cf] at hq
        exact far ⟨by omega, hwk.2⟩ hq
      rw [if_pos cf] at hq
      have hw1 := hwk.1
      rw [dT cf, cnd_t, obind_s, obind_s, wr_m (z := w.1 - 1) (by omega) (by omega)]
      try simp only
      -- a feed that has come to the first one
      have near : ∀ (Lq : List Ev) (oq : List Sp), Fp K c w.1 R' (w :: r) Lq → oq.length ≤ k + 1 → skR hi why j (goM (w :: r) w.1 R' Lq).2.1 (goM (w :: r) w.1 R' Lq).2.2.1 (goM (w :: r) w.1 R' Lq).2.2.2.1 (goM (w :: r) w.1 R' Lq).2.2.2.2 oq = T → (∃ y : Fd × Fd × List Sp, (cnd (decide (w.1 ≤ hi)) (obind (W_ref13_Goes N (w.1, t', R', w :: r, Lq, (0 : Int), (0 : Int))) fun (b_1 : List It × Fd) => some (Sum.inl (b_1.2, z7, oq))) (some (Sum.inl (((w.1, t', R', w :: r, Lq, (0 : Int), (0 : Int)) : Fd), z7, oq)))) = some (.inl y : (Fd × Fd × List Sp) ⊕ (List Sp × Fd × Fd)) ∧ y.2.1 = z7 ∧ Fp K c y.1.1 y.1.2.2.1 y.1.2.2.2.1 y.1.2.2.2.2.1 ∧ y.1.2.1 = t' ∧ y.2.2.length ≤ k + 1 ∧ y.1.2.2.2.2.2 = (if k + 1 = 0 then (a, b) else (0, 0)) ∧ (k + 1 = 0 → y.1.1 = nx) ∧ (0 < k + 1 → nx ≤ hi) ∧
        ∃ j, j + (k + 1) = Wn.length + 2 ∧ (y.1.1 ≤ hi → y.1.2.2.2.1.length + 1 ≤ j) ∧ skR hi why j y.1.1 y.1.2.2.1 y.1.2.2.2.1 y.1.2.2.2.2.1 y.2.2 = T) := by
        intro Lq oq hF hoq hq
        rw [dT cf, cnd_t, rGoes_eq N hN (f := (w.1, t', R', w :: r, Lq, (0 : Int), (0 : Int))) hF hK, obind_s]
        obtain ⟨g1, g2, g3, g4, _⟩ := goM_ok _ _ _ _ hF
        obtain ⟨g5, g6⟩ := goM_head (r := r) (R := R') (L := Lq) (rfl : w.1 = w.1)
        refine ⟨_, rfl, rfl, g1, rfl, hoq, ?_, fun q => by omega, fun _ => hni, j, by omega, fun q => by simp only [goesM]; omega, hq⟩
        simp only [goesM]
        rw [if_neg g5, if_neg (by omega)]
      by_cases cg : n' ≤ w.1 - 1
      · rw [if_pos (show n' < w.1 by omega)] at hq
        rw [dT cg, cnd_t, rSkip_eq N L' n' (w.1 - 1) why (by omega), obind_s, cnd_T (by simp only [List.length_cons, List.length_nil]; omega), obind_s, wr_m (by omega) (by omega)]
        try simp only
        rw [show w.1 - 1 + 1 = w.1 by omega]
        refine near (L' ++ [(2, n', w.1 - 1, [], why)]) (o ++ [(n', w.1 - 1)]) ?_ (by simp only [List.length_append, List.length_cons, List.length_nil]; omega) hq
        have := hf.skip (m := w.1 - 1) (why := why) (by omega) (by omega) ⟨by omega, hwk.2⟩
        rwa [show w.1 - 1 + 1 = w.1 by omega] at this
      · rw [if_neg (show ¬ n' < w.1 by omega)] at hq
        have e : n' = w.1 := by omega
        subst e
        rw [dF cg, cnd_f, obind_s]
        exact near L' o hf (by omega) hq
theorem rKnows_eq (N : Nat) (f : Fd) (t : Int) : W_ref13_Knows N (f, t) = some (knowsM f t) := by
  obtain ⟨nx, tp, R, Wn, Lg, a, b⟩ := f
  unfold W_ref13_Knows V_ref13_Knows knowsM
  try simp only
  by_cases c1 : 0 < nx
  · rw [dT c1, cnd_t]
    by_cases c2 : t ≤ 1000000
    · rw [dT c2, cnd_t, if_pos ⟨c1, c2⟩]
    · rw [dF c2, cnd_f, if_neg (fun q => c2 q.2)]
  · rw [dF c1, cnd_f, if_neg (fun q => c1 q.1)]
theorem rBegin_eq (N : Nat) (f : Fd) (n : Int) (hw : 0 < f.1 → knowsM f (wr .i64 (n - 1)) = knowsM f (n - 1)) : W_ref13_Begin N (f, n) = some (beginM f n) := by
  have hk := rKnows_eq N f (wr .i64 (n - 1))
  obtain ⟨nx, tp, R, Wn, Lg, a, b⟩ := f
  unfold W_ref13_Begin V_ref13_Begin beginM
  simp only at hw ⊢
  by_cases c1 : 0 < nx
  · rw [dT c1, cnd_t, if_pos c1, hk, obind_s, hw c1]
  · rw [dF c1, cnd_f, if_neg c1]
    by_cases c2 : 1 ≤ n
    · rw [dT c2, cnd_t]
      by_cases c3 : n ≤ 1000000
      · rw [dT c3, cnd_t, if_pos ⟨c2, c3⟩]
      · rw [dF c3, cnd_f, if_neg (fun q => c3 q.2)]
    · rw [dF c2, cnd_f, if_neg (fun q => c2 q.1)]
theorem rWants_eq (N : Nat) {K c : Int} {f : Fd} (h0 : 0 ≤ f.1) (h : 1 ≤ f.1 → Fp K c f.1 f.2.2.1 f.2.2.2.1 f.2.2.2.2.1) (hz : f.1 = 0 → f.2.2.2.1 = []) (hK : K ≤ 10000000) : W_ref13_Wants N f = some (wantsM f) := by
  obtain ⟨nx, tp, R, Wn, Lg, a, b⟩ := f
  unfold W_ref13_Wants V_ref13_Wants wantsM
  simp only at h hz h0 ⊢
  have key : ∀ hi : Int, (obind (some (hi, ((nx, tp, R, Wn, Lg, a, b) : Fd), (0 : Int), (0 : Int))) fun (b : Int × Fd × Int × Int) => cnd (decide (b.2.1.1 = 0)) (some (false, (0 : Int), (0 : Int))) (cnd (decide (b.1 < b.2.1.1)) (some (false, (0 : Int), (0 : Int))) (some (true, b.2.1.1, b.1)))) = some (if nx = 0 ∨ hi < nx then (false, 0, 0) else (true, nx, hi)) := by
    intro hi
    rw [obind_s]
    try simp only
    by_cases c0 : nx = 0
    · rw [dT c0, cnd_t, if_pos (.inl c0)]
    rw [dF c0, cnd_f]
    by_cases q : hi < nx
    · rw [dT q, cnd_t, if_pos (.inr q)]
    · rw [dF q, cnd_f, if_neg (by omega)]
  cases Wn with
  | nil =>
    rw [dF (by simp), cnd_f]
    exact key tp
  | cons w r =>
    have hn : 1 ≤ nx := by
      have : nx ≠ 0 := fun q => by have := hz q; cases this
      omega
    have hwk := (h hn).wk
    have hnx := (h hn).nx
    have hw1 := hwk.1; have hw2 := hwk.2.1
    rw [dT (by simp only [List.length_cons]; omega), cnd_t, First_cons, obind_s, wr_m (by omega) (by omega)]
    exact key (w.1 - 1)
theorem rNow_eq (N : Nat) (a : Int × Int) (now : Int) : W_ref1_Now N (a, now) = some (nowM a now) := by
  obtain ⟨a, b⟩ := a
  unfold W_ref1_Now V_ref1_Now nowM
  try simp only
  by_cases q : a = 0
  · rw [dT q, cnd_t, if_pos q]
  · rw [dF q, cnd_f, if_neg q]
theorem rMaySpan_eq (N : Nat) (lo hi : Int) : W_ref1_MaySpan N (lo, hi) = some (decide (1 ≤ lo ∧ lo ≤ hi ∧ hi ≤ 1000000)) := by
  unfold W_ref1_MaySpan V_ref1_MaySpan
  try simp only
  by_cases q1 : 1 ≤ lo
  · rw [dT q1, cnd_t, obind_s]
    try simp only
    by_cases q2 : lo ≤ hi
    · rw [dT q2, cnd_t]; simp [q1, q2]
    · rw [dF q2, cnd_f, dF (fun q => q2 q.2.1)]
  · rw [dF q1, cnd_f, obind_s]
    try simp only
    rw [cnd_f, dF (fun q => q1 q.1)]
theorem rTried_eq (N : Nat) (hN : 2000 ≤ N) (a : Int × Int) (now : Int) (h : 0 ≤ a.1) (h2 : a.1 ≤ 1000000) (hn : -100000000000000 ≤ now) (hn2 : now ≤ 100000000000000) : W_ref1_Tried N (a, now) = some (triedM a now) := by
  obtain ⟨a, b⟩ := a
  unfold W_ref1_Tried V_ref1_Tried triedM
  simp only at h h2 ⊢
  refine loop_G (N := N) (fun q => q = some (a + 1, now + 2 * 2 ^ (min a.toNat 3))) (fun k (v : Int × Int × (Int × Int) × Int × Int) => v.2.2.1 = (a, b) ∧ v.2.1 = k ∧ (k : Int) ≤ a ∧ k ≤ 3 ∧ v.1 = 2 * 2 ^ k) 3 (fun r : Int × (Int × Int) × Int × Int => r.2.1 = (a, b) ∧ r.1 = 2 * 2 ^ (min a.toNat 3)) ⟨rfl, rfl, by omega, by omega, by simp⟩ (by omega) ?_ (fun k v h => h.2.2.2.1) ?_
  · rintro ⟨u, ⟨x, y⟩, z1, z2⟩ ⟨e, e2⟩
    cases e
    simp only at e2 ⊢
    have hp : (2 : Int) * 2 ^ (min a.toNat 3) ≤ 16 ∧ 0 ≤ (2 : Int) * 2 ^ (min a.toNat 3) := by
      have hm : min a.toNat 3 ≤ 3 := by omega
      generalize min a.toNat 3 = m at hm ⊢
      have : m = 0 ∨ m = 1 ∨ m = 2 ∨ m = 3 := by omega
      rcases this with rfl | rfl | rfl | rfl <;> decide
    rw [e2, wr_m (by omega) (by omega), wr_m (by omega) (by omega)]
  · rintro k ⟨u, i, ⟨x, y⟩, z1, z2⟩ ⟨e, e2, hk, hk3, e3⟩
    cases e
    simp only at e2 e3 ⊢
    subst e2 e3
    by_cases q1 : (k : Int) < a
    · rw [dT q1, cnd_t]
      by_cases q2 : (k : Int) < 3
      · left
        have hk4 : k = 0 ∨ k = 1 ∨ k = 2 := by omega
        rw [dT q2, cnd_t]
        refine ⟨_, rfl, rfl, by simp only; rw [wr_m (by omega) (by omega)]; omega, by omega, by omega, ?_⟩
        rcases hk4 with rfl | rfl | rfl <;> (simp only; rw [wr_m (by decide) (by decide)]; decide)
      · right
        rw [dF q2, cnd_f]
        exact ⟨_, rfl, rfl, by simp only; rw [show min a.toNat 3 = k by omega]⟩
    · right
      rw [dF q1, cnd_f]
      exact ⟨_, rfl, rfl, by simp only; rw [show min a.toNat 3 = k by omega]⟩
structure FI (K c : Int) (f : Fd) : Prop where
  n0 : 0 ≤ f.1
  tp : 0 ≤ f.2.1 ∧ f.2.1 ≤ K
  p : 1 ≤ f.1 → Fp K c f.1 f.2.2.1 f.2.2.2.1 f.2.2.2.2.1
  ask : 0 ≤ f.2.2.2.2.2.1 ∧ f.2.2.2.2.2.1 ≤ 3
  z : f.1 = 0 → f.2.2.1 = [] ∧ f.2.2.2.1 = [] ∧ f.2.2.2.2.1 = []
theorem FI.knows {K c : Int} {f : Fd} (h : FI K c f) (t : Int) (ht : t ≤ 1000000 → t ≤ K) : FI K c (knowsM f t) ∧ (knowsM f t).1 = f.1 := by
  unfold knowsM
  split
  · rename_i q
    have := h.tp
    have := ht q.2
    exact ⟨⟨h.n0, ⟨by simp only; omega, by simp only; omega⟩, h.p, h.ask, h.z⟩, rfl⟩
  · exact ⟨h, rfl⟩
theorem FI.goes {K c : Int} {f : Fd} (h : FI K c f) (h1 : 1 ≤ f.1) : FI K c (goesM f).2 ∧ f.1 ≤ (goesM f).2.1 ∧ Wk ((goesM f).2.1 + 1) (min K ((goesM f).2.1 + 7)) (goesM f).2.2.2.2.1 := by
  obtain ⟨g1, g2, g3, g4, g5⟩ := goM_ok _ _ _ _ (h.p h1)
  unfold goesM
  refine ⟨⟨by simp only; omega, h.tp, fun _ => g1, ?_, fun q => by simp only at q; omega⟩, by simp only; omega, g2⟩
  try simp only
  split
  · exact h.ask
  · exact ⟨by simp, by simp⟩
theorem FI.skips {K c : Int} {f : Fd} (h : FI K c f) (h1 : 1 ≤ f.1) (hi why : Int) (hh : hi ≤ 1000000 → hi ≤ K) : FI K c (skipsM f hi why).2 ∧ f.1 ≤ (skipsM f hi why).2.1 ∧ (hi ≤ 1000000 → hi < (skipsM f hi why).2.1) := by
  unfold skipsM
  by_cases c2 : 1000000 < hi
  · rw [if_pos (.inr c2)]; exact ⟨h, by simp only; omega, fun q => by omega⟩
  rw [if_neg (by omega)]
  obtain ⟨g1, g2, g3⟩ := skR_ok (why := why) (hh (by omega)) (f.2.2.2.1.length + 2) _ _ _ _ [] (h.p h1) (fun _ => by omega)
  refine ⟨⟨by simp only; omega, h.tp, fun _ => g1, ?_, fun q => by simp only at q; omega⟩, by simp only; omega, fun _ => by simp only; omega⟩
  try simp only
  split
  · exact ⟨by simp, by simp⟩
  · exact h.ask
theorem rNotes_eq (N : Nat) (hN : 2000 ≤ N) {K c : Int} {f : Fd} (h : FI K c f) (hK : K ≤ 10000000) (lo hi : Int) (hh : hi ≤ 1000000 → hi ≤ K) : W_ref13_Notes N (f, lo, hi) = some (notesM f lo hi) := by
  obtain ⟨k1, k2⟩ := h.knows hi hh
  have hkn := rKnows_eq N f hi
  have h0 := h.n0
  obtain ⟨nx, tp, R, Wn, Lg, a, b⟩ := f
  unfold W_ref13_Notes V_ref13_Notes notesM
  simp only at k2 h0 ⊢
  by_cases c0 : nx = 0
  · rw [dT c0, cnd_t, if_pos (.inl c0)]
  rw [dF c0, cnd_f, rMaySpan_eq, obind_s]
  by_cases cs : 1 ≤ lo ∧ lo ≤ hi ∧ hi ≤ 1000000
  case neg => rw [dF cs, Bool.not_false, cnd_t, if_pos (by omega)]
  rw [dT cs, Bool.not_true, cnd_f, if_neg (by omega), hkn, obind_s]
  obtain ⟨g, hg⟩ : ∃ g, knowsM (nx, tp, R, Wn, Lg, a, b) hi = g := ⟨_, rfl⟩
  rw [hg] at k1 k2 ⊢
  rw [← k2]
  by_cases c1 : g.1 < lo
  · rw [dT c1, cnd_t, if_pos (.inl c1)]
  rw [dF c1, cnd_f]
  by_cases c2 : hi < g.1
  · rw [dT c2, cnd_t, if_pos (.inr c2)]
  rw [dF c2, cnd_f, if_neg (by omega)]
  have hg1 : 1 ≤ g.1 := by omega
  obtain ⟨s1, s2, s3⟩ := k1.skips hg1 hi 1 hh
  have e1 := rSkips_eq N hN k1.p hK hi 1 hh
  have e2 := rGoes_eq N hN (s1.p (by omega)) hK
  rw [e1, obind_s]
  show obind (W_ref13_Goes N (skipsM g hi 1).2) _ = _
  rw [e2, obind_s]
theorem rTick_eq (N : Nat) (hN : 2000 ≤ N) {K c : Int} {f : Fd} (h : FI K c f) (hK : K ≤ 1000000) (now : Int) (hn : -100000000000000 ≤ now) (hn2 : now ≤ 100000000000000) : W_ref13_Tick N (f, now) = some (tickM f now) := by
  have hw := rWants_eq N h.n0 h.p (fun q => (h.z q).2.1) (by omega)
  have hwk : (wantsM f).1 = true → 1 ≤ f.1 ∧ (wantsM f).2.2 ≤ K := by
    have h0 := h.n0; have hp := h.p; have htp := h.tp
    obtain ⟨nx, tp, R, Wn, Lg, a, b⟩ := f
    unfold wantsM
    simp only at h0 hp htp ⊢
    cases Wn with
    | nil =>
      try simp only
      split
      · intro q; cases q
      · intro _; simp only; omega
    | cons w r =>
      try simp only
      split
      · intro q; cases q
      · intro _
        have := (hp (by omega)).wk.2.1
        simp only; omega
  have hnow := rNow_eq N f.2.2.2.2.2 now
  have htr := rTried_eq N hN f.2.2.2.2.2 now h.ask.1 (by have := h.ask; omega) hn hn2
  have hsk := fun hi hh => rSkips_eq N hN (hi := hi) (why := 2) h.p (by omega) hh
  have hfi := fun h1 hi hh => h.skips h1 hi 2 hh
  obtain ⟨nx, tp, R, Wn, Lg, a, b⟩ := f
  unfold W_ref13_Tick V_ref13_Tick tickM
  simp only at hnow htr hwk hfi ⊢
  rw [hw, obind_s]
  obtain ⟨s, hs⟩ : ∃ s, wantsM (nx, tp, R, Wn, Lg, a, b) = s := ⟨_, rfl⟩
  rw [hs] at hwk ⊢
  obtain ⟨q, s1, s2⟩ := s
  simp only at hwk ⊢
  cases q with
  | false => rw [Bool.not_false, cnd_t, if_pos (.inl rfl)]
  | true =>
    obtain ⟨w1, w2⟩ := hwk rfl
    rw [Bool.not_true, cnd_f, hnow, obind_s]
    cases hq : nowM (a, b) now with
    | false => rw [Bool.not_false, cnd_t, if_pos (.inr rfl)]
    | true =>
      rw [Bool.not_true, cnd_f, if_neg (by simp)]
      by_cases c3 : 3 ≤ a
      · rw [dT c3, cnd_t, if_pos c3, hsk s2 (fun _ => w2), obind_s]
        obtain ⟨g1, g2, _⟩ := hfi w1 s2 (fun _ => w2)
        have e2 := rGoes_eq N hN (g1.p (by omega)) (by omega)
        show obind (W_ref13_Goes N (skipsM (nx, tp, R, Wn, Lg, a, b) s2 2).2) _ = _
        rw [e2, obind_s]
      · rw [dF c3, cnd_f, if_neg c3, htr, obind_s]
theorem pCloneI (N : Nat) (l : List It) (hl : l.length ≤ 100000000) : W_slices_Clone_api_Item N l = some l := by
  unfold W_slices_Clone_api_Item V_slices_Clone_api_Item
  rw [cnd_T (by omega)]
theorem pCloneE (N : Nat) (l : List Ev) (hl : l.length ≤ 100000000) : W_slices_Clone_api_Event N l = some l := by
  unfold W_slices_Clone_api_Event V_slices_Clone_api_Event
  rw [cnd_T (by omega)]
theorem pTell (N : Nat) (a : List Ev) (n : Int) (t : List UInt8) (hl : a.length ≤ 100000000) : W_log_Tell N (a, n, t) = some (a ++ [(1, n, n, t, 0)]) := by
  unfold W_log_Tell V_log_Tell
  try simp only
  rw [pCloneE N a hl, obind_s, cnd_T (by simp only [List.length_cons, List.length_nil]; omega)]
theorem pSkip (N : Nat) (a : List Ev) (lo hi why : Int) (hl : a.length ≤ 100000000) : W_log_Skip N (a, lo, hi, why) = some (a ++ [(2, lo, hi, [], why)]) := by
  unfold W_log_Skip V_log_Skip
  try simp only
  rw [pCloneE N a hl, obind_s, cnd_T (by omega)]
theorem pAdd (N : Nat) (l : List It) (e : It) (hl : l.length ≤ 6) (hs : ∀ h : 0 < l.length, (l.getD (l.length - 1) iD).1 < e.1) : W_ring_Add N (l, e.1, e.2) = some (addR l e) := by
  unfold W_ring_Add V_ring_Add
  try simp only
  rw [pCloneI N l (by omega), obind_s]
  have tail : cnd (decide ((List.length l + List.length [(e.1, e.2)]) * (24 : Nat) ≤ (140737488355328 : Nat)))
      (cnd (decide ((6 : Int) < (↑(List.length (l ++ [(e.1, e.2)])) : Int))) (obind (W_slices_Delete_api_Item N ((0 : Int), (1 : Int), l ++ [(e.1, e.2)])) fun (b : List It) => some b) (some (l ++ [(e.1, e.2)]))) none = some (addR l e) := by
    rw [cnd_T (by simp only [List.length_singleton]; omega)]
    unfold addR
    by_cases h6 : 6 ≤ l.length
    · rw [if_pos h6, cnd_T (by simp only [List.length_append, List.length_singleton]; omega)]
      unfold W_slices_Delete_api_Item
      try simp only
      rw [dT (by omega), dT (by simp only [List.length_append, List.length_singleton]; omega), dT (by omega), dT (by simp only [List.length_append, List.length_singleton]; omega), dT (by simp only [List.length_append, List.length_singleton]; omega)]
      simp only [Bool.and_self, cnd_t, obind_s]
      rfl
    · rw [if_neg h6, cnd_F (by simp only [List.length_append, List.length_singleton]; omega)]
  by_cases h0 : (0 : Int) < l.length
  · have w1 : wr .i64 ((l.length : Int) - 1) = ((l.length - 1 : Nat) : Int) := by rw [wr_m (by omega) (by omega)]; omega
    have h1 := hs (by omega)
    rw [dT h0, cnd_t, w1, dT (by omega), dT (by omega), Bool.and_self, cnd_t, Int.toNat_natCast, dF (by show ¬ e.1 ≤ (l.getD (l.length - 1) iD).1; omega), cnd_f]
    exact tail
  · rw [dF h0, cnd_f]
    exact tail
theorem Take_nil (N : Nat) (n : Int) : W_win_Take N ([], n) = some ([], false, 0, []) := by
  unfold W_win_Take V_win_Take
  simp only [List.length_nil]
  rw [dT (by omega), cnd_t, pCloneI N [] (by simp), obind_s]
theorem Take_no (N : Nat) (w : It) (r : List It) (n : Int) (h : w.1 ≠ n) (hr : r.length ≤ 1000) : W_win_Take N (w :: r, n) = some (w :: r, false, 0, []) := by
  unfold W_win_Take V_win_Take
  simp only [List.length_cons]
  rw [dF (by omega), cnd_f, dT (by omega), dT (by omega), Bool.and_self, cnd_t]
  have e : (List.getD (w :: r) 0 ((0 : Int), ([] : List UInt8))) = w := rfl
  rw [e, dT h, cnd_t, pCloneI N (w :: r) (by simp only [List.length_cons]; omega), obind_s]
theorem Take_yes (N : Nat) (w : It) (r : List It) (hr : r.length ≤ 1000) : W_win_Take N (w :: r, w.1) = some (r, true, w.1, w.2) := by
  unfold W_win_Take V_win_Take
  simp only [List.length_cons]
  have e : (List.getD (w :: r) 0 ((0 : Int), ([] : List UInt8))) = w := rfl
  have e2 : List.drop 1 (List.take (r.length + 1) (w :: r)) = r := by simp
  rw [dF (by omega), cnd_f, dT (by omega), dT (by omega), Bool.and_self, cnd_t, e, dF (fun q => q rfl), cnd_f, dT (by omega), dT (by omega), Bool.and_self, cnd_t, e2, pCloneI N r (by omega), obind_s, cnd_t]
theorem pTwin (N : Nat) (f : Fd) (h1 : f.2.2.1.length ≤ 100000000) (h2 : f.2.2.2.1.length ≤ 100000000) (h3 : f.2.2.2.2.1.length ≤ 100000000) : W_twin_Feed N f = some f := by
  obtain ⟨n, t, R, Wn, L, a, b⟩ := f
  unfold W_twin_Feed V_twin_Feed
  simp only at h1 h2 h3 ⊢
  rw [pCloneI N R h1, obind_s, pCloneI N Wn h2, obind_s, pCloneE N L h3, obind_s]
theorem Fp.twin (N : Nat) {K c : Int} {f : Fd} (h : Fp K c f.1 f.2.2.1 f.2.2.2.1 f.2.2.2.2.1) (hK : K ≤ 10000000) : W_twin_Feed N f = some f := by
  obtain ⟨a, b, _⟩ := h.lens hK
  exact pTwin N f (by have := h.rl; omega) (by omega) (by omega)
theorem FI.twin (N : Nat) {K c : Int} {f : Fd} (h : FI K c f) (hK : K ≤ 10000000) : W_twin_Feed N f = some f := by
  by_cases q : 1 ≤ f.1
  · exact (h.p q).twin N hK
  · obtain ⟨a, b, d⟩ := h.z (by have := h.n0; omega)
    exact pTwin N f (by rw [a]; simp) (by rw [b]; simp) (by rw [d]; simp)
theorem pStart (N : Nat) : W_wait_Start N () = some (0, 0) := rfl
theorem pGoes_eq (N : Nat) (hN : 2000 ≤ N) {K c : Int} {f : Fd} (h : Fp K c f.1 f.2.2.1 f.2.2.2.1 f.2.2.2.2.1) (hK : K ≤ 10000000) : W_nak_Goes N f = some (goesM f) := by
  have ht := h.twin N hK
  obtain ⟨nx, tp, R, Wn, Lg, a, b⟩ := f
  unfold W_nak_Goes V_nak_Goes goesM
  simp only at h ⊢
  rw [ht, obind_s]
  have hwl := (h.lens hK).1
  refine loop_G (N := N) (x := (z7, (nx, tp, R, Wn, Lg, a, b), [])) (fun q => q = some ((goM Wn nx R Lg).1, (goM Wn nx R Lg).2.1, tp, (goM Wn nx R Lg).2.2.1, (goM Wn nx R Lg).2.2.2.1, (goM Wn nx R Lg).2.2.2.2, if (goM Wn nx R Lg).1 = [] then (a, b) else (0, 0)))
    (fun k (v : Fd × Fd × List It) => v.1 = z7 ∧ Fp K c v.2.1.1 v.2.1.2.2.1 v.2.1.2.2.2.1 v.2.1.2.2.2.2.1 ∧ v.2.1.2.1 = tp ∧ v.2.1.2.2.2.1.length + k = Wn.length ∧ v.2.2.length = k ∧ (v.2.2 ++ (goM v.2.1.2.2.2.1 v.2.1.1 v.2.1.2.2.1 v.2.1.2.2.2.2.1).1, (goM v.2.1.2.2.2.1 v.2.1.1 v.2.1.2.2.1 v.2.1.2.2.2.2.1).2) = goM Wn nx R Lg ∧ v.2.1.2.2.2.2.2 = (a, b)) Wn.length
    (fun r : List It × Fd × Fd => r.1 = (goM Wn nx R Lg).1 ∧ r.2.2 = ((goM Wn nx R Lg).2.1, tp, (goM Wn nx R Lg).2.2.1, (goM Wn nx R Lg).2.2.2.1, (goM Wn nx R Lg).2.2.2.2, a, b)) ⟨rfl, h, rfl, by simp, rfl, by simp, rfl⟩ (by omega) ?_ (fun k v h => by have := h.2.2.2.1; omega) ?_
  · rintro ⟨o, z, f⟩ ⟨rfl, rfl⟩
    try simp only
    cases hq : (goM Wn nx R Lg).1 with
    | nil => rw [dF (by simp), cnd_f, if_pos rfl]
    | cons x l => rw [dT (by simp only [List.length_cons]; omega), cnd_t, pStart, obind_s, if_neg (by simp)]
  · rintro k ⟨z, ⟨n', t', R', W', L', a', b'⟩, o⟩ ⟨rfl, hf, rfl, hwk, hol, hq, hab⟩
    simp only at hf hwk hol hq hab ⊢
    cases hab
    obtain ⟨l1, l2, l3⟩ := hf.lens hK
    have hnx := hf.nx
    cases W' with
    | nil =>
      right
      rw [Take_nil, obind_s]
      simp only [Bool.not_false, cnd_t]
      refine ⟨_, rfl, ?_⟩
      simp only [goM, List.append_nil] at hq
      rw [← hq]
      exact ⟨rfl, rfl⟩
    | cons w r =>
      simp only [List.length_cons] at hwk l1
      by_cases cw : w.1 = n'
      · left
        obtain rfl : n' = w.1 := cw.symm
        rw [Take_yes N w r (by omega), obind_s]
        simp only [Bool.not_true, cnd_f]
        rw [pTell N L' w.1 w.2 (by omega), obind_s, pAdd N R' (w.1, w.2) hf.rl l3, obind_s]
        have hs := hf.tell rfl
        rw [goM_eq] at hq
        refine ⟨_, cnd_T (by simp only [List.length_cons, List.length_nil]; omega), rfl, ?_, rfl, by simp only; omega, by simp [hol], ?_, rfl⟩
        · simp only
          rw [wr_m (by omega) (by omega)]
          exact hs
        · simp only
          rw [wr_m (by omega) (by omega), ← hq]
          simp only [List.append_assoc, List.cons_append, List.nil_append]
      · right
        rw [Take_no N w r n' cw (by omega), obind_s]
        simp only [Bool.not_false, cnd_t]
        rw [goM_ne cw] at hq
        refine ⟨_, rfl, ?_⟩
        simp only [List.append_nil] at hq
        rw [← hq]
        exact ⟨rfl, rfl⟩
theorem wFirst_nil (N : Nat) : W_win_First N [] = some 0 := by
  unfold W_win_First V_win_First
  rw [dT (by simp), cnd_t]
theorem wFirst_cons (N : Nat) (w : It) (r : List It) : W_win_First N (w :: r) = some w.1 := by
  unfold W_win_First V_win_First
  simp only [List.length_cons]
  rw [dF (by omega), cnd_f, dT (by omega), dT (by omega), Bool.and_self, cnd_t]
  rfl
theorem nFirst_nil (N : Nat) (n t : Int) (R : List It) (L : List Ev) (a b : Int) (h : 0 ≤ n) : W_nak_first N (n, t, R, [], L, a, b) = some (.inr ()) := by
  unfold W_nak_first V_nak_first
  try simp only
  rw [wFirst_nil, obind_s]
  by_cases q : n ≤ 0
  · rw [dT q, cnd_t, dF (by omega), cnd_f]
  · rw [dF q, cnd_f]
theorem nFirst_cons (N : Nat) (n t : Int) (R : List It) (w : It) (r : List It) (L : List Ev) (a b : Int) (h : 1 ≤ n) (h2 : n ≤ w.1) : W_nak_first N (n, t, R, w :: r, L, a, b) = some (.inl w.1) := by
  unfold W_nak_first V_nak_first
  try simp only
  rw [wFirst_cons, obind_s, dT h2, cnd_t, dT (by omega), cnd_t]
theorem pSkips_eq (N : Nat) (hN : 2000 ≤ N) {K c : Int} {f : Fd} (ht : W_twin_Feed N f = some f) (h : 1 ≤ f.1 → Fp K c f.1 f.2.2.1 f.2.2.2.1 f.2.2.2.2.1) (hK : K ≤ 10000000) (hi why : Int) (hh : hi ≤ 1000000 → hi ≤ K) : W_nak_Skips N (f, hi, why) = some (skipsM f hi why) := by
  obtain ⟨nx, tp, R, Wn, Lg, a, b⟩ := f
  unfold W_nak_Skips V_nak_Skips skipsM
  simp only at h ⊢
  rw [ht, obind_s]
  by_cases c1 : nx < 1
  · rw [dT c1, cnd_t, if_pos (.inl c1)]
  rw [dF c1, cnd_f]
  by_cases c2 : 1000000 < hi
  · rw [dT c2, cnd_t, if_pos (.inr c2)]
  rw [dF c2, cnd_f, if_neg (by omega)]
  have h := h (by omega)
  have hh := hh (by omega)
  have hwl := (h.lens hK).1
  have hn0 := h.nx
  obtain ⟨T, hT⟩ : ∃ T, skR hi why (Wn.length + 2) nx R Wn Lg [] = T := ⟨_, rfl⟩
  rw [hT]
  refine loop_G (N := N) (x := ((nx, tp, R, Wn, Lg, a, b), z7, (nx, tp, R, Wn, Lg, a, b), [], why)) (fun q => q = some (T.1, T.2.1, tp, T.2.2.1, T.2.2.2.1, T.2.2.2.2, if nx ≤ hi then (0, 0) else (a, b)))
    (fun k (v : Fd × Fd × Fd × List Sp × Int) => v.1 = (nx, tp, R, Wn, Lg, a, b) ∧ v.2.2.2.2 = why ∧ Fp K c v.2.2.1.1 v.2.2.1.2.2.1 v.2.2.1.2.2.2.1 v.2.2.1.2.2.2.2.1 ∧ v.2.2.1.2.1 = tp ∧ v.2.2.2.1.length ≤ k ∧ (k = 0 → v.2.2.1.1 = nx ∧ v.2.2.1.2.2.2.2.2 = (a, b)) ∧ (0 < k → nx ≤ hi ∧ nx < v.2.2.1.1) ∧
      ∃ j, j + k = Wn.length + 2 ∧ (v.2.2.1.1 ≤ hi → v.2.2.1.2.2.2.1.length + 1 ≤ j) ∧ skR hi why j v.2.2.1.1 v.2.2.1.2.2.1 v.2.2.1.2.2.2.1 v.2.2.1.2.2.2.2.1 v.2.2.2.1 = T) (Wn.length + 2)
    (fun r : Fd × Fd × Fd × List Sp => r.1 = (nx, tp, R, Wn, Lg, a, b) ∧ r.2.2.2 = T.1 ∧ r.2.2.1.1 = T.2.1 ∧ r.2.2.1.2.1 = tp ∧ r.2.2.1.2.2.1 = T.2.2.1 ∧ r.2.2.1.2.2.2.1 = T.2.2.2.1 ∧ r.2.2.1.2.2.2.2.1 = T.2.2.2.2 ∧ (nx ≤ hi → nx < T.2.1) ∧ (¬ nx ≤ hi → T.2.1 = nx ∧ r.2.2.1.2.2.2.2.2 = (a, b))) ⟨rfl, rfl, h, rfl, by simp, fun _ => ⟨rfl, rfl⟩, fun q => by omega, Wn.length + 2, rfl, fun _ => by simp, hT⟩ (by omega) ?_ (fun k v h => by obtain ⟨j, h1, _⟩ := h.2.2.2.2.2.2.2; omega) ?_
  · rintro ⟨f0, z, ⟨n', t', R', W', L', a', b'⟩, o⟩ ⟨e0, e1, e2, e3, e4, e5, e6, e7, e8⟩
    cases e0
    simp only at e1 e2 e3 e4 e5 e6 e7 e8 ⊢
    subst e1 e2 e3 e4 e5 e6
    by_cases q : nx ≤ hi
    · have := e7 q
      rw [dT (by omega), cnd_t, pStart, obind_s, if_pos q]
    · obtain ⟨e9, e10⟩ := e8 q
      rw [dF (by omega), cnd_f, if_neg q, e10]
  · rintro k ⟨f0, z, ⟨n', t', R', W', L', a', b'⟩, o, wy⟩ ⟨e0, e1, hf, e2, hol, hk0, hk1, j, hj, hw, hq⟩
    simp only at e0 e1 e2 hf hol hk0 hk1 hw hq ⊢
    subst e0 e1 e2
    obtain ⟨l1, l2, l3⟩ := hf.lens hK
    have hnx := hf.nx
    by_cases cn : n' ≤ hi
    case neg =>
      right
      rw [dF cn, cnd_f]
      rw [skR_stop cn] at hq
      subst hq
      refine ⟨_, rfl, rfl, rfl, rfl, rfl, rfl, rfl, rfl, fun q => by simp only; omega, fun q => ?_⟩
      have : k = 0 := by
        apply Classical.byContradiction
        intro q2
        have := hk1 (by omega)
        omega
      exact hk0 this
    left
    have hni : nx ≤ hi ∧ nx ≤ n' := by
      by_cases k0 : k = 0
      · have := hk0 k0; omega
      · have := hk1 (by omega); omega
    have hw := hw cn
    obtain ⟨j, rfl⟩ : ∃ i, j = i + 1 := ⟨j - 1, by omega⟩
    unfold skR at hq
    rw [if_pos cn] at hq
    rw [dT cn, cnd_t]
    -- where nothing is ahead
    have far : Wk (hi + 1) (min K (n' + 7)) W' → skR hi wy j (hi + 1) R' W' (L' ++ [(2, n', hi, [], wy)]) (o ++ [(n', hi)]) = T → (∃ y : Fd × Fd × Fd × List Sp × Int, (obind (W_log_Skip N (L', n', hi, wy)) fun (b_1 : List Ev) => cnd (decide ((List.length o + List.length [(n', hi)]) * (16 : Nat) ≤ (140737488355328 : Nat))) (some (Sum.inl (((nx, t', R, Wn, Lg, a, b) : Fd), z, ((wr .i64 (hi + 1), t', R', W', b_1, a', b') : Fd), o ++ [(n', hi)], wy))) none) = some (.inl y : (Fd × Fd × Fd × List Sp × Int) ⊕ (Fd × Fd × Fd × List Sp)) ∧ y.1 = (nx, t', R, Wn, Lg, a, b) ∧ y.2.2.2.2 = wy ∧ Fp K c y.2.2.1.1 y.2.2.1.2.2.1 y.2.2.1.2.2.2.1 y.2.2.1.2.2.2.2.1 ∧ y.2.2.1.2.1 = t' ∧ y.2.2.2.1.length ≤ k + 1 ∧ (k + 1 = 0 → y.2.2.1.1 = nx ∧ y.2.2.1.2.2.2.2.2 = (a, b)) ∧ (0 < k + 1 → nx ≤ hi ∧ nx < y.2.2.1.1) ∧
      ∃ j, j + (k + 1) = Wn.length + 2 ∧ (y.2.2.1.1 ≤ hi → y.2.2.1.2.2.2.1.length + 1 ≤ j) ∧ skR hi wy j y.2.2.1.1 y.2.2.1.2.2.1 y.2.2.1.2.2.2.1 y.2.2.1.2.2.2.2.1 y.2.2.2.1 = T) := by
      intro hwk hq
      rw [pSkip N L' n' hi wy (by omega), obind_s, cnd_T (by simp only [List.length_cons, List.length_nil]; omega), wr_m (by omega) (by omega)]
      exact ⟨_, rfl, rfl, rfl, hf.skip cn hh hwk, rfl, by simp only [List.length_append, List.length_cons, List.length_nil]; omega, fun q => by omega, fun _ => ⟨hni.1, by simp only; omega⟩, j, by omega, fun q => by simp only at q; omega, hq⟩
    cases W' with
    | nil =>
      rw [nFirst_nil N _ _ _ _ _ _ (by omega), obind_s, selim_r]
      exact far trivial hq
    | cons w r =>
      have hwk := hf.wk
      simp only [List.length_cons] at hw l1
      rw [nFirst_cons N _ _ _ _ _ _ _ _ (by omega) hwk.1, obind_s, selim_l]
      simp only at hq
      by_cases cf : w.1 ≤ hi
      case neg =>
        rw [dT (by omega), cnd_t]
        rw [if_neg cf] at hq
        exact far ⟨by omega, hwk.2⟩ hq
      rw [if_pos cf] at hq
      have hw1 := hwk.1
      rw [dF (by omega), cnd_f, wr_m (z := w.1 - 1) (by omega) (by omega)]
      -- a feed that has come to the first one
      have near : ∀ (Lq : List Ev) (oq : List Sp), Fp K c w.1 R' (w :: r) Lq → oq.length ≤ k + 1 → skR hi wy j (goM (w :: r) w.1 R' Lq).2.1 (goM (w :: r) w.1 R' Lq).2.2.1 (goM (w :: r) w.1 R' Lq).2.2.2.1 (goM (w :: r) w.1 R' Lq).2.2.2.2 oq = T → (∃ y : Fd × Fd × Fd × List Sp × Int, (obind (some (((nx, t', R, Wn, Lg, a, b) : Fd), z, ((w.1, t', R', w :: r, Lq, a', b') : Fd), oq, wy)) fun (b : Fd × Fd × Fd × List Sp × Int) => obind (W_nak_Goes N b.2.2.1) fun (b_1 : List It × Fd) => some (Sum.inl (b.1, b.2.1, b_1.2, b.2.2.2.1, b.2.2.2.2))) = some (.inl y : (Fd × Fd × Fd × List Sp × Int) ⊕ (Fd × Fd × Fd × List Sp)) ∧ y.1 = (nx, t', R, Wn, Lg, a, b) ∧ y.2.2.2.2 = wy ∧ Fp K c y.2.2.1.1 y.2.2.1.2.2.1 y.2.2.1.2.2.2.1 y.2.2.1.2.2.2.2.1 ∧ y.2.2.1.2.1 = t' ∧ y.2.2.2.1.length ≤ k + 1 ∧ (k + 1 = 0 → y.2.2.1.1 = nx ∧ y.2.2.1.2.2.2.2.2 = (a, b)) ∧ (0 < k + 1 → nx ≤ hi ∧ nx < y.2.2.1.1) ∧
        ∃ j, j + (k + 1) = Wn.length + 2 ∧ (y.2.2.1.1 ≤ hi → y.2.2.1.2.2.2.1.length + 1 ≤ j) ∧ skR hi wy j y.2.2.1.1 y.2.2.1.2.2.1 y.2.2.1.2.2.2.1 y.2.2.1.2.2.2.2.1 y.2.2.2.1 = T) := by
        intro Lq oq hF hoq hq
        rw [obind_s]
        try simp only
        rw [pGoes_eq N hN (f := (w.1, t', R', w :: r, Lq, a', b')) hF hK, obind_s]
        obtain ⟨g1, g2, g3, g4, _⟩ := goM_ok _ _ _ _ hF
        obtain ⟨g5, g6⟩ := goM_head (r := r) (R := R') (L := Lq) (rfl : w.1 = w.1)
        have g7 : 0 < (goM (w :: r) w.1 R' Lq).1.length := List.length_pos_iff.2 g5
        exact ⟨_, rfl, rfl, rfl, g1, rfl, hoq, fun q => by omega, fun _ => ⟨hni.1, by simp only [goesM]; omega⟩, j, by omega, fun q => by simp only [goesM]; omega, hq⟩
      by_cases cg : n' < w.1
      · rw [if_pos cg] at hq
        rw [dT cg, cnd_t, pSkip N L' n' (w.1 - 1) wy (by omega), obind_s, cnd_T (by simp only [List.length_cons, List.length_nil]; omega), wr_m (by omega) (by omega), show w.1 - 1 + 1 = w.1 by omega]
        refine near (L' ++ [(2, n', w.1 - 1, [], wy)]) (o ++ [(n', w.1 - 1)]) ?_ (by simp only [List.length_append, List.length_cons, List.length_nil]; omega) hq
        have := hf.skip (m := w.1 - 1) (why := wy) (by omega) (by omega) ⟨by omega, hwk.2⟩
        rwa [show w.1 - 1 + 1 = w.1 by omega] at this
      · rw [if_neg cg] at hq
        have e : n' = w.1 := by omega
        subst e
        rw [dF cg, cnd_f]
        exact near L' o hf (by omega) hq
theorem pWants_eq (N : Nat) {K c : Int} {f : Fd} (h0 : 0 ≤ f.1) (h : 1 ≤ f.1 → Fp K c f.1 f.2.2.1 f.2.2.2.1 f.2.2.2.2.1) (hz : f.1 = 0 → f.2.2.2.1 = []) (hK : K ≤ 10000000) : W_nak_Wants N f = some (wantsM f) := by
  obtain ⟨nx, tp, R, Wn, Lg, a, b⟩ := f
  unfold W_nak_Wants V_nak_Wants wantsM
  simp only at h hz h0 ⊢
  have key : ∀ hi : Int, (obind (some (((nx, tp, R, Wn, Lg, a, b) : Fd), ((0 : Int), (0 : Int)), nx, hi)) fun (b : Fd × (Int × Int) × Int × Int) => cnd (decide (b.1.1 < 1)) (some (false, (0 : Int), (0 : Int))) (cnd (decide (b.2.2.2 < b.2.2.1)) (some (false, (0 : Int), (0 : Int))) (some (true, b.2.2.1, b.2.2.2)))) = some (if nx = 0 ∨ hi < nx then (false, 0, 0) else (true, nx, hi)) := by
    intro hi
    rw [obind_s]
    try simp only
    by_cases c0 : nx = 0
    · rw [dT (by omega), cnd_t, if_pos (.inl c0)]
    rw [dF (by omega), cnd_f]
    by_cases q : hi < nx
    · rw [dT q, cnd_t, if_pos (.inr q)]
    · rw [dF q, cnd_f, if_neg (by omega)]
  cases Wn with
  | nil =>
    rw [nFirst_nil N _ _ _ _ _ _ h0, obind_s, selim_r]
    exact key tp
  | cons w r =>
    have hn : 1 ≤ nx := by
      have : nx ≠ 0 := fun q => by have := hz q; cases this
      omega
    have hwk := (h hn).wk
    have hnx := (h hn).nx
    have hw1 := hwk.1; have hw2 := hwk.2.1
    rw [nFirst_cons N _ _ _ _ _ _ _ _ hn hw1, obind_s, selim_l, wr_m (by omega) (by omega)]
    exact key (w.1 - 1)
theorem pNow_eq (N : Nat) (a : Int × Int) (now : Int) : W_wait_Now N (a, now) = some (nowM a now) := by
  obtain ⟨a, b⟩ := a
  unfold W_wait_Now V_wait_Now W_wait_read V_wait_read nowM
  try simp only
  by_cases q : a = 0
  · rw [dT q, cnd_t, obind_s, selim_r, if_pos q]
  · rw [dF q, cnd_f, obind_s, selim_l, if_neg q]
theorem pTired_eq (N : Nat) (a : Int × Int) : W_wait_Tired N a = some (decide (3 ≤ a.1)) := by
  obtain ⟨a, b⟩ := a
  unfold W_wait_Tired V_wait_Tired W_wait_read V_wait_read
  try simp only
  by_cases q : a = 0
  · rw [dT q, cnd_t, obind_s, selim_r, dF (by omega)]
  · rw [dF q, cnd_f, obind_s, selim_l]
theorem pTried_eq (N : Nat) (a : Int × Int) (now : Int) (h : 0 ≤ a.1) (h2 : a.1 ≤ 1000000) (hn : -100000000000000 ≤ now) (hn2 : now ≤ 100000000000000) : W_wait_Tried N (a, now) = some (triedM a now) := by
  obtain ⟨a, b⟩ := a
  unfold W_wait_Tried V_wait_Tried W_wait_read V_wait_read triedM
  simp only at h h2 ⊢
  by_cases q : a = 0
  · subst q
    rw [dT rfl, cnd_t, obind_s, selim_r, show wr .i64 (2 * 2 ^ 0) = 2 from wr_m (by decide) (by decide), wr_m (by omega) (by omega), wr_m (by omega) (by omega)]
    rfl
  · rw [dF q, cnd_f, obind_s, selim_l, dF (by omega), Bool.not_false, cnd_t]
    have e : min (Int.toNat (min (max a 0) 3)) 64 = min a.toNat 3 := by omega
    have hp : (2 : Int) * 2 ^ (min a.toNat 3) ≤ 16 ∧ 0 ≤ (2 : Int) * 2 ^ (min a.toNat 3) := by
      have hm : min a.toNat 3 ≤ 3 := by omega
      generalize min a.toNat 3 = m at hm ⊢
      have : m = 0 ∨ m = 1 ∨ m = 2 ∨ m = 3 := by omega
      rcases this with rfl | rfl | rfl | rfl <;> decide
    rw [e, wr_m (z := 2 * 2 ^ (min a.toNat 3)) (by omega) (by omega), wr_m (by omega) (by omega), wr_m (by omega) (by omega)]
theorem pRead0 (N : Nat) {f : Fd} (h : f.1 < 1) : W_feed_read N f = some (.inr ()) := by
  unfold W_feed_read V_feed_read
  rw [dT h, cnd_t]
theorem pRead1 (N : Nat) {f : Fd} (h : ¬ f.1 < 1) : W_feed_read N f = some (.inl f.1) := by
  unfold W_feed_read V_feed_read
  rw [dF h, cnd_f]
theorem pKnows_eq (N : Nat) (f : Fd) (t : Int) (ht : W_twin_Feed N f = some f) : W_feed_Knows N (f, t) = some (knowsM f t) := by
  have r0 := @pRead0 N f; have r1 := @pRead1 N f
  obtain ⟨nx, tp, R, Wn, Lg, a, b⟩ := f
  unfold W_feed_Knows V_feed_Knows knowsM
  simp only at r0 r1 ⊢
  rw [ht, obind_s]
  by_cases c1 : nx < 1
  · rw [r0 c1, obind_s, selim_r, if_neg (by omega)]
  · rw [r1 c1, obind_s, selim_l]
    by_cases c2 : t ≤ 1000000
    · rw [dT c2, cnd_t, if_pos ⟨by omega, c2⟩]
    · rw [dF c2, cnd_f, if_neg (fun q => c2 q.2)]
theorem pBegin_eq (N : Nat) (f : Fd) (n : Int) (ht : W_twin_Feed N f = some f) (hw : 0 < f.1 → knowsM f (wr .i64 (n - 1)) = knowsM f (n - 1)) : W_feed_Begin N (f, n) = some (beginM f n) := by
  have hk := pKnows_eq N f (wr .i64 (n - 1)) ht
  have r0 := @pRead0 N f; have r1 := @pRead1 N f
  obtain ⟨nx, tp, R, Wn, Lg, a, b⟩ := f
  unfold W_feed_Begin V_feed_Begin beginM
  simp only at r0 r1 hw ⊢
  by_cases c1 : nx < 1
  · rw [r0 c1, obind_s, selim_r, ht, obind_s, if_neg (by omega)]
    by_cases c2 : 1 ≤ n
    · rw [dT c2, cnd_t]
      by_cases c3 : n ≤ 1000000
      · rw [dT c3, cnd_t, if_pos ⟨c2, c3⟩]
      · rw [dF c3, cnd_f, if_neg (fun q => c3 q.2)]
    · rw [dF c2, cnd_f, if_neg (fun q => c2 q.1)]
  · rw [r1 c1, obind_s, selim_l, hk, obind_s, if_pos (by omega), hw (by omega)]
theorem pNotes_eq (N : Nat) (hN : 2000 ≤ N) {K c : Int} {f : Fd} (h : FI K c f) (hK : K ≤ 10000000) (lo hi : Int) (hh : hi ≤ 1000000 → hi ≤ K) : W_feed_Notes N (f, lo, hi) = some (notesM f lo hi) := by
  obtain ⟨k1, k2⟩ := h.knows hi hh
  have ht := h.twin N hK
  have hkn := pKnows_eq N f hi ht
  have h0 := h.n0
  have r0 := @pRead0 N f; have r1 := @pRead1 N f
  obtain ⟨nx, tp, R, Wn, Lg, a, b⟩ := f
  unfold W_feed_Notes V_feed_Notes notesM
  simp only at k2 h0 r0 r1 ⊢
  by_cases c0 : nx < 1
  · rw [r0 c0, obind_s, selim_r, cnd_t, obind_s]
    simp only [cnd_t]
    rw [ht, obind_s, if_pos (.inl (by omega))]
  rw [r1 c0, obind_s, selim_l]
  by_cases c1 : lo < 1
  · rw [dT c1, cnd_t, obind_s]
    simp only [cnd_t]
    rw [ht, obind_s, if_pos (.inr (.inl c1))]
  rw [dF c1, cnd_f, obind_s]
  try simp only
  by_cases c2 : hi < lo
  · rw [dT c2, cnd_t, ht, obind_s, if_pos (.inr (.inr (.inl c2)))]
  rw [dF c2, cnd_f]
  by_cases c3 : 1000000 < hi
  · rw [dT c3, cnd_t, ht, obind_s, if_pos (.inr (.inr (.inr c3)))]
  rw [dF c3, cnd_f, if_neg (by omega), hkn, obind_s]
  obtain ⟨g, hg⟩ : ∃ g, knowsM (nx, tp, R, Wn, Lg, a, b) hi = g := ⟨_, rfl⟩
  rw [hg] at k1 k2 ⊢
  by_cases c4 : nx < lo
  · rw [dT c4, cnd_t, if_pos (.inl c4)]
  rw [dF c4, cnd_f]
  by_cases c5 : hi < nx
  · rw [dT c5, cnd_t, if_pos (.inr c5)]
  rw [dF c5, cnd_f, if_neg (by omega)]
  have hg1 : 1 ≤ g.1 := by omega
  obtain ⟨s1, s2, s3⟩ := k1.skips hg1 hi 1 hh
  have e1 := pSkips_eq N hN (k1.twin N hK) k1.p hK hi 1 hh
  have e2 := pGoes_eq N hN (s1.p (by omega)) hK
  rw [e1, obind_s]
  show obind (W_nak_Goes N (skipsM g hi 1).2) _ = _
  rw [e2, obind_s]
theorem wants_le {K c : Int} {f : Fd} (h : FI K c f) (hw : (wantsM f).1 = true) : 1 ≤ f.1 ∧ (wantsM f).2.1 = f.1 ∧ f.1 ≤ (wantsM f).2.2 ∧ (wantsM f).2.2 ≤ K := by
  have h0 := h.n0; have hp := h.p; have htp := h.tp
  obtain ⟨nx, tp, R, Wn, Lg, a, b⟩ := f
  unfold wantsM at hw ⊢
  simp only at h0 hp htp hw ⊢
  cases Wn with
  | nil =>
    simp only at hw ⊢
    split at hw
    · cases hw
    · rename_i q
      rw [if_neg q]; exact ⟨by omega, rfl, by simp only; omega, by simp only; omega⟩
  | cons w r =>
    simp only at hw ⊢
    split at hw
    · cases hw
    · rename_i q
      rw [if_neg q]
      have := (hp (by omega)).wk.2.1
      exact ⟨by omega, rfl, by simp only; omega, by simp only; omega⟩
theorem pTick_eq (N : Nat) (hN : 2000 ≤ N) {K c : Int} {f : Fd} (h : FI K c f) (hK : K ≤ 1000000) (now : Int) (hn : -100000000000000 ≤ now) (hn2 : now ≤ 100000000000000) : W_feed_Tick N (f, now) = some (tickM f now) := by
  have hw := pWants_eq N h.n0 h.p (fun q => (h.z q).2.1) (by omega)
  have hwk := wants_le h
  have hnow := pNow_eq N f.2.2.2.2.2 now
  have htd := pTired_eq N f.2.2.2.2.2
  have ht := h.twin N (by omega)
  have htr := pTried_eq N f.2.2.2.2.2 now h.ask.1 (by have := h.ask; omega) hn hn2
  have hsk := fun hi hh => pSkips_eq N hN (hi := hi) (why := 2) ht h.p (by omega) hh
  have hfi := fun h1 hi hh => h.skips h1 hi 2 hh
  obtain ⟨nx, tp, R, Wn, Lg, a, b⟩ := f
  unfold W_feed_Tick V_feed_Tick tickM
  simp only at hnow htr hwk hfi htd ⊢
  rw [ht, obind_s, hw, obind_s]
  obtain ⟨s, hs⟩ : ∃ s, wantsM (nx, tp, R, Wn, Lg, a, b) = s := ⟨_, rfl⟩
  rw [hs] at hwk ⊢
  obtain ⟨q, s1, s2⟩ := s
  simp only at hwk ⊢
  cases q with
  | false => rw [Bool.not_false, cnd_t, if_pos (.inl rfl)]
  | true =>
    obtain ⟨w1, _, _, w2⟩ := hwk rfl
    rw [Bool.not_true, cnd_f, hnow, obind_s]
    cases hq : nowM (a, b) now with
    | false => rw [Bool.not_false, cnd_t, if_pos (.inr rfl)]
    | true =>
      rw [Bool.not_true, cnd_f, if_neg (by simp), htd, obind_s]
      by_cases c3 : 3 ≤ a
      · rw [dT c3, cnd_t, if_pos c3, hsk s2 (fun _ => by omega), obind_s]
        obtain ⟨g1, g2, _⟩ := hfi w1 s2 (fun _ => by omega)
        have e2 := pGoes_eq N hN (g1.p (by omega)) (by omega)
        show obind (W_nak_Goes N (skipsM (nx, tp, R, Wn, Lg, a, b) s2 2).2) _ = _
        rw [e2, obind_s]
      · rw [dF c3, cnd_f, if_neg c3, htr, obind_s]
def insN (x : Int) : List It → Nat
  | [] => 0
  | w :: r => if x < w.1 then 0 else insN x r + 1
theorem insN_eq (x : It) : ∀ l, List.take (insN x.1 l) l ++ ([x] ++ List.drop (insN x.1 l) l) = insW x l
  | [] => rfl
  | w :: r => by
    simp only [insN, insW]
    by_cases q : x.1 < w.1
    · rw [if_pos q, if_pos q]; rfl
    · rw [if_neg q, if_neg q]
      simp only [List.take_succ_cons, List.drop_succ_cons, List.cons_append]
      rw [← insN_eq x r]; rfl
theorem insN_le (x : Int) : ∀ l, insN x l ≤ l.length
  | [] => by simp [insN]
  | w :: r => by
    simp only [insN, List.length_cons]
    have := insN_le x r
    split <;> omega
theorem Wk.drop : ∀ {l : List It} {n K : Int}, Wk n K l → ∀ k, Wk n K (l.drop k)
  | l, _, _, h, 0 => by simpa using h
  | [], _, _, _, k + 1 => by simp; trivial
  | w :: r, n, K, h, k + 1 => (h.2.2.drop k).mono (by have := h.1; omega) (Int.le_refl _)
theorem pPlace_eq (N : Nat) (hN : 2000 ≤ N) (l : List It) (s n K : Int) (hw : Wk n K l) (hl : l.length ≤ 1000) : W_win_place N (l, s) = some (if (getF l s).2 = true then .inr () else .inl (insN s l : Int)) := by
  unfold W_win_place V_win_place
  try simp only
  refine loop_G (N := N) (fun o => o = some (if (getF l s).2 = true then (.inr () : Int ⊕ PUnit) else .inl (insN s l : Int))) (fun k (v : Int) => v = k ∧ k ≤ l.length ∧ getF (l.drop k) s = getF l s ∧ insN s (l.drop k) + k = insN s l) l.length (fun r : PUnit ⊕ Int ⊕ PUnit => (r = .inl () ∧ (getF l s).2 = false ∧ insN s l = l.length) ∨ (r = .inr (if (getF l s).2 = true then (.inr () : Int ⊕ PUnit) else .inl (insN s l : Int)))) ⟨rfl, by omega, rfl, by simp⟩ (by omega) ?_ (fun k v h => h.2.1) ?_
  · rintro r (⟨rfl, h, h2⟩ | rfl)
    · rw [selim_l, h, if_neg (by simp), h2]
    · rw [selim_r]
  · rintro k v ⟨e, hk, hg, hi⟩
    subst e
    by_cases c : (k : Int) < l.length
    case neg =>
      right
      rw [dF c, cnd_f]
      rw [List.drop_eq_nil_of_le (by omega)] at hg hi
      exact ⟨_, rfl, .inl ⟨rfl, by rw [← hg]; rfl, by simp only [insN] at hi; omega⟩⟩
    have hwd := hw.drop k
    rw [drop_consI (by omega)] at hg hi hwd
    simp only [getF, insN] at hg hi
    rw [dT c, cnd_t, dT (by omega), Bool.and_self, cnd_t, Int.toNat_natCast]
    by_cases c2 : (l.getD k iD).1 = s
    · right
      rw [if_pos c2] at hg
      rw [dT c2, cnd_t]
      exact ⟨_, rfl, .inr (by rw [← hg]; rfl)⟩
    rw [if_neg c2] at hg
    rw [dF c2, cnd_f]
    by_cases c3 : s < (l.getD k iD).1
    · right
      rw [if_pos c3] at hi
      rw [dT c3, cnd_t]
      have := getF_none hwd.2.2 s (by omega)
      rw [this] at hg
      refine ⟨_, rfl, .inr ?_⟩
      rw [← hg, if_neg (by simp)]
      congr 2; omega
    · left
      rw [if_neg c3] at hi
      rw [dF c3, cnd_f, wr_m (by omega) (by omega)]
      exact ⟨_, rfl, by omega, by omega, hg, by omega⟩
theorem pPut_eq (N : Nat) (hN : 2000 ≤ N) (l : List It) (n m K : Int) (x : It) (hw : Wk m K l) (hl : l.length ≤ 1000) (hn : 0 ≤ n) (hn2 : n ≤ 10000001) : W_win_Put N (l, n, x) = some (putM l n x) := by
  unfold W_win_Put V_win_Put putM
  try simp only
  rw [pCloneI N l (by omega), obind_s, pPlace_eq N hN l x.1 m K hw hl, obind_s]
  by_cases c1 : (getF l x.1).2 = true
  · rw [if_pos c1, selim_r, cnd_t, if_pos (.inr (.inr c1))]
  rw [if_neg c1, selim_l]
  by_cases c2 : x.1 < n
  · rw [dT c2, cnd_t, if_pos (.inl c2)]
  rw [dF c2, cnd_f, wr_m (by omega) (by omega)]
  by_cases c3 : n + 8 ≤ x.1
  · rw [dT c3, cnd_t, if_pos (.inr (.inl (by omega)))]
  rw [dF c3, cnd_f, if_neg (by rintro (q | q | q) <;> first | omega | exact c1 q)]
  have h1 := insN_le x.1 l
  unfold W_slices_Insert_api_Item
  try simp only
  rw [dT (by omega), dT (by omega), dT (by rfl), dT (by omega)]
  simp only [Bool.and_self, cnd_t, obind_s, Int.toNat_natCast]
  rw [insN_eq]
theorem rGet_eq (N : Nat) (l : List It) (s : Int) (hN : 2000 ≤ N) (hl : l.length ≤ 1000) : W_ref13_Get N (l, s) = some (getF l s) := by
  unfold W_ref13_Get V_ref13_Get
  try simp only
  refine loop_G (N := N) (fun o => o = some (getF l s)) (fun k (v : Int) => v = k ∧ k ≤ l.length ∧ getF (l.drop k) s = getF l s) l.length (fun r : PUnit ⊕ List UInt8 × Bool => (r = .inl () ∧ getF l s = ([], false)) ∨ r = .inr (getF l s)) ⟨rfl, by omega, rfl⟩ (by omega) ?_ (fun k v h => h.2.1) ?_
  · rintro r (⟨rfl, h⟩ | rfl)
    · rw [selim_l, h]
    · rw [selim_r]
  · rintro k v ⟨e, hk, hg⟩
    subst e
    by_cases c : (k : Int) < l.length
    case neg =>
      right
      rw [dF c, cnd_f]
      rw [List.drop_eq_nil_of_le (by omega)] at hg
      exact ⟨_, rfl, .inl ⟨rfl, hg.symm⟩⟩
    rw [drop_consI (by omega)] at hg
    simp only [getF] at hg
    rw [dT c, cnd_t, dT (by omega), Bool.and_self, cnd_t, Int.toNat_natCast]
    by_cases c2 : (l.getD k iD).1 = s
    · right
      rw [if_pos c2] at hg
      rw [dT c2, cnd_t, cnd_t]
      exact ⟨_, rfl, .inr (by rw [← hg])⟩
    · left
      rw [if_neg c2] at hg
      rw [dF c2, cnd_f, wr_m (by omega) (by omega)]
      exact ⟨_, rfl, by omega, by omega, hg⟩
theorem rPut_eq (N : Nat) (hN : 2000 ≤ N) (l : List It) (n : Int) (x : It) (hl : l.length ≤ 500) (hn : 0 ≤ n) (hn2 : n ≤ 10000001) (hx : 0 ≤ x.1) (hx2 : x.1 ≤ 10000000) : W_ref13_PutWin N (l, n, x) = some (putM l n x) := by
  unfold W_ref13_PutWin V_ref13_PutWin putM
  try simp only
  rw [rGet_eq N l x.1 hN (by omega), obind_s]
  by_cases c1 : x.1 < n
  · rw [dT c1, cnd_t, if_pos (.inl c1)]
  rw [dF c1, cnd_f, wr_m (by omega) (by omega)]
  by_cases c2 : 8 ≤ x.1 - n
  · rw [dT c2, cnd_t, if_pos (.inr (.inl c2))]
  rw [dF c2, cnd_f]
  cases hg : (getF l x.1).2 with
  | true => rw [cnd_t, if_pos (.inr (.inr rfl))]
  | false =>
    rw [cnd_f, if_neg (by rintro (q | q | q) <;> first | omega | cases q)]
    have hIl := insW_len x l
    refine loop_G (N := N) (fun o => o = some (insW x l, true)) (fun k (v : Bool × Int × It × List It) => v.2.1 = k ∧ k ≤ l.length ∧ v.2.2.1 = x ∧ ((v.1 = false ∧ v.2.2.2 ++ insW x (l.drop k) = insW x l) ∨ (v.1 = true ∧ v.2.2.2 ++ l.drop k = insW x l))) l.length
      (fun r : Bool × It × List It => r.2.1 = x ∧ ((r.1 = false ∧ r.2.2 ++ [x] = insW x l) ∨ (r.1 = true ∧ r.2.2 = insW x l))) ⟨rfl, by omega, rfl, .inl ⟨rfl, rfl⟩⟩ (by omega) ?_ (fun k v h => h.2.1) ?_
    · rintro ⟨p, y, o⟩ ⟨rfl, h⟩
      simp only at h ⊢
      rcases h with ⟨rfl, h⟩ | ⟨rfl, rfl⟩
      · have := congrArg List.length h
        rw [hIl, List.length_append] at this
        simp only [List.length_cons, List.length_nil] at this
        rw [Bool.not_false, cnd_t, cnd_T (by simp only [List.length_cons, List.length_nil]; omega)]
        rw [← h]
      · rw [Bool.not_true, cnd_f]
    · rintro k ⟨p, i, y, o⟩ ⟨e1, hk, rfl, h⟩
      simp only at e1 h ⊢
      subst e1
      by_cases c : (k : Int) < l.length
      case neg =>
        right
        rw [dF c, cnd_f]
        rw [List.drop_eq_nil_of_le (by omega)] at h
        refine ⟨_, rfl, rfl, ?_⟩
        rcases h with ⟨rfl, h⟩ | ⟨rfl, h⟩
        · exact .inl ⟨rfl, h⟩
        · rw [List.append_nil] at h; exact .inr ⟨rfl, h⟩
      left
      rw [drop_consI (by omega)] at h
      have hol : o.length ≤ l.length + 1 := by
        rcases h with ⟨_, h⟩ | ⟨_, h⟩ <;>
        · have := congrArg List.length h
          rw [hIl, List.length_append] at this
          omega
      rw [dT c, cnd_t, dT (show (0 : Int) ≤ (k : Int) by omega), Bool.and_self, cnd_t, Int.toNat_natCast, wr_m (by omega) (by omega)]
      rcases h with ⟨rfl, h⟩ | ⟨rfl, h⟩
      · rw [Bool.not_false, cnd_t]
        simp only [insW] at h
        by_cases c3 : y.1 < (l.getD k iD).1
        · rw [if_pos c3] at h
          rw [dT c3, cnd_t, cnd_T (by simp only [List.length_cons, List.length_nil]; omega), obind_s]
          simp only [cnd_t]
          refine ⟨_, cnd_T (by simp only [List.length_append, List.length_cons, List.length_nil]; omega), by simp only; omega, by omega, rfl, .inr ⟨rfl, ?_⟩⟩
          simp only [List.append_assoc]
          exact h
        · rw [if_neg c3] at h
          rw [dF c3, cnd_f, obind_s]
          simp only [cnd_t]
          refine ⟨_, cnd_T (by omega), by simp only; omega, by omega, rfl, .inl ⟨rfl, ?_⟩⟩
          simp only [List.append_assoc]
          exact h
      · rw [Bool.not_true, cnd_f, obind_s]
        simp only [cnd_t]
        refine ⟨_, cnd_T (by omega), by simp only; omega, by omega, rfl, .inr ⟨rfl, ?_⟩⟩
        simp only [List.append_assoc]
        exact h
theorem FI.put {K c : Int} {f : Fd} (h : FI K c f) (h1 : 1 ≤ f.1) (x : It) (hx : x.1 ≤ K) : FI K c (f.1, f.2.1, f.2.2.1, (putM f.2.2.2.1 f.1 x).1, f.2.2.2.2) := by
  have hp := h.p h1
  refine ⟨h.n0, h.tp, fun _ => ⟨hp.nx, hp.rk, hp.rl, ?_, hp.ch, hp.c0⟩, h.ask, fun q => by simp only at q; omega⟩
  try simp only
  unfold putM
  by_cases c1 : x.1 < f.1 ∨ 8 ≤ x.1 - f.1 ∨ (getF f.2.2.2.1 x.1).2 = true
  · rw [if_pos c1]; exact hp.wk
  · rw [if_neg c1]
    exact hp.wk.ins (by omega) (by omega) (by have : ¬ (getF f.2.2.2.1 x.1).2 = true := fun q => c1 (.inr (.inr q)); simpa using this)
theorem rComes_eq (N : Nat) (hN : 2000 ≤ N) {K c : Int} {f : Fd} (h : FI K c f) (hK : K ≤ 10000000) (x : It) (hx : x.1 ≤ 1000000 → x.1 ≤ K) : W_ref13_Comes N (f, x) = some (comesM f x) := by
  obtain ⟨k1, k2⟩ := h.knows x.1 hx
  have hkn := rKnows_eq N f x.1
  have h0 := h.n0
  obtain ⟨nx, tp, R, Wn, Lg, a, b⟩ := f
  unfold W_ref13_Comes V_ref13_Comes comesM
  simp only at k2 h0 ⊢
  by_cases c0 : nx = 0
  · rw [dT c0, cnd_t, obind_s]
    simp only [cnd_t, obind_s]
    rw [if_pos (.inl c0)]
  rw [dF c0, cnd_f, obind_s]
  try simp only
  by_cases c1 : x.1 < 1
  · rw [dT c1, cnd_t, obind_s]
    simp only [cnd_t]
    rw [if_pos (.inr (.inl c1))]
  rw [dF c1, cnd_f, obind_s]
  try simp only
  by_cases c2 : 1000000 < x.1
  · rw [dT c2, cnd_t, if_pos (.inr (.inr (.inl c2)))]
  rw [dF c2, cnd_f]
  by_cases c3 : (12 : Int) < x.2.length
  · rw [dT c3, cnd_t, if_pos (.inr (.inr (.inr c3)))]
  rw [dF c3, cnd_f, if_neg (by omega), hkn, obind_s]
  obtain ⟨g, hg⟩ : ∃ g, knowsM (nx, tp, R, Wn, Lg, a, b) x.1 = g := ⟨_, rfl⟩
  rw [hg] at k1 k2 ⊢
  have hg1 : 1 ≤ g.1 := by omega
  have hp := k1.p hg1
  have hn := hp.nx
  have hl := hp.lens hK
  have e1 := rPut_eq N hN g.2.2.2.1 g.1 x (by omega) (by omega) (by omega) (by omega) (by omega)
  have hF := k1.put hg1 x (hx (by omega))
  have e2 := rGoes_eq N hN (hF.p hg1) hK
  show obind (W_ref13_PutWin N (g.2.2.2.1, g.1, x)) _ = _
  rw [e1, obind_s]
  show obind (W_ref13_Goes N (g.1, g.2.1, g.2.2.1, (putM g.2.2.2.1 g.1 x).1, g.2.2.2.2)) _ = _
  rw [e2, obind_s]
theorem pComes_eq (N : Nat) (hN : 2000 ≤ N) {K c : Int} {f : Fd} (h : FI K c f) (hK : K ≤ 10000000) (x : It) (hx : x.1 ≤ 1000000 → x.1 ≤ K) : W_feed_Comes N (f, x) = some (comesM f x) := by
  obtain ⟨k1, k2⟩ := h.knows x.1 hx
  have ht := h.twin N hK
  have hkn := pKnows_eq N f x.1 ht
  have h0 := h.n0
  have r0 := @pRead0 N f; have r1 := @pRead1 N f
  obtain ⟨nx, tp, R, Wn, Lg, a, b⟩ := f
  unfold W_feed_Comes V_feed_Comes comesM
  simp only at k2 h0 r0 r1 ⊢
  by_cases c0 : nx < 1
  · rw [r0 c0, obind_s, selim_r, cnd_t, obind_s]
    simp only [cnd_t]
    rw [ht, obind_s, if_pos (.inl (by omega))]
  rw [r1 c0, obind_s, selim_l]
  by_cases c1 : x.1 < 1
  · rw [dT c1, cnd_t, obind_s]
    simp only [cnd_t]
    rw [ht, obind_s, if_pos (.inr (.inl c1))]
  rw [dF c1, cnd_f, obind_s]
  try simp only
  by_cases c2 : 1000000 < x.1
  · rw [dT c2, cnd_t, ht, obind_s, if_pos (.inr (.inr (.inl c2)))]
  rw [dF c2, cnd_f]
  by_cases c3 : (12 : Int) < x.2.length
  · rw [dT c3, cnd_t, ht, obind_s, if_pos (.inr (.inr (.inr c3)))]
  rw [dF c3, cnd_f, if_neg (by omega), hkn, obind_s]
  obtain ⟨g, hg⟩ : ∃ g, knowsM (nx, tp, R, Wn, Lg, a, b) x.1 = g := ⟨_, rfl⟩
  rw [hg] at k1 k2 ⊢
  have hg1 : 1 ≤ g.1 := by omega
  have hp := k1.p hg1
  have hn := hp.nx
  have hl := hp.lens hK
  have e1 := pPut_eq N hN g.2.2.2.1 g.1 _ _ x hp.wk (by omega) (by omega) (by omega)
  have hF := k1.put hg1 x (hx (by omega))
  have e2 := pGoes_eq N hN (hF.p hg1) hK
  show obind (W_win_Put N (g.2.2.2.1, g.1, x)) _ = _
  rw [e1, obind_s]
  show obind (W_nak_Goes N (g.1, g.2.1, g.2.2.1, (putM g.2.2.2.1 g.1 x).1, g.2.2.2.2)) _ = _
  rw [e2, obind_s]
theorem FI.notes {K c : Int} {f : Fd} (h : FI K c f) (lo hi : Int) (hh : hi ≤ 1000000 → hi ≤ K) : FI K c (notesM f lo hi) := by
  unfold notesM
  split
  · exact h
  rename_i q
  have hg := h.knows hi hh
  have h0 := h.n0
  split
  · exact hg.1
  · rename_i q2
    obtain ⟨a, b, _⟩ := hg.1.skips (by omega) hi 1 hh
    exact (a.goes (by omega)).1
theorem FI.comes {K c : Int} {f : Fd} (h : FI K c f) (x : It) (hx : x.1 ≤ 1000000 → x.1 ≤ K) : FI K c (comesM f x) := by
  unfold comesM
  split
  · exact h
  rename_i q
  have hg := h.knows x.1 hx
  have h0 := h.n0
  exact ((hg.1.put (by omega) x (hx (by omega))).goes (by simp only; omega)).1
theorem FI.tick {K c : Int} {f : Fd} (h : FI K c f) (now : Int) : FI K c (tickM f now).2.1 := by
  unfold tickM
  try simp only
  split
  · exact h
  rename_i q
  obtain ⟨w1, w2, w3, w4⟩ := wants_le h (by cases hq : (wantsM f).1 with | true => rfl | false => exact absurd (.inl hq) q)
  split
  · obtain ⟨a, b, _⟩ := h.skips w1 (wantsM f).2.2 2 (fun _ => w4)
    exact (a.goes (by omega)).1
  · have ha := h.ask
    exact ⟨h.n0, h.tp, h.p, ⟨by simp only [triedM]; omega, by simp only [triedM]; omega⟩, h.z⟩
theorem FI.begins {K c : Int} {f : Fd} (h : FI K c f) (n : Int) (hn : n ≤ 1000000 → n ≤ K) (hn2 : n - 1 ≤ 1000000 → n - 1 ≤ K) : ∃ c', FI K c' (beginM f n) ∧ (0 < f.1 → c' = c) ∧ (f.1 = 0 → c' = (beginM f n).1) := by
  have h0 := h.n0
  unfold beginM
  split
  · rename_i q
    exact ⟨c, (h.knows (n - 1) hn2).1, fun _ => rfl, fun q2 => by omega⟩
  · rename_i q
    have hz := h.z (by omega)
    split
    · rename_i q2
      have := hn q2.2
      refine ⟨n, ⟨by simp only; omega, h.tp, fun _ => ⟨⟨by simp only; omega, by simp only; omega⟩, ?_, ?_, ?_, ?_, by omega⟩, h.ask, fun q3 => by simp only at q3; omega⟩, fun q3 => by omega, fun _ => rfl⟩
      · simp only [hz.1]; trivial
      · simp only [hz.1]; simp
      · simp only [hz.2.1]; trivial
      · simp only [hz.2.2]; rfl
    · exact ⟨f.1, ⟨h.n0, h.tp, fun q3 => by omega, h.ask, h.z⟩, fun q3 => by omega, fun _ => rfl⟩
def Le (f g : Fd) : Prop := f.1 ≤ g.1 ∧ f.2.1 ≤ g.2.1 ∧ ∃ e, g.2.2.2.2.1 = f.2.2.2.2.1 ++ e
theorem Le.refl (f : Fd) : Le f f := ⟨Int.le_refl _, Int.le_refl _, [], by simp⟩
theorem Le.trans {f g h : Fd} (a : Le f g) (b : Le g h) : Le f h := by
  obtain ⟨a1, a2, e1, a3⟩ := a
  obtain ⟨b1, b2, e2, b3⟩ := b
  exact ⟨by omega, by omega, e1 ++ e2, by rw [b3, a3, List.append_assoc]⟩
theorem knows_Le (f : Fd) (t : Int) : Le f (knowsM f t) := by
  unfold knowsM
  split
  · exact ⟨Int.le_refl _, by simp only; omega, [], by simp⟩
  · exact Le.refl f
theorem goM_pre : ∀ (W : List It) (n : Int) (R : List It) (L : List Ev), n ≤ (goM W n R L).2.1 ∧ ∃ e, (goM W n R L).2.2.2.2 = L ++ e
  | [], n, R, L => ⟨Int.le_refl _, [], by simp [goM]⟩
  | w :: r, n, R, L => by
    by_cases c : w.1 = n
    · subst c
      rw [goM_eq]
      obtain ⟨a, e, b⟩ := goM_pre r (w.1 + 1) (addR R w) (L ++ [(1, w.1, w.1, w.2, 0)])
      exact ⟨by simp only; omega, (1, w.1, w.1, w.2, 0) :: e, by simp only; rw [b, List.append_assoc]; rfl⟩
    · rw [goM_ne c]; exact ⟨Int.le_refl _, [], by simp⟩
theorem goes_Le (f : Fd) : Le f (goesM f).2 := by
  obtain ⟨a, e, b⟩ := goM_pre f.2.2.2.1 f.1 f.2.2.1 f.2.2.2.2.1
  exact ⟨a, Int.le_refl _, e, b⟩
theorem skR_pre (hi why : Int) : ∀ (j : Nat) (n : Int) (R W : List It) (L : List Ev) (o : List Sp), n ≤ (skR hi why j n R W L o).2.1 ∧ ∃ e, (skR hi why j n R W L o).2.2.2.2 = L ++ e
  | 0, n, R, W, L, o => ⟨Int.le_refl _, [], by simp [skR]⟩
  | j + 1, n, R, W, L, o => by
    unfold skR
    split
    case isFalse => exact ⟨Int.le_refl _, [], by simp⟩
    rename_i c
    cases W with
    | nil =>
      obtain ⟨a, e, b⟩ := skR_pre hi why j (hi + 1) R [] (L ++ [(2, n, hi, [], why)]) (o ++ [(n, hi)])
      exact ⟨by simp only; omega, _, by simp only; rw [b, List.append_assoc]⟩
    | cons w r =>
      try simp only
      split
      · split
        · obtain ⟨a1, e1, b1⟩ := goM_pre (w :: r) w.1 R (L ++ [(2, n, w.1 - 1, [], why)])
          obtain ⟨a, e, b⟩ := skR_pre hi why j (goM (w :: r) w.1 R (L ++ [(2, n, w.1 - 1, [], why)])).2.1 (goM (w :: r) w.1 R (L ++ [(2, n, w.1 - 1, [], why)])).2.2.1 (goM (w :: r) w.1 R (L ++ [(2, n, w.1 - 1, [], why)])).2.2.2.1 (goM (w :: r) w.1 R (L ++ [(2, n, w.1 - 1, [], why)])).2.2.2.2 (o ++ [(n, w.1 - 1)])
          exact ⟨by omega, _, by rw [b, b1, List.append_assoc, List.append_assoc]⟩
        · obtain ⟨a1, e1, b1⟩ := goM_pre (w :: r) n R L
          obtain ⟨a, e, b⟩ := skR_pre hi why j (goM (w :: r) n R L).2.1 (goM (w :: r) n R L).2.2.1 (goM (w :: r) n R L).2.2.2.1 (goM (w :: r) n R L).2.2.2.2 o
          exact ⟨by omega, _, by rw [b, b1, List.append_assoc]⟩
      · obtain ⟨a, e, b⟩ := skR_pre hi why j (hi + 1) R (w :: r) (L ++ [(2, n, hi, [], why)]) (o ++ [(n, hi)])
        exact ⟨by omega, _, by rw [b, List.append_assoc]⟩
theorem skips_Le (f : Fd) (hi why : Int) : Le f (skipsM f hi why).2 := by
  unfold skipsM
  split
  · exact Le.refl f
  · obtain ⟨a, e, b⟩ := skR_pre hi why (f.2.2.2.1.length + 2) f.1 f.2.2.1 f.2.2.2.1 f.2.2.2.2.1 []
    exact ⟨a, Int.le_refl _, e, b⟩
theorem notes_Le (f : Fd) (lo hi : Int) : Le f (notesM f lo hi) := by
  unfold notesM
  split
  · exact Le.refl f
  · simp only
    split
    · exact knows_Le f hi
    · exact ((knows_Le f hi).trans (skips_Le _ _ _)).trans (goes_Le _)
theorem comes_Le (f : Fd) (x : It) : Le f (comesM f x) := by
  unfold comesM
  split
  · exact Le.refl f
  · exact ((knows_Le f x.1).trans ⟨Int.le_refl _, Int.le_refl _, [], by simp⟩).trans (goes_Le _)
theorem tick_Le (f : Fd) (now : Int) : Le f (tickM f now).2.1 := by
  unfold tickM
  try simp only
  split
  · exact Le.refl f
  · split
    · exact (skips_Le _ _ _).trans (goes_Le _)
    · exact ⟨Int.le_refl _, Int.le_refl _, [], by simp⟩
theorem begin_Le (f : Fd) (n : Int) (h0 : 0 ≤ f.1) : Le f (beginM f n) := by
  unfold beginM
  split
  · exact knows_Le f _
  · split
    · exact ⟨by simp only; omega, Int.le_refl _, [], by simp⟩
    · exact Le.refl f
def txt (d : Int) : List UInt8 := List.getD [[], [(97 : UInt8)], [(98 : UInt8), (99 : UInt8)], [(104 : UInt8), (101 : UInt8), (108 : UInt8), (108 : UInt8), (111 : UInt8)], [(116 : UInt8), (104 : UInt8), (105 : UInt8), (114 : UInt8), (116 : UInt8), (101 : UInt8), (101 : UInt8), (110 : UInt8), (32 : UInt8), (98 : UInt8), (121 : UInt8), (116 : UInt8), (101 : UInt8)]] (Int.toNat (d % 5)) []
def nearM (f : Fd) (d : Int) : Int := max 1 (f.1 - 2 + d % 12)
def deedM (f : Fd) (d : Int × Int × Int) (now : Int) : Fd :=
  if d.1 % 8 = 0 then beginM f (nearM f d.2.1)
  else if d.1 % 8 = 1 then notesM f (nearM f d.2.1) (nearM f d.2.1 + d.2.2 % 6 - 1)
  else if d.1 % 8 = 2 then knowsM f (nearM f d.2.1)
  else if d.1 % 8 = 3 ∨ d.1 % 8 = 4 then (tickM f now).2.1
  else comesM f (nearM f d.2.1, txt d.2.2)
def by3 (d : Int × Int × Int) : Prop := (0 ≤ d.1 ∧ d.1 ≤ 255) ∧ (0 ≤ d.2.1 ∧ d.2.1 ≤ 255) ∧ (0 ≤ d.2.2 ∧ d.2.2 ≤ 255)
theorem deed_Le (f : Fd) (d : Int × Int × Int) (now : Int) (h0 : 0 ≤ f.1) : Le f (deedM f d now) := by
  unfold deedM
  split; · exact begin_Le f _ h0
  split; · exact notes_Le f _ _
  split; · exact knows_Le f _
  split; · exact tick_Le f _
  exact comes_Le f _
theorem FI.deed {c : Int} {f : Fd} (h : FI 1000000 c f) (d : Int × Int × Int) (now : Int) : ∃ c', FI 1000000 c' (deedM f d now) ∧ (0 < f.1 → c' = c) ∧ (f.1 = 0 → c' = (deedM f d now).1 ∨ c' = c ∧ (deedM f d now).1 = 0) := by
  have h0 := h.n0
  unfold deedM
  split
  · obtain ⟨c', a, b, e⟩ := h.begins (nearM f d.2.1) (fun q => q) (fun q => q)
    exact ⟨c', a, b, fun q => .inl (e q)⟩
  have hs : ∀ g, FI 1000000 c g → (f.1 = 0 → g.1 = 0) → ∃ c', FI 1000000 c' g ∧ (0 < f.1 → c' = c) ∧ (f.1 = 0 → c' = g.1 ∨ c' = c ∧ g.1 = 0) := fun g hg h2 => ⟨c, hg, fun _ => rfl, fun q => .inr ⟨rfl, h2 q⟩⟩
  split; · exact hs _ (h.notes _ _ (fun q => q)) (fun q => by unfold notesM; rw [if_pos (.inl q)]; exact q)
  split; · exact hs _ (h.knows _ (fun q => q)).1 (fun q => by rw [(h.knows _ (fun q => q)).2]; exact q)
  split; · exact hs _ (h.tick _) (fun q => by
    unfold tickM
    have : (wantsM f).1 = false := by
      unfold wantsM
      try simp only
      rw [if_pos (.inl q)]
    try simp only
    rw [if_pos (.inl this)]
    exact q)
  exact hs _ (h.comes _ (fun q => q)) (fun q => by unfold comesM; rw [if_pos (.inl q)]; exact q)
theorem tm (x k : Int) (h : 0 ≤ x) : Int.tmod x k = x % k := Int.tmod_eq_emod_of_nonneg h
theorem FI.lens {K c : Int} {f : Fd} (h : FI K c f) (hK : K ≤ 10000000) : f.2.2.1.length ≤ 6 ∧ f.2.2.2.1.length ≤ 8 ∧ f.2.2.2.2.1.length ≤ 10000001 := by
  by_cases q : 1 ≤ f.1
  · obtain ⟨a, b, _⟩ := (h.p q).lens hK
    exact ⟨(h.p q).rl, a, b⟩
  · obtain ⟨a, b, e⟩ := h.z (by have := h.n0; omega)
    rw [a, b, e]; simp
theorem FI.nx {K c : Int} {f : Fd} (h : FI K c f) (hK : 0 ≤ K) : 0 ≤ f.1 ∧ f.1 ≤ K + 1 := by
  refine ⟨h.n0, ?_⟩
  by_cases q : 1 ≤ f.1
  · exact (h.p q).nx.2
  · omega
theorem deed_eq (N : Nat) (hN : 2000 ≤ N) {c : Int} {f : Fd} (h : FI 1000000 c f) (d : Int × Int × Int) (hd : by3 d) (now : Int) (hn : 0 ≤ now) (hn2 : now ≤ 1000000) : W_law18_deed N (f, f, d, now) = some (true, deedM f d now, deedM f d now) := by
  obtain ⟨⟨d1, d2⟩, ⟨d3, d4⟩, d5, d6⟩ := hd
  obtain ⟨n1, n2⟩ := h.nx (by omega)
  have ht := h.twin N (by omega)
  unfold W_law18_deed V_law18_deed deedM
  try simp only
  rw [tm _ _ d1, tm _ _ d3, tm _ 5 d5, tm _ 6 d5]
  have w1 : wr .i64 (f.1 - 2) = f.1 - 2 := wr_m (by omega) (by omega)
  have w2 : wr .i64 (d.2.1 % 12) = d.2.1 % 12 := wr_m (by omega) (by omega)
  have w3 : wr .i64 (f.1 - 2 + d.2.1 % 12) = f.1 - 2 + d.2.1 % 12 := wr_m (by omega) (by omega)
  have w4 : wr .i64 (d.2.2 % 6) = d.2.2 % 6 := wr_m (by omega) (by omega)
  rw [w1, w2, w3, w4]
  have hnear : max 1 (f.1 - 2 + d.2.1 % 12) = nearM f d.2.1 := rfl
  have hnb : 1 ≤ nearM f d.2.1 ∧ nearM f d.2.1 ≤ 2000000 := by unfold nearM; omega
  rw [hnear]
  have w5 : wr .i64 (nearM f d.2.1 + d.2.2 % 6) = nearM f d.2.1 + d.2.2 % 6 := wr_m (by omega) (by omega)
  have w6 : wr .i64 (nearM f d.2.1 + d.2.2 % 6 - 1) = nearM f d.2.1 + d.2.2 % 6 - 1 := wr_m (by omega) (by omega)
  rw [w5, w6, dT (by omega), cnd_t, dT (by omega), cnd_t]
  by_cases c0 : d.1 % 8 = 0
  · have hw : 0 < f.1 → knowsM f (wr .i64 (nearM f d.2.1 - 1)) = knowsM f (nearM f d.2.1 - 1) := fun _ => by rw [wr_m (by omega) (by omega)]
    have e1 := pBegin_eq N f (nearM f d.2.1) ht hw
    have e2 := rBegin_eq N f (nearM f d.2.1) hw
    rw [dT c0, cnd_t, if_pos c0]
    show obind (W_feed_Begin N (f, _)) _ = _
    rw [e1, obind_s]
    show obind (W_ref13_Begin N (f, _)) _ = _
    rw [e2, obind_s]
  rw [dF c0, cnd_f, if_neg c0]
  by_cases c1 : d.1 % 8 = 1
  · have e1 := pNotes_eq N hN h (by omega) (nearM f d.2.1) (nearM f d.2.1 + d.2.2 % 6 - 1) (fun q => q)
    have e2 := rNotes_eq N hN h (by omega) (nearM f d.2.1) (nearM f d.2.1 + d.2.2 % 6 - 1) (fun q => q)
    rw [dT c1, cnd_t, if_pos c1]
    show obind (W_feed_Notes N (f, _)) _ = _
    rw [e1, obind_s]
    show obind (W_ref13_Notes N (f, _)) _ = _
    rw [e2, obind_s]
  rw [dF c1, cnd_f, if_neg c1]
  by_cases c2 : d.1 % 8 = 2
  · have e1 := pKnows_eq N f (nearM f d.2.1) ht
    have e2 := rKnows_eq N f (nearM f d.2.1)
    rw [dT c2, cnd_t, if_pos c2]
    show obind (W_feed_Knows N (f, _)) _ = _
    rw [e1, obind_s]
    show obind (W_ref13_Knows N (f, _)) _ = _
    rw [e2, obind_s]
  rw [dF c2, cnd_f, if_neg c2]
  have e1 := pTick_eq N hN h (by omega) now (by omega) (by omega)
  have e2 := rTick_eq N hN h (by omega) now (by omega) (by omega)
  have e3 := pComes_eq N hN h (by omega) (nearM f d.2.1, txt d.2.2) (fun q => q)
  have e4 := rComes_eq N hN h (by omega) (nearM f d.2.1, txt d.2.2) (fun q => q)
  by_cases c3 : d.1 % 8 = 3
  · rw [dT c3, cnd_t, obind_s]
    simp only [cnd_t]
    rw [if_pos (.inl c3)]
    show obind (W_feed_Tick N (f, now)) _ = _
    rw [e1, obind_s]
    show obind (W_ref13_Tick N (f, now)) _ = _
    rw [e2, obind_s]
    simp only [decide_true, Bool.and_self, cnd_t, beq_self_eq_true]
  rw [dF c3, cnd_f, obind_s]
  try simp only
  by_cases c4 : d.1 % 8 = 4
  · rw [dT c4, cnd_t, if_pos (.inr c4)]
    show obind (W_feed_Tick N (f, now)) _ = _
    rw [e1, obind_s]
    show obind (W_ref13_Tick N (f, now)) _ = _
    rw [e2, obind_s]
    simp only [decide_true, Bool.and_self, cnd_t, beq_self_eq_true]
  rw [dF c4, cnd_f, if_neg (by omega)]
  show obind (W_feed_Comes N (f, nearM f d.2.1, txt d.2.2)) _ = _
  rw [e3, obind_s]
  show obind (W_ref13_Comes N (f, nearM f d.2.1, txt d.2.2)) _ = _
  rw [e4, obind_s]
theorem FI_z7 : FI 1000000 0 z7 := ⟨by decide, ⟨by decide, by decide⟩, fun q => by simp [z7] at q, ⟨by decide, by decide⟩, fun _ => ⟨rfl, rfl, rfl⟩⟩
structure FA (P : It → Prop) (Q : Ev → Prop) (f : Fd) : Prop where
  w : ∀ x ∈ f.2.2.2.1, P x
  r : ∀ x ∈ f.2.2.1, P x
  l : ∀ e ∈ f.2.2.2.2.1, Q e
theorem addR_all {P : It → Prop} {R : List It} {w : It} (h : ∀ x ∈ R, P x) (hw : P w) : ∀ x ∈ addR R w, P x := by
  intro x hx
  have : x ∈ R ++ [w] := by
    unfold addR at hx
    split at hx
    · exact List.mem_of_mem_drop hx
    · exact hx
  rcases List.mem_append.1 this with h1 | h1
  · exact h x h1
  · rw [List.mem_singleton.1 h1]; exact hw
theorem goM_all {P : It → Prop} {Q : Ev → Prop} (hPQ : ∀ w : It, P w → Q (1, w.1, w.1, w.2, 0)) : ∀ (W : List It) (n : Int) (R : List It) (L : List Ev), (∀ x ∈ W, P x) → (∀ x ∈ R, P x) → (∀ e ∈ L, Q e) →
    (∀ x ∈ (goM W n R L).2.2.2.1, P x) ∧ (∀ x ∈ (goM W n R L).2.2.1, P x) ∧ (∀ e ∈ (goM W n R L).2.2.2.2, Q e)
  | [], n, R, L, h1, h2, h3 => ⟨h1, h2, h3⟩
  | w :: r, n, R, L, h1, h2, h3 => by
    have hw := h1 w (by simp)
    by_cases c : w.1 = n
    · subst c
      rw [goM_eq]
      exact goM_all hPQ r _ _ _ (fun x hx => h1 x (by simp [hx])) (addR_all h2 hw) (fun e he => by
        rcases List.mem_append.1 he with he | he
        · exact h3 e he
        · rw [List.mem_singleton.1 he]; exact hPQ w hw)
    · rw [goM_ne c]; exact ⟨h1, h2, h3⟩
theorem skR_all {P : It → Prop} {Q : Ev → Prop} (hPQ : ∀ w : It, P w → Q (1, w.1, w.1, w.2, 0)) (hi why : Int) : ∀ (j : Nat) (n : Int) (R W : List It) (L : List Ev) (o : List Sp), (∀ a b, n ≤ a → a ≤ b → b ≤ hi → Q (2, a, b, [], why)) → (∀ x ∈ W, P x) → (∀ x ∈ R, P x) → (∀ e ∈ L, Q e) →
    (∀ x ∈ (skR hi why j n R W L o).2.2.2.1, P x) ∧ (∀ x ∈ (skR hi why j n R W L o).2.2.1, P x) ∧ (∀ e ∈ (skR hi why j n R W L o).2.2.2.2, Q e)
  | 0, n, R, W, L, o, _, h1, h2, h3 => ⟨h1, h2, h3⟩
  | j + 1, n, R, W, L, o, hQ, h1, h2, h3 => by
    have snoc : ∀ a b, n ≤ a → a ≤ b → b ≤ hi → ∀ e ∈ L ++ [(2, a, b, [], why)], Q e := fun a b ha hb hc e he => by
      rcases List.mem_append.1 he with he | he
      · exact h3 e he
      · rw [List.mem_singleton.1 he]; exact hQ a b ha hb hc
    unfold skR
    split
    case isFalse => exact ⟨h1, h2, h3⟩
    rename_i c
    cases W with
    | nil => exact skR_all hPQ hi why j _ _ _ _ _ (fun a b ha hb hc => by omega) h1 h2 (snoc _ _ (by omega) (by omega) (by omega))
    | cons w r =>
      try simp only
      split
      · split
        · obtain ⟨a1, a2, a3⟩ := goM_all hPQ (w :: r) w.1 R _ h1 h2 (snoc n (w.1 - 1) (by omega) (by omega) (by omega))
          obtain ⟨b1, _⟩ := goM_pre (w :: r) w.1 R (L ++ [(2, n, w.1 - 1, [], why)])
          exact skR_all hPQ hi why j _ _ _ _ _ (fun a b ha hb hc => hQ a b (by omega) hb hc) a1 a2 a3
        · obtain ⟨a1, a2, a3⟩ := goM_all hPQ (w :: r) n R L h1 h2 h3
          obtain ⟨b1, _⟩ := goM_pre (w :: r) n R L
          exact skR_all hPQ hi why j _ _ _ _ _ (fun a b ha hb hc => hQ a b (by omega) hb hc) a1 a2 a3
      · exact skR_all hPQ hi why j _ _ _ _ _ (fun a b ha hb hc => by omega) h1 h2 (snoc _ _ (by omega) (by omega) (by omega))
theorem FA.knows {P : It → Prop} {Q : Ev → Prop} {f : Fd} (h : FA P Q f) (t : Int) : FA P Q (knowsM f t) := by
  unfold knowsM
  split
  · exact ⟨h.w, h.r, h.l⟩
  · exact h
theorem FA.goes {P : It → Prop} {Q : Ev → Prop} (hPQ : ∀ w : It, P w → Q (1, w.1, w.1, w.2, 0)) {f : Fd} (h : FA P Q f) : FA P Q (goesM f).2 := by
  obtain ⟨a, b, c⟩ := goM_all hPQ _ f.1 _ _ h.w h.r h.l
  exact ⟨a, b, c⟩
theorem FA.skips {P : It → Prop} {Q : Ev → Prop} (hPQ : ∀ w : It, P w → Q (1, w.1, w.1, w.2, 0)) {f : Fd} (h : FA P Q f) (hi why : Int) (hQ : ∀ a b, f.1 ≤ a → a ≤ b → b ≤ hi → Q (2, a, b, [], why)) : FA P Q (skipsM f hi why).2 := by
  unfold skipsM
  split
  · exact h
  · obtain ⟨a, b, c⟩ := skR_all hPQ hi why (f.2.2.2.1.length + 2) f.1 _ _ _ [] hQ h.w h.r h.l
    exact ⟨a, b, c⟩
theorem insW_mem (x : It) : ∀ (l : List It) (w : It), w ∈ insW x l → w = x ∨ w ∈ l
  | [], w, h => by simp [insW] at h; exact .inl h
  | y :: r, w, h => by
    simp only [insW] at h
    split at h
    · rcases List.mem_cons.1 h with h | h
      · exact .inl h
      · exact .inr h
    · rcases List.mem_cons.1 h with h | h
      · exact .inr (by simp [h])
      · rcases insW_mem x r w h with h | h
        · exact .inl h
        · exact .inr (by simp [h])
theorem FA.put {P : It → Prop} {Q : Ev → Prop} {f : Fd} (h : FA P Q f) (x : It) (hx : P x) : FA P Q (f.1, f.2.1, f.2.2.1, (putM f.2.2.2.1 f.1 x).1, f.2.2.2.2) := by
  refine ⟨fun w hw => ?_, h.r, h.l⟩
  simp only at hw
  unfold putM at hw
  split at hw
  · exact h.w w hw
  · rcases insW_mem x _ w hw with rfl | hw
    · exact hx
    · exact h.w w hw
theorem FA.notes {P : It → Prop} {Q : Ev → Prop} (hPQ : ∀ w : It, P w → Q (1, w.1, w.1, w.2, 0)) {f : Fd} (h : FA P Q f) (lo hi : Int) (hQ : ∀ a b, f.1 ≤ a → a ≤ b → b ≤ hi → lo ≤ a → Q (2, a, b, [], 1)) : FA P Q (notesM f lo hi) := by
  unfold notesM
  split
  · exact h
  · simp only
    split
    · exact h.knows hi
    · rename_i q1 q2
      refine ((h.knows hi).skips hPQ hi 1 (fun a b ha hb hc => ?_)).goes hPQ
      have : (knowsM f hi).1 = f.1 := by unfold knowsM; split <;> rfl
      rw [this] at ha
      exact hQ a b ha hb hc (by omega)
theorem FA.comes {P : It → Prop} {Q : Ev → Prop} (hPQ : ∀ w : It, P w → Q (1, w.1, w.1, w.2, 0)) {f : Fd} (h : FA P Q f) (x : It) (hx : (1 ≤ x.1 ∧ x.1 ≤ 1000000 ∧ x.2.length ≤ 12) → P x) : FA P Q (comesM f x) := by
  unfold comesM
  split
  · exact h
  · rename_i q
    exact ((h.knows x.1).put x (hx ⟨by omega, by omega, by omega⟩)).goes hPQ
theorem FA.tick {P : It → Prop} {Q : Ev → Prop} (hPQ : ∀ w : It, P w → Q (1, w.1, w.1, w.2, 0)) {f : Fd} (h : FA P Q f) (now : Int) (hQ : 3 ≤ f.2.2.2.2.2.1 → ∀ a b, f.1 ≤ a → a ≤ b → Q (2, a, b, [], 2)) : FA P Q (tickM f now).2.1 := by
  unfold tickM
  try simp only
  split
  · exact h
  · split
    · rename_i q
      exact (h.skips hPQ _ 2 (fun a b ha hb _ => hQ q a b ha hb)).goes hPQ
    · exact ⟨h.w, h.r, h.l⟩
theorem FA.begins {P : It → Prop} {Q : Ev → Prop} {f : Fd} (h : FA P Q f) (n : Int) : FA P Q (beginM f n) := by
  unfold beginM
  split
  · exact h.knows _
  · split
    · exact ⟨h.w, h.r, h.l⟩
    · exact h
theorem FA.deed {P : It → Prop} {Q : Ev → Prop} (hPQ : ∀ w : It, P w → Q (1, w.1, w.1, w.2, 0)) {f : Fd} (h : FA P Q f) (d : Int × Int × Int) (now : Int)
    (h1 : ∀ a b, d.1 % 8 = 1 → f.1 ≤ a → a ≤ b → b ≤ nearM f d.2.1 + d.2.2 % 6 - 1 → nearM f d.2.1 ≤ a → Q (2, a, b, [], 1)) (h2 : (d.1 % 8 = 3 ∨ d.1 % 8 = 4) → 3 ≤ f.2.2.2.2.2.1 → ∀ a b, f.1 ≤ a → a ≤ b → Q (2, a, b, [], 2))
    (h3 : 5 ≤ d.1 % 8 → (txt d.2.2).length ≤ 12 → P (nearM f d.2.1, txt d.2.2)) : FA P Q (deedM f d now) := by
  unfold deedM
  split; · exact h.begins _
  split; · rename_i q; exact h.notes hPQ _ _ (fun a b ha hb hc hd => h1 a b q ha hb hc hd)
  split; · exact h.knows _
  split; · rename_i q; exact h.tick hPQ _ (h2 q)
  exact h.comes hPQ _ (fun q => h3 (by omega) q.2.2)
def FS (K : Int) (f : Fd) : Prop := Wk (f.1 + 1) (min K (f.1 + 7)) f.2.2.2.1
theorem FS.knows {K : Int} {f : Fd} (h : FS K f) (t : Int) : FS K (knowsM f t) := by
  unfold knowsM
  split
  · exact h
  · exact h
theorem FS.notes {K c : Int} {f : Fd} (hf : FI K c f) (h : FS K f) (lo hi : Int) (hh : hi ≤ 1000000 → hi ≤ K) : FS K (notesM f lo hi) := by
  unfold notesM
  split
  · exact h
  rename_i q
  have hg := hf.knows hi hh
  have h0 := hf.n0
  split
  · exact h.knows hi
  · rename_i q2
    obtain ⟨a, b, _⟩ := hg.1.skips (by omega) hi 1 hh
    exact (a.goes (by omega)).2.2
theorem FS.comes {K c : Int} {f : Fd} (hf : FI K c f) (h : FS K f) (x : It) (hx : x.1 ≤ 1000000 → x.1 ≤ K) : FS K (comesM f x) := by
  unfold comesM
  split
  · exact h
  rename_i q
  have hg := hf.knows x.1 hx
  have h0 := hf.n0
  exact ((hg.1.put (by omega) x (hx (by omega))).goes (by simp only; omega)).2.2
theorem FS.tick {K c : Int} {f : Fd} (hf : FI K c f) (h : FS K f) (now : Int) : FS K (tickM f now).2.1 := by
  unfold tickM
  try simp only
  split
  · exact h
  rename_i q
  obtain ⟨w1, w2, w3, w4⟩ := wants_le hf (by cases hq : (wantsM f).1 with | true => rfl | false => exact absurd (.inl hq) q)
  split
  · obtain ⟨a, b, _⟩ := hf.skips w1 (wantsM f).2.2 2 (fun _ => w4)
    exact (a.goes (by omega)).2.2
  · exact h
theorem FS.begins {K c : Int} {f : Fd} (hf : FI K c f) (h : FS K f) (n : Int) : FS K (beginM f n) := by
  have h0 := hf.n0
  unfold beginM
  split
  · exact h.knows _
  · rename_i q
    have hz := hf.z (by omega)
    split
    · unfold FS; simp only [hz.2.1]; trivial
    · exact h
theorem FS.deed {c : Int} {f : Fd} (hf : FI 1000000 c f) (h : FS 1000000 f) (d : Int × Int × Int) (now : Int) : FS 1000000 (deedM f d now) := by
  unfold deedM
  split; · exact h.begins hf _
  split; · exact h.notes hf _ _ (fun q => q)
  split; · exact h.knows _
  split; · exact h.tick hf _
  exact h.comes hf _ (fun q => q)
def eD : Ev := ((0 : Int), (0 : Int), (0 : Int), ([] : List UInt8), (0 : Int))
theorem Ch.le : ∀ {L : List Ev} {n m : Int}, Ch n L m → n ≤ m
  | [], _, _, h => by have h' : _ = _ := h; omega
  | e :: r, n, m, h => by have := h.2.2.le; have := h.1; have := h.2.1; omega
theorem Ch.last : ∀ {L : List Ev} {n m : Int}, Ch n L m → L ≠ [] → (L.getD (L.length - 1) eD).2.2.1 + 1 = m
  | [], _, _, _, h => absurd rfl h
  | [e], n, m, h, _ => by have h' : _ = _ := h.2.2; simpa using h'
  | e :: x :: r, n, m, h, _ => by
    have := h.2.2.last (by simp)
    simpa using this
theorem Wk.at : ∀ {l : List It} {n K : Int}, Wk n K l → ∀ j, j + 1 < l.length → (l.getD j iD).1 < (l.getD (j + 1) iD).1
  | [], _, _, _, j, hj => by simp at hj
  | [w], _, _, _, j, hj => by simp at hj
  | w :: x :: r, n, K, h, 0, _ => by have := h.2.2.1; simp; omega
  | w :: x :: r, n, K, h, j + 1, hj => by
    have := h.2.2.at j (by simp at hj ⊢; omega)
    simpa using this
theorem FA.imp {P P' : It → Prop} {Q Q' : Ev → Prop} {f : Fd} (h : FA P Q f) (hP : ∀ x, P x → P' x) (hQ : ∀ e ∈ f.2.2.2.2.1, Q e → Q' e) : FA P' Q' f :=
  ⟨fun x hx => hP x (h.w x hx), fun x hx => hP x (h.r x hx), fun e he => hQ e he (h.l e he)⟩
theorem Ch.mem : ∀ {L : List Ev} {n m : Int}, Ch n L m → ∀ e ∈ L, n ≤ e.2.1 ∧ e.2.1 ≤ e.2.2.1 ∧ e.2.2.1 < m
  | [], _, _, _, e, he => by simp at he
  | x :: r, n, m, h, e, he => by
    have h1 := h.1
    have h2 := h.2.1
    have h3 := h.2.2.le
    rcases List.mem_cons.1 he with q | q
    · subst q; exact ⟨by omega, h2, by omega⟩
    · obtain ⟨a, b, c⟩ := h.2.2.mem e q
      exact ⟨by omega, b, c⟩
theorem Ch.split : ∀ {L E : List Ev} {n k m : Int}, Ch n L k → Ch n (L ++ E) m → Ch k E m
  | [], E, n, k, m, h1, h2 => by have h1' : n = k := h1; subst h1'; exact h2
  | x :: r, E, n, k, m, h1, h2 => h1.2.2.split h2.2.2
def Wok (C : Int → List UInt8 → Bool) (Nt : Int → Bool) (e : Ev) : Prop := (e.1 = 1 → C e.2.1 e.2.2.2.1 = true) ∧ (e.1 = 2 → e.2.2.2.2 = 1 → ∀ n, e.2.1 ≤ n → n ≤ e.2.2.1 → Nt n = true) ∧ e.2.2.2.1.length ≤ 100
theorem run_ok (N : Nat) (hN : 2000 ≤ N) : ∀ (l : List (Int × Int × Int)) (now : Int) (f : Fd) (C : Int → List UInt8 → Bool) (Nt : Int → Bool) (c : Int), (∀ d ∈ l, by3 d) → 0 ≤ now → now + 4 * l.length ≤ 1000000 → FI 1000000 c f →
    FA (fun w => C w.1 w.2 = true ∧ w.2.length ≤ 100) (Wok C Nt) f → okRun (W_law18_deed N) l now f C Nt
  | [], _, _, _, _, _, _, _, _, _, _ => trivial
  | d :: l, now, f, C, Nt, c, hl, h0, h1, hf, ha => by
    have hd : by3 d := hl d (by simp)
    have hl' : ∀ d ∈ l, by3 d := fun d hd => hl d (by simp [hd])
    rw [List.length_cons] at h1
    have hn := hf.nx (by omega)
    obtain ⟨c', hf', hc1, hc2⟩ := hf.deed d (now + d.2.2 % 4)
    obtain ⟨l1, l2, E, hE⟩ := deed_Le f d (now + d.2.2 % 4) hf.n0
    have hCm : ∀ k t, C k t = true → cameF C f d k t = true := fun k t h => by
      unfold cameF
      split
      · simp only [h, Bool.true_or]
      · exact h
    have hNm : ∀ k, Nt k = true → notedF Nt f d k = true := fun k h => by
      unfold notedF
      split
      · simp only [h, Bool.true_or]
      · exact h
    have ha1 : FA (fun w => cameF C f d w.1 w.2 = true ∧ w.2.length ≤ 100) (Wok (cameF C f d) (notedF Nt f d)) f := ha.imp (fun x hx => ⟨hCm _ _ hx.1, hx.2⟩) fun e _ he => ⟨fun q => hCm _ _ (he.1 q), fun q r n a b => hNm _ (he.2.1 q r n a b), he.2.2⟩
    have hnear : nearM f d.2.1 = nearF f.1 d.2.1 := rfl
    have htxt : txt d.2.2 = textF d.2.2 := rfl
    have hP : 5 ≤ d.1 % 8 → cameF C f d (nearM f d.2.1) (txt d.2.2) = true := fun q => by
      unfold cameF
      rw [if_pos q, hnear, htxt]
      simp
    have hQ : ∀ a b, d.1 % 8 = 1 → b ≤ nearM f d.2.1 + d.2.2 % 6 - 1 → nearM f d.2.1 ≤ a → ∀ n, a ≤ n → n ≤ b → notedF Nt f d n = true := fun a b q hb ha n h1 h2 => by
      unfold notedF
      rw [if_pos q]
      show (Nt n || decide (nearF f.1 d.2.1 ≤ n ∧ n < nearF f.1 d.2.1 + d.2.2 % 6)) = true
      rw [hnear] at hb ha
      rw [decide_eq_true (by omega), Bool.or_true]
    have ha2 := FA.deed (P := fun w => cameF C f d w.1 w.2 = true ∧ w.2.length ≤ 100) (Q := Wok (cameF C f d) (notedF Nt f d)) (fun w hw => ⟨fun _ => hw.1, fun q => (by cases q), hw.2⟩) ha1 d (now + d.2.2 % 4) (fun a b q _ _ hb hc => ⟨fun q => (by cases q), fun _ _ => hQ a b q hb hc, (by simp)⟩) (fun _ _ a b _ _ => ⟨fun q => (by cases q), fun _ q => (by cases q), (by simp)⟩) (fun q hl => ⟨hP q, (by show (txt d.2.2).length ≤ 100; omega)⟩)
    have hold : ∀ e ∈ f.2.2.2.2.1, e.2.1 < f.1 := fun e he => by
      by_cases q : 1 ≤ f.1
      · have := (hf.p q).ch.mem e he; omega
      · have : f.1 = 0 := by omega
        rw [(hf.z this).2.2] at he; simp at he
    have ha3 : FA (fun _ => True) (fun e => e.2.1 < f.1 ∨ (e.1 = 2 → e.2.2.2.2 = 2 → ¬ f.2.2.2.2.2.1 < 3 ∧ (d.1 % 8 = 3 ∨ d.1 % 8 = 4))) f := ⟨fun _ _ => trivial, fun _ _ => trivial, fun e he => .inl (hold e he)⟩
    have ha4 := FA.deed (P := fun _ => True) (Q := fun e => e.2.1 < f.1 ∨ (e.1 = 2 → e.2.2.2.2 = 2 → ¬ f.2.2.2.2.2.1 < 3 ∧ (d.1 % 8 = 3 ∨ d.1 % 8 = 4))) (fun w hw => .inr fun q => by cases q) ha3 d (now + d.2.2 % 4) (fun a b q _ _ hb hc => .inr fun _ q => by cases q) (fun q r a b _ _ => .inr fun _ _ => ⟨by omega, q⟩) (fun q _ => trivial)
    have hch : 1 ≤ (deedM f d (now + d.2.2 % 4)).1 → ∃ k, f.1 ≤ k ∧ Ch k E (deedM f d (now + d.2.2 % 4)).1 := fun q => by
      have hp := (hf'.p q)
      have hh := hp.ch
      rw [hE] at hh
      by_cases q1 : 1 ≤ f.1
      · have := hc1 (by omega)
        subst this
        exact ⟨f.1, Int.le_refl _, (hf.p q1).ch.split hh⟩
      · have q0 : f.1 = 0 := by omega
        rw [(hf.z q0).2.2, List.nil_append] at hh
        exact ⟨c', by have := hp.c0; omega, hh⟩
    have hEz : ¬ 1 ≤ (deedM f d (now + d.2.2 % 4)).1 → E = [] := fun q => by
      have := (hf'.z (by have := hf'.n0; omega)).2.2
      rw [hE] at this
      exact (List.append_eq_nil_iff.1 this).2
    have hn' := hf'.nx (by omega)
    refine ⟨hn.1, by omega, true, _, _, deed_eq N hN hf d hd _ (by omega) (by omega), by rw [hE]; simp, by have := (hf'.lens (by omega)).2.2; omega, fun e he => ?_, ?_⟩
    · rw [hE, List.drop_left] at he
      have q : 1 ≤ (deedM f d (now + d.2.2 % 4)).1 := by
        apply Classical.byContradiction
        intro q
        rw [hEz q] at he; simp at he
      obtain ⟨k, hk, hc⟩ := hch q
      obtain ⟨b1, b2, b3⟩ := hc.mem e he
      have hm : e ∈ (deedM f d (now + d.2.2 % 4)).2.2.2.2.1 := by rw [hE]; exact List.mem_append_right _ he
      have w1 := ha2.l e hm
      have w2 := ha4.l e hm
      refine ⟨w1.1, ?_, w1.2.1, ⟨by omega, by omega, by omega⟩, w1.2.2⟩
      rcases w2 with q | q
      · omega
      · exact q
    · exact run_ok N hN l _ _ _ _ c' hl' (by omega) (by omega) hf' ha2
def NN : Nat := 2000
theorem begun_told : W_law18_begun NN () = some true := by decide +kernel
theorem law_true (y0 : List (Int × Int × Int)) (h0 : Twf (.list (.agg (.pair (.int .u8) (.pair (.int .u8) (.int .u8))))) y0) : W_law18_FeedTold NN y0 = some true := by
  have key : ∀ d : Int × Int × Int, Twf (.agg (.pair (.int .u8) (.pair (.int .u8) (.int .u8)))) d → by3 d := fun d this => ⟨⟨this.1.1, this.1.2⟩, ⟨this.2.1.1, this.2.1.2⟩, this.2.2.1, this.2.2.2⟩
  unfold W_law18_FeedTold
  refine if_pos ⟨begun_told, fun d hd => ⟨(key d (h0.2 d hd)).1.1, (key d (h0.2 d hd)).2.1.1, (key d (h0.2 d hd)).2.2.1⟩, fun hl => ?_⟩
  exact run_ok NN (Nat.le_refl _) y0 0 _ _ _ 0 (fun d hd => key d (h0.2 d hd)) (Int.le_refl _) (by omega) FI_z7 ⟨fun x hx => (by cases hx), fun x hx => (by cases hx), fun x hx => (by cases hx)⟩

theorem spec (y0 : List (Int × Int × Int)) (h0 : Twf (.list (.agg (.pair (.int .u8) (.pair (.int .u8) (.int .u8))))) y0) : Spec2 P0 3 [valW (.list (.agg (.pair (.int .u8) (.pair (.int .u8) (.int .u8))))) y0] [] (.bs true) [] [] := (con_law18_FeedTold_ok NN).2 y0 true (law_true y0 h0)
theorem lifted (os : Os) (started : os.Started) (H : Type) (enc : TypeId × Value → H) :
    ReturnsInHanded {} Try.checked os 3 .any (Rows.feedToldSpec.pre6 enc Try.prog Try.f3 Rows.feedToldRow.domain false) (Rows.feedToldSpec.post enc Try.prog Try.f3 false true false false) := by
  refine returnsInHanded_of_change (C := Try.checked) own started (by kernel_rfl) Try.func3
    (ChangeSpec.witness6 (enc := enc) (C := Try.checked) false ⟨#[], #[.slice none 0 0], []⟩ 8 (by kernel_rfl) (by kernel_rfl) (by kernel_rfl) (by kernel_rfl)) ?_
  intro W base args ds gs before hval0 hW hcnd _
  have hval : ∀ (j : Nat) t v, Try.f3.params[j]? = some t → args[j]? = some v → Value.okWide Try.prog W .any base t v := hval0
  have hW' := hW
  obtain ⟨p, q, hA0, hV, rfl, hfz, hnd⟩ := hW
  have hA : DataW.TrodAll enc Try.prog W 0 (fun _ => true) true Try.f3.params.toList args.toList ds p := hA0
  rw [Try.params3] at hA hval
  obtain ⟨v0, vs0, d0, ds0, p0, q0, hargs, rfl, rfl, h0, r0⟩ := trodAll_cons hA
  obtain ⟨rfl, rfl, rfl⟩ := trodAll_nil r0
  obtain rfl : args = #[v0] := by cases args; simp_all
  obtain ⟨rfl, rfl⟩ := trodVars_none hV
  have k0 := h0
  have lt0 : ∀ x ∈ p0, x.block < W.heap.size := by obtain ⟨m, hm⟩ := k0; exact DataW.trod_lt m _ _ _ hm
  obtain ⟨y0, rp0, wf0⟩ := arg_ok (n := 12) (ty := (.list (.agg (.pair (.int .u8) (.pair (.int .u8) (.int .u8)))))) (by kernel_rfl) (hval 0 _ v0 rfl rfl) h0
  clear hA0 hval0
  refine (law_of2 (spec y0 wf0) W #[v0] (.cons rp0 .nil)).mono fun e W' ⟨he, bel⟩ => ?_
  subst he
  exact ⟨_, rfl, _, _, _, [], _, [], hW', trodAll_mk1 (shut_bool Try.underlying4 _), (trodAll_cons_mk (Below.trod laidOut (by kernel_rfl) (of_decide_eq_true (by kernel_rfl)) k0 bel lt0) trodAll_mk0), rfl, bel.frame _, fun h => by cases h⟩

theorem over : Rows.feedToldRow.holds Try.pinned (OpenSpec.ofChange Rows.feedToldSpec) :=
  OpenClaim.holds_of_wide 3 Try.f3 rfl rfl rfl rfl rfl rfl rfl ⟨rfl, rfl, rfl, rfl, rfl⟩ rfl rfl rfl rfl rfl (by kernel_rfl) Try.func3 (by kernel_rfl)
    (of_decide_eq_true (by kernel_rfl)) (by unfold Func.isWrapper; first | (rw [if_pos (by decide +kernel)]; kernel_rfl) | (rw [if_neg (by decide +kernel)]; exact ⟨rfl, rfl⟩))
    (fun os started H enc _ => lifted os started H enc)

theorem holds : Rows.FeedToldSaid := over
end Go.Proofs.Ytpbiilmphmdmiaa.feedToldX
