/- What goes into a call and comes out of it. -/
import Derived.Test.YtiaoojocpcldmaaGreatAbsJ
namespace Go.Abs
open Go.RowKit
set_option linter.unusedVariables false
set_option linter.unusedSimpArgs false

/-- A row is handed on: its cells stay as they are from now on. -/
def OK.freeze : OK → OK
  | .row ty sz _ cs => .row ty sz true cs
  | .nrow ty _ nl L => .nrow ty true nl L
  | k => k
def Tab.freeze (T : Tab) (s : Nat) : Tab := T.put s ⟨(T.get s).gen, (T.get s).k.freeze⟩
def Tab.freezes (T : Tab) (l : List Nat) : Tab := l.foldl Tab.freeze T

theorem Tab.get_freeze (T : Tab) (s t : Nat) : (T.freeze s).get t = if s = t then ⟨(T.get t).gen, (T.get t).k.freeze⟩ else T.get t := by
  simp only [Tab.freeze, Tab.get_put]
  split
  · rename_i h; subst h; rfl
  · rfl
theorem freeze_freeze (k : OK) : k.freeze.freeze = k.freeze := by cases k <;> rfl
theorem Tab.get_freezes : ∀ (l : List Nat) (T : Tab) (t : Nat), (T.freezes l).get t = if t ∈ l then ⟨(T.get t).gen, (T.get t).k.freeze⟩ else T.get t
  | [], T, t => by simp [Tab.freezes]
  | s :: r, T, t => by
    have := Tab.get_freezes r (T.freeze s) t
    simp only [Tab.freezes, List.foldl_cons] at this ⊢
    rw [this, Tab.get_freeze]
    by_cases h1 : t ∈ r <;> by_cases h2 : s = t <;> simp [h1, h2, freeze_freeze, Ne.symm] <;> (try (intro e; exact absurd e.symm h2))

section
variable {κ : Cx} {ι : Nat → Nat} {st : St} {a : Act} {w : World}

theorem To.rel (h : RelI κ ι st a w) {T' : Tab} (ht : To κ st.o ι w T' ι w) : RelI κ ι { st with o := T' } a w := by
  have := h.set (dst := none) (v := .undef) (cv := undef) (st' := { st with o := T' }) ht rfl (.undef _)
  simpa [Act.put] using this
theorem To.freeze (h : RelI κ ι st a w) (s : Nat) : To κ st.o ι w (st.o.freeze s) ι w := by
  by_cases hrow : ∃ ty sz fz cs, (st.o.get s).k = .row ty sz fz cs
  · obtain ⟨ty, sz, fz, cs, hk⟩ := hrow
    have hl : st.o.live s := by simp [Tab.live, hk, OK.live]
    have hob := h.tr.ob s
    rw [hk] at hob
    have hfr : (st.o.get s).k.freeze = .row ty sz true cs := by rw [hk]; rfl
    have ht : To κ st.o ι w (st.o.freeze s) ι w := by
      unfold Tab.freeze
      refine To.turn h s hl _ rfl rfl rfl rfl (fun _ _ => rfl) (Nat.le_refl _) (fun p hp hf => ?_) (fun ty' sz' fz' cs' e _ => ?_) (fun T' ι' H => ?_) (fun ty' fz' nl' L' e => by rw [hfr] at e; cases e) (hsh := .same rfl)
      · rw [hk] at hf
        show (st.o.get s).k.freeze.fzAt p.off ∧ _
        rw [hfr]
        cases fz with
        | false => simp [OK.fzAt] at hf
        | true => exact ⟨hf, rfl⟩
      · simp only [hfr] at e
        injection e with e1 e2 e3 e4
        subst e1 e2 e3 e4
        exact ⟨⟨_, _, _, hk⟩, fun arr ty1 fz h => ⟨arr, ty1, fz, h, rfl⟩⟩
      · simp only [hfr]
        obtain ⟨arr, fz1, cap, h1, h2, h3, h4, h5, h6⟩ := hob
        exact ⟨arr, fz1, cap, h1, h2, h3, h4, h5, fun i d u hd hu => (h6 i d u hd hu).mono H⟩
    exact ht
  · by_cases hnr : ∃ ty fz nl L, (st.o.get s).k = .nrow ty fz nl L
    · obtain ⟨ty, fz, nl, L, hk⟩ := hnr
      have hfr : (st.o.get s).k.freeze = .nrow ty true nl L := by rw [hk]; rfl
      by_cases hn : nl = true ∧ L.l = []
      · have hget : ∀ t, (st.o.freeze s).get t = if s = t then ⟨(st.o.get t).gen, .nrow ty true nl L⟩ else st.o.get t := by
          intro t
          rw [Tab.get_freeze]
          split
          · rename_i e; subst e; rw [hfr]
          · rfl
        have hlive : ∀ t, (st.o.freeze s).live t ↔ st.o.live t := fun t => by
          simp only [Tab.live, hget]
          split
          · rename_i e; subst e; simp only [hk, OK.live]
          · rfl
        have hnl : ∀ t, st.o.live t → s ≠ t := fun t hl e => by subst e; simp only [Tab.live, hk, OK.live] at hl; exact hl hn
        have H : Goes κ.D st.o ι w (st.o.freeze s) ι w := by
          refine ⟨fun p hp => ⟨⟨hp.1, hp.2.1, fun t hl => by rw [hget, if_neg (hnl t ((hlive t).1 hl))]; exact hp.2.2 t ((hlive t).1 hl)⟩, rfl⟩, fun t => by rw [hget]; split <;> exact Nat.le_refl _, fun t hl _ => ⟨(hlive t).1 hl, rfl⟩, fun t g ty' sz fz' cs' hT _ => ?_, fun t g ty' fz' nl' L' hT hg => ?_⟩
          · rw [hget] at hT
            split at hT
            · simp at hT
            · exact ⟨⟨ty', fz', cs', hT⟩, fun arr ty1 fz h => ⟨arr, ty1, fz, h, rfl⟩⟩
          · rw [hget] at hT
            split at hT
            · rename_i e; subst e
              simp only [Ob.mk.injEq, OK.nrow.injEq] at hT
              obtain ⟨e0, rfl, rfl, rfl, rfl⟩ := hT
              refine ⟨⟨ty, fz, nl, L, ?_, rfl, rfl, rfl⟩, fun h => absurd hn h⟩
              cases hs : st.o.get s; rw [hs] at hk e0; simp at hk e0; subst hk e0; rfl
            · exact ⟨⟨ty', fz', nl', L', hT, rfl, rfl, rfl⟩, fun _ arr ty1 fz h => ⟨arr, ty1, fz, h, rfl⟩⟩
        exact ⟨H, ⟨fun t => by
            rw [hget]
            split
            · rename_i e; exact .inl hn
            · exact (h.tr.ob t).mono H rfl, fun t u ht hu => h.tr.inj t u ((hlive t).1 ht) ((hlive u).1 hu), fun t ht => h.tr.lt t ((hlive t).1 ht)⟩,
          fun t hl => h.my t ((hlive t).1 hl), h.kept⟩
      · have hl : st.o.live s := by simp only [Tab.live, hk, OK.live]; exact hn
        have hob := h.tr.ob s
        rw [hk] at hob
        unfold Tab.freeze
        refine To.turn h s hl _ rfl rfl rfl rfl (fun _ _ => rfl) (Nat.le_refl _) (fun p hp hf => ?_) (fun ty' sz' fz' cs' e _ => by rw [hfr] at e; cases e) (fun T' ι' H => ?_) (fun ty' fz' nl' L' e _ => ?_) (hsh := .same rfl)
        · rw [hk] at hf
          show (st.o.get s).k.freeze.fzAt p.off ∧ _
          rw [hfr]
          cases fz with
          | false => simp [OK.fzAt] at hf
          | true => exact ⟨hf, rfl⟩
        · simp only [hfr]
          rcases hob with hb | ⟨arr, fz1, cap, h1, h2, h3, h4, h5, h6⟩
          · exact .inl hb
          · exact .inr ⟨arr, fz1, cap, h1, h2, h3, h4, h5, fun i d u hd hu => (h6 i d u hd hu).mono H⟩
        · simp only [hfr] at e
          injection e with e1 e2 e3 e4
          subst e1 e2 e3 e4
          exact ⟨⟨_, _, _, _, hk, rfl, rfl, rfl⟩, fun _ arr ty1 fz h => ⟨arr, ty1, fz, h, rfl⟩⟩
    have hsame : (st.o.get s).k.freeze = (st.o.get s).k := by
      cases hk : (st.o.get s).k with
      | row ty sz fz cs => exact absurd ⟨ty, sz, fz, cs, hk⟩ hrow
      | nrow ty fz nl L => exact absurd ⟨ty, fz, nl, L, hk⟩ hnr
      | _ => rfl
    have hget : ∀ t, (st.o.freeze s).get t = st.o.get t := by
      intro t
      rw [Tab.get_freeze]
      split
      · rename_i e; subst e; rw [hsame]
      · rfl
    have hlive : ∀ t, (st.o.freeze s).live t ↔ st.o.live t := fun t => by simp [Tab.live, hget]
    have H : Goes κ.D st.o ι w (st.o.freeze s) ι w := by
      refine ⟨fun p hp => ⟨⟨hp.1, hp.2.1, fun t hl => by rw [hget]; exact hp.2.2 t ((hlive t).1 hl)⟩, rfl⟩, fun t => by rw [hget]; exact Nat.le_refl _, fun t hl _ => ⟨(hlive t).1 hl, rfl⟩, fun t g ty sz fz' cs' hT _ => ?_, fun t g ty fz nl L hT _ => ?_⟩
      · rw [hget] at hT
        exact ⟨⟨ty, fz', cs', hT⟩, fun arr ty1 fz h => ⟨arr, ty1, fz, h, rfl⟩⟩
      · rw [hget] at hT
        exact ⟨⟨ty, fz, nl, L, hT, rfl, rfl, rfl⟩, fun _ arr ty1 fz h => ⟨arr, ty1, fz, h, rfl⟩⟩
    have ht : To κ st.o ι w (st.o.freeze s) ι w :=
      ⟨H, ⟨fun t => by rw [hget]; exact (h.tr.ob t).mono H rfl, fun t u ht hu => h.tr.inj t u ((hlive t).1 ht) ((hlive u).1 hu), fun t ht => h.tr.lt t ((hlive t).1 ht)⟩,
        fun t hl => h.my t ((hlive t).1 hl), h.kept⟩
    exact ht

theorem Goes.trans {D : Addr → Prop} {T T' T'' : Tab} {ι ι' ι'' : Nat → Nat} {w w' w'' : World} (h : Goes D T ι w T' ι' w') (k : Goes D T' ι' w' T'' ι'' w'') : Goes D T ι w T'' ι'' w'' := by
  refine ⟨fun p hp => ⟨(k.st p (h.st p hp).1).1, (k.st p (h.st p hp).1).2.trans (h.st p hp).2⟩, fun t => Nat.le_trans (h.gen t) (k.gen t), fun t hl hg => ?_, fun t g ty sz fz' cs' hT hg => ?_, fun t g ty fz' nl L hT hg => ?_⟩
  · have h1 := h.gen t
    have h2 := k.gen t
    obtain ⟨l1, e1⟩ := k.same t hl (by omega)
    obtain ⟨l2, e2⟩ := h.same t l1 (by omega)
    exact ⟨l2, e1.trans e2⟩
  · have h1 := h.gen t
    have h2 := k.gen t
    have h3 : (T''.get t).gen = g := by rw [hT]
    obtain ⟨⟨ty1, fz1, cs1, e1⟩, f1⟩ := k.row t g ty sz fz' cs' hT (by omega)
    obtain ⟨⟨ty2, fz2, cs2, e2⟩, f2⟩ := h.row t g ty1 sz fz1 cs1 e1 hg
    have hι := (h.same t (by simp [Tab.live, e1, OK.live]) (by rw [e1, hg])).2
    rw [hι] at f1
    refine ⟨⟨ty2, fz2, cs2, e2⟩, fun arr t1 fz hh => ?_⟩
    obtain ⟨arr1, t2, fz2, hh2, s1⟩ := f2 arr t1 fz hh
    obtain ⟨arr2, t3, fz3, hh3, s2⟩ := f1 arr1 t2 fz2 hh2
    exact ⟨arr2, t3, fz3, hh3, s2.trans s1⟩
  · have h1 := h.gen t
    have h2 := k.gen t
    have h3 : (T''.get t).gen = g := by rw [hT]
    obtain ⟨⟨ty1, fz1, nl1, L1, e1, a1, a2, a3⟩, f1⟩ := k.nrow t g ty fz' nl L hT (by omega)
    obtain ⟨⟨ty2, fz2, nl2, L2, e2, b1, b2, b3⟩, f2⟩ := h.nrow t g ty1 fz1 nl1 L1 e1 hg
    refine ⟨⟨ty2, fz2, nl2, L2, e2, b1.trans a1, b2.trans a2, b3.trans a3⟩, fun hn arr t1 fz hh => ?_⟩
    have hn1 : ¬ (nl1 = true ∧ L1.l = []) := fun ⟨x, y⟩ => hn ⟨a3 ▸ x, List.eq_nil_of_length_eq_zero (by rw [← a2, y]; rfl)⟩
    have hι := (h.same t (by simp only [Tab.live, e1, OK.live]; exact hn1) (by rw [e1, hg])).2
    obtain ⟨arr1, t2, fz2, hh2, s1⟩ := f2 hn1 arr t1 fz hh
    rw [hι] at f1
    obtain ⟨arr2, t3, fz3, hh3, s2⟩ := f1 hn arr1 t2 fz2 hh2
    exact ⟨arr2, t3, fz3, hh3, s2.trans s1⟩
theorem To.trans {T T' T'' : Tab} {ι' ι'' : Nat → Nat} {w' w'' : World} (h : To κ T ι w T' ι' w') (k : To κ T' ι' w' T'' ι'' w'') : To κ T ι w T'' ι'' w'' :=
  ⟨h.goes.trans k.goes, k.tr, k.my, k.kept⟩

theorem To.freezes (h : RelI κ ι st a w) (l : List Nat) : To κ st.o ι w (st.o.freezes l) ι w := by
  induction l generalizing st with
  | nil => exact To.refl h
  | cons s r ih => exact (To.freeze h s).trans (ih (To.rel h (To.freeze h s)))

/-- A list of values, each looked at, from the left on. -/
def mapV (f : V → Option (V × List Nat)) : List V → Option (List V × List Nat)
  | [] => some ([], [])
  | v :: r => match f v with
    | some (x, l) => match mapV f r with
      | some (xs, l') => some (x :: xs, l ++ l')
      | none => none
    | none => none

/-- A value as one that leads to no object of the machine's own; which rows it leads to. -/
def view : Nat → Tab → V → Option (V × List Nat)
  | 0, _, _ => none
  | n + 1, T, v => if v.pure = true then some (v, []) else
    match v with
    | .own s g off k => if (T.get s).gen = g then (match (T.get s).k with
      | .row _ sz _ cs => if (off + k) * sz ≤ cs.length then
          (match mapV (view n T) ((cs.take ((off + k) * sz)).drop (off * sz)) with
            | some (xs, l) => some (.sl k xs, s :: l)
            | none => none) else none
      | _ => none) else none
    | .agg cs => match mapV (view n T) cs with
      | some (xs, l) => some (.agg xs, l)
      | none => none
    | .ifc t u => match view n T u with
      | some (x, l) => some (.ifc t x, l)
      | none => none
    | .fn f cs => match mapV (view n T) cs with
      | some (xs, l) => some (.fn f xs, l)
      | none => none
    | .acc s g => if (T.get s).gen = g then (match (T.get s).k with
      | .nrow _ _ _ L => some (.lst L, [s])
      | _ => none) else none
    | .nwin s g off k => if (T.get s).gen = g then (match (T.get s).k with
      | .nrow _ _ _ L => some (.lst ⟨L.e, (L.l.take (off + k)).drop off⟩, [s])
      | _ => none) else none
    | _ => none

theorem mapV_ok {f : V → Option (V × List Nat)} {R R' : V → Value → Prop} : ∀ (cs xs : List V) (l : List Nat) (vs : List Value), mapV f cs = some (xs, l) → LR R cs vs →
    (∀ v x l' u, v ∈ cs → f v = some (x, l') → (∀ s ∈ l', s ∈ l) → R v u → R' x u) → LR R' xs vs
  | [], xs, l, vs, h, hr, hf => by
    simp [mapV] at h
    obtain ⟨rfl, rfl⟩ := h
    have : vs = [] := List.eq_nil_of_length_eq_zero (by simpa using hr.1.symm)
    subst this
    exact .nil
  | v :: r, xs, l, vs, h, hr, hf => by
    obtain ⟨u, vs', rfl, hu, hr'⟩ := hr.head
    simp only [mapV] at h
    cases hv : f v with
    | none => simp [hv] at h
    | some p =>
      obtain ⟨x, l1⟩ := p
      simp only [hv] at h
      cases hm : mapV f r with
      | none => simp [hm] at h
      | some q =>
        obtain ⟨ys, l2⟩ := q
        simp [hm] at h
        obtain ⟨rfl, rfl⟩ := h
        exact .cons (hf v x l1 u (by simp) hv (fun s hs => by simp [hs]) hu)
          (mapV_ok r ys l2 vs' hm hr' fun v' x' l' u' hm' hv' hs' hu' => hf v' x' l' u' (by simp [hm']) hv' (fun s hs => by simp [hs' s hs]) hu')

/-- What is seen of a value is there, if the rows that it leads to have been handed on (T: the table before, the state's own behind it). -/
theorem view_ok (h : RelI κ ι st a w) {T : Tab} :
    ∀ (n : Nat) (v x : V) (l : List Nat) (cv : Value), view n T v = some (x, l) → (∀ s ∈ l, (st.o.get s).k = (T.get s).k.freeze ∧ (st.o.get s).gen = (T.get s).gen) →
      Rv st.o ι (Stable κ.D st.o ι w) w v cv → Rp (Stable κ.D st.o ι w) w x cv
  | 0, v, x, l, cv, hv, _, _ => by simp [view] at hv
  | n + 1, v, x, l, cv, hv, hl, hr => by
    simp only [view] at hv
    split at hv
    · rename_i hp
      simp at hv
      obtain ⟨rfl, rfl⟩ := hv
      exact hr.pure_ hp
    · rename_i hnp
      split at hv
      · rename_i s g off k
        split at hv
        · rename_i hg
          split at hv
          · rename_i ty sz fz cs hk
            split at hv
            · rename_i hle
              split at hv
              · rename_i xs l' hm
                simp at hv
                obtain ⟨rfl, rfl⟩ := hv
                obtain ⟨hsk, hsg⟩ := hl s (by simp)
                rw [hk] at hsk
                have hget : st.o.get s = ⟨g, .row ty sz true cs⟩ := by
                  cases hTs : st.o.get s; rw [hTs] at hsk hsg; simp at hsk hsg; subst hsk hsg; rw [hg]; rfl
                have hlv : st.o.live s := by simp [Tab.live, hget, OK.live]
                obtain ⟨ad, c, cap, arr, ty1, fz1, rfl, hb, hmem, has, hn, hcap, hpl⟩ := hr.own_ hget
                have hob := h.tr.ob s
                rw [hget] at hob
                obtain ⟨arr2, fz2, cap2, hh2, _, has2, hsz0, hle2, hc2⟩ := hob
                rw [hmem] at hh2
                injection hh2 with hh2; injection hh2 with e1 e2 e3; subst e1
                have hml : (off + k) * sz ≤ arr.size := by rw [has]; exact Nat.mul_le_mul_right _ hn
                have hmul : (off + k) * sz = off * sz + k * sz := Nat.add_mul _ _ _
                have hlr : LR (Rv st.o ι (Stable κ.D st.o ι w) w) ((cs.take ((off + k) * sz)).drop (off * sz)) ((arr.toList.take ((off + k) * sz)).drop (off * sz)) :=
                  LR.drop ⟨by simp; omega, fun i d u hd hu => by
                    rw [List.getElem?_take] at hd hu
                    split at hd
                    · rename_i hi; rw [if_pos hi] at hu; exact hc2 i d u hd hu
                    · cases hd⟩ _
                have hxs := mapV_ok (R' := Rp (Stable κ.D st.o ι w) w) _ xs l' _ hm hlr fun v' x' l'' u' _ hv' hs' hu' =>
                  view_ok h n v' x' l'' u' hv' (fun s' hs'' => hl s' (by simp [hs' s' hs''])) hu'
                refine .sl (vs := (arr.toList.take ((off + k) * sz)).drop (off * sz)) (by omega) (fun i u hu => ?_) hxs.1 hxs.2
                rw [List.getElem?_drop, List.getElem?_take] at hu
                split at hu
                · rename_i hi
                  have hk0 : k ≠ 0 := by rintro rfl; omega
                  have := hpl (by omega); subst this
                  have hadd : (⟨ι s, off * sz, none⟩ : Addr).add i = ⟨ι s, off * sz + i, none⟩ := by unfold Addr.add; split <;> simp_all
                  rw [hadd]
                  refine ⟨⟨?_, h.tr.lt s hlv, fun t ht e => ?_⟩, ?_⟩
                  · rcases h.my s hlv with h1 | h1
                    · exact .inr (.inl h1)
                    · exact .inr (.inr h1)
                  · have := h.tr.inj t s ht hlv e
                    subst this
                    rw [hget]
                    show off * sz + i < cs.length
                    omega
                  · simp [World.cell?, hmem]
                    simpa using hu
                · cases hu
              · cases hv
            · cases hv
          · cases hv
        · cases hv
      · rename_i cs
        split at hv
        · rename_i xs l' hm
          simp at hv
          obtain ⟨rfl, rfl⟩ := hv
          obtain ⟨vs, rfl, hlen, hh⟩ := hr.agg_
          have hxs := mapV_ok (R' := Rp (Stable κ.D st.o ι w) w) _ xs l' vs hm ⟨hlen, hh⟩ fun v' x' l'' u' _ hv' hs' hu' =>
            view_ok h n v' x' l'' u' hv' (fun s' hs'' => hl s' (hs' s' hs'')) hu'
          exact .agg hxs.1 hxs.2
        · cases hv
      · rename_i t u
        split at hv
        · rename_i x' l' hm
          simp at hv
          obtain ⟨rfl, rfl⟩ := hv
          obtain ⟨cu, rfl, hu⟩ := hr.ifc_
          exact .ifc (view_ok h n u x' l' cu hm hl hu)
        · cases hv
      · rename_i f cs
        split at hv
        · rename_i xs l' hm
          simp at hv
          obtain ⟨rfl, rfl⟩ := hv
          obtain ⟨vs, rfl, hlen, hh⟩ := hr.fn_
          have hxs := mapV_ok (R' := Rp (Stable κ.D st.o ι w) w) _ xs l' vs hm ⟨hlen, hh⟩ fun v' x' l'' u' _ hv' hs' hu' =>
            view_ok h n v' x' l'' u' hv' (fun s' hs'' => hl s' (hs' s' hs'')) hu'
          exact .fn hxs.1 hxs.2
        · cases hv
      · rename_i s g
        split at hv
        · rename_i hg
          split at hv
          · rename_i ty fz nl L hk
            simp at hv
            obtain ⟨rfl, rfl⟩ := hv
            obtain ⟨hsk, hsg⟩ := hl s (by simp)
            rw [hk] at hsk
            have hget : st.o.get s = ⟨g, .nrow ty true nl L⟩ := by
              cases hTs : st.o.get s; rw [hTs] at hsk hsg; simp at hsk hsg; subst hsk hsg; rw [hg]; rfl
            rcases hr.acc_ hget with ⟨h1, h2, p, rfl⟩ | ⟨hn, ho⟩
            · refine .lst ?_
              have e1 : L.l.length = 0 := by rw [h2]; rfl
              have e2 : L.cells = [] := by simp [TL.cells, h2]
              rw [e1, e2]
              cases p with
              | none => exact .slz
              | some a => exact .sl (vs := []) (Nat.le_refl _) (by simp) rfl (by simp)
            · have hlv : st.o.live s := by simp only [Tab.live, hget, OK.live]; exact hn
              obtain ⟨ad, c, cap, arr, ty1, fz1, rfl, hb, hmem, has, hn', hcap, hpl⟩ := ho
              have hob := h.tr.ob s
              rw [hget] at hob
              obtain ⟨arr2, fz2, cap2, hh2, _, has2, hsz0, hle2, hc2⟩ := hob.resolve_left hn
              rw [hmem] at hh2
              injection hh2 with hh2; injection hh2 with e1 e2 e3; subst e1
              have hcl := L.cells_length
              refine .lst (.sl (vs := arr.toList.take L.cells.length) (by omega) (fun i u hu => ?_) (by simp; omega) (fun i d u hd hu => ?_))
              · rw [List.getElem?_take] at hu
                split at hu
                · rename_i hi
                  have hk0 : L.l.length ≠ 0 := fun e => by rw [hcl, e] at hi; simp at hi
                  have := hpl (by omega); subst this
                  have hadd : (⟨ι s, 0 * L.e.size, none⟩ : Addr).add i = ⟨ι s, i, none⟩ := by unfold Addr.add; split <;> simp_all
                  rw [hadd]
                  refine ⟨⟨?_, h.tr.lt s hlv, fun t ht e => ?_⟩, ?_⟩
                  · rcases h.my s hlv with h1 | h1
                    · exact .inr (.inl h1)
                    · exact .inr (.inr h1)
                  · have := h.tr.inj t s ht hlv e
                    subst this
                    rw [hget]
                    show i < L.l.length * L.e.size
                    rw [← hcl]; exact hi
                  · simp [World.cell?, hmem]
                    simpa using hu
                · cases hu
              · rw [List.getElem?_take] at hu
                split at hu
                · exact (hc2 i d u hd hu).pure_ (TL.pure_cells hd)
                · cases hu
          · cases hv
        · cases hv
      · rename_i s g off k
        split at hv
        · rename_i hg
          split at hv
          · rename_i ty fz nl L hk
            simp at hv
            obtain ⟨rfl, rfl⟩ := hv
            obtain ⟨hsk, hsg⟩ := hl s (by simp)
            rw [hk] at hsk
            have hget : st.o.get s = ⟨g, .nrow ty true nl L⟩ := by
              cases hTs : st.o.get s; rw [hTs] at hsk hsg; simp at hsk hsg; subst hsk hsg; rw [hg]; rfl
            obtain ⟨hle0, hr'⟩ := hr.nwin_ hget
            have hwl : ((L.l.take (off + k)).drop off).length = k := by simp; omega
            have hwc : (⟨L.e, (L.l.take (off + k)).drop off⟩ : TL).cells = (L.cells.take ((off + k) * L.e.size)).drop (off * L.e.size) := flat_cut L.e L.l off (off + k)
            refine .lst ?_
            rw [hwc]
            show Rp _ _ (.sl ((L.l.take (off + k)).drop off).length _) _
            rw [hwl]
            have hmul : (off + k) * L.e.size = off * L.e.size + k * L.e.size := Nat.add_mul _ _ _
            rcases hr' with ⟨h1, h2, p, rfl⟩ | ⟨hn, ho⟩
            · have e1 : L.l.length = 0 := by rw [h2]; rfl
              have e2 : L.cells = [] := by simp [TL.cells, h2]
              have e3 : k = 0 := by omega
              rw [e2, e3]
              simp only [List.take_nil, List.drop_nil]
              cases p with
              | none => exact .slz
              | some a => exact .sl (vs := []) (Nat.le_refl _) (by simp) rfl (by simp)
            · have hlv : st.o.live s := by simp only [Tab.live, hget, OK.live]; exact hn
              obtain ⟨ad, c, cap, arr, ty1, fz1, rfl, hb, hmem, has, hn', hcap, hpl⟩ := ho
              have hob := h.tr.ob s
              rw [hget] at hob
              obtain ⟨arr2, fz2, cap2, hh2, _, has2, hsz0, hle2, hc2⟩ := hob.resolve_left hn
              rw [hmem] at hh2
              injection hh2 with hh2; injection hh2 with e1 e2 e3; subst e1
              have hcl := L.cells_length
              have hin : (off + k) * L.e.size ≤ L.cells.length := by rw [hcl]; exact Nat.mul_le_mul_right _ hle0
              have hlr : LR (Rp (Stable κ.D st.o ι w) w) ((L.cells.take ((off + k) * L.e.size)).drop (off * L.e.size)) ((arr.toList.take ((off + k) * L.e.size)).drop (off * L.e.size)) :=
                LR.drop ⟨by simp; omega, fun i d u hd hu => by
                  rw [List.getElem?_take] at hd hu
                  split at hd
                  · rename_i hi; rw [if_pos hi] at hu; exact (hc2 i d u hd hu).pure_ (TL.pure_cells hd)
                  · cases hd⟩ _
              refine .sl (vs := (arr.toList.take ((off + k) * L.e.size)).drop (off * L.e.size)) (by omega) (fun i u hu => ?_) hlr.1 hlr.2
              rw [List.getElem?_drop, List.getElem?_take] at hu
              split at hu
              · rename_i hi
                have hk0 : k ≠ 0 := by rintro rfl; omega
                have := hpl (by omega); subst this
                have hadd : (⟨ι s, off * L.e.size, none⟩ : Addr).add i = ⟨ι s, off * L.e.size + i, none⟩ := by unfold Addr.add; split <;> simp_all
                rw [hadd]
                refine ⟨⟨?_, h.tr.lt s hlv, fun t ht e => ?_⟩, ?_⟩
                · rcases h.my s hlv with h1 | h1
                  · exact .inr (.inl h1)
                  · exact .inr (.inr h1)
                · have := h.tr.inj t s ht hlv e
                  subst this
                  rw [hget]
                  show off * L.e.size + i < L.l.length * L.e.size
                  omega
                · simp [World.cell?, hmem]
                  simpa using hu
              · cases hu
          · cases hv
        · cases hv
      · cases hv

end
end Go.Abs
