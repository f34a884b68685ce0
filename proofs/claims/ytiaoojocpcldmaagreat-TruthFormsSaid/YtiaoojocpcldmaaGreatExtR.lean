/- A state brought to a form, looked at first. -/
import Derived.Test.YtiaoojocpcldmaaGreatExtQ
namespace Go.Abs
open Go.RowKit
set_option linter.unusedVariables false
set_option linter.unusedSimpArgs false

section
variable {κ : Cx} {ι : Nat → Nat} {st : St} {a : Act} {w : World}

/-- A STATE BROUGHT TO A FORM. What of it stays as it is: base. -/
theorem canon1 {base : St} {p : Pat} {l : List TX} (hgv : κ.gv = []) (hn : base.n = st.n) (hb : ∀ t, base.get t = .undef ∨ (base.get t = st.get t ∧ (base.get t).still = true)) (hro : rowsOk p = true) (hx : dec1 st p = some l) (hr : Rel κ st a w) : Rel κ (patS1 base p l) a w := by
  obtain ⟨ι, h⟩ := hr
  unfold dec1 at hx
  split at hx
  case isFalse => cases hx
  rename_i hok
  simp only [patOk, Bool.and_eq_true, decide_eq_true_eq] at hok
  obtain ⟨⟨⟨hns, hg0⟩, hlk⟩, hcov⟩ := hok
  split at hx
  case h_2 => cases hx
  rename_i l1 l2 hsl hol
  injection hx with hx; subst hx
  generalize hL : linksOf st p = L at *
  obtain ⟨hs1, hs2⟩ := encSL_ok p.sl l1 l2 hsl
  have hol' := encOL_ok p.ob l2 [] hol
  rw [List.append_nil] at hol'
  obtain ⟨ho1, ho2, ho3⟩ := hol'
  have hT' : (patS1 base p (l1 ++ l2)).o = encOL p.ob l2 := by simp only [patS1, hs1]
  have hnd : ((encOL p.ob l2).map (·.1)).Nodup := by rw [ho1]; exact hns
  let ι' : Nat → Nat := fun s => match lookN L s with | some q => ι q | none => 0
  have hι' : ∀ s q, lookN L s = some q → ι' s = ι q := fun s q hq => by simp only [ι', hq]
  have hget : ∀ s k, (s, k) ∈ p.ob → ∃ l1 r1, decO L st.o s k = some l1 ∧ Tab.get (encOL p.ob l2) s = ⟨gen0 s, (encO k (l1 ++ r1)).1⟩ := fun s k hk => by
    obtain ⟨l3, r3, b1, b2⟩ := ho3 s k hk
    exact ⟨l3, r3, b1, aget_mem hnd b2⟩
  have hcase : ∀ s, Tab.get (encOL p.ob l2) s = ⟨0, .dead⟩ ∨ ∃ k l3 r3, (s, k) ∈ p.ob ∧ decO L st.o s k = some l3 ∧ Tab.get (encOL p.ob l2) s = ⟨gen0 s, (encO k (l3 ++ r3)).1⟩ := fun s => by
    rcases aget_cases (d := (⟨0, .dead⟩ : Ob)) (encOL p.ob l2) s with e | ⟨v, e1, e2⟩
    · exact .inl e
    · obtain ⟨k, l3, r3, b1, b2, b3⟩ := ho2 s v e1
      exact .inr ⟨k, l3, r3, b1, b2, by show aget _ _ _ = _; rw [e2, b3]⟩
  generalize hTT : encOL p.ob l2 = T' at *
  have hlive : ∀ s, T'.live s → ∃ q, lookN L s = some q ∧ st.o.live q ∧ ∀ o, (st.o.get q).k.fzAt o → (T'.get s).k.fzAt o := fun s hs => by
    rcases hcase s with e | ⟨k, l3, r3, b1, b2, b3⟩
    · simp [Tab.live, e, OK.live] at hs
    · rw [b3]
      exact decO_live k l3 r3 b2 (by simpa [Tab.live, b3] using hs)
  have hS : ∀ q, Stable κ.D st.o ι w q → Stable κ.D T' ι' w q := fun q hq => by
    refine ⟨hq.1, hq.2.1, fun s hs e => ?_⟩
    obtain ⟨q', h1, h2, h3⟩ := hlive s hs
    exact h3 _ (hq.2.2 q' h2 (by rw [← hι' s q' h1]; exact e))
  have F : Fm κ ι st.o w L T' ι' (Stable κ.D T' ι' w) := ⟨hS, hι', fun s q hq => by
    have hm := lookN_mem hq
    have hc := List.all_eq_true.1 hcov _ hm
    simp only [List.contains_eq_mem, List.mem_map, decide_eq_true_eq] at hc
    obtain ⟨e, he, hes⟩ := hc
    obtain ⟨s', k⟩ := e
    simp only at hes; subst hes
    obtain ⟨_, _, _, b⟩ := hget _ k he
    rw [b]⟩
  have hrowAt : ∀ s, (∃ k, (s, k) ∈ p.ob ∧ isNrow k = true) → RowAt st.o T' L s := fun s ⟨k, hk, hnr⟩ => by
    cases k with
    | nrow ty e fz nl =>
      obtain ⟨l3, r3, b1, b2⟩ := hget s _ hk
      unfold RowAt
      simp only [decO] at b1
      split at b1
      · rename_i q hq
        split at b1
        · rename_i ty' fz' nl' M hk'
          split at b1
          · rename_i hc
            obtain ⟨rfl, rfl, hc⟩ := hc
            split at b1
            · rename_i he
              obtain ⟨e', m⟩ := M
              simp only at he; subst he
              injection b1 with b1; subst b1
              refine ⟨fun ty2 fz2 nl2 M2 e2 => ?_, fun ty2 sz2 fz2 cs2 e2 => by rw [hk'] at e2; cases e2⟩
              rw [hk'] at e2
              injection e2 with q1 q2 q3 q4
              subst q1 q2 q3 q4
              exact ⟨ty, fz, by rw [b2]; rfl⟩
            · cases b1
          · cases b1
        · rename_i ty' sz fz' cs hk'
          split at b1
          · rename_i hc
            obtain ⟨rfl, rfl, hc, hne⟩ := hc
            split at b1
            · rename_i m hm
              injection b1 with b1; subst b1
              refine ⟨fun ty2 fz2 nl2 M2 e2 => (by rw [hk'] at e2; cases e2), fun ty2 sz2 fz2 cs2 e2 => ?_⟩
              rw [hk'] at e2
              injection e2 with q1 q2 q3 q4
              subst q1 q2 q3 q4
              have hob := h.tr.ob q
              rw [hk'] at hob
              obtain ⟨arr, fz1, cap, c1, c2, c3, c4, c5, c6⟩ := hob
              have hlr : LR (Rv st.o ι (Stable κ.D st.o ι w) w) cs (arr.toList.take cs.length) := ⟨by simp; omega, fun i d u hd hu => by
                rw [List.getElem?_take] at hu
                split at hu
                · exact c6 i d u hd hu
                · cases hu⟩
              obtain ⟨h5, _⟩ := impN_rv (impC_rv e) _ cs [] m _ hm hlr
              exact ⟨ty, fz, nl, ⟨e, m⟩, by rw [b2]; rfl, rfl, h5⟩
            · cases b1
          · cases b1
        · cases b1
      · rename_i hq
        split at b1
        · rename_i hnl
          injection b1 with b1; subst b1
          subst hnl
          exact ⟨ty, fz, ⟨e, []⟩, b2, rfl⟩
        · cases b1
    | box _ _ => cases hnr
    | iter => cases hnr
    | mp _ => cases hnr
  have hro' : ∀ s, s ∈ p.sl.flatMap (fun e => e.2.rows) ∨ s ∈ p.ob.flatMap (fun e => e.2.rows) → RowAt st.o T' L s := fun s hs => by
    have := List.all_eq_true.1 hro s (List.mem_append.2 hs)
    obtain ⟨e, he1, he2⟩ := List.any_eq_true.1 this
    simp only [Bool.and_eq_true, beq_iff_eq] at he2
    obtain ⟨s', k⟩ := e
    simp only at he2
    exact hrowAt s ⟨k, he2.1 ▸ he1, he2.2⟩
  refine ⟨ι', h.dfr, h.sz.trans hn.symm, fun t => ?_, ⟨fun s => ?_, fun s s' hs hs' e => ?_, fun s hs => ?_⟩, fun s hs => ?_, h.kept, fun s b hp hg hs => ?_, ?_⟩
  · -- slots
    rw [hT']
    show Rv T' ι' _ w (aget .undef ((encSL p.sl (l1 ++ l2)).1 ++ base.t) t) _
    have key : ∀ (m : List (Nat × V)), (∀ t v, (t, v) ∈ m → Rv T' ι' (Stable κ.D T' ι' w) w v (a.tmps.getD t undef)) →
        Rv T' ι' (Stable κ.D T' ι' w) w (aget .undef (m ++ base.t) t) (a.tmps.getD t undef) := by
      intro m
      induction m with
      | nil =>
        intro _
        have e0 : aget V.undef ([] ++ base.t) t = base.get t := rfl
        rw [e0]
        rcases hb t with e | ⟨e, hs⟩
        · rw [e]; exact .undef _
        · have := h.tm t
          rw [← e] at this
          exact .pure ((this.pure_ (V.still_pure _ hs)).mono fun p hp => ⟨hS p hp, rfl⟩)
      | cons q r ih =>
        intro hm
        obtain ⟨k, v⟩ := q
        simp only [List.cons_append, aget]
        split
        · rename_i e; subst e; exact hm k v (by simp)
        · exact ih fun t v hv => hm t v (by simp [hv])
    refine key _ fun t v hv => ?_
    obtain ⟨k, l3, r3, b1, b2, rfl⟩ := hs2 t v hv
    exact (decS_rv F (h.tm t) k l3 r3 b2 fun s hs => hro' s (.inl (List.mem_flatMap.2 ⟨(t, k), b1, hs⟩))).1
  · rw [hT']
    rcases hcase s with e | ⟨k, l3, r3, b1, b2, b3⟩
    · rw [e]; trivial
    · rw [b3]
      exact decO_rv h F k l3 r3 b2 fun s' hs' => hro' s' (.inr (List.mem_flatMap.2 ⟨(s, k), b1, hs'⟩))
  · rw [hT'] at hs hs'
    obtain ⟨q, h1, h2, _⟩ := hlive s hs
    obtain ⟨q', h1', h2', _⟩ := hlive s' hs'
    rw [hι' s q h1, hι' s' q' h1'] at e
    have := h.tr.inj q q' h2 h2' e
    subst this
    exact (lkOk_fun hlk (lookN_mem h1) (lookN_mem h1')).2 rfl
  · rw [hT'] at hs
    obtain ⟨q, h1, h2, _⟩ := hlive s hs
    rw [hι' s q h1]; exact h.tr.lt q h2
  · rw [hT'] at hs
    obtain ⟨q, h1, h2, _⟩ := hlive s hs
    rw [hι' s q h1]; exact h.my q h2
  · rw [hT'] at hs
    obtain ⟨q, h1, h2, _⟩ := hlive s hs
    have h3 := κ.hpin s b hp
    obtain ⟨e1, e2⟩ := lkOk_pin hlk (lookN_mem h1) (.inl h3)
    subst e1
    rw [hι' s s h1]
    exact h.pin s b hp e2 h2
  · rw [hgv]; exact .nil

/-! What is looked at first. -/
def viewR (st : St) (r : Nat) : St :=
  if (st.get r).pure = true then st else
  match view depth st.o (st.get r) with
  | some (x, l) => { st with t := (r, x) :: st.t, o := st.o.freezes l }
  | none => st
theorem Rel.viewR {r : Nat} (h : Rel κ st a w) : Rel κ (Abs.viewR st r) a w := by
  unfold Abs.viewR
  split
  · exact h
  split
  · rename_i x l hv
    obtain ⟨ι, h⟩ := h
    have hto := To.freezes h l
    have h1 := To.rel h hto
    refine ⟨ι, h1.dfr, h1.sz, fun t => ?_, h1.tr, h1.my, h1.kept, h1.pin, h1.gh⟩
    show Rv _ ι _ w (aget .undef ((r, x) :: st.t) t) _
    simp only [aget]
    split
    · rename_i e; subst e
      refine .pure (view_ok h1 (T := st.o) depth _ x l _ hv (fun s hs => ?_) (h1.tm r))
      have : (st.o.freezes l).get s = ⟨(st.o.get s).gen, (st.o.get s).k.freeze⟩ := by rw [Tab.get_freezes, if_pos hs]
      exact ⟨by rw [this], by rw [this]⟩
    · exact h1.tm t
  · exact h
theorem viewR_get {r t : Nat} (h : (st.get t).pure = true) : (Abs.viewR st r).get t = st.get t ∧ (Abs.viewR st r).n = st.n := by
  unfold Abs.viewR
  split
  · exact ⟨rfl, rfl⟩
  · rename_i hp
    split
    · refine ⟨?_, rfl⟩
      show aget .undef ((r, _) :: st.t) t = _
      simp only [aget]
      rw [if_neg]
      · rfl
      · rintro rfl; exact hp h
    · exact ⟨rfl, rfl⟩
/-- A box's cells, as pure ones. -/
def viewB (st : St) (q : Nat) : St :=
  match (st.o.get q).k with
  | .box ty cs => if pureL cs = true then st else
    match mapV (view depth st.o) cs with
    | some (xs, l) => { st with o := (st.o.freezes l).put q ⟨(st.o.get q).gen, .box ty xs⟩ }
    | none => st
  | _ => st
theorem Rel.viewB {q : Nat} (h : Rel κ st a w) : Rel κ (Abs.viewB st q) a w := by
  unfold Abs.viewB
  split
  · rename_i ty cs hk
    split
    · exact h
    split
    · rename_i xs l hm
      obtain ⟨ι, h⟩ := h
      have hto := To.freezes h l
      have h1 := To.rel h hto
      have hfz : ∀ s ∈ l, ((st.o.freezes l).get s).k = (st.o.get s).k.freeze ∧ ((st.o.freezes l).get s).gen = (st.o.get s).gen := fun s hs => by
        rw [Tab.get_freezes, if_pos hs]; exact ⟨rfl, rfl⟩
      have hk1 : (st.o.freezes l).get q = ⟨(st.o.get q).gen, .box ty cs⟩ := by
        rw [Tab.get_freezes]
        split
        · rw [hk]; rfl
        · cases hq : st.o.get q; rw [hq] at hk; simp at hk; subst hk; rfl
      generalize hT1 : st.o.freezes l = T1 at *
      have hl1 : T1.live q := by simp [Tab.live, hk1, OK.live]
      have hob := h1.tr.ob q
      have hob' : ObRel T1 ι (Stable κ.D T1 ι w) w (ι q) (.box ty cs) := by
        have e : (({ st with o := T1 } : St).o.get q).k = .box ty cs := by show (T1.get q).k = _; rw [hk1]
        rw [e] at hob; exact hob
      obtain ⟨arr, fz, b1, b2, b3, b4⟩ := hob'
      have hm2 := mapV_ok (R' := Rp (Stable κ.D T1 ι w) w) cs xs l arr.toList hm ⟨by simpa using b3.symm, b4⟩ fun v x l'' u hmv hv hs hu =>
        view_ok (st := { st with o := T1 }) h1 depth v x l'' u hv (fun s hs' => hfz s (hs s hs')) hu
      have hto2 : To κ T1 ι w (T1.put q ⟨(st.o.get q).gen, .box ty xs⟩) ι w := by
        refine To.turn (st := { st with o := T1 }) h1 q hl1 ⟨(st.o.get q).gen, .box ty xs⟩ rfl rfl rfl rfl (fun _ _ => rfl) (by show (T1.get q).gen ≤ _; rw [hk1]; exact Nat.le_refl _)
          (fun p _ hp => by have hp' : (T1.get q).k.fzAt p.off := hp; rw [hk1] at hp'; exact hp'.elim) (fun _ _ _ _ e => by cases e) (fun T' ι' H => ?_) (hsh := .same rfl)
        exact ⟨arr, fz, b1, b2, by rw [b3]; exact (mapV_len cs xs l hm).symm, fun i d u hd hu => .pure ((hm2.2 i d u hd hu).mono fun p hp => H.st p hp)⟩
      exact ⟨ι, To.rel (st := { st with o := T1 }) h1 hto2⟩
    · exact h
  · exact h
theorem viewB_get {q t : Nat} : (Abs.viewB st q).get t = st.get t ∧ (Abs.viewB st q).n = st.n := by
  unfold Abs.viewB
  split
  · split
    · exact ⟨rfl, rfl⟩
    · split <;> exact ⟨rfl, rfl⟩
  · exact ⟨rfl, rfl⟩
def pre1 (st : St) (e : Nat × SS) : St := match e.2 with
  | .val _ => Abs.viewR st e.1
  | _ => st
def preSl : List (Nat × SS) → St → St
  | [], st => st
  | e :: r, st => preSl r (pre1 st e)
def pre2 (L : Lk) (st : St) (e : Nat × OS) : St := match e.2 with
  | .box _ c => if c.rows.isEmpty then (match lookN L e.1 with
    | some q => Abs.viewB st q
    | none => st) else st
  | _ => st
def preOb (L : Lk) : List (Nat × OS) → St → St
  | [], st => st
  | e :: r, st => preOb L r (pre2 L st e)
def preV (st : St) (p : Pat) : St := preSl p.sl (preOb (linksOf st p) p.ob st)
theorem pre1_ok (st : St) (e : Nat × SS) : (Rel κ st a w → Rel κ (pre1 st e) a w) ∧ (pre1 st e).n = st.n ∧ ∀ t, (st.get t).pure = true → (pre1 st e).get t = st.get t := by
  unfold pre1
  split
  · refine ⟨fun h => h.viewR, ?_, fun t ht => (viewR_get ht).1⟩
    unfold Abs.viewR
    split
    · rfl
    · split <;> rfl
  · exact ⟨id, rfl, fun _ _ => rfl⟩
theorem preSl_ok : ∀ (m : List (Nat × SS)) (st : St), (Rel κ st a w → Rel κ (preSl m st) a w) ∧ (preSl m st).n = st.n ∧ ∀ t, (st.get t).pure = true → (preSl m st).get t = st.get t
  | [], st => ⟨id, rfl, fun _ _ => rfl⟩
  | e :: r, st => by
    obtain ⟨h1, h2, h3⟩ := preSl_ok r (pre1 st e)
    obtain ⟨a1, a2, a3⟩ := pre1_ok (κ := κ) (a := a) (w := w) st e
    simp only [preSl]
    exact ⟨fun h => h1 (a1 h), h2.trans a2, fun t ht => by rw [h3 t (by rw [a3 t ht]; exact ht), a3 t ht]⟩
theorem pre2_ok (L : Lk) (st : St) (e : Nat × OS) : (Rel κ st a w → Rel κ (pre2 L st e) a w) ∧ (pre2 L st e).n = st.n ∧ ∀ t, (pre2 L st e).get t = st.get t := by
  unfold pre2
  split
  · split
    · split
      · exact ⟨fun h => h.viewB, (viewB_get (t := 0)).2, fun t => viewB_get.1⟩
      · exact ⟨id, rfl, fun _ => rfl⟩
    · exact ⟨id, rfl, fun _ => rfl⟩
  · exact ⟨id, rfl, fun _ => rfl⟩
theorem preOb_ok {L : Lk} : ∀ (m : List (Nat × OS)) (st : St), (Rel κ st a w → Rel κ (preOb L m st) a w) ∧ (preOb L m st).n = st.n ∧ ∀ t, (preOb L m st).get t = st.get t
  | [], st => ⟨id, rfl, fun _ => rfl⟩
  | e :: r, st => by
    obtain ⟨h1, h2, h3⟩ := preOb_ok (L := L) r (pre2 L st e)
    obtain ⟨a1, a2, a3⟩ := pre2_ok (κ := κ) (a := a) (w := w) L st e
    simp only [preOb]
    exact ⟨fun h => h1 (a1 h), h2.trans a2, fun t => by rw [h3 t, a3 t]⟩
def decP (st : St) (p : Pat) : Option p.I := decP1 (preV st p) p

theorem canon {base : St} {p : Pat} {x : p.I} (hgv : κ.gv = []) (hn : base.n = st.n) (hb : ∀ t, base.get t = .undef ∨ (base.get t = st.get t ∧ (base.get t).still = true)) (hx : decP st p = some x) (hr : Rel κ st a w) : Rel κ (patS base p x) a w := by
  unfold decP decP1 at hx
  split at hx
  case isFalse => cases hx
  rename_i hro
  unfold decP0 at hx
  split at hx
  case h_2 => cases hx
  rename_i l hl
  have hp := unpack_pack _ _ _ hx
  unfold patS
  rw [hp]
  obtain ⟨a1, a2, a3⟩ := preOb_ok (κ := κ) (a := a) (w := w) (L := linksOf st p) p.ob st
  obtain ⟨b1, b2, b3⟩ := preSl_ok (κ := κ) (a := a) (w := w) p.sl (preOb (linksOf st p) p.ob st)
  refine canon1 (st := preV st p) hgv (by rw [hn]; exact (b2.trans a2).symm) (fun t => ?_) hro hl (b1 (a1 hr))
  rcases hb t with e | ⟨e1, e2⟩
  · exact .inl e
  · right
    refine ⟨?_, e2⟩
    have hpure : ((preOb (linksOf st p) p.ob st).get t).pure = true := by rw [a3 t, ← e1]; exact V.still_pure _ e2
    show base.get t = (preSl p.sl _).get t
    rw [b3 t hpure, a3 t, e1]
end
end Go.Abs
