/- A call, as the machine runs it, rows lent and handed over. -/
import Derived.Test.YtiaoojocpcldmaaGreatExtA
namespace Go.Abs
open Go.RowKit
set_option linter.unusedVariables false
set_option linter.unusedSimpArgs false

/-- A row that is lent. -/
def lend1 (T : Tab) (bs : List Nat) (v : V) : Option (V × List Nat × List Nat) :=
  match v with
  | .acc s g => if (T.get s).gen = g ∧ bs.contains s = false then (match (T.get s).k with
    | .nrow _ false _ _ => some (.acc (1000000 + bs.length) 0, [], bs ++ [s])
    | _ => none) else none
  | _ => none
def viewArgs (n : Nat) (T : Tab) (ld : List Nat) : Nat → List Nat → List V → Option (List V × List Nat × List Nat)
  | _, bs, [] => some ([], [], bs)
  | i, bs, v :: r => match (if ld.contains i = true then lend1 T bs v else viewA n T bs v) with
    | some (x, l, bs') => match viewArgs n T ld (i + 1) bs' r with
      | some (xs, l', bs'') => some (x :: xs, l ++ l', bs'')
      | none => none
    | none => none
/-- The borrowed objects as the callee sees them. -/
def boxes2 (n : Nat) (T : Tab) : List Nat → Option (List OK × List Nat)
  | [] => some ([], [])
  | s :: r => match (match (T.get s).k with
      | .box ty cs => (mapV (view n T) cs).map fun p => (OK.box ty p.1, p.2)
      | .nrow ty false nl L => some (OK.nrow ty false nl L, [])
      | _ => none) with
    | some (k, l) => match boxes2 n T r with
      | some (ks, l') => some (k :: ks, l ++ l')
      | none => none
    | none => none
def revive2 (T : Tab) : List Nat → List OK → Option Tab
  | [], [] => some T
  | s :: r, k :: lb' => match (match (T.get s).k, k with
      | .box ty _, .box ty' cs => if ty = ty' ∧ pureL cs = true then some (Ob.mk (T.get s).gen (.box ty cs)) else none
      | .nrow ty false nl L, .nrow ty' false nl' L' => if ty = ty' ∧ nl = nl' ∧ L'.e = L.e then some (Ob.mk (T.get s).gen (.nrow ty false nl L')) else none
      | .nrow ty false nl L, .dead => some (Ob.mk ((T.get s).gen + 1) .dead)
      | _, _ => none) with
    | some o => revive2 (T.put s o) r lb'
    | none => none
  | _, _ => none
/-- What must hold of rows that were lent: they are as long as they were. -/
def lens2 (T : Tab) : List Nat → List OK → List Bool
  | s :: r, k :: lb' => match (T.get s).k, k with
    | .nrow _ _ _ L, .nrow _ _ _ L' => decide (L'.l.length = L.l.length) :: lens2 T r lb'
    | _, _ => lens2 T r lb'
  | _, _ => []
theorem lens2_ok {T : Tab} : ∀ (bs : List Nat) (lb' : List OK), (lens2 T bs lb').all id = true → ∀ (j s : Nat) (ty ty' : Nat) (fz fz' nl nl' : Bool) (L L' : TL), bs[j]? = some s → (T.get s).k = .nrow ty fz nl L → lb'[j]? = some (.nrow ty' fz' nl' L') → L'.l.length = L.l.length
  | [], lb', _, j, s, _, _, _, _, _, _, _, _, hs, _, _ => by simp at hs
  | _ :: _, [], _, j, s, _, _, _, _, _, _, _, _, _, _, hk => by simp at hk
  | s0 :: r, k0 :: lb', h, j, s, ty, ty', fz, fz', nl, nl', L, L', hs, hT, hk => by
    cases j with
    | zero =>
      simp at hs hk
      subst hs hk
      simp only [lens2, hT, List.all_cons, Bool.and_eq_true, id, decide_eq_true_eq] at h
      exact h.1
    | succ j =>
      refine lens2_ok r lb' ?_ j s ty ty' fz fz' nl nl' L L' (by simpa using hs) hT (by simpa using hk)
      simp only [lens2] at h
      split at h
      · simp only [List.all_cons, Bool.and_eq_true] at h; exact h.2
      · exact h
def okFresh2 : OK → Bool
  | .row _ _ _ cs => pureL cs
  | .box _ cs => pureL cs
  | .nrow _ _ _ _ => true
  | _ => false
def fresh2 (bs : List Nat) (d : Nat) (T : Tab) : Nat → List OK → Option Tab
  | _, [] => some T
  | j, k :: r => if okFresh2 k = true ∧ bs.contains (fsite d j) = false then fresh2 bs d (T.put (fsite d j) ⟨(T.get (fsite d j)).gen + 1, k⟩) (j + 1) r else none
/-- A call's end. -/
def fin2 (T : Tab) (l bs : List Nat) (d : Nat) (res : V) (lb' lf : List OK) : Option (V × Tab) :=
  if lf.length ≤ 4 ∧ bs.all (fun s => !l.contains s) = true ∧ (lens2 T bs lb').all id = true then
    match revive2 (if flatAll res lb' lf = true then T else T.freezes l) bs lb' with
    | some T2 => match fresh2 bs d T2 0 lf with
      | some T3 => (ren T3 bs d lf.length res).map fun v => (v, T3)
      | none => none
    | none => none
  else none
def aCall2 (Γ : Orc) (Λ : Lend) (T : Tab) (f : Nat) (args : List V) (d : Nat) : Option (V × Tab) :=
  match viewArgs depth T (Λ f) 0 [] args with
  | some (xs, l, bs) =>
    if bs.Nodup ∧ bs.length < 1000000 then
      match boxes2 depth T bs with
      | some (lb, l2) =>
        match Γ f xs lb with
        | some (res, lb', lf) => fin2 T (l ++ l2) bs d res lb' lf
        | none => none
      | none => none
    else none
  | none => none

theorem boxes2_ok {n : Nat} {T : Tab} : ∀ (bs : List Nat) (lb : List OK) (l2 : List Nat), boxes2 n T bs = some (lb, l2) → lb.length = bs.length ∧
    ∀ (j s : Nat), bs[j]? = some s → (∃ ty cs xs l', (T.get s).k = .box ty cs ∧ lb[j]? = some (.box ty xs) ∧ mapV (view n T) cs = some (xs, l') ∧ ∀ s' ∈ l', s' ∈ l2) ∨
      (∃ ty nl L, (T.get s).k = .nrow ty false nl L ∧ lb[j]? = some (.nrow ty false nl L))
  | [], lb, l2, h => by simp [boxes2] at h; obtain ⟨rfl, rfl⟩ := h; simp
  | s :: r, lb, l2, h => by
    simp only [boxes2] at h
    split at h
    · rename_i k l hk
      split at h
      · rename_i ks l' hr
        simp at h
        obtain ⟨rfl, rfl⟩ := h
        obtain ⟨h0, h1⟩ := boxes2_ok r ks l' hr
        refine ⟨by simp [h0], fun j u hu => ?_⟩
        cases j with
        | zero =>
          simp at hu; subst hu
          split at hk
          · rename_i ty cs e
            cases hm : mapV (view n T) cs with
            | none => simp [hm] at hk
            | some p =>
              simp [hm] at hk
              obtain ⟨rfl, rfl⟩ := hk
              exact .inl ⟨ty, cs, p.1, p.2, e, rfl, hm, fun s' hs' => by simp [hs']⟩
          · rename_i ty nl L e
            simp at hk
            obtain ⟨rfl, rfl⟩ := hk
            exact .inr ⟨ty, nl, L, e, rfl⟩
          · cases hk
        | succ j =>
          simp at hu
          rcases h1 j u hu with ⟨ty1, cs1, xs1, l1, e1, e2, e3, e4⟩ | ⟨ty, nl, L, e1, e2⟩
          · exact .inl ⟨ty1, cs1, xs1, l1, e1, by simpa using e2, e3, fun s' hs' => by simp [e4 s' hs']⟩
          · exact .inr ⟨ty, nl, L, e1, by simpa using e2⟩
      · cases h
    · cases h

theorem revive2_ok : ∀ (bs : List Nat) (lb' : List OK) (T T2 : Tab), bs.Nodup → revive2 T bs lb' = some T2 → bs.length = lb'.length ∧ (∀ t, t ∉ bs → T2.get t = T.get t) ∧
    ∀ (j s : Nat), bs[j]? = some s → (∃ ty cs cs', (T.get s).k = .box ty cs ∧ lb'[j]? = some (.box ty cs') ∧ pureL cs' = true ∧ T2.get s = ⟨(T.get s).gen, .box ty cs'⟩) ∨
      (∃ ty nl L L', (T.get s).k = .nrow ty false nl L ∧ lb'[j]? = some (.nrow ty false nl L') ∧ T2.get s = ⟨(T.get s).gen, .nrow ty false nl L'⟩ ∧ L'.e = L.e) ∨
      (∃ ty nl L, (T.get s).k = .nrow ty false nl L ∧ lb'[j]? = some .dead ∧ T2.get s = ⟨(T.get s).gen + 1, .dead⟩)
  | [], [], T, T2, _, h => by simp [revive2] at h; subst h; simp
  | [], _ :: _, T, T2, _, h => by simp [revive2] at h
  | _ :: _, [], T, T2, _, h => by simp [revive2] at h
  | s :: r, k :: lb', T, T2, hn, h => by
    simp only [List.nodup_cons] at hn
    simp only [revive2] at h
    split at h
    · rename_i o ho
      obtain ⟨h0, h1, h2⟩ := revive2_ok r lb' _ T2 hn.2 h
      refine ⟨by simp [h0], fun t ht => ?_, fun j u hu => ?_⟩
      · simp only [List.mem_cons, not_or] at ht
        rw [h1 t ht.2, Tab.get_put, if_neg (Ne.symm ht.1)]
      · cases j with
        | zero =>
          simp at hu; subst hu
          have e2 : T2.get s = o := by rw [h1 s hn.1, Tab.get_put, if_pos rfl]
          split at ho
          · rename_i ty cs ty' cs' hk
            split at ho
            · rename_i hc
              obtain ⟨rfl, hp⟩ := hc
              injection ho with ho
              exact .inl ⟨ty, cs, cs', hk, rfl, hp, by rw [e2, ← ho]⟩
            · cases ho
          · rename_i ty nl L ty' nl' L' hk
            split at ho
            · rename_i hc
              obtain ⟨rfl, rfl, a1⟩ := hc
              injection ho with ho
              exact .inr (.inl ⟨ty, nl, L, L', hk, rfl, by rw [e2, ← ho], a1⟩)
            · cases ho
          · rename_i ty nl L hk
            injection ho with ho
            exact .inr (.inr ⟨ty, nl, L, hk, rfl, by rw [e2, ← ho]⟩)
          · cases ho
        | succ j =>
          simp at hu
          have hne : s ≠ u := by rintro rfl; exact hn.1 (List.mem_of_getElem? hu)
          have := h2 j u hu
          rw [Tab.get_put, if_neg hne] at this
          simpa using this
    · cases h

theorem fresh2_ok (bs : List Nat) (d : Nat) : ∀ (lf : List OK) (j0 : Nat) (T T3 : Tab), fresh2 bs d T j0 lf = some T3 → (∀ t, (∀ j, j < lf.length → t ≠ fsite d (j0 + j)) → T3.get t = T.get t) ∧
    ∀ (j : Nat) (k : OK), lf[j]? = some k → okFresh2 k = true ∧ fsite d (j0 + j) ∉ bs ∧ T3.get (fsite d (j0 + j)) = ⟨(T.get (fsite d (j0 + j))).gen + 1, k⟩
  | [], j0, T, T3, h => by simp [fresh2] at h; subst h; simp
  | k :: r, j0, T, T3, h => by
    simp only [fresh2] at h
    split at h
    · rename_i hc
      obtain ⟨h1, h2⟩ := fresh2_ok bs d r (j0 + 1) _ T3 h
      refine ⟨fun t ht => ?_, fun j k' hk => ?_⟩
      · rw [h1 t fun j hj => by have := ht (j + 1) (by simp; omega); rwa [show j0 + 1 + j = j0 + (j + 1) from by omega], Tab.get_put, if_neg]
        exact fun e => ht 0 (by simp) (by rw [← e]; rfl)
      · cases j with
        | zero =>
          simp at hk; subst hk
          refine ⟨hc.1, by simpa using hc.2, ?_⟩
          rw [h1 _ fun j hj e => by have := fsite_inj e; omega]
          simp [Tab.get_put]
        | succ j =>
          simp at hk
          obtain ⟨a1, a2, a3⟩ := h2 j k' hk
          rw [show j0 + 1 + j = j0 + (j + 1) from by omega] at a2 a3
          refine ⟨a1, a2, ?_⟩
          rw [a3, Tab.get_put, if_neg]
          intro e
          have := fsite_inj e
          omega
    · cases h

theorem lend1_pre {T : Tab} {bs bs' : List Nat} {v x : V} {l : List Nat} (h : lend1 T bs v = some (x, l, bs')) : ∃ r, bs' = bs ++ r := by
  unfold lend1 at h
  split at h
  · split at h
    · split at h
      · simp at h; exact ⟨[_], h.2.2.symm⟩
      · cases h
    · cases h
  · cases h
theorem viewArgs_pre {n : Nat} {T : Tab} {ld : List Nat} : ∀ (vs : List V) (i : Nat) (bs bs' : List Nat) (xs : List V) (l : List Nat), viewArgs n T ld i bs vs = some (xs, l, bs') → ∃ r, bs' = bs ++ r
  | [], i, bs, bs', xs, l, h => by simp [viewArgs] at h; exact ⟨[], by simp [h.2.2]⟩
  | v :: r, i, bs, bs', xs, l, h => by
    simp only [viewArgs] at h
    split at h
    · rename_i x l1 bs1 h1
      split at h
      · rename_i ys l2 bs2 h2
        simp at h
        have : ∃ r1, bs1 = bs ++ r1 := by
          split at h1
          · exact lend1_pre h1
          · exact viewA_pre h1
        obtain ⟨r1, e1⟩ := this
        obtain ⟨r2, e2⟩ := viewArgs_pre r (i + 1) bs1 bs2 ys l2 h2
        exact ⟨r1 ++ r2, by rw [← h.2.2, e2, e1, List.append_assoc]⟩
      · cases h
    · cases h

/-- What the callee is handed: as RA, or a row that is lent. -/
def RA2 (st : St) (κ : Cx) (ι : Nat → Nat) (w : World) (bs : List Nat) (x : V) (cv : Value) : Prop :=
  RA st κ ι w bs x cv ∨ ∃ j s g, bs[j]? = some s ∧ x = .acc (1000000 + j) 0 ∧ (st.o.get s).gen = g ∧ Rv st.o ι (Stable κ.D st.o ι w) w (.acc s g) cv
theorem RA.grow {st : St} {κ : Cx} {ι : Nat → Nat} {w : World} {bs r : List Nat} {x : V} {cv : Value} (h : RA st κ ι w bs x cv) : RA st κ ι w (bs ++ r) x cv := by
  rcases h with hp | ⟨j, off, s, hj, e1, e2⟩ | ⟨f, ys, us, e1, e2, hl⟩
  · exact .inl hp
  · exact .inr (.inl ⟨j, off, s, by rw [List.getElem?_append_left (List.getElem?_eq_some_iff.1 hj).1]; exact hj, e1, e2⟩)
  · refine .inr (.inr ⟨f, ys, us, e1, e2, hl.mono fun x u hxu => ?_⟩)
    rcases hxu with hp | ⟨j, off, s, hj, e1, e2⟩
    · exact .inl hp
    · exact .inr ⟨j, off, s, by rw [List.getElem?_append_left (List.getElem?_eq_some_iff.1 hj).1]; exact hj, e1, e2⟩
theorem RA2.grow {st : St} {κ : Cx} {ι : Nat → Nat} {w : World} {bs r : List Nat} {x : V} {cv : Value} (h : RA2 st κ ι w bs x cv) : RA2 st κ ι w (bs ++ r) x cv := by
  rcases h with h | ⟨j, s, g, hj, e⟩
  · exact .inl h.grow
  · exact .inr ⟨j, s, g, by rw [List.getElem?_append_left (List.getElem?_eq_some_iff.1 hj).1]; exact hj, e⟩

section
variable {κ : Cx} {ι : Nat → Nat} {st : St} {a : Act} {w : World}

theorem viewArgs_ok (h : RelI κ ι st a w) {T : Tab} {n : Nat} {ld L : List Nat} (hl : ∀ s ∈ L, (st.o.get s).k = (T.get s).k.freeze ∧ (st.o.get s).gen = (T.get s).gen)
    (hbox : ∀ s ty cs, (T.get s).k = .box ty cs → st.o.get s = T.get s) :
    ∀ (vs : List V) (i : Nat) (bs bs' : List Nat) (xs : List V) (l : List Nat) (us : List Value), viewArgs n T ld i bs vs = some (xs, l, bs') → (∀ s ∈ l, s ∈ L) → (∀ s ∈ bs', (st.o.get s).gen = (T.get s).gen) →
      LR (Rv st.o ι (Stable κ.D st.o ι w) w) vs us → LR (RA2 st κ ι w bs') xs us
  | [], i, bs, bs', xs, l, us, h', _, _, hr => by
    simp [viewArgs] at h'
    obtain ⟨rfl, rfl, rfl⟩ := h'
    have : us = [] := List.eq_nil_of_length_eq_zero (by simpa using hr.1.symm)
    subst this
    exact .nil
  | v :: r, i, bs, bs', xs, l, us, h', hsub, hg, hr => by
    obtain ⟨u, us', rfl, hu, hr'⟩ := hr.head
    simp only [viewArgs] at h'
    split at h'
    · rename_i x l1 bs1 h1
      split at h'
      · rename_i ys l2 bs2 h2
        simp at h'
        obtain ⟨rfl, rfl, rfl⟩ := h'
        obtain ⟨r2, e2⟩ := viewArgs_pre r (i + 1) bs1 bs2 ys l2 h2
        refine .cons ?_ (viewArgs_ok h hl hbox r (i + 1) bs1 bs2 ys l2 us' h2 (fun s hs => hsub s (by simp [hs])) hg hr')
        rw [e2]
        refine RA2.grow ?_
        split at h1
        · unfold lend1 at h1
          split at h1
          · rename_i s g
            split at h1
            · rename_i hc
              split at h1
              · simp at h1
                obtain ⟨rfl, rfl, rfl⟩ := h1
                exact .inr ⟨bs.length, s, g, by simp, rfl, by rw [hg s (by rw [e2]; simp)]; exact hc.1, hu⟩
              · cases h1
            · cases h1
          · cases h1
        · exact .inl (viewA_ok h h1 (fun s hs => hl s (hsub s (by simp [hs]))) hbox hu)
      · cases h'
    · cases h'

set_option maxHeartbeats 1000000 in
theorem aCall2_ok {Γ : Orc} {Λ : Lend} (hΓ : ∀ f xs lb res lb' lf, Γ f xs lb = some (res, lb', lf) → Spec2 κ.P f xs lb res lb' lf) (h : RelI κ ι st a w) {f d : Nat} {args : List V} {v : V} {T' : Tab} {cargs : Array Value}
    (hx : aCall2 Γ Λ st.o f args d = some (v, T')) (hr : LR (Rv st.o ι (Stable κ.D st.o ι w) w) args cargs.toList) :
    Calls κ.P f cargs w fun e w' => ∃ cv ι', e = .returned cv ∧ To κ st.o ι w T' ι' w' ∧ Rv T' ι' (Stable κ.D T' ι' w') w' v cv := by
  unfold aCall2 at hx
  split at hx
  case h_2 => cases hx
  rename_i xs l bs hview
  split at hx
  case isFalse => cases hx
  rename_i hndl
  obtain ⟨hnd, hbl⟩ := hndl
  split at hx
  case h_2 => cases hx
  rename_i lb l2 hbox
  split at hx
  case h_2 => cases hx
  rename_i res lb' lf hg
  unfold fin2 at hx
  split at hx
  case isFalse => cases hx
  rename_i hc4
  obtain ⟨hlf4, hdis, hlens⟩ := hc4
  have hdis' : ∀ s ∈ bs, s ∉ l ++ l2 := fun s hs => by simpa using List.all_eq_true.1 hdis s hs
  split at hx
  case h_2 => cases hx
  rename_i T2 hrev
  split at hx
  case h_2 => cases hx
  rename_i T3 hfresh
  cases hren : ren T3 bs d lf.length res with
  | none => simp [hren] at hx
  | some v' =>
    simp [hren] at hx
    obtain ⟨rfl, rfl⟩ := hx
    -- what is handed on stays
    have hto1 := To.freezes h (l ++ l2)
    have h1 := To.rel h hto1
    have hgetF : ∀ s, (st.o.freezes (l ++ l2)).get s = if s ∈ l ++ l2 then ⟨(st.o.get s).gen, (st.o.get s).k.freeze⟩ else st.o.get s := fun s => Tab.get_freezes _ _ _
    generalize hT1 : st.o.freezes (l ++ l2) = T1 at *
    have hfz : ∀ s ∈ l ++ l2, (T1.get s).k = (st.o.get s).k.freeze ∧ (T1.get s).gen = (st.o.get s).gen := fun s hs => by rw [hgetF, if_pos hs]; exact ⟨rfl, rfl⟩
    have hgen : ∀ s, (T1.get s).gen = (st.o.get s).gen := fun s => by rw [hgetF]; split <;> rfl
    have hbx : ∀ s ty cs, (st.o.get s).k = .box ty cs → T1.get s = st.o.get s := by
      intro s ty cs hk
      rw [hgetF]
      split
      · cases hs : st.o.get s; rw [hs] at hk; simp at hk; subst hk; rfl
      · rfl
    have hsame : ∀ s ∈ bs, T1.get s = st.o.get s := fun s hs => by rw [hgetF, if_neg (hdis' s hs)]
    -- the table from which it goes on
    have base : ∃ Tb, Tb = (if flatAll res lb' lf = true then st.o else T1) ∧ To κ st.o ι w Tb ι w ∧ RelI κ ι { st with o := Tb } a w ∧ (∀ s ∈ bs, Tb.get s = st.o.get s) ∧ (flatAll res lb' lf = false → Tb = T1) := by
      by_cases hfl : flatAll res lb' lf = true
      · exact ⟨st.o, by rw [if_pos hfl], To.refl h, h, fun _ _ => rfl, fun e => by rw [hfl] at e; cases e⟩
      · exact ⟨T1, by rw [if_neg hfl], hto1, h1, hsame, fun _ => rfl⟩
    obtain ⟨Tb, hTb, htob, hb, hsb, hTb1⟩ := base
    rw [← hTb] at hrev
    obtain ⟨hlb, hboxes⟩ := boxes2_ok bs lb l2 hbox
    obtain ⟨hlb', hnotbs, hrevs0⟩ := revive2_ok bs lb' Tb T2 hnd hrev
    have hrevs : ∀ (j s : Nat), bs[j]? = some s → (∃ ty cs cs', (Tb.get s).k = .box ty cs ∧ lb'[j]? = some (.box ty cs') ∧ pureL cs' = true ∧ T2.get s = ⟨(Tb.get s).gen, .box ty cs'⟩) ∨
        (∃ ty nl L L', (Tb.get s).k = .nrow ty false nl L ∧ lb'[j]? = some (.nrow ty false nl L') ∧ T2.get s = ⟨(Tb.get s).gen, .nrow ty false nl L'⟩ ∧ L'.e = L.e ∧ L'.l.length = L.l.length) ∨
        (∃ ty nl L, (Tb.get s).k = .nrow ty false nl L ∧ lb'[j]? = some .dead ∧ T2.get s = ⟨(Tb.get s).gen + 1, .dead⟩) := fun j s hs => by
      rcases hrevs0 j s hs with q | ⟨ty, nl, L, L', e1, e2, e3, e4⟩ | q
      · exact .inl q
      · exact .inr (.inl ⟨ty, nl, L, L', e1, e2, e3, e4, lens2_ok bs lb' hlens j s ty ty false false nl nl L L' hs (by rw [← hsb s (List.mem_of_getElem? hs)]; exact e1) e2⟩)
      · exact .inr (.inr q)
    obtain ⟨hnotf, hfr⟩ := fresh2_ok bs d lf 0 T2 T3 hfresh
    simp only [Nat.zero_add] at hnotf hfr
    -- the borrowed objects' blocks
    let β : Nat → Nat := fun t => match bs[t - 1000000]? with | some s => ι s | none => 0
    let S : Addr → Prop := Stable κ.D T1 ι w
    have βeq : ∀ j s, bs[j]? = some s → β (1000000 + j) = ι s := by
      intro j s hs
      have : 1000000 + j - 1000000 = j := by omega
      simp only [β, this, hs]
    have getB : ∀ t k, (tabU lb []).get t = ⟨0, k⟩ → k.live → ∃ j s, t = 1000000 + j ∧ bs[j]? = some s ∧ lb[j]? = some k ∧ β t = ι s := by
      intro t k hk hl
      rw [get_tabU] at hk
      split at hk
      · rename_i k' hk'
        split at hk'
        · rename_i hge
          injection hk with _ e; subst e
          have hj : t - 1000000 < bs.length := by rw [← hlb]; exact (List.getElem?_eq_some_iff.1 hk').1
          refine ⟨t - 1000000, bs[t - 1000000], by omega, List.getElem?_eq_getElem hj, hk', ?_⟩
          simp only [β, List.getElem?_eq_getElem hj]
        · cases hk'
      · split at hk
        · rename_i hk'; simp at hk'
        · injection hk with _ e; subst e; exact hl.elim
    have liveB : ∀ t, (tabU lb []).live t → ∃ j s k, t = 1000000 + j ∧ bs[j]? = some s ∧ lb[j]? = some k ∧ β t = ι s ∧ (tabU lb []).get t = ⟨0, k⟩ ∧ k.live := by
      intro t hl
      have hg0 : ((tabU lb []).get t).gen = 0 := by
        rw [get_tabU]; split; · rfl
        · split <;> rfl
      have hgk : (tabU lb []).get t = ⟨0, ((tabU lb []).get t).k⟩ := by cases hq : (tabU lb []).get t; rw [hq] at hg0; simp at hg0; subst hg0; rfl
      obtain ⟨j, s, e1, e2, e3, e4⟩ := getB t _ hgk hl
      exact ⟨j, s, _, e1, e2, e3, e4, hgk, hl⟩
    have getBj : ∀ j k, lb[j]? = some k → (tabU lb []).get (1000000 + j) = ⟨0, k⟩ := by
      intro j k hk
      rw [get_tabU]
      have e2 : 1000000 + j - 1000000 = j := by omega
      simp only [show 1000000 ≤ 1000000 + j from by omega, if_true, e2, hk]
    -- the caller's own object of a borrowed one
    have own1 : ∀ (j s : Nat) (k : OK), bs[j]? = some s → lb[j]? = some k → (∃ ty cs xs l', (T1.get s).k = .box ty cs ∧ k = .box ty xs ∧ mapV (view depth st.o) cs = some (xs, l') ∧ ∀ s' ∈ l', s' ∈ l2) ∨
        (∃ ty nl L, (T1.get s).k = .nrow ty false nl L ∧ k = .nrow ty false nl L) := by
      intro j s k hs hk
      rw [hsame s (List.mem_of_getElem? hs)]
      rcases hboxes j s hs with ⟨ty, cs, xs', l', e1, e2, e3, e4⟩ | ⟨ty, nl, L, e1, e2⟩
      · rw [hk] at e2; injection e2 with e2; exact .inl ⟨ty, cs, xs', l', e1, e2, e3, e4⟩
      · rw [hk] at e2; injection e2 with e2; exact .inr ⟨ty, nl, L, e1, e2⟩
    have liveT1 : ∀ (j s : Nat) (k : OK), bs[j]? = some s → lb[j]? = some k → (k.live ↔ T1.live s) := by
      intro j s k hs hk
      rcases own1 j s k hs hk with ⟨ty, cs, xs', l', e1, e2, _⟩ | ⟨ty, nl, L, e1, e2⟩
      · subst e2; simp [Tab.live, e1, OK.live]
      · subst e2; simp [Tab.live, e1]
    have nfzT1 : ∀ (j s : Nat) (k : OK), bs[j]? = some s → lb[j]? = some k → ∀ o, ¬ (T1.get s).k.fzAt o := by
      intro j s k hs hk o hf
      rcases own1 j s k hs hk with ⟨ty, cs, xs', l', e1, e2, _⟩ | ⟨ty, nl, L, e1, e2⟩ <;> (rw [e1] at hf; exact hf)
    have hSB : ∀ p, S p → Stable S (tabU lb []) β w p := by
      intro p hp
      refine ⟨hp, hp.2.1, fun t hl e => ?_⟩
      obtain ⟨j, s, k, rfl, hs, hk, hβ, _, hkl⟩ := liveB t hl
      exact absurd (hp.2.2 s ((liveT1 j s k hs hk).1 hkl) (by rw [← hβ]; exact e)) (nfzT1 j s k hs hk _)
    have ptrB : ∀ (j off s : Nat), bs[j]? = some s → (∃ ty cs, (T1.get s).k = .box ty cs) → Rv (tabU lb []) β (Stable S (tabU lb []) β w) w (.ptr (1000000 + j) 0 off) (.pointer (some ⟨ι s, off, none⟩)) := by
      intro j off s hs _
      exact .ptr ⟨_, rfl⟩ (Nat.zero_le _) fun _ _ => by rw [βeq j s hs]
    have ptrB' : ∀ (j off s : Nat), bs[j]? = some s → Rv (tabU lb []) β (Stable S (tabU lb []) β w) w (.ptr (1000000 + j) 0 off) (.pointer (some ⟨ι s, off, none⟩)) := by
      intro j off s hs
      exact .ptr ⟨_, rfl⟩ (Nat.zero_le _) fun _ _ => by rw [βeq j s hs]
    have hTRB : TR S (tabU lb []) β w := by
      refine ⟨fun t => ?_, fun t u ht hu e => ?_, fun t ht => ?_⟩
      · by_cases hl : (tabU lb []).live t
        · obtain ⟨j, s, k, rfl, hs, hk, hβ, hgk, hkl⟩ := liveB t hl
          rw [hgk, hβ]
          have hob := h1.tr.ob s
          rcases own1 j s k hs hk with ⟨ty, cs, xs', l', e1, e2, e3, e4⟩ | ⟨ty, nl, L, e1, e2⟩
          · subst e2
            rw [e1] at hob
            obtain ⟨arr, fz, b1, b2, b3, b4⟩ := hob
            have hm := mapV_ok (R' := Rp (Stable κ.D T1 ι w) w) cs xs' l' arr.toList e3 ⟨by simp [b3], b4⟩ fun v x l'' u hm hv hs' hu =>
              view_ok h1 depth v x l'' u hv (fun s' hs'' => hfz s' (by simp [e4 s' (hs' s' hs'')])) hu
            refine ⟨arr, fz, b1, b2, by rw [b3]; exact (mapV_len cs xs' l' e3).symm, fun i dd u hd hu => .pure ((hm.2 i dd u hd hu).mono fun p hp => ⟨hSB p hp, rfl⟩)⟩
          · subst e2
            rw [e1] at hob
            rcases hob with hb' | ⟨arr, fz, cap, b1, b2, b3, b4, b5, b6⟩
            · exact .inl hb'
            · exact .inr ⟨arr, fz, cap, b1, b2, b3, b4, b5, fun i dd u hd hu => pure_lr hSB (TL.pure_cells hd) (b6 i dd u hd hu)⟩
        · cases hkk : ((tabU lb []).get t).k with
          | dead => trivial
          | nrow ty fz nl L =>
            left
            by_cases hn : nl = true ∧ L.l = []
            · exact hn
            · exact absurd (by simp only [Tab.live, hkk, OK.live]; exact hn) hl
          | _ => exact absurd (by simp [Tab.live, hkk, OK.live]) hl
      · obtain ⟨j, s, k, rfl, hs, hk, hβ, _, hkl⟩ := liveB t ht
        obtain ⟨j', s', k', rfl, hs', hk', hβ', _, hkl'⟩ := liveB u hu
        rw [hβ, hβ'] at e
        have := h1.tr.inj s s' ((liveT1 j s k hs hk).1 hkl) ((liveT1 j' s' k' hs' hk').1 hkl') e
        subst this
        have hj := List.getElem?_eq_some_iff.1 hs
        have hj' := List.getElem?_eq_some_iff.1 hs'
        have : j = j' := (List.getElem_inj hnd).1 (hj.2.trans hj'.2.symm)
        rw [this]
      · obtain ⟨j, s, k, rfl, hs, hk, hβ, _, hkl⟩ := liveB t ht
        rw [hβ]; exact h1.tr.lt s ((liveT1 j s k hs hk).1 hkl)
    have hargs : LR (Rv (tabU lb []) β (Stable S (tabU lb []) β w) w) xs cargs.toList := by
      have := viewArgs_ok (st := { st with o := T1 }) h1 (T := st.o) (L := l ++ l2) hfz hbx args 0 [] bs xs l cargs.toList hview (fun s hs => by simp [hs]) (fun s _ => hgen s) (hr.mono fun d u hd => hd.mono hto1.goes)
      refine this.mono fun x u hxu => ?_
      rcases hxu with (hp | ⟨j, off, s, hj, rfl, rfl⟩ | ⟨f, ys, us, rfl, rfl, hl⟩) | ⟨j, s, g, hj, rfl, hgs, hu⟩
      · exact .pure (hp.mono fun p hp => ⟨hSB p hp, rfl⟩)
      · exact ptrB' j off s hj
      · have : LR (Rv (tabU lb []) β (Stable S (tabU lb []) β w) w) ys us := hl.mono fun x u hxu => by
          rcases hxu with hp | ⟨j, off, s, hj, rfl, rfl⟩
          · exact .pure (hp.mono fun p hp => ⟨hSB p hp, rfl⟩)
          · exact ptrB' j off s hj
        exact .fn this.1 this.2
      · refine .acc hu.acc_form (Nat.zero_le _) fun ty fz nl L e => ?_
        have hlt : j < lb.length := by rw [hlb]; exact (List.getElem?_eq_some_iff.1 hj).1
        have hk := List.getElem?_eq_getElem hlt
        rw [getBj j _ hk] at e
        simp at e
        rcases own1 j s _ hj hk with ⟨ty', cs, xs', l', e1, e2, _⟩ | ⟨ty', nl', L', e1, e2⟩
        · rw [e] at e2; cases e2
        · rw [e] at e2
          injection e2 with q1 q2 q3 q4
          subst q1 q2 q3 q4
          have hT : T1.get s = ⟨g, .nrow ty false nl L⟩ := by cases hq : T1.get s; rw [hq] at e1 hgs; simp at e1 hgs; subst e1 hgs; rfl
          have := hu.acc_ hT
          rw [βeq j s hj]
          exact this
    refine (hΓ f xs lb res lb' lf hg w cargs β S hTRB hargs).mono fun e w' => ?_
    rintro ⟨cv, β', rfl, hkept, htrU, hres, hlen, hβ1, hβ2⟩
    let fs : List Nat := (List.range lf.length).map (fsite d)
    let ι' : Nat → Nat := fun t => if t ∈ fs then β' (2000000 + (t - d) / 100000) else ι t
    have mem_fs : ∀ t, t ∈ fs ↔ ∃ j, j < lf.length ∧ t = fsite d j := fun t => by
      simp only [fs, List.mem_map, List.mem_range]
      exact ⟨fun ⟨j, h1, h2⟩ => ⟨j, h1, h2.symm⟩, fun ⟨j, h1, h2⟩ => ⟨j, h1, h2.symm⟩⟩
    have ι_fs : ∀ j, j < lf.length → ι' (fsite d j) = β' (2000000 + j) := fun j hj => by
      have : (fsite d j - d) / 100000 = j := by unfold fsite; omega
      simp only [ι', if_pos ((mem_fs _).2 ⟨j, hj, rfl⟩), this]
    have ι_not : ∀ t, t ∉ fs → ι' t = ι t := fun t ht => by simp only [ι', if_neg ht]
    have bs_not : ∀ t ∈ bs, t ∉ fs := by
      intro t ht hf
      obtain ⟨j, hj, rfl⟩ := (mem_fs t).1 hf
      exact (hfr j lf[j] (List.getElem?_eq_getElem hj)).2.1 ht
    have T3_not : ∀ t, t ∉ fs → T3.get t = T2.get t := fun t ht => hnotf t fun j hj e => ht ((mem_fs t).2 ⟨j, hj, e⟩)
    have hbll : lb'.length < 1000000 := by omega
    have getUf : ∀ j k, lf[j]? = some k → (tabU lb' lf).get (2000000 + j) = ⟨0, k⟩ := by
      intro j k hk
      rw [get_tabU]
      have e1 : lb'[2000000 + j - 1000000]? = none := List.getElem?_eq_none (by omega)
      have e2 : 2000000 + j - 2000000 = j := by omega
      simp only [show 1000000 ≤ 2000000 + j from by omega, show 2000000 ≤ 2000000 + j from by omega, if_true, e1, e2, hk]
    have getUb : ∀ j k, lb'[j]? = some k → (tabU lb' lf).get (1000000 + j) = ⟨0, k⟩ := by
      intro j k hk
      rw [get_tabU]
      have e2 : 1000000 + j - 1000000 = j := by omega
      simp only [show 1000000 ≤ 1000000 + j from by omega, if_true, e2, hk]
    have h2 : ∀ t ∈ bs, t ∉ fs ∧ ι' t = ι t ∧ ((∃ ty cs cs', (Tb.get t).k = .box ty cs ∧ T3.get t = ⟨(Tb.get t).gen, .box ty cs'⟩) ∨
        (∃ ty nl L L', (Tb.get t).k = .nrow ty false nl L ∧ T3.get t = ⟨(Tb.get t).gen, .nrow ty false nl L'⟩ ∧ L'.e = L.e ∧ L'.l.length = L.l.length) ∨
        (∃ ty nl L, (Tb.get t).k = .nrow ty false nl L ∧ T3.get t = ⟨(Tb.get t).gen + 1, .dead⟩)) := by
      intro t ht
      obtain ⟨j, hj⟩ := List.mem_iff_getElem?.1 ht
      refine ⟨bs_not t ht, ι_not t (bs_not t ht), ?_⟩
      rw [T3_not t (bs_not t ht)]
      rcases hrevs j t hj with ⟨ty, cs, cs', e1, _, _, e2⟩ | ⟨ty, nl, L, L', e1, _, e2, e3, e4⟩ | ⟨ty, nl, L, e1, _, e2⟩
      · exact .inl ⟨ty, cs, cs', e1, e2⟩
      · exact .inr (.inl ⟨ty, nl, L, L', e1, e2, e3, e4⟩)
      · exact .inr (.inr ⟨ty, nl, L, e1, e2⟩)
    have liveU : ∀ j, j < lf.length → T3.live (fsite d j) → (tabU lb' lf).live (2000000 + j) := by
      intro j hj hl
      obtain ⟨a1, a2, a3⟩ := hfr j lf[j] (List.getElem?_eq_getElem hj)
      simp only [Tab.live, a3] at hl
      simp only [Tab.live, getUf j _ (List.getElem?_eq_getElem hj)]
      exact hl
    -- a block of one that is borrowed, in the table it goes on from
    have liveTb : ∀ s ∈ bs, (T1.live s ↔ Tb.live s) := fun s hs => by simp only [Tab.live, hsame s hs, hsb s hs]
    have deadT3 : ∀ (j s : Nat), bs[j]? = some s → lb'[j]? = some .dead → T3.get s = ⟨(Tb.get s).gen + 1, .dead⟩ := fun j s hs hj => by
      rcases hrevs j s hs with ⟨ty, cs, cs', _, q, _⟩ | ⟨ty, nl, L, L', _, q, _⟩ | ⟨ty, nl, L, _, q, q2⟩
      · rw [hj] at q; cases q
      · rw [hj] at q; cases q
      · rw [T3_not s (bs_not s (List.mem_of_getElem? hs)), q2]
    have h3 : ∀ t ∈ fs, (Tb.get t).gen < (T3.get t).gen ∧ (T3.live t → w.heap.size ≤ ι' t ∨ ∃ s ∈ bs, Tb.live s ∧ ι s = ι' t ∧ (T3.get s).k = .dead) := by
      intro t ht
      obtain ⟨j, hj, rfl⟩ := (mem_fs t).1 ht
      obtain ⟨a1, a2, a3⟩ := hfr j lf[j] (List.getElem?_eq_getElem hj)
      refine ⟨?_, fun hl => ?_⟩
      · rw [a3, hnotbs _ a2]; exact Nat.lt_succ_self _
      · rw [ι_fs j hj]
        rcases hβ2 j hj (liveU j hj hl) with q | ⟨i, hi, hil, hib⟩
        · exact .inl q
        · obtain ⟨i', s, k, e1, hs, hk, hβs, _, hkl⟩ := liveB _ hil
          have : i = i' := by omega
          subst this
          have hsm := List.mem_of_getElem? hs
          exact .inr ⟨s, hsm, (liveTb s hsm).1 ((liveT1 i s k hs hk).1 hkl), by rw [← hβs, hib], by rw [deadT3 i s hs hi]⟩
    have hSU : Tb = T1 → Goes κ.D Tb ι w T3 ι' w' → ∀ p, Stable (Dn S w.heap.size β lb lb') (tabU lb' lf) β' w' p → Stable κ.D T3 ι' w' p := by
      intro hTT H p hp
      rcases hp.1 with hs | hs | ⟨j, hj, hjl, hjb⟩
      · exact (H.st p (hTT ▸ hs)).1
      · refine ⟨.inr (.inl (Nat.le_trans h.kept.size hs)), hp.2.1, fun t hl e => ?_⟩
        by_cases hf : t ∈ fs
        · obtain ⟨j, hj, rfl⟩ := (mem_fs t).1 hf
          have := hp.2.2 (2000000 + j) (liveU j hj hl) (by rw [← ι_fs j hj]; exact e)
          rw [getUf j _ (List.getElem?_eq_getElem hj)] at this
          rw [(hfr j lf[j] (List.getElem?_eq_getElem hj)).2.2]
          exact this
        · rw [ι_not t hf] at e
          exfalso
          have hlt : ι t < w.heap.size := by
            by_cases hb' : t ∈ bs
            · obtain ⟨_, _, hh⟩ := h2 t hb'
              refine hb.tr.lt t ?_
              show Tb.live t
              rcases hh with ⟨ty, cs, cs', e1, e2⟩ | ⟨ty, nl, L, L', e1, e2, e3, e4⟩ | ⟨ty, nl, L, e1, e2⟩
              · simp [Tab.live, e1, OK.live]
              · simp only [Tab.live, e2, OK.live] at hl
                simp only [Tab.live, e1, OK.live]
                rintro ⟨a1, a2⟩
                exact hl ⟨a1, List.eq_nil_of_length_eq_zero (by rw [e4, a2]; rfl)⟩
              · simp [Tab.live, e2, OK.live] at hl
            · refine hb.tr.lt t ?_
              show Tb.live t
              have : T3.get t = Tb.get t := by rw [T3_not t hf, hnotbs t hb']
              simpa [Tab.live, this] using hl
          omega
      · obtain ⟨j', s, k, e1, hs, hk, hβs, _, hkl⟩ := liveB _ hjl
        have : j = j' := by omega
        subst this
        have hsl : T1.live s := (liveT1 j s k hs hk).1 hkl
        have hpb : ι s = p.block := by rw [← hβs]; exact hjb
        have hT3s := deadT3 j s hs hj
        refine ⟨?_, hp.2.1, fun t hl e => ?_⟩
        · rcases h1.my s hsl with q | q
          · exact .inr (.inl (by rw [← hpb]; exact q))
          · exact .inr (.inr (by rw [← hpb]; exact q))
        · have hslt : ι s < w.heap.size := h1.tr.lt s hsl
          by_cases hf : t ∈ fs
          · obtain ⟨i, hi, rfl⟩ := (mem_fs t).1 hf
            have := hp.2.2 (2000000 + i) (liveU i hi hl) (by rw [← ι_fs i hi]; exact e)
            rw [getUf i _ (List.getElem?_eq_getElem hi)] at this
            rw [(hfr i lf[i] (List.getElem?_eq_getElem hi)).2.2]
            exact this
          · exfalso
            rw [ι_not t hf] at e
            have hne : t ≠ s := by rintro rfl; simp [Tab.live, hT3s, OK.live] at hl
            have hlt : Tb.live t := by
              by_cases hb' : t ∈ bs
              · obtain ⟨_, _, hh⟩ := h2 t hb'
                rcases hh with ⟨ty, cs, cs', e1, e2⟩ | ⟨ty, nl, L, L', e1, e2, e3, e4⟩ | ⟨ty, nl, L, e1, e2⟩
                · simp [Tab.live, e1, OK.live]
                · simp only [Tab.live, e2, OK.live] at hl
                  simp only [Tab.live, e1, OK.live]
                  rintro ⟨a1, a2⟩
                  exact hl ⟨a1, List.eq_nil_of_length_eq_zero (by rw [e4, a2]; rfl)⟩
                · simp [Tab.live, e2, OK.live] at hl
              · have : T3.get t = Tb.get t := by rw [T3_not t hf, hnotbs t hb']
                simpa [Tab.live, this] using hl
            exact hne (hb.tr.inj t s hlt ((liveTb s (List.mem_of_getElem? hs)).1 hsl) (by rw [e, hpb]))
    have hmv : Goes κ.D Tb ι w T3 ι' w' → ∀ dd u, (flatAll res lb' lf = true → dd.flat = true) → dd.pure = true → Rv (tabU lb' lf) β' (Stable (Dn S w.heap.size β lb lb') (tabU lb' lf) β' w') w' dd u →
        Rv T3 ι' (Stable κ.D T3 ι' w') w' dd u := by
      intro H dd u hfl hp hu
      cases hff : flatAll res lb' lf with
      | true => exact .pure (flat_rp (hu.pure_ hp) (hfl hff))
      | false => exact pure_lr (hSU (hTb1 hff) H) hp hu
    have fl_lb : flatAll res lb' lf = true → ∀ (j : Nat) (k : OK), lb'[j]? = some k → k.flat = true := fun hf j k hk => by
      simp only [flatAll, Bool.and_eq_true] at hf; exact okAll_get hf.1.2 j k hk
    have fl_lf : flatAll res lb' lf = true → ∀ (j : Nat) (k : OK), lf[j]? = some k → k.flat = true := fun hf j k hk => by
      simp only [flatAll, Bool.and_eq_true] at hf; exact okAll_get hf.2 j k hk
    have flL : ∀ {L : TL} {i : Nat} {dd : V}, L.e.flatT = true → L.cells[i]? = some dd → dd.flat = true := fun {L i dd} hf hd => by
      have hm := List.mem_of_getElem? hd
      unfold TL.cells at hm
      obtain ⟨x, _, hx⟩ := List.mem_flatMap.1 hm
      exact flat_cellsV _ _ _ hf hx
    have hto2 : To κ Tb ι w T3 ι' w' := by
      refine call_to2 (st := { st with o := Tb }) hb bs fs (fun t hb hf => ⟨by rw [T3_not t hf, hnotbs t hb], ι_not t hf⟩) h2 h3 ?_ ?_ ?_ ?_
      · intro t ht hl
        obtain ⟨j, hj, rfl⟩ := (mem_fs t).1 ht
        rw [ι_fs j hj]
        exact htrU.lt _ (liveU j hj hl)
      · intro t ht u hu hlt hlu e
        obtain ⟨i, hi, rfl⟩ := (mem_fs t).1 ht
        obtain ⟨j, hj, rfl⟩ := (mem_fs u).1 hu
        rw [ι_fs i hi, ι_fs j hj] at e
        have := htrU.inj _ _ (liveU i hi hlt) (liveU j hj hlu) e
        have : i = j := by omega
        rw [this]
      · refine hkept.mono fun b _ hb => ?_
        obtain ⟨t, hl, e⟩ := hb
        obtain ⟨j, s, k, rfl, hs, hk, hβ, _, hkl⟩ := liveB t hl
        exact ⟨s, List.mem_of_getElem? hs, (liveTb s (List.mem_of_getElem? hs)).1 ((liveT1 j s k hs hk).1 hkl), by rw [← hβ, e]⟩
      · intro H t ht
        by_cases hf : t ∈ fs
        · obtain ⟨j, hj, rfl⟩ := (mem_fs t).1 hf
          obtain ⟨a1, a2, a3⟩ := hfr j lf[j] (List.getElem?_eq_getElem hj)
          have hob := htrU.ob (2000000 + j)
          have hfl := fun q => fl_lf q j lf[j] (List.getElem?_eq_getElem hj)
          rw [getUf j _ (List.getElem?_eq_getElem hj)] at hob
          rw [a3, ι_fs j hj]
          simp only at hob ⊢
          generalize lf[j] = k at *
          cases k with
          | box ty cs =>
            obtain ⟨arr, fz, b1, b2, b3, b4⟩ := hob
            exact ⟨arr, fz, b1, b2, b3, fun i dd u hd hu => hmv H dd u (fun q => flatL_get (hfl q) i dd hd) (pureL_get a1 i dd hd) (b4 i dd u hd hu)⟩
          | row ty sz fz0 cs =>
            obtain ⟨arr, fz, cap, b1, b2, b3, b4, b5, b6⟩ := hob
            exact ⟨arr, fz, cap, b1, b2, b3, b4, b5, fun i dd u hd hu => hmv H dd u (fun q => flatL_get (hfl q) i dd hd) (pureL_get a1 i dd hd) (b6 i dd u hd hu)⟩
          | dead => trivial
          | iter s pos => simp [okFresh2] at a1
          | mp M => simp [okFresh2] at a1
          | nrow ty fz0 nl L =>
            rcases hob with hb | ⟨arr, fz, cap, b1, b2, b3, b4, b5, b6⟩
            · exact .inl hb
            · exact .inr ⟨arr, fz, cap, b1, b2, b3, b4, b5, fun i dd u hd hu => hmv H dd u (fun q => flL (hfl q) hd) (TL.pure_cells hd) (b6 i dd u hd hu)⟩
        · have hb' : t ∈ bs := ht.resolve_right hf
          obtain ⟨j, hj⟩ := List.mem_iff_getElem?.1 hb'
          have hob := htrU.ob (1000000 + j)
          have hjl : j < lb.length := by rw [hlb]; exact (List.getElem?_eq_some_iff.1 hj).1
          rw [T3_not t hf, ι_not t hf]
          rcases hrevs j t hj with ⟨ty, cs, cs', e1, e2, e3, e4⟩ | ⟨ty, nl, L, L', e1, e2, e4, e5, e6⟩ | ⟨ty, nl, L, e1, e2, e4⟩
          · have hbb : β' (1000000 + j) = ι t := by rw [hβ1 j hjl (by simp [Tab.live, getUb j _ e2, OK.live]), βeq j t hj]
            rw [getUb j _ e2, hbb] at hob
            obtain ⟨arr, fz, b1, b2, b3, b4⟩ := hob
            rw [e4]
            exact ⟨arr, fz, b1, b2, b3, fun i dd u hd hu => hmv H dd u (fun q => flatL_get (fl_lb q j _ e2) i dd hd) (pureL_get e3 i dd hd) (b4 i dd u hd hu)⟩
          · rw [e4]
            rw [getUb j _ e2] at hob
            by_cases hn : nl = true ∧ L'.l = []
            · exact .inl hn
            · have hbb : β' (1000000 + j) = ι t := by rw [hβ1 j hjl (by simp only [Tab.live, getUb j _ e2, OK.live]; exact hn), βeq j t hj]
              rw [hbb] at hob
              rcases hob with hb | ⟨arr, fz, cap, b1, b2, b3, b4, b5, b6⟩
              · exact .inl hb
              · exact .inr ⟨arr, fz, cap, b1, b2, b3, b4, b5, fun i dd u hd hu => hmv H dd u (fun q => flL (fl_lb q j _ e2) hd) (TL.pure_cells hd) (b6 i dd u hd hu)⟩
          · rw [e4]; trivial
    have hren1 : ∀ (x y : V) (cx : Value), ren1 T3 bs d lf.length x = some y → (flatAll res lb' lf = true → flat1 x = true) → Rv (tabU lb' lf) β' (Stable (Dn S w.heap.size β lb lb') (tabU lb' lf) β' w') w' x cx →
        Rv T3 ι' (Stable κ.D T3 ι' w') w' y cx := by
      intro x y cx hxy hfl hcx
      unfold ren1 at hxy
      split at hxy
      · rename_i t
        split at hxy
        · rename_i hc
          injection hxy with hxy; subst hxy
          obtain ⟨hge, hlt⟩ := hc
          refine .acc hcx.acc_form (Nat.le_refl _) fun ty fz nl L e => ?_
          obtain ⟨a1, a2, a3⟩ := hfr (t - 2000000) lf[t - 2000000] (List.getElem?_eq_getElem hlt)
          rw [a3] at e
          simp at e
          have hg : (tabU lb' lf).get t = ⟨0, .nrow ty fz nl L⟩ := by
            have := getUf (t - 2000000) _ (List.getElem?_eq_getElem hlt)
            rw [show 2000000 + (t - 2000000) = t from by omega, e] at this
            exact this
          have := hcx.acc_ hg
          rw [ι_fs _ hlt, show 2000000 + (t - 2000000) = t from by omega]
          exact this
        · cases hxy
      · rename_i t off n
        split at hxy
        · rename_i hc
          injection hxy with hxy; subst hxy
          obtain ⟨hge, hlt⟩ := hc
          have hv : ∃ a c, cx = .slice (some a) n c := by
            cases hcx with
            | pure h => cases h
            | own hv _ _ => exact hv
          refine .own hv (Nat.le_refl _) fun ty sz fz0 cs e => ?_
          obtain ⟨a1, a2, a3⟩ := hfr (t - 2000000) lf[t - 2000000] (List.getElem?_eq_getElem hlt)
          rw [a3] at e
          simp at e
          have hg : (tabU lb' lf).get t = ⟨0, .row ty sz fz0 cs⟩ := by
            have := getUf (t - 2000000) _ (List.getElem?_eq_getElem hlt)
            rw [show 2000000 + (t - 2000000) = t from by omega, e] at this
            exact this
          have := hcx.own_ hg
          rw [ι_fs _ hlt, show 2000000 + (t - 2000000) = t from by omega]
          exact this
        · cases hxy
      · rename_i t off
        split at hxy
        · rename_i hge
          split at hxy
          · rename_i hlt
            injection hxy with hxy; subst hxy
            have hcx' : ∃ ad, cx = .pointer (some ad) := by
              cases hcx with
              | pure h => cases h
              | ptr hv _ _ => exact hv
            refine .ptr hcx' (Nat.le_refl _) fun _ hl3 => ?_
            have hlv := liveU _ hlt hl3
            rw [show 2000000 + (t - 2000000) = t from by omega] at hlv
            have hg : ((tabU lb' lf).get t).gen = 0 := by
              have := getUf (t - 2000000) _ (List.getElem?_eq_getElem hlt)
              rw [show 2000000 + (t - 2000000) = t from by omega] at this
              rw [this]
            have := hcx.ptr_ hg hlv
            subst this
            rw [ι_fs _ hlt, show 2000000 + (t - 2000000) = t from by omega]
          · cases hxy
        · split at hxy
          · rename_i hge
            split at hxy
            · rename_i s hs
              injection hxy with hxy; subst hxy
              have hcx' : ∃ ad, cx = .pointer (some ad) := by
                cases hcx with
                | pure h => cases h
                | ptr hv _ _ => exact hv
              refine .ptr hcx' (Nat.le_refl _) fun _ hl3 => ?_
              have hjl : t - 1000000 < lb.length := by rw [hlb]; exact (List.getElem?_eq_some_iff.1 hs).1
              have hsm := List.mem_of_getElem? hs
              have hlk : ∃ k, lb'[t - 1000000]? = some k ∧ k.live := by
                simp only [Tab.live, T3_not s (bs_not s hsm)] at hl3
                rcases hrevs _ s hs with ⟨ty, cs, cs', e1, e2, e3, e4⟩ | ⟨ty, nl, L, L', e1, e2, e4, e5, e6⟩ | ⟨ty, nl, L, e1, e2, e4⟩
                · exact ⟨_, e2, trivial⟩
                · rw [e4] at hl3; exact ⟨_, e2, hl3⟩
                · rw [e4] at hl3; exact hl3.elim
              obtain ⟨k, hk, hkl⟩ := hlk
              have hgU := getUb _ _ hk
              have hlU : (tabU lb' lf).live (1000000 + (t - 1000000)) := by simp only [Tab.live, hgU]; exact hkl
              have hbb := hβ1 _ hjl hlU
              rw [show 1000000 + (t - 1000000) = t from by omega] at hgU hlU hbb
              have := hcx.ptr_ (by rw [hgU]) hlU
              subst this
              have hb2 := βeq _ s hs
              rw [show 1000000 + (t - 1000000) = t from by omega] at hb2
              rw [hbb, hb2, ι_not s (bs_not s hsm)]
            · cases hxy
          · cases hxy
      · rename_i hna hno hnp
        split at hxy
        · rename_i hp
          injection hxy with hxy; subst hxy
          refine hmv hto2.goes x cx (fun q => ?_) hp hcx
          have := hfl q
          unfold flat1 at this
          split at this
          · simp [V.pure] at hp
          · simp [V.pure] at hp
          · simp [V.pure] at hp
          · exact this
        · cases hxy
    refine ⟨cv, ι', rfl, htob.trans hto2, ?_⟩
    have flr : flatAll res lb' lf = true → flatRes res = true := fun hf => by simp only [flatAll, Bool.and_eq_true] at hf; exact hf.1.1
    unfold ren at hren
    split at hren
    · rename_i vs
      obtain ⟨us, rfl, hl, hh⟩ := hres.tup_
      have flv : flatAll (.tup vs) lb' lf = true → ∀ x ∈ vs, flat1 x = true := fun q x hx => by
        have := flr q
        simp only [flatRes, List.all_eq_true] at this
        exact this x hx
      have hrl : ∀ (zs ys : List V) (us : List Value), renL T3 bs d lf.length zs = some ys → (∀ x ∈ zs, x ∈ vs) → LR (Rv (tabU lb' lf) β' (Stable (Dn S w.heap.size β lb lb') (tabU lb' lf) β' w') w') zs us →
          LR (Rv T3 ι' (Stable κ.D T3 ι' w') w') ys us := by
        intro zs
        induction zs with
        | nil =>
          intro ys us hy _ hlr
          simp [renL] at hy; subst hy
          have : us = [] := List.eq_nil_of_length_eq_zero (by simpa using hlr.1.symm)
          subst this
          exact .nil
        | cons x r ih =>
          intro ys us hy hm hlr
          obtain ⟨u, us', rfl, hu, hr'⟩ := hlr.head
          simp only [renL] at hy
          split at hy
          · rename_i y ys' hy1 hy2
            injection hy with hy; subst hy
            exact .cons (hren1 x y u hy1 (fun q => flv q x (hm x (by simp))) hu) (ih ys' us' hy2 (fun x hx => hm x (by simp [hx])) hr')
          · cases hy
      cases hrn : renL T3 bs d lf.length vs with
      | none => simp [hrn] at hren
      | some ys =>
        simp [hrn] at hren; subst hren
        have := hrl vs ys us hrn (fun _ h => h) ⟨hl, hh⟩
        exact .tup this.1 this.2
    · rename_i hnt
      refine hren1 res v' cv hren (fun q => ?_) hres
      have := flr q
      unfold flatRes at this
      split at this
      · rename_i vs; exact (hnt vs rfl).elim
      · exact this
end
end Go.Abs
