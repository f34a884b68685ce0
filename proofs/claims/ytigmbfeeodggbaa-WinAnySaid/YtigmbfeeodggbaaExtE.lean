/- Code, by what becomes of it. -/
import Derived.Test.YtigmbfeeodggbaaExtF
namespace Go.Abs
open Go.RowKit
set_option linter.unusedVariables false
set_option linter.unusedSimpArgs false

/-- Which slots code may write. -/
def writes : Code → List Nat
  | .region _ ops _ => ops.toList.filterMap (·.dst)
  | .seq x y => writes x ++ writes y
  | .cond _ x y => writes x ++ writes y
  | .block _ c => writes c
  | .loop c => writes c
  | _ => []
/-- What stays, whatever the code does. -/
def baseOf (st : St) (c : Code) : St :=
  ⟨st.n, st.t.filterMap fun p => if (st.get p.1).still && !(writes c).contains p.1 then some (p.1, st.get p.1) else none, [], []⟩
def Ex.eqb : Ex → Ex → Bool
  | .normal, .normal => true
  | .exit i, .exit j => i == j
  | .ret, .ret => true
  | _, _ => false
theorem Ex.eqb_ok {a b : Ex} (h : a.eqb b = true) : a = b := by
  cases a <;> cases b <;> simp [Ex.eqb] at h ⊢
  exact h
/-- Ways out, each with its form. -/
abbrev XP := List (Ex × Pat)
def xI : XP → Type
  | [] => Empty
  | [q] => q.2.I
  | q :: r :: s => q.2.I ⊕ xI (r :: s)
def decX : (xs : XP) → Ex → St → Option (xI xs)
  | [], _, _ => none
  | [q], e, s => if q.1.eqb e = true then decP s q.2 else none
  | q :: r :: l, e, s => if q.1.eqb e = true then omap .inl (decP s q.2) else omap .inr (decX (r :: l) e s)
def encX (base : St) : (xs : XP) → xI xs → Tr (Ex × St)
  | [], _ => .fail
  | [q], x => frcS (patS base q.2 x) fun s => .ret (q.1, s)
  | q :: r :: l, x => .sm x (fun y => frcS (patS base q.2 y) fun s => .ret (q.1, s)) fun z => encX base (r :: l) z
inductive Hint where
  | none
  | cut (vs : List Nat) (xs : XP)
  | loop (vs : List Nat) (p : Pat) (xs : XP)
  | unroll (m : Nat)
  | reg (cs : List (Nat × List Nat × Pat))
def firstR : Code → Option Nat
  | .region id _ _ => some id
  | .seq x y => match firstR x with | some r => some r | none => firstR y
  | .cond _ x y => match firstR x with | some r => some r | none => firstR y
  | .block _ c => firstR c
  | .loop c => firstR c
  | _ => none
def hintOf (H : List (Nat × Hint)) (c : Code) : Hint := match firstR c with
  | some r => aget .none H r
  | none => .none
def inW (p : Pat) (c : Code) (st : St) : Bool := p.sl.all fun q => (writes c).contains q.1 || !(st.get q.1).still
def inX (xs : XP) (c : Code) (st : St) : Bool := xs.all fun q => inW q.2 c st

def viewS (st : St) (vs : List Nat) : St := vs.foldl Abs.viewR st
def unrollT (f : St → Tr (Ex × St)) : Nat → St → Tr (Ex × St)
  | 0, _ => .fail
  | m + 1, st => (f st).bind fun q => match q.1 with
    | .normal => unrollT f m q.2
    | _ => .ret q
def seqT (tx : Tr (Ex × St)) (f : St → Tr (Ex × St)) : Tr (Ex × St) := tx.bind fun q => match q.1 with
  | .normal => f q.2
  | _ => .ret q
def cutX (xs : XP) (x : Code) (f : St → Tr (Ex × St)) (st : St) : Tr (Ex × St) :=
  if inX xs x st = true then Tr.ob ((f st).elim fun q => decX xs q.1 q.2) fun r => encX (baseOf st x) xs r else .fail
def loopT (p : Pat) (xs : XP) (N : Nat) (c : Code) (f : St → Tr (Ex × St)) (st : St) : Tr (Ex × St) :=
  if inW p c st = true ∧ inX xs c st = true then (Tr.of (decP st p)).bind fun v0 => .ob (loopN N (fun v => (frcS (patS (baseOf st c) p v) f).elim fun q => match q.1 with
    | .normal => omap .inl (decP q.2 p)
    | e => omap .inr (decX xs e q.2)) v0) fun r => encX (baseOf st c) xs r
  else .fail
/-- A region in parts: what stands behind each part is brought to a form. -/
def segT (Γ : OrcT) (Λ : Lend) (P : Program) (opl : List Oper) : List (Nat × List Nat × Pat) → List Oper → St → Tr St
  | [], l, st => steps2F Γ Λ P opl l st
  | (k, vs, p) :: cs, l, st =>
    if inW p (.region 0 (l.take k).toArray false) (viewS st vs) = true then
      Tr.ob ((steps2F Γ Λ P opl (l.take k) (viewS st vs)).elim fun s => decP s p) fun v =>
        frcS (patS (baseOf (viewS st vs) (.region 0 (l.take k).toArray false)) p v) fun s => segT Γ Λ P opl cs (l.drop k) s
    else .fail
def regT (Γ : OrcT) (Λ : Lend) (P : Program) (h : Hint) (ops : Array Oper) (draw : Bool) (st : St) : Tr St := match h with
  | .reg cs => if draw = true then .fail else frcS (spill st ops.toList) fun s => segT Γ Λ P ops.toList cs ops.toList s
  | _ => regionF Γ Λ P ops draw st
/-- H: hints at loops, and at what stands behind others. N: how often loops go round at most. -/
def evT (Γ : OrcT) (Λ : Lend) (P : Program) (HL HC : List (Nat × Hint)) (N : Nat) : Nat → Code → St → Tr (Ex × St)
  | 0, _, _ => .fail
  | n + 1, c, st => match c with
    | .skip => .ret (.normal, st)
    | .label _ => .ret (.normal, st)
    | .exit id => .ret (.exit id, st)
    | .ret => .ret (.ret, st)
    | .region id ops draw => (regT Γ Λ P (aget .none HC (1000000 + id)) ops draw st).bind fun s => .ret (.normal, s)
    | .seq x y => seqT (match hintOf HC y with
        | .cut vs xs => cutX xs x (fun s => evT Γ Λ P HL HC N n x s) (viewS st vs)
        | _ => evT Γ Λ P HL HC N n x st) fun s => evT Γ Λ P HL HC N n y s
    | .cond c x y => match st.eval c with
      | .bool true => evT Γ Λ P HL HC N n x st
      | .bool false => evT Γ Λ P HL HC N n y st
      | .bs b => .ite b (evT Γ Λ P HL HC N n x st) (evT Γ Λ P HL HC N n y st)
      | _ => .fail
    | .block id c => (evT Γ Λ P HL HC N n c st).bind fun q => match q.1 with
      | .exit i => if i = id then .ret (.normal, q.2) else .ret q
      | _ => .ret q
    | .loop c => match hintOf HL c with
      | .loop vs p xs => loopT p xs N c (fun s => evT Γ Λ P HL HC N n c s) (viewS st vs)
      | .unroll m => unrollT (fun s => evT Γ Λ P HL HC N n c s) m st
      | _ => .fail
    | _ => .fail

/-! What stays. -/
def Keep (W : List Nat) (st s : St) : Prop := s.n = st.n ∧ s.g = [] ∧ ∀ t, t ∉ W → (st.get t).still = true → s.get t = st.get t
theorem Keep.refl {W : List Nat} {st : St} (h : st.g = []) : Keep W st st := ⟨rfl, h, fun _ _ _ => rfl⟩
theorem Keep.mono {W W' : List Nat} {st s : St} (h : Keep W st s) (hw : ∀ t, t ∈ W → t ∈ W') : Keep W' st s := ⟨h.1, h.2.1, fun t ht hs => h.2.2 t (fun e => ht (hw t e)) hs⟩
theorem Keep.trans {W : List Nat} {st s s' : St} (h : Keep W st s) (h' : Keep W s s') : Keep W st s' :=
  ⟨h'.1.trans h.1, h'.2.1, fun t ht hs => by rw [h'.2.2 t ht (by rw [h.2.2 t ht hs]; exact hs), h.2.2 t ht hs]⟩

theorem base_get (st : St) (c : Code) (t : Nat) : (baseOf st c).get t = .undef ∨ ((baseOf st c).get t = st.get t ∧ ((baseOf st c).get t).still = true) := by
  rcases aget_cases (d := V.undef) (baseOf st c).t t with e | ⟨v, e1, e2⟩
  · exact .inl e
  · right
    simp only [baseOf, List.mem_filterMap] at e1
    obtain ⟨p, _, hp⟩ := e1
    split at hp
    · rename_i hc
      simp only [Option.some.injEq, Prod.mk.injEq] at hp
      obtain ⟨rfl, rfl⟩ := hp
      have : (baseOf st c).get p.1 = st.get p.1 := e2
      rw [this]
      simp only [Bool.and_eq_true] at hc
      exact ⟨rfl, hc.1⟩
    · cases hp
theorem aget_key {α : Type} {d : α} : ∀ {l : List (Nat × α)} {q : Nat} {x : α}, (q, x) ∈ l → ∃ v, (q, v) ∈ l ∧ aget d l q = v
  | [], q, x, h => by simp at h
  | (k, y) :: r, q, x, h => by
    simp only [aget]
    by_cases e : k = q
    · subst e; exact ⟨y, by simp, by simp⟩
    · rw [if_neg e]
      rcases List.mem_cons.1 h with h | h
      · injection h with e1 _; exact absurd e1.symm e
      · obtain ⟨v, h1, h2⟩ := aget_key h
        exact ⟨v, by simp [h1], h2⟩
theorem base_keep {st : St} {c : Code} {t : Nat} (ht : t ∉ writes c) (hs : (st.get t).still = true) : (baseOf st c).get t = st.get t := by
  rcases aget_cases (d := V.undef) st.t t with e | ⟨v, e1, e2⟩
  · have : st.get t = .undef := e
    rw [this] at hs; simp [V.still] at hs
  · have hm : (t, st.get t) ∈ (baseOf st c).t := by
      simp only [baseOf, List.mem_filterMap]
      refine ⟨(t, v), e1, ?_⟩
      have : (writes c).contains t = false := by simpa using ht
      simp [hs, ht]
    obtain ⟨u, h1, h2⟩ := aget_key (d := V.undef) hm
    have h3 : (baseOf st c).get t = u := h2
    rcases base_get st c t with e | ⟨e, _⟩
    · rw [h3] at e
      subst e
      simp only [baseOf, List.mem_filterMap] at h1
      obtain ⟨p, _, hp⟩ := h1
      split at hp
      · rename_i hc
        simp only [Option.some.injEq, Prod.mk.injEq] at hp
        obtain ⟨rfl, hp⟩ := hp
        simp only [Bool.and_eq_true] at hc
        rw [hp] at hc; simp [V.still] at hc
      · cases hp
    · exact e
theorem base_written {st : St} {c : Code} {t : Nat} (ht : t ∈ writes c) : (baseOf st c).get t = .undef := by
  rcases aget_cases (d := V.undef) (baseOf st c).t t with e | ⟨v, e3, e4⟩
  · exact e
  · simp only [baseOf, List.mem_filterMap] at e3
    obtain ⟨q, _, hq⟩ := e3
    split at hq
    · rename_i hcc
      simp only [Option.some.injEq, Prod.mk.injEq] at hq
      obtain ⟨rfl, _⟩ := hq
      simp [ht] at hcc
    · cases hq
theorem encSL_keys : ∀ (m : List (Nat × SS)) (l : List TX) (t : Nat) (v : V), (t, v) ∈ (encSL m l).1 → ∃ p ∈ m, p.1 = t
  | [], l, t, v, h => by simp [encSL] at h
  | e :: m, l, t, v, h => by
    simp only [encSL] at h
    rcases List.mem_cons.1 h with h | h
    · injection h with h1 _; exact ⟨e, by simp, h1.symm⟩
    · obtain ⟨p, h1, h2⟩ := encSL_keys m _ t v h
      exact ⟨p, by simp [h1], h2⟩
theorem patS_keep {st : St} {c : Code} {p : Pat} {x : p.I} (hp : inW p c st = true) : Keep (writes c) st (patS (baseOf st c) p x) := by
  refine ⟨rfl, rfl, fun t ht hs => ?_⟩
  rw [← base_keep ht hs]
  show aget .undef ((encSL p.sl (unpackTs p.ts x)).1 ++ (baseOf st c).t) t = aget .undef (baseOf st c).t t
  have key : ∀ m : List (Nat × V), (∀ q v, (q, v) ∈ m → q ≠ t) → aget .undef (m ++ (baseOf st c).t) t = aget .undef (baseOf st c).t t := by
    intro m
    induction m with
    | nil => intro _; rfl
    | cons q r ih =>
      intro hm
      obtain ⟨k, v⟩ := q
      simp only [List.cons_append, aget]
      rw [if_neg (hm k v (by simp))]
      exact ih fun q v hq => hm q v (by simp [hq])
  refine key _ fun q v hq e => ?_
  subst e
  obtain ⟨p', h1, rfl⟩ := encSL_keys p.sl _ q v hq
  have := List.all_eq_true.1 hp p' h1
  simp only [Bool.or_eq_true, Bool.not_eq_true'] at this
  rcases this with h2 | h2
  · exact ht (by simpa using h2)
  · rw [hs] at h2; cases h2

/-! A region writes its own slots. -/
theorem set_keep {st st' : St} {d : Option Nat} {v : V} {W : List Nat} (hg : st.g = []) (h : st.set d v = some st') (hd : ∀ t, d = some t → t ∈ W) : Keep W st st' := by
  obtain ⟨h1, h2, h3, h4⟩ := set_get h
  refine ⟨h1, (set_g h).trans hg, fun t ht _ => ?_⟩
  rw [h4, if_neg]
  intro e
  exact ht (hd t e)
theorem Keep.tab {W : List Nat} {st s : St} {T : Tab} (h : Keep W ({ st with o := T } : St) s) : Keep W st s := h
theorem steps2_keep {Γ : OrcT} {Λ : Lend} {P : Program} {opl : List Oper} {W : List Nat} : ∀ (l : List Oper) (st st' : St), st.g = [] → (∀ o ∈ l, ∀ t, o.dst = some t → t ∈ W) → (steps2 Γ Λ P opl l st).run = some st' → Keep W st st'
  | [], st, st', hg, _, h => by have := ret_run h; subst this; exact .refl hg
  | o :: r, st, st', hg, hd, h => by
    obtain ⟨s1, h1, h2⟩ := bind_run h
    have hk : Keep W st s1 := by
      unfold step2 at h1
      split at h1
      · exact set_keep hg (of_run h1) (hd o (by simp))
      · obtain ⟨q, _, h3⟩ := bind_run h1
        obtain ⟨v, _, h4⟩ := bind_run h3
        exact (set_keep (st := { st with o := q.2 }) hg (of_run h4) (hd o (by simp))).tab
      · cases h1
    exact hk.trans (steps2_keep r s1 st' hk.2.1 (fun o ho => hd o (by simp [ho])) h2)
theorem drun_keep {Γ : Orc} {P : Program} {opl : List Oper} {W : List Nat} : ∀ (l : List Oper) (st : St) (rs : List Rec) (st' : St), st.g = [] → (∀ o ∈ l, ∀ t, o.dst = some t → t ∈ W) → drun Γ P opl l st = some (rs, st') → Keep W st st'
  | [], st, rs, st', hg, _, h => by simp [drun] at h; rw [← h.2]; exact .refl hg
  | o :: r, st, rs, st', hg, hd, h => by
    have hd' : ∀ o ∈ r, ∀ t, o.dst = some t → t ∈ W := fun o ho => hd o (by simp [ho])
    simp only [drun] at h
    split at h
    · split at h
      · rename_i s1 h1
        split at h
        · rename_i rs' s hr
          simp only [Option.some.injEq, Prod.mk.injEq] at h
          obtain ⟨_, rfl⟩ := h
          have hk := set_keep hg h1 (hd o (by simp))
          exact hk.trans (drun_keep r s1 rs' _ hk.2.1 hd' hr)
        · cases h
      · cases h
    · split at h
      · split at h
        · split at h
          · rename_i s1 h1
            split at h
            · rename_i rs' s hr
              simp only [Option.some.injEq, Prod.mk.injEq] at h
              obtain ⟨_, rfl⟩ := h
              have hk := (set_keep (W := W) (by exact hg) h1 (hd o (by simp))).tab
              exact hk.trans (drun_keep r s1 rs' _ hk.2.1 hd' hr)
            · cases h
          · cases h
        · cases h
      · cases h
    · cases h
theorem regionT2_keep {Γ : OrcT} {Λ : Lend} {P : Program} {ops : Array Oper} {draw : Bool} {st st' : St} (hg : st.g = []) (h : (regionT2 Γ Λ P ops draw st).run = some st') : Keep (ops.toList.filterMap (·.dst)) st st' := by
  have hd : ∀ o ∈ ops.toList, ∀ t, o.dst = some t → t ∈ ops.toList.filterMap (·.dst) := fun o ho t ht => List.mem_filterMap.2 ⟨o, ho, ht⟩
  unfold regionT2 at h
  split at h
  · rename_i hdr
    unfold regionT at h
    rw [if_pos hdr] at h
    obtain ⟨q, h1, h2⟩ := bind_run h
    split at h2
    · have := ret_run h2
      subst this
      exact (drun_keep _ _ q.1 q.2 (by exact hg) hd (drunT_run _ _ _ h1)).tab
    · cases h2
  · obtain ⟨a1, a2, a3⟩ := spill_get ops.toList st
    have hk := steps2_keep _ _ st' (a2 hg) hd h
    exact ⟨hk.1.trans a1, hk.2.1, fun t ht hs => by rw [hk.2.2 t ht (by rw [a3 t hs]; exact hs), a3 t hs]⟩

theorem omap_run {α β : Type} {f : α → β} {m : Option α} {b : β} (h : omap f m = some b) : ∃ a, m = some a ∧ f a = b := by
  unfold omap at h
  cases m with
  | none => cases h
  | some a => exact ⟨a, rfl, by simpa using h⟩
theorem ob_run {α β : Type} {m : Option β} {f : β → Tr α} {r : α} (h : (Tr.ob m f).run = some r) : ∃ b, m = some b ∧ (f b).run = some r := by
  cases m with
  | none => cases h
  | some b => exact ⟨b, rfl, h⟩
theorem encX_run {base : St} : ∀ (xs : XP) (e : Ex) (s : St) (x : xI xs) (r : Ex × St), decX xs e s = some x → (encX base xs x).run = some r → ∃ p, (e, p) ∈ xs ∧ ∃ y, decP s p = some y ∧ r = (e, patS base p y)
  | [], e, s, x, r, h, _ => by cases h
  | [q], e, s, x, r, h, hr => by
    have h' : (if q.1.eqb e = true then decP s q.2 else none) = some x := h
    by_cases he : q.1.eqb e = true
    · rw [if_pos he] at h'
      have hr' : (frcS (patS base q.2 x) fun s => Tr.ret (q.1, s)).run = some r := hr
      rw [frcS_eq] at hr'
      have := ret_run hr'
      subst this
      exact ⟨q.2, by rw [← Ex.eqb_ok he]; simp, x, h', by rw [Ex.eqb_ok he]⟩
    · rw [if_neg he] at h'; cases h'
  | q :: q' :: l, e, s, x, r, h, hr => by
    simp only [decX] at h
    split at h
    · rename_i he
      obtain ⟨y, h1, rfl⟩ := omap_run h
      have hr' : (frcS (patS base q.2 y) fun s => Tr.ret (q.1, s)).run = some r := hr
      rw [frcS_eq] at hr'
      have := ret_run hr'
      subst this
      exact ⟨q.2, by rw [← Ex.eqb_ok he]; simp, y, h1, by rw [Ex.eqb_ok he]⟩
    · obtain ⟨z, h1, rfl⟩ := omap_run h
      have hr' : (encX base (q' :: l) z).run = some r := hr
      obtain ⟨p, h2, y, h3, h4⟩ := encX_run (q' :: l) e s z r h1 hr'
      exact ⟨p, List.mem_cons_of_mem _ h2, y, h3, h4⟩

/-! What the reckoning says of the code. -/
section
variable {κ : Cx} {Γ : OrcT} {Λ : Lend} {HL HC : List (Nat × Hint)} {N : Nat}

theorem viewS_get : ∀ (vs : List Nat) (st : St), (viewS st vs).n = st.n ∧ (viewS st vs).g = st.g ∧ ∀ t, (st.get t).still = true → (viewS st vs).get t = st.get t
  | [], st => ⟨rfl, rfl, fun _ _ => rfl⟩
  | t0 :: r, st => by
    obtain ⟨h2, h3, h4⟩ := viewS_get r (Abs.viewR st t0)
    have hn : (Abs.viewR st t0).n = st.n ∧ (Abs.viewR st t0).g = st.g := by
      unfold Abs.viewR
      split
      · exact ⟨rfl, rfl⟩
      · split <;> exact ⟨rfl, rfl⟩
    refine ⟨h2.trans hn.1, h3.trans hn.2, fun t ht => ?_⟩
    have e := (viewR_get (st := st) (r := t0) (t := t) (V.still_pure _ ht)).1
    have : viewS st (t0 :: r) = viewS (Abs.viewR st t0) r := rfl
    rw [this, h4 t (by rw [e]; exact ht), e]
theorem viewS_rel {a : Act} {w : World} : ∀ (vs : List Nat) (st : St), Rel κ st a w → Rel κ (viewS st vs) a w
  | [], st, h => h
  | t0 :: r, st, h => viewS_rel r (Abs.viewR st t0) h.viewR
theorem Keep.view {W : List Nat} {st s : St} {vs : List Nat} (h : Keep W (viewS st vs) s) : Keep W st s := by
  obtain ⟨h2, h3, h4⟩ := viewS_get vs st
  exact ⟨h.1.trans h2, h.2.1, fun t ht hs => by rw [h.2.2 t ht (by rw [h4 t hs]; exact hs), h4 t hs]⟩
theorem toCanon (hgv : κ.gv = []) {st s : St} {x : Code} {p : Pat} {v : p.I} (hk : Keep (writes x) st s) (hd : decP s p = some v) : ∀ a w, Rel κ s a w → Rel κ (patS (baseOf st x) p v) a w := fun a w hr => by
  refine Abs.canon hgv (hk.1.symm ▸ rfl) (fun t => ?_) hd hr
  rcases base_get st x t with e | ⟨e1, e2⟩
  · exact .inl e
  · by_cases ht : t ∈ writes x
    · exact .inl (base_written ht)
    · exact .inr ⟨by rw [e1, hk.2.2 t ht (by rw [← e1]; exact e2)], e2⟩
/-- Ways out brought to their forms. -/
theorem encX_ok (hgv : κ.gv = []) {st s : St} {x : Code} {xs : XP} {e : Ex} {v : xI xs} {r : Ex × St} (hw : inX xs x st = true) (hk : Keep (writes x) st s) (hd : decX xs e s = some v) (hr : (encX (baseOf st x) xs v).run = some r) :
    r.1 = e ∧ Keep (writes x) st r.2 ∧ ∀ a w, Rel κ s a w → Rel κ r.2 a w := by
  obtain ⟨p, h1, y, h2, rfl⟩ := encX_run xs e s v r hd hr
  exact ⟨rfl, patS_keep (List.all_eq_true.1 hw (e, p) h1), toCanon hgv hk h2⟩

theorem steps2_app (hΓ : GammaOk2 κ.P Γ.orc) {ops : Array Oper} {Q : Exit → Act → World → Prop} {l2 : List Oper} : ∀ (l : List Oper) (st st' : St) (a : Act) (w : World), (steps2 Γ Λ κ.P ops.toList l st).run = some st' → Rel κ st a w →
    (∀ a' w', Rel κ st' a' w' → wpList κ.P ops Q l2 a' w') → wpList κ.P ops Q (l ++ l2) a w
  | [], st, st', a, w, hx, hr, hQ => by
    have := ret_run hx
    subst this
    exact hQ a w hr
  | o :: r, st, st', a, w, hx, hr, hQ => by
    obtain ⟨s1, h1, h2⟩ := bind_run hx
    exact wpList_step fun K hK => step2_ok hΓ hr h1 fun a' w' hr' => hK _ _ (steps2_app hΓ r s1 st' a' w' h2 hr' hQ)
theorem segT_ok (hΓ : GammaOk2 κ.P Γ.orc) (hgv : κ.gv = []) {ops : Array Oper} {Q : Exit → Act → World → Prop} {W : List Nat} : ∀ (cs : List (Nat × List Nat × Pat)) (l : List Oper) (st st' : St), st.g = [] → (∀ o ∈ l, ∀ t, o.dst = some t → t ∈ W) → (segT Γ Λ κ.P ops.toList cs l st).run = some st' →
    (∀ a w, Rel κ st a w → (∀ a' w', Rel κ st' a' w' → Q .normal a' w') → wpList κ.P ops Q l a w) ∧ Keep W st st'
  | [], l, st, st', hg, hd, h => by
    simp only [segT, steps2F_eq] at h
    exact ⟨fun a w hr hQ => steps2_ok hΓ l st st' a w h hr hQ, steps2_keep l st st' hg hd h⟩
  | (k, vs, p) :: cs, l, st, st', hg, hd, h => by
    have e : writes (.region 0 (l.take k).toArray false) = (l.take k).filterMap (·.dst) := by simp [writes]
    simp only [segT, steps2F_eq, frcS_eq] at h
    split at h
    · rename_i hw
      have v1 := fun a w => viewS_rel (κ := κ) (a := a) (w := w) vs st
      obtain ⟨_, v3, _⟩ := viewS_get vs st
      obtain ⟨v, hv, h3⟩ := ob_run h
      obtain ⟨s0, h4, h5⟩ := Tr.elim_run _ _ hv
      have hk0 : Keep (writes (.region 0 (l.take k).toArray false)) (viewS st vs) s0 := by
        rw [e]
        exact steps2_keep _ _ _ (v3.trans hg) (fun o ho t ht => List.mem_filterMap.2 ⟨o, ho, ht⟩) h4
      have hsub : ∀ t, t ∈ writes (.region 0 (l.take k).toArray false) → t ∈ W := fun t ht => by
        rw [e] at ht
        obtain ⟨o, ho, hot⟩ := List.mem_filterMap.1 ht
        exact hd o (List.mem_of_mem_take ho) t hot
      have hk1 := patS_keep (x := v) hw
      obtain ⟨i1, i2⟩ := segT_ok hΓ hgv cs (l.drop k) _ st' hk1.2.1 (fun o ho => hd o (List.mem_of_mem_drop ho)) h3
      refine ⟨fun a w hr hQ => ?_, (hk1.mono hsub).view.trans i2⟩
      rw [← List.take_append_drop k l]
      exact steps2_app hΓ _ _ s0 a w h4 (v1 a w hr) fun a' w' hr' => i1 a' w' (toCanon hgv hk0 h5 a' w' hr') hQ
    · cases h
theorem regT_ok (hΓ : GammaOk2 κ.P Γ.orc) (hm : κ.P.follows .mixedOrders = true) (hgv : κ.gv = []) {hh : Hint} {id : Nat} {ops : Array Oper} {draw : Bool} (htmp : (!draw || tmpsOk ops.toList) = true) {Q : Exit → St → Prop} {st st' : St} (hg : st.g = [])
    (hx : (regT Γ Λ κ.P hh ops draw st).run = some st') (h : Q .normal st') : HT κ (.region id ops draw) Q st ∧ Keep (ops.toList.filterMap (·.dst)) st st' := by
  unfold regT at hx
  simp only [frcS_eq, regionF_eq] at hx
  split at hx
  · split at hx
    · cases hx
    · rename_i hdr
      have hdr : draw = false := by simpa using hdr
      subst hdr
      obtain ⟨a1, a2, a3⟩ := spill_get ops.toList st
      have hd : ∀ o ∈ ops.toList, ∀ t, o.dst = some t → t ∈ ops.toList.filterMap (·.dst) := fun o ho t ht => List.mem_filterMap.2 ⟨o, ho, ht⟩
      obtain ⟨b1, b2⟩ := segT_ok (ops := ops) (Q := fun e a w => ∃ s, Q e s ∧ Rel κ s a w) hΓ hgv _ ops.toList _ st' (a2 hg) hd hx
      refine ⟨fun a w hr => wp_region_list (b1 a w (hr.spill ops.toList) fun a' w' hr' => ⟨st', h, hr'⟩), ?_⟩
      exact ⟨b2.1.trans a1, b2.2.1, fun t ht hs => by rw [b2.2.2 t ht (by rw [a3 t hs]; exact hs), a3 t hs]⟩
  · exact ⟨HT.regionT2 hΓ hm htmp hx h, regionT2_keep hg hx⟩

theorem evT_ok (hΓ : GammaOk2 κ.P Γ.orc) (hm : κ.P.follows .mixedOrders = true) (hgv : κ.gv = []) : ∀ (n : Nat) (c : Code) (st : St) (r : Ex × St), codeOk c = true → st.g = [] →
    (evT Γ Λ κ.P HL HC N n c st).run = some r → HT κ c (evQ r) st ∧ Keep (writes c) st r.2
  | 0, c, st, r, _, _, h => by cases h
  | n + 1, c, st, r, hc, hg, h => by
    have ih := evT_ok hΓ hm hgv n
    cases c with
    | skip => simp only [evT] at h; have := ret_run h; subst this; exact ⟨HT.skip ⟨rfl, rfl⟩, .refl hg⟩
    | label l => simp only [evT] at h; have := ret_run h; subst this; exact ⟨HT.label ⟨rfl, rfl⟩, .refl hg⟩
    | exit id => simp only [evT] at h; have := ret_run h; subst this; exact ⟨HT.exit ⟨rfl, rfl⟩, .refl hg⟩
    | ret => simp only [evT] at h; have := ret_run h; subst this; exact ⟨HT.ret ⟨rfl, rfl⟩, .refl hg⟩
    | region id ops draw =>
      simp only [evT] at h
      obtain ⟨s, h1, h2⟩ := bind_run h
      have := ret_run h2; subst this
      exact regT_ok hΓ hm hgv (by simpa [codeOk] using hc) hg h1 ⟨rfl, rfl⟩
    | seq x y =>
      simp only [codeOk, Bool.and_eq_true] at hc
      simp only [evT, seqT] at h
      obtain ⟨q, h1, h2⟩ := bind_run h
      have hx : HT κ x (evQ q) st ∧ Keep (writes x) st q.2 := by
        split at h1
        · rename_i vs xs _
          unfold cutX at h1
          split at h1
          · rename_i hw
            have v1 := fun a w => viewS_rel (κ := κ) (a := a) (w := w) vs st
            obtain ⟨_, v3, _⟩ := viewS_get vs st
            obtain ⟨v, hv, h3⟩ := ob_run h1
            obtain ⟨q0, h4, h5⟩ := Tr.elim_run _ _ hv
            obtain ⟨a1, a2⟩ := ih x (viewS st vs) q0 hc.1 (v3.trans hg) h4
            obtain ⟨b1, b2, b3⟩ := encX_ok hgv hw a2 h5 h3
            refine ⟨fun a w hr => wp_mono (a1 a w (v1 a w hr)) fun e a' w' => ?_, b2.view⟩
            rintro ⟨s', ⟨e1, e2⟩, hr'⟩
            subst e2
            exact ⟨q.2, ⟨by rw [e1, b1], rfl⟩, b3 a' w' hr'⟩
          · cases h1
        · exact ih x st q hc.1 hg h1
      obtain ⟨hx1, hx2⟩ := hx
      obtain ⟨ex, sx⟩ := q
      have hkx : Keep (writes (.seq x y)) st sx := hx2.mono fun t ht => by simp [writes, ht]
      cases ex with
      | normal =>
        obtain ⟨c1, c2⟩ := ih y sx r hc.2 hx2.2.1 h2
        refine ⟨HT.seq (hx1.mono fun e s => ?_), hkx.trans (c2.mono fun t ht => by simp [writes, ht])⟩
        rintro ⟨e1, e2⟩
        simp only at e1 e2; subst e1 e2
        exact c1
      | exit i =>
        have := ret_run h2; subst this
        refine ⟨HT.seq (hx1.mono fun e s => ?_), hkx⟩
        rintro ⟨e1, e2⟩
        simp only at e1 e2; subst e1 e2
        exact ⟨rfl, rfl⟩
      | ret =>
        have := ret_run h2; subst this
        refine ⟨HT.seq (hx1.mono fun e s => ?_), hkx⟩
        rintro ⟨e1, e2⟩
        simp only at e1 e2; subst e1 e2
        exact ⟨rfl, rfl⟩
    | cond o x y =>
      simp only [codeOk, Bool.and_eq_true] at hc
      simp only [evT] at h
      split at h
      · rename_i ho
        obtain ⟨a1, a2⟩ := ih x st r hc.1 hg h
        exact ⟨HT.cond ho a1, a2.mono fun t ht => by simp [writes, ht]⟩
      · rename_i ho
        obtain ⟨a1, a2⟩ := ih y st r hc.2 hg h
        exact ⟨HT.cond ho a1, a2.mono fun t ht => by simp [writes, ht]⟩
      · rename_i b ho
        cases b with
        | true =>
          obtain ⟨a1, a2⟩ := ih x st r hc.1 hg h
          exact ⟨HT.condS ho a1, a2.mono fun t ht => by simp [writes, ht]⟩
        | false =>
          obtain ⟨a1, a2⟩ := ih y st r hc.2 hg h
          exact ⟨HT.condS ho a1, a2.mono fun t ht => by simp [writes, ht]⟩
      · cases h
    | block id c =>
      simp only [codeOk] at hc
      simp only [evT] at h
      obtain ⟨q, h1, h2⟩ := bind_run h
      obtain ⟨a1, a2⟩ := ih c st q hc hg h1
      obtain ⟨ex, sx⟩ := q
      have hkx : Keep (writes (.block id c)) st sx := a2
      cases ex with
      | normal =>
        have := ret_run h2; subst this
        refine ⟨HT.block (a1.mono fun e s => ?_), hkx⟩
        rintro ⟨e1, e2⟩
        simp only at e1 e2; subst e1 e2
        exact ⟨rfl, rfl⟩
      | ret =>
        have := ret_run h2; subst this
        refine ⟨HT.block (a1.mono fun e s => ?_), hkx⟩
        rintro ⟨e1, e2⟩
        simp only at e1 e2; subst e1 e2
        exact ⟨rfl, rfl⟩
      | exit i =>
        simp only at h2
        split at h2
        · rename_i hi
          have := ret_run h2; subst this
          refine ⟨HT.block (a1.mono fun e s => ?_), hkx⟩
          rintro ⟨e1, e2⟩
          simp only at e1 e2; subst e1 e2
          simp only [Ex.to, blkQ, if_pos hi]
          exact ⟨rfl, rfl⟩
        · rename_i hi
          have := ret_run h2; subst this
          refine ⟨HT.block (a1.mono fun e s => ?_), hkx⟩
          rintro ⟨e1, e2⟩
          simp only at e1 e2; subst e1 e2
          simp only [Ex.to, blkQ, if_neg hi]
          exact ⟨rfl, rfl⟩
    | loop c =>
      have hc' : codeOk c = true := by simpa [codeOk] using hc
      simp only [evT] at h
      split at h
      · rename_i vs p xs _
        have v1 := fun a w => viewS_rel (κ := κ) (a := a) (w := w) vs st
        obtain ⟨_, v3, _⟩ := viewS_get vs st
        unfold loopT at h
        have hg1 : (viewS st vs).g = [] := v3.trans hg
        suffices hsf : HT κ (.loop c) (evQ r) (viewS st vs) ∧ Keep (writes c) (viewS st vs) r.2 from ⟨fun a w hr => hsf.1 a w (v1 a w hr), hsf.2.view⟩
        clear v1 v3 hg
        generalize viewS st vs = st at *
        have hg := hg1
        split at h
        · rename_i hw
          obtain ⟨v0, hd0, h1⟩ := bind_run h
          obtain ⟨r1, hl, h2⟩ := ob_run h1
          have hd0 := of_run hd0
          have key : ∀ (M : Nat) (v : p.I), loopN M (fun v => (evT Γ Λ κ.P HL HC N n c (patS (baseOf st c) p v)).elim fun q => match q.1 with
              | .normal => omap .inl (decP q.2 p)
              | e => omap .inr (decX xs e q.2)) v = some r1 → (∀ a w, Rel κ (patS (baseOf st c) p v) a w →
              Code.rounds κ.P c (fun e a' w' => ∃ s', evQ r e s' ∧ Rel κ s' a' w') M a w) ∧ Keep (writes c) st r.2 := by
            intro M
            induction M with
            | zero => intro v hv; simp [loopN] at hv
            | succ M ihM =>
              intro v hv
              have hk1 := patS_keep (x := v) hw.1
              simp only [loopN] at hv
              split at hv
              · rename_i y hy
                obtain ⟨q, hq, hqk⟩ := Tr.elim_run _ _ hy
                obtain ⟨b1, b2⟩ := ih c _ q hc' rfl hq
                obtain ⟨ex, sx⟩ := q
                have hkx : Keep (writes c) st sx := hk1.trans b2
                have fin : ex = .normal ∧ decP sx p = some y := by
                  cases ex with
                  | normal =>
                    obtain ⟨y', hd, he⟩ := omap_run hqk
                    injection he with he; subst he
                    exact ⟨rfl, hd⟩
                  | exit i => obtain ⟨_, _, he⟩ := omap_run hqk; cases he
                  | ret => obtain ⟨_, _, he⟩ := omap_run hqk; cases he
                obtain ⟨rfl, hd⟩ := fin
                obtain ⟨d1, d2⟩ := ihM y hv
                refine ⟨fun a w hr => ?_, d2⟩
                rw [rounds_succ]
                refine wp_mono (b1 a w hr) fun e a' w' => ?_
                rintro ⟨s', ⟨e1, e2⟩, hr'⟩
                simp only at e1 e2; subst e1 e2
                exact d1 a' w' (toCanon hgv hkx hd a' w' hr')
              · rename_i ρ hy
                injection hv with hv; subst hv
                obtain ⟨q, hq, hqk⟩ := Tr.elim_run _ _ hy
                obtain ⟨b1, b2⟩ := ih c _ q hc' rfl hq
                obtain ⟨ex, sx⟩ := q
                have hkx : Keep (writes c) st sx := hk1.trans b2
                have fin : ex ≠ .normal ∧ decX xs ex sx = some ρ := by
                  cases ex with
                  | normal => obtain ⟨_, _, he⟩ := omap_run hqk; cases he
                  | exit i =>
                    obtain ⟨y', hd, he⟩ := omap_run hqk
                    injection he with he; subst he
                    exact ⟨by simp, hd⟩
                  | ret =>
                    obtain ⟨y', hd, he⟩ := omap_run hqk
                    injection he with he; subst he
                    exact ⟨by simp, hd⟩
                obtain ⟨hne, hd⟩ := fin
                obtain ⟨g1, g2, g3⟩ := encX_ok hgv hw.2 hkx hd h2
                refine ⟨fun a w hr => ?_, g2⟩
                rw [rounds_succ]
                refine wp_mono (b1 a w hr) fun e a' w' => ?_
                rintro ⟨s', ⟨e1, e2⟩, hr'⟩
                simp only at e1 e2; subst e1 e2
                have hres : ∃ s', evQ r ex.to s' ∧ Rel κ s' a' w' := ⟨r.2, ⟨by rw [g1], rfl⟩, g3 a' w' hr'⟩
                cases ex with
                | normal => exact absurd rfl hne
                | exit i => exact hres
                | ret => exact hres
              · cases hv
          simp only [frcS_eq] at hl
          obtain ⟨k1, k2⟩ := key N v0 hl
          exact ⟨fun a w hr => wp_loop_rounds N (k1 a w (toCanon hgv (.refl hg) hd0 a w hr)), k2⟩
        · cases h
      · rename_i m _
        have key : ∀ (M : Nat) (s : St), Keep (writes c) st s → (unrollT (fun s => evT Γ Λ κ.P HL HC N n c s) M s).run = some r → (∀ a w, Rel κ s a w →
            Code.rounds κ.P c (fun e a' w' => ∃ s', evQ r e s' ∧ Rel κ s' a' w') M a w) ∧ Keep (writes c) st r.2 := by
          intro M
          induction M with
          | zero => intro s _ hs; cases hs
          | succ M ihM =>
            intro s hks hs
            simp only [unrollT] at hs
            obtain ⟨q, h1, h2⟩ := bind_run hs
            obtain ⟨b1, b2⟩ := ih c s q hc' hks.2.1 h1
            obtain ⟨ex, sx⟩ := q
            have hkx : Keep (writes c) st sx := hks.trans b2
            cases ex with
            | normal =>
              obtain ⟨d1, d2⟩ := ihM sx hkx h2
              refine ⟨fun a w hr => ?_, d2⟩
              rw [rounds_succ]
              refine wp_mono (b1 a w hr) fun e a' w' => ?_
              rintro ⟨s', ⟨e1, e2⟩, hr'⟩
              simp only at e1 e2; subst e1 e2
              exact d1 a' w' hr'
            | exit i =>
              have := ret_run h2; subst this
              refine ⟨fun a w hr => ?_, hkx⟩
              rw [rounds_succ]
              refine wp_mono (b1 a w hr) fun e a' w' => ?_
              rintro ⟨s', ⟨e1, e2⟩, hr'⟩
              simp only at e1 e2; subst e1 e2
              exact ⟨_, ⟨rfl, rfl⟩, hr'⟩
            | ret =>
              have := ret_run h2; subst this
              refine ⟨fun a w hr => ?_, hkx⟩
              rw [rounds_succ]
              refine wp_mono (b1 a w hr) fun e a' w' => ?_
              rintro ⟨s', ⟨e1, e2⟩, hr'⟩
              simp only at e1 e2; subst e1 e2
              exact ⟨_, ⟨rfl, rfl⟩, hr'⟩
        obtain ⟨k1, k2⟩ := key m st (.refl hg) h
        exact ⟨fun a w hr => wp_loop_rounds m (k1 a w hr), k2⟩
      · cases h
    | _ => cases h
end
end Go.Abs
