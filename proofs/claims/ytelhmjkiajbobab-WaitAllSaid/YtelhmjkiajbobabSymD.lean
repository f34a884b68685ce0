/- Code, by what becomes of it. -/
import Derived.Test.YtelhmjkiajbobabSymC
namespace Go.Abs
open Go.RowKit
set_option linter.unusedVariables false
set_option linter.unusedSimpArgs false

/-- Which slots code may write. -/
def writes : Code → List Nat
  | .region _ ops _ => ops.toList.filterMap (·.dst)
  | .seq x y => writes x ++ writes y
  | .cond _ x y => writes x ++ writes y
  | .block _ c => writes c
  | .loop c => writes c
  | _ => []
/-- What stays, whatever the code does. -/
def baseOf (st : St) (c : Code) : St :=
  ⟨st.n, st.t.filterMap fun p => if (st.get p.1).still && !(writes c).contains p.1 then some (p.1, st.get p.1) else none, [], []⟩
inductive Hint where
  | cut (p : Pat)
  | cut0 (p : Pat)
  | loop (p : Pat) (id : Nat) (q : Pat)
  | loop0 (p : Pat) (id : Nat) (q : Pat)
  | none
def firstR : Code → Option Nat
  | .region id _ _ => some id
  | .seq x y => match firstR x with | some r => some r | none => firstR y
  | .cond _ x y => match firstR x with | some r => some r | none => firstR y
  | .block _ c => firstR c
  | .loop c => firstR c
  | _ => none
def hintOf (H : List (Nat × Hint)) (c : Code) : Hint := match firstR c with
  | some r => aget .none H r
  | none => .none
def inW (p : Pat) (c : Code) (st : St) : Bool := p.all fun q => (writes c).contains q.1 || !(st.get q.1).still

/-- N: how often loops go round at most. -/
def evK (Γ : OrcT) (P : Program) (HL HC : List (Nat × Hint)) (N : Nat) : Nat → {R : Type} → Code → St → (Ex → St → Option R) → Option R
  | 0, _, _, _, _ => none
  | n + 1, R, c, st, k => match c with
    | .skip => k .normal st
    | .label _ => k .normal st
    | .exit id => k (.exit id) st
    | .ret => k .ret st
    | .region _ ops draw => (regionT Γ P ops draw st).elim (k .normal)
    | .seq x y => match hintOf HC y with
      | .cut p => if inW p x st = true then obind (evK Γ P HL HC N n (R := skI p ⊕ R) x st fun e s => match e with
          | .normal => omap .inl (decP s p)
          | e => omap .inr (k e s)) fun r => selim (fun v => evK Γ P HL HC N n y (patS (baseOf st x) p v) k) some r else none
      | .cut0 p => if inW p x st = true then obind (evK Γ P HL HC N n (R := skI p) x st fun e s => match e with
          | .normal => decP s p
          | _ => none) fun v => evK Γ P HL HC N n y (patS (baseOf st x) p v) k else none
      | _ => evK Γ P HL HC N n x st fun e s => match e with
          | .normal => evK Γ P HL HC N n y s k
          | e => k e s
    | .cond c x y => match st.eval c with
      | .bool true => evK Γ P HL HC N n x st k
      | .bool false => evK Γ P HL HC N n y st k
      | .bs b => cnd b (evK Γ P HL HC N n x st k) (evK Γ P HL HC N n y st k)
      | _ => none
    | .block id c => evK Γ P HL HC N n c st fun e s => match e with
      | .exit i => if i = id then k .normal s else k (.exit i) s
      | e => k e s
    | .loop c => match hintOf HL c with
      | .loop p id q => if inW p c st = true ∧ inW q c st = true then obind (decP st p) fun v => obind (loopN (σ := skI p) (ρ := skI q ⊕ R) N (fun v => evK Γ P HL HC N n c (patS (baseOf st c) p v) fun e s => match e with
          | .normal => omap .inl (decP s p)
          | .exit i => if i = id then omap (fun x => .inr (.inl x)) (decP s q) else none
          | .ret => omap (fun x => .inr (.inr x)) (k .ret s)) v) fun r => selim (fun x => k (.exit id) (patS (baseOf st c) q x)) some r else none
      | .loop0 p id q => if inW p c st = true ∧ inW q c st = true then obind (decP st p) fun v => obind (loopN (σ := skI p) (ρ := skI q) N (fun v => evK Γ P HL HC N n c (patS (baseOf st c) p v) fun e s => match e with
          | .normal => omap .inl (decP s p)
          | .exit i => if i = id then omap (fun x => .inr x) (decP s q) else none
          | .ret => none) v) fun x => k (.exit id) (patS (baseOf st c) q x) else none
      | _ => none
    | _ => none

/-! What stays. -/
def Keep (W : List Nat) (st s : St) : Prop := s.n = st.n ∧ s.g = st.g ∧ ∀ t, t ∉ W → (st.get t).still = true → s.get t = st.get t
theorem Keep.refl {W : List Nat} {st : St} : Keep W st st := ⟨rfl, rfl, fun _ _ _ => rfl⟩
theorem Keep.mono {W W' : List Nat} {st s : St} (h : Keep W st s) (hw : ∀ t, t ∈ W → t ∈ W') : Keep W' st s := ⟨h.1, h.2.1, fun t ht hs => h.2.2 t (fun e => ht (hw t e)) hs⟩
theorem Keep.trans {W : List Nat} {st s s' : St} (h : Keep W st s) (h' : Keep W s s') : Keep W st s' :=
  ⟨h'.1.trans h.1, h'.2.1.trans h.2.1, fun t ht hs => by rw [h'.2.2 t ht (by rw [h.2.2 t ht hs]; exact hs), h.2.2 t ht hs]⟩

theorem base_get (st : St) (c : Code) (t : Nat) : (baseOf st c).get t = .undef ∨ ((baseOf st c).get t = st.get t ∧ ((baseOf st c).get t).still = true) := by
  rcases aget_cases (d := V.undef) (baseOf st c).t t with e | ⟨v, e1, e2⟩
  · exact .inl e
  · right
    simp only [baseOf, List.mem_filterMap] at e1
    obtain ⟨p, _, hp⟩ := e1
    split at hp
    · rename_i hc
      simp only [Option.some.injEq, Prod.mk.injEq] at hp
      obtain ⟨rfl, rfl⟩ := hp
      have : (baseOf st c).get p.1 = st.get p.1 := e2
      rw [this]
      simp only [Bool.and_eq_true] at hc
      exact ⟨rfl, hc.1⟩
    · cases hp
theorem aget_key {α : Type} {d : α} : ∀ {l : List (Nat × α)} {q : Nat} {x : α}, (q, x) ∈ l → ∃ v, (q, v) ∈ l ∧ aget d l q = v
  | [], q, x, h => by simp at h
  | (k, y) :: r, q, x, h => by
    simp only [aget]
    by_cases e : k = q
    · subst e; exact ⟨y, by simp, by simp⟩
    · rw [if_neg e]
      rcases List.mem_cons.1 h with h | h
      · injection h with e1 _; exact absurd e1.symm e
      · obtain ⟨v, h1, h2⟩ := aget_key h
        exact ⟨v, by simp [h1], h2⟩
theorem base_keep {st : St} {c : Code} {t : Nat} (ht : t ∉ writes c) (hs : (st.get t).still = true) : (baseOf st c).get t = st.get t := by
  rcases aget_cases (d := V.undef) st.t t with e | ⟨v, e1, e2⟩
  · have : st.get t = .undef := e
    rw [this] at hs; simp [V.still] at hs
  · have hm : (t, st.get t) ∈ (baseOf st c).t := by
      simp only [baseOf, List.mem_filterMap]
      refine ⟨(t, v), e1, ?_⟩
      have : (writes c).contains t = false := by simpa using ht
      simp [hs, ht]
    obtain ⟨u, h1, h2⟩ := aget_key (d := V.undef) hm
    have h3 : (baseOf st c).get t = u := h2
    rcases base_get st c t with e | ⟨e, _⟩
    · rw [h3] at e
      subst e
      simp only [baseOf, List.mem_filterMap] at h1
      obtain ⟨p, _, hp⟩ := h1
      split at hp
      · rename_i hc
        simp only [Option.some.injEq, Prod.mk.injEq] at hp
        obtain ⟨rfl, hp⟩ := hp
        simp only [Bool.and_eq_true] at hc
        rw [hp] at hc; simp [V.still] at hc
      · cases hp
    · exact e
theorem slotsOf_keys : ∀ (l : Pat) (x : skI l) (t : Nat) (v : V), (t, v) ∈ slotsOf l x → ∃ p ∈ l, p.1 = t
  | [], x, t, v, h => by simp [slotsOf] at h
  | [p], x, t, v, h => by simp only [slotsOf, List.mem_singleton, Prod.mk.injEq] at h; exact ⟨p, by simp, h.1.symm⟩
  | p :: q :: r, x, t, v, h => by
    simp only [slotsOf, List.mem_cons, Prod.mk.injEq] at h
    rcases h with h | h
    · exact ⟨p, by simp, h.1.symm⟩
    · obtain ⟨p', h1, h2⟩ := slotsOf_keys (q :: r) x.2 t v h
      exact ⟨p', List.mem_cons_of_mem _ h1, h2⟩
theorem patS_keep {st : St} {c : Code} {p : Pat} {x : skI p} (hp : inW p c st = true) (hg : st.g = []) : Keep (writes c) st (patS (baseOf st c) p x) := by
  refine ⟨rfl, hg.symm, fun t ht hs => ?_⟩
  rw [← base_keep ht hs]
  show aget .undef (slotsOf p x ++ (baseOf st c).t) t = aget .undef (baseOf st c).t t
  have key : ∀ m : List (Nat × V), (∀ q v, (q, v) ∈ m → q ≠ t) → aget .undef (m ++ (baseOf st c).t) t = aget .undef (baseOf st c).t t := by
    intro m
    induction m with
    | nil => intro _; rfl
    | cons q r ih =>
      intro hm
      obtain ⟨k, v⟩ := q
      simp only [List.cons_append, aget]
      rw [if_neg (hm k v (by simp))]
      exact ih fun q v hq => hm q v (by simp [hq])
  refine key _ fun q v hq e => ?_
  subst e
  obtain ⟨p', h1, rfl⟩ := slotsOf_keys p x q v hq
  have := List.all_eq_true.1 hp p' h1
  simp only [Bool.or_eq_true, Bool.not_eq_true'] at this
  rcases this with h2 | h2
  · exact ht (by simpa using h2)
  · rw [hs] at h2; cases h2

/-! A region writes its own slots. -/
theorem set_keep {st st' : St} {d : Option Nat} {v : V} {W : List Nat} (h : st.set d v = some st') (hd : ∀ t, d = some t → t ∈ W) : Keep W st st' := by
  obtain ⟨h1, h2, h3, h4⟩ := set_get h
  refine ⟨h1, set_g h, fun t ht _ => ?_⟩
  rw [h4, if_neg]
  intro e
  exact ht (hd t e)
theorem Keep.tab {W : List Nat} {st s : St} {T : Tab} (h : Keep W ({ st with o := T } : St) s) : Keep W st s := h
theorem step_keep {Γ : Orc} {P : Program} {opl : List Oper} {st st' : St} {o : Oper} {W : List Nat} (h : step Γ P opl st o = some st') (hd : ∀ t, o.dst = some t → t ∈ W) : Keep W st st' := by
  unfold step at h
  split at h
  · exact set_keep h hd
  · split at h
    · exact (set_keep h hd).tab
    · cases h
  · cases h
theorem steps_keep {Γ : Orc} {P : Program} {opl : List Oper} {W : List Nat} : ∀ (l : List Oper) (st st' : St), (∀ o ∈ l, ∀ t, o.dst = some t → t ∈ W) → steps Γ P opl l st = some st' → Keep W st st'
  | [], st, st', _, h => by simp [steps] at h; subst h; exact .refl
  | o :: r, st, st', hd, h => by
    simp only [steps] at h
    split at h
    · rename_i s1 h1
      exact (step_keep h1 (hd o (by simp))).trans (steps_keep r s1 st' (fun o ho => hd o (by simp [ho])) h)
    · cases h
theorem drun_keep {Γ : Orc} {P : Program} {opl : List Oper} {W : List Nat} : ∀ (l : List Oper) (st : St) (rs : List Rec) (st' : St), (∀ o ∈ l, ∀ t, o.dst = some t → t ∈ W) → drun Γ P opl l st = some (rs, st') → Keep W st st'
  | [], st, rs, st', _, h => by simp [drun] at h; rw [h.2]; exact .refl
  | o :: r, st, rs, st', hd, h => by
    have hd' : ∀ o ∈ r, ∀ t, o.dst = some t → t ∈ W := fun o ho => hd o (by simp [ho])
    simp only [drun] at h
    split at h
    · split at h
      · rename_i s1 h1
        split at h
        · rename_i rs' s hr
          simp only [Option.some.injEq, Prod.mk.injEq] at h
          obtain ⟨_, rfl⟩ := h
          exact (set_keep h1 (hd o (by simp))).trans (drun_keep r s1 rs' _ hd' hr)
        · cases h
      · cases h
    · split at h
      · split at h
        · split at h
          · rename_i s1 h1
            split at h
            · rename_i rs' s hr
              simp only [Option.some.injEq, Prod.mk.injEq] at h
              obtain ⟨_, rfl⟩ := h
              exact (set_keep h1 (hd o (by simp))).tab.trans (drun_keep r s1 rs' _ hd' hr)
            · cases h
          · cases h
        · cases h
      · cases h
    · cases h
theorem regionT_keep {Γ : OrcT} {P : Program} {ops : Array Oper} {draw : Bool} {st st' : St} (h : (regionT Γ P ops draw st).run = some st') : Keep (ops.toList.filterMap (·.dst)) st st' := by
  have hd : ∀ o ∈ ops.toList, ∀ t, o.dst = some t → t ∈ ops.toList.filterMap (·.dst) := fun o ho t ht => List.mem_filterMap.2 ⟨o, ho, ht⟩
  unfold regionT at h
  split at h
  · rw [Tr.run_bind] at h
    cases hr : (drunT Γ P ops.toList ops.toList { st with o := st.o.freezes (zOf ops.toList st) }).run with
    | none => rw [hr] at h; cases h
    | some q =>
      rw [hr] at h
      simp only [Option.bind_some] at h
      split at h
      · injection h with h; subst h
        exact (drun_keep _ _ q.1 q.2 hd (drunT_run _ _ _ hr)).tab
      · cases h
  · exact steps_keep _ _ _ hd (stepsT_run _ _ _ h)

/-! What the reckoning says of the code. -/
section
variable {κ : Cx} {Γ : OrcT} {HL HC : List (Nat × Hint)} {N : Nat}

def KQ {R : Type} (k : Ex → St → Option R) (r : R) (W : List Nat) (st : St) : Exit → St → Prop := fun e s => ∃ e', e = e'.to ∧ k e' s = some r ∧ Keep W st s

theorem HT.canon {c : Code} {Q : Exit → St → Prop} {s s2 : St} (hw : ∀ a w, Rel κ s a w → Rel κ s2 a w) (h : HT κ c Q s2) : HT κ c Q s := fun a w hr => h a w (hw a w hr)

theorem omap_some {α β : Type} {f : α → β} {m : Option α} {b : β} (h : omap f m = some b) : ∃ a, m = some a ∧ f a = b := by
  unfold omap at h
  cases m with
  | none => cases h
  | some a => exact ⟨a, rfl, by simpa using h⟩
theorem obind_some {α β : Type} {m : Option α} {f : α → Option β} {b : β} (h : obind m f = some b) : ∃ a, m = some a ∧ f a = some b := by
  unfold obind at h
  cases m with
  | none => cases h
  | some a => exact ⟨a, rfl, h⟩

theorem evK_ok (hΓ : GammaOk κ.P Γ.orc) (hm : κ.P.follows .mixedOrders = true) (hgv : κ.gv = []) : ∀ (n : Nat) (R : Type) (c : Code) (st : St) (k : Ex → St → Option R) (r : R), codeOk c = true → st.g = [] →
    evK Γ κ.P HL HC N n c st k = some r → HT κ c (KQ k r (writes c) st) st
  | 0, R, c, st, k, r, _, _, h => by simp [evK] at h
  | n + 1, R, c, st, k, r, hc, hg, h => by
    have ih := evK_ok hΓ hm hgv n
    have toCanon : ∀ {s : St} {x : Code} {p : Pat} {v : skI p}, Keep (writes x) st s → decP s p = some v → ∀ a w, Rel κ s a w → Rel κ (patS (baseOf st x) p v) a w := fun {s x p v} hk hd a w hr => by
      refine Abs.canon hgv (hk.1.symm ▸ rfl) (fun t => ?_) hd hr
      rcases base_get st x t with e | ⟨e1, e2⟩
      · exact .inl e
      · by_cases ht : t ∈ writes x
        · left
          rcases aget_cases (d := V.undef) (baseOf st x).t t with e | ⟨v, e3, e4⟩
          · exact e
          · simp only [baseOf, List.mem_filterMap] at e3
            obtain ⟨q, _, hq⟩ := e3
            split at hq
            · rename_i hcc
              simp only [Option.some.injEq, Prod.mk.injEq] at hq
              obtain ⟨rfl, _⟩ := hq
              simp [ht] at hcc
            · cases hq
        · right
          exact ⟨by rw [e1, hk.2.2 t ht (by rw [← e1]; exact e2)], e2⟩
    cases c with
    | skip => simp only [evK] at h; exact HT.skip ⟨.normal, rfl, h, .refl⟩
    | label l => simp only [evK] at h; exact HT.label ⟨.normal, rfl, h, .refl⟩
    | exit id => simp only [evK] at h; exact HT.exit ⟨.exit id, rfl, h, .refl⟩
    | ret => simp only [evK] at h; exact HT.ret ⟨.ret, rfl, h, .refl⟩
    | region id ops draw =>
      simp only [evK] at h
      obtain ⟨s, h1, h2⟩ := Tr.elim_run _ _ h
      exact HT.regionT hΓ hm (by simpa [codeOk] using hc) h1 ⟨.normal, rfl, h2, regionT_keep h1⟩
    | seq x y =>
      simp only [codeOk, Bool.and_eq_true] at hc
      simp only [evK] at h
      split at h
      · rename_i p _
        split at h
        · rename_i hw
          obtain ⟨r1, h1, h2⟩ := obind_some h
          refine HT.seq ((ih _ x st _ r1 hc.1 hg h1).mono fun e s => ?_)
          rintro ⟨e', rfl, hk, hkeep⟩
          cases e' with
          | normal =>
            obtain ⟨v, hd, rfl⟩ := omap_some hk
            have hk1 := patS_keep (x := v) hw hg
            refine HT.canon (toCanon hkeep hd) ((ih _ y _ k r hc.2 rfl h2).mono fun e s' => ?_)
            rintro ⟨e', rfl, h3, h4⟩
            exact ⟨e', rfl, h3, (hk1.mono fun t ht => by simp [writes, ht]).trans (h4.mono fun t ht => by simp [writes, ht])⟩
          | exit i =>
            obtain ⟨r', hd, rfl⟩ := omap_some hk
            simp only [selim, Option.some.injEq] at h2
            subst h2
            exact ⟨.exit i, rfl, hd, hkeep.mono fun t ht => by simp [writes, ht]⟩
          | ret =>
            obtain ⟨r', hd, rfl⟩ := omap_some hk
            simp only [selim, Option.some.injEq] at h2
            subst h2
            exact ⟨.ret, rfl, hd, hkeep.mono fun t ht => by simp [writes, ht]⟩
        · cases h
      · rename_i p _
        split at h
        · rename_i hw
          obtain ⟨v, h1, h2⟩ := obind_some h
          refine HT.seq ((ih _ x st _ v hc.1 hg h1).mono fun e s => ?_)
          rintro ⟨e', rfl, hk, hkeep⟩
          cases e' with
          | normal =>
            have hk1 := patS_keep (x := v) hw hg
            refine HT.canon (toCanon hkeep hk) ((ih _ y _ k r hc.2 rfl h2).mono fun e s' => ?_)
            rintro ⟨e', rfl, h3, h4⟩
            exact ⟨e', rfl, h3, (hk1.mono fun t ht => by simp [writes, ht]).trans (h4.mono fun t ht => by simp [writes, ht])⟩
          | exit i => cases hk
          | ret => cases hk
        · cases h
      · refine HT.seq ((ih _ x st _ r hc.1 hg h).mono fun e s => ?_)
        rintro ⟨e', rfl, hk, hkeep⟩
        cases e' with
        | normal =>
          refine (ih _ y s k r hc.2 (hkeep.2.1.trans hg) hk).mono fun e s' => ?_
          rintro ⟨e', rfl, h3, h4⟩
          exact ⟨e', rfl, h3, (hkeep.mono fun t ht => by simp [writes, ht]).trans (h4.mono fun t ht => by simp [writes, ht])⟩
        | exit i => exact ⟨.exit i, rfl, hk, hkeep.mono fun t ht => by simp [writes, ht]⟩
        | ret => exact ⟨.ret, rfl, hk, hkeep.mono fun t ht => by simp [writes, ht]⟩
    | cond o x y =>
      simp only [codeOk, Bool.and_eq_true] at hc
      simp only [evK] at h
      have up : ∀ {e s}, KQ k r (writes x) st e s → KQ k r (writes (.cond o x y)) st e s := fun {e s} ⟨e', h1, h2, h3⟩ => ⟨e', h1, h2, h3.mono fun t ht => by simp [writes, ht]⟩
      have up2 : ∀ {e s}, KQ k r (writes y) st e s → KQ k r (writes (.cond o x y)) st e s := fun {e s} ⟨e', h1, h2, h3⟩ => ⟨e', h1, h2, h3.mono fun t ht => by simp [writes, ht]⟩
      split at h
      · rename_i ho; exact HT.cond ho ((ih _ x st k r hc.1 hg h).mono fun _ _ => up)
      · rename_i ho; exact HT.cond ho ((ih _ y st k r hc.2 hg h).mono fun _ _ => up2)
      · rename_i b ho
        refine HT.condS ho ?_
        cases b with
        | true => exact (ih _ x st k r hc.1 hg h).mono fun _ _ => up
        | false => exact (ih _ y st k r hc.2 hg h).mono fun _ _ => up2
      · cases h
    | block id c =>
      simp only [codeOk] at hc
      simp only [evK] at h
      refine HT.block ((ih _ c st _ r hc hg h).mono fun e s => ?_)
      rintro ⟨e', rfl, hk, hkeep⟩
      cases e' with
      | normal => exact ⟨.normal, rfl, hk, hkeep⟩
      | ret => exact ⟨.ret, rfl, hk, hkeep⟩
      | exit i =>
        simp only [Ex.to, blkQ] at hk ⊢
        split
        · rename_i hi
          rw [if_pos hi] at hk
          exact ⟨.normal, rfl, hk, hkeep⟩
        · rename_i hi
          rw [if_neg hi] at hk
          exact ⟨.exit i, rfl, hk, hkeep⟩
    | loop c =>
      have hc' : codeOk c = true := by simpa [codeOk] using hc
      simp only [evK] at h
      split at h
      · rename_i p id q _
        split at h
        · rename_i hw
          obtain ⟨v0, hd0, h⟩ := obind_some h
          obtain ⟨r1, hl, h2⟩ := obind_some h
          have key : ∀ (M : Nat) (v : skI p), loopN M (fun v => evK Γ κ.P HL HC N n c (patS (baseOf st c) p v) fun e s => match e with
              | .normal => omap .inl (decP s p)
              | .exit i => if i = id then omap (fun x => .inr (.inl x)) (decP s q) else none
              | .ret => omap (fun x => .inr (.inr x)) (k .ret s)) v = some r1 → ∀ a w, Rel κ (patS (baseOf st c) p v) a w →
              Code.rounds κ.P c (fun e a' w' => ∃ s', KQ k r (writes (.loop c)) st e s' ∧ Rel κ s' a' w') M a w := by
            intro M
            induction M with
            | zero => intro v hv; simp [loopN] at hv
            | succ M ihM =>
              intro v hv a w hr
              have hk1 := patS_keep (x := v) hw.1 hg
              simp only [loopN] at hv
              rw [rounds_succ]
              split at hv
              · rename_i y hy
                refine wp_mono (ih _ c _ _ _ hc' rfl hy a w hr) fun e a' w' => ?_
                rintro ⟨s', ⟨e', rfl, hk, hkeep⟩, hr'⟩
                cases e' with
                | normal =>
                  obtain ⟨y', hd, he⟩ := omap_some hk
                  injection he with he; subst he
                  exact ihM y' hv a' w' (toCanon (hk1.trans hkeep) hd a' w' hr')
                | exit i =>
                  simp only at hk
                  split at hk
                  · obtain ⟨_, _, he⟩ := omap_some hk; cases he
                  · cases hk
                | ret => obtain ⟨_, _, he⟩ := omap_some hk; cases he
              · rename_i ρ hy
                injection hv with hv; subst hv
                refine wp_mono (ih _ c _ _ _ hc' rfl hy a w hr) fun e a' w' => ?_
                rintro ⟨s', ⟨e', rfl, hk, hkeep⟩, hr'⟩
                cases e' with
                | normal => obtain ⟨_, _, he⟩ := omap_some hk; cases he
                | exit i =>
                  simp only at hk
                  split at hk
                  · rename_i hi
                    subst hi
                    obtain ⟨x, hd, he⟩ := omap_some hk
                    injection he with he; subst he
                    exact ⟨_, ⟨.exit i, rfl, h2, patS_keep hw.2 hg⟩, toCanon (hk1.trans hkeep) hd a' w' hr'⟩
                  · cases hk
                | ret =>
                  obtain ⟨x, hd, he⟩ := omap_some hk
                  injection he with he; subst he
                  simp only [selim, Option.some.injEq] at h2
                  subst h2
                  exact ⟨s', ⟨.ret, rfl, hd, hk1.trans hkeep⟩, hr'⟩
              · cases hv
          exact fun a w hr => wp_loop_rounds N (key N v0 hl a w (toCanon .refl hd0 a w hr))
        · cases h
      · rename_i p id q _
        split at h
        · rename_i hw
          obtain ⟨v0, hd0, h⟩ := obind_some h
          obtain ⟨r1, hl, h2⟩ := obind_some h
          have key : ∀ (M : Nat) (v : skI p), loopN M (fun v => evK Γ κ.P HL HC N n c (patS (baseOf st c) p v) fun e s => match e with
              | .normal => omap .inl (decP s p)
              | .exit i => if i = id then omap (fun x => .inr x) (decP s q) else none
              | .ret => none) v = some r1 → ∀ a w, Rel κ (patS (baseOf st c) p v) a w →
              Code.rounds κ.P c (fun e a' w' => ∃ s', KQ k r (writes (.loop c)) st e s' ∧ Rel κ s' a' w') M a w := by
            intro M
            induction M with
            | zero => intro v hv; simp [loopN] at hv
            | succ M ihM =>
              intro v hv a w hr
              have hk1 := patS_keep (x := v) hw.1 hg
              simp only [loopN] at hv
              rw [rounds_succ]
              split at hv
              · rename_i y hy
                refine wp_mono (ih _ c _ _ _ hc' rfl hy a w hr) fun e a' w' => ?_
                rintro ⟨s', ⟨e', rfl, hk, hkeep⟩, hr'⟩
                cases e' with
                | normal =>
                  obtain ⟨y', hd, he⟩ := omap_some hk
                  injection he with he; subst he
                  exact ihM y' hv a' w' (toCanon (hk1.trans hkeep) hd a' w' hr')
                | exit i =>
                  simp only at hk
                  split at hk
                  · obtain ⟨_, _, he⟩ := omap_some hk; cases he
                  · cases hk
                | ret => cases hk
              · rename_i ρ hy
                injection hv with hv; subst hv
                refine wp_mono (ih _ c _ _ _ hc' rfl hy a w hr) fun e a' w' => ?_
                rintro ⟨s', ⟨e', rfl, hk, hkeep⟩, hr'⟩
                cases e' with
                | normal => obtain ⟨_, _, he⟩ := omap_some hk; cases he
                | exit i =>
                  simp only at hk
                  split at hk
                  · rename_i hi
                    subst hi
                    obtain ⟨x, hd, he⟩ := omap_some hk
                    injection he with he; subst he
                    exact ⟨_, ⟨.exit i, rfl, h2, patS_keep hw.2 hg⟩, toCanon (hk1.trans hkeep) hd a' w' hr'⟩
                  · cases hk
                | ret => cases hk
              · cases hv
          exact fun a w hr => wp_loop_rounds N (key N v0 hl a w (toCanon .refl hd0 a w hr))
        · cases h
      · cases h
    | _ => simp [evK] at h
end
end Go.Abs
