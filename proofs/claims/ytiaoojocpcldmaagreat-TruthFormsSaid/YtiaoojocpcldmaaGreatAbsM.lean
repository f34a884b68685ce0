/- A call, as the machine runs it. -/
import Derived.Test.YtiaoojocpcldmaaGreatAbsL
namespace Go.Abs
open Go.RowKit
set_option linter.unusedVariables false
set_option linter.unusedSimpArgs false

/-- What calls come to: of f, its arguments, the borrowed objects. -/
abbrev Orc := Nat → List V → List OK → Option (V × List OK × List OK)

def revive (T : Tab) : List Nat → List OK → Option Tab
  | [], [] => some T
  | s :: r, k :: lb' => match (T.get s).k, k with
    | .box ty _, .box ty' cs => if ty = ty' ∧ pureL cs = true then revive (T.put s ⟨(T.get s).gen, .box ty cs⟩) r lb' else none
    | _, _ => none
  | _, _ => none

def okFresh : OK → Bool
  | .row _ _ _ cs => pureL cs
  | .box _ cs => pureL cs
  | .nrow _ _ _ _ => true
  | _ => false
def fsite (d j : Nat) : Nat := d + 100000 * j
def fresh (bs : List Nat) (d : Nat) (T : Tab) : Nat → List OK → Option Tab
  | _, [] => some T
  | j, k :: r => if okFresh k = true ∧ bs.contains (fsite d j) = false then fresh bs d (T.put (fsite d j) ⟨(T.get (fsite d j)).gen + 1, k⟩) (j + 1) r else none

def ren1 (T : Tab) (bs : List Nat) (d nf : Nat) (v : V) : Option V :=
  match v with
  | .acc t 0 => if 2000000 ≤ t ∧ t - 2000000 < nf then some (.acc (fsite d (t - 2000000)) (T.get (fsite d (t - 2000000))).gen) else none
  | .own t 0 off n => if 2000000 ≤ t ∧ t - 2000000 < nf then some (.own (fsite d (t - 2000000)) (T.get (fsite d (t - 2000000))).gen off n) else none
  | .ptr t 0 off => if 2000000 ≤ t then (if t - 2000000 < nf then some (.ptr (fsite d (t - 2000000)) (T.get (fsite d (t - 2000000))).gen off) else none)
      else if 1000000 ≤ t then (match bs[t - 1000000]? with
        | some s => some (.ptr s (T.get s).gen off)
        | none => none) else none
  | v => if v.pure = true then some v else none
def renL (T : Tab) (bs : List Nat) (d nf : Nat) : List V → Option (List V)
  | [] => some []
  | v :: r => match ren1 T bs d nf v, renL T bs d nf r with
    | some x, some xs => some (x :: xs)
    | _, _ => none
def ren (T : Tab) (bs : List Nat) (d nf : Nat) (v : V) : Option V :=
  match v with
  | .tup vs => (renL T bs d nf vs).map .tup
  | v => ren1 T bs d nf v

mutual
/-- Leads to no memory at all. -/
def V.flat : V → Bool
  | .bool _ | .bs _ | .int _ _ | .str _ | .snil | .pnil | .inil | .fnil => true
  | .agg cs => flatL cs
  | .tup cs => flatL cs
  | .ifc _ v => v.flat
  | .fn _ cs => flatL cs
  | _ => false
def flatL : List V → Bool
  | [] => true
  | v :: r => v.flat && flatL r
end
theorem flatL_get : ∀ {cs : List V}, flatL cs = true → ∀ (i : Nat) (d : V), cs[i]? = some d → d.flat = true
  | [], _, i, d, h => by simp at h
  | v :: r, hp, i, d, h => by
    simp only [flatL, Bool.and_eq_true] at hp
    cases i with
    | zero => simp at h; subst h; exact hp.1
    | succ i => exact flatL_get hp.2 i d (by simpa using h)
theorem flat_rp {S S' : Addr → Prop} {w w' : World} {d : V} {v : Value} (h : Rp S w d v) (hf : d.flat = true) : Rp S' w' d v := by
  induction h with
  | bool b => exact .bool b
  | int k n => exact .int k n
  | str b s h => exact .str b s h
  | snil => exact .snil
  | sl hc hm hl h ih => simp [V.flat] at hf
  | slz => simp [V.flat] at hf
  | sz => simp [V.flat] at hf
  | bs h ih => exact .bs (ih rfl)
  | lst h ih => simp [V.flat] at hf
  | nl h ih => simp [V.flat] at hf
  | si h ih => simp [V.flat] at hf
  | eref h ih => simp [V.flat] at hf
  | cref hm hl h ih => simp [V.flat] at hf
  | pnil => exact .pnil
  | agg hl h ih => simp only [V.flat] at hf; exact .agg hl fun i d u hd hu => ih i d u hd hu (flatL_get hf i d hd)
  | tup hl h ih => simp only [V.flat] at hf; exact .tup hl fun i d u hd hu => ih i d u hd hu (flatL_get hf i d hd)
  | ifc h ih => simp only [V.flat] at hf; exact .ifc (ih hf)
  | inil => exact .inil
  | fn hl h ih => simp only [V.flat] at hf; exact .fn hl fun i d u hd hu => ih i d u hd hu (flatL_get hf i d hd)
  | fnil => exact .fnil
mutual
theorem V.flat_pure : ∀ (v : V), v.flat = true → v.pure = true
  | .agg cs, h => by simp only [V.flat] at h; simp only [V.pure]; exact flatL_pure cs h
  | .tup cs, h => by simp only [V.flat] at h; simp only [V.pure]; exact flatL_pure cs h
  | .ifc _ v, h => by simp only [V.flat] at h; simp only [V.pure]; exact V.flat_pure v h
  | .fn _ cs, h => by simp only [V.flat] at h; simp only [V.pure]; exact flatL_pure cs h
  | .bool _, _ | .bs _, _ | .int _ _, _ | .str _, _ | .snil, _ | .pnil, _ | .inil, _ | .fnil, _ => rfl
theorem flatL_pure : ∀ (l : List V), flatL l = true → pureL l = true
  | [], _ => rfl
  | v :: r, h => by simp only [flatL, Bool.and_eq_true] at h; simp only [pureL, Bool.and_eq_true]; exact ⟨V.flat_pure v h.1, flatL_pure r h.2⟩
end
/-- An answer that is a new row of cells that lead to no memory. -/
def own1 : V → List OK → Bool
  | .own 2000000 0 _ _, [.row _ _ _ cs] => flatL cs
  | _, _ => false
/-- What a call freezes: nothing, where its answer leads to no memory, and nothing is lent, and nothing is new but a row of such cells. -/
def zs (res : V) (bs : List Nat) (lf : List OK) (l : List Nat) : List Nat := if bs.isEmpty && (lf.isEmpty && res.flat || own1 res lf) then [] else l
theorem zs_mem {res : V} {bs : List Nat} {lf : List OK} {l : List Nat} {s : Nat} (h : s ∈ zs res bs lf l) : s ∈ l := by
  unfold zs at h; split at h
  · cases h
  · exact h

def depth : Nat := 8
def aCall (Γ : Orc) (T : Tab) (f : Nat) (args : List V) (d : Nat) : Option (V × Tab) :=
  match viewL (viewA depth T) [] args with
  | some (xs, l, bs) =>
    if bs.Nodup ∧ bs.length < 1000000 then
      match boxesOf depth T bs with
      | some (lb, l2) =>
        match Γ f xs lb with
        | some (res, lb', lf) =>
          if lf.length ≤ 4 then
            match revive (T.freezes (zs res bs lf (l ++ l2))) bs lb' with
            | some T2 => match fresh bs d T2 0 lf with
              | some T3 => (ren T3 bs d lf.length res).map fun v => (v, T3)
              | none => none
            | none => none
          else none
        | none => none
      | none => none
    else none
  | none => none

theorem revive_ok : ∀ (bs : List Nat) (lb' : List OK) (T T2 : Tab), bs.Nodup → revive T bs lb' = some T2 → bs.length = lb'.length ∧ (∀ t, t ∉ bs → T2.get t = T.get t) ∧
    ∀ (j s : Nat), bs[j]? = some s → ∃ ty cs cs', (T.get s).k = .box ty cs ∧ lb'[j]? = some (.box ty cs') ∧ pureL cs' = true ∧ T2.get s = ⟨(T.get s).gen, .box ty cs'⟩
  | [], [], T, T2, _, h => by simp [revive] at h; subst h; simp
  | [], _ :: _, T, T2, _, h => by simp [revive] at h
  | _ :: _, [], T, T2, _, h => by simp [revive] at h
  | s :: r, k :: lb', T, T2, hn, h => by
    simp only [List.nodup_cons] at hn
    simp only [revive] at h
    split at h
    · rename_i ty cs ty' cs' hk
      split at h
      · rename_i hc
        obtain ⟨rfl, hp⟩ := hc
        obtain ⟨h0, h1, h2⟩ := revive_ok r lb' _ T2 hn.2 h
        refine ⟨by simp [h0], fun t ht => ?_, fun j u hu => ?_⟩
        · simp only [List.mem_cons, not_or] at ht
          rw [h1 t ht.2, Tab.get_put, if_neg (Ne.symm ht.1)]
        · cases j with
          | zero =>
            simp at hu; subst hu
            exact ⟨ty, cs, cs', hk, rfl, hp, by rw [h1 s hn.1, Tab.get_put, if_pos rfl]⟩
          | succ j =>
            simp at hu
            obtain ⟨ty1, cs1, cs1', e1, e2, e3, e4⟩ := h2 j u hu
            have hne : s ≠ u := by rintro rfl; exact hn.1 (List.mem_of_getElem? hu)
            rw [Tab.get_put, if_neg hne] at e1 e4
            exact ⟨ty1, cs1, cs1', e1, by simpa using e2, e3, e4⟩
      · cases h
    · cases h

theorem fsite_inj {d i j : Nat} (h : fsite d i = fsite d j) : i = j := by unfold fsite at h; omega

theorem fresh_ok (bs : List Nat) (d : Nat) : ∀ (lf : List OK) (j0 : Nat) (T T3 : Tab), fresh bs d T j0 lf = some T3 → (∀ t, (∀ j, j < lf.length → t ≠ fsite d (j0 + j)) → T3.get t = T.get t) ∧
    ∀ (j : Nat) (k : OK), lf[j]? = some k → okFresh k = true ∧ fsite d (j0 + j) ∉ bs ∧ T3.get (fsite d (j0 + j)) = ⟨(T.get (fsite d (j0 + j))).gen + 1, k⟩
  | [], j0, T, T3, h => by simp [fresh] at h; subst h; simp
  | k :: r, j0, T, T3, h => by
    simp only [fresh] at h
    split at h
    · rename_i hc
      obtain ⟨h1, h2⟩ := fresh_ok bs d r (j0 + 1) _ T3 h
      refine ⟨fun t ht => ?_, fun j k' hk => ?_⟩
      · rw [h1 t fun j hj => by have := ht (j + 1) (by simp; omega); rwa [show j0 + 1 + j = j0 + (j + 1) from by omega], Tab.get_put, if_neg]
        exact fun e => ht 0 (by simp) (by rw [← e]; rfl)
      · cases j with
        | zero =>
          simp at hk; subst hk
          refine ⟨hc.1, by simpa using hc.2, ?_⟩
          rw [h1 _ fun j hj e => by have := fsite_inj e; omega]
          simp [Tab.get_put]
        | succ j =>
          simp at hk
          obtain ⟨a1, a2, a3⟩ := h2 j k' hk
          rw [show j0 + 1 + j = j0 + (j + 1) from by omega] at a2 a3
          refine ⟨a1, a2, ?_⟩
          rw [a3, Tab.get_put, if_neg]
          intro e
          have := fsite_inj e
          omega
    · cases h

theorem boxesOf_ok {n : Nat} {T : Tab} : ∀ (bs : List Nat) (lb : List OK) (l2 : List Nat), boxesOf n T bs = some (lb, l2) → lb.length = bs.length ∧
    ∀ (j s : Nat), bs[j]? = some s → ∃ ty cs xs l', (T.get s).k = .box ty cs ∧ lb[j]? = some (.box ty xs) ∧ mapV (view n T) cs = some (xs, l') ∧ ∀ s' ∈ l', s' ∈ l2
  | [], lb, l2, h => by simp [boxesOf] at h; obtain ⟨rfl, rfl⟩ := h; simp
  | s :: r, lb, l2, h => by
    simp only [boxesOf] at h
    split at h
    · rename_i ty cs hk
      split at h
      · rename_i xs l hm
        split at h
        · rename_i ks l' hr
          simp at h
          obtain ⟨rfl, rfl⟩ := h
          obtain ⟨h0, h1⟩ := boxesOf_ok r ks l' hr
          refine ⟨by simp [h0], fun j u hu => ?_⟩
          cases j with
          | zero => simp at hu; subst hu; exact ⟨ty, cs, xs, l, hk, rfl, hm, fun s' hs' => by simp [hs']⟩
          | succ j =>
            simp at hu
            obtain ⟨ty1, cs1, xs1, l1, e1, e2, e3, e4⟩ := h1 j u hu
            exact ⟨ty1, cs1, xs1, l1, e1, by simpa using e2, e3, fun s' hs' => by simp [e4 s' hs']⟩
        · cases h
      · cases h
    · cases h

theorem mapV_len {f : V → Option (V × List Nat)} : ∀ (cs xs : List V) (l : List Nat), mapV f cs = some (xs, l) → xs.length = cs.length
  | [], xs, l, h => by simp [mapV] at h; rw [h.1]
  | v :: r, xs, l, h => by
    simp only [mapV] at h
    split at h
    · split at h
      · rename_i ys l2 hm
        simp at h
        rw [← h.1]
        simp [mapV_len r ys l2 hm]
      · cases h
    · cases h

theorem pure_lr {T : Tab} {ι : Nat → Nat} {S S' : Addr → Prop} {w : World} {T' : Tab} {ι' : Nat → Nat} (hs : ∀ p, S p → S' p) {v : V} {cv : Value} (hp : v.pure = true) (h : Rv T ι S w v cv) : Rv T' ι' S' w v cv :=
  .pure ((h.pure_ hp).mono fun p hp => ⟨hs p hp, rfl⟩)

section
variable {κ : Cx} {ι : Nat → Nat} {st : St} {a : Act} {w : World}

theorem ren1_pureM {T : Tab} {bs : List Nat} {d nf : Nat} {v : V} (h : v.pure = true) : ren1 T bs d nf v = some v := by
  unfold ren1
  split
  · cases h
  · cases h
  · cases h
  · rw [if_pos h]
theorem renL_pureM {T : Tab} {bs : List Nat} {d nf : Nat} : ∀ {l : List V}, pureL l = true → renL T bs d nf l = some l
  | [], _ => rfl
  | v :: l, h => by
    simp only [pureL, Bool.and_eq_true] at h
    simp only [renL, ren1_pureM h.1, renL_pureM h.2]
theorem ren_pureM {T : Tab} {bs : List Nat} {d nf : Nat} {v : V} (h : v.pure = true) : ren T bs d nf v = some v := by
  unfold ren
  split
  · simp only [V.pure] at h
    rw [renL_pureM h]; rfl
  · exact ren1_pureM h

/-- A call that keeps nothing and tells nothing that leads to memory. -/
theorem aCall_flat {Γ : Orc} (hΓ : ∀ f xs lb res lb' lf, Γ f xs lb = some (res, lb', lf) → Spec κ.P f xs lb res lb' lf) (h : RelI κ ι st a w) {f : Nat} {args xs : List V} {l : List Nat} {res : V} {lb' : List OK} {cargs : Array Value}
    (hview : viewL (viewA depth st.o) [] args = some (xs, l, [])) (hg : Γ f xs [] = some (res, lb', [])) (hfl : res.flat = true) (hr : LR (Rv st.o ι (Stable κ.D st.o ι w) w) args cargs.toList) :
    Calls κ.P f cargs w fun e w' => ∃ cv ι', e = .returned cv ∧ To κ st.o ι w st.o ι' w' ∧ Rv st.o ι' (Stable κ.D st.o ι' w') w' res cv := by
  have hto1 := To.freezes h l
  have h1 := To.rel h hto1
  generalize hT1 : st.o.freezes l = T1 at *
  have hgetF : ∀ s, T1.get s = if s ∈ l then ⟨(st.o.get s).gen, (st.o.get s).k.freeze⟩ else st.o.get s := fun s => by rw [← hT1]; exact Tab.get_freezes _ _ _
  have hfz : ∀ s, s ∈ l → (T1.get s).k = (st.o.get s).k.freeze ∧ (T1.get s).gen = (st.o.get s).gen := fun s hs => by rw [hgetF, if_pos hs]; exact ⟨rfl, rfl⟩
  have hbx : ∀ s ty cs, (st.o.get s).k = .box ty cs → T1.get s = st.o.get s := by
    intro s ty cs hk
    rw [hgetF]
    split
    · cases hs : st.o.get s; rw [hs] at hk; simp at hk; subst hk; rfl
    · rfl
  let β : Nat → Nat := fun _ => 0
  let S : Addr → Prop := Stable κ.D T1 ι w
  have hdead : ∀ t, (tabU [] []).get t = ⟨0, .dead⟩ := by
    intro t
    rw [get_tabU]
    split
    · rename_i k hk; split at hk <;> simp at hk
    · split
      · rename_i k hk; split at hk <;> simp at hk
      · rfl
  have hnl : ∀ t, ¬ (tabU [] []).live t := fun t hl => by simp [Tab.live, hdead t, OK.live] at hl
  have hSB : ∀ p, S p → Stable S (tabU [] []) β w p := fun p hp => ⟨hp, hp.2.1, fun t hl e => absurd hl (hnl t)⟩
  have hTRB : TR S (tabU [] []) β w := ⟨fun t => by rw [hdead t]; trivial, fun t u ht hu e => absurd ht (hnl t), fun t ht => absurd ht (hnl t)⟩
  have hargs : LR (Rv (tabU [] []) β (Stable S (tabU [] []) β w) w) xs cargs.toList := by
    have hra := viewL_ok (R := Rv T1 ι (Stable κ.D T1 ι w) w) (R' := fun bs x u => RA { st with o := T1 } κ ι w bs x u) (fun _ _ _ _ _ => viewA_pre) (fun bs r x u hxu => ?_) args [] [] xs l cargs.toList hview
      (hr.mono fun d u hd => hd.mono hto1.goes) fun bs v x l' bs2 u hm hv hs hu => viewA_ok h1 hv (fun s hs' => hfz s (hs s hs')) hbx hu
    · refine hra.mono fun x u hxu => ?_
      rcases hxu with hp | ⟨j, off, s, hj, rfl, rfl⟩ | ⟨f, ys, us, rfl, rfl, hl⟩
      · exact .pure (hp.mono fun p hp => ⟨hSB p hp, rfl⟩)
      · simp at hj
      · have := hl.mono (R' := Rv (tabU [] []) β (Stable S (tabU [] []) β w) w) fun x u hxu => by
          rcases hxu with hp | ⟨j, off, s, hj, rfl, rfl⟩
          · exact .pure (hp.mono fun p hp => ⟨hSB p hp, rfl⟩)
          · simp at hj
        exact .fn this.1 this.2
    · rcases hxu with hp | ⟨j, off, s, hj, e1, e2⟩ | ⟨f, ys, us, e1, e2, hl⟩
      · exact .inl hp
      · exact .inr (.inl ⟨j, off, s, by rw [List.getElem?_append_left (List.getElem?_eq_some_iff.1 hj).1]; exact hj, e1, e2⟩)
      · refine .inr (.inr ⟨f, ys, us, e1, e2, hl.mono fun x u hxu => ?_⟩)
        rcases hxu with hp | ⟨j, off, s, hj, e1, e2⟩
        · exact .inl hp
        · exact .inr ⟨j, off, s, by rw [List.getElem?_append_left (List.getElem?_eq_some_iff.1 hj).1]; exact hj, e1, e2⟩
  refine (hΓ f xs [] res lb' [] hg w cargs β S hTRB hargs).mono fun e w' => ?_
  rintro ⟨cv, β', rfl, hkept, htrU, hres, hlen, hβ1, hβ2⟩
  refine ⟨cv, ι, rfl, ?_, .pure (flat_rp (hres.pure_ (V.flat_pure res hfl)) hfl)⟩
  refine call_to h [] [] (fun t _ _ => ⟨rfl, rfl⟩) (fun t ht => by simp at ht) (fun t ht => by simp at ht) (fun t ht => by simp at ht) (fun t ht => by simp at ht) ?_ (fun _ t ht => by simp at ht)
  exact hkept.mono fun b _ ⟨t, hl, _⟩ => absurd hl (hnl t)

/-- A call that keeps nothing and tells a new row that leads to no memory. -/
theorem aCall_row {Γ : Orc} (hΓ : ∀ f xs lb res lb' lf, Γ f xs lb = some (res, lb', lf) → Spec κ.P f xs lb res lb' lf) (h : RelI κ ι st a w) {f d : Nat} {args xs : List V} {l : List Nat} {off n ty sz : Nat} {fz0 : Bool} {cs : List V} {lb' : List OK} {cargs : Array Value}
    (hview : viewL (viewA depth st.o) [] args = some (xs, l, [])) (hg : Γ f xs [] = some (.own 2000000 0 off n, lb', [.row ty sz fz0 cs])) (hfl : flatL cs = true) (hr : LR (Rv st.o ι (Stable κ.D st.o ι w) w) args cargs.toList) :
    Calls κ.P f cargs w fun e w' => ∃ cv ι', e = .returned cv ∧ To κ st.o ι w (st.o.put (fsite d 0) ⟨(st.o.get (fsite d 0)).gen + 1, .row ty sz fz0 cs⟩) ι' w' ∧
      Rv (st.o.put (fsite d 0) ⟨(st.o.get (fsite d 0)).gen + 1, .row ty sz fz0 cs⟩) ι' (Stable κ.D (st.o.put (fsite d 0) ⟨(st.o.get (fsite d 0)).gen + 1, .row ty sz fz0 cs⟩) ι' w') w' (.own (fsite d 0) ((st.o.get (fsite d 0)).gen + 1) off n) cv := by
  have hto1 := To.freezes h l
  have h1 := To.rel h hto1
  generalize hT1 : st.o.freezes l = T1 at *
  have hgetF : ∀ s, T1.get s = if s ∈ l then ⟨(st.o.get s).gen, (st.o.get s).k.freeze⟩ else st.o.get s := fun s => by rw [← hT1]; exact Tab.get_freezes _ _ _
  have hfz : ∀ s, s ∈ l → (T1.get s).k = (st.o.get s).k.freeze ∧ (T1.get s).gen = (st.o.get s).gen := fun s hs => by rw [hgetF, if_pos hs]; exact ⟨rfl, rfl⟩
  have hbx : ∀ s ty cs, (st.o.get s).k = .box ty cs → T1.get s = st.o.get s := by
    intro s ty cs hk
    rw [hgetF]
    split
    · cases hs : st.o.get s; rw [hs] at hk; simp at hk; subst hk; rfl
    · rfl
  let β : Nat → Nat := fun _ => 0
  let S : Addr → Prop := Stable κ.D T1 ι w
  have hdead : ∀ t, (tabU [] []).get t = ⟨0, .dead⟩ := by
    intro t
    rw [get_tabU]
    split
    · rename_i k hk; split at hk <;> simp at hk
    · split
      · rename_i k hk; split at hk <;> simp at hk
      · rfl
  have hnl : ∀ t, ¬ (tabU [] []).live t := fun t hl => by simp [Tab.live, hdead t, OK.live] at hl
  have hSB : ∀ p, S p → Stable S (tabU [] []) β w p := fun p hp => ⟨hp, hp.2.1, fun t hl e => absurd hl (hnl t)⟩
  have hTRB : TR S (tabU [] []) β w := ⟨fun t => by rw [hdead t]; trivial, fun t u ht hu e => absurd ht (hnl t), fun t ht => absurd ht (hnl t)⟩
  have hargs : LR (Rv (tabU [] []) β (Stable S (tabU [] []) β w) w) xs cargs.toList := by
    have hra := viewL_ok (R := Rv T1 ι (Stable κ.D T1 ι w) w) (R' := fun bs x u => RA { st with o := T1 } κ ι w bs x u) (fun _ _ _ _ _ => viewA_pre) (fun bs r x u hxu => ?_) args [] [] xs l cargs.toList hview
      (hr.mono fun d u hd => hd.mono hto1.goes) fun bs v x l' bs2 u hm hv hs hu => viewA_ok h1 hv (fun s hs' => hfz s (hs s hs')) hbx hu
    · refine hra.mono fun x u hxu => ?_
      rcases hxu with hp | ⟨j, off, s, hj, rfl, rfl⟩ | ⟨f, ys, us, rfl, rfl, hl⟩
      · exact .pure (hp.mono fun p hp => ⟨hSB p hp, rfl⟩)
      · simp at hj
      · have := hl.mono (R' := Rv (tabU [] []) β (Stable S (tabU [] []) β w) w) fun x u hxu => by
          rcases hxu with hp | ⟨j, off, s, hj, rfl, rfl⟩
          · exact .pure (hp.mono fun p hp => ⟨hSB p hp, rfl⟩)
          · simp at hj
        exact .fn this.1 this.2
    · rcases hxu with hp | ⟨j, off, s, hj, e1, e2⟩ | ⟨f, ys, us, e1, e2, hl⟩
      · exact .inl hp
      · exact .inr (.inl ⟨j, off, s, by rw [List.getElem?_append_left (List.getElem?_eq_some_iff.1 hj).1]; exact hj, e1, e2⟩)
      · refine .inr (.inr ⟨f, ys, us, e1, e2, hl.mono fun x u hxu => ?_⟩)
        rcases hxu with hp | ⟨j, off, s, hj, e1, e2⟩
        · exact .inl hp
        · exact .inr ⟨j, off, s, by rw [List.getElem?_append_left (List.getElem?_eq_some_iff.1 hj).1]; exact hj, e1, e2⟩
  refine (hΓ f xs [] _ lb' _ hg w cargs β S hTRB hargs).mono fun e w' => ?_
  rintro ⟨cv, β', rfl, hkept, htrU, hres, hlen, hβ1, hβ2⟩
  have hlb' : lb' = [] := List.eq_nil_of_length_eq_zero hlen.symm
  subst hlb'
  have hgU : (tabU [] [OK.row ty sz fz0 cs]).get 2000000 = ⟨0, .row ty sz fz0 cs⟩ := by rw [get_tabU]; rfl
  have hlU : (tabU [] [OK.row ty sz fz0 cs]).live 2000000 := by simp [Tab.live, hgU, OK.live]
  have hβ : w.heap.size ≤ β' 2000000 := hβ2 0 (by simp)
  let ι' : Nat → Nat := fun t => if t = fsite d 0 then β' 2000000 else ι t
  have hι : ι' (fsite d 0) = β' 2000000 := by simp only [ι', if_true]
  have hget : ∀ t, (st.o.put (fsite d 0) ⟨(st.o.get (fsite d 0)).gen + 1, .row ty sz fz0 cs⟩).get t = if fsite d 0 = t then ⟨(st.o.get (fsite d 0)).gen + 1, .row ty sz fz0 cs⟩ else st.o.get t := fun t => Tab.get_put _ _ _ _
  have hvs : ∃ aa cc, cv = .slice (some aa) n cc := by
    cases hres with
    | pure h => cases h
    | own hv _ _ => exact hv
  have hown := hres.own_ hgU
  refine ⟨cv, ι', rfl, ?_, .own hvs (by rw [hget, if_pos rfl]; exact Nat.le_refl _) fun ty' sz' fz' cs' e => ?_⟩
  · refine call_to h [] [fsite d 0] (fun t _ ht => ?_) (fun t ht => by simp at ht) (fun t ht => ?_) (fun t ht _ => ?_) (fun t ht u hu _ _ _ => ?_) ?_ (fun H t ht => ?_)
    · simp only [List.mem_singleton] at ht
      refine ⟨by rw [hget, if_neg (Ne.symm ht)], by simp only [ι', if_neg ht]⟩
    · simp only [List.mem_singleton] at ht
      rw [ht, hget, if_pos rfl, hι]
      exact ⟨Nat.lt_succ_self _, hβ⟩
    · simp only [List.mem_singleton] at ht
      rw [ht, hι]
      exact htrU.lt _ hlU
    · simp only [List.mem_singleton] at ht hu; rw [ht, hu]
    · exact hkept.mono fun b _ ⟨t, hl, _⟩ => absurd hl (hnl t)
    · have ht : t = fsite d 0 := by simpa using ht
      rw [ht]
      have hob := htrU.ob 2000000
      rw [hgU] at hob
      rw [hget, if_pos rfl, hι]
      obtain ⟨arr, fz, cap, b1, b2, b3, b4, b5, b6⟩ := hob
      exact ⟨arr, fz, cap, b1, b2, b3, b4, b5, fun i dd u hd hu => .pure (flat_rp ((b6 i dd u hd hu).pure_ (V.flat_pure dd (flatL_get hfl i dd hd))) (flatL_get hfl i dd hd))⟩
  · rw [hget, if_pos rfl] at e
    simp only [Ob.mk.injEq, OK.row.injEq] at e
    obtain ⟨-, rfl, rfl, rfl, rfl⟩ := e
    rw [hι]
    exact hown

theorem aCall_ok {Γ : Orc} (hΓ : ∀ f xs lb res lb' lf, Γ f xs lb = some (res, lb', lf) → Spec κ.P f xs lb res lb' lf) (h : RelI κ ι st a w) {f d : Nat} {args : List V} {v : V} {T' : Tab} {cargs : Array Value}
    (hx : aCall Γ st.o f args d = some (v, T')) (hr : LR (Rv st.o ι (Stable κ.D st.o ι w) w) args cargs.toList) :
    Calls κ.P f cargs w fun e w' => ∃ cv ι', e = .returned cv ∧ To κ st.o ι w T' ι' w' ∧ Rv T' ι' (Stable κ.D T' ι' w') w' v cv := by
  unfold aCall at hx
  split at hx
  · rename_i xs l bs hview
    split at hx
    · rename_i hndl
      obtain ⟨hnd, hbl⟩ := hndl
      split at hx
      · rename_i lb l2 hbox
        split at hx
        · rename_i res lb' lf hg
          split at hx
          case isFalse => cases hx
          rename_i hlf4
          split at hx
          · rename_i T2 hrev
            split at hx
            · rename_i T3 hfresh
              cases hren : ren T3 bs d lf.length res with
              | none => simp [hren] at hx
              | some v' =>
                simp [hren] at hx
                obtain ⟨rfl, rfl⟩ := hx
                by_cases hflat0 : (bs.isEmpty && (lf.isEmpty && res.flat)) = true
                · simp only [Bool.and_eq_true, List.isEmpty_iff] at hflat0
                  obtain ⟨hb0, hf0, hfl⟩ := hflat0
                  subst hb0; subst hf0
                  simp [boxesOf] at hbox
                  obtain ⟨rfl, rfl⟩ := hbox
                  have hz : zs res [] [] (l ++ []) = [] := by simp [zs, hfl]
                  rw [hz] at hrev
                  have hlb0 : lb' = [] := by cases lb' with
                    | nil => rfl
                    | cons => simp [revive] at hrev
                  subst hlb0
                  simp [revive] at hrev
                  subst hrev
                  simp [fresh] at hfresh
                  subst hfresh
                  rw [ren_pureM (V.flat_pure res hfl)] at hren
                  injection hren with hren; subst hren
                  exact aCall_flat hΓ h hview hg hfl hr
                by_cases hrow : (bs.isEmpty && own1 res lf) = true
                · simp only [Bool.and_eq_true, List.isEmpty_iff] at hrow
                  obtain ⟨hb0, hrow⟩ := hrow
                  subst hb0
                  unfold own1 at hrow
                  split at hrow
                  case h_2 => cases hrow
                  rename_i off n ty sz fz0 cs
                  simp [boxesOf] at hbox
                  obtain ⟨rfl, rfl⟩ := hbox
                  have hz : zs (.own 2000000 0 off n) [] [OK.row ty sz fz0 cs] (l ++ []) = [] := by simp [zs, own1, hrow]
                  rw [hz] at hrev
                  have hlb0 : lb' = [] := by cases lb' with
                    | nil => rfl
                    | cons => simp [revive] at hrev
                  subst hlb0
                  simp [revive] at hrev
                  subst hrev
                  have hpu : okFresh (OK.row ty sz fz0 cs) = true := flatL_pure cs hrow
                  simp only [fresh, hpu] at hfresh
                  simp at hfresh
                  subst hfresh
                  have hren' : v' = .own (fsite d 0) ((st.o.get (fsite d 0)).gen + 1) off n := by
                    simp [ren, ren1, Tab.get_put] at hren
                    exact hren.symm
                  subst hren'
                  exact aCall_row hΓ h hview hg hrow hr
                have hflat : ¬ (bs.isEmpty && (lf.isEmpty && res.flat || own1 res lf)) = true := by
                  intro hh
                  cases hb : bs.isEmpty <;> simp_all
                rw [show zs res bs lf (l ++ l2) = l ++ l2 from by unfold zs; rw [if_neg hflat]] at hrev
                -- what is handed on stays
                have hto1 := To.freezes h (l ++ l2)
                have h1 := To.rel h hto1
                generalize hT1 : st.o.freezes (l ++ l2) = T1 at *
                have hgetF : ∀ s, T1.get s = if s ∈ l ++ l2 then ⟨(st.o.get s).gen, (st.o.get s).k.freeze⟩ else st.o.get s := fun s => by rw [← hT1]; exact Tab.get_freezes _ _ _
                have hfz : ∀ s, s ∈ l ∨ s ∈ l2 → (T1.get s).k = (st.o.get s).k.freeze ∧ (T1.get s).gen = (st.o.get s).gen := fun s hs => by rw [hgetF, if_pos (by simpa using hs)]; exact ⟨rfl, rfl⟩
                have hbx : ∀ s ty cs, (st.o.get s).k = .box ty cs → T1.get s = st.o.get s := by
                  intro s ty cs hk
                  rw [hgetF]
                  split
                  · cases hs : st.o.get s; rw [hs] at hk; simp at hk; subst hk; rfl
                  · rfl
                obtain ⟨hlb, hboxes⟩ := boxesOf_ok bs lb l2 hbox
                obtain ⟨hlb', hnotbs, hrevs⟩ := revive_ok bs lb' T1 T2 hnd hrev
                obtain ⟨hnotf, hfr⟩ := fresh_ok bs d lf 0 T2 T3 hfresh
                simp only [Nat.zero_add] at hnotf hfr
                -- the borrowed objects' blocks
                let β : Nat → Nat := fun t => match bs[t - 1000000]? with | some s => ι s | none => 0
                let S : Addr → Prop := Stable κ.D T1 ι w
                have getB : ∀ t k, (tabU lb []).get t = ⟨0, k⟩ → k.live → ∃ j s, t = 1000000 + j ∧ bs[j]? = some s ∧ lb[j]? = some k ∧ β t = ι s := by
                  intro t k hk hl
                  rw [get_tabU] at hk
                  split at hk
                  · rename_i k' hk'
                    split at hk'
                    · rename_i hge
                      injection hk with _ e; subst e
                      have hj : t - 1000000 < bs.length := by rw [← hlb]; exact (List.getElem?_eq_some_iff.1 hk').1
                      refine ⟨t - 1000000, bs[t - 1000000], by omega, List.getElem?_eq_getElem hj, hk', ?_⟩
                      simp only [β, List.getElem?_eq_getElem hj]
                    · cases hk'
                  · split at hk
                    · rename_i hk'; simp at hk'
                    · injection hk with _ e; subst e; exact hl.elim
                have liveB : ∀ t, (tabU lb []).live t → ∃ j s k, t = 1000000 + j ∧ bs[j]? = some s ∧ lb[j]? = some k ∧ β t = ι s ∧ (tabU lb []).get t = ⟨0, k⟩ := by
                  intro t hl
                  have hg0 : ((tabU lb []).get t).gen = 0 := by
                    rw [get_tabU]; split; · rfl
                    · split <;> rfl
                  have hgk : (tabU lb []).get t = ⟨0, ((tabU lb []).get t).k⟩ := by cases hq : (tabU lb []).get t; rw [hq] at hg0; simp at hg0; subst hg0; rfl
                  obtain ⟨j, s, e1, e2, e3, e4⟩ := getB t _ hgk hl
                  exact ⟨j, s, _, e1, e2, e3, e4, hgk⟩
                have boxT1 : ∀ (j s : Nat), bs[j]? = some s → ∃ ty cs, (T1.get s).k = .box ty cs := by
                  intro j s hs
                  obtain ⟨ty, cs, _, _, hk, _⟩ := hboxes j s hs
                  exact ⟨ty, cs, by rw [hbx s ty cs hk]; exact hk⟩
                have hSB : ∀ p, S p → Stable S (tabU lb []) β w p := by
                  intro p hp
                  refine ⟨hp, hp.2.1, fun t hl e => ?_⟩
                  obtain ⟨j, s, k, _, hs, _, hβ, _⟩ := liveB t hl
                  obtain ⟨ty, cs, hk⟩ := boxT1 j s hs
                  have := hp.2.2 s (by simp [Tab.live, hk, OK.live]) (by rw [← hβ, e])
                  rw [hk] at this
                  exact this.elim
                have hTRB : TR S (tabU lb []) β w := by
                  refine ⟨fun t => ?_, fun t u ht hu e => ?_, fun t ht => ?_⟩
                  · by_cases hl : (tabU lb []).live t
                    · obtain ⟨j, s, k, rfl, hs, hk, hβ, hget⟩ := liveB t hl
                      obtain ⟨ty, cs, ys, l', hks, hlbj, hm, hsub⟩ := hboxes j s hs
                      rw [hk] at hlbj; injection hlbj with hlbj; subst hlbj
                      rw [hget, hβ]
                      have hob := h1.tr.ob s
                      simp only [hbx s ty cs hks, hks] at hob
                      obtain ⟨arr, fz, a1, a2, a3, a4⟩ := hob
                      have hlr := mapV_ok (R' := Rp (Stable κ.D T1 ι w) w) cs ys l' arr.toList hm ⟨by simpa using a3.symm, a4⟩ fun v x l'' u _ hv hs'' hu =>
                        view_ok h1 depth v x l'' u hv (fun s' hs' => hfz s' (.inr (hsub s' (hs'' s' hs')))) hu
                      exact ⟨arr, fz, a1, a2, by rw [hlr.1]; simp, fun i dd u hd hu => .pure ((hlr.2 i dd u hd hu).mono fun p hp => ⟨hSB p hp, rfl⟩)⟩
                    · cases hkk : ((tabU lb []).get t).k with
                      | dead => trivial
                      | nrow ty fz nl L =>
                        left
                        by_cases hn : nl = true ∧ L.l = []
                        · exact hn
                        · exact absurd (by simp only [Tab.live, hkk, OK.live]; exact hn) hl
                      | _ => exact absurd (by simp [Tab.live, hkk, OK.live]) hl
                  · obtain ⟨i, s, k, rfl, hs, _, hβ, _⟩ := liveB t ht
                    obtain ⟨j, s', k', rfl, hs', _, hβ', _⟩ := liveB u hu
                    obtain ⟨ty, cs, hk1⟩ := boxT1 i s hs
                    obtain ⟨ty', cs', hk2⟩ := boxT1 j s' hs'
                    have : s = s' := h1.tr.inj s s' (by simp [Tab.live, hk1, OK.live]) (by simp [Tab.live, hk2, OK.live]) (by rw [← hβ, ← hβ', e])
                    subst this
                    have hi := (List.getElem?_eq_some_iff.1 hs)
                    have hj := (List.getElem?_eq_some_iff.1 hs')
                    have := (List.getElem?_inj hi.1 hnd).1 (hs.trans hs'.symm)
                    rw [this]
                  · obtain ⟨i, s, k, rfl, hs, _, hβ, _⟩ := liveB t ht
                    obtain ⟨ty, cs, hk1⟩ := boxT1 i s hs
                    rw [hβ]
                    exact h1.tr.lt s (by simp [Tab.live, hk1, OK.live])
                have ptrB : ∀ (j off s : Nat), bs[j]? = some s → Rv (tabU lb []) β (Stable S (tabU lb []) β w) w (.ptr (1000000 + j) 0 off) (.pointer (some ⟨ι s, off, none⟩)) := by
                  intro j off s hs
                  refine .ptr ⟨_, rfl⟩ (Nat.zero_le _) fun _ _ => ?_
                  have : 1000000 + j - 1000000 = j := by omega
                  simp only [β, this, hs]
                have hargs : LR (Rv (tabU lb []) β (Stable S (tabU lb []) β w) w) xs cargs.toList := by
                  have hra := viewL_ok (R := Rv T1 ι (Stable κ.D T1 ι w) w) (R' := fun bs x u => RA { st with o := T1 } κ ι w bs x u) (fun _ _ _ _ _ => viewA_pre) (fun bs r x u hxu => ?_) args [] bs xs l cargs.toList hview
                    (hr.mono fun d u hd => hd.mono hto1.goes) fun bs v x l' bs2 u hm hv hs hu => viewA_ok h1 hv (fun s hs' => hfz s (.inl (hs s hs'))) hbx hu
                  · refine hra.mono fun x u hxu => ?_
                    rcases hxu with hp | ⟨j, off, s, hj, rfl, rfl⟩ | ⟨f, ys, us, rfl, rfl, hl⟩
                    · exact .pure (hp.mono fun p hp => ⟨hSB p hp, rfl⟩)
                    · exact ptrB j off s hj
                    · have := hl.mono (R' := Rv (tabU lb []) β (Stable S (tabU lb []) β w) w) fun x u hxu => by
                        rcases hxu with hp | ⟨j, off, s, hj, rfl, rfl⟩
                        · exact .pure (hp.mono fun p hp => ⟨hSB p hp, rfl⟩)
                        · exact ptrB j off s hj
                      exact .fn this.1 this.2
                  · rcases hxu with hp | ⟨j, off, s, hj, e1, e2⟩ | ⟨f, ys, us, e1, e2, hl⟩
                    · exact .inl hp
                    · exact .inr (.inl ⟨j, off, s, by rw [List.getElem?_append_left (List.getElem?_eq_some_iff.1 hj).1]; exact hj, e1, e2⟩)
                    · refine .inr (.inr ⟨f, ys, us, e1, e2, hl.mono fun x u hxu => ?_⟩)
                      rcases hxu with hp | ⟨j, off, s, hj, e1, e2⟩
                      · exact .inl hp
                      · exact .inr ⟨j, off, s, by rw [List.getElem?_append_left (List.getElem?_eq_some_iff.1 hj).1]; exact hj, e1, e2⟩
                refine (hΓ f xs lb res lb' lf hg w cargs β S hTRB hargs).mono fun e w' => ?_
                rintro ⟨cv, β', rfl, hkept, htrU, hres, hlen, hβ1, hβ2⟩
                let fs : List Nat := (List.range lf.length).map (fsite d)
                let ι' : Nat → Nat := fun t => if t ∈ fs then β' (2000000 + (t - d) / 100000) else ι t
                have mem_fs : ∀ t, t ∈ fs ↔ ∃ j, j < lf.length ∧ t = fsite d j := fun t => by
                  simp only [fs, List.mem_map, List.mem_range]
                  exact ⟨fun ⟨j, h1, h2⟩ => ⟨j, h1, h2.symm⟩, fun ⟨j, h1, h2⟩ => ⟨j, h1, h2.symm⟩⟩
                have ι_fs : ∀ j, j < lf.length → ι' (fsite d j) = β' (2000000 + j) := fun j hj => by
                  have : (fsite d j - d) / 100000 = j := by unfold fsite; omega
                  simp only [ι', if_pos ((mem_fs _).2 ⟨j, hj, rfl⟩), this]
                have ι_not : ∀ t, t ∉ fs → ι' t = ι t := fun t ht => by simp only [ι', if_neg ht]
                have bs_not : ∀ t ∈ bs, t ∉ fs := by
                  intro t ht hf
                  obtain ⟨j, hj, rfl⟩ := (mem_fs t).1 hf
                  exact (hfr j lf[j] (List.getElem?_eq_getElem hj)).2.1 ht
                have T3_not : ∀ t, t ∉ fs → T3.get t = T2.get t := fun t ht => hnotf t fun j hj e => ht ((mem_fs t).2 ⟨j, hj, e⟩)
                have hbll : lb'.length < 1000000 := by omega
                have getUf : ∀ j k, lf[j]? = some k → (tabU lb' lf).get (2000000 + j) = ⟨0, k⟩ := by
                  intro j k hk
                  rw [get_tabU]
                  have e1 : lb'[2000000 + j - 1000000]? = none := List.getElem?_eq_none (by omega)
                  have e2 : 2000000 + j - 2000000 = j := by omega
                  simp only [show 1000000 ≤ 2000000 + j from by omega, show 2000000 ≤ 2000000 + j from by omega, if_true, e1, e2, hk]
                have getUb : ∀ j k, lb'[j]? = some k → (tabU lb' lf).get (1000000 + j) = ⟨0, k⟩ := by
                  intro j k hk
                  rw [get_tabU]
                  have e2 : 1000000 + j - 1000000 = j := by omega
                  simp only [show 1000000 ≤ 1000000 + j from by omega, if_true, e2, hk]
                have βb : ∀ j s, bs[j]? = some s → β' (1000000 + j) = ι s := by
                  intro j s hs
                  rw [hβ1 j (by rw [hlb]; exact (List.getElem?_eq_some_iff.1 hs).1)]
                  have : 1000000 + j - 1000000 = j := by omega
                  simp only [β, this, hs]
                have h2 : ∀ t ∈ bs, t ∉ fs ∧ ι' t = ι t ∧ ∃ ty cs cs', (T1.get t).k = .box ty cs ∧ T3.get t = ⟨(T1.get t).gen, .box ty cs'⟩ := by
                  intro t ht
                  obtain ⟨j, hj⟩ := List.mem_iff_getElem?.1 ht
                  obtain ⟨ty, cs, cs', e1, _, _, e2⟩ := hrevs j t hj
                  exact ⟨bs_not t ht, ι_not t (bs_not t ht), ty, cs, cs', e1, by rw [T3_not t (bs_not t ht), e2]⟩
                have h3 : ∀ t ∈ fs, (T1.get t).gen < (T3.get t).gen ∧ w.heap.size ≤ ι' t := by
                  intro t ht
                  obtain ⟨j, hj, rfl⟩ := (mem_fs t).1 ht
                  obtain ⟨a1, a2, a3⟩ := hfr j lf[j] (List.getElem?_eq_getElem hj)
                  rw [a3, hnotbs _ a2, ι_fs j hj]
                  exact ⟨Nat.lt_succ_self _, hβ2 j hj⟩
                have liveU : ∀ j, j < lf.length → T3.live (fsite d j) → (tabU lb' lf).live (2000000 + j) := by
                  intro j hj hlv
                  obtain ⟨a1, a2, a3⟩ := hfr j lf[j] (List.getElem?_eq_getElem hj)
                  simp only [Tab.live, a3] at hlv
                  simp only [Tab.live, getUf j _ (List.getElem?_eq_getElem hj)]
                  exact hlv
                have hSU : Goes κ.D T1 ι w T3 ι' w' → ∀ p, Stable (fun p => S p ∨ w.heap.size ≤ p.block) (tabU lb' lf) β' w' p → Stable κ.D T3 ι' w' p := by
                  intro H p hp
                  rcases hp.1 with hs | hs
                  · exact (H.st p hs).1
                  · refine ⟨.inr (.inl (Nat.le_trans h.kept.size hs)), hp.2.1, fun t hl e => ?_⟩
                    by_cases hf : t ∈ fs
                    · obtain ⟨j, hj, rfl⟩ := (mem_fs t).1 hf
                      have := hp.2.2 (2000000 + j) (liveU j hj hl) (by rw [← ι_fs j hj]; exact e)
                      rw [getUf j _ (List.getElem?_eq_getElem hj)] at this
                      rw [(hfr j lf[j] (List.getElem?_eq_getElem hj)).2.2]
                      exact this
                    · rw [ι_not t hf] at e
                      have hl1 : T1.live t := by
                        by_cases hb : t ∈ bs
                        · obtain ⟨_, _, ty, cs, cs', e1, _⟩ := h2 t hb
                          simp [Tab.live, e1, OK.live]
                        · have : T3.get t = T1.get t := by rw [T3_not t hf, hnotbs t hb]
                          simpa [Tab.live, this] using hl
                      have := h1.tr.lt t hl1
                      omega
                have hto2 : To κ T1 ι w T3 ι' w' := by
                  refine call_to h1 bs fs (fun t hb hf => ⟨by rw [T3_not t hf, hnotbs t hb], ι_not t hf⟩) h2 h3 ?_ ?_ ?_ ?_
                  · intro t ht hl
                    obtain ⟨j, hj, rfl⟩ := (mem_fs t).1 ht
                    rw [ι_fs j hj]
                    exact htrU.lt _ (liveU j hj hl)
                  · intro t ht u hu hl1 hl2 e
                    obtain ⟨i, hi, rfl⟩ := (mem_fs t).1 ht
                    obtain ⟨j, hj, rfl⟩ := (mem_fs u).1 hu
                    rw [ι_fs i hi, ι_fs j hj] at e
                    have := htrU.inj _ _ (liveU i hi hl1) (liveU j hj hl2) e
                    have : i = j := by omega
                    rw [this]
                  · refine hkept.mono fun b _ hb => ?_
                    obtain ⟨t, hl, e⟩ := hb
                    obtain ⟨j, s, k, rfl, hs, _, hβ, _⟩ := liveB t hl
                    exact ⟨s, List.mem_of_getElem? hs, by rw [← hβ, e]⟩
                  · intro H t ht
                    have hmono := hSU H
                    by_cases hf : t ∈ fs
                    · obtain ⟨j, hj, rfl⟩ := (mem_fs t).1 hf
                      obtain ⟨a1, a2, a3⟩ := hfr j lf[j] (List.getElem?_eq_getElem hj)
                      have hob := htrU.ob (2000000 + j)
                      rw [getUf j _ (List.getElem?_eq_getElem hj)] at hob
                      rw [a3, ι_fs j hj]
                      simp only at hob ⊢
                      generalize lf[j] = k at *
                      cases k with
                      | box ty cs =>
                        obtain ⟨arr, fz, b1, b2, b3, b4⟩ := hob
                        exact ⟨arr, fz, b1, b2, b3, fun i dd u hd hu => pure_lr hmono (pureL_get a1 i dd hd) (b4 i dd u hd hu)⟩
                      | row ty sz fz0 cs =>
                        obtain ⟨arr, fz, cap, b1, b2, b3, b4, b5, b6⟩ := hob
                        exact ⟨arr, fz, cap, b1, b2, b3, b4, b5, fun i dd u hd hu => pure_lr hmono (pureL_get a1 i dd hd) (b6 i dd u hd hu)⟩
                      | dead => trivial
                      | iter s pos => simp [okFresh] at a1
                      | mp M => simp [okFresh] at a1
                      | nrow ty fz0 nl L =>
                        rcases hob with hb | ⟨arr, fz, cap, b1, b2, b3, b4, b5, b6⟩
                        · exact .inl hb
                        · exact .inr ⟨arr, fz, cap, b1, b2, b3, b4, b5, fun i dd u hd hu => pure_lr hmono (TL.pure_cells hd) (b6 i dd u hd hu)⟩
                    · have hb : t ∈ bs := ht.resolve_right hf
                      obtain ⟨j, hj⟩ := List.mem_iff_getElem?.1 hb
                      obtain ⟨ty, cs, cs', e1, e2, e3, e4⟩ := hrevs j t hj
                      have hob := htrU.ob (1000000 + j)
                      rw [getUb j _ e2, βb j t hj] at hob
                      obtain ⟨arr, fz, b1, b2, b3, b4⟩ := hob
                      rw [T3_not t hf, e4, ι_not t hf]
                      exact ⟨arr, fz, b1, b2, b3, fun i dd u hd hu => pure_lr hmono (pureL_get e3 i dd hd) (b4 i dd u hd hu)⟩
                have hmono := hSU hto2.goes
                have hren1 : ∀ (x y : V) (cx : Value), ren1 T3 bs d lf.length x = some y → Rv (tabU lb' lf) β' (Stable (fun p => S p ∨ w.heap.size ≤ p.block) (tabU lb' lf) β' w') w' x cx →
                    Rv T3 ι' (Stable κ.D T3 ι' w') w' y cx := by
                  intro x y cx hxy hcx
                  unfold ren1 at hxy
                  split at hxy
                  · rename_i t
                    split at hxy
                    · rename_i hc
                      injection hxy with hxy; subst hxy
                      obtain ⟨hge, hlt⟩ := hc
                      refine .acc hcx.acc_form (Nat.le_refl _) fun ty fz nl L e => ?_
                      obtain ⟨a1, a2, a3⟩ := hfr (t - 2000000) lf[t - 2000000] (List.getElem?_eq_getElem hlt)
                      rw [a3] at e
                      simp at e
                      have hg : (tabU lb' lf).get t = ⟨0, .nrow ty fz nl L⟩ := by
                        have := getUf (t - 2000000) _ (List.getElem?_eq_getElem hlt)
                        rw [show 2000000 + (t - 2000000) = t from by omega, e] at this
                        exact this
                      have := hcx.acc_ hg
                      rw [ι_fs _ hlt, show 2000000 + (t - 2000000) = t from by omega]
                      exact this
                    · cases hxy
                  · rename_i t off n
                    split at hxy
                    · rename_i hc
                      injection hxy with hxy; subst hxy
                      obtain ⟨hge, hlt⟩ := hc
                      have hv : ∃ a c, cx = .slice (some a) n c := by
                        cases hcx with
                        | pure h => cases h
                        | own hv _ _ => exact hv
                      refine .own hv (Nat.le_refl _) fun ty sz fz0 cs e => ?_
                      obtain ⟨a1, a2, a3⟩ := hfr (t - 2000000) lf[t - 2000000] (List.getElem?_eq_getElem hlt)
                      rw [a3] at e
                      simp at e
                      have hg : (tabU lb' lf).get t = ⟨0, .row ty sz fz0 cs⟩ := by
                        have := getUf (t - 2000000) _ (List.getElem?_eq_getElem hlt)
                        rw [show 2000000 + (t - 2000000) = t from by omega, e] at this
                        exact this
                      have := hcx.own_ hg
                      rw [ι_fs _ hlt, show 2000000 + (t - 2000000) = t from by omega]
                      exact this
                    · cases hxy
                  · rename_i t off
                    split at hxy
                    · rename_i hge
                      split at hxy
                      · rename_i hlt
                        injection hxy with hxy; subst hxy
                        have hform : ∃ a, cx = .pointer (some a) := by
                          cases hcx with
                          | pure h => cases h
                          | ptr hv _ _ => exact hv
                        refine .ptr hform (Nat.le_refl _) fun _ hlive => ?_
                        have hlv := liveU _ hlt hlive
                        rw [show 2000000 + (t - 2000000) = t from by omega] at hlv
                        have hg : ((tabU lb' lf).get t).gen = 0 := by
                          have := getUf (t - 2000000) _ (List.getElem?_eq_getElem hlt)
                          rw [show 2000000 + (t - 2000000) = t from by omega] at this
                          rw [this]
                        have := hcx.ptr_ hg hlv
                        subst this
                        rw [ι_fs _ hlt, show 2000000 + (t - 2000000) = t from by omega]
                      · cases hxy
                    · split at hxy
                      · rename_i hge
                        split at hxy
                        · rename_i s hs
                          injection hxy with hxy; subst hxy
                          obtain ⟨ty, cs, cs', e1, e2, e3, e4⟩ := hrevs _ s hs
                          have hgU := getUb _ _ e2
                          rw [show 1000000 + (t - 1000000) = t from by omega] at hgU
                          have := hcx.ptr_ (by rw [hgU]) (by simp [Tab.live, hgU, OK.live])
                          subst this
                          refine .ptr ⟨_, rfl⟩ (Nat.le_refl _) fun _ _ => ?_
                          have hb := βb _ s hs
                          rw [show 1000000 + (t - 1000000) = t from by omega] at hb
                          rw [hb, ι_not s (bs_not s (List.mem_of_getElem? hs))]
                        · cases hxy
                      · cases hxy
                  · split at hxy
                    · rename_i hp
                      injection hxy with hxy; subst hxy
                      exact pure_lr hmono hp hcx
                    · cases hxy
                refine ⟨cv, ι', rfl, hto1.trans hto2, ?_⟩
                unfold ren at hren
                split at hren
                · rename_i vs
                  obtain ⟨us, rfl, hl, hh⟩ := hres.tup_
                  have hrl : ∀ (vs ys : List V) (us : List Value), renL T3 bs d lf.length vs = some ys → LR (Rv (tabU lb' lf) β' (Stable (fun p => S p ∨ w.heap.size ≤ p.block) (tabU lb' lf) β' w') w') vs us →
                      LR (Rv T3 ι' (Stable κ.D T3 ι' w') w') ys us := by
                    intro vs
                    induction vs with
                    | nil =>
                      intro ys us hy hlr
                      simp [renL] at hy; subst hy
                      have : us = [] := List.eq_nil_of_length_eq_zero (by simpa using hlr.1.symm)
                      subst this
                      exact .nil
                    | cons x r ih =>
                      intro ys us hy hlr
                      obtain ⟨u, us', rfl, hu, hr'⟩ := hlr.head
                      simp only [renL] at hy
                      split at hy
                      · rename_i y ys' hy1 hy2
                        injection hy with hy; subst hy
                        exact .cons (hren1 x y u hy1 hu) (ih ys' us' hy2 hr')
                      · cases hy
                  cases hrn : renL T3 bs d lf.length vs with
                  | none => simp [hrn] at hren
                  | some ys =>
                    simp [hrn] at hren; subst hren
                    have := hrl vs ys us hrn ⟨hl, hh⟩
                    exact .tup this.1 this.2
                · exact hren1 res v' cv hren hres
            · cases hx
          · cases hx
        · cases hx
      · cases hx
    · cases hx
  · cases hx

end
end Go.Abs
