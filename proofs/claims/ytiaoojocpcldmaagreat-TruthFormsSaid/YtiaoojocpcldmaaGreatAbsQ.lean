/- Calls, too, hang on the objects that they lead to alone. -/
import Derived.Test.YtiaoojocpcldmaaGreatAbsP
namespace Go.Abs
open Go.RowKit
set_option linter.unusedVariables false
set_option linter.unusedSimpArgs false

section
variable {E : Nat → Prop} {T T' : Tab}

theorem mapV_mono {f g : V → Option (V × List Nat)} : ∀ (cs : List V) (r : List V × List Nat), mapV f cs = some r → (∀ v x, v ∈ cs → f v = some x → g v = some x) → mapV g cs = some r
  | [], r, h, _ => by simpa [mapV] using h
  | v :: cs, r, h, hf => by
    simp only [mapV] at h ⊢
    split at h
    · rename_i x l h1
      rw [hf v _ (by simp) h1]
      split at h
      · rename_i xs l' h2
        rw [mapV_mono cs _ h2 fun v x hm => hf v x (by simp [hm])]
        exact h
      · cases h
    · cases h
theorem mapV_sites {f : V → Option (V × List Nat)} {Q : Nat → Prop} : ∀ (cs : List V) (xs : List V) (l : List Nat), mapV f cs = some (xs, l) → (∀ v x l', v ∈ cs → f v = some (x, l') → ∀ s ∈ l', Q s) → ∀ s ∈ l, Q s
  | [], xs, l, h, _ => by simp [mapV] at h; rw [h.2]; simp
  | v :: cs, xs, l, h, hf => by
    simp only [mapV] at h
    split at h
    · rename_i x l1 h1
      split at h
      · rename_i ys l2 h2
        simp at h
        obtain ⟨_, rfl⟩ := h
        intro s hs
        simp only [List.mem_append] at hs
        rcases hs with hs | hs
        · exact hf v x l1 (by simp) h1 s hs
        · exact mapV_sites cs ys l2 h2 (fun v x l' hm => hf v x l' (by simp [hm])) s hs
      · cases h
    · cases h

theorem view_mono (hle : Le E T T') : ∀ (n : Nat) (v : V) (r : V × List Nat), view n T v = some r → view n T' v = some r
  | 0, v, r, h => by simp [view] at h
  | n + 1, v, r, h => by
    simp only [view] at h ⊢
    split at h
    · rename_i hp; rw [if_pos hp]; exact h
    · rename_i hp
      rw [if_neg hp]
      split at h
      · rename_i s g off k
        by_cases hl : T.there s
        · simp only [hle s (.inl hl)]
          split at h
          · rename_i hg; rw [if_pos hg]
            split at h
            · rename_i hk
              split at h
              · rename_i hc; rw [if_pos hc]
                split at h
                · rename_i xs l hm
                  rw [mapV_mono _ _ hm fun v x _ => view_mono hle n v x]
                  exact h
                · cases h
              · cases h
            · cases h
          · cases h
        · simp [dead_of hl] at h
      · split at h
        · rename_i xs l hm; rw [mapV_mono _ _ hm fun v x _ => view_mono hle n v x]; exact h
        · cases h
      · split at h
        · rename_i x l hm; rw [view_mono hle n _ _ hm]; exact h
        · cases h
      · split at h
        · rename_i xs l hm; rw [mapV_mono _ _ hm fun v x _ => view_mono hle n v x]; exact h
        · cases h
      · rename_i s g
        by_cases hl : T.there s
        · simp only [hle s (.inl hl)]; exact h
        · simp [dead_of hl] at h
      · rename_i s g off k
        by_cases hl : T.there s
        · simp only [hle s (.inl hl)]; exact h
        · simp [dead_of hl] at h
      · cases h
theorem view_live : ∀ (n : Nat) (v x : V) (l : List Nat), view n T v = some (x, l) → ∀ s ∈ l, T.there s
  | 0, v, x, l, h => by simp [view] at h
  | n + 1, v, x, l, h => by
    simp only [view] at h
    split at h
    · simp at h; rw [h.2]; simp
    · rename_i hnp
      split at h
      · rename_i s g off k
        by_cases hl : T.there s
        · split at h
          · split at h
            · split at h
              · split at h
                · rename_i xs l' hm
                  simp at h
                  obtain ⟨_, rfl⟩ := h
                  intro s' hs'
                  simp only [List.mem_cons] at hs'
                  rcases hs' with rfl | hs'
                  · exact hl
                  · exact mapV_sites (Q := T.there) _ _ _ hm (fun v x l' _ hv => view_live n v x l' hv) s' hs'
                · cases h
              · cases h
            · cases h
          · cases h
        · simp [dead_of hl] at h
      · split at h
        · rename_i xs l' hm; simp at h; obtain ⟨_, rfl⟩ := h; exact mapV_sites (Q := T.there) _ _ _ hm fun v x l' _ hv => view_live n v x l' hv
        · cases h
      · split at h
        · rename_i y l' hm; simp at h; obtain ⟨_, rfl⟩ := h; exact view_live n _ _ _ hm
        · cases h
      · split at h
        · rename_i xs l' hm; simp at h; obtain ⟨_, rfl⟩ := h; exact mapV_sites (Q := T.there) _ _ _ hm fun v x l' _ hv => view_live n v x l' hv
        · cases h
      · rename_i s g
        by_cases hl : T.there s
        · split at h
          · split at h
            · simp at h; obtain ⟨_, rfl⟩ := h
              intro s' hs'
              simp at hs'; subst hs'; exact hl
            · cases h
          · cases h
        · simp [dead_of hl] at h
      · rename_i s g off k
        by_cases hl : T.there s
        · split at h
          · split at h
            · simp at h; obtain ⟨_, rfl⟩ := h
              intro s' hs'
              simp at hs'; subst hs'; exact hl
            · cases h
          · cases h
        · simp [dead_of hl] at h
      · cases h

theorem viewA1_mono (hle : Le E T T') {n : Nat} {bs : List Nat} {v : V} {r : V × List Nat × List Nat} (h : viewA1 n T bs v = some r) : viewA1 n T' bs v = some r := by
  unfold viewA1 at h ⊢
  split at h
  · rename_i s g off
    by_cases hl : T.there s
    · simp only [hle s (.inl hl)]; exact h
    · simp [dead_of hl] at h
  · split at h
    · rename_i x l hv; rw [view_mono hle _ _ _ hv]; exact h
    · cases h
theorem viewA1_live {n : Nat} {bs bs' : List Nat} {v x : V} {l : List Nat} (h : viewA1 n T bs v = some (x, l, bs')) (hb : ∀ s ∈ bs, T.there s) : (∀ s ∈ l, T.there s) ∧ ∀ s ∈ bs', T.there s := by
  unfold viewA1 at h
  split at h
  · rename_i s g off
    by_cases hl : T.there s
    · split at h
      · split at h
        · split at h
          · simp at h; obtain ⟨_, rfl, rfl⟩ := h; exact ⟨by simp, hb⟩
          · simp at h; obtain ⟨_, rfl, rfl⟩ := h
            refine ⟨by simp, fun s' hs' => ?_⟩
            simp only [List.mem_append, List.mem_singleton] at hs'
            rcases hs' with hs' | rfl
            · exact hb s' hs'
            · exact hl
        · cases h
      · cases h
    · simp [dead_of hl] at h
  · split at h
    · rename_i y l' hv; simp at h; obtain ⟨_, rfl, rfl⟩ := h; exact ⟨view_live _ _ _ _ hv, hb⟩
    · cases h
theorem viewL_mono {f g : List Nat → V → Option (V × List Nat × List Nat)} (hf : ∀ bs v r, f bs v = some r → g bs v = some r) : ∀ (vs : List V) (bs : List Nat) (r : List V × List Nat × List Nat), viewL f bs vs = some r → viewL g bs vs = some r
  | [], bs, r, h => by simpa [viewL] using h
  | v :: vs, bs, r, h => by
    simp only [viewL] at h ⊢
    split at h
    · rename_i x l bs' h1
      rw [hf _ _ _ h1]
      split at h
      · rename_i xs l' bs'' h2
        simp only
        rw [viewL_mono hf vs bs' _ h2]; exact h
      · cases h
    · cases h
theorem viewL_live {f : List Nat → V → Option (V × List Nat × List Nat)} (hf : ∀ bs bs' v x l, f bs v = some (x, l, bs') → (∀ s ∈ bs, T.there s) → (∀ s ∈ l, T.there s) ∧ ∀ s ∈ bs', T.there s) :
    ∀ (vs : List V) (bs bs' : List Nat) (xs : List V) (l : List Nat), viewL f bs vs = some (xs, l, bs') → (∀ s ∈ bs, T.there s) → (∀ s ∈ l, T.there s) ∧ ∀ s ∈ bs', T.there s
  | [], bs, bs', xs, l, h, hb => by simp [viewL] at h; obtain ⟨_, rfl, rfl⟩ := h; exact ⟨by simp, hb⟩
  | v :: vs, bs, bs', xs, l, h, hb => by
    simp only [viewL] at h
    split at h
    · rename_i x l1 bs1 h1
      split at h
      · rename_i ys l2 bs2 h2
        simp at h
        obtain ⟨_, rfl, rfl⟩ := h
        obtain ⟨a1, a2⟩ := hf _ _ _ _ _ h1 hb
        obtain ⟨b1, b2⟩ := viewL_live hf vs bs1 bs2 ys l2 h2 a2
        refine ⟨fun s hs => ?_, b2⟩
        simp only [List.mem_append] at hs
        rcases hs with hs | hs
        · exact a1 s hs
        · exact b1 s hs
      · cases h
    · cases h
theorem viewA_mono (hle : Le E T T') {n : Nat} (bs : List Nat) (v : V) (r : V × List Nat × List Nat) (h : viewA n T bs v = some r) : viewA n T' bs v = some r := by
  unfold viewA at h ⊢
  split at h
  · split at h
    · rename_i xs l bs' h1
      rw [viewL_mono (g := viewA1 n T') (fun bs v r => viewA1_mono hle) _ _ _ h1]; exact h
    · cases h
  · exact viewA1_mono hle h
theorem viewA_live {n : Nat} (bs bs' : List Nat) (v x : V) (l : List Nat) (h : viewA n T bs v = some (x, l, bs')) (hb : ∀ s ∈ bs, T.there s) : (∀ s ∈ l, T.there s) ∧ ∀ s ∈ bs', T.there s := by
  unfold viewA at h
  split at h
  · split at h
    · rename_i xs l1 bs1 h1
      simp at h
      obtain ⟨_, rfl, rfl⟩ := h
      exact viewL_live (fun bs bs' v x l => viewA1_live) _ _ _ _ _ h1 hb
    · cases h
  · exact viewA1_live h hb
theorem boxesOf_mono (hle : Le E T T') {n : Nat} : ∀ (bs : List Nat) (r : List OK × List Nat), boxesOf n T bs = some r → boxesOf n T' bs = some r
  | [], r, h => by simpa [boxesOf] using h
  | s :: bs, r, h => by
    simp only [boxesOf] at h ⊢
    by_cases hl : T.there s
    · simp only [hle s (.inl hl)]
      split at h
      · rename_i hk
        split at h
        · rename_i xs l hm
          rw [mapV_mono _ _ hm fun v x _ => view_mono hle n v x]
          split at h
          · rename_i ks l' hr; rw [boxesOf_mono hle bs _ hr]; exact h
          · cases h
        · cases h
      · cases h
    · simp [dead_of hl] at h
theorem boxesOf_live {n : Nat} : ∀ (bs : List Nat) (lb : List OK) (l : List Nat), boxesOf n T bs = some (lb, l) → ∀ s ∈ l, T.there s
  | [], lb, l, h => by simp [boxesOf] at h; rw [h.2]; simp
  | s :: bs, lb, l, h => by
    simp only [boxesOf] at h
    split at h
    · split at h
      · rename_i xs l1 hm
        split at h
        · rename_i ks l2 hr
          simp at h
          obtain ⟨_, rfl⟩ := h
          intro s' hs'
          simp only [List.mem_append] at hs'
          rcases hs' with hs' | hs'
          · exact mapV_sites (Q := T.there) _ _ _ hm (fun v x l' _ hv => view_live n v x l' hv) s' hs'
          · exact boxesOf_live bs ks l2 hr s' hs'
        · cases h
      · cases h
    · cases h

/-- What two tables that agreed where it mattered have become. -/
def Ext (E : Nat → Prop) (T T' T1 T1' : Tab) : Prop := ∀ s, ((T.there s ∨ E s) → T1'.get s = T1.get s) ∧ (¬ (T.there s ∨ E s) → T1'.get s = T'.get s ∧ T1.get s = T.get s)
theorem Ext.refl (hle : Le E T T') : Ext E T T' T T' := fun s => ⟨hle s, fun _ => ⟨rfl, rfl⟩⟩
theorem Ext.put {T1 T1' : Tab} (h : Ext E T T' T1 T1') {s : Nat} (hs : T.there s ∨ E s) (o : Ob) : Ext E T T' (T1.put s o) (T1'.put s o) := by
  intro t
  simp only [Tab.get_put]
  by_cases e : s = t
  · subst e; exact ⟨fun _ => by simp, fun hn => absurd hs hn⟩
  · simp only [if_neg e]; exact h t
theorem Ext.freezes {T1 T1' : Tab} (h : Ext E T T' T1 T1') : ∀ (l : List Nat), (∀ s ∈ l, T.there s) → Ext E T T' (T1.freezes l) (T1'.freezes l) := by
  intro l hl s
  simp only [Tab.get_freezes]
  refine ⟨fun hs => by rw [(h s).1 hs], fun hn => ?_⟩
  have : s ∉ l := fun hm => hn (.inl (hl s hm))
  simp only [if_neg this]
  exact (h s).2 hn
theorem Ext.revive : ∀ (bs : List Nat) (lb : List OK) (T1 T1' T2 : Tab), Ext E T T' T1 T1' → (∀ s ∈ bs, T.there s) → Abs.revive T1 bs lb = some T2 → ∃ T2', Abs.revive T1' bs lb = some T2' ∧ Ext E T T' T2 T2'
  | [], [], T1, T1', T2, h, _, hx => by simp [Abs.revive] at hx; subst hx; exact ⟨T1', rfl, h⟩
  | [], _ :: _, T1, T1', T2, h, _, hx => by simp [Abs.revive] at hx
  | _ :: _, [], T1, T1', T2, h, _, hx => by simp [Abs.revive] at hx
  | s :: bs, k :: lb, T1, T1', T2, h, hl, hx => by
    simp only [Abs.revive] at hx ⊢
    rw [(h s).1 (.inl (hl s (by simp)))]
    split at hx
    · split at hx
      · rename_i hc
        rw [if_pos hc]
        exact Ext.revive bs lb _ _ T2 (h.put (.inl (hl s (by simp))) _) (fun s' hs' => hl s' (by simp [hs'])) hx
      · cases hx
    · cases hx
theorem Ext.fresh (bs : List Nat) (d : Nat) : ∀ (lf : List OK) (j : Nat) (T1 T1' T2 : Tab), Ext E T T' T1 T1' → (∀ i, i < lf.length → E (fsite d (j + i))) → Abs.fresh bs d T1 j lf = some T2 → ∃ T2', Abs.fresh bs d T1' j lf = some T2' ∧ Ext E T T' T2 T2'
  | [], j, T1, T1', T2, h, _, hx => by simp [Abs.fresh] at hx; subst hx; exact ⟨T1', rfl, h⟩
  | k :: lf, j, T1, T1', T2, h, he, hx => by
    simp only [Abs.fresh] at hx ⊢
    have h0 : E (fsite d j) := he 0 (by simp)
    rw [(h (fsite d j)).1 (.inr h0)]
    split at hx
    · rename_i hc
      rw [if_pos hc]
      exact Ext.fresh bs d lf (j + 1) _ _ T2 (h.put (.inr h0) _) (fun i hi => by have := he (i + 1) (by simp; omega); rwa [show j + 1 + i = j + (i + 1) from by omega]) hx
    · cases hx

theorem aCall_mono {Γ : Orc} {f d : Nat} {args : List V} (hle : Le E T T') (he : ∀ j, j < 4 → E (fsite d j)) {v : V} {T1 : Tab} (h : aCall Γ T f args d = some (v, T1)) :
    ∃ T1', aCall Γ T' f args d = some (v, T1') ∧ Ext E T T' T1 T1' := by
  unfold aCall at h ⊢
  split at h
  · rename_i xs l bs hv
    rw [viewL_mono (g := viewA depth T') (fun bs v r => viewA_mono hle bs v r) _ _ _ hv]
    obtain ⟨hl, hbs⟩ := viewL_live (T := T) (fun bs bs' v x l => viewA_live bs bs' v x l) _ _ _ _ _ hv (by simp)
    simp only
    split at h
    · rename_i hc
      rw [if_pos hc]
      split at h
      · rename_i lb l2 hb
        rw [boxesOf_mono hle bs _ hb]
        have hl2 := boxesOf_live bs lb l2 hb
        simp only
        split at h
        · rename_i res lb' lf hg
          split at h
          · rename_i h4
            rw [if_pos h4]
            have e0 := (Ext.refl hle).freezes (zs res bs lf (l ++ l2)) (fun s hs => by replace hs := zs_mem hs; simp only [List.mem_append] at hs; rcases hs with hs | hs; exact hl s hs; exact hl2 s hs)
            split at h
            · rename_i T2 hr
              obtain ⟨T2', hr', e1⟩ := Ext.revive bs lb' _ _ T2 e0 hbs hr
              rw [hr']
              simp only
              split at h
              · rename_i T3 hf
                obtain ⟨T3', hf', e2⟩ := Ext.fresh bs d lf 0 _ _ T3 e1 (fun i hi => by rw [Nat.zero_add]; exact he i (by omega)) hf
                rw [hf']
                simp only
                have hren1 : ∀ x y, ren1 T3 bs d lf.length x = some y → ren1 T3' bs d lf.length x = some y := by
                  intro x y hx
                  unfold ren1 at hx ⊢
                  split at hx
                  · split at hx
                    · rename_i hcc
                      rw [if_pos hcc, (e2 _).1 (.inr (he _ (by omega)))]
                      exact hx
                    · cases hx
                  · split at hx
                    · rename_i hcc
                      rw [if_pos hcc, (e2 _).1 (.inr (he _ (by omega)))]
                      exact hx
                    · cases hx
                  · split at hx
                    · rename_i hge
                      rw [if_pos hge]
                      split at hx
                      · rename_i hcc
                        rw [if_pos hcc, (e2 _).1 (.inr (he _ (by omega)))]
                        exact hx
                      · cases hx
                    · rename_i hge
                      rw [if_neg hge]
                      split at hx
                      · rename_i hge2
                        rw [if_pos hge2]
                        split at hx
                        · rename_i s hs
                          rw [(e2 s).1 (.inl (hbs s (List.mem_of_getElem? hs)))]
                          exact hx
                        · cases hx
                      · cases hx
                  · exact hx
                have hrenL : ∀ xs ys, renL T3 bs d lf.length xs = some ys → renL T3' bs d lf.length xs = some ys := by
                  intro xs
                  induction xs with
                  | nil => intro ys hx; simpa [renL] using hx
                  | cons x r ih =>
                    intro ys hx
                    simp only [renL] at hx ⊢
                    split at hx
                    · rename_i y ys' h1 h2
                      rw [hren1 _ _ h1, ih _ h2]; exact hx
                    · cases hx
                have hren : ∀ x y, ren T3 bs d lf.length x = some y → ren T3' bs d lf.length x = some y := by
                  intro x y hx
                  unfold ren at hx ⊢
                  split at hx
                  · rename_i vs
                    cases hq : renL T3 bs d lf.length vs with
                    | none => simp [hq] at hx
                    | some ys => rw [hrenL _ _ hq]; rw [hq] at hx; exact hx
                  · exact hren1 _ _ hx
                cases hq : ren T3 bs d lf.length res with
                | none => simp [hq] at h
                | some y =>
                  rw [hren _ _ hq]
                  simp [hq] at h
                  obtain ⟨rfl, rfl⟩ := h
                  exact ⟨T3', rfl, e2⟩
              · cases h
            · cases h
          · cases h
        · cases h
      · cases h
    · cases h
  · cases h

end
end Go.Abs
