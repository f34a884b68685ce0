/- What an operation comes to hangs on the objects that it leads to alone. -/
import Derived.Test.YtiaoojocpcldmaaGreatAbsO
namespace Go.Abs
open Go.RowKit
set_option linter.unusedVariables false
set_option linter.unusedSimpArgs false

def OK.there : OK → Prop
  | .dead => False
  | _ => True
def Tab.there (T : Tab) (t : Nat) : Prop := (T.get t).k.there

/-- T' has what T has: its objects, and the sites E as they are. -/
def Le (E : Nat → Prop) (T T' : Tab) : Prop := ∀ s, (T.there s ∨ E s) → T'.get s = T.get s
theorem dead_of {T : Tab} {s : Nat} (h : ¬ T.there s) : (T.get s).k = .dead := by
  cases hk : (T.get s).k with
  | dead => rfl
  | _ => exact absurd (by simp [Tab.there, hk, OK.there]) h

section
variable {E : Nat → Prop} {T T' : Tab}

theorem aCells_mono (hle : Le E T T') {x : V} {cs : List V} (h : aCells T x = some cs) : aCells T' x = some cs := by
  unfold aCells at h ⊢
  split at h
  · rename_i s g off
    by_cases hl : T.there s
    · simp only [hle s (.inl hl)]; exact h
    · simp [dead_of hl] at h
  · exact h
  · exact h
  · rename_i s g sz i off
    by_cases hl : T.there s
    · simp only [hle s (.inl hl)]; exact h
    · simp [dead_of hl] at h
  · cases h
theorem aLoad_mono (hle : Le E T T') {P : Program} {t : Nat} {x : V} {r : V × Option (Nat × Ob)} (h : aLoad P T t x = some r) : aLoad P T' t x = some r := by
  unfold aLoad at h ⊢
  split at h
  · rename_i cs hc; rw [aCells_mono hle hc]; exact h
  · cases h
theorem aStore_mono (hle : Le E T T') {P : Program} {t : Nat} {x v : V} {r : Option (Nat × Ob)} (h : aStore P T t x v = some r) : aStore P T' t x v = some r ∧ ∀ s o, r = some (s, o) → T.there s := by
  unfold aStore at h ⊢
  split at h
  · rename_i s g off
    by_cases hl : T.there s
    · simp only [hle s (.inl hl)]
      refine ⟨h, fun s' o e => ?_⟩
      subst e
      split at h
      · split at h
        · split at h
          · split at h
            · simp at h; rw [← h.1]; exact hl
            · cases h
          · split at h
            · simp at h; rw [← h.1]; exact hl
            · cases h
          · cases h
        · cases h
      · cases h
    · simp [dead_of hl] at h
      split at h <;> first | cases h | (split at h <;> cases h)
  · cases h
theorem aIndexAddr_mono (hle : Le E T T') {P : Program} {t : Nat} {x ix v : V} (h : aIndexAddr P T t x ix = some v) : aIndexAddr P T' t x ix = some v := by
  unfold aIndexAddr at h ⊢
  split at h
  · split at h
    · split at h
      · split at h
        · rename_i hA
          unfold aArrIx at h ⊢
          split at h
          · rename_i s g sz
            by_cases hl : T.there s
            · simp only [hle s (.inl hl)]; rw [if_pos hA]; exact h
            · simp [dead_of hl] at h
          · cases h
        · rename_i hA; rw [if_neg hA]; exact h
      · cases h
    · rename_i e
      split at h
      · rename_i hi
        split at h
        · rename_i s g off n
          by_cases hl : T.there s
          · simp only [hle s (.inl hl)]; exact h
          · simp [dead_of hl] at h
        · exact h
        · exact h
        · rename_i s g
          by_cases hl : T.there s
          · simp only [hle s (.inl hl)]; exact h
          · simp [dead_of hl] at h
        · cases h
      · cases h
    · cases h
  · cases h
theorem aLen_mono (hle : Le E T T') {P : Program} {t : Nat} {x v : V} (h : aLen P T t x = some v) : aLen P T' t x = some v := by
  unfold aLen at h ⊢
  split at h
  · rename_i e; simpa [e] using h
  · rename_i e; simpa [e] using h
  · rename_i e; simpa [e] using h
  · rename_i e; simpa [e] using h
  · rename_i e; simpa [e] using h
  · rename_i e; simpa [e] using h
  · rename_i e1 s g e
    by_cases hl : T.there s
    · simp only [hle s (.inl hl)]; exact h
    · simp [dead_of hl] at h
  · rename_i e; simpa [e] using h
  · cases h
theorem winOf_mono (hle : Le E T T') {x : V} {r : Nat × Nat × Nat × Nat × Nat × Bool × Bool × TL} (h : winOf T x = some r) : winOf T' x = some r := by
  unfold winOf at h ⊢
  split at h
  · rename_i s g
    by_cases hl : T.there s
    · simp only [hle s (.inl hl)]; exact h
    · simp [dead_of hl] at h
  · rename_i s g off n
    by_cases hl : T.there s
    · simp only [hle s (.inl hl)]; exact h
    · simp [dead_of hl] at h
  · cases h
theorem wSlice_mono (hle : Le E T T') {P : Program} {t : Nat} {x : V} {lo hi : Option V} {r : List Bool × V} (h : wSlice P T t x lo hi = some r) : wSlice P T' t x lo hi = some r := by
  unfold wSlice at h ⊢
  split at h
  case h_2 => cases h
  rename_i e ht
  split at h
  case h_2 => cases h
  rename_i inf s g off n ty fz nl L l hh hinf hw hl hh'
  simp only [ht, hinf, winOf_mono hle hw, hl, hh']
  exact h
theorem aSlice_mono (hle : Le E T T') {P : Program} {t : Nat} {x v : V} {lo hi : Option V} (h : aSlice P T t x lo hi = some v) : aSlice P T' t x lo hi = some v := by
  unfold aSlice at h ⊢
  split at h
  · rename_i e; exact h
  · rename_i e
    split at h
    · rename_i hi
      split at h
      · exact h
      · rename_i s g off n
        by_cases hl : T.there s
        · simp only [hle s (.inl hl)]; exact h
        · simp only [dead_of hl] at h
          split at h
          · split at h <;> cases h
          · cases h
      · exact h
      · exact h
      · split at h
        · rename_i r hw
          rw [wSlice_mono hle hw]
          exact h
        · cases h
    · cases h
  · cases h
theorem aNext_mono (hle : Le E T T') {x : V} {isS : Bool} {v : V} {r : Option (Nat × Ob)} (h : aNext T x isS = some (v, r)) : aNext T' x isS = some (v, r) ∧ ∀ s o, r = some (s, o) → T.there s := by
  unfold aNext at h ⊢
  split at h
  · rename_i s g
    by_cases hl : T.there s
    · simp only [hle s (.inl hl)]
      refine ⟨h, fun s' o e => ?_⟩
      subst e
      split at h
      · split at h
        · split at h
          · simp at h; rw [← h.2.1]; exact hl
          · simp at h
        · cases h
      · cases h
    · simp [dead_of hl] at h
  · cases h
theorem aSrc_mono (hle : Le E T T') {sz : Nat} {x : V} {r : Nat × List V} (h : aSrc T sz x = some r) : aSrc T' sz x = some r := by
  unfold aSrc at h ⊢
  split at h
  · exact h
  · exact h
  · exact h
  · rename_i s g
    by_cases hl : T.there s
    · simp only [hle s (.inl hl)]; exact h
    · simp [dead_of hl] at h
  · exact h
  · rename_i s g off n
    by_cases hl : T.there s
    · simp only [hle s (.inl hl)]; exact h
    · simp [dead_of hl] at h
  · rename_i s g off n
    by_cases hl : T.there s
    · simp only [hle s (.inl hl)]; exact h
    · simp [dead_of hl] at h
  · exact h
  · cases h

theorem aCopy_mono (hle : Le E T T') {P : Program} {t : Nat} {s x v : V} {r : Option (Nat × Ob)} (h : aCopy P T t s x = some (v, r)) : aCopy P T' t s x = some (v, r) ∧ ∀ s o, r = some (s, o) → T.there s := by
  unfold aCopy at h ⊢
  split at h
  · rename_i e
    split at h
    · rename_i i hi
      split at h
      · rename_i m xs s g off n hsrc
        rw [aSrc_mono hle hsrc]
        by_cases hl : T.there s
        · simp only [hle s (.inl hl)]
          refine ⟨h, fun s' o e => ?_⟩
          subst e
          split at h
          · split at h
            · split at h
              · simp at h; rw [← h.2.1]; exact hl
              · cases h
            · cases h
          · cases h
        · simp [dead_of hl] at h
      · rename_i m xs hsrc
        rw [aSrc_mono hle hsrc]
        refine ⟨h, fun s' o e => ?_⟩
        subst e; simp at h
      · cases h
    · cases h
  · cases h

theorem aConvert_mono (hle : Le E T T') {P : Program} {src dst d : Nat} (hd : E d) {x v : V} {r : Option (Nat × Ob)} (h : aConvert P T src dst x d = some (v, r)) :
    aConvert P T' src dst x d = some (v, r) ∧ ∀ s o, r = some (s, o) → T.there s ∨ E s := by
  unfold aConvert at h ⊢
  split at h
  · exact ⟨h, fun s o e => by subst e; simp at h⟩
  · exact ⟨h, fun s o e => by subst e; simp at h⟩
  · exact ⟨h, fun s o e => by subst e; simp at h⟩
  · simp only [hle d (.inr hd)]
    refine ⟨h, fun s o e => ?_⟩
    subst e
    split at h
    · simp at h; rw [← h.2.1]; exact .inr hd
    · cases h
  · rename_i e1 e2 hne
    split at h
    · rename_i hc
      split at h
      · rename_i m xs hsrc
        refine ⟨?_, fun s o e => ?_⟩
        · have h2 := aSrc_mono hle hsrc
          rw [if_pos hc, h2]; exact h
        · subst e
          cases hb : toBytes xs <;> simp [hb] at h
      · cases h
    · cases h
  · cases h

theorem aAppend_mono (hle : Le E T T') {P : Program} {t tx d : Nat} (hd : E d) {s x v : V} {r : Option (Nat × Ob)} (h : aAppend P T t tx s x d = some (v, r)) :
    aAppend P T' t tx s x d = some (v, r) ∧ ∀ s o, r = some (s, o) → T.there s ∨ E s := by
  unfold aAppend at h ⊢
  split at h
  · rename_i e dx e1 e2
    split at h
    · rename_i zs i e3 e4
      split at h
      · rename_i m xs hsrc
        rw [aSrc_mono hle hsrc]
        simp only [hle d (.inr hd)]
        split at h
        · rename_i hc
          rw [if_pos hc]
          split at h
          · refine ⟨h, fun s o e => ?_⟩
            subst e
            split at h
            · simp at h
            · split at h
              · simp at h; rw [← h.2.1]; exact .inr hd
              · cases h
          · refine ⟨h, fun s o e => ?_⟩
            subst e
            split at h
            · simp at h
            · split at h
              · simp at h; rw [← h.2.1]; exact .inr hd
              · cases h
          · rename_i s g n
            by_cases hl : T.there s
            · simp only [hle s (.inl hl)]
              refine ⟨h, fun s' o e => ?_⟩
              subst e
              split at h
              · split at h
                · split at h
                  · simp at h; rw [← h.2.1]; exact .inl hl
                  · cases h
                · cases h
              · cases h
            · simp [dead_of hl] at h
          · cases h
        · cases h
      · cases h
    · cases h
  · cases h

theorem aOverW_mono (hle : Le E T T') {P : Program} {t tx : Nat} {s x v : V} {r : Option (Nat × Ob)} (h : aOverW P T t tx s x = some (v, r)) :
    aOverW P T' t tx s x = some (v, r) ∧ (∀ s o, r = some (s, o) → T.there s) ∧ ∀ d, E d → aAppend P T' t tx s x d = aAppend P T t tx s x d := by
  unfold aOverW at h ⊢
  split at h
  · rename_i e dx e1 e2
    split at h
    · rename_i i hi
      split at h
      · rename_i m xs hsrc
        have hsrc' := aSrc_mono hle hsrc
        rw [hsrc']
        simp only
        split at h
        · rename_i hc
          rw [if_pos hc]
          split at h
          · rename_i s g off n
            by_cases hl : T.there s
            · simp only [hle s (.inl hl)]
              refine ⟨h, fun s' o e => ?_, fun d hd => ?_⟩
              · subst e
                split at h
                · split at h
                  · split at h
                    · simp at h
                    · split at h
                      · simp at h; rw [← h.2.1]; exact hl
                      · cases h
                  · cases h
                · cases h
              · unfold aAppend
                simp only [e1, e2, hi, hsrc, hsrc', hle d (.inr hd)]
                cases zeroC P e with
                | none => rfl
                | some zs =>
                  simp only
                  cases off with
                  | zero => simp only [hle s (.inl hl), hsrc, hsrc']
                  | succ k => simp only [hsrc, hsrc']
            · simp [dead_of hl] at h
          · cases h
        · cases h
      · cases h
    · cases h
  · cases h
theorem aAppO_mono (hle : Le E T T') {P : Program} {t tx d : Nat} (hd : E d) {s x v : V} {r : Option (Nat × Ob)} (h : (match aAppend P T t tx s x d with | some r => some r | none => aOverW P T t tx s x) = some (v, r)) :
    (match aAppend P T' t tx s x d with | some r => some r | none => aOverW P T' t tx s x) = some (v, r) ∧ ∀ s o, r = some (s, o) → T.there s ∨ E s := by
  cases ha : aAppend P T t tx s x d with
  | some q =>
    rw [ha] at h
    injection h with h; subst h
    obtain ⟨h1, h2⟩ := aAppend_mono hle hd ha
    rw [h1]
    exact ⟨rfl, h2⟩
  | none =>
    rw [ha] at h
    obtain ⟨h1, h2, h3⟩ := aOverW_mono hle h
    rw [h3 d hd, ha, h1]
    exact ⟨rfl, fun s o e => .inl (h2 s o e)⟩

theorem symSrc_mono (hle : Le E T T') {e : Ty} {x : V} {l : List e.I} (h : symSrc T e x = some l) : symSrc T' e x = some l := by
  unfold symSrc at h ⊢
  split at h
  · exact h
  · rename_i s g
    by_cases hl : T.there s
    · simp only [hle s (.inl hl)]; exact h
    · simp [dead_of hl] at h
  · rename_i s g off n
    by_cases hl : T.there s
    · simp only [hle s (.inl hl)]; exact h
    · simp [dead_of hl] at h
  · exact h
  · split at h
    · rename_i m xs hs
      rw [aSrc_mono hle hs]
      exact h
    · cases h
theorem srcTL_mono (hle : Le E T T') {x : V} {L : TL} (h : srcTL T x = some L) : srcTL T' x = some L := by
  unfold srcTL at h ⊢
  split at h
  · exact h
  · rename_i s g
    by_cases hl : T.there s
    · simp only [hle s (.inl hl)]; exact h
    · simp [dead_of hl] at h
  · rename_i s g off n
    by_cases hl : T.there s
    · simp only [hle s (.inl hl)]; exact h
    · simp [dead_of hl] at h
  · cases h
theorem sAppend_mono (hle : Le E T T') {P : Program} {t tx d : Nat} (hd : E d) {s x v : V} {r : Option (Nat × Ob)} (h : sAppend P T t tx s x d = some (v, r)) :
    sAppend P T' t tx s x d = some (v, r) ∧ ∀ s o, r = some (s, o) → T.there s ∨ E s := by
  unfold sAppend at h ⊢
  split at h
  · rename_i et dx e1 e2
    split at h
    · rename_i zs i e3 e4
      simp only [hle d (.inr hd)]
      split at h
      · rename_i hc
        rw [if_pos hc]
        split at h
        · rename_i q g
          by_cases hl : T.there q
          · simp only [hle q (.inl hl)]
            split at h
            · rename_i hg
              rw [if_pos hg]
              split at h
              · rename_i ty fz nl L hk
                split at h
                · rename_i hc2
                  rw [if_pos hc2]
                  split at h
                  · rename_i l hs
                    rw [symSrc_mono hle hs]
                    refine ⟨h, fun s o e => ?_⟩
                    subst e
                    split at h
                    · simp at h; rw [← h.2.1]; exact .inl hl
                    · cases h
                  · cases h
                · cases h
              · cases h
            · cases h
          · simp [dead_of hl] at h
        · split at h
          · rename_i L hxL
            rw [srcTL_mono hle hxL]
            refine ⟨h, fun s o e => ?_⟩
            subst e
            split at h
            · split at h
              · simp at h; rw [← h.2.1]; exact .inr hd
              · cases h
            · cases h
          · cases h
        · split at h
          · rename_i L hxL
            rw [srcTL_mono hle hxL]
            refine ⟨h, fun s o e => ?_⟩
            subst e
            split at h
            · split at h
              · simp at h; rw [← h.2.1]; exact .inr hd
              · cases h
            · cases h
          · cases h
        · cases h
      · cases h
    · cases h
  · cases h

theorem oPre_mono (hle : Le E T T') {P : Program} {t tx : Nat} {s x : V} {r : Nat × Nat × Nat × Nat × TL × TL} (h : oPre P T t tx s x = some r) : oPre P T' t tx s x = some r ∧ T.there r.1 := by
  unfold oPre at h ⊢
  split at h
  case h_2 => cases h
  rename_i q g n L
  by_cases hl : T.there q
  · have e := hle q (.inl hl)
    simp only [e]
    refine ⟨h, ?_⟩
    split at h
    · split at h
      · split at h
        · split at h
          · split at h
            · split at h
              · injection h with h; subst h; exact hl
              · cases h
            · cases h
          · cases h
        · cases h
      · cases h
    · cases h
  · exfalso
    split at h
    · split at h
      · split at h
        · simp [dead_of hl] at h
        · cases h
      · cases h
    · cases h
theorem oAppend_mono (hle : Le E T T') {P : Program} {t tx : Nat} {s x v : V} {r : Option (Nat × Ob)} (h : oAppend P T t tx s x = some (v, r)) :
    oAppend P T' t tx s x = some (v, r) ∧ ∀ s o, r = some (s, o) → T.there s ∨ E s := by
  unfold oAppend at h ⊢
  split at h
  case h_2 => cases h
  rename_i q g ty by_ L1 L2 hp
  obtain ⟨h1, h2⟩ := oPre_mono hle hp
  rw [h1]
  refine ⟨h, fun s o e => ?_⟩
  subst e
  split at h
  · simp at h; rw [← h.2.1]; exact .inl h2
  · cases h

theorem cPre_mono (hle : Le E T T') {P : Program} {t tx : Nat} {s x : V} {r : Nat × Nat × (Nat × Bool) × Nat × Nat × TL × TL} (h : cPre P T t tx s x = some r) : cPre P T' t tx s x = some r ∧ T.there r.1 := by
  unfold cPre at h ⊢
  split at h
  case h_2 => cases h
  rename_i q g n
  by_cases hl : T.there q
  · have e := hle q (.inl hl)
    simp only [e]
    split at h
    case h_2 => cases h
    rename_i et dx e1 e2
    try simp only [e1, e2]
    split at h
    case h_2 => cases h
    rename_i i e3
    try simp only [e3]
    split at h
    case isFalse => cases h
    rename_i hc
    rw [if_pos hc]
    split at h
    case h_2 => cases h
    rename_i ty nl L hk
    try simp only [hk]
    split at h
    case isFalse => cases h
    rename_i hLi
    rw [if_pos hLi]
    split at h
    case h_2 => cases h
    rename_i l hs
    rw [symSrc_mono hle hs]
    injection h with h; subst h
    exact ⟨rfl, hl⟩
  · exfalso
    split at h
    · split at h
      · split at h
        · simp [dead_of hl] at h
        · cases h
      · cases h
    · cases h
theorem cAppend_mono (hle : Le E T T') {P : Program} {t tx : Nat} {s x v : V} {r : Option (Nat × Ob)} (h : cAppend P T t tx s x = some (v, r)) :
    cAppend P T' t tx s x = some (v, r) ∧ ∀ s o, r = some (s, o) → T.there s ∨ E s := by
  unfold cAppend at h ⊢
  split at h
  case h_2 => cases h
  rename_i q g ty nl n m L L2 hp
  obtain ⟨h1, h2⟩ := cPre_mono hle hp
  rw [h1]
  refine ⟨h, fun s o e => ?_⟩
  subst e
  split at h
  · simp at h; rw [← h.2.1]; exact .inl h2
  · cases h

end
end Go.Abs
