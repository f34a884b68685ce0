/- What a call gives back, and what it comes to, from its body. -/
import Derived.Test.YtiaoojocpcldmaaGreatAbsV
import Derived.Laws.Sem
namespace Go.Abs
open Go.RowKit
set_option linter.unusedVariables false
set_option linter.unusedSimpArgs false

theorem Rv.monoS {T : Tab} {ι : Nat → Nat} {S S' : Addr → Prop} {w : World} (hs : ∀ p, S p → S' p) {d : V} {v : Value} (h : Rv T ι S w d v) : Rv T ι S' w d v := by
  induction h with
  | pure h => exact .pure (h.mono fun p hp => ⟨hs p hp, rfl⟩)
  | undef v => exact .undef v
  | own hv hg h => exact .own hv hg h
  | ptr hv hg h => exact .ptr hv hg h
  | acc hv hg h => exact .acc hv hg h
  | eptr hv hg h => exact .eptr hv hg h
  | nwin hv hg h => exact .nwin hv hg h
  | mp hv hg h => exact .mp hv hg h
  | agg hl h ih => exact .agg hl ih
  | tup hl h ih => exact .tup hl ih
  | ifc h ih => exact .ifc ih
  | fn hl h ih => exact .fn hl ih
theorem ObRel.monoS {T : Tab} {ι : Nat → Nat} {S S' : Addr → Prop} {w : World} (hs : ∀ p, S p → S' p) {b : Nat} {k : OK} (h : ObRel T ι S w b k) : ObRel T ι S' w b k := by
  cases k with
  | dead => exact h
  | box ty cs => obtain ⟨arr, fz, h1, h2, h3, h4⟩ := h; exact ⟨arr, fz, h1, h2, h3, fun i d u hd hu => (h4 i d u hd hu).monoS hs⟩
  | row ty sz fz cs => obtain ⟨arr, fz, cap, h1, h2, h3, h4, h5, h6⟩ := h; exact ⟨arr, fz, cap, h1, h2, h3, h4, h5, fun i d u hd hu => (h6 i d u hd hu).monoS hs⟩
  | iter s pos => exact h
  | mp M => obtain ⟨es, c, h1, h2, h3⟩ := h; exact ⟨es, c, h1, h2, fun i p x hp hx => ⟨(h3 i p x hp hx).1, (h3 i p x hp hx).2.mono fun p hp => ⟨hs p hp, rfl⟩⟩⟩
  | nrow ty fz nl L =>
    rcases h with h | ⟨arr, fz, cap, h1, h2, h3, h4, h5, h6⟩
    · exact .inl h
    · exact .inr ⟨arr, fz, cap, h1, h2, h3, h4, h5, fun i d u hd hu => (h6 i d u hd hu).monoS hs⟩

/-! What is read at the end. -/
def resV (P : Program) (st : St) : ResultVar → Option V
  | .tmp t => some (st.get t)
  | .cell a t => (aLoad P st.o t (st.get a)).map (·.1)
def resL (P : Program) (st : St) : List ResultVar → Option (List V)
  | [] => some []
  | r :: l => match resV P st r, resL P st l with
    | some v, some vs => some (v :: vs)
    | _, _ => none
def packV (l : List V) : V := match l with
  | [v] => v
  | l => .tup l

section
variable {κ : Cx} {ι : Nat → Nat} {st : St} {a : Act} {w : World}

def resS (tmps : Array Value) : ResultVar → Sem Value
  | .tmp t => pure (tmps.getD t undef)
  | .cell a t => do loadVar t (← asAddr (tmps.getD a undef))
theorem results_eq (fn : Func) (tmps : Array Value) : results fn tmps = (do
    let vs ← fn.results.mapM (resS tmps)
    pure (if h : vs.size = 1 then vs[0] else .tuple vs)) := by
  unfold results
  congr 2

theorem resV_ok (h : RelI κ ι st a w) {r : ResultVar} {v : V} (hx : resV κ.P st r = some v) : ∃ cv, (resS a.tmps r).run κ.P w = .ok cv w ∧ Rv st.o ι (Stable κ.D st.o ι w) w v cv := by
  cases r with
  | tmp t => simp [resV] at hx; subst hx; exact ⟨_, by simp [resS], h.tm t⟩
  | cell x t =>
    simp only [resV, aLoad] at hx
    split at hx
    · rename_i cs hcs
      cases hl : loadV κ.P t cs with
      | none => simp [hl] at hx
      | some u =>
        simp [hl] at hx; subst hx
        obtain ⟨ad, vs, hp, hm, hlr⟩ := aCells_ok h (h.tm x) hcs
        obtain ⟨cv', hrun, hv⟩ := loadV_ok (κ := κ) hm hlr hl
        exact ⟨cv', by simp [resS, hp, asAddr, hrun], hv⟩
    · cases hx
theorem resL_ok (h : RelI κ ι st a w) : ∀ (l : List ResultVar) (vs : List V), resL κ.P st l = some vs → ∃ us : List Value, (l.mapM (resS a.tmps)).run κ.P w = .ok us w ∧ LR (Rv st.o ι (Stable κ.D st.o ι w) w) vs us
  | [], vs, hx => by simp [resL] at hx; subst hx; exact ⟨[], by simp, .nil⟩
  | r :: l, vs, hx => by
    simp only [resL] at hx
    split at hx
    · rename_i v vs' hv hvs
      injection hx with hx; subst hx
      obtain ⟨cv, h1, h2⟩ := resV_ok h hv
      obtain ⟨us, h3, h4⟩ := resL_ok h l vs' hvs
      exact ⟨cv :: us, by simp [List.mapM_cons, h1, h3], .cons h2 h4⟩
    · cases hx

theorem results_ok (h : RelI κ ι st a w) (fn : Func) {vs : List V} (hx : resL κ.P st fn.results.toList = some vs) :
    ∃ us : List Value, LR (Rv st.o ι (Stable κ.D st.o ι w) w) vs us ∧ (results fn a.tmps).run κ.P w = .ok (match us with | [u] => u | us => .tuple ⟨us⟩) w := by
  obtain ⟨us, h1, h2⟩ := resL_ok h _ _ hx
  refine ⟨us, h2, ?_⟩
  rw [results_eq, Array.mapM_eq_mapM_toList]
  simp only [map_eq_pure_bind, Sem.run_bind, h1, Result.andThen_ok, bind_assoc, pure_bind]
  cases us with
  | nil => simp
  | cons u us =>
    cases us with
    | nil => simp
    | cons u2 us => simp
end

/-! What of it is new, what was borrowed, what is as if nobody had it. -/
def retV (n : Nat) (T : Tab) (nb : Nat) (ss : List Nat) (v : V) : Option (V × List Nat × List Nat) :=
  match v with
  | .own s g 0 k => if (T.get s).gen = g ∧ ss.contains s = false ∧ s < 1000000 then (match (T.get s).k with
    | .row _ _ _ _ => some (.own (2000000 + ss.length) 0 0 k, [], ss ++ [s])
    | _ => none) else none
  | .ptr s g off => if (T.get s).gen = g then (match (T.get s).k with
    | .box _ _ => if 1000000 ≤ s then (if g = 0 ∧ s - 1000000 < nb then some (.ptr s 0 off, [], ss) else none) else
        (match ss.idxOf? s with
          | some j => some (.ptr (2000000 + j) 0 off, [], ss)
          | none => some (.ptr (2000000 + ss.length) 0 off, [], ss ++ [s]))
    | _ => none) else none
  | v => match view n T v with
    | some (x, l) => some (x, l, ss)
    | none => none

def freshOf (n : Nat) (T : Tab) : List Nat → Option (List OK × List Nat)
  | [] => some ([], [])
  | s :: r => match (match (T.get s).k with
      | .box ty cs => (mapV (view n T) cs).map fun p => (OK.box ty p.1, p.2)
      | .row ty sz fz cs => (mapV (view n T) cs).map fun p => (OK.row ty sz fz p.1, p.2)
      | _ => none) with
    | some (k, l) => match freshOf n T r with
      | some (ks, l') => some (k :: ks, l ++ l')
      | none => none
    | none => none
def bSites (nb : Nat) : List Nat := (List.range nb).map (1000000 + ·)
/-- A row's note that it was handed on. -/
def OK.setFz (b : Bool) : OK → OK
  | .row ty sz fz cs => .row ty sz (fz || b) cs
  | k => k
def retOf (P : Program) (fn : Func) (nb : Nat) (st : St) : Option (V × List OK × List OK) :=
  match resL P st fn.results.toList with
  | some vs => match viewL (retV depth st.o nb) [] vs with
    | some (xs, l, ss) => match boxesOf depth st.o (bSites nb), freshOf depth st.o ss with
      | some (lb', l2), some (lf, l3) =>
        if nb < 1000000 ∧ (bSites nb).all (fun s => (st.o.get s).gen == 0) = true then
          some (packV xs, lb', (ss.zip lf).map fun p => p.2.setFz ((l ++ (l2 ++ l3)).contains p.1))
        else none
      | _, _ => none
    | none => none
  | none => none

theorem mapV_length {f : V → Option (V × List Nat)} : ∀ (cs xs : List V) (l : List Nat), mapV f cs = some (xs, l) → xs.length = cs.length
  | [], xs, l, h => by simp [mapV] at h; obtain ⟨rfl, rfl⟩ := h; rfl
  | v :: r, xs, l, h => by
    simp only [mapV] at h
    cases hv : f v with
    | none => simp [hv] at h
    | some p =>
      simp only [hv] at h
      cases hm : mapV f r with
      | none => simp [hm] at h
      | some q =>
        obtain ⟨ys, l2⟩ := q
        simp [hm] at h
        obtain ⟨rfl, rfl⟩ := h
        simp [mapV_length r ys l2 hm]

theorem boxesOf_get {n : Nat} {T : Tab} : ∀ (bs : List Nat) (ks : List OK) (l : List Nat), boxesOf n T bs = some (ks, l) → ks.length = bs.length ∧
    ∀ (j s : Nat), bs[j]? = some s → ∃ ty cs xs l', (T.get s).k = .box ty cs ∧ mapV (view n T) cs = some (xs, l') ∧ ks[j]? = some (.box ty xs) ∧ ∀ t ∈ l', t ∈ l
  | [], ks, l, h => by simp [boxesOf] at h; obtain ⟨rfl, rfl⟩ := h; simp
  | s :: r, ks, l, h => by
    simp only [boxesOf] at h
    split at h
    · rename_i ty cs hk
      split at h
      · rename_i xs l1 hm
        split at h
        · rename_i ks' l2 hb
          simp at h
          obtain ⟨rfl, rfl⟩ := h
          obtain ⟨h1, h2⟩ := boxesOf_get r ks' l2 hb
          refine ⟨by simp [h1], fun j s' hj => ?_⟩
          cases j with
          | zero => simp at hj; subst hj; exact ⟨ty, cs, xs, l1, hk, hm, rfl, fun t ht => by simp [ht]⟩
          | succ j =>
            obtain ⟨ty', cs', xs', l', e1, e2, e3, e4⟩ := h2 j s' (by simpa using hj)
            exact ⟨ty', cs', xs', l', e1, e2, by simpa using e3, fun t ht => by simp [e4 t ht]⟩
        · cases h
      · cases h
    · cases h

theorem freshOf_get {n : Nat} {T : Tab} : ∀ (ss : List Nat) (ks : List OK) (l : List Nat), freshOf n T ss = some (ks, l) → ks.length = ss.length ∧
    ∀ (j s : Nat), ss[j]? = some s → ∃ k, ks[j]? = some k ∧ ((∃ ty cs xs l', (T.get s).k = .box ty cs ∧ mapV (view n T) cs = some (xs, l') ∧ k = .box ty xs ∧ ∀ t ∈ l', t ∈ l) ∨
      (∃ ty sz fz cs xs l', (T.get s).k = .row ty sz fz cs ∧ mapV (view n T) cs = some (xs, l') ∧ k = .row ty sz fz xs ∧ ∀ t ∈ l', t ∈ l))
  | [], ks, l, h => by simp [freshOf] at h; obtain ⟨rfl, rfl⟩ := h; simp
  | s :: r, ks, l, h => by
    simp only [freshOf] at h
    split at h
    · rename_i k l1 hk
      split at h
      · rename_i ks' l2 hb
        simp at h
        obtain ⟨rfl, rfl⟩ := h
        obtain ⟨h1, h2⟩ := freshOf_get r ks' l2 hb
        refine ⟨by simp [h1], fun j s' hj => ?_⟩
        cases j with
        | zero =>
          simp at hj; subst hj
          refine ⟨k, rfl, ?_⟩
          split at hk
          · rename_i ty cs e
            cases hm : mapV (view n T) cs with
            | none => simp [hm] at hk
            | some p =>
              simp [hm] at hk
              obtain ⟨rfl, rfl⟩ := hk
              exact .inl ⟨ty, cs, p.1, p.2, e, hm, rfl, fun t ht => by simp [ht]⟩
          · rename_i ty sz fz cs e
            cases hm : mapV (view n T) cs with
            | none => simp [hm] at hk
            | some p =>
              simp [hm] at hk
              obtain ⟨rfl, rfl⟩ := hk
              exact .inr ⟨ty, sz, fz, cs, p.1, p.2, e, hm, rfl, fun t ht => by simp [ht]⟩
          · cases hk
        | succ j =>
          obtain ⟨k', e1, e2⟩ := h2 j s' (by simpa using hj)
          refine ⟨k', by simpa using e1, ?_⟩
          rcases e2 with ⟨ty, cs, xs, l', a1, a2, a3, a4⟩ | ⟨ty, sz, fz, cs, xs, l', a1, a2, a3, a4⟩
          · exact .inl ⟨ty, cs, xs, l', a1, a2, a3, fun t ht => by simp [a4 t ht]⟩
          · exact .inr ⟨ty, sz, fz, cs, xs, l', a1, a2, a3, fun t ht => by simp [a4 t ht]⟩
      · cases h
    · cases h

/-- How what is given back stands to what was there: ss: what of it is new. -/
def RR (T : Tab) (ι : Nat → Nat) (S : Addr → Prop) (w : World) (nb : Nat) (ss : List Nat) (x : V) (cv : Value) : Prop :=
  Rp S w x cv ∨
  (∃ j s g k, ss[j]? = some s ∧ (T.get s).gen = g ∧ (∃ ty sz fz cs, (T.get s).k = .row ty sz fz cs) ∧ x = .own (2000000 + j) 0 0 k ∧ Rv T ι S w (.own s g 0 k) cv) ∨
  (∃ j s off, ss[j]? = some s ∧ (∃ ty cs, (T.get s).k = .box ty cs) ∧ x = .ptr (2000000 + j) 0 off ∧ cv = .pointer (some ⟨ι s, off, none⟩)) ∨
  (∃ j off, j < nb ∧ (T.get (1000000 + j)).gen = 0 ∧ (∃ ty cs, (T.get (1000000 + j)).k = .box ty cs) ∧ x = .ptr (1000000 + j) 0 off ∧ cv = .pointer (some ⟨ι (1000000 + j), off, none⟩))
def ssOk (ss : List Nat) : Prop := ss.Nodup ∧ ∀ s ∈ ss, s < 1000000

theorem retV_ss {n : Nat} {T : Tab} {nb : Nat} {ss ss' : List Nat} {v x : V} {l : List Nat} (h : retV n T nb ss v = some (x, l, ss')) : (∃ r, ss' = ss ++ r) ∧ (ssOk ss → ssOk ss') := by
  unfold retV at h
  split at h
  · split at h
    · rename_i hc
      obtain ⟨_, hn, hlt⟩ := hc
      split at h
      · simp at h
        obtain ⟨_, _, rfl⟩ := h
        refine ⟨⟨_, rfl⟩, fun ⟨h1, h2⟩ => ⟨?_, ?_⟩⟩
        · rw [List.nodup_append]
          refine ⟨h1, by simp, fun a ha b hb e => ?_⟩
          simp at hb; subst hb e
          simp at hn; exact hn ha
        · intro s hs
          rcases List.mem_append.1 hs with hs | hs
          · exact h2 s hs
          · simp at hs; subst hs; exact hlt
      · cases h
    · cases h
  · split at h
    · split at h
      · split at h
        · split at h
          · simp at h; exact ⟨⟨[], by simp [h.2.2]⟩, fun hs => h.2.2 ▸ hs⟩
          · cases h
        · rename_i hlt
          split at h
          · simp at h; exact ⟨⟨[], by simp [h.2.2]⟩, fun hs => h.2.2 ▸ hs⟩
          · rename_i hx
            simp at h
            obtain ⟨_, _, rfl⟩ := h
            refine ⟨⟨_, rfl⟩, fun ⟨h1, h2⟩ => ⟨?_, ?_⟩⟩
            · rw [List.nodup_append]
              refine ⟨h1, by simp, fun a ha b hb e => ?_⟩
              simp at hb; subst hb e
              rw [List.idxOf?_eq_none_iff] at hx
              exact hx ha
            · intro s hs
              rcases List.mem_append.1 hs with hs | hs
              · exact h2 s hs
              · simp at hs; subst hs; omega
      · cases h
    · cases h
  · split at h
    · simp at h; exact ⟨⟨[], by simp [h.2.2]⟩, fun hs => h.2.2 ▸ hs⟩
    · cases h

theorem RR.grow {T : Tab} {ι : Nat → Nat} {S : Addr → Prop} {w : World} {nb : Nat} {ss r : List Nat} {x : V} {cv : Value} (h : RR T ι S w nb ss x cv) : RR T ι S w nb (ss ++ r) x cv := by
  have up : ∀ (j s : Nat), ss[j]? = some s → (ss ++ r)[j]? = some s := fun j s hj => by rw [List.getElem?_append_left (List.getElem?_eq_some_iff.1 hj).1]; exact hj
  rcases h with h | ⟨j, s, g, k, h1, h2⟩ | ⟨j, s, off, h1, h2⟩ | h
  · exact .inl h
  · exact .inr (.inl ⟨j, s, g, k, up j s h1, h2⟩)
  · exact .inr (.inr (.inl ⟨j, s, off, up j s h1, h2⟩))
  · exact .inr (.inr (.inr h))
end Go.Abs
