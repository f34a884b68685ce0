/- Calls. -/
import Derived.Test.YtiaoojocpcldmaaGreatAbsK
namespace Go.Abs
open Go.RowKit
set_option linter.unusedVariables false
set_option linter.unusedSimpArgs false

/-- Some objects, one site behind the other, from b on. -/
def tabOf : Nat → List OK → Tab
  | _, [] => []
  | b, k :: r => (b, ⟨0, k⟩) :: tabOf (b + 1) r
theorem aget_tabOf (d : Ob) (r : Tab) : ∀ (l : List OK) (b t : Nat), aget d (tabOf b l ++ r) t = match (if b ≤ t then l[t - b]? else none) with | some k => ⟨0, k⟩ | none => aget d r t
  | [], b, t => by simp [tabOf]
  | k :: l, b, t => by
    simp only [tabOf, List.cons_append, aget]
    by_cases h : b = t
    · subst h; simp
    · rw [if_neg h, aget_tabOf d r l (b + 1) t]
      by_cases hb : b ≤ t
      · have : t - b = (t - (b + 1)) + 1 := by omega
        rw [if_pos (by omega), if_pos hb, this]
        simp
      · rw [if_neg (by omega), if_neg hb]

/-- Borrowed objects stand at 1000000 on, new ones at 2000000 on. -/
def tabU (lb lf : List OK) : Tab := tabOf 1000000 lb ++ tabOf 2000000 lf
theorem get_tabU (lb lf : List OK) (t : Nat) : (tabU lb lf).get t = match (if 1000000 ≤ t then lb[t - 1000000]? else none) with
    | some k => ⟨0, k⟩
    | none => match (if 2000000 ≤ t then lf[t - 2000000]? else none) with
      | some k => ⟨0, k⟩
      | none => ⟨0, .dead⟩ := by
  unfold tabU Tab.get
  rw [aget_tabOf]
  have := aget_tabOf ⟨0, .dead⟩ [] lf 2000000 t
  rw [List.append_nil] at this
  rw [this]
  rfl

/-- WHAT A CALL OF f COMES TO, of arguments that stand as these values, the borrowed objects as lb: it returns what stands as res; the borrowed objects then stand as lb', the new ones as lf. Nothing else that was there turns. -/
def Spec (P : Program) (f : FuncId) (args : List V) (lb : List OK) (res : V) (lb' lf : List OK) : Prop :=
  ∀ (w : World) (cargs : Array Value) (β : Nat → Nat) (S : Addr → Prop), TR S (tabU lb []) β w → LR (Rv (tabU lb []) β (Stable S (tabU lb []) β w) w) args cargs.toList →
    Calls P f cargs w fun e w' => ∃ v β', e = .returned v ∧ Kept (fun b => ∃ t, (tabU lb []).live t ∧ β t = b) w w' ∧
      TR (fun p => S p ∨ w.heap.size ≤ p.block) (tabU lb' lf) β' w' ∧
      Rv (tabU lb' lf) β' (Stable (fun p => S p ∨ w.heap.size ≤ p.block) (tabU lb' lf) β' w') w' res v ∧
      lb.length = lb'.length ∧ (∀ j, j < lb.length → β' (1000000 + j) = β (1000000 + j)) ∧ ∀ j, j < lf.length → w.heap.size ≤ β' (2000000 + j)

section
variable {κ : Cx} {ι : Nat → Nat} {st : St} {a : Act} {w : World}

/-- What a call may do to the caller's objects. -/
theorem call_to (h : RelI κ ι st a w) {T' : Tab} {ι' : Nat → Nat} {w' : World} (bs fs : List Nat)
    (h1 : ∀ t, t ∉ bs → t ∉ fs → T'.get t = st.o.get t ∧ ι' t = ι t)
    (h2 : ∀ t ∈ bs, t ∉ fs ∧ ι' t = ι t ∧ ∃ ty cs cs', (st.o.get t).k = .box ty cs ∧ T'.get t = ⟨(st.o.get t).gen, .box ty cs'⟩)
    (h3 : ∀ t ∈ fs, (st.o.get t).gen < (T'.get t).gen ∧ w.heap.size ≤ ι' t)
    (hlt : ∀ t ∈ fs, T'.live t → ι' t < w'.heap.size) (hinj : ∀ t ∈ fs, ∀ u ∈ fs, T'.live t → T'.live u → ι' t = ι' u → t = u)
    (hk : Kept (fun b => ∃ t ∈ bs, ι t = b) w w')
    (hob : Goes κ.D st.o ι w T' ι' w' → ∀ t, (t ∈ bs ∨ t ∈ fs) → ObRel T' ι' (Stable κ.D T' ι' w') w' (ι' t) (T'.get t).k) :
    To κ st.o ι w T' ι' w' := by
  have live_bs : ∀ t ∈ bs, st.o.live t := fun t ht => by obtain ⟨_, _, ty, cs, cs', hk, _⟩ := h2 t ht; simp [Tab.live, hk, OK.live]
  -- a block of an object that is neither borrowed nor new is as it was
  have other : ∀ t, st.o.live t → t ∉ bs → w'.heap[ι t]? = w.heap[ι t]? := fun t hl hn =>
    hk.block _ (h.tr.lt t hl) fun ⟨u, hu, e⟩ => hn (h.tr.inj u t (live_bs u hu) hl e ▸ hu)
  have H : Goes κ.D st.o ι w T' ι' w' := by
    refine ⟨fun p hp => ?_, fun t => ?_, fun t hl hg => ?_, fun t g ty sz fz' cs' hT hg => ?_, fun t g ty fz nl L hT hg => ?_⟩
    · have hnb : ∀ u ∈ bs, ι u ≠ p.block := by
        intro u hu e
        have := hp.2.2 u (live_bs u hu) e
        obtain ⟨_, _, ty, cs, cs', hk, _⟩ := h2 u hu
        rw [hk] at this
        exact this
      refine ⟨⟨hp.1, Nat.lt_of_lt_of_le hp.2.1 hk.size, fun t hl e => ?_⟩, cell_congr (hk.block _ hp.2.1 fun ⟨u, hu, e⟩ => hnb u hu e)⟩
      by_cases hfs : t ∈ fs
      · have := (h3 t hfs).2
        have := hp.2.1
        omega
      · by_cases hbs : t ∈ bs
        · exact absurd ((h2 t hbs).2.1 ▸ e) (hnb t hbs)
        · obtain ⟨e1, e2⟩ := h1 t hbs hfs
          rw [e1]
          exact hp.2.2 t (by simpa [Tab.live, e1] using hl) (e2 ▸ e)
    · by_cases hfs : t ∈ fs
      · exact Nat.le_of_lt (h3 t hfs).1
      · by_cases hbs : t ∈ bs
        · obtain ⟨_, _, ty, cs, cs', _, e⟩ := h2 t hbs
          rw [e]; exact Nat.le_refl _
        · rw [(h1 t hbs hfs).1]; exact Nat.le_refl _
    · by_cases hfs : t ∈ fs
      · have := (h3 t hfs).1; omega
      · by_cases hbs : t ∈ bs
        · exact ⟨live_bs t hbs, (h2 t hbs).2.1⟩
        · obtain ⟨e1, e2⟩ := h1 t hbs hfs
          exact ⟨by simpa [Tab.live, e1] using hl, e2⟩
    · by_cases hfs : t ∈ fs
      · have := (h3 t hfs).1; rw [hT] at this; simp at this; omega
      · by_cases hbs : t ∈ bs
        · obtain ⟨_, _, ty1, cs, cs1, _, e⟩ := h2 t hbs
          rw [e] at hT
          simp at hT
        · obtain ⟨e1, e2⟩ := h1 t hbs hfs
          rw [e1] at hT
          refine ⟨⟨ty, fz', cs', hT⟩, fun arr ty1 fz hh => ⟨arr, ty1, fz, ?_, rfl⟩⟩
          rw [other t (by simp [Tab.live, hT, OK.live]) hbs]
          exact hh
    · by_cases hfs : t ∈ fs
      · have := (h3 t hfs).1; rw [hT] at this; simp at this; omega
      · by_cases hbs : t ∈ bs
        · obtain ⟨_, _, ty1, cs, cs1, _, e⟩ := h2 t hbs
          rw [e] at hT
          simp at hT
        · obtain ⟨e1, e2⟩ := h1 t hbs hfs
          rw [e1] at hT
          refine ⟨⟨ty, fz, nl, L, hT, rfl, rfl, rfl⟩, fun hn arr ty1 fz hh => ⟨arr, ty1, fz, ?_, rfl⟩⟩
          rw [other t (by simp only [Tab.live, hT, OK.live]; exact hn) hbs]
          exact hh
  refine ⟨H, ⟨fun t => ?_, fun t u ht hu e => ?_, fun t hl => ?_⟩, fun t hl => ?_, ?_⟩
  · by_cases hx : t ∈ bs ∨ t ∈ fs
    · exact hob H t hx
    · obtain ⟨e1, e2⟩ := h1 t (fun hb => hx (.inl hb)) (fun hf => hx (.inr hf))
      rw [e1, e2]
      by_cases hl : st.o.live t
      · exact (h.tr.ob t).mono H (other t hl fun hb => hx (.inl hb))
      · cases hkk : (st.o.get t).k with
        | dead => trivial
        | nrow ty fz nl L =>
          left
          by_cases hn : nl = true ∧ L.l = []
          · exact hn
          · exact absurd (by simp only [Tab.live, hkk, OK.live]; exact hn) hl
        | _ => exact absurd (by simp [Tab.live, hkk, OK.live]) hl
  · have old : ∀ t, T'.live t → t ∉ fs → st.o.live t ∧ ι' t = ι t := by
      intro t hl hf
      by_cases hbs : t ∈ bs
      · exact ⟨live_bs t hbs, (h2 t hbs).2.1⟩
      · obtain ⟨e1, e2⟩ := h1 t hbs hf
        exact ⟨by simpa [Tab.live, e1] using hl, e2⟩
    by_cases hft : t ∈ fs <;> by_cases hfu : u ∈ fs
    · exact hinj t hft u hfu ht hu e
    · obtain ⟨l1, e1⟩ := old u hu hfu
      have := (h3 t hft).2
      have := h.tr.lt u l1
      omega
    · obtain ⟨l1, e1⟩ := old t ht hft
      have := (h3 u hfu).2
      have := h.tr.lt t l1
      omega
    · obtain ⟨l1, e1⟩ := old t ht hft
      obtain ⟨l2, e2⟩ := old u hu hfu
      exact h.tr.inj t u l1 l2 (by rw [← e1, ← e2, e])
  · by_cases hfs : t ∈ fs
    · exact hlt t hfs hl
    · by_cases hbs : t ∈ bs
      · rw [(h2 t hbs).2.1]
        exact Nat.lt_of_lt_of_le (h.tr.lt t (live_bs t hbs)) hk.size
      · obtain ⟨e1, e2⟩ := h1 t hbs hfs
        rw [e2]
        exact Nat.lt_of_lt_of_le (h.tr.lt t (by simpa [Tab.live, e1] using hl)) hk.size
  · by_cases hfs : t ∈ fs
    · exact .inl (Nat.le_trans h.kept.size (h3 t hfs).2)
    · by_cases hbs : t ∈ bs
      · rw [(h2 t hbs).2.1]; exact h.my t (live_bs t hbs)
      · obtain ⟨e1, e2⟩ := h1 t hbs hfs
        rw [e2]; exact h.my t (by simpa [Tab.live, e1] using hl)
  · exact h.kept.then hk fun i _ ⟨u, hu, e⟩ => by rw [← e]; exact h.my u (live_bs u hu)

/-! The arguments as the callee sees them. -/
def viewA1 (n : Nat) (T : Tab) (bs : List Nat) (v : V) : Option (V × List Nat × List Nat) :=
  match v with
  | .ptr s g off => if (T.get s).gen = g then (match (T.get s).k with
    | .box _ _ => match bs.idxOf? s with
      | some j => some (.ptr (1000000 + j) 0 off, [], bs)
      | none => some (.ptr (1000000 + bs.length) 0 off, [], bs ++ [s])
    | _ => none) else none
  | v => match view n T v with
    | some (x, l) => some (x, l, bs)
    | none => none
def viewL (f : List Nat → V → Option (V × List Nat × List Nat)) : List Nat → List V → Option (List V × List Nat × List Nat)
  | bs, [] => some ([], [], bs)
  | bs, v :: r => match f bs v with
    | some (x, l, bs') => match viewL f bs' r with
      | some (xs, l', bs'') => some (x :: xs, l ++ l', bs'')
      | none => none
    | none => none
def viewA (n : Nat) (T : Tab) (bs : List Nat) (v : V) : Option (V × List Nat × List Nat) :=
  match v with
  | .fn f cs => match viewL (viewA1 n T) bs cs with
    | some (xs, l, bs') => some (.fn f xs, l, bs')
    | none => none
  | v => viewA1 n T bs v

/-- The borrowed objects as the callee sees them. -/
def boxesOf (n : Nat) (T : Tab) : List Nat → Option (List OK × List Nat)
  | [] => some ([], [])
  | s :: r => match (T.get s).k with
    | .box ty cs => match mapV (view n T) cs with
      | some (xs, l) => match boxesOf n T r with
        | some (ks, l') => some (.box ty xs :: ks, l ++ l')
        | none => none
      | none => none
    | _ => none

/-- The relation of what the callee is handed: bs: what is borrowed. -/
def RA (st : St) (κ : Cx) (ι : Nat → Nat) (w : World) (bs : List Nat) (x : V) (cv : Value) : Prop :=
  Rp (Stable κ.D st.o ι w) w x cv ∨
  (∃ j off s, bs[j]? = some s ∧ x = .ptr (1000000 + j) 0 off ∧ cv = .pointer (some ⟨ι s, off, none⟩)) ∨
  (∃ f xs us, x = .fn f xs ∧ cv = .func (.func f) #[] ⟨us⟩ ∧ LR (fun x u => Rp (Stable κ.D st.o ι w) w x u ∨ ∃ j off s, bs[j]? = some s ∧ x = .ptr (1000000 + j) 0 off ∧ u = .pointer (some ⟨ι s, off, none⟩)) xs us)

theorem viewA1_pre {n : Nat} {T : Tab} {bs bs' : List Nat} {v x : V} {l : List Nat} (h : viewA1 n T bs v = some (x, l, bs')) : ∃ r, bs' = bs ++ r := by
  unfold viewA1 at h
  split at h
  · split at h
    · split at h
      · split at h
        · simp at h; exact ⟨[], by simp [h.2.2]⟩
        · simp at h; exact ⟨[_], h.2.2.symm⟩
      · cases h
    · cases h
  · split at h
    · simp at h; exact ⟨[], by simp [h.2.2]⟩
    · cases h
theorem viewL_pre {f : List Nat → V → Option (V × List Nat × List Nat)} (hf : ∀ bs v x l bs', f bs v = some (x, l, bs') → ∃ r, bs' = bs ++ r) :
    ∀ (vs : List V) (bs bs' : List Nat) (xs : List V) (l : List Nat), viewL f bs vs = some (xs, l, bs') → ∃ r, bs' = bs ++ r
  | [], bs, bs', xs, l, h => by simp [viewL] at h; exact ⟨[], by simp [h.2.2]⟩
  | v :: r, bs, bs', xs, l, h => by
    simp only [viewL] at h
    split at h
    · rename_i x l1 bs1 h1
      split at h
      · rename_i ys l2 bs2 h2
        simp at h
        obtain ⟨r1, e1⟩ := hf _ _ _ _ _ h1
        obtain ⟨r2, e2⟩ := viewL_pre hf r bs1 bs2 ys l2 h2
        exact ⟨r1 ++ r2, by rw [← h.2.2, e2, e1, List.append_assoc]⟩
      · cases h
    · cases h
theorem viewA_pre {n : Nat} {T : Tab} {bs bs' : List Nat} {v x : V} {l : List Nat} (h : viewA n T bs v = some (x, l, bs')) : ∃ r, bs' = bs ++ r := by
  unfold viewA at h
  split at h
  · split at h
    · rename_i xs l1 bs1 h1
      simp at h
      obtain ⟨r, e⟩ := viewL_pre (fun _ _ _ _ _ => viewA1_pre) _ _ _ _ _ h1
      exact ⟨r, by rw [← h.2.2, e]⟩
    · cases h
  · exact viewA1_pre h

theorem viewL_ok {f : List Nat → V → Option (V × List Nat × List Nat)} {R : V → Value → Prop} {R' : List Nat → V → Value → Prop} (hpre : ∀ bs v x l bs', f bs v = some (x, l, bs') → ∃ r, bs' = bs ++ r)
    (hmono : ∀ bs r x u, R' bs x u → R' (bs ++ r) x u) : ∀ (vs : List V) (bs bs' : List Nat) (xs : List V) (l : List Nat) (us : List Value), viewL f bs vs = some (xs, l, bs') → LR R vs us →
    (∀ bs v x l' bs1 u, v ∈ vs → f bs v = some (x, l', bs1) → (∀ s ∈ l', s ∈ l) → R v u → R' bs1 x u) → LR (R' bs') xs us
  | [], bs, bs', xs, l, us, h, hr, hf => by
    simp [viewL] at h
    obtain ⟨rfl, rfl, rfl⟩ := h
    have : us = [] := List.eq_nil_of_length_eq_zero (by simpa using hr.1.symm)
    subst this
    exact .nil
  | v :: r, bs, bs', xs, l, us, h, hr, hf => by
    obtain ⟨u, us', rfl, hu, hr'⟩ := hr.head
    simp only [viewL] at h
    split at h
    · rename_i x l1 bs1 h1
      split at h
      · rename_i ys l2 bs2 h2
        simp at h
        obtain ⟨rfl, rfl, rfl⟩ := h
        obtain ⟨r2, e2⟩ := viewL_pre hpre r bs1 bs2 ys l2 h2
        refine .cons ?_ (viewL_ok hpre hmono r bs1 bs2 ys l2 us' h2 hr' fun bs v x l' bs1 u hm hv hs hu => hf bs v x l' bs1 u (by simp [hm]) hv (fun s hs' => by simp [hs s hs']) hu)
        rw [e2]
        exact hmono _ _ _ _ (hf bs v x l1 bs1 u (by simp) h1 (fun s hs => by simp [hs]) hu)
      · cases h
    · cases h

theorem viewA1_ok (h : RelI κ ι st a w) {T : Tab} {n : Nat} {bs bs' : List Nat} {v x : V} {l : List Nat} {cv : Value} (hv : viewA1 n T bs v = some (x, l, bs'))
    (hl : ∀ s ∈ l, (st.o.get s).k = (T.get s).k.freeze ∧ (st.o.get s).gen = (T.get s).gen) (hbox : ∀ s ty cs, (T.get s).k = .box ty cs → st.o.get s = T.get s)
    (hr : Rv st.o ι (Stable κ.D st.o ι w) w v cv) :
    Rp (Stable κ.D st.o ι w) w x cv ∨ ∃ j off s, bs'[j]? = some s ∧ x = .ptr (1000000 + j) 0 off ∧ cv = .pointer (some ⟨ι s, off, none⟩) := by
  unfold viewA1 at hv
  split at hv
  · rename_i s g off
    split at hv
    · rename_i hg
      split at hv
      · rename_i ty cs hk
        have he := hbox s ty cs hk
        have hp := hr.ptr_ (by rw [he]; exact hg) (by simp [Tab.live, he, hk, OK.live])
        split at hv
        · rename_i j hj
          simp at hv
          obtain ⟨rfl, rfl, rfl⟩ := hv
          have : bs[j]? = some s := by
            obtain ⟨hlt, he, _⟩ := List.idxOf?_eq_some_iff.1 hj
            rw [List.getElem?_eq_getElem hlt, he]
          exact .inr ⟨j, off, s, this, rfl, hp⟩
        · simp at hv
          obtain ⟨rfl, rfl, rfl⟩ := hv
          exact .inr ⟨bs.length, off, s, by simp, rfl, hp⟩
      · cases hv
    · cases hv
  · split at hv
    · rename_i y l1 h1
      simp at hv
      obtain ⟨rfl, rfl, rfl⟩ := hv
      exact .inl (view_ok h n v y l1 cv h1 hl hr)
    · cases hv

theorem viewA_ok (h : RelI κ ι st a w) {T : Tab} {n : Nat} {bs bs' : List Nat} {v x : V} {l : List Nat} {cv : Value} (hv : viewA n T bs v = some (x, l, bs'))
    (hl : ∀ s ∈ l, (st.o.get s).k = (T.get s).k.freeze ∧ (st.o.get s).gen = (T.get s).gen) (hbox : ∀ s ty cs, (T.get s).k = .box ty cs → st.o.get s = T.get s)
    (hr : Rv st.o ι (Stable κ.D st.o ι w) w v cv) : RA st κ ι w bs' x cv := by
  unfold viewA at hv
  split at hv
  · rename_i f cs
    split at hv
    · rename_i xs l1 bs1 h1
      simp at hv
      obtain ⟨rfl, rfl, rfl⟩ := hv
      obtain ⟨us, rfl, hlen, hh⟩ := hr.fn_
      refine .inr (.inr ⟨f, xs, us, rfl, rfl, ?_⟩)
      refine viewL_ok (R := Rv st.o ι (Stable κ.D st.o ι w) w) (R' := fun bs x u => Rp (Stable κ.D st.o ι w) w x u ∨ ∃ j off s, bs[j]? = some s ∧ x = .ptr (1000000 + j) 0 off ∧ u = .pointer (some ⟨ι s, off, none⟩))
        (fun _ _ _ _ _ => viewA1_pre) (fun bs r x u hxu => ?_) cs bs bs1 xs l1 us h1 ⟨hlen, hh⟩ fun bs v x l' bs2 u hm hv' hs hu => viewA1_ok h hv' (fun s hs' => hl s (hs s hs')) hbox hu
      rcases hxu with hp | ⟨j, off, s, hj, e1, e2⟩
      · exact .inl hp
      · exact .inr ⟨j, off, s, by rw [List.getElem?_append_left (List.getElem?_eq_some_iff.1 hj).1]; exact hj, e1, e2⟩
    · cases hv
  · rcases viewA1_ok h hv hl hbox hr with hp | hp
    · exact .inl hp
    · exact .inr (.inl hp)

end
end Go.Abs
