/- Calls to which rows are lent, or handed over; what they give back. -/
import Derived.Test.YtiaoojocpcldmaaGreatAbsX
namespace Go.Abs
open Go.RowKit
set_option linter.unusedVariables false
set_option linter.unusedSimpArgs false

/-- Of which arguments of a function rows are lent, or handed over. -/
abbrev Lend := Nat → List Nat

/-- Cells that one may know of behind a call: those that one might before, new ones, those of rows that were handed over. -/
def Dn (S : Addr → Prop) (n : Nat) (β : Nat → Nat) (lb lb' : List OK) : Addr → Prop :=
  fun p => S p ∨ n ≤ p.block ∨ ∃ j, lb'[j]? = some .dead ∧ (tabU lb []).live (1000000 + j) ∧ β (1000000 + j) = p.block
/-- Where a new one stands: in a new block, or in that of a row that was handed over. -/
def Fn (n : Nat) (β : Nat → Nat) (lb lb' : List OK) (b : Nat) : Prop := n ≤ b ∨ ∃ j, lb'[j]? = some .dead ∧ (tabU lb []).live (1000000 + j) ∧ β (1000000 + j) = b
/-- WHAT A CALL OF f COMES TO. As Spec; but rows may be lent, too, and handed over (lb': dead). -/
def Spec2 (P : Program) (f : FuncId) (args : List V) (lb : List OK) (res : V) (lb' lf : List OK) : Prop :=
  ∀ (w : World) (cargs : Array Value) (β : Nat → Nat) (S : Addr → Prop), TR S (tabU lb []) β w → LR (Rv (tabU lb []) β (Stable S (tabU lb []) β w) w) args cargs.toList →
    Calls P f cargs w fun e w' => ∃ v β', e = .returned v ∧ Kept (fun b => ∃ t, (tabU lb []).live t ∧ β t = b) w w' ∧
      TR (Dn S w.heap.size β lb lb') (tabU lb' lf) β' w' ∧
      Rv (tabU lb' lf) β' (Stable (Dn S w.heap.size β lb lb') (tabU lb' lf) β' w') w' res v ∧
      lb.length = lb'.length ∧ (∀ j, j < lb.length → (tabU lb' lf).live (1000000 + j) → β' (1000000 + j) = β (1000000 + j)) ∧ ∀ j, j < lf.length → (tabU lb' lf).live (2000000 + j) → Fn w.heap.size β lb lb' (β' (2000000 + j))

def Ty.flatT : Ty → Bool
  | .int _ | .bool | .str | .unit | .inil => true
  | .list _ => false
  | .pair a b => a.flatT && b.flatT
  | .agg t => t.flatT
  | .alt _ a r => a.flatT && r.flatT
  | .alt1 _ a => a.flatT
theorem flatL_of : ∀ {cs : List V}, (∀ d ∈ cs, d.flat = true) → flatL cs = true
  | [], _ => rfl
  | v :: r, h => by simp only [flatL, Bool.and_eq_true]; exact ⟨h v (by simp), flatL_of fun d hd => h d (by simp [hd])⟩
theorem headD_flat {cs : List V} (h : ∀ d ∈ cs, d.flat = true) : (cs.headD .pnil).flat = true := by
  cases cs with
  | nil => rfl
  | cons v r => exact h v (by simp)
theorem vOf_flat {a : Ty} {cs : List V} (h : ∀ d ∈ cs, d.flat = true) : (vOf a cs).flat = true := by
  have h2 := headD_flat h
  unfold vOf
  split
  · simp only [V.flat]; exact flatL_of h
  · exact h2
theorem flat_cellsV : ∀ (t : Ty) (x : t.I) (d : V), t.flatT = true → d ∈ cellsV t x → d.flat = true
  | .int _, x, d, _, h => by simp only [cellsV, List.mem_singleton] at h; subst h; rfl
  | .bool, x, d, _, h => by simp only [cellsV, List.mem_singleton] at h; subst h; rfl
  | .str, x, d, _, h => by simp only [cellsV, List.mem_singleton] at h; subst h; rfl
  | .list _, x, d, h, _ => by simp [Ty.flatT] at h
  | .unit, x, d, _, h => by simp [cellsV] at h
  | .pair a b, x, d, hf, h => by
    simp only [Ty.flatT, Bool.and_eq_true] at hf
    simp only [cellsV, List.mem_append] at h
    rcases h with h | h
    · exact flat_cellsV a _ d hf.1 h
    · exact flat_cellsV b _ d hf.2 h
  | .agg t, x, d, hf, h => flat_cellsV t x d hf h
  | .alt t a r, .inl y, d, hf, h => by
    simp only [Ty.flatT, Bool.and_eq_true] at hf
    simp only [cellsV, List.mem_singleton] at h; subst h; simp only [V.flat]; exact vOf_flat fun d hd => flat_cellsV a y d hf.1 hd
  | .alt t a r, .inr z, d, hf, h => by
    simp only [Ty.flatT, Bool.and_eq_true] at hf
    simp only [cellsV, List.mem_singleton] at h; subst h; exact headD_flat fun d hd => flat_cellsV r z d hf.2 hd
  | .alt1 t a, x, d, hf, h => by
    simp only [Ty.flatT] at hf
    simp only [cellsV, List.mem_singleton] at h; subst h; simp only [V.flat]; exact vOf_flat fun d hd => flat_cellsV a x d hf hd
  | .inil, x, d, _, h => by simp only [cellsV, List.mem_singleton] at h; subst h; rfl
def OK.flat : OK → Bool
  | .dead => true
  | .box _ cs => flatL cs
  | .row _ _ _ cs => flatL cs
  | .nrow _ _ _ L => L.e.flatT
  | .iter _ _ => false
  | .mp _ => false
def okAll : List OK → (OK → Bool) → Bool
  | [], _ => true
  | k :: r, f => f k && okAll r f
theorem okAll_get {f : OK → Bool} : ∀ {l : List OK}, okAll l f = true → ∀ (i : Nat) (k : OK), l[i]? = some k → f k = true
  | [], _, i, d, h => by simp at h
  | v :: r, hp, i, d, h => by
    simp only [okAll, Bool.and_eq_true] at hp
    cases i with
    | zero => simp at h; subst h; exact hp.1
    | succ i => exact okAll_get hp.2 i d (by simpa using h)
/-- Renamed new ones aside, a result that leads to no memory. -/
def flat1 : V → Bool
  | .acc _ _ | .own _ _ _ _ | .ptr _ _ _ => true
  | v => v.flat
def flatRes : V → Bool
  | .tup vs => vs.all flat1
  | v => flat1 v
def flatAll (res : V) (lb' lf : List OK) : Bool := flatRes res && okAll lb' OK.flat && okAll lf OK.flat

section
variable {κ : Cx} {ι : Nat → Nat} {st : St} {a : Act} {w : World}

/-- What a call may do to the caller's objects. -/
theorem call_to2 (h : RelI κ ι st a w) {T' : Tab} {ι' : Nat → Nat} {w' : World} (bs fs : List Nat)
    (h1 : ∀ t, t ∉ bs → t ∉ fs → T'.get t = st.o.get t ∧ ι' t = ι t)
    (h2 : ∀ t ∈ bs, t ∉ fs ∧ ι' t = ι t ∧ ((∃ ty cs cs', (st.o.get t).k = .box ty cs ∧ T'.get t = ⟨(st.o.get t).gen, .box ty cs'⟩) ∨
      (∃ ty nl L L', (st.o.get t).k = .nrow ty false nl L ∧ T'.get t = ⟨(st.o.get t).gen, .nrow ty false nl L'⟩ ∧ L'.e = L.e ∧ L'.l.length = L.l.length) ∨
      (∃ ty nl L, (st.o.get t).k = .nrow ty false nl L ∧ T'.get t = ⟨(st.o.get t).gen + 1, .dead⟩)))
    (h3 : ∀ t ∈ fs, (st.o.get t).gen < (T'.get t).gen ∧ (T'.live t → w.heap.size ≤ ι' t ∨ ∃ s ∈ bs, st.o.live s ∧ ι s = ι' t ∧ (T'.get s).k = .dead))
    (hlt : ∀ t ∈ fs, T'.live t → ι' t < w'.heap.size) (hinj : ∀ t ∈ fs, ∀ u ∈ fs, T'.live t → T'.live u → ι' t = ι' u → t = u)
    (hk : Kept (fun b => ∃ t ∈ bs, st.o.live t ∧ ι t = b) w w')
    (hob : Goes κ.D st.o ι w T' ι' w' → ∀ t, (t ∈ bs ∨ t ∈ fs) → ObRel T' ι' (Stable κ.D T' ι' w') w' (ι' t) (T'.get t).k) :
    To κ st.o ι w T' ι' w' := by
  -- those that are borrowed are not handed on
  have nfz : ∀ t ∈ bs, ∀ o, ¬ (st.o.get t).k.fzAt o := fun t ht o hf => by
    obtain ⟨_, _, ⟨ty, cs, cs', hk, _⟩ | ⟨ty, nl, L, L', hk, _⟩ | ⟨ty, nl, L, hk, _⟩⟩ := h2 t ht <;> rw [hk] at hf <;> exact hf
  have live_bs : ∀ t ∈ bs, T'.live t → st.o.live t := fun t ht hl => by
    obtain ⟨_, _, ⟨ty, cs, cs', hk, e⟩ | ⟨ty, nl, L, L', hk, e, e1, e2⟩ | ⟨ty, nl, L, hk, e⟩⟩ := h2 t ht
    · simp [Tab.live, hk, OK.live]
    · simp only [Tab.live, e, OK.live] at hl
      simp only [Tab.live, hk, OK.live]
      rintro ⟨a1, a2⟩
      exact hl ⟨a1, List.eq_nil_of_length_eq_zero (by rw [e2, a2]; rfl)⟩
    · simp [Tab.live, e, OK.live] at hl
  -- a block of an object that is neither borrowed nor new is as it was
  have other : ∀ t, st.o.live t → t ∉ bs → w'.heap[ι t]? = w.heap[ι t]? := fun t hl hn =>
    hk.block _ (h.tr.lt t hl) fun ⟨u, hu, hlu, e⟩ => hn (h.tr.inj u t hlu hl e ▸ hu)
  have H : Goes κ.D st.o ι w T' ι' w' := by
    refine ⟨fun p hp => ?_, fun t => ?_, fun t hl hg => ?_, fun t g ty sz fz' cs' hT hg => ?_, fun t g ty fz nl L hT hg => ?_⟩
    · have hnb : ∀ u ∈ bs, st.o.live u → ι u ≠ p.block := fun u hu hlu e => nfz u hu _ (hp.2.2 u hlu e)
      refine ⟨⟨hp.1, Nat.lt_of_lt_of_le hp.2.1 hk.size, fun t hl e => ?_⟩, cell_congr (hk.block _ hp.2.1 fun ⟨u, hu, hlu, e⟩ => hnb u hu hlu e)⟩
      by_cases hfs : t ∈ fs
      · rcases (h3 t hfs).2 hl with q | ⟨s, hs, hsl, hse, _⟩
        · have := hp.2.1
          omega
        · exact absurd (hse.trans e) (hnb s hs hsl)
      · by_cases hbs : t ∈ bs
        · exact absurd ((h2 t hbs).2.1 ▸ e) (hnb t hbs (live_bs t hbs hl))
        · obtain ⟨e1, e2⟩ := h1 t hbs hfs
          rw [e1]
          exact hp.2.2 t (by simpa [Tab.live, e1] using hl) (e2 ▸ e)
    · by_cases hfs : t ∈ fs
      · exact Nat.le_of_lt (h3 t hfs).1
      · by_cases hbs : t ∈ bs
        · obtain ⟨_, _, ⟨ty, cs, cs', _, e⟩ | ⟨ty, nl, L, L', _, e, _⟩ | ⟨ty, nl, L, _, e⟩⟩ := h2 t hbs
          · rw [e]; exact Nat.le_refl _
          · rw [e]; exact Nat.le_refl _
          · rw [e]; exact Nat.le_succ _
        · rw [(h1 t hbs hfs).1]; exact Nat.le_refl _
    · by_cases hfs : t ∈ fs
      · have := (h3 t hfs).1; omega
      · by_cases hbs : t ∈ bs
        · exact ⟨live_bs t hbs hl, (h2 t hbs).2.1⟩
        · obtain ⟨e1, e2⟩ := h1 t hbs hfs
          exact ⟨by simpa [Tab.live, e1] using hl, e2⟩
    · by_cases hfs : t ∈ fs
      · have := (h3 t hfs).1; rw [hT] at this; simp at this; omega
      · by_cases hbs : t ∈ bs
        · obtain ⟨_, _, ⟨ty1, cs, cs1, _, e⟩ | ⟨ty1, nl, L, L', _, e, _⟩ | ⟨ty1, nl, L, _, e⟩⟩ := h2 t hbs <;> (rw [e] at hT; simp at hT)
        · obtain ⟨e1, e2⟩ := h1 t hbs hfs
          rw [e1] at hT
          refine ⟨⟨ty, fz', cs', hT⟩, fun arr ty1 fz hh => ⟨arr, ty1, fz, ?_, rfl⟩⟩
          rw [other t (by simp [Tab.live, hT, OK.live]) hbs]
          exact hh
    · by_cases hfs : t ∈ fs
      · have := (h3 t hfs).1; rw [hT] at this; simp at this; omega
      · by_cases hbs : t ∈ bs
        · obtain ⟨_, _, ⟨ty1, cs, cs1, _, e⟩ | ⟨ty1, nl1, L1, L', hk1, e, e1, e2⟩ | ⟨ty1, nl1, L1, _, e⟩⟩ := h2 t hbs
          · rw [e] at hT; simp at hT
          · rw [e] at hT
            simp only [Ob.mk.injEq, OK.nrow.injEq] at hT
            obtain ⟨hg', rfl, rfl, rfl, rfl⟩ := hT
            have hT0 : st.o.get t = ⟨g, .nrow ty1 false nl1 L1⟩ := by cases hq : st.o.get t; rw [hq] at hk1 hg'; simp at hk1 hg'; subst hk1 hg'; rfl
            refine ⟨⟨_, _, _, _, hT0, e1.symm, e2.symm, rfl⟩, fun hn arr ty2 fz2 hh => ?_⟩
            have hl : st.o.live t := by
              simp only [Tab.live, hk1, OK.live]
              rintro ⟨a1, a2⟩
              exact hn ⟨a1, List.eq_nil_of_length_eq_zero (by rw [e2, a2]; rfl)⟩
            exact hk.shape _ (h.tr.lt t hl) arr ty2 fz2 hh
          · rw [e] at hT; simp at hT
        · obtain ⟨e1, e2⟩ := h1 t hbs hfs
          rw [e1] at hT
          refine ⟨⟨ty, fz, nl, L, hT, rfl, rfl, rfl⟩, fun hn arr ty1 fz hh => ⟨arr, ty1, fz, ?_, rfl⟩⟩
          rw [other t (by simp only [Tab.live, hT, OK.live]; exact hn) hbs]
          exact hh
  refine ⟨H, ⟨fun t => ?_, fun t u ht hu e => ?_, fun t hl => ?_⟩, fun t hl => ?_, ?_⟩
  · by_cases hx : t ∈ bs ∨ t ∈ fs
    · exact hob H t hx
    · obtain ⟨e1, e2⟩ := h1 t (fun hb => hx (.inl hb)) (fun hf => hx (.inr hf))
      rw [e1, e2]
      by_cases hl : st.o.live t
      · exact (h.tr.ob t).mono H (other t hl fun hb => hx (.inl hb))
      · cases hkk : (st.o.get t).k with
        | dead => trivial
        | nrow ty fz nl L =>
          left
          by_cases hn : nl = true ∧ L.l = []
          · exact hn
          · exact absurd (by simp only [Tab.live, hkk, OK.live]; exact hn) hl
        | _ => exact absurd (by simp [Tab.live, hkk, OK.live]) hl
  · have old : ∀ t, T'.live t → t ∉ fs → st.o.live t ∧ ι' t = ι t := by
      intro t hl hf
      by_cases hbs : t ∈ bs
      · exact ⟨live_bs t hbs hl, (h2 t hbs).2.1⟩
      · obtain ⟨e1, e2⟩ := h1 t hbs hf
        exact ⟨by simpa [Tab.live, e1] using hl, e2⟩
    have cross : ∀ t u, t ∈ fs → u ∉ fs → T'.live t → T'.live u → ι' t ≠ ι' u := by
      intro t u hft hfu ht hu e
      obtain ⟨l1, e1⟩ := old u hu hfu
      rcases (h3 t hft).2 ht with q | ⟨s, hs, hsl, hse, hsd⟩
      · have := h.tr.lt u l1
        omega
      · have := h.tr.inj s u hsl l1 (by rw [hse, e, e1])
        subst this
        simp [Tab.live, hsd, OK.live] at hu
    by_cases hft : t ∈ fs <;> by_cases hfu : u ∈ fs
    · exact hinj t hft u hfu ht hu e
    · exact absurd e (cross t u hft hfu ht hu)
    · exact absurd e.symm (cross u t hfu hft hu ht)
    · obtain ⟨l1, e1⟩ := old t ht hft
      obtain ⟨l2, e2⟩ := old u hu hfu
      exact h.tr.inj t u l1 l2 (by rw [← e1, ← e2, e])
  · by_cases hfs : t ∈ fs
    · exact hlt t hfs hl
    · by_cases hbs : t ∈ bs
      · rw [(h2 t hbs).2.1]
        exact Nat.lt_of_lt_of_le (h.tr.lt t (live_bs t hbs hl)) hk.size
      · obtain ⟨e1, e2⟩ := h1 t hbs hfs
        rw [e2]
        exact Nat.lt_of_lt_of_le (h.tr.lt t (by simpa [Tab.live, e1] using hl)) hk.size
  · by_cases hfs : t ∈ fs
    · rcases (h3 t hfs).2 hl with q | ⟨s, hs, hsl, hse, _⟩
      · exact .inl (Nat.le_trans h.kept.size q)
      · rw [← hse]; exact h.my s hsl
    · by_cases hbs : t ∈ bs
      · rw [(h2 t hbs).2.1]; exact h.my t (live_bs t hbs hl)
      · obtain ⟨e1, e2⟩ := h1 t hbs hfs
        rw [e2]; exact h.my t (by simpa [Tab.live, e1] using hl)
  · exact h.kept.then hk fun i _ ⟨u, hu, hlu, e⟩ => by rw [← e]; exact h.my u hlu
end
end Go.Abs
