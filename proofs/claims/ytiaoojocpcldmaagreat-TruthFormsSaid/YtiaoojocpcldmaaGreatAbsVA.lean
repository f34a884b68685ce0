/- Two sites change their names: nothing else turns. -/
import Derived.Test.YtiaoojocpcldmaaGreatAbsU
namespace Go.Abs
open Go.RowKit
set_option linter.unusedVariables false
set_option linter.unusedSimpArgs false

def swN (a b t : Nat) : Nat := if t = a then b else if t = b then a else t
theorem swN_swN (a b t : Nat) : swN a b (swN a b t) = t := by
  unfold swN
  by_cases h1 : t = a
  · subst h1; simp only [if_true]
    by_cases h2 : b = t
    · simp [h2]
    · simp [h2]
  · by_cases h2 : t = b
    · subst h2; simp [h1]
    · simp [h1, h2]
theorem swN_inj {a b s t : Nat} (h : swN a b s = swN a b t) : s = t := by
  have := congrArg (swN a b) h
  rwa [swN_swN, swN_swN] at this

mutual
def V.sw (a b : Nat) : V → V
  | .own t g off n => .own (swN a b t) g off n
  | .ptr t g off => .ptr (swN a b t) g off
  | .acc t g => .acc (swN a b t) g
  | .eptr t g e i off => .eptr (swN a b t) g e i off
  | .nwin t g off n => .nwin (swN a b t) g off n
  | .mp t g => .mp (swN a b t) g
  | .agg cs => .agg (swL a b cs)
  | .tup cs => .tup (swL a b cs)
  | .ifc t v => .ifc t (v.sw a b)
  | .fn f cs => .fn f (swL a b cs)
  | v => v
def swL (a b : Nat) : List V → List V
  | [] => []
  | v :: r => v.sw a b :: swL a b r
end
theorem swL_length (a b : Nat) : ∀ l : List V, (swL a b l).length = l.length
  | [] => rfl
  | v :: r => by simp [swL, swL_length a b r]
theorem swL_get (a b : Nat) : ∀ (l : List V) (i : Nat) (d : V), (swL a b l)[i]? = some d → ∃ d0, l[i]? = some d0 ∧ d = d0.sw a b
  | [], i, d, h => by simp [swL] at h
  | v :: r, i, d, h => by
    cases i with
    | zero => simp [swL] at h; exact ⟨v, rfl, h.symm⟩
    | succ i => simp [swL] at h; simpa using swL_get a b r i d h

def OK.sw (a b : Nat) : OK → OK
  | .box ty cs => .box ty (swL a b cs)
  | .row ty sz fz cs => .row ty sz fz (swL a b cs)
  | k => k
def Tab.sw (a b : Nat) (T : Tab) : Tab := T.map fun p => (swN a b p.1, ⟨p.2.gen, p.2.k.sw a b⟩)
theorem Tab.get_sw (a b : Nat) : ∀ (T : Tab) (t : Nat), (T.sw a b).get t = ⟨(T.get (swN a b t)).gen, (T.get (swN a b t)).k.sw a b⟩
  | [], t => rfl
  | (k, o) :: r, t => by
    have ih := Tab.get_sw a b r t
    simp only [Tab.sw, Tab.get, List.map_cons, aget] at ih ⊢
    by_cases h : k = swN a b t
    · rw [if_pos h, if_pos (by rw [h, swN_swN])]
    · rw [if_neg h, if_neg (fun e => h (by rw [← e, swN_swN]))]
      exact ih

theorem OK.live_sw {a b : Nat} {k : OK} : (k.sw a b).live ↔ k.live := by cases k <;> rfl
theorem Tab.live_sw {a b : Nat} {T : Tab} {t : Nat} : (T.sw a b).live t ↔ T.live (swN a b t) := by
  unfold Tab.live; rw [Tab.get_sw]; exact OK.live_sw
theorem OK.fzAt_sw {a b : Nat} {k : OK} {o : Nat} : (k.sw a b).fzAt o ↔ k.fzAt o := by
  cases k with
  | row ty sz fz cs => cases fz <;> simp [OK.sw, OK.fzAt, swL_length]
  | _ => rfl
theorem Stable_sw (D : Addr → Prop) (a b : Nat) (T : Tab) (ι : Nat → Nat) (w : World) : Stable D (T.sw a b) (fun t => ι (swN a b t)) w = Stable D T ι w := by
  funext p
  apply propext
  unfold Stable
  refine ⟨fun ⟨h1, h2, h3⟩ => ⟨h1, h2, fun t hl he => ?_⟩, fun ⟨h1, h2, h3⟩ => ⟨h1, h2, fun t hl he => ?_⟩⟩
  · have := h3 (swN a b t) (Tab.live_sw.2 (by rw [swN_swN]; exact hl)) (by simpa only [swN_swN] using he)
    rw [Tab.get_sw, swN_swN] at this
    exact OK.fzAt_sw.1 this
  · rw [Tab.get_sw]
    exact OK.fzAt_sw.2 (h3 _ (Tab.live_sw.1 hl) he)

theorem Rp.sw {S : Addr → Prop} {w : World} {a b : Nat} {d : V} {v : Value} (h : Rp S w d v) : Rp S w (d.sw a b) v := by
  induction h with
  | agg hl h ih =>
    rename_i cs vs
    refine .agg (by rw [swL_length]; exact hl) fun i d u hd hu => ?_
    obtain ⟨d0, h0, rfl⟩ := swL_get a b cs i d hd
    exact ih i d0 u h0 hu
  | tup hl h ih =>
    rename_i cs vs
    refine .tup (by rw [swL_length]; exact hl) fun i d u hd hu => ?_
    obtain ⟨d0, h0, rfl⟩ := swL_get a b cs i d hd
    exact ih i d0 u h0 hu
  | ifc h ih => exact .ifc ih
  | fn hl h ih =>
    rename_i f cs vs
    refine .fn (by rw [swL_length]; exact hl) fun i d u hd hu => ?_
    obtain ⟨d0, h0, rfl⟩ := swL_get a b cs i d hd
    exact ih i d0 u h0 hu
  | bool b => exact .bool b
  | int k n => exact .int k n
  | str b s h => exact .str b s h
  | snil => exact .snil
  | sl hc hm hl h ih => exact .sl hc hm hl h
  | slz => exact .slz
  | cref hm hl h ih => exact .cref hm hl h
  | pnil => exact .pnil
  | inil => exact .inil
  | fnil => exact .fnil
  | sz => exact .sz
  | nl h ih => exact .nl h
  | bs h ih => exact .bs ih
  | lst h ih => exact .lst h
  | si h ih => exact .si h
  | eref h ih => exact .eref h

theorem Rv.sw {T : Tab} {ι : Nat → Nat} {S : Addr → Prop} {w : World} {a b : Nat} {d : V} {v : Value} (h : Rv T ι S w d v) : Rv (T.sw a b) (fun t => ι (swN a b t)) S w (d.sw a b) v := by
  induction h with
  | pure h => exact .pure h.sw
  | undef v => exact .undef v
  | @own t g off n v hv hg h =>
    refine .own hv (by rw [Tab.get_sw, swN_swN]; exact hg) fun ty sz fz cs hT => ?_
    rw [Tab.get_sw, swN_swN] at hT
    simp only [Ob.mk.injEq] at hT
    obtain ⟨h1, h2⟩ := hT
    cases hk : (T.get t).k with
    | row ty0 sz0 fz0 cs0 =>
      rw [hk] at h2
      simp only [OK.sw, OK.row.injEq] at h2
      obtain ⟨rfl, rfl, rfl, rfl⟩ := h2
      rw [swN_swN]
      exact h ty0 sz0 fz0 cs0 (by cases ho : T.get t; rw [ho] at hk h1; simp at hk h1; subst hk h1; rfl)
    | _ => rw [hk] at h2; simp [OK.sw] at h2
  | @ptr t g off v hv hg h =>
    refine .ptr hv (by rw [Tab.get_sw, swN_swN]; exact hg) fun h1 h2 => ?_
    rw [Tab.get_sw, swN_swN] at h1
    rw [swN_swN]
    exact h h1 (by have := Tab.live_sw.1 h2; rwa [swN_swN] at this)
  | @mp t g v hv hg h =>
    refine .mp hv (by rw [Tab.get_sw, swN_swN]; exact hg) fun h1 h2 => ?_
    rw [Tab.get_sw, swN_swN] at h1
    rw [swN_swN]
    exact h h1 (by have := Tab.live_sw.1 h2; rwa [swN_swN] at this)
  | @acc t g v hv hg h =>
    refine .acc hv (by rw [Tab.get_sw, swN_swN]; exact hg) fun ty fz nl L hT => ?_
    rw [Tab.get_sw, swN_swN] at hT
    simp only [Ob.mk.injEq] at hT
    obtain ⟨h1, h2⟩ := hT
    cases hk : (T.get t).k with
    | nrow ty0 fz0 nl0 L0 =>
      rw [hk] at h2
      simp only [OK.sw, OK.nrow.injEq] at h2
      obtain ⟨rfl, rfl, rfl, rfl⟩ := h2
      rw [swN_swN]
      exact h _ _ _ _ (by cases ho : T.get t; rw [ho] at hk h1; simp at hk h1; subst hk h1; rfl)
    | _ => rw [hk] at h2; simp [OK.sw] at h2
  | @nwin t g off n v hv hg h =>
    refine .nwin hv (by rw [Tab.get_sw, swN_swN]; exact hg) fun ty fz nl L hT => ?_
    rw [Tab.get_sw, swN_swN] at hT
    simp only [Ob.mk.injEq] at hT
    obtain ⟨h1, h2⟩ := hT
    cases hk : (T.get t).k with
    | nrow ty0 fz0 nl0 L0 =>
      rw [hk] at h2
      simp only [OK.sw, OK.nrow.injEq] at h2
      obtain ⟨rfl, rfl, rfl, rfl⟩ := h2
      rw [swN_swN]
      exact h _ _ _ _ (by cases ho : T.get t; rw [ho] at hk h1; simp at hk h1; subst hk h1; rfl)
    | _ => rw [hk] at h2; simp [OK.sw] at h2
  | @eptr t g sz i off v hv hg h =>
    refine .eptr hv (by rw [Tab.get_sw, swN_swN]; exact hg) fun ty fz nl L hT => ?_
    rw [Tab.get_sw, swN_swN] at hT
    simp only [Ob.mk.injEq] at hT
    obtain ⟨h1, h2⟩ := hT
    cases hk : (T.get t).k with
    | nrow ty0 fz0 nl0 L0 =>
      rw [hk] at h2
      simp only [OK.sw, OK.nrow.injEq] at h2
      obtain ⟨rfl, rfl, rfl, rfl⟩ := h2
      rw [swN_swN]
      exact h _ _ _ _ (by cases ho : T.get t; rw [ho] at hk h1; simp at hk h1; subst hk h1; rfl)
    | _ => rw [hk] at h2; simp [OK.sw] at h2
  | agg hl h ih =>
    rename_i cs vs
    refine .agg (by rw [swL_length]; exact hl) fun i d u hd hu => ?_
    obtain ⟨d0, h0, rfl⟩ := swL_get a b cs i d hd
    exact ih i d0 u h0 hu
  | tup hl h ih =>
    rename_i cs vs
    refine .tup (by rw [swL_length]; exact hl) fun i d u hd hu => ?_
    obtain ⟨d0, h0, rfl⟩ := swL_get a b cs i d hd
    exact ih i d0 u h0 hu
  | ifc h ih => exact .ifc ih
  | fn hl h ih =>
    rename_i f cs vs
    refine .fn (by rw [swL_length]; exact hl) fun i d u hd hu => ?_
    obtain ⟨d0, h0, rfl⟩ := swL_get a b cs i d hd
    exact ih i d0 u h0 hu

theorem ObRel.sw {T : Tab} {ι : Nat → Nat} {S : Addr → Prop} {w : World} {a b n : Nat} {k : OK} (h : ObRel T ι S w n k) : ObRel (T.sw a b) (fun t => ι (swN a b t)) S w n (k.sw a b) := by
  cases k with
  | dead => trivial
  | box ty cs =>
    obtain ⟨arr, fz, h1, h2, h3, h4⟩ := h
    refine ⟨arr, fz, h1, h2, by rw [swL_length]; exact h3, fun i d u hd hu => ?_⟩
    obtain ⟨d0, h0, rfl⟩ := swL_get a b cs i d hd
    exact (h4 i d0 u h0 hu).sw
  | row ty sz fz0 cs =>
    obtain ⟨arr, fz, cap, h1, h2, h3, h4, h5, h6⟩ := h
    refine ⟨arr, fz, cap, h1, h2, h3, h4, by rw [swL_length]; exact h5, fun i d u hd hu => ?_⟩
    obtain ⟨d0, h0, rfl⟩ := swL_get a b cs i d hd
    exact (h6 i d0 u h0 hu).sw
  | iter s pos => exact h
  | mp M => exact h
  | nrow ty fz0 nl L =>
    rcases h with h | ⟨arr, fz, cap, h1, h2, h3, h4, h5, h6⟩
    · exact .inl h
    · refine .inr ⟨arr, fz, cap, h1, h2, h3, h4, h5, fun i d u hd hu => ?_⟩
      exact .pure ((h6 i d u hd hu).pure_ (TL.pure_cells hd))

def St.sw (a b : Nat) (st : St) : St := { n := st.n, t := st.t.map fun p => (p.1, p.2.sw a b), o := st.o.sw a b, g := swL a b st.g }

theorem St.get_sw (a b : Nat) (st : St) (t : Nat) : (st.sw a b).get t = (st.get t).sw a b := by
  obtain ⟨n, l, o, g⟩ := st
  show aget .undef (l.map fun p => (p.1, p.2.sw a b)) t = (aget .undef l t).sw a b
  induction l with
  | nil => rfl
  | cons p r ih =>
    obtain ⟨k, v⟩ := p
    simp only [List.map_cons, aget]
    split
    · rfl
    · exact ih

theorem RelI.sw {κ : Cx} {ι : Nat → Nat} {st : St} {a : Act} {w : World} {x y : Nat} (hx : x < 1000000) (hy : y < 1000000) (h : RelI κ ι st a w) : RelI κ (fun t => ι (swN x y t)) (st.sw x y) a w := by
  have hS := Stable_sw κ.D x y st.o ι w
  refine ⟨h.dfr, h.sz, fun t => ?_, ⟨fun t => ?_, fun t u ht hu e => ?_, fun t ht => ?_⟩, fun t ht => ?_, h.kept, fun t b hp hg hl => ?_, ?_⟩
  · rw [St.get_sw]
    show Rv (st.o.sw x y) _ (Stable κ.D (st.o.sw x y) _ w) w _ _
    rw [hS]
    exact (h.tm t).sw
  · show ObRel (st.o.sw x y) _ (Stable κ.D (st.o.sw x y) _ w) w _ ((st.o.sw x y).get t).k
    rw [hS, Tab.get_sw]
    exact (h.tr.ob _).sw
  · exact swN_inj (h.tr.inj _ _ (Tab.live_sw.1 ht) (Tab.live_sw.1 hu) e)
  · exact h.tr.lt _ (Tab.live_sw.1 ht)
  · exact h.my _ (Tab.live_sw.1 ht)
  · have hge := κ.hpin t b hp
    have e : swN x y t = t := by unfold swN; rw [if_neg (by omega), if_neg (by omega)]
    have hg' : ((st.o.sw x y).get t).gen = 0 := hg
    have hl' : (st.o.sw x y).live t := hl
    rw [Tab.get_sw, e] at hg'
    rw [Tab.live_sw, e] at hl'
    simp only [e]
    exact h.pin t b hp hg' hl'
  · show LR (Rv (st.o.sw x y) _ (Stable κ.D (st.o.sw x y) _ w) w) (swL x y st.g) κ.gv
    rw [hS]
    refine ⟨by rw [swL_length]; exact h.gh.1, fun i d u hd hu => ?_⟩
    obtain ⟨d0, h0, rfl⟩ := swL_get x y st.g i d hd
    exact (h.gh.2 i d0 u h0 hu).sw
theorem Rel.sw {κ : Cx} {st : St} {a : Act} {w : World} {x y : Nat} (hx : x < 1000000) (hy : y < 1000000) (h : Rel κ st a w) : Rel κ (st.sw x y) a w := by
  obtain ⟨ι, h⟩ := h
  exact ⟨_, h.sw hx hy⟩

/-! Which sites are to be cleared ahead of a region. -/
mutual
/-- Does a value lead to the object of that site and time? -/
def V.leads (t g : Nat) : V → Bool
  | .own t' g' _ _ => t' == t && g' == g
  | .ptr t' g' _ => t' == t && g' == g
  | .acc t' g' => t' == t && g' == g
  | .eptr t' g' _ _ _ => t' == t && g' == g
  | .nwin t' g' _ _ => t' == t && g' == g
  | .mp t' g' => t' == t && g' == g
  | .agg cs => leadsL t g cs
  | .tup cs => leadsL t g cs
  | .ifc _ v => v.leads t g
  | .fn _ cs => leadsL t g cs
  | _ => false
def leadsL (t g : Nat) : List V → Bool
  | [] => false
  | v :: r => v.leads t g || leadsL t g r
end
def OK.leads (t g : Nat) : OK → Bool
  | .box _ cs => leadsL t g cs
  | .row _ _ _ cs => leadsL t g cs
  | _ => false
def OK.isDead : OK → Bool
  | .dead => true
  | _ => false
/-- Does anybody still look at the object of site t? -/
def St.used (st : St) (t : Nat) : Bool :=
  let ob := st.o.get t
  !ob.k.isDead && (st.t.any (fun p => p.2.leads t ob.gen) || leadsL t ob.gen st.g || st.o.any (fun p => p.1 != t && p.2.k.leads t ob.gen))
def spare (T : Tab) : Nat := T.foldl (fun m p => if m ≤ p.1 ∧ p.1 < 999999 then p.1 + 1 else m) 500000
def makes (o : Oper) : List Nat :=
  match o.dst with
  | none => []
  | some d => match o.op with
    | .alloc _ | .box _ _ | .buildSlice _ _ _ | .makeSlice _ _ _ | .range _ _ | .convert _ _ _ | .makeMap _ _ => [d]
    | .call ⟨.builtin .append, _, _⟩ => [d]
    | .call ⟨.value _, _, _⟩ => [d, d + 100000, d + 200000, d + 300000]
    | _ => []
def spill1 (st : St) (d : Nat) : St := if d < 500000 ∧ st.used d = true ∧ spare st.o < 1000000 then st.sw d (spare st.o) else st
def spill (st : St) (ops : List Oper) : St := ops.foldl (fun st o => (makes o).foldl spill1 st) st

theorem Rel.spill1 {κ : Cx} {st : St} {a : Act} {w : World} {d : Nat} (h : Rel κ st a w) : Rel κ (spill1 st d) a w := by
  unfold Abs.spill1
  split
  · rename_i hc; exact h.sw (by omega) hc.2.2
  · exact h
theorem Rel.spill {κ : Cx} {a : Act} {w : World} : ∀ (ops : List Oper) {st : St}, Rel κ st a w → Rel κ (spill st ops) a w
  | [], _, h => h
  | o :: r, st, h => by
    have key : ∀ (l : List Nat) (st : St), Rel κ st a w → Rel κ (l.foldl Abs.spill1 st) a w := by
      intro l
      induction l with
      | nil => exact fun _ h => h
      | cons d l ih => exact fun st h => ih _ h.spill1
    exact Rel.spill r (key (makes o) st h)
end Go.Abs
