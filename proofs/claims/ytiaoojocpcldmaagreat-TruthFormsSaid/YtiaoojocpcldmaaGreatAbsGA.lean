/- append onto a row of Lean's own values. -/
import Derived.Test.YtiaoojocpcldmaaGreatAbsG
namespace Go.Abs
open Go.RowKit
set_option linter.unusedVariables false
set_option linter.unusedSimpArgs false

def castL {e e' : Ty} (h : e' = e) (l : List e'.I) : List e.I := h ▸ l
/-- So many values, one behind the other. -/
def impN {α : Type} (f : List V → Option (α × List V)) : Nat → List V → Option (List α × List V)
  | 0, r => some ([], r)
  | n + 1, r => match f r with
    | some (x, r1) => match impN f n r1 with
      | some (l, r2) => some (x :: l, r2)
      | none => none
    | none => none
def castX {e e' : Ty} (h : e' = e) (x : e'.I) : e.I := h ▸ x
def isAggT : Ty → Bool
  | .agg _ => true
  | _ => false
def isAggV : V → Bool
  | .agg _ => true
  | _ => false
def isOneT : Ty → Bool
  | .int _ | .bool | .str | .list _ | .alt _ _ _ | .alt1 _ _ | .inil => true
  | _ => false
/-- One value by its cells. -/
def impOne {α : Type} (a : Ty) (f : List V → Option (α × List V)) (v : V) : Option α :=
  if (isAggT a && isAggV v) || (isOneT a && !isAggV v) then
    match f v.cells with
    | some (x, []) => some x
    | _ => none
  else none
/-- Cells read as a value of a type; what is left of them. -/
def impC : (t : Ty) → List V → Option (t.I × List V)
  | .int k, cs => match cs with
    | .int k' n :: r => if k' = k then some (n, r) else none
    | _ => none
  | .bool, cs => match cs with
    | .bs b :: r => some (b, r)
    | .bool b :: r => some (b, r)
    | _ => none
  | .str, cs => match cs with
    | .str s :: r => some (s, r)
    | _ => none
  | .list e, cs => match cs with
    | .lst L :: r => if h : L.e = e then some (castL h L.l, r) else none
    | .nl L :: r => if h : L.e = e then some (castL h L.l, r) else none
    | .snil :: r => some ([], r)
    | .sz :: r => some ([], r)
    | .sl n cs :: r => match impN (impC e) n cs with
      | some (l, []) => some (l, r)
      | _ => none
    | _ => none
  | .unit, r => some ((), r)
  | .pair a b, r => match impC a r with
    | some (x, r1) => match impC b r1 with
      | some (y, r2) => some ((x, y), r2)
      | none => none
    | none => none
  | .agg t, r => impC t r
  | .alt t a q, cs => match cs with
    | .si X :: r => if h : X.e = .alt t a q then some (castX h X.x, r) else none
    | .ifc t' u :: r => if t' = t then (match impOne a (impC a) u with
        | some y => some (.inl y, r)
        | none => none) else (match impC q [.ifc t' u] with
        | some (z, []) => some (.inr z, r)
        | _ => none)
    | .inil :: r => match impC q [.inil] with
        | some (z, []) => some (.inr z, r)
        | _ => none
    | _ => none
  | .alt1 t a, cs => match cs with
    | .ifc t' u :: r => if t' = t then (match impOne a (impC a) u with
        | some y => some (y, r)
        | none => none) else none
    | _ => none
  | .inil, cs => match cs with
    | .inil :: r => some ((), r)
    | _ => none

section
variable {T : Tab} {ι : Nat → Nat} {S : Addr → Prop} {w : World}

theorem impN_rv {e : Ty} (ih : ∀ (cs r : List V) (x : e.I) (us : List Value), impC e cs = some (x, r) → LR (Rv T ι S w) cs us → LR (Rv T ι S w) (cellsV e x ++ r) us) :
    ∀ (n : Nat) (cs r : List V) (l : List e.I) (us : List Value), impN (impC e) n cs = some (l, r) → LR (Rv T ι S w) cs us → l.length = n ∧ LR (Rv T ι S w) (l.flatMap (cellsV e) ++ r) us
  | 0, cs, r, l, us, h, hr => by simp [impN] at h; obtain ⟨rfl, rfl⟩ := h; exact ⟨rfl, by simpa using hr⟩
  | n + 1, cs, r, l, us, h, hr => by
    simp only [impN] at h
    split at h
    · rename_i x r1 hx
      split at h
      · rename_i l2 r2 hl
        simp at h
        obtain ⟨rfl, rfl⟩ := h
        have h1 := ih _ _ _ _ hx hr
        have h2 := h1.take (cellsV e x).length
        have h3 := h1.drop (cellsV e x).length
        simp only [List.take_left, List.drop_left] at h2 h3
        obtain ⟨h4, h5⟩ := impN_rv ih n r1 r2 l2 _ hl h3
        refine ⟨by simp [h4], ?_⟩
        have := h2.append h5
        rw [List.take_append_drop] at this
        simpa [List.append_assoc] using this
      · cases h
    · cases h

theorem lr_pure {cs : List V} {us : List Value} (hp : ∀ d ∈ cs, d.pure = true) (h : LR (Rv T ι S w) cs us) : LR (Rp S w) cs us :=
  ⟨h.1, fun i d u hd hu => (h.2 i d u hd hu).pure_ (hp d (List.mem_of_getElem? hd))⟩
theorem flat_pure {e : Ty} {l : List e.I} : ∀ d ∈ l.flatMap (cellsV e), d.pure = true := fun d hd => by
  obtain ⟨x, _, hx⟩ := List.mem_flatMap.1 hd
  exact pure_cellsV _ _ _ hx

theorem impOne_rv {a : Ty} (ih : ∀ (cs r : List V) (x : a.I) (us : List Value), impC a cs = some (x, r) → LR (Rv T ι S w) cs us → LR (Rv T ι S w) (cellsV a x ++ r) us)
    {v : V} {y : a.I} {u : Value} (h : impOne a (impC a) v = some y) (hr : Rv T ι S w v u) : Rv T ι S w (vOf a (cellsV a y)) u := by
  unfold impOne at h
  split at h
  · rename_i hc
    split at h
    · rename_i x hx
      injection h with h; subst h
      by_cases hv : isAggV v = true
      · cases v with
        | agg cs =>
          obtain ⟨vs, rfl, hl, hh⟩ := hr.agg_
          have := ih _ _ _ _ hx ⟨hl, hh⟩
          rw [List.append_nil] at this
          cases a with
          | agg t => exact .agg this.1 this.2
          | _ => simp [isAggT, isAggV, isOneT] at hc
        | _ => simp [isAggV] at hv
      · have hcell : v.cells = [v] := by cases v <;> first | rfl | simp [isAggV] at hv
        rw [hcell] at hx
        have := ih _ _ _ _ hx (.cons hr .nil)
        rw [List.append_nil] at this
        have e : vOf a (cellsV a x) = (cellsV a x).headD .pnil := by
          cases a <;> first | rfl | (simp [isAggT, hv] at hc; simp [isOneT] at hc)
        rw [e]
        cases hcs : cellsV a x with
        | nil => rw [hcs] at this; have := this.1; simp at this
        | cons d r => rw [hcs] at this; exact this.2 0 d u rfl rfl
    · cases h
  · cases h

theorem impC_rv : ∀ (t : Ty) (cs r : List V) (x : t.I) (us : List Value), impC t cs = some (x, r) → LR (Rv T ι S w) cs us → LR (Rv T ι S w) (cellsV t x ++ r) us := by
  intro t
  induction t with
  | int k =>
    intro cs r x us h hr
    simp only [impC] at h
    split at h
    · split at h
      · rename_i e; subst e; simp at h; obtain ⟨rfl, rfl⟩ := h; exact hr
      · cases h
    · cases h
  | bool =>
    intro cs r x us h hr
    simp only [impC] at h
    split at h
    · simp at h; obtain ⟨rfl, rfl⟩ := h
      obtain ⟨u, us', rfl, hu, hr'⟩ := hr.head
      exact .cons (by rw [hu.bs_]; exact .pure (.bool _)) hr'
    · simp at h; obtain ⟨rfl, rfl⟩ := h; exact hr
    · cases h
  | str =>
    intro cs r x us h hr
    simp only [impC] at h
    split at h
    · simp at h; obtain ⟨rfl, rfl⟩ := h; exact hr
    · cases h
  | unit =>
    intro cs r x us h hr
    simp only [impC] at h
    simp at h; obtain rfl := h; simpa [cellsV] using hr
  | pair a b iha ihb =>
    intro cs r x us h hr
    simp only [impC] at h
    split at h
    · rename_i y r1 hy
      split at h
      · rename_i z r2 hz
        simp at h
        obtain ⟨rfl, rfl⟩ := h
        have h1 := iha _ _ _ _ hy hr
        have h2 := h1.take (cellsV a y).length
        have h3 := h1.drop (cellsV a y).length
        simp only [List.take_left, List.drop_left] at h2 h3
        have h4 := h2.append (ihb _ _ _ _ hz h3)
        rw [List.take_append_drop] at h4
        simpa [cellsV, List.append_assoc] using h4
      · cases h
    · cases h
  | agg t ih =>
    intro cs r x us h hr
    simp only [impC] at h
    exact ih _ _ _ _ h hr
  | list e ih =>
    intro cs r x us h hr
    simp only [impC] at h
    split at h
    · rename_i L _
      split at h
      · rename_i he
        obtain ⟨e', l⟩ := L
        simp only at he
        subst he
        simp [castL] at h
        obtain ⟨rfl, rfl⟩ := h
        obtain ⟨u, us', rfl, hu, hr'⟩ := hr.head
        exact .cons (.pure hu.lst_) hr'
      · cases h
    · rename_i L _
      split at h
      · rename_i he
        obtain ⟨e', l⟩ := L
        simp only at he
        subst he
        simp [castL] at h
        obtain ⟨rfl, rfl⟩ := h
        obtain ⟨u, us', rfl, hu, hr'⟩ := hr.head
        exact .cons (.pure hu.nl_.1.lst_) hr'
      · cases h
    · simp at h; obtain ⟨rfl, rfl⟩ := h
      obtain ⟨u, us', rfl, hu, hr'⟩ := hr.head
      exact .cons (by rw [hu.snil_]; exact .pure .slz) hr'
    · simp at h; obtain ⟨rfl, rfl⟩ := h
      obtain ⟨u, us', rfl, hu, hr'⟩ := hr.head
      obtain ⟨p, rfl⟩ := hu.sz_
      refine .cons (.pure ?_) hr'
      cases p with
      | none => exact .slz
      | some a => exact .sl (vs := []) (Nat.le_refl _) (by simp) rfl (by simp)
    · rename_i n cs' r'
      split at h
      · rename_i l hl
        simp at h
        obtain ⟨rfl, rfl⟩ := h
        obtain ⟨u, us', rfl, hu, hr'⟩ := hr.head
        refine .cons (.pure ?_) hr'
        rcases hu.sl_ with ⟨rfl, rfl, rfl⟩ | ⟨a, c, vs, rfl, hc, hm, hl', hh⟩
        · simp [impN] at hl
          subst hl
          exact .slz
        · obtain ⟨h1, h2⟩ := impN_rv ih n cs' [] l vs hl ⟨hl', fun i d u hd hu => .pure (hh i d u hd hu)⟩
          rw [List.append_nil] at h2
          have h3 := lr_pure flat_pure h2
          rw [h1]
          exact .sl hc hm h3.1 h3.2
      · cases h
    · cases h
  | alt t a q iha ihq =>
    intro cs r x us h hr
    simp only [impC] at h
    have single : ∀ (v : V) (z : q.I) (us : List Value), impC q [v] = some (z, []) → LR (Rv T ι S w) (v :: r) us → LR (Rv T ι S w) ((cellsV q z).headD .pnil :: r) us := by
      intro v z us hz hr
      obtain ⟨u, us', rfl, hu, hr'⟩ := hr.head
      have := ihq _ _ _ _ hz (.cons hu .nil)
      rw [List.append_nil] at this
      refine .cons ?_ hr'
      cases hcs : cellsV q z with
      | nil => rw [hcs] at this; have := this.1; simp at this
      | cons d r => rw [hcs] at this; exact this.2 0 d u rfl rfl
    split at h
    · rename_i X r'
      split at h
      · rename_i he
        obtain ⟨e', x'⟩ := X
        simp only at he
        subst he
        simp [castX] at h
        obtain ⟨rfl, rfl⟩ := h
        obtain ⟨u, us', rfl, hu, hr'⟩ := hr.head
        have h2 := hu.si_
        have e : cellsV (.alt t a q) x' = [(cellsV (.alt t a q) x').headD .pnil] := by
          cases x' <;> rfl
        rw [e]
        exact .cons (.pure h2) hr'
      · cases h
    · rename_i t' u' r'
      split at h
      · rename_i e
        subst e
        split at h
        · rename_i y hy
          simp at h
          obtain ⟨rfl, rfl⟩ := h
          obtain ⟨u, us', rfl, hu, hr'⟩ := hr.head
          obtain ⟨u2, rfl, hu2⟩ := hu.ifc_
          exact .cons (.ifc (impOne_rv iha hy hu2)) hr'
        · cases h
      · split at h
        · rename_i z hz
          simp at h
          obtain ⟨rfl, rfl⟩ := h
          exact single _ _ _ hz hr
        · cases h
    · split at h
      · rename_i z hz
        simp at h
        obtain ⟨rfl, rfl⟩ := h
        exact single _ _ _ hz hr
      · cases h
    · cases h
  | alt1 t a iha =>
    intro cs r x us h hr
    simp only [impC] at h
    split at h
    · split at h
      · rename_i e
        subst e
        split at h
        · rename_i y hy
          simp at h
          obtain ⟨rfl, rfl⟩ := h
          obtain ⟨u, us', rfl, hu, hr'⟩ := hr.head
          obtain ⟨u2, rfl, hu2⟩ := hu.ifc_
          exact .cons (.ifc (impOne_rv iha hy hu2)) hr'
        · cases h
      · cases h
    · cases h
  | inil =>
    intro cs r x us h hr
    simp only [impC] at h
    split at h
    · simp at h; obtain rfl := h; exact hr
    · cases h

theorem cellOk_cellsV (t : Ty) (x : t.I) (d : V) (h : d ∈ cellsV t x) : d.cellOk = true := V.leaf_cellOk (leaf_cellsV t x d h)
theorem flat_cellOk {e : Ty} {l : List e.I} : ∀ d ∈ l.flatMap (cellsV e), d.cellOk = true := fun d hd => by
  obtain ⟨x, _, hx⟩ := List.mem_flatMap.1 hd
  exact cellOk_cellsV _ _ _ hx
end

section
variable {κ : Cx} {ι : Nat → Nat} {st : St} {a : Act} {w : World}

/-- What is appended, as a list of a type. -/
def symSrc (T : Tab) (e : Ty) (x : V) : Option (List e.I) :=
  match x with
  | .lst L => if h : L.e = e then some (castL h L.l) else none
  | .acc s g => if (T.get s).gen = g then (match (T.get s).k with
    | .nrow _ _ _ L => if h : L.e = e then some (castL h L.l) else none
    | _ => none) else none
  | .nwin s g off n => if (T.get s).gen = g then (match (T.get s).k with
    | .nrow _ _ _ L => if h : L.e = e then some (castL h ((L.l.take (off + n)).drop off)) else none
    | _ => none) else none
  | .str s => if h : Ty.int .u8 = e then some (castL (e' := .int .u8) h (s.map fun b => (b.toNat : Int))) else none
  | x => match aSrc T e.size x with
    | some (m, xs) => match impN (impC e) m xs with
      | some (l, []) => some l
      | _ => none
    | none => none

theorem symSrc_ok (h : RelI κ ι st a w) {e : Ty} {x : V} {cx : Value} {l : List e.I} (hr : Rv st.o ι (Stable κ.D st.o ι w) w x cx) (hx : symSrc st.o e x = some l) :
    (∀ w', (Builtin.lenOf cx).run κ.P w' = .ok l.length w') ∧
    ∃ news : List Value, LR (Rv st.o ι (Stable κ.D st.o ι w) w) (l.flatMap (cellsV e)) news ∧ (∀ k w', k ≤ l.length → w'.heap = w.heap → (Builtin.firstCells e.size k cx).run κ.P w' = .ok (news.take (k * e.size)).toArray w') := by
  unfold symSrc at hx
  split at hx
  · rename_i L
    split at hx
    · rename_i he
      obtain ⟨e', l'⟩ := L
      subst he
      simp [castL] at hx; subst hx
      obtain ⟨h1, _, h2⟩ := aSrc_ok h (size := e'.size) (m := l'.length) (xs := (⟨e', l'⟩ : TL).cells) hr (by simp [aSrc])
      exact ⟨h1, h2⟩
    · cases hx
  · rename_i s g
    split at hx
    · rename_i hg
      split at hx
      · rename_i ty fz nl L hk
        split at hx
        · rename_i he
          obtain ⟨e', l'⟩ := L
          subst he
          simp [castL] at hx; subst hx
          obtain ⟨h1, _, h2⟩ := aSrc_ok h (size := e'.size) (m := l'.length) (xs := (⟨e', l'⟩ : TL).cells) hr (by simp [aSrc, hg, hk])
          exact ⟨h1, h2⟩
        · cases hx
      · cases hx
    · cases hx
  · rename_i s g off n
    split at hx
    · rename_i hg
      split at hx
      · rename_i ty fz nl L hk
        split at hx
        · rename_i he
          obtain ⟨e', l'⟩ := L
          subst he
          simp [castL] at hx; subst hx
          obtain ⟨h1, _, h2⟩ := aSrc_ok h (size := e'.size) (m := ((l'.take (off + n)).drop off).length) (xs := (⟨e', (l'.take (off + n)).drop off⟩ : TL).cells) hr (by simp only [aSrc, if_pos hg, hk, if_true])
          exact ⟨h1, h2⟩
        · cases hx
      · cases hx
    · cases hx
  · rename_i s
    split at hx
    · rename_i he
      subst he
      simp only [castL, Option.some.injEq] at hx
      subst hx
      obtain ⟨h1, _, news, h2, h3⟩ := aSrc_ok h (size := 1) (m := s.length) (xs := s.map fun b => .int .u8 b.toNat) hr (by simp [aSrc])
      have e1 : (s.map fun b => (b.toNat : Int)).length = s.length := List.length_map _
      have e2 : ∀ l : List UInt8, (l.map fun b => (b.toNat : Int)).flatMap (cellsV (.int .u8)) = l.map fun b => V.int .u8 b.toNat := by
        intro l
        induction l with
        | nil => rfl
        | cons x r ih => rw [List.map_cons, List.flatMap_cons, ih]; rfl
      refine ⟨fun w' => ?_, news, ?_, fun k w' hk hw => ?_⟩
      · rw [e1]; exact h1 w'
      · rw [e2]; exact h2
      · rw [e1] at hk; exact h3 k w' hk hw
    · cases hx
  · split at hx
    · rename_i m xs hs
      split at hx
      · rename_i l' hl
        injection hx with hx; subst hx
        obtain ⟨h1, h2, news, h3, h4⟩ := aSrc_ok h hr hs
        obtain ⟨h5, h6⟩ := impN_rv (impC_rv e) m xs [] l' news hl h3
        rw [List.append_nil] at h6
        exact ⟨by rw [h5]; exact h1, news, h6, by rw [h5]; exact h4⟩
      · cases hx
    · cases hx

/-- A site that has no memory of its own yet. -/
theorem To.virt (h : RelI κ ι st a w) (s ty : Nat) (fz : Bool) (L : TL) (hL : L.l = []) : To κ st.o ι w (st.o.put s ⟨(st.o.get s).gen + 1, .nrow ty fz true L⟩) ι w := by
  have hlive : ∀ t, (st.o.put s ⟨(st.o.get s).gen + 1, .nrow ty fz true L⟩).live t → s ≠ t ∧ st.o.live t := fun t hl => by
    simp only [Tab.live, Tab.get_put] at hl
    by_cases e : s = t
    · subst e; simp only [if_true, OK.live] at hl; simp [hL] at hl
    · rw [if_neg e] at hl; exact ⟨e, hl⟩
  have H : Goes κ.D st.o ι w (st.o.put s ⟨(st.o.get s).gen + 1, .nrow ty fz true L⟩) ι w := by
    refine ⟨fun p hp => ⟨⟨hp.1, hp.2.1, fun t hl => ?_⟩, rfl⟩, fun t => ?_, fun t hl hg => ?_, fun t g ty' sz fz' cs' hT hg => ?_, fun t g ty' fz' nl' L' hT hg => ?_⟩
    · obtain ⟨h1, h2⟩ := hlive t hl
      rw [Tab.get_put, if_neg h1]
      exact hp.2.2 t h2
    · rw [Tab.get_put]; split
      · rename_i e; subst e; exact Nat.le_succ _
      · exact Nat.le_refl _
    · exact ⟨(hlive t hl).2, rfl⟩
    · rw [Tab.get_put] at hT
      split at hT
      · simp at hT
      · exact ⟨⟨ty', fz', cs', hT⟩, fun arr ty1 fz h => ⟨arr, ty1, fz, h, rfl⟩⟩
    · rw [Tab.get_put] at hT
      split at hT
      · rename_i e; subst e; simp at hT; omega
      · exact ⟨⟨ty', fz', nl', L', hT, rfl, rfl, rfl⟩, fun _ arr ty1 fz h => ⟨arr, ty1, fz, h, rfl⟩⟩
  refine ⟨H, ⟨fun t => ?_, fun t u ht hu => h.tr.inj t u (hlive t ht).2 (hlive u hu).2, fun t ht => h.tr.lt t (hlive t ht).2⟩, fun t ht => h.my t (hlive t ht).2, h.kept⟩
  rw [Tab.get_put]
  split
  · exact .inl ⟨rfl, hL⟩
  · exact (h.tr.ob t).mono H rfl

/-- What is appended, as a list of its own type. -/
def srcTL (T : Tab) (x : V) : Option TL := match x with
  | .lst L => some L
  | .acc s g => if (T.get s).gen = g then (match (T.get s).k with
    | .nrow _ _ _ L => some L
    | _ => none) else none
  | .nwin s g off n => if (T.get s).gen = g then (match (T.get s).k with
    | .nrow _ _ _ L => some ⟨L.e, (L.l.take (off + n)).drop off⟩
    | _ => none) else none
  | _ => none
theorem srcTL_src {T : Tab} {x : V} {L : TL} (h : srcTL T x = some L) {size : Nat} (hs : L.e.size = size) : aSrc T size x = some (L.l.length, L.cells) := by
  unfold srcTL at h
  split at h
  · injection h with h; subst h; simp only [aSrc]; exact if_pos hs
  · split at h
    · rename_i hg
      split at h
      · rename_i hk
        injection h with h; subst h
        simp only [aSrc, if_pos hg, hk]; exact if_pos hs
      · cases h
    · cases h
  · split at h
    · rename_i hg
      split at h
      · rename_i hk
        injection h with h; subst h
        simp only [aSrc, if_pos hg, hk]; exact if_pos hs
      · cases h
    · cases h
  · cases h
def sAppend (P : Program) (T : Tab) (t tx : Nat) (s x : V) (d : Nat) : Option (V × Option (Nat × Ob)) :=
  match P.underlying t, P.underlying tx with
  | some (.slice et), some dx => match zeroC P et, P.info? et with
    | some _, some i => if isSrcD dx = true ∧ 0 < i.size ∧ 0 < i.bytes then
        match s with
        | .acc q g => if (T.get q).gen = g then (match (T.get q).k with
          | .nrow ty fz nl L => if ty = et ∧ L.e.size = i.size then (match symSrc T L.e x with
            | some l => if (L.l.length + l.length) * i.bytes ≤ 140737488355328 then some (.acc q (g + 1), some (q, ⟨g + 1, .nrow ty fz nl ⟨L.e, L.l ++ l⟩⟩)) else none
            | none => none) else none
          | _ => none) else none
        | .snil | .sz => match srcTL T x with
          | some L => if L.e.size = i.size then (if L.l.length * i.bytes ≤ 140737488355328 then some (.acc d ((T.get d).gen + 1), some (d, ⟨(T.get d).gen + 1, .nrow et false true L⟩)) else none) else none
          | _ => none
        | _ => none
      else none
    | _, _ => none
  | _, _ => none

/-- A new row, of so many cells of which the first ones are known. -/
theorem grow_nrow (h : RelI κ ι st a w) {et s n m : Nat} {i : TypeInfo} {z : Value} (cap : Nat) (fz nl : Bool) (olds news : List Value) (L : TL) (hLi : L.e.size = i.size) (hn : ¬ (nl = true ∧ L.l = [])) (hl : L.l.length = n + m)
    (hzs : z.cells.size = i.size) (h0 : 0 < i.size) (holds : olds.length = n * i.size) (hnews : news.length = m * i.size) (hcs : LR (Rv st.o ι (Stable κ.D st.o ι w) w) L.cells (olds ++ news)) :
    To κ st.o ι w (st.o.put s ⟨(st.o.get s).gen + 1, .nrow et fz nl L⟩) (fun t => if s = t then w.heap.size else ι t)
      (w.drew.alloc (.cells (olds.toArray ++ news.toArray ++ Builtin.zeroCells z.cells (grownCap w (n + m) cap et - (n + m))) et)) ∧
    ∀ {S : Addr → Prop}, Rv (wrT st.o (some (s, ⟨(st.o.get s).gen + 1, .nrow et fz nl L⟩))) (fun t => if s = t then w.heap.size else ι t) S
      (w.drew.alloc (.cells (olds.toArray ++ news.toArray ++ Builtin.zeroCells z.cells (grownCap w (n + m) cap et - (n + m))) et))
      (.acc s ((st.o.get s).gen + 1)) (.slice (some ⟨w.heap.size, 0, none⟩) (n + m) (grownCap w (n + m) cap et)) := by
  have hge := grownCap_ge w (n + m) cap et
  have hsz : (olds.toArray ++ news.toArray ++ Builtin.zeroCells z.cells (grownCap w (n + m) cap et - (n + m))).size = grownCap w (n + m) cap et * L.e.size := by
    simp only [Array.size_append, List.size_toArray, size_zeroCells, hzs, holds, hnews, ← Nat.add_mul, hLi]
    congr 1
    omega
  have hcl : L.cells.length = (n + m) * L.e.size := by rw [L.cells_length, hl]
  generalize hA : (olds.toArray ++ news.toArray ++ Builtin.zeroCells z.cells (grownCap w (n + m) cap et - (n + m))) = A at *
  constructor
  · refine To.new h (w1 := w.drew) rfl rfl rfl rfl s _ _ fun T' ι' w' H hnew => .inr ⟨A, (0, 0), _, hnew, fun i _ => by simp, hsz, by rw [hLi]; exact h0, by rw [hsz, hcl]; exact Nat.mul_le_mul_right _ hge, fun j d u hd hu => ?_⟩
    refine (hcs.2 j d u hd ?_).mono H
    have hj : j < (olds ++ news).length := by rw [← hcs.1]; exact (List.getElem?_eq_some_iff.1 hd).1
    rw [← hA] at hu
    simp only [Array.toList_append] at hu
    rw [List.getElem?_append_left hj] at hu
    exact hu
  · intro S
    refine .acc ⟨_, _, _, rfl⟩ (by simp [wrT, Tab.get_put]) fun ty' fz' nl' L' e => ?_
    simp [wrT, Tab.get_put] at e
    obtain ⟨rfl, rfl, rfl, rfl⟩ := e
    refine .inr ⟨hn, _, grownCap w (n + m) cap et, grownCap w (n + m) cap et, A, et, (0, 0), by rw [hl], by simp, ?_, hsz, by omega, by omega, fun _ => by simp⟩
    have := heap_alloc_new w.drew (.cells A et)
    simpa using this

theorem sAppend_ok (h : RelI κ ι st a w) {t tx ty d : Nat} {s x v : V} {cs cx : Value} {wr : Option (Nat × Ob)} (hs : Rv st.o ι (Stable κ.D st.o ι w) w s cs) (hr : Rv st.o ι (Stable κ.D st.o ι w) w x cx)
    (hx : sAppend κ.P st.o t tx s x d = some (v, wr)) : SemOk κ ι st.o w (Builtin.append_ #[t, tx] ty #[cs, cx]) v wr := by
  unfold sAppend at hx
  split at hx
  · rename_i et dx ht htx
    split at hx
    · rename_i zs i hz hi
      obtain ⟨z, i', hi', hzz, hsz, hrun, hlr⟩ := zeroC_ok hz
      rw [hi] at hi'; injection hi' with hi'; subst hi'
      split at hx
      · rename_i hc
        obtain ⟨hdx, h0, hb0⟩ := hc
        have fresh : ∀ {p : Option Addr} {L : TL}, cs = .slice p 0 0 → srcTL st.o x = some L → L.e.size = i.size → L.l.length * i.bytes ≤ 140737488355328 →
            SemOk κ ι st.o w (Builtin.append_ #[t, tx] ty #[cs, cx]) (.acc d ((st.o.get d).gen + 1)) (some (d, ⟨(st.o.get d).gen + 1, .nrow et false true L⟩)) := by
          rintro p L rfl hxL hLi hb
          obtain ⟨hlen, hxl, news, hnews, hfirst⟩ := aSrc_ok h (size := i.size) (m := L.l.length) (xs := L.cells) hr (srcTL_src hxL hLi)
          have hnl : news.length = L.l.length * i.size := by rw [← hnews.1]; exact hxl
          have hfirst' : ∀ w', w'.heap = w.heap → (Builtin.firstCells i.size L.l.length cx).run κ.P w' = .ok news.toArray w' := fun w' hw' => by
            rw [hfirst _ w' (Nat.le_refl _) hw', ← hnl, List.take_length]
          have gen := run_append_gen (w := w) (P := κ.P) (ty := ty) ht hi htx hdx (base := p) (n := 0) (cap := 0) hlen hfirst'
          by_cases hm : L.l = []
          · have hm0 : L.l.length = 0 := by rw [hm]; rfl
            have hrun := gen.1 (by omega)
            have hn0 : news = [] := List.eq_nil_of_length_eq_zero (by rw [hnl, hm0]; simp)
            subst hn0
            rw [hm0] at hrun
            refine ⟨.slice p 0 0, w, ι, ?_, To.virt h d et false L hm, .acc ⟨_, _, _, rfl⟩ (by simp [wrT, Tab.get_put]) fun ty' fz' nl' L' e => ?_⟩
            · cases p with
              | none => exact hrun
              | some ad => simpa [storeCells] using hrun
            · simp [wrT, Tab.get_put] at e
              obtain ⟨rfl, rfl, rfl, rfl⟩ := e
              exact .inl ⟨rfl, hm, p, rfl⟩
          · have hpos : ¬ 0 + L.l.length ≤ 0 := by
              intro e
              exact hm (List.eq_nil_of_length_eq_zero (by omega))
            have hrun := gen.2 z #[] hpos hzz hb0 (by simpa using hb) (fun w' _ => by
              cases p with
              | none => simp [Builtin.firstCells]
              | some ad => simpa using run_firstCells_some (P := κ.P) w' i.size 0 ad 0 0 [] (by simp) (by simp))
            obtain ⟨hto, hv⟩ := grow_nrow h (s := d) (et := et) (n := 0) (m := L.l.length) (i := i) (z := z) 0 false true [] news L hLi (fun e => hm e.2) (by omega) hsz h0 (by simp) hnl (by simpa using hnews)
            simp only [Nat.zero_add] at hrun hto hv
            exact ⟨_, _, _, hrun, hto, hv⟩
        split at hx
        · rename_i q g
          split at hx
          · rename_i hg
            split at hx
            · rename_i ty1 fz nl L hk
              split at hx
              · rename_i hc2
                obtain ⟨rfl, hLi⟩ := hc2
                split at hx
                · rename_i l hl
                  split at hx
                  · rename_i hb
                    simp at hx
                    obtain ⟨rfl, rfl⟩ := hx
                    obtain ⟨hlen, news, hnews, hfirst⟩ := symSrc_ok h hr hl
                    rw [hLi] at hfirst
                    have hnl : news.length = l.length * i.size := by rw [← hnews.1, flat_length, hLi]
                    have hfirst' : ∀ w', w'.heap = w.heap → (Builtin.firstCells i.size l.length cx).run κ.P w' = .ok news.toArray w' := fun w' hw' => by
                      rw [hfirst _ w' (Nat.le_refl _) hw', ← hnl, List.take_length]
                    have gen := fun base n cap => run_append_gen (w := w) (P := κ.P) (ty := ty) ht hi htx hdx (base := base) (n := n) (cap := cap) hlen hfirst'
                    have hT : st.o.get q = ⟨g, .nrow ty1 fz nl L⟩ := by cases hTs : st.o.get q; rw [hTs] at hk hg; simp at hk hg; subst hk hg; rfl
                    have hcat : (⟨L.e, L.l ++ l⟩ : TL).cells = L.cells ++ l.flatMap (cellsV L.e) := by simp [TL.cells]
                    rcases hs.acc_ hT with ⟨hnl1, hl0, p, rfl⟩ | ⟨hn, ad, c, cap, arr, ty2, fz2, rfl, hbk, hmem, has, hn', hcap, hpl⟩
                    · -- nothing there yet
                      have e1 : L.l.length = 0 := by rw [hl0]; rfl
                      by_cases hm : l = []
                      · have hm0 : l.length = 0 := by rw [hm]; rfl
                        have hrun := (gen p 0 0).1 (by omega)
                        have hn0 : news = [] := List.eq_nil_of_length_eq_zero (by rw [hnl, hm0]; simp)
                        subst hn0
                        rw [hm0] at hrun
                        subst hnl1
                        have hv := To.virt h q ty1 fz ⟨L.e, L.l ++ l⟩ (by simp [hl0, hm])
                        rw [hg] at hv
                        refine ⟨.slice p 0 0, w, ι, ?_, hv, .acc ⟨_, _, _, rfl⟩ (by simp [wrT, Tab.get_put]) fun ty' fz' nl' L' e => ?_⟩
                        · cases p with
                          | none => exact hrun
                          | some ad => simpa [storeCells] using hrun
                        · simp [wrT, Tab.get_put] at e
                          obtain ⟨rfl, rfl, rfl, rfl⟩ := e
                          exact .inl ⟨rfl, by simp [hl0, hm], p, rfl⟩
                      · have hpos : ¬ 0 + l.length ≤ 0 := by
                          intro e
                          exact hm (List.eq_nil_of_length_eq_zero (by omega))
                        have hrun := (gen p 0 0).2 z #[] hpos hzz hb0 (by rw [e1] at hb; exact hb) (fun w' _ => by
                          cases p with
                          | none => simp [Builtin.firstCells]
                          | some ad => simpa using run_firstCells_some (P := κ.P) w' i.size 0 ad 0 0 [] (by simp) (by simp))
                        obtain ⟨hto, hv⟩ := grow_nrow h (s := q) (et := ty1) (n := 0) (m := l.length) (i := i) (z := z) 0 fz nl [] news ⟨L.e, L.l ++ l⟩ hLi (fun e => hm (by simpa [hl0] using e.2)) (by simp [e1]) hsz h0 (by simp) hnl
                          (by rw [hcat]; simpa [TL.cells, hl0] using hnews)
                        rw [hg] at hto hv
                        simp only [Nat.zero_add] at hrun hto hv
                        exact ⟨_, _, _, hrun, hto, hv⟩
                    · have hlv : st.o.live q := by simp only [Tab.live, hk, OK.live]; exact hn
                      have hself : aSrc st.o i.size (.acc q g) = some (L.l.length, L.cells) := by simp [aSrc, hT, hLi]
                      obtain ⟨_, hcl0, olds, holds, hofirst⟩ := aSrc_ok h hs hself
                      have hol : olds.length = L.l.length * i.size := by rw [← holds.1]; exact hcl0
                      have hcc : c = cap := by omega
                      subst hcc
                      have hob := h.tr.ob q
                      rw [hk] at hob
                      obtain ⟨arr2, fz3, cap2, hh2, hf2, has2, _, hle2, hc2⟩ := hob.resolve_left hn
                      rw [hmem] at hh2
                      injection hh2 with hh2; injection hh2 with e1 e2 e3; subst e1 e2 e3
                      have hcl := L.cells_length
                      by_cases hroom : L.l.length + l.length ≤ c
                      · have hrun := (gen (some ad) L.l.length c).1 hroom
                        have hone : ∀ u ∈ news, u.oneCell' = true := by
                          intro u hu
                          obtain ⟨j, hj⟩ := List.mem_iff_getElem?.1 hu
                          have hjl : j < (l.flatMap (cellsV L.e)).length := by rw [hnews.1]; exact (List.getElem?_eq_some_iff.1 hj).1
                          exact cell_one (flat_cellOk _ (List.getElem_mem hjl)) (hnews.2 j _ u (List.getElem?_eq_getElem hjl) hj)
                        have hfit : L.l.length * i.size + l.length * i.size ≤ arr.size := by rw [has, hLi, ← Nat.add_mul]; exact Nat.mul_le_mul_right _ hroom
                        have hstore : ∃ w', (storeCells (ad.add (L.l.length * i.size)) news).run κ.P w = .ok () w' ∧ w' = w.setRow (ι q) (arr.toList.take (L.l.length * i.size) ++ (news ++ arr.toList.drop (L.l.length * i.size + news.length))).toArray := by
                          by_cases hc0 : c = 0
                          · have hm0 : l.length = 0 := by omega
                            have hn0 : L.l.length = 0 := by omega
                            have : news = [] := List.eq_nil_of_length_eq_zero (by rw [hnl, hm0]; simp)
                            subst this
                            refine ⟨w, by simp [storeCells], ?_⟩
                            simp only [List.length_nil, Nat.add_zero, List.nil_append, List.take_append_drop, Array.toArray_toList]
                            exact (setRow_self w (ι q) arr _ fz2 hmem).symm
                          · have := hpl hc0; subst this
                            have hst := run_storeCells_fz κ.P (ι q) (L.l.length * i.size) ty2 fz2 news 0 arr w hmem (fun j hj => hf2 j (.inl hj)) (by omega) hone
                            have hadd : (⟨ι q, 0 * L.e.size, none⟩ : Addr).add (L.l.length * i.size) = ⟨ι q, L.l.length * i.size, none⟩ := by unfold Addr.add; split <;> simp_all
                            simp only [Nat.add_zero, List.append_assoc] at hst
                            rw [hadd]
                            exact ⟨_, hst, rfl⟩
                        obtain ⟨w', hst, rfl⟩ := hstore
                        simp only [hst, Result.andThen_ok] at hrun
                        have hns : (arr.toList.take (L.l.length * i.size) ++ (news ++ arr.toList.drop (L.l.length * i.size + news.length))).toArray.size = arr.size := by simp; omega
                        have hnew := setRow_heap w (ι q) arr (arr.toList.take (L.l.length * i.size) ++ (news ++ arr.toList.drop (L.l.length * i.size + news.length))).toArray ty2 fz2 hmem
                        have hnn : ¬ (nl = true ∧ L.l ++ l = []) := fun e => hn ⟨e.1, (List.append_eq_nil_iff.1 e.2).1⟩
                        refine ⟨_, _, ι, hrun, To.turn h q hlv ⟨g + 1, .nrow ty2 fz nl ⟨L.e, L.l ++ l⟩⟩ rfl rfl rfl (by simp) (fun j hj => setRow_other w (ι q) j _ hj) (by simp [hg]) (fun p hp hf => ?_) (fun _ _ _ _ e => by cases e) ?_ (fun _ _ _ _ _ e => by simp [hg] at e) (hsh := Shape.of hmem hnew hns), ?_⟩
                        · rw [hk] at hf
                          cases fz with
                          | false => simp [OK.fzAt] at hf
                          | true =>
                            have hf' : p.off < L.l.length * L.e.size := by simpa [OK.fzAt] using hf
                            refine ⟨by simp [OK.fzAt, Nat.add_mul]; omega, ?_⟩
                            have hpo : p.off < L.l.length * i.size := by rw [← hLi]; exact hf'
                            have hva : (arr.toList.take (L.l.length * i.size) ++ (news ++ arr.toList.drop (L.l.length * i.size + news.length))).toArray[p.off]? = arr[p.off]? := by
                              simp only [List.getElem?_toArray]
                              rw [List.getElem?_append_left (by simp; omega), List.getElem?_take, if_pos hpo]
                              simp
                            simp only [World.cell?, hp, hnew, hmem, hva]
                        · intro T' ι' H
                          refine .inr ⟨_, fz2, c, hnew, fun j hj => hf2 j (by rw [hns] at hj; exact hj), by rw [hns]; exact has, by simp only; rw [hLi]; exact h0, by rw [hns, hcat, List.length_append, hcl, flat_length, hLi]; exact hfit, ?_⟩
                          intro j d' u hd hu
                          rw [hcat] at hd
                          simp only at hu
                          rw [List.getElem?_append] at hd hu
                          have e1 : (arr.toList.take (L.l.length * i.size)).length = L.l.length * i.size := by simp; omega
                          rw [e1] at hu
                          rw [hcl, hLi] at hd
                          by_cases h1 : j < L.l.length * i.size
                          · rw [if_pos h1] at hd
                            rw [if_pos h1, List.getElem?_take, if_pos h1] at hu
                            exact (hc2 j d' u hd hu).mono H
                          · rw [if_neg h1] at hd hu
                            have h2 : j - L.l.length * i.size < news.length := by rw [← hnews.1]; exact (List.getElem?_eq_some_iff.1 hd).1
                            rw [List.getElem?_append_left h2] at hu
                            exact (hnews.2 _ d' u hd hu).mono H
                        · refine .acc ⟨_, _, _, rfl⟩ (by simp [wrT, Tab.get_put]) fun ty' fz' nl' L' e => ?_
                          simp [wrT, Tab.get_put] at e
                          obtain ⟨rfl, rfl, rfl, rfl⟩ := e
                          exact .inr ⟨hnn, ad, c, c, _, ty2, fz2, by simp, hbk, hnew, by rw [hns]; exact has, by simp; omega, by omega, hpl⟩
                      · have hrun := (gen (some ad) L.l.length c).2 z olds.toArray hroom hzz hb0 hb (fun w' hw' => by rw [hofirst _ w' (Nat.le_refl _) hw', ← hol, List.take_length])
                        have hnn : ¬ (nl = true ∧ L.l ++ l = []) := fun e => hn ⟨e.1, (List.append_eq_nil_iff.1 e.2).1⟩
                        obtain ⟨hto, hv⟩ := grow_nrow h (s := q) (et := ty2) (n := L.l.length) (m := l.length) (i := i) (z := z) c fz nl olds news ⟨L.e, L.l ++ l⟩ hLi hnn (by simp) hsz h0 hol hnl (by rw [hcat]; exact holds.append hnews)
                        rw [hg] at hto hv
                        exact ⟨_, _, _, hrun, hto, hv⟩
                  · cases hx
                · cases hx
              · cases hx
            · cases hx
          · cases hx
        · split at hx
          · rename_i L hxL
            split at hx
            · rename_i hLi
              split at hx
              · rename_i hb
                simp at hx
                obtain ⟨rfl, rfl⟩ := hx
                exact fresh hs.snil_ hxL hLi hb
              · cases hx
            · cases hx
          · cases hx
        · split at hx
          · rename_i L hxL
            split at hx
            · rename_i hLi
              split at hx
              · rename_i hb
                simp at hx
                obtain ⟨rfl, rfl⟩ := hx
                obtain ⟨p, hp⟩ := hs.sz_
                exact fresh hp hxL hLi hb
              · cases hx
            · cases hx
          · cases hx
        · cases hx
      · cases hx
    · cases hx
  · cases hx
end
/-- Some elements in the place of others. -/
def putL {α : Type} (l mid : List α) (p : Nat) : List α := l.take p ++ (mid ++ l.drop (p + mid.length))
theorem putL_length {α : Type} {l mid : List α} {p : Nat} (h : p + mid.length ≤ l.length) : (putL l mid p).length = l.length := by simp [putL]; omega
theorem set_putL {α : Type} : ∀ (l : List α) (i : Nat) (x : α), i < l.length → l.set i x = putL l [x] i
  | [], i, x, h => by simp at h
  | y :: r, 0, x, h => by simp [putL]
  | y :: r, i + 1, x, h => by
    have := set_putL r i x (by simpa using h)
    simp only [putL, List.length_singleton] at this ⊢
    simp only [List.set_cons_succ, this, List.take_succ_cons, List.cons_append]
    rw [show i + 1 + 1 = (i + 1) + 1 from rfl, List.drop_succ_cons]
theorem putL_get {α : Type} {l mid : List α} {p i : Nat} (h : p + mid.length ≤ l.length) : (putL l mid p)[i]? = if i < p then l[i]? else if i < p + mid.length then mid[i - p]? else l[i]? := by
  unfold putL
  by_cases h1 : i < p
  · rw [if_pos h1, List.getElem?_append_left (by simp; omega), List.getElem?_take, if_pos h1]
  · rw [if_neg h1, List.getElem?_append_right (by simp; omega)]
    have e : (l.take p).length = p := by simp; omega
    rw [e]
    by_cases h2 : i < p + mid.length
    · rw [if_pos h2, List.getElem?_append_left (by omega)]
    · rw [if_neg h2, List.getElem?_append_right (by omega), List.getElem?_drop]
      rw [show p + mid.length + (i - p - mid.length) = i from by omega]
theorem flat_putL {e : Ty} (l mid : List e.I) (p : Nat) (h : p + mid.length ≤ l.length) : (putL l mid p).flatMap (cellsV e) = putL (l.flatMap (cellsV e)) (mid.flatMap (cellsV e)) (p * e.size) := by
  unfold putL
  rw [List.flatMap_append, List.flatMap_append, flat_take, flat_drop, flat_length, Nat.add_mul]
theorem row_putL {R : V → Value → Prop} {e : Ty} {l mid : List e.I} {p : Nat} {arr news : List Value} (hp : p + mid.length ≤ l.length)
    (hc : ∀ (j : Nat) (d : V) (u : Value), (l.flatMap (cellsV e))[j]? = some d → arr[j]? = some u → R d u) (hn : LR R (mid.flatMap (cellsV e)) news) (hle : l.length * e.size ≤ arr.length) :
    ∀ (j : Nat) (d : V) (u : Value), ((putL l mid p).flatMap (cellsV e))[j]? = some d → (putL arr news (p * e.size))[j]? = some u → R d u := by
  intro j d u hd hu
  have hnl : news.length = mid.length * e.size := by rw [← hn.1, flat_length]
  have h1 : p * e.size + mid.length * e.size ≤ l.length * e.size := by rw [← Nat.add_mul]; exact Nat.mul_le_mul_right _ hp
  rw [flat_putL l mid p hp, putL_get (by rw [flat_length, flat_length]; exact h1), flat_length] at hd
  rw [putL_get (by omega), hnl] at hu
  split at hd
  · rename_i hj; rw [if_pos hj] at hu; exact hc j d u hd hu
  · rename_i hj
    rw [if_neg hj] at hu
    split at hd
    · rename_i hj2; rw [if_pos hj2] at hu; exact hn.2 _ d u hd hu
    · rename_i hj2; rw [if_neg hj2] at hu; exact hc j d u hd hu

section
variable {κ : Cx} {ι : Nat → Nat} {st : St} {a : Act} {w : World}

/-- A row turns in place: some of its elements. -/
theorem To.putRow (h : RelI κ ι st a w) {s g ty : Nat} {nl : Bool} {L : TL} (hT : st.o.get s = ⟨g, .nrow ty false nl L⟩) (hn : ¬ (nl = true ∧ L.l = [])) {arr : Array Value} {ty' : Nat} {fz : Nat × Nat}
    (hh : w.heap[ι s]? = some (.cells arr ty' fz)) (mid : List L.e.I) (p : Nat) (hp : p + mid.length ≤ L.l.length) {news : List Value}
    (hnews : LR (Rv st.o ι (Stable κ.D st.o ι w) w) (mid.flatMap (cellsV L.e)) news) {A : Array Value} (hA : A.toList = putL arr.toList news (p * L.e.size)) :
    To κ st.o ι w (st.o.put s ⟨g, .nrow ty false nl ⟨L.e, putL L.l mid p⟩⟩) ι (w.setRow (ι s) A) := by
  have hk : (st.o.get s).k = .nrow ty false nl L := by rw [hT]
  have hl : st.o.live s := by simp only [Tab.live, hk, OK.live]; exact hn
  have hob := h.tr.ob s
  rw [hk] at hob
  obtain ⟨arr2, fz2, cap, b1, b2, b3, b4, b5, b6⟩ := hob.resolve_left hn
  rw [hh] at b1
  injection b1 with b1; injection b1 with e1 e2 e3; subst e1 e2 e3
  have hnl : news.length = mid.length * L.e.size := by rw [← hnews.1, flat_length]
  have hin : p * L.e.size + mid.length * L.e.size ≤ L.l.length * L.e.size := by rw [← Nat.add_mul]; exact Nat.mul_le_mul_right _ hp
  have hcl := L.cells_length
  have hAs : A.size = arr.size := by
    have : A.toList.length = arr.toList.length := by rw [hA, putL_length (by simp; omega)]
    simpa using this
  have hnew := setRow_heap w (ι s) arr A ty' fz hh
  have hns : (putL L.l mid p).length = L.l.length := putL_length hp
  refine To.turn (w' := w.setRow (ι s) A) h s hl ⟨g, .nrow _ false nl ⟨L.e, putL L.l mid p⟩⟩ rfl rfl rfl (by simp) (fun j hj => setRow_other w (ι s) j _ hj) (by rw [hT]; exact Nat.le_refl _)
    (fun q _ hf => by rw [hk] at hf; exact hf.elim) (fun _ _ _ _ e => by cases e) (fun T' ι' H => ?_) (fun ty2 fz2 nl2 L2 e _ => ?_) (hsh := Shape.of hh hnew hAs)
  · refine .inr ⟨A, fz, cap, hnew, fun j hj => b2 j (by rw [hAs] at hj; exact hj), by rw [hAs]; exact b3, b4, ?_, fun j d u hd hu => ?_⟩
    · rw [TL.cells_length]; show (putL L.l mid p).length * L.e.size ≤ A.size; rw [hns, hAs, ← hcl]; exact b5
    · rw [hA] at hu
      exact row_putL (R := Rv T' ι' (Stable κ.D T' ι' (w.setRow (ι s) A)) (w.setRow (ι s) A)) hp (fun j d u hd hu => (b6 j d u hd hu).mono H) (hnews.mono fun d u hd => hd.mono H) (by simp; omega) j d u hd hu
  · injection e with q1 q2 q3 q4
    subst q1 q2 q3 q4
    exact ⟨⟨_, _, _, _, hk, rfl, hns.symm, rfl⟩, fun _ arr1 ty1 fz1 h1 => by rw [hh] at h1; injection h1 with h1; injection h1 with e1 e2 e3; subst e1; exact ⟨_, _, _, hnew, hAs⟩⟩
end
section
variable {κ : Cx} {ι : Nat → Nat} {st : St} {a : Act} {w : World}

/-! A store into a row. -/
def nStore (P : Program) (T : Tab) (t : Nat) (x v : V) : Option (Option (Nat × Ob)) :=
  match x with
  | .eptr s g sz i off => match P.info? t with
    | some inf => if v.isU = false ∧ (T.get s).gen = g ∧ v.cells.length = inf.size ∧ v.cells.all V.cellOk = true then
        match (T.get s).k with
        | .nrow ty false nl L => if off + inf.size ≤ L.e.size then
            match impC L.e (splice (cellsW L.e (L.l.getD i L.e.dflt)) off v.cells) with
            | some (y, []) => some (some (s, ⟨g, .nrow ty false nl ⟨L.e, putL L.l [y] i⟩⟩))
            | _ => none
            else none
        | _ => none
      else none
    | none => none
  | _ => none
theorem putL_store {α : Type} (l vs : List α) (o off n : Nat) (h : off + vs.length ≤ n) (hn : o + n ≤ l.length) : putL l (putL ((l.drop o).take n) vs off) o = l.take (o + off) ++ (vs ++ l.drop (o + off + vs.length)) := by
  have e1 : ((l.drop o).take n).length = n := by simp; omega
  have e2 : (putL ((l.drop o).take n) vs off).length = n := by rw [putL_length (by omega), e1]
  apply List.ext_getElem?
  intro i
  rw [putL_get (by rw [e2]; omega), e2]
  have r : (l.take (o + off) ++ (vs ++ l.drop (o + off + vs.length)))[i]? = if i < o + off then l[i]? else if i < o + off + vs.length then vs[i - (o + off)]? else l[i]? := putL_get (by omega)
  rw [r]
  by_cases h1 : i < o
  · rw [if_pos h1, if_pos (show i < o + off by omega)]
  · rw [if_neg h1]
    by_cases h2 : i < o + n
    · rw [if_pos h2, putL_get (by omega)]
      have e3 : ((l.drop o).take n)[i - o]? = l[i]? := by
        rw [List.getElem?_take, if_pos (show i - o < n by omega), List.getElem?_drop, show o + (i - o) = i from by omega]
      rw [e3]
      by_cases h3 : i - o < off
      · rw [if_pos h3, if_pos (show i < o + off by omega)]
      · rw [if_neg h3, if_neg (show ¬ i < o + off by omega)]
        by_cases h4 : i - o < off + vs.length
        · rw [if_pos h4, if_pos (show i < o + off + vs.length by omega), show i - o - off = i - (o + off) from by omega]
        · rw [if_neg h4, if_neg (show ¬ i < o + off + vs.length by omega)]
    · rw [if_neg h2, if_neg (show ¬ i < o + off by omega), if_neg (show ¬ i < o + off + vs.length by omega)]
theorem nStore_ok (h : RelI κ ι st a w) {t : Nat} {x v : V} {cx cv : Value} {wr : Option (Nat × Ob)} (hrx : Rv st.o ι (Stable κ.D st.o ι w) w x cx)
    (hrv : Rv st.o ι (Stable κ.D st.o ι w) w v cv) (hx : nStore κ.P st.o t x v = some wr) : UnitOk κ ι st.o w (Instr.storeAt t cx cv) wr := by
  unfold nStore at hx
  split at hx
  case h_2 => cases hx
  rename_i s g sz i off
  split at hx
  case h_2 => cases hx
  rename_i inf hi
  split at hx
  case isFalse => cases hx
  rename_i hc
  obtain ⟨hne, hg, hlen, hall⟩ := hc
  split at hx
  case h_2 => cases hx
  rename_i ty nl L hk
  split at hx
  case isFalse => cases hx
  rename_i hoff
  split at hx
  case h_2 => cases hx
  rename_i y hy
  injection hx with hx; subst hx
  have hT : st.o.get s = ⟨g, .nrow ty false nl L⟩ := by cases hq : st.o.get s; rw [hq] at hk hg; simp at hk hg; subst hk hg; rfl
  obtain ⟨hsz, hil, hcx⟩ := hrx.eptr_ hT
  subst hsz hcx
  have hn : ¬ (nl = true ∧ L.l = []) := fun e => by rw [e.2] at hil; simp at hil
  have hlr := cells_lr (V.isU_ne hne) hrv
  have hsz : cv.cells.size = inf.size := by rw [← hlen]; simpa using hlr.1.symm
  have hszl : cv.cells.toList.length = inf.size := by simpa using hsz
  have hone : ∀ u ∈ cv.cells.toList, u.oneCell' = true := by
    intro u hu
    obtain ⟨j, hj⟩ := List.mem_iff_getElem?.1 hu
    have hjl : j < v.cells.length := by rw [hlr.1]; exact (List.getElem?_eq_some_iff.1 hj).1
    exact cell_one (List.all_eq_true.1 hall _ (List.getElem_mem hjl)) (hlr.2 j _ u (List.getElem?_eq_getElem hjl) hj)
  have hob := h.tr.ob s
  rw [hk] at hob
  obtain ⟨arr, fz, cap, b1, b2, b3, b4, b5, b6⟩ := hob.resolve_left hn
  have hcl := L.cells_length
  have hend : i * L.e.size + L.e.size ≤ L.l.length * L.e.size := by rw [← Nat.succ_mul]; exact Nat.mul_le_mul_right _ hil
  have hst := run_storeCells_fz κ.P (ι s) (i * L.e.size + off) ty fz cv.cells.toList 0 arr w b1 (fun j hj => b2 j (.inl hj)) (by simp [hsz]; omega) hone
  simp only [Nat.add_zero, List.append_assoc] at hst
  have hrun : (Instr.storeAt t (.pointer (some ⟨ι s, i * L.e.size + off, none⟩)) cv).run κ.P w = .ok () (w.setRow (ι s) (arr.toList.take (i * L.e.size + off) ++ (cv.cells.toList ++ arr.toList.drop (i * L.e.size + off + cv.cells.toList.length))).toArray) := by
    simp only [Instr.storeAt, Instr.sureAddr, storeVar, Sem.run_bind, Sem.run_pure, Result.andThen_ok, run_size hi, hsz, ne_eq, not_true_eq_false, if_false, hst]
  -- the element's cells
  let us := (arr.toList.drop (i * L.e.size)).take L.e.size
  have husl : us.length = L.e.size := by simp [us]; omega
  have helem : LR (Rv st.o ι (Stable κ.D st.o ι w) w) (cellsV L.e (L.l.getD i L.e.dflt)) us := by
    rw [← flat_get L.e L.l i hil]
    refine ⟨by rw [husl, List.length_take, List.length_drop, flat_length]; omega, fun j d u hd hu => ?_⟩
    rw [List.getElem?_take, List.getElem?_drop] at hd hu
    split at hd
    · rename_i hj; rw [if_pos hj] at hu; exact b6 _ d u hd hu
    · cases hd
  have helemW : LR (Rv st.o ι (Stable κ.D st.o ι w) w) (cellsW L.e (L.l.getD i L.e.dflt)) us :=
    (cellsW_rp _ _ _ (lr_pure (fun d hd => pure_cellsV _ _ d hd) helem)).mono fun d u hd => .pure hd
  have hspl := LR.splice helemW hlr off
  have hnew := impC_rv L.e _ [] y _ hy hspl
  rw [List.append_nil] at hnew
  have hpe : us.take off ++ (cv.cells.toList ++ us.drop (off + cv.cells.toList.length)) = putL us cv.cells.toList off := rfl
  rw [hpe] at hnew
  have hput := putL_store arr.toList cv.cells.toList (i * L.e.size) off L.e.size (by omega) (by simp; omega)
  refine ⟨_, ι, hrun, To.putRow h hT hn b1 [y] i (by simp; omega) (news := putL us cv.cells.toList off) (by simpa using hnew) ?_⟩
  rw [List.toList_toArray]
  exact hput.symm

end
end Go.Abs
