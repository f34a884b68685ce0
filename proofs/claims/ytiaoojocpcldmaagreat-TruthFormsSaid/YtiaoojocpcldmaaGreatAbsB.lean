/- The abstract machine's states, and the steps that turn one site. -/
import Derived.Test.YtiaoojocpcldmaaGreatAbsA
namespace Go.Abs
open Go.RowKit
set_option linter.unusedVariables false
set_option linter.unusedSimpArgs false

structure St where
  n : Nat
  t : List (Nat × V)
  o : Tab
  g : List V := []

/-- What a call began with: the program, memory, the blocks that it may write, the cells that it may know of. -/
structure Cx where
  P : Program
  w0 : World
  X : Nat → Prop
  S0 : Addr → Prop
  pin : Nat → Option Nat
  hpin : ∀ t b, pin t = some b → 1000000 ≤ t
  gv : List Value
def Cx.D (κ : Cx) (p : Addr) : Prop := κ.S0 p ∨ κ.w0.heap.size ≤ p.block ∨ κ.X p.block

def ofCell : Value → Option V
  | .bool b => some (.bool b)
  | .int k n => some (.int k n)
  | .string s => some (.str s.data.toList)
  | .pointer none => some .pnil
  | .slice none 0 0 => some .snil
  | .nilIface => some .inil
  | .nilFunc => some .fnil
  | _ => none
def ofCells : List Value → Option (List V)
  | [] => some []
  | v :: r => match ofCell v, ofCells r with
    | some x, some xs => some (x :: xs)
    | _, _ => none
def ofVal : Value → Option V
  | .agg cs => (ofCells cs.toList).map .agg
  | v => ofCell v

def St.get (st : St) (t : Nat) : V := aget .undef st.t t
def St.eval (st : St) : Operand → V
  | .tmp t => st.get t
  | .const v => (ofVal v).getD .undef
  | .global _ => .undef
  | .func f => .fn f []

theorem ofCell_rp {S : Addr → Prop} {w : World} {v : Value} {d : V} (h : ofCell v = some d) : Rp S w d v := by
  unfold ofCell at h
  split at h <;> first
    | (injection h with h; subst h; first | exact .bool _ | exact .int _ _ | exact .str _ _ rfl | exact .pnil | exact .snil | exact .inil | exact .fnil)
    | cases h
theorem ofCells_rp {S : Addr → Prop} {w : World} : ∀ {vs : List Value} {ds : List V}, ofCells vs = some ds →
    ds.length = vs.length ∧ ∀ (i : Nat) (d : V) (u : Value), ds[i]? = some d → vs[i]? = some u → Rp S w d u
  | [], ds, h => by simp [ofCells] at h; subst h; simp
  | v :: r, ds, h => by
    simp only [ofCells] at h
    split at h
    · rename_i x xs hx hxs
      injection h with h; subst h
      obtain ⟨hl, hr⟩ := ofCells_rp (S := S) (w := w) hxs
      refine ⟨by simp [hl], fun i d u hd hu => ?_⟩
      cases i with
      | zero => simp at hd hu; subst hd hu; exact ofCell_rp hx
      | succ i => simp at hd hu; exact hr i d u hd hu
    · cases h
theorem ofVal_rp {S : Addr → Prop} {w : World} {v : Value} {d : V} (h : ofVal v = some d) : Rp S w d v := by
  unfold ofVal at h
  split at h
  · rename_i cs
    cases hc : ofCells cs.toList with
    | none => simp [hc] at h
    | some ds =>
      simp [hc] at h; subst h
      obtain ⟨hl, hr⟩ := ofCells_rp (S := S) (w := w) hc
      obtain ⟨l⟩ := cs
      exact .agg hl hr
  · exact ofCell_rp h

/-- Lists that stand to one another. -/
def LR (R : V → Value → Prop) (cs : List V) (vs : List Value) : Prop := cs.length = vs.length ∧ ∀ (i : Nat) (d : V) (u : Value), cs[i]? = some d → vs[i]? = some u → R d u
theorem LR.nil {R : V → Value → Prop} : LR R [] [] := ⟨rfl, by simp⟩
theorem LR.cons {R : V → Value → Prop} {d : V} {u : Value} {cs : List V} {vs : List Value} (h : R d u) (hr : LR R cs vs) : LR R (d :: cs) (u :: vs) :=
  ⟨by simp [hr.1], fun i x y hx hy => by
    cases i with
    | zero => simp at hx hy; subst hx hy; exact h
    | succ i => simp at hx hy; exact hr.2 i x y hx hy⟩
theorem LR.append {R : V → Value → Prop} {cs cs' : List V} {vs vs' : List Value} (h : LR R cs vs) (h' : LR R cs' vs') : LR R (cs ++ cs') (vs ++ vs') :=
  ⟨by simp [h.1, h'.1], fun i x y hx hy => by
    rw [List.getElem?_append] at hx hy
    rw [h.1] at hx
    split at hx
    · rename_i hi; rw [if_pos hi] at hy; exact h.2 i x y hx hy
    · rename_i hi; rw [if_neg hi] at hy; exact h'.2 _ x y hx hy⟩
theorem LR.take {R : V → Value → Prop} {cs : List V} {vs : List Value} (h : LR R cs vs) (n : Nat) : LR R (cs.take n) (vs.take n) :=
  ⟨by simp [h.1], fun i x y hx hy => by
    rw [List.getElem?_take] at hx hy
    split at hx
    · rename_i hi; rw [if_pos hi] at hy; exact h.2 i x y hx hy
    · cases hx⟩
theorem LR.drop {R : V → Value → Prop} {cs : List V} {vs : List Value} (h : LR R cs vs) (n : Nat) : LR R (cs.drop n) (vs.drop n) :=
  ⟨by simp [h.1], fun i x y hx hy => by
    rw [List.getElem?_drop] at hx hy
    exact h.2 _ x y hx hy⟩
theorem LR.mono {R R' : V → Value → Prop} {cs : List V} {vs : List Value} (h : LR R cs vs) (hr : ∀ d u, R d u → R' d u) : LR R' cs vs :=
  ⟨h.1, fun i d u hd hu => hr _ _ (h.2 i d u hd hu)⟩
theorem LR.head {R : V → Value → Prop} {d : V} {cs : List V} {vs : List Value} (h : LR R (d :: cs) vs) : ∃ u vs', vs = u :: vs' ∧ R d u ∧ LR R cs vs' := by
  cases vs with
  | nil => have := h.1; simp at this
  | cons u vs' => exact ⟨u, vs', rfl, h.2 0 d u rfl rfl, by have := h.1; simpa using this, fun i x y hx hy => h.2 (i + 1) x y (by simpa using hx) (by simpa using hy)⟩
theorem LR.map {R : V → Value → Prop} {α : Type} (f : α → V) (g : α → Value) : ∀ l : List α, (∀ x ∈ l, R (f x) (g x)) → LR R (l.map f) (l.map g)
  | [], _ => .nil
  | x :: r, h => .cons (h x (by simp)) (LR.map f g r fun y hy => h y (by simp [hy]))
theorem LR.get {R : V → Value → Prop} {cs : List V} {vs : List Value} (h : LR R cs vs) {i : Nat} {d : V} (hd : cs[i]? = some d) : ∃ u, vs[i]? = some u ∧ R d u := by
  have hi : i < vs.length := by rw [← h.1]; exact (List.getElem?_eq_some_iff.1 hd).1
  exact ⟨vs[i], List.getElem?_eq_getElem hi, h.2 i d _ hd (List.getElem?_eq_getElem hi)⟩

structure RelI (κ : Cx) (ι : Nat → Nat) (st : St) (a : Act) (w : World) : Prop where
  dfr : a.defers = []
  sz : a.tmps.size = st.n
  tm : ∀ t, Rv st.o ι (Stable κ.D st.o ι w) w (st.get t) (a.tmps.getD t undef)
  tr : TR κ.D st.o ι w
  my : ∀ t, st.o.live t → κ.w0.heap.size ≤ ι t ∨ κ.X (ι t)
  kept : Kept κ.X κ.w0 w
  pin : ∀ t b, κ.pin t = some b → (st.o.get t).gen = 0 → st.o.live t → ι t = b
  gh : LR (Rv st.o ι (Stable κ.D st.o ι w) w) st.g κ.gv
def Rel (κ : Cx) (st : St) (a : Act) (w : World) : Prop := ∃ ι, RelI κ ι st a w

theorem RelI.eval {κ : Cx} {ι : Nat → Nat} {st : St} {a : Act} {w : World} (h : RelI κ ι st a w) (x : Operand) :
    Rv st.o ι (Stable κ.D st.o ι w) w (st.eval x) (a.eval x) := by
  cases x with
  | tmp t => exact h.tm t
  | const v =>
    simp only [St.eval, Act.eval]
    cases hv : ofVal v with
    | none => exact .undef v
    | some d => exact .pure (ofVal_rp hv)
  | global g => exact .undef _
  | func f => exact .pure (.fn (cs := []) (vs := []) rfl (by simp))

/-- What one step does to the machine's objects and to memory. -/
structure To (κ : Cx) (T : Tab) (ι : Nat → Nat) (w : World) (T' : Tab) (ι' : Nat → Nat) (w' : World) : Prop where
  goes : Goes κ.D T ι w T' ι' w'
  tr : TR κ.D T' ι' w'
  my : ∀ t, T'.live t → κ.w0.heap.size ≤ ι' t ∨ κ.X (ι' t)
  kept : Kept κ.X κ.w0 w'

theorem To.refl {κ : Cx} {ι : Nat → Nat} {st : St} {a : Act} {w : World} (h : RelI κ ι st a w) : To κ st.o ι w st.o ι w :=
  ⟨Goes.refl _ _ _ _, h.tr, h.my, h.kept⟩

def St.set (st : St) (dst : Option Nat) (v : V) : Option St :=
  match dst with
  | none => some st
  | some d => if d < st.n then some { st with t := aput d v st.t } else none

theorem RelI.set {κ : Cx} {ι ι' : Nat → Nat} {st st' : St} {T' : Tab} {a : Act} {w w' : World} (h : RelI κ ι st a w) (ht : To κ st.o ι w T' ι' w')
    {dst : Option Nat} {v : V} {cv : Value} (hs : { st with o := T' }.set dst v = some st') (hv : Rv T' ι' (Stable κ.D T' ι' w') w' v cv) : RelI κ ι' st' (a.put dst cv) w' := by
  have htm : ∀ t, Rv T' ι' (Stable κ.D T' ι' w') w' (st.get t) (a.tmps.getD t undef) := fun t => (h.tm t).mono ht.goes
  have hpin : ∀ t b, κ.pin t = some b → (T'.get t).gen = 0 → T'.live t → ι' t = b := fun t b hp hg hl => by
    have h1 := ht.goes.gen t
    have h2 := ht.goes.same t hl (by omega)
    rw [h2.2]
    exact h.pin t b hp (by omega) h2.1
  cases dst with
  | none =>
    simp [St.set] at hs; subst hs
    exact ⟨h.dfr, h.sz, htm, ht.tr, ht.my, ht.kept, hpin, h.gh.mono fun d u hd => hd.mono ht.goes⟩
  | some d =>
    simp only [St.set] at hs
    split at hs
    · rename_i hd
      injection hs with hs; subst hs
      refine ⟨h.dfr, by simp [Act.put, h.sz], fun t => ?_, ht.tr, ht.my, ht.kept, hpin, h.gh.mono fun d u hd => hd.mono ht.goes⟩
      simp only [St.get, aget_aput, Act.put]
      by_cases hdt : d = t
      · subst hdt
        have : (a.tmps.setIfInBounds d cv).getD d undef = cv := by
          have hd' : d < a.tmps.size := by rw [h.sz]; exact hd
          simp [Array.getElem?_setIfInBounds_self_of_lt hd']
        rw [this]; simpa using hv
      · have : (a.tmps.setIfInBounds d cv).getD t undef = a.tmps.getD t undef := by simp [Array.getElem?_setIfInBounds_ne hdt]
        rw [this, if_neg hdt]; exact htm t
    · cases hs

/-- A new object at a site: a new block. -/
theorem To.new {κ : Cx} {ι : Nat → Nat} {st : St} {a : Act} {w w1 : World} (h : RelI κ ι st a w) (hw1 : w1.heap = w.heap) (ho : w1.os = w.os) (ht : w1.tape = w.tape) (hout : w1.output = w.output)
    (s : Nat) (ob : Obj) (k : OK)
    (hob : ∀ T' ι' w', Goes κ.D st.o ι w T' ι' w' → w'.heap[w.heap.size]? = some ob → ObRel T' ι' (Stable κ.D T' ι' w') w' w.heap.size k) :
    To κ st.o ι w (st.o.put s ⟨(st.o.get s).gen + 1, k⟩) (fun t => if s = t then w.heap.size else ι t) (w1.alloc ob) := by
  have hsz : (w1.alloc ob).heap.size = w.heap.size + 1 := by simp [hw1]
  have hk : ∀ i, i ≠ w.heap.size → i < w.heap.size → (w1.alloc ob).heap[i]? = w.heap[i]? := fun i _ hi => by
    rw [heap_alloc_old w1 ob i (by rw [hw1]; exact hi), hw1]
  have hnew : (w1.alloc ob).heap[w.heap.size]? = some ob := by have := heap_alloc_new w1 ob; rw [hw1] at this; exact this
  have H := Goes.site h.tr s w.heap.size ⟨(st.o.get s).gen + 1, k⟩ (w' := w1.alloc ob) (.inr (Nat.le_refl _)) (by omega) hk (Nat.le_succ _) (fun e _ => absurd e (Nat.succ_ne_self _)) (fun e hl => absurd (h.tr.lt s hl) (by omega)) (fun _ _ _ _ _ e => absurd e (Nat.succ_ne_self _)) (fun _ _ _ _ _ e => absurd e (Nat.succ_ne_self _))
  refine ⟨H, TR.site h.tr s w.heap.size _ (.inr (Nat.le_refl _)) (by omega) (by omega) hk H (hob _ _ _ H hnew), fun t hl => ?_, ?_⟩
  · simp only [Tab.live, Tab.get_put] at hl
    by_cases hst : s = t
    · simp only [if_pos hst]; exact .inl h.kept.size
    · rw [if_neg hst] at hl; simp only [if_neg hst]; exact h.my t hl
  · exact h.kept.trans ⟨ho, ht, hout, by omega, fun i hi _ => hk i (by omega) hi, fun i hi => .same (hk i (by omega) hi)⟩

/-- A live object turns in its own block; its kind stays, its row's cells stay as many in memory. -/
theorem To.turn {κ : Cx} {ι : Nat → Nat} {st : St} {a : Act} {w w' : World} (h : RelI κ ι st a w) (s : Nat) (hs : st.o.live s) (o : Ob)
    (ho : w'.os = w.os) (ht : w'.tape = w.tape) (hout : w'.output = w.output) (hsz : w'.heap.size = w.heap.size) (hk : ∀ i, i ≠ ι s → w'.heap[i]? = w.heap[i]?)
    (hgen : (st.o.get s).gen ≤ o.gen)
    (hfz : ∀ p : Addr, p.block = ι s → (st.o.get s).k.fzAt p.off → o.k.fzAt p.off ∧ w'.cell? p = w.cell? p)
    (hrow : ∀ ty sz fz' cs', o.k = .row ty sz fz' cs' → o.gen = (st.o.get s).gen → (∃ ty' fz cs, (st.o.get s).k = .row ty' sz fz cs) ∧
      ∀ arr ty1 fz, w.heap[ι s]? = some (.cells arr ty1 fz) → ∃ arr' ty2 fz', w'.heap[ι s]? = some (.cells arr' ty2 fz') ∧ arr'.size = arr.size)
    (hob : ∀ T' ι', Goes κ.D st.o ι w T' ι' w' → ObRel T' ι' (Stable κ.D T' ι' w') w' (ι s) o.k)
    (hnrow : ∀ ty fz nl L, o.k = .nrow ty fz nl L → o.gen = (st.o.get s).gen → (∃ ty0 fz0 nl0 L0, (st.o.get s).k = .nrow ty0 fz0 nl0 L0 ∧ L0.e = L.e ∧ L0.l.length = L.l.length ∧ nl0 = nl) ∧ (¬ (nl = true ∧ L.l = []) →
      ∀ arr ty1 fz, w.heap[ι s]? = some (.cells arr ty1 fz) → ∃ arr' ty2 fz', w'.heap[ι s]? = some (.cells arr' ty2 fz') ∧ arr'.size = arr.size) := by intro _ _ _ _ e; cases e)
    (hsh : Shape w w' (ι s)) : To κ st.o ι w (st.o.put s o) ι w' := by
  have hι : (fun t => if s = t then ι s else ι t) = ι := by funext t; by_cases e : s = t <;> simp [e]
  have H := Goes.site h.tr s (ι s) o (w' := w') (.inl ⟨hs, rfl⟩) (by omega) (fun i hi _ => hk i hi) hgen (fun _ _ => ⟨hs, rfl⟩) (fun _ _ => hfz) hrow hnrow
  have htr := TR.site h.tr s (ι s) o (w' := w') (.inl ⟨hs, rfl⟩) (by omega) (by have := h.tr.lt s hs; omega) (fun i hi _ => hk i hi) H (hob _ _ H)
  rw [hι] at H htr
  refine ⟨H, htr, fun t hl => ?_, ?_⟩
  · simp only [Tab.live, Tab.get_put] at hl
    by_cases hst : s = t
    · subst hst; exact h.my s hs
    · rw [if_neg hst] at hl; exact h.my t hl
  · refine h.kept.then (Y := fun i => i = ι s) ⟨ho, ht, hout, by omega, fun i _ hi => hk i hi, fun i hi => if e : i = ι s then e ▸ hsh else .same (hk i e)⟩ fun i _ hi => ?_
    subst hi; exact h.my s hs

/-- Nothing turns but what nobody looks at (a draw). -/
theorem To.drew {κ : Cx} {ι : Nat → Nat} {st : St} {a : Act} {w w' : World} (h : RelI κ ι st a w) (ho : w'.os = w.os) (ht : w'.tape = w.tape) (hout : w'.output = w.output)
    (hw : w'.heap = w.heap) : To κ st.o ι w st.o ι w' := by
  have H : Goes κ.D st.o ι w st.o ι w' :=
    ⟨fun p hp => ⟨⟨hp.1, by rw [hw]; exact hp.2.1, hp.2.2⟩, cell_congr (by rw [hw])⟩, fun _ => Nat.le_refl _, fun _ hl _ => ⟨hl, rfl⟩,
      fun t g ty sz fz' cs' hT _ => ⟨⟨ty, fz', cs', hT⟩, fun arr ty1 fz hh => ⟨arr, ty1, fz, by rw [hw]; exact hh, rfl⟩⟩,
      fun t g ty fz nl L hT _ => ⟨⟨ty, fz, nl, L, hT, rfl, rfl, rfl⟩, fun _ arr ty1 fz hh => ⟨arr, ty1, fz, by rw [hw]; exact hh, rfl⟩⟩⟩
  refine ⟨H, ⟨fun t => (h.tr.ob t).mono H (by rw [hw]), h.tr.inj, fun t hl => by rw [hw]; exact h.tr.lt t hl⟩, h.my, h.kept.trans ⟨ho, ht, hout, by rw [hw]; exact Nat.le_refl _, fun i _ _ => by rw [hw], fun i _ => .same (by rw [hw])⟩⟩

/-! What a value's form says of the value in memory. -/
section
variable {T : Tab} {ι : Nat → Nat} {S : Addr → Prop} {w : World} {v : Value}
theorem Rv.int_ {k : IntKind} {n : Int} (h : Rv T ι S w (.int k n) v) : v = .int k n := by cases h with | pure h => cases h; rfl
theorem Rv.bool_ {b : Bool} (h : Rv T ι S w (.bool b) v) : v = .bool b := by cases h with | pure h => cases h; rfl
theorem Rv.str_ {s : List UInt8} (h : Rv T ι S w (.str s) v) : ∃ b : ByteArray, v = .string b ∧ b.data.toList = s := by cases h with | pure h => cases h with | str b s h => exact ⟨b, rfl, h⟩
theorem Rv.snil_ (h : Rv T ι S w .snil v) : v = .slice none 0 0 := by cases h with | pure h => cases h; rfl
theorem Rv.pnil_ (h : Rv T ι S w .pnil v) : v = .pointer none := by cases h with | pure h => cases h; rfl
theorem Rv.inil_ (h : Rv T ι S w .inil v) : v = .nilIface := by cases h with | pure h => cases h; rfl
theorem Rv.fnil_ (h : Rv T ι S w .fnil v) : v = .nilFunc := by cases h with | pure h => cases h; rfl
theorem Rv.agg_ {cs : List V} (h : Rv T ι S w (.agg cs) v) : ∃ vs : List Value, v = .agg ⟨vs⟩ ∧ cs.length = vs.length ∧
    ∀ (i : Nat) (d : V) (u : Value), cs[i]? = some d → vs[i]? = some u → Rv T ι S w d u := by
  cases h with
  | pure h => cases h with | agg hl h => exact ⟨_, rfl, hl, fun i d u hd hu => .pure (h i d u hd hu)⟩
  | agg hl h => exact ⟨_, rfl, hl, h⟩
theorem Rv.tup_ {cs : List V} (h : Rv T ι S w (.tup cs) v) : ∃ vs : List Value, v = .tuple ⟨vs⟩ ∧ cs.length = vs.length ∧
    ∀ (i : Nat) (d : V) (u : Value), cs[i]? = some d → vs[i]? = some u → Rv T ι S w d u := by
  cases h with
  | pure h => cases h with | tup hl h => exact ⟨_, rfl, hl, fun i d u hd hu => .pure (h i d u hd hu)⟩
  | tup hl h => exact ⟨_, rfl, hl, h⟩
theorem Rv.fn_ {f : Nat} {cs : List V} (h : Rv T ι S w (.fn f cs) v) : ∃ vs : List Value, v = .func (.func f) #[] ⟨vs⟩ ∧ cs.length = vs.length ∧
    ∀ (i : Nat) (d : V) (u : Value), cs[i]? = some d → vs[i]? = some u → Rv T ι S w d u := by
  cases h with
  | pure h => cases h with | fn hl h => exact ⟨_, rfl, hl, fun i d u hd hu => .pure (h i d u hd hu)⟩
  | fn hl h => exact ⟨_, rfl, hl, h⟩
theorem Rv.ifc_ {t : Nat} {d : V} (h : Rv T ι S w (.ifc t d) v) : ∃ u, v = .iface t u ∧ Rv T ι S w d u := by
  cases h with
  | pure h => cases h with | ifc h => exact ⟨_, rfl, .pure h⟩
  | ifc h => exact ⟨_, rfl, h⟩
theorem Rv.ptr_ {t g off : Nat} (h : Rv T ι S w (.ptr t g off) v) (hg : (T.get t).gen = g) (hl : T.live t) : v = .pointer (some ⟨ι t, off, none⟩) := by
  cases h with
  | pure h => cases h
  | ptr _ _ h => exact h hg hl
theorem Rv.own_ {t g off n ty sz : Nat} {fz0 : Bool} {cs : List V} (h : Rv T ι S w (.own t g off n) v) (hT : T.get t = ⟨g, .row ty sz fz0 cs⟩) : Own w (ι t) sz off n v := by
  cases h with
  | pure h => cases h
  | own _ _ h => exact h ty sz fz0 cs hT
theorem Rv.cref_ {cs : List V} (h : Rv T ι S w (.cref cs) v) : ∃ (a : Addr) (vs : List Value), v = .pointer (some a) ∧
    (∀ (i : Nat) (u : Value), vs[i]? = some u → S (a.add i) ∧ w.cell? (a.add i) = some u) ∧ cs.length = vs.length ∧
    ∀ (i : Nat) (d : V) (u : Value), cs[i]? = some d → vs[i]? = some u → Rp S w d u := by
  cases h with | pure h => cases h with | cref hm hl h => exact ⟨_, _, rfl, hm, hl, h⟩
theorem Rv.sl_ {n : Nat} {cs : List V} (h : Rv T ι S w (.sl n cs) v) : (n = 0 ∧ cs = [] ∧ v = .slice none 0 0) ∨ ∃ (a : Addr) (c : Nat) (vs : List Value), v = .slice (some a) n c ∧ n ≤ c ∧
    (∀ (i : Nat) (u : Value), vs[i]? = some u → S (a.add i) ∧ w.cell? (a.add i) = some u) ∧ cs.length = vs.length ∧
    ∀ (i : Nat) (d : V) (u : Value), cs[i]? = some d → vs[i]? = some u → Rp S w d u := by
  cases h with | pure h => cases h with | sl hc hm hl h => exact .inr ⟨_, _, _, rfl, hc, hm, hl, h⟩ | slz => exact .inl ⟨rfl, rfl, rfl⟩
end


end Go.Abs
