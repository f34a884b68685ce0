/- Operations on memory: new objects, loads, stores, addresses. -/
import Derived.Test.YtiaoojocpcldmaaGreatAbsB
import Derived.Laws.Entries
import Derived.Laws.CopyRow
namespace Go.Abs
open Go.RowKit
set_option linter.unusedVariables false
set_option linter.unusedSimpArgs false

def wrT (T : Tab) : Option (Nat × Ob) → Tab
  | none => T
  | some (s, o) => T.put s o

/-- A reckoning of the model's gives what the machine says. -/
def SemOk (κ : Cx) (ι : Nat → Nat) (T : Tab) (w : World) (s : Sem Value) (v : V) (wr : Option (Nat × Ob)) : Prop :=
  ∃ cv w' ι', s.run κ.P w = .ok cv w' ∧ To κ T ι w (wrT T wr) ι' w' ∧ Rv (wrT T wr) ι' (Stable κ.D (wrT T wr) ι' w') w' v cv

mutual
/-- Leads to no object of the machine's own. -/
def V.pure : V → Bool
  | .undef | .own _ _ _ _ | .ptr _ _ _ => false
  | .agg cs => pureL cs
  | .tup cs => pureL cs
  | .ifc _ v => v.pure
  | .fn _ cs => pureL cs
  | .acc _ _ | .eptr _ _ _ _ _ | .nwin _ _ _ _ | .mp _ _ => false
  | _ => true
def pureL : List V → Bool
  | [] => true
  | v :: r => v.pure && pureL r
end
theorem pureL_get : ∀ {cs : List V}, pureL cs = true → ∀ (i : Nat) (d : V), cs[i]? = some d → d.pure = true
  | [], _, i, d, h => by simp at h
  | v :: r, hp, i, d, h => by
    simp only [pureL, Bool.and_eq_true] at hp
    cases i with
    | zero => simp at h; subst h; exact hp.1
    | succ i => exact pureL_get hp.2 i d (by simpa using h)

theorem Rv.pure_ {T : Tab} {ι : Nat → Nat} {S : Addr → Prop} {w : World} {v : V} {cv : Value} (h : Rv T ι S w v cv) (hp : v.pure = true) : Rp S w v cv := by
  induction h with
  | pure h => exact h
  | undef v => simp [V.pure] at hp
  | own hv hg h => simp [V.pure] at hp
  | ptr hv hg h => simp [V.pure] at hp
  | acc hv hg h => simp [V.pure] at hp
  | eptr hv hg h => simp [V.pure] at hp
  | nwin hv hg h => simp [V.pure] at hp
  | mp hv hg h => simp [V.pure] at hp
  | agg hl h ih => simp only [V.pure] at hp; exact .agg hl fun i d u hd hu => ih i d u hd hu (pureL_get hp i d hd)
  | tup hl h ih => simp only [V.pure] at hp; exact .tup hl fun i d u hd hu => ih i d u hd hu (pureL_get hp i d hd)
  | ifc h ih => simp only [V.pure] at hp; exact .ifc (ih hp)
  | fn hl h ih => simp only [V.pure] at hp; exact .fn hl fun i d u hd hu => ih i d u hd hu (pureL_get hp i d hd)

/-- Cells as they stand in rows: of one cell each, leading to none of the machine's own. -/
def V.leaf : V → Bool
  | .bool _ | .int _ _ | .str _ | .sl _ _ | .pnil | .inil => true
  | .ifc _ v => v.pure
  | _ => false
theorem V.leaf_pure {d : V} (h : d.leaf = true) : d.pure = true := by
  cases d <;> first | rfl | (simp [V.leaf] at h; done) | (simp only [V.leaf] at h; simp only [V.pure]; exact h)
theorem V.leaf_cellOk {d : V} (h : d.leaf = true) : d.cellOk = true := by
  cases d <;> first | rfl | (simp [V.leaf] at h; done)
theorem pureL_of : ∀ {cs : List V}, (∀ d ∈ cs, d.pure = true) → pureL cs = true
  | [], _ => rfl
  | v :: r, h => by simp only [pureL, Bool.and_eq_true]; exact ⟨h v (by simp), pureL_of fun d hd => h d (by simp [hd])⟩
theorem headD_pure {cs : List V} (h : ∀ d ∈ cs, d.leaf = true) : (cs.headD .pnil).leaf = true := by
  cases cs with
  | nil => rfl
  | cons v r => exact h v (by simp)
theorem vOf_pure {a : Ty} {cs : List V} (h : ∀ d ∈ cs, d.leaf = true) : (vOf a cs).pure = true := by
  have h2 := V.leaf_pure (headD_pure h)
  unfold vOf
  split
  · simp only [V.pure]; exact pureL_of fun d hd => V.leaf_pure (h d hd)
  · exact h2
theorem leaf_cellsV : ∀ (t : Ty) (x : t.I) (d : V), d ∈ cellsV t x → d.leaf = true
  | .int _, x, d, h => by simp only [cellsV, List.mem_singleton] at h; subst h; rfl
  | .bool, x, d, h => by simp only [cellsV, List.mem_singleton] at h; subst h; rfl
  | .str, x, d, h => by simp only [cellsV, List.mem_singleton] at h; subst h; rfl
  | .list _, x, d, h => by simp only [cellsV, List.mem_singleton] at h; subst h; rfl
  | .unit, x, d, h => by simp [cellsV] at h
  | .pair a b, x, d, h => by
    simp only [cellsV, List.mem_append] at h
    rcases h with h | h
    · exact leaf_cellsV a _ d h
    · exact leaf_cellsV b _ d h
  | .agg t, x, d, h => leaf_cellsV t x d h
  | .alt t a r, .inl y, d, h => by simp only [cellsV, List.mem_singleton] at h; subst h; exact vOf_pure (leaf_cellsV a y)
  | .alt t a r, .inr z, d, h => by simp only [cellsV, List.mem_singleton] at h; subst h; exact headD_pure (leaf_cellsV r z)
  | .alt1 t a, x, d, h => by simp only [cellsV, List.mem_singleton] at h; subst h; exact vOf_pure (leaf_cellsV a x)
  | .inil, x, d, h => by simp only [cellsV, List.mem_singleton] at h; subst h; rfl
theorem pure_cellsV (t : Ty) (x : t.I) (d : V) (h : d ∈ cellsV t x) : d.pure = true := V.leaf_pure (leaf_cellsV t x d h)
theorem leaf_one {S : Addr → Prop} {w : World} {d : V} {v : Value} (h : d.leaf = true) (hr : Rp S w d v) : v.cells = #[v] ∧ v.oneCell' = true := by
  cases hr <;> first | exact ⟨rfl, rfl⟩ | (simp [V.leaf] at h; done)
theorem TL.pure_cells {L : TL} {i : Nat} {d : V} (h : L.cells[i]? = some d) : d.pure = true := by
  have hm := List.mem_of_getElem? h
  unfold TL.cells at hm
  obtain ⟨x, _, hx⟩ := List.mem_flatMap.1 hm
  exact pure_cellsV _ _ _ hx

section
variable {κ : Cx} {ι : Nat → Nat} {st : St} {a : Act} {w : World}

theorem SemOk.same (h : RelI κ ι st a w) {s : Sem Value} {v : V} {cv : Value} (hr : s.run κ.P w = .ok cv w) (hv : Rv st.o ι (Stable κ.D st.o ι w) w v cv) :
    SemOk κ ι st.o w s v none := ⟨cv, w, ι, hr, To.refl h, hv⟩

theorem run_info {P : Program} {t : TypeId} {i : TypeInfo} (h : P.info? t = some i) (w : World) : (typeInfo t).run P w = .ok i w := by
  simp [typeInfo, h]
theorem run_size {P : Program} {t : TypeId} {i : TypeInfo} (h : P.info? t = some i) (w : World) : (sizeOf t).run P w = .ok i.size w := by
  simp [sizeOf, run_info h]
theorem run_zero {P : Program} {t : TypeId} {i : TypeInfo} {z : Value} (h : P.info? t = some i) (hz : i.zero = some z) (w : World) : (zeroValue t).run P w = .ok z w := by
  simp [zeroValue, run_info h, hz]

def isAggD : TypeDesc → Bool
  | .struct _ | .array _ _ => true
  | _ => false
theorem run_isAgg {P : Program} {t : TypeId} {d : TypeDesc} (h : P.underlying t = some d) (w : World) : (isAgg t).run P w = .ok (isAggD d) w := by
  simp only [isAgg, Sem.run_bind, run_underlying h, Result.andThen_ok]
  cases d <;> rfl

def zeroC (P : Program) (t : Nat) : Option (List V) :=
  match P.info? t with
  | some i => match i.zero with
    | some z => if z.cells.size = i.size then ofCells z.cells.toList else none
    | none => none
  | none => none
theorem zeroC_ok {P : Program} {t : Nat} {cs : List V} (h : zeroC P t = some cs) : ∃ z i, P.info? t = some i ∧ i.zero = some z ∧ z.cells.size = i.size ∧ (∀ w, (zeroValue t).run P w = .ok z w) ∧
    ∀ {S : Addr → Prop} {w : World}, LR (Rp S w) cs z.cells.toList := by
  unfold zeroC at h
  split at h
  · rename_i i hi
    split at h
    · rename_i z hz
      split at h
      · rename_i hs
        exact ⟨z, i, hi, hz, hs, fun w => run_zero hi hz w, fun {S w} => ofCells_rp h⟩
      · cases h
    · cases h
  · cases h

/-- A new object of the machine's own, its cells pure or not. -/
theorem box_new (h : RelI κ ι st a w) (s ty : Nat) (arr : Array Value) (cs : List V) (hcs : LR (Rv st.o ι (Stable κ.D st.o ι w) w) cs arr.toList) :
    To κ st.o ι w (st.o.put s ⟨(st.o.get s).gen + 1, .box ty cs⟩) (fun t => if s = t then w.heap.size else ι t) (w.alloc (.cells arr ty)) :=
  To.new h rfl rfl rfl rfl s _ _ fun T' ι' w' H hn => ⟨arr, (0, 0), hn, fun i _ => by simp, by simpa using hcs.1.symm, fun i d u hd hu => (hcs.2 i d u hd hu).mono H⟩

theorem ptr_new (h : RelI κ ι st a w) (s : Nat) (k : OK) (ι' : Nat → Nat) (w' : World) (hι : ι' s = w.heap.size) {S : Addr → Prop} :
    Rv (st.o.put s ⟨(st.o.get s).gen + 1, k⟩) ι' S w' (.ptr s ((st.o.get s).gen + 1) 0) (.pointer (some ⟨w.heap.size, 0, none⟩)) :=
  .ptr ⟨_, rfl⟩ (by simp [Tab.get_put]) fun _ _ => by rw [hι]

def aAlloc (P : Program) (T : Tab) (e d : Nat) : Option (V × Option (Nat × Ob)) :=
  (zeroC P e).map fun cs => (.ptr d ((T.get d).gen + 1) 0, some (d, ⟨(T.get d).gen + 1, .box e cs⟩))
theorem aAlloc_ok (h : RelI κ ι st a w) {e d : Nat} {v : V} {wr : Option (Nat × Ob)} (hx : aAlloc κ.P st.o e d = some (v, wr)) :
    SemOk κ ι st.o w (Instr.alloc e true (.tuple #[])) v wr := by
  unfold aAlloc at hx
  cases hz : zeroC κ.P e with
  | none => simp [hz] at hx
  | some cs =>
    simp [hz] at hx
    obtain ⟨rfl, rfl⟩ := hx
    obtain ⟨z, i, hi, hzz, hsz, hrun, hlr⟩ := zeroC_ok hz
    refine ⟨_, _, _, ?_, box_new h d e z.cells cs (hlr.mono fun _ _ => .pure), ptr_new h d _ _ _ (by simp)⟩
    simp [Instr.alloc, hrun, newVar, newRow]

def aBox (T : Tab) (e d : Nat) (x : V) : Option (V × Option (Nat × Ob)) :=
  match x with
  | .undef => none
  | _ => some (.ptr d ((T.get d).gen + 1) 0, some (d, ⟨(T.get d).gen + 1, .box e x.cells⟩))

theorem Rp.sl_form {S : Addr → Prop} {n : Nat} {cs : List V} {v : Value} (h : Rp S w (.sl n cs) v) : ∃ p n' c, v = .slice p n' c := by
  generalize e : V.sl n cs = x at h
  cases h <;> first | cases e; done | exact ⟨_, _, _, rfl⟩
theorem Rp.cref_form {S : Addr → Prop} {cs : List V} {v : Value} (h : Rp S w (.cref cs) v) : ∃ a, v = .pointer (some a) := by
  generalize e : V.cref cs = x at h
  cases h <;> first | cases e; done | exact ⟨_, rfl⟩
theorem Rv.acc_form {T : Tab} {S : Addr → Prop} {t g : Nat} {v : Value} (h : Rv T ι S w (.acc t g) v) : ∃ p n' c, v = .slice p n' c := by
  cases h with
  | pure h => cases h
  | acc hv _ _ => exact hv
theorem Rv.acc_ {T : Tab} {S : Addr → Prop} {t g : Nat} {v : Value} (h : Rv T ι S w (.acc t g) v) {ty : Nat} {fz nl : Bool} {L : TL} (hT : T.get t = ⟨g, .nrow ty fz nl L⟩) :
    (nl = true ∧ L.l = [] ∧ ∃ p, v = .slice p 0 0) ∨ (¬ (nl = true ∧ L.l = []) ∧ Own w (ι t) L.e.size 0 L.l.length v) := by
  cases h with
  | pure h => cases h
  | acc _ _ h => exact h _ _ _ _ hT
theorem Rv.eptr_ {T : Tab} {S : Addr → Prop} {t g sz i off : Nat} {v : Value} (h : Rv T ι S w (.eptr t g sz i off) v) {ty : Nat} {fz nl : Bool} {L : TL} (hT : T.get t = ⟨g, .nrow ty fz nl L⟩) :
    sz = L.e.size ∧ i < L.l.length ∧ v = .pointer (some ⟨ι t, i * sz + off, none⟩) := by
  cases h with
  | pure h => cases h
  | eptr _ _ h => exact h _ _ _ _ hT
theorem Rv.eptr_form {T : Tab} {S : Addr → Prop} {t g i off : Nat} {e : Nat} {v : Value} (h : Rv T ι S w (.eptr t g e i off) v) : ∃ a, v = .pointer (some a) := by
  cases h with
  | pure h => cases h
  | eptr hv _ _ => exact hv
theorem Rv.si_ {T : Tab} {S : Addr → Prop} {X : TX} {v : Value} (h : Rv T ι S w (.si X) v) : Rp S w ((cellsV X.e X.x).headD .pnil) v := by
  cases h with
  | pure h => cases h with | si h => exact h
theorem Rv.nwin_form {T : Tab} {S : Addr → Prop} {t g off n : Nat} {v : Value} (h : Rv T ι S w (.nwin t g off n) v) : ∃ p n' c, v = .slice p n' c := by
  cases h with
  | pure h => cases h
  | nwin hv _ _ => exact hv
theorem Rv.nwin_ {T : Tab} {S : Addr → Prop} {t g off n : Nat} {v : Value} (h : Rv T ι S w (.nwin t g off n) v) {ty : Nat} {fz nl : Bool} {L : TL} (hT : T.get t = ⟨g, .nrow ty fz nl L⟩) :
    off + n ≤ L.l.length ∧ ((nl = true ∧ L.l = [] ∧ ∃ p, v = .slice p 0 0) ∨ (¬ (nl = true ∧ L.l = []) ∧ Own w (ι t) L.e.size off n v)) := by
  cases h with
  | pure h => cases h
  | nwin _ _ h => exact h _ _ _ _ hT
theorem Rv.mp_form {T : Tab} {S : Addr → Prop} {t g : Nat} {v : Value} (h : Rv T ι S w (.mp t g) v) : ∃ r, v = .map (some r) := by
  cases h with
  | pure h => cases h
  | mp hv _ _ => exact hv
theorem Rv.mp_ {T : Tab} {S : Addr → Prop} {t g : Nat} {v : Value} (h : Rv T ι S w (.mp t g) v) (hg : (T.get t).gen = g) (hl : T.live t) : v = .map (some (ι t)) := by
  cases h with
  | pure h => cases h
  | mp _ _ h => exact h hg hl
theorem Rv.lst_ {T : Tab} {S : Addr → Prop} {L : TL} {v : Value} (h : Rv T ι S w (.lst L) v) : Rp S w (.sl L.l.length L.cells) v := by
  cases h with | pure h => cases h with | lst h => exact h
theorem Rv.eref_ {T : Tab} {S : Addr → Prop} {X : TX} {off : Nat} {v : Value} (h : Rv T ι S w (.eref X off) v) : Rp S w (.cref ((cellsV X.e X.x).drop off)) v := by
  cases h with | pure h => cases h with | eref h => exact h
theorem Rv.bs_ {T : Tab} {S : Addr → Prop} {b : Bool} {v : Value} (h : Rv T ι S w (.bs b) v) : v = .bool b := by
  cases h with | pure h => cases h with | bs h => cases h; rfl
theorem Rv.nl_ {T : Tab} {S : Addr → Prop} {L : TL} {v : Value} (h : Rv T ι S w (.nl L) v) : Rv T ι S w (.lst L) v ∧ ∃ a len cap, v = .slice (some a) len cap := by
  cases h with | pure h => cases h with | nl h => exact ⟨.pure h, _, _, _, rfl⟩
theorem Rv.sz_ {T : Tab} {S : Addr → Prop} {v : Value} (h : Rv T ι S w .sz v) : ∃ p, v = .slice p 0 0 := by
  cases h with | pure h => cases h with | sz => exact ⟨_, rfl⟩
theorem cells_lr {T : Tab} {S : Addr → Prop} {x : V} {cv : Value} (hx : x ≠ .undef) (h : Rv T ι S w x cv) : LR (Rv T ι S w) x.cells cv.cells.toList := by
  cases x with
  | agg cs =>
    obtain ⟨vs, rfl, hl, hh⟩ := h.agg_
    exact ⟨hl, hh⟩
  | undef => exact absurd rfl hx
  | own t g off n =>
    cases h with
    | pure h => cases h
    | own hv hg h' => obtain ⟨_, _, rfl⟩ := hv; exact .cons (.own ⟨_, _, rfl⟩ hg h') .nil
  | ptr t g off =>
    cases h with
    | pure h => cases h
    | ptr hv hg h' => obtain ⟨_, rfl⟩ := hv; exact .cons (.ptr ⟨_, rfl⟩ hg h') .nil
  | acc t g =>
    obtain ⟨_, _, _, rfl⟩ := h.acc_form
    exact .cons h .nil
  | eptr t g e i off =>
    obtain ⟨_, rfl⟩ := h.eptr_form
    exact .cons h .nil
  | lst L =>
    obtain ⟨_, _, _, rfl⟩ := h.lst_.sl_form
    exact .cons h .nil
  | eref X off =>
    obtain ⟨_, rfl⟩ := h.eref_.cref_form
    exact .cons h .nil
  | bs b =>
    obtain rfl := h.bs_
    exact .cons h .nil
  | si X =>
    have hcv : cv.cells = #[cv] := (leaf_one (headD_pure (leaf_cellsV X.e X.x)) h.si_).1
    rw [hcv]
    exact .cons h .nil
  | nwin t g off n =>
    obtain ⟨_, _, _, rfl⟩ := h.nwin_form
    exact .cons h .nil
  | mp t g =>
    obtain ⟨_, rfl⟩ := h.mp_form
    exact .cons h .nil
  | _ =>
    have hcv : cv.cells = #[cv] := by
      cases h with
      | pure h => cases h <;> rfl
      | _ => rfl
    rw [hcv]
    exact .cons h .nil

theorem cell_one {T : Tab} {S : Addr → Prop} {x : V} {cv : Value} (hx : x.cellOk = true) (h : Rv T ι S w x cv) : cv.oneCell' = true := by
  cases x with
  | own t g off n =>
    cases h with
    | pure h => cases h
    | own hv hg h' => obtain ⟨_, _, rfl⟩ := hv; rfl
  | ptr t g off =>
    cases h with
    | pure h => cases h
    | ptr hv hg h' => obtain ⟨_, rfl⟩ := hv; rfl
  | agg cs => cases hx
  | tup cs => cases hx
  | undef => cases hx
  | acc t g => obtain ⟨_, _, _, rfl⟩ := h.acc_form; rfl
  | eptr t g e i off => obtain ⟨_, rfl⟩ := h.eptr_form; rfl
  | lst L => obtain ⟨_, _, _, rfl⟩ := h.lst_.sl_form; rfl
  | eref X off => obtain ⟨_, rfl⟩ := h.eref_.cref_form; rfl
  | bs b => obtain rfl := h.bs_; rfl
  | si X => exact (leaf_one (headD_pure (leaf_cellsV X.e X.x)) h.si_).2
  | nwin t g off n => obtain ⟨_, _, _, rfl⟩ := h.nwin_form; rfl
  | mp t g => obtain ⟨_, rfl⟩ := h.mp_form; rfl
  | _ =>
    cases h with
    | pure h => cases h <;> rfl
    | _ => rfl

theorem aBox_ok (h : RelI κ ι st a w) {e d : Nat} {x v : V} {cv : Value} {wr : Option (Nat × Ob)} (hr : Rv st.o ι (Stable κ.D st.o ι w) w x cv) (hx : aBox st.o e d x = some (v, wr)) :
    SemOk κ ι st.o w (Instr.box e cv) v wr := by
  unfold aBox at hx
  split at hx
  · cases hx
  · rename_i hne
    simp at hx
    obtain ⟨rfl, rfl⟩ := hx
    refine ⟨_, _, _, ?_, box_new h d e cv.cells x.cells (cells_lr hne hr), ptr_new h d _ _ _ (by simp)⟩
    simp [Instr.box, newVar, newRow]

theorem cellsW_length : ∀ (t : Ty) (x : t.I), (cellsW t x).length = t.size
  | .int _, _ | .bool, _ | .str, _ | .list _, _ | .unit, _ => rfl
  | .pair a b, x => by simp [cellsW, Ty.size, cellsW_length a x.1, cellsW_length b x.2]
  | .agg t, x => cellsW_length t x
  | .alt _ _ _, _ | .alt1 _ _, _ | .inil, _ => rfl
theorem vOf_rp {S : Addr → Prop} {a : Ty} {cs cs' : List V} {u : Value} (hl : cs.length = cs'.length) (hh : ∀ (i : Nat) (d d' : V) (u : Value), cs[i]? = some d → cs'[i]? = some d' → Rp S w d u → Rp S w d' u)
    (h : Rp S w (vOf a cs) u) : Rp S w (vOf a cs') u := by
  have key : Rp S w (cs.headD .pnil) u → Rp S w (cs'.headD .pnil) u := fun h => by
    cases cs with
    | nil =>
      cases cs' with
      | nil => exact h
      | cons y r => simp at hl
    | cons x r =>
      cases cs' with
      | nil => simp at hl
      | cons y r' => exact hh 0 x y u rfl rfl h
  unfold vOf at h ⊢
  split
  · rename_i t
    simp only at h
    cases h with
    | agg h1 h2 =>
      refine .agg (by omega) fun i d' u hd hu => ?_
      have hi : i < cs.length := by rw [hl]; exact (List.getElem?_eq_some_iff.1 hd).1
      exact hh i cs[i] d' u (List.getElem?_eq_getElem hi) hd (h2 i _ u (List.getElem?_eq_getElem hi) hu)
  · rename_i hne
    split at h
    · rename_i t; exact (hne t rfl).elim
    · exact key h
/-- Cell by cell, what is told of a value's cells holds of them as lists. -/
theorem cellsW_pt {S : Addr → Prop} : ∀ (t : Ty) (x : t.I) (i : Nat) (d d' : V) (u : Value), (cellsV t x)[i]? = some d → (cellsW t x)[i]? = some d' → Rp S w d u → Rp S w d' u
  | .int _, x, i, d, d', u, h, h', hr => by have : d = d' := Option.some.inj (h.symm.trans h'); exact this ▸ hr
  | .str, x, i, d, d', u, h, h', hr => by have : d = d' := Option.some.inj (h.symm.trans h'); exact this ▸ hr
  | .unit, x, i, d, d', u, h, h', hr => by simp [cellsV] at h
  | .inil, x, i, d, d', u, h, h', hr => by have : d = d' := Option.some.inj (h.symm.trans h'); exact this ▸ hr
  | .bool, x, i, d, d', u, h, h', hr => by
    cases i with
    | zero => simp [cellsV] at h; simp [cellsW] at h'; subst h h'; exact .bs hr
    | succ i => simp [cellsV] at h
  | .list e, x, i, d, d', u, h, h', hr => by
    cases i with
    | zero => simp [cellsV] at h; simp [cellsW] at h'; subst h h'; exact .lst hr
    | succ i => simp [cellsV] at h
  | .pair a b, x, i, d, d', u, h, h', hr => by
    simp only [cellsV, cellsW, List.getElem?_append, cellsV_length, cellsW_length] at h h'
    split at h
    · rename_i hi; rw [if_pos hi] at h'; exact cellsW_pt a x.1 i d d' u h h' hr
    · rename_i hi; rw [if_neg hi] at h'; exact cellsW_pt b x.2 _ d d' u h h' hr
  | .agg t, x, i, d, d', u, h, h', hr => cellsW_pt t x i d d' u h h' hr
  | .alt t a r, x, i, d, d', u, h, h', hr => by
    cases i with
    | zero =>
      simp only [cellsW, List.getElem?_cons_zero, Option.some.injEq] at h'
      subst h'
      have e : (cellsV (.alt t a r) x).headD .pnil = d := by
        cases hc : cellsV (.alt t a r) x with
        | nil => rw [hc] at h; simp at h
        | cons y r => rw [hc] at h; simpa using h
      exact .si (e ▸ hr)
    | succ i => simp [cellsW] at h'
  | .alt1 t a, x, i, d, d', u, h, h', hr => by
    cases i with
    | zero =>
      simp only [cellsV, cellsW, List.getElem?_cons_zero, Option.some.injEq] at h h'
      subst h h'
      cases hr with
      | ifc h => exact .ifc (vOf_rp (by rw [cellsV_length, cellsW_length]) (cellsW_pt a x) h)
    | succ i => simp [cellsV] at h
theorem cellsW_rp {S : Addr → Prop} (t : Ty) (x : t.I) (vs : List Value) (h : LR (Rp S w) (cellsV t x) vs) : LR (Rp S w) (cellsW t x) vs :=
  ⟨by rw [cellsW_length, ← cellsV_length t x]; exact h.1, fun i d u hd hu => by
    have hi : i < (cellsV t x).length := by rw [cellsV_length, ← cellsW_length t x]; exact (List.getElem?_eq_some_iff.1 hd).1
    exact cellsW_pt t x i _ d u (List.getElem?_eq_getElem hi) hd (h.2 i _ u (List.getElem?_eq_getElem hi) hu)⟩
/-- Cells of which the last ones are known stand so as those of a list. -/
theorem cellsW_drop {S : Addr → Prop} (t : Ty) (x : t.I) (off : Nat) (vs : List Value) (h : LR (Rp S w) ((cellsV t x).drop off) vs) : LR (Rp S w) ((cellsW t x).drop off) vs :=
  ⟨by rw [List.length_drop, cellsW_length, ← cellsV_length t x, ← List.length_drop]; exact h.1, fun i d u hd hu => by
    rw [List.getElem?_drop] at hd
    have hi : off + i < (cellsV t x).length := by rw [cellsV_length, ← cellsW_length t x]; exact (List.getElem?_eq_some_iff.1 hd).1
    exact cellsW_pt t x (off + i) _ d u (List.getElem?_eq_getElem hi) hd (h.2 i _ u (by rw [List.getElem?_drop]; exact List.getElem?_eq_getElem hi) hu)⟩
/-- An element's cells among those of its row. -/
theorem flat_get (e : Ty) : ∀ (l : List e.I) (i : Nat), i < l.length → ((l.flatMap (cellsV e)).drop (i * e.size)).take e.size = cellsV e (l.getD i e.dflt)
  | [], i, h => by simp at h
  | x :: r, 0, h => by
    simp only [List.flatMap_cons, Nat.zero_mul, List.drop_zero, List.getD_cons_zero]
    rw [← cellsV_length e x, List.take_left]
  | x :: r, i + 1, h => by
    simp only [List.flatMap_cons, List.getD_cons_succ]
    have : (i + 1) * e.size = (cellsV e x).length + i * e.size := by rw [cellsV_length, Nat.succ_mul]; omega
    rw [this, ← List.drop_drop, List.drop_left]
    exact flat_get e r i (by simpa using h)

/-- The cells of the object that an address leads to, from there on. -/
def aCells (T : Tab) : V → Option (List V)
  | .ptr s g off => if (T.get s).gen = g then (match (T.get s).k with
    | .box _ cs | .row _ _ _ cs => if off ≤ cs.length then some (cs.drop off) else none
    | _ => none) else none
  | .cref cs => some cs
  | .eref X off => some ((cellsW X.e X.x).drop off)
  | .eptr s g _ i off => if (T.get s).gen = g then (match (T.get s).k with
    | .nrow _ _ _ L => some ((cellsW L.e (L.l.getD i L.e.dflt)).drop off)
    | _ => none) else none
  | _ => none

theorem aCells_ok (h : RelI κ ι st a w) {x : V} {cv : Value} {cs : List V} (hr : Rv st.o ι (Stable κ.D st.o ι w) w x cv) (hx : aCells st.o x = some cs) :
    ∃ ad vs, cv = .pointer (some ad) ∧ (∀ (i : Nat) (u : Value), vs[i]? = some u → w.cell? (ad.add i) = some u) ∧ LR (Rv st.o ι (Stable κ.D st.o ι w) w) cs vs := by
  unfold aCells at hx
  split at hx
  · rename_i s g off
    split at hx
    · rename_i hg
      have hob := h.tr.ob s
      have addl : ∀ i, (⟨ι s, off, none⟩ : Addr).add i = ⟨ι s, off + i, none⟩ := by intro i; unfold Addr.add; split <;> simp_all
      split at hx
      · rename_i ty cs' hk
        rw [hk] at hob
        obtain ⟨arr, fz, hh, _, hsz, hc⟩ := hob
        split at hx
        · injection hx with hx; subst hx
          refine ⟨_, arr.toList.drop off, hr.ptr_ hg (by simp [Tab.live, hk, OK.live]), fun i u hu => ?_, LR.drop ⟨by simpa using hsz.symm, hc⟩ off⟩
          rw [addl]; simp [World.cell?, hh]; simpa [List.getElem?_drop] using hu
        · cases hx
      · rename_i ty sz fz0 cs' hk
        rw [hk] at hob
        obtain ⟨arr, fz, cap, hh, _, hsz, _, hle, hc⟩ := hob
        split at hx
        · injection hx with hx; subst hx
          refine ⟨_, (arr.toList.take cs'.length).drop off, hr.ptr_ hg (by simp [Tab.live, hk, OK.live]), fun i u hu => ?_, LR.drop ⟨by simp; omega, fun i d u hd hu => ?_⟩ off⟩
          · rw [addl]; simp [World.cell?, hh]
            rw [List.getElem?_drop, List.getElem?_take] at hu
            split at hu
            · simpa using hu
            · cases hu
          · rw [List.getElem?_take] at hu
            split at hu
            · exact hc i d u hd hu
            · cases hu
        · cases hx
      · cases hx
    · cases hx
  · rename_i cs'
    injection hx with hx; subst hx
    obtain ⟨ad, vs, rfl, hm, hl, hh⟩ := hr.cref_
    exact ⟨ad, vs, rfl, fun i u hu => (hm i u hu).2, hl, fun i d u hd hu => .pure (hh i d u hd hu)⟩
  · rename_i X off
    injection hx with hx; subst hx
    obtain ⟨ad, vs, rfl, hm, hl, hh⟩ := (Rv.pure hr.eref_).cref_ (T := st.o) (ι := ι)
    have := cellsW_drop X.e X.x off vs ⟨hl, hh⟩
    exact ⟨ad, vs, rfl, fun i u hu => (hm i u hu).2, this.1, fun i d u hd hu => .pure (this.2 i d u hd hu)⟩
  · rename_i s g sz i off
    split at hx
    · rename_i hg
      split at hx
      · rename_i ty fz nl L hk
        injection hx with hx; subst hx
        have hT : st.o.get s = ⟨g, .nrow ty fz nl L⟩ := by cases hTs : st.o.get s; rw [hTs] at hk hg; simp at hk hg; subst hk hg; rfl
        obtain ⟨rfl, hi, rfl⟩ := hr.eptr_ hT
        have hob := h.tr.ob s
        rw [hk] at hob
        obtain ⟨arr, fz1, cap, hh, _, hsz, h0, hle, hc⟩ := hob.resolve_left (fun ⟨_, e⟩ => by rw [e] at hi; simp at hi)
        have hlr : LR (Rp (Stable κ.D st.o ι w) w) L.cells (arr.toList.take L.cells.length) := ⟨by simp; omega, fun j d u hd hu => by
          rw [List.getElem?_take] at hu
          split at hu
          · exact (hc j d u hd hu).pure_ (TL.pure_cells hd)
          · cases hu⟩
        have h1 := (hlr.drop (i * L.e.size)).take L.e.size
        rw [show L.cells = L.l.flatMap (cellsV L.e) from rfl, flat_get L.e L.l i hi] at h1
        have h2 := cellsW_drop _ _ off _ (h1.drop off)
        refine ⟨_, _, rfl, fun j u hu => ?_, h2.1, fun j d u hd hu => .pure (h2.2 j d u hd hu)⟩
        have hadd : (⟨ι s, i * L.e.size + off, none⟩ : Addr).add j = ⟨ι s, i * L.e.size + off + j, none⟩ := by unfold Addr.add; split <;> simp_all
        rw [hadd]
        rw [List.getElem?_drop, List.getElem?_take] at hu
        split at hu
        · rw [List.getElem?_drop, List.getElem?_take] at hu
          split at hu
          · simp only [World.cell?, hh]
            rw [Nat.add_assoc]
            simpa using hu
          · cases hu
        · cases hu
      · cases hx
    · cases hx
  · cases hx

def loadV (P : Program) (t : Nat) (cs : List V) : Option V :=
  match P.underlying t, P.info? t with
  | some d, some i => if isAggD d then (if i.size ≤ cs.length then some (.agg (cs.take i.size)) else none) else cs.head?
  | _, _ => none

theorem loadV_ok {T : Tab} {S : Addr → Prop} {t : Nat} {cs : List V} {vs : List Value} {ad : Addr} {v : V}
    (hm : ∀ (i : Nat) (u : Value), vs[i]? = some u → w.cell? (ad.add i) = some u) (hr : LR (Rv T ι S w) cs vs) (hx : loadV κ.P t cs = some v) :
    ∃ cv, (loadVar t ad).run κ.P w = .ok cv w ∧ Rv T ι S w v cv := by
  unfold loadV at hx
  split at hx
  · rename_i d i hd hi
    cases hag : isAggD d with
    | true =>
      simp only [hag, if_true] at hx
      split at hx
      · rename_i hle
        injection hx with hx; subst hx
        have hl : (vs.take i.size).length = i.size := by have := hr.1; simp; omega
        have hrun := run_loadCells_list (P := κ.P) w ad (vs.take i.size) (fun j u hu => by
          rw [List.getElem?_take] at hu
          split at hu
          · exact hm j u hu
          · cases hu)
        rw [hl] at hrun
        refine ⟨.agg (vs.take i.size).toArray, ?_, ?_⟩
        · simp [loadVar, run_isAgg hd, hag, run_size hi, hrun]
        · have := hr.take i.size
          exact .agg this.1 this.2
      · cases hx
    | false =>
      simp only [hag, Bool.false_eq_true, if_false] at hx
      cases cs with
      | nil => cases hx
      | cons c r =>
        simp at hx; subst hx
        obtain ⟨u, vs', rfl, hu, _⟩ := hr.head
        have hc := hm 0 u rfl
        have h0 : ad.add 0 = ad := by simp [Addr.add]
        rw [h0] at hc
        exact ⟨u, by simp [loadVar, run_isAgg hd, hag, hc], hu⟩
  · cases hx

def aLoad (P : Program) (T : Tab) (t : Nat) (x : V) : Option (V × Option (Nat × Ob)) :=
  match aCells T x with
  | some cs => (loadV P t cs).map fun v => (v, none)
  | none => none
theorem aLoad_ok (h : RelI κ ι st a w) {t : Nat} {x v : V} {cv : Value} {wr : Option (Nat × Ob)} (hr : Rv st.o ι (Stable κ.D st.o ι w) w x cv) (hx : aLoad κ.P st.o t x = some (v, wr)) :
    SemOk κ ι st.o w (Instr.loadAt t cv) v wr := by
  unfold aLoad at hx
  split at hx
  · rename_i cs hcs
    cases hl : loadV κ.P t cs with
    | none => simp [hl] at hx
    | some u =>
      simp [hl] at hx
      obtain ⟨rfl, rfl⟩ := hx
      obtain ⟨ad, vs, rfl, hm, hlr⟩ := aCells_ok h hr hcs
      obtain ⟨cv', hrun, hv⟩ := loadV_ok (κ := κ) hm hlr hl
      exact SemOk.same h (by simp [Instr.loadAt, Instr.sureAddr, hrun]) hv
  · cases hx

/-- Some cells stored, one behind the other, in a block of which they are not frozen. -/
theorem run_storeCells_fz (P : Program) (g o : Nat) (t : TypeId) (fz : Nat × Nat) : ∀ (vs : List Value) (i : Nat) (cur : Array Value) (w : World), w.heap[g]? = some (.cells cur t fz) →
    (∀ j, j < cur.size → ¬ (fz.1 ≤ j ∧ j < fz.2)) → o + i + vs.length ≤ cur.size → (∀ v ∈ vs, v.oneCell' = true) →
    (storeCells ⟨g, o, none⟩ vs i).run P w = .ok () (w.setRow g (cur.toList.take (o + i) ++ vs ++ cur.toList.drop (o + i + vs.length)).toArray)
  | [], i, cur, w, hg, _, _, _ => by
    simp only [storeCells, List.append_nil, List.length_nil, Nat.add_zero, List.take_append_drop, Array.toArray_toList]
    rw [setRow_self w g cur t fz hg]
    rfl
  | v :: rest, i, cur, w, hg, hf, hl, h1 => by
    have hi : o + i < cur.size := by simp at hl; omega
    have hadd : (⟨g, o, none⟩ : Addr).add i = ⟨g, o + i, none⟩ := by unfold Addr.add; split <;> simp_all
    have hcell : w.cell? ⟨g, o + i, none⟩ = some cur[o + i] := by simp [World.cell?, hg, hi]
    have hfro : w.frozen? ⟨g, o + i, none⟩ = false := by
      have := hf (o + i) hi
      obtain ⟨lo, hi'⟩ := fz
      simp only [World.frozen?, hg]
      simp at this ⊢
      exact this
    have hst : (store ((⟨g, o, none⟩ : Addr).add i) v).run P w = .ok () (w.setRow g (cur.setIfInBounds (o + i) v)) := by
      rw [hadd, run_store P w _ v _ (h1 v (by simp)), hcell]
      simp [hfro, setCell_eq_setRow w g (o + i) cur t fz v hg]
    have ih := run_storeCells_fz P g o t fz rest (i + 1) (cur.setIfInBounds (o + i) v) (w.setRow g (cur.setIfInBounds (o + i) v)) (setRow_heap w g cur _ t _ hg) (by simpa using hf) (by simp at hl ⊢; omega) (fun x hx => h1 x (by simp [hx]))
    simp only [storeCells, Sem.run_bind, hst, Result.andThen_ok, ih, setRow_setRow]
    congr 3
    have e := list_seg_step cur.toList (o + i) v rest (by simp at hl ⊢; omega)
    simpa [Array.toList_setIfInBounds, Nat.add_assoc] using e

end
end Go.Abs
