/- Operations on memory: new objects, loads, stores, addresses. -/
import Derived.Test.YtpiljcflnkaphabAbsB
import Derived.Laws.Entries
import Derived.Laws.CopyRow
namespace Go.Abs
open Go.RowKit
set_option linter.unusedVariables false
set_option linter.unusedSimpArgs false

def wrT (T : Tab) : Option (Nat × Ob) → Tab
  | none => T
  | some (s, o) => T.put s o

/-- A reckoning of the model's gives what the machine says. -/
def SemOk (κ : Cx) (ι : Nat → Nat) (T : Tab) (w : World) (s : Sem Value) (v : V) (wr : Option (Nat × Ob)) : Prop :=
  ∃ cv w' ι', s.run κ.P w = .ok cv w' ∧ To κ T ι w (wrT T wr) ι' w' ∧ Rv (wrT T wr) ι' (Stable κ.D (wrT T wr) ι' w') w' v cv

section
variable {κ : Cx} {ι : Nat → Nat} {st : St} {a : Act} {w : World}

theorem SemOk.same (h : RelI κ ι st a w) {s : Sem Value} {v : V} {cv : Value} (hr : s.run κ.P w = .ok cv w) (hv : Rv st.o ι (Stable κ.D st.o ι w) w v cv) :
    SemOk κ ι st.o w s v none := ⟨cv, w, ι, hr, To.refl h, hv⟩

theorem run_info {P : Program} {t : TypeId} {i : TypeInfo} (h : P.info? t = some i) (w : World) : (typeInfo t).run P w = .ok i w := by
  simp [typeInfo, h]
theorem run_size {P : Program} {t : TypeId} {i : TypeInfo} (h : P.info? t = some i) (w : World) : (sizeOf t).run P w = .ok i.size w := by
  simp [sizeOf, run_info h]
theorem run_zero {P : Program} {t : TypeId} {i : TypeInfo} {z : Value} (h : P.info? t = some i) (hz : i.zero = some z) (w : World) : (zeroValue t).run P w = .ok z w := by
  simp [zeroValue, run_info h, hz]

def isAggD : TypeDesc → Bool
  | .struct _ | .array _ _ => true
  | _ => false
theorem run_isAgg {P : Program} {t : TypeId} {d : TypeDesc} (h : P.underlying t = some d) (w : World) : (isAgg t).run P w = .ok (isAggD d) w := by
  simp only [isAgg, Sem.run_bind, run_underlying h, Result.andThen_ok]
  cases d <;> rfl

def zeroC (P : Program) (t : Nat) : Option (List V) :=
  match P.info? t with
  | some i => match i.zero with
    | some z => if z.cells.size = i.size then ofCells z.cells.toList else none
    | none => none
  | none => none
theorem zeroC_ok {P : Program} {t : Nat} {cs : List V} (h : zeroC P t = some cs) : ∃ z i, P.info? t = some i ∧ i.zero = some z ∧ z.cells.size = i.size ∧ (∀ w, (zeroValue t).run P w = .ok z w) ∧
    ∀ {S : Addr → Prop} {w : World}, LR (Rp S w) cs z.cells.toList := by
  unfold zeroC at h
  split at h
  · rename_i i hi
    split at h
    · rename_i z hz
      split at h
      · rename_i hs
        exact ⟨z, i, hi, hz, hs, fun w => run_zero hi hz w, fun {S w} => ofCells_rp h⟩
      · cases h
    · cases h
  · cases h

/-- A new object of the machine's own, its cells pure or not. -/
theorem box_new (h : RelI κ ι st a w) (s ty : Nat) (arr : Array Value) (cs : List V) (hcs : LR (Rv st.o ι (Stable κ.D st.o ι w) w) cs arr.toList) :
    To κ st.o ι w (st.o.put s ⟨(st.o.get s).gen + 1, .box ty cs⟩) (fun t => if s = t then w.heap.size else ι t) (w.alloc (.cells arr ty)) :=
  To.new h rfl rfl rfl rfl s _ _ fun T' ι' w' H hn => ⟨arr, (0, 0), hn, fun i _ => by simp, by simpa using hcs.1.symm, fun i d u hd hu => (hcs.2 i d u hd hu).mono H⟩

theorem ptr_new (h : RelI κ ι st a w) (s : Nat) (k : OK) (ι' : Nat → Nat) (w' : World) (hι : ι' s = w.heap.size) {S : Addr → Prop} :
    Rv (st.o.put s ⟨(st.o.get s).gen + 1, k⟩) ι' S w' (.ptr s ((st.o.get s).gen + 1) 0) (.pointer (some ⟨w.heap.size, 0, none⟩)) :=
  .ptr ⟨_, rfl⟩ (by simp [Tab.get_put]) fun _ _ => by rw [hι]

def aAlloc (P : Program) (T : Tab) (e d : Nat) : Option (V × Option (Nat × Ob)) :=
  (zeroC P e).map fun cs => (.ptr d ((T.get d).gen + 1) 0, some (d, ⟨(T.get d).gen + 1, .box e cs⟩))
theorem aAlloc_ok (h : RelI κ ι st a w) {e d : Nat} {v : V} {wr : Option (Nat × Ob)} (hx : aAlloc κ.P st.o e d = some (v, wr)) :
    SemOk κ ι st.o w (Instr.alloc e true (.tuple #[])) v wr := by
  unfold aAlloc at hx
  cases hz : zeroC κ.P e with
  | none => simp [hz] at hx
  | some cs =>
    simp [hz] at hx
    obtain ⟨rfl, rfl⟩ := hx
    obtain ⟨z, i, hi, hzz, hsz, hrun, hlr⟩ := zeroC_ok hz
    refine ⟨_, _, _, ?_, box_new h d e z.cells cs (hlr.mono fun _ _ => .pure), ptr_new h d _ _ _ (by simp)⟩
    simp [Instr.alloc, hrun, newVar, newRow]

def aBox (T : Tab) (e d : Nat) (x : V) : Option (V × Option (Nat × Ob)) :=
  match x with
  | .undef => none
  | _ => some (.ptr d ((T.get d).gen + 1) 0, some (d, ⟨(T.get d).gen + 1, .box e x.cells⟩))

theorem cells_lr {T : Tab} {S : Addr → Prop} {x : V} {cv : Value} (hx : x ≠ .undef) (h : Rv T ι S w x cv) : LR (Rv T ι S w) x.cells cv.cells.toList := by
  cases x with
  | agg cs =>
    obtain ⟨vs, rfl, hl, hh⟩ := h.agg_
    exact ⟨hl, hh⟩
  | undef => exact absurd rfl hx
  | own t g off n =>
    cases h with
    | pure h => cases h
    | own hv hg h' => obtain ⟨_, _, rfl⟩ := hv; exact .cons (.own ⟨_, _, rfl⟩ hg h') .nil
  | ptr t g off =>
    cases h with
    | pure h => cases h
    | ptr hv hg h' => obtain ⟨_, rfl⟩ := hv; exact .cons (.ptr ⟨_, rfl⟩ hg h') .nil
  | _ =>
    have hcv : cv.cells = #[cv] := by
      cases h with
      | pure h => cases h <;> rfl
      | _ => rfl
    rw [hcv]
    exact .cons h .nil

theorem cell_one {T : Tab} {S : Addr → Prop} {x : V} {cv : Value} (hx : x.cellOk = true) (h : Rv T ι S w x cv) : cv.oneCell' = true := by
  cases x with
  | own t g off n =>
    cases h with
    | pure h => cases h
    | own hv hg h' => obtain ⟨_, _, rfl⟩ := hv; rfl
  | ptr t g off =>
    cases h with
    | pure h => cases h
    | ptr hv hg h' => obtain ⟨_, rfl⟩ := hv; rfl
  | agg cs => cases hx
  | tup cs => cases hx
  | undef => cases hx
  | _ =>
    cases h with
    | pure h => cases h <;> rfl
    | _ => rfl

theorem aBox_ok (h : RelI κ ι st a w) {e d : Nat} {x v : V} {cv : Value} {wr : Option (Nat × Ob)} (hr : Rv st.o ι (Stable κ.D st.o ι w) w x cv) (hx : aBox st.o e d x = some (v, wr)) :
    SemOk κ ι st.o w (Instr.box e cv) v wr := by
  unfold aBox at hx
  split at hx
  · cases hx
  · rename_i hne
    simp at hx
    obtain ⟨rfl, rfl⟩ := hx
    refine ⟨_, _, _, ?_, box_new h d e cv.cells x.cells (cells_lr hne hr), ptr_new h d _ _ _ (by simp)⟩
    simp [Instr.box, newVar, newRow]

/-- The cells of the object that an address leads to, from there on. -/
def aCells (T : Tab) : V → Option (List V)
  | .ptr s g off => if (T.get s).gen = g then (match (T.get s).k with
    | .box _ cs | .row _ _ _ cs => if off ≤ cs.length then some (cs.drop off) else none
    | _ => none) else none
  | .cref cs => some cs
  | _ => none

theorem aCells_ok (h : RelI κ ι st a w) {x : V} {cv : Value} {cs : List V} (hr : Rv st.o ι (Stable κ.D st.o ι w) w x cv) (hx : aCells st.o x = some cs) :
    ∃ ad vs, cv = .pointer (some ad) ∧ (∀ (i : Nat) (u : Value), vs[i]? = some u → w.cell? (ad.add i) = some u) ∧ LR (Rv st.o ι (Stable κ.D st.o ι w) w) cs vs := by
  unfold aCells at hx
  split at hx
  · rename_i s g off
    split at hx
    · rename_i hg
      have hob := h.tr.ob s
      have addl : ∀ i, (⟨ι s, off, none⟩ : Addr).add i = ⟨ι s, off + i, none⟩ := by intro i; unfold Addr.add; split <;> simp_all
      split at hx
      · rename_i ty cs' hk
        rw [hk] at hob
        obtain ⟨arr, fz, hh, _, hsz, hc⟩ := hob
        split at hx
        · injection hx with hx; subst hx
          refine ⟨_, arr.toList.drop off, hr.ptr_ hg (by simp [Tab.live, hk, OK.live]), fun i u hu => ?_, LR.drop ⟨by simpa using hsz.symm, hc⟩ off⟩
          rw [addl]; simp [World.cell?, hh]; simpa [List.getElem?_drop] using hu
        · cases hx
      · rename_i ty sz fz0 cs' hk
        rw [hk] at hob
        obtain ⟨arr, fz, cap, hh, _, hsz, _, hle, hc⟩ := hob
        split at hx
        · injection hx with hx; subst hx
          refine ⟨_, (arr.toList.take cs'.length).drop off, hr.ptr_ hg (by simp [Tab.live, hk, OK.live]), fun i u hu => ?_, LR.drop ⟨by simp; omega, fun i d u hd hu => ?_⟩ off⟩
          · rw [addl]; simp [World.cell?, hh]
            rw [List.getElem?_drop, List.getElem?_take] at hu
            split at hu
            · simpa using hu
            · cases hu
          · rw [List.getElem?_take] at hu
            split at hu
            · exact hc i d u hd hu
            · cases hu
        · cases hx
      · cases hx
    · cases hx
  · rename_i cs'
    injection hx with hx; subst hx
    obtain ⟨ad, vs, rfl, hm, hl, hh⟩ := hr.cref_
    exact ⟨ad, vs, rfl, fun i u hu => (hm i u hu).2, hl, fun i d u hd hu => .pure (hh i d u hd hu)⟩
  · cases hx

def loadV (P : Program) (t : Nat) (cs : List V) : Option V :=
  match P.underlying t, P.info? t with
  | some d, some i => if isAggD d then (if i.size ≤ cs.length then some (.agg (cs.take i.size)) else none) else cs.head?
  | _, _ => none

theorem loadV_ok {T : Tab} {S : Addr → Prop} {t : Nat} {cs : List V} {vs : List Value} {ad : Addr} {v : V}
    (hm : ∀ (i : Nat) (u : Value), vs[i]? = some u → w.cell? (ad.add i) = some u) (hr : LR (Rv T ι S w) cs vs) (hx : loadV κ.P t cs = some v) :
    ∃ cv, (loadVar t ad).run κ.P w = .ok cv w ∧ Rv T ι S w v cv := by
  unfold loadV at hx
  split at hx
  · rename_i d i hd hi
    cases hag : isAggD d with
    | true =>
      simp only [hag, if_true] at hx
      split at hx
      · rename_i hle
        injection hx with hx; subst hx
        have hl : (vs.take i.size).length = i.size := by have := hr.1; simp; omega
        have hrun := run_loadCells_list (P := κ.P) w ad (vs.take i.size) (fun j u hu => by
          rw [List.getElem?_take] at hu
          split at hu
          · exact hm j u hu
          · cases hu)
        rw [hl] at hrun
        refine ⟨.agg (vs.take i.size).toArray, ?_, ?_⟩
        · simp [loadVar, run_isAgg hd, hag, run_size hi, hrun]
        · have := hr.take i.size
          exact .agg this.1 this.2
      · cases hx
    | false =>
      simp only [hag, Bool.false_eq_true, if_false] at hx
      cases cs with
      | nil => cases hx
      | cons c r =>
        simp at hx; subst hx
        obtain ⟨u, vs', rfl, hu, _⟩ := hr.head
        have hc := hm 0 u rfl
        have h0 : ad.add 0 = ad := by simp [Addr.add]
        rw [h0] at hc
        exact ⟨u, by simp [loadVar, run_isAgg hd, hag, hc], hu⟩
  · cases hx

def aLoad (P : Program) (T : Tab) (t : Nat) (x : V) : Option (V × Option (Nat × Ob)) :=
  match aCells T x with
  | some cs => (loadV P t cs).map fun v => (v, none)
  | none => none
theorem aLoad_ok (h : RelI κ ι st a w) {t : Nat} {x v : V} {cv : Value} {wr : Option (Nat × Ob)} (hr : Rv st.o ι (Stable κ.D st.o ι w) w x cv) (hx : aLoad κ.P st.o t x = some (v, wr)) :
    SemOk κ ι st.o w (Instr.loadAt t cv) v wr := by
  unfold aLoad at hx
  split at hx
  · rename_i cs hcs
    cases hl : loadV κ.P t cs with
    | none => simp [hl] at hx
    | some u =>
      simp [hl] at hx
      obtain ⟨rfl, rfl⟩ := hx
      obtain ⟨ad, vs, rfl, hm, hlr⟩ := aCells_ok h hr hcs
      obtain ⟨cv', hrun, hv⟩ := loadV_ok (κ := κ) hm hlr hl
      exact SemOk.same h (by simp [Instr.loadAt, Instr.sureAddr, hrun]) hv
  · cases hx

/-- Some cells stored, one behind the other, in a block of which they are not frozen. -/
theorem run_storeCells_fz (P : Program) (g o : Nat) (t : TypeId) (fz : Nat × Nat) : ∀ (vs : List Value) (i : Nat) (cur : Array Value) (w : World), w.heap[g]? = some (.cells cur t fz) →
    (∀ j, j < cur.size → ¬ (fz.1 ≤ j ∧ j < fz.2)) → o + i + vs.length ≤ cur.size → (∀ v ∈ vs, v.oneCell' = true) →
    (storeCells ⟨g, o, none⟩ vs i).run P w = .ok () (w.setRow g (cur.toList.take (o + i) ++ vs ++ cur.toList.drop (o + i + vs.length)).toArray)
  | [], i, cur, w, hg, _, _, _ => by
    simp only [storeCells, List.append_nil, List.length_nil, Nat.add_zero, List.take_append_drop, Array.toArray_toList]
    rw [setRow_self w g cur t fz hg]
    rfl
  | v :: rest, i, cur, w, hg, hf, hl, h1 => by
    have hi : o + i < cur.size := by simp at hl; omega
    have hadd : (⟨g, o, none⟩ : Addr).add i = ⟨g, o + i, none⟩ := by unfold Addr.add; split <;> simp_all
    have hcell : w.cell? ⟨g, o + i, none⟩ = some cur[o + i] := by simp [World.cell?, hg, hi]
    have hfro : w.frozen? ⟨g, o + i, none⟩ = false := by
      have := hf (o + i) hi
      obtain ⟨lo, hi'⟩ := fz
      simp only [World.frozen?, hg]
      simp at this ⊢
      exact this
    have hst : (store ((⟨g, o, none⟩ : Addr).add i) v).run P w = .ok () (w.setRow g (cur.setIfInBounds (o + i) v)) := by
      rw [hadd, run_store P w _ v _ (h1 v (by simp)), hcell]
      simp [hfro, setCell_eq_setRow w g (o + i) cur t fz v hg]
    have ih := run_storeCells_fz P g o t fz rest (i + 1) (cur.setIfInBounds (o + i) v) (w.setRow g (cur.setIfInBounds (o + i) v)) (setRow_heap w g cur _ t _ hg) (by simpa using hf) (by simp at hl ⊢; omega) (fun x hx => h1 x (by simp [hx]))
    simp only [storeCells, Sem.run_bind, hst, Result.andThen_ok, ih, setRow_setRow]
    congr 3
    have e := list_seg_step cur.toList (o + i) v rest (by simp at hl ⊢; omega)
    simpa [Array.toList_setIfInBounds, Nat.add_assoc] using e

end
end Go.Abs
