/- Structs and slices built, strings gone through, slices cut and appended to. -/
import Derived.Test.YtiaoojocpcldmaaGreatAbsD
namespace Go.Abs
open Go.RowKit
set_option linter.unusedVariables false
set_option linter.unusedSimpArgs false

theorem fold_set (off : Nat) : ∀ (l : List Value) (k : Nat) (cells : Array Value), off + k + l.length ≤ cells.size →
    ((l.zipIdx k).foldl (fun (cs : Array Value) x => cs.setIfInBounds (off + x.2) x.1) cells).toList = cells.toList.take (off + k) ++ (l ++ cells.toList.drop (off + k + l.length))
  | [], k, cells, _ => by simp
  | v :: r, k, cells, h => by
    simp only [List.zipIdx_cons, List.foldl_cons]
    rw [fold_set off r (k + 1) _ (by simp at h ⊢; omega)]
    have e := list_seg_step cells.toList (off + k) v r (by simp at h ⊢; omega)
    simp only [Array.toList_setIfInBounds]
    simp only [← Nat.add_assoc, List.append_assoc] at e ⊢
    exact e

def aFill (place : Nat → Option (Nat × Nat)) : List V → List (Nat × V) → Option (List V)
  | cs, [] => some cs
  | cs, (i, v) :: rest =>
    match place i with
    | none => none
    | some (off, size) => if v.isU = false ∧ v.cells.length = size ∧ off + size ≤ cs.length then aFill place (splice cs off v.cells) rest else none

theorem aFill_ok {T : Tab} {ι : Nat → Nat} {S : Addr → Prop} {w : World} (place : Nat → Option (Nat × Nat)) : ∀ (parts : List (Nat × V)) (cparts : List (Nat × Value)) (cs cs' : List V) (arr : Array Value),
    LR (Rv T ι S w) cs arr.toList → parts.length = cparts.length → (∀ (j i : Nat) (v : V), parts[j]? = some (i, v) → ∃ u, cparts[j]? = some (i, u) ∧ Rv T ι S w v u) →
    aFill place cs parts = some cs' → ∃ arr', Instr.fill place arr cparts = some arr' ∧ LR (Rv T ι S w) cs' arr'.toList
  | [], cparts, cs, cs', arr, h, hl, hp, hf => by
    have : cparts = [] := List.eq_nil_of_length_eq_zero (by simpa using hl.symm)
    subst this
    simp [aFill] at hf; subst hf
    exact ⟨arr, rfl, h⟩
  | (i, v) :: rest, [], cs, cs', arr, h, hl, hp, hf => by simp at hl
  | (i, v) :: rest, (i', u) :: crest, cs, cs', arr, h, hl, hp, hf => by
    obtain ⟨u', hu', hv⟩ := hp 0 i v rfl
    simp at hu'
    obtain ⟨rfl, rfl⟩ := hu'
    simp only [aFill] at hf
    cases hpl : place i' with
    | none => simp [hpl] at hf
    | some os =>
      obtain ⟨off, size⟩ := os
      simp only [hpl] at hf
      split at hf
      · rename_i hc
        obtain ⟨hne, hsz, hoff⟩ := hc
        have hlr := cells_lr (V.isU_ne hne) hv
        have hu : u.cells.size = size := by rw [← hsz]; simpa using hlr.1.symm
        have harr : cs.length = arr.size := by simpa using h.1
        have hfold := fold_set off u.cells.toList 0 arr (by simp; omega)
        obtain ⟨arr', h1, h2⟩ := aFill_ok place rest crest (splice cs off v.cells) cs' (u.cells.zipIdx.foldl (fun (cs : Array Value) x => cs.setIfInBounds (off + x.2) x.1) arr)
          (by
            rw [← Array.foldl_toList, Array.toList_zipIdx, hfold]
            simpa using h.splice hlr off) (by simpa using hl)
          (fun j i v hj => hp (j + 1) i v (by simpa using hj)) hf
        refine ⟨arr', ?_, h2⟩
        simp only [Instr.fill, hpl, hu, ne_eq, not_true_eq_false, decide_false, Bool.false_or, decide_eq_true_eq]
        rw [if_neg (by omega)]
        exact h1
      · cases hf

def repl (zs : List V) (n : Nat) : List V := (List.replicate n zs).flatten
theorem length_repl (zs : List V) (n : Nat) : (repl zs n).length = n * zs.length := by simp [repl]
theorem getElem?_repl (zs : List V) : ∀ (n i : Nat), i < n * zs.length → (repl zs n)[i]? = zs[i % zs.length]?
  | 0, i, h => by simp at h
  | n + 1, i, h => by
    simp only [repl, List.replicate_succ, List.flatten_cons]
    rw [List.getElem?_append]
    split
    · rename_i hi; rw [Nat.mod_eq_of_lt hi]
    · rename_i hi
      have := getElem?_repl zs n (i - zs.length) (by rw [Nat.add_mul] at h; omega)
      simp only [repl] at this
      rw [this, ← Nat.mod_eq_sub_mod (by omega)]

theorem LR.made {R : V → Value → Prop} {zs : List V} {z : Array Value} (h : LR R zs z.toList) (n m : Nat) (hm : m * z.size = n) : LR R (repl zs m) (madeCells z n).toList := by
  have hzl : zs.length = z.size := by simpa using h.1
  refine ⟨by simp [length_repl, madeCells, hzl, hm], fun i d u hd hu => ?_⟩
  have hi : i < m * zs.length := by have := (List.getElem?_eq_some_iff.1 hd).1; rwa [length_repl] at this
  rw [getElem?_repl zs m i hi] at hd
  have hin : i < n := by rw [← hm, ← hzl]; exact hi
  have h0 : 0 < z.size := by rcases Nat.eq_zero_or_pos z.size with e | e; · rw [hzl, e] at hi; simp at hi
                             · exact e
  have hmod : i % z.size < z.size := Nat.mod_lt _ h0
  have : (madeCells z n).toList[i]? = some z[i % z.size] := by
    simp only [madeCells, Array.toList_map, List.getElem?_map]
    simp [hin, getElem!_pos, hmod]
  rw [this] at hu
  injection hu with hu; subst hu
  rw [hzl] at hd
  exact h.2 _ d _ hd (by simp [hmod])

section
variable {κ : Cx} {ι : Nat → Nat} {st : St} {a : Act} {w : World}

def St.parts (st : St) (ps : List (Nat × Operand)) : List (Nat × V) := ps.map fun p => (p.1, st.eval p.2)
theorem parts_ok (h : RelI κ ι st a w) (ps : Array (Nat × Operand)) : (st.parts ps.toList).length = (ps.map fun (i, x) => (i, a.eval x)).toList.length ∧
    ∀ (j i : Nat) (v : V), (st.parts ps.toList)[j]? = some (i, v) → ∃ u, (ps.map fun (i, x) => (i, a.eval x)).toList[j]? = some (i, u) ∧ Rv st.o ι (Stable κ.D st.o ι w) w v u := by
  refine ⟨by simp [St.parts], fun j i v hj => ?_⟩
  simp only [St.parts, List.getElem?_map] at hj
  cases hp : ps.toList[j]? with
  | none => simp [hp] at hj
  | some p =>
    simp [hp] at hj
    obtain ⟨rfl, rfl⟩ := hj
    refine ⟨a.eval p.2, ?_, h.eval p.2⟩
    simp only [Array.toList_map, List.getElem?_map, hp, Option.map_some]

theorem run_mapM_list {α β : Type} (P : Program) (f : α → Sem β) (g : α → β) (w : World) : ∀ (l : List α), (∀ x ∈ l, (f x).run P w = .ok (g x) w) → (l.mapM f).run P w = .ok (l.map g) w
  | [], _ => by simp
  | x :: r, h => by
    have ih := run_mapM_list P f g w r fun y hy => h y (by simp [hy])
    simp [List.mapM_cons, h x (by simp), ih]
theorem run_mapM {α β : Type} (P : Program) (f : α → Sem β) (g : α → β) (w : World) (l : Array α) (h : ∀ x ∈ l.toList, (f x).run P w = .ok (g x) w) : (l.mapM f).run P w = .ok (l.map g) w := by
  rw [Array.mapM_eq_mapM_toList, Sem.run_map, run_mapM_list P f g w l.toList h]
  simp only [Result.andThen_ok]
  congr 1
  exact Array.ext' (by simp)

def fieldPlaces (P : Program) (fs : Array Field) (i : Nat) : Option (Nat × Nat) :=
  match fs[i]? with
  | some f => some (f.offset, ((P.info? f.type).map (·.size)).getD 0)
  | none => none

def aBuild (P : Program) (t : Nat) (ps : List (Nat × V)) : Option V :=
  match P.underlying t, zeroC P t with
  | some (.struct fs), some zs => if fs.all (fun f => (P.info? f.type).isSome) = true then (aFill (fieldPlaces P fs) zs ps).map .agg else none
  | some (.array _ e), some zs => match P.info? e with
    | some i => (aFill (fun j => some (j * i.size, i.size)) zs ps).map .agg
    | none => none
  | _, _ => none

theorem aBuild_ok (h : RelI κ ι st a w) {t : Nat} {ps : Array (Nat × Operand)} {v : V} (hx : aBuild κ.P t (st.parts ps.toList) = some v) :
    SemOk κ ι st.o w (Instr.build t (ps.map fun (i, x) => (i, a.eval x))) v none := by
  obtain ⟨hl, hp⟩ := parts_ok h ps
  unfold aBuild at hx
  split at hx
  · rename_i fs zs ht hz
    obtain ⟨z, i, hi, hzz, hsz, hrun, hlr⟩ := zeroC_ok hz
    split at hx
    · rename_i hall
      cases hf : aFill (fieldPlaces κ.P fs) zs (st.parts ps.toList) with
      | none => simp [hf] at hx
      | some cs =>
        simp [hf] at hx; subst hx
        obtain ⟨arr, h1, h2⟩ := aFill_ok (fieldPlaces κ.P fs) _ _ zs cs z.cells (hlr.mono fun _ _ => .pure) hl hp hf
        have hmap := run_mapM κ.P (fun f : Field => (do pure (f.offset, ← sizeOf f.type) : Sem (Nat × Nat))) (fun f => (f.offset, ((κ.P.info? f.type).map (·.size)).getD 0)) w fs (fun f hf => by
          have := Array.all_eq_true_iff_forall_mem.1 hall f (by simpa using hf)
          obtain ⟨i, hi⟩ := Option.isSome_iff_exists.1 this
          simp [run_size hi, hi])
        have hpl : (fun i => (fs.map fun f => (f.offset, ((κ.P.info? f.type).map (·.size)).getD 0))[i]?) = fieldPlaces κ.P fs := by
          funext i; simp only [fieldPlaces, Array.getElem?_map]; cases fs[i]? <;> rfl
        refine SemOk.same h (cv := .agg arr) ?_ (.agg h2.1 h2.2)
        simp only [Instr.build, Sem.run_bind, hrun, Result.andThen_ok, run_underlying ht, hmap]
        rw [hpl, h1]
        rfl
    · cases hx
  · rename_i len e zs ht hz
    obtain ⟨z, i, hi, hzz, hsz, hrun, hlr⟩ := zeroC_ok hz
    split at hx
    · rename_i inf hinf
      cases hf : aFill (fun j => some (j * inf.size, inf.size)) zs (st.parts ps.toList) with
      | none => simp [hf] at hx
      | some cs =>
        simp [hf] at hx; subst hx
        obtain ⟨arr, h1, h2⟩ := aFill_ok _ _ _ zs cs z.cells (hlr.mono fun _ _ => .pure) hl hp hf
        refine SemOk.same h (cv := .agg arr) ?_ (.agg h2.1 h2.2)
        simp only [Instr.build, Sem.run_bind, hrun, Result.andThen_ok, run_underlying ht, run_size hinf]
        rw [h1]
        rfl
    · cases hx
  · cases hx

theorem row_new (h : RelI κ ι st a w) {w1 : World} (hw1 : w1.heap = w.heap) (ho : w1.os = w.os) (ht : w1.tape = w.tape) (hout : w1.output = w.output)
    (s ty sz cap : Nat) (fz0 : Bool) (arr : Array Value) (cs : List V) (hsz : 0 < sz) (hcap : arr.size = cap * sz) (hle : cs.length ≤ arr.size)
    (hcs : ∀ (i : Nat) (d : V) (u : Value), cs[i]? = some d → arr.toList[i]? = some u → Rv st.o ι (Stable κ.D st.o ι w) w d u) :
    To κ st.o ι w (st.o.put s ⟨(st.o.get s).gen + 1, .row ty sz fz0 cs⟩) (fun t => if s = t then w.heap.size else ι t) (w1.alloc (.cells arr ty)) :=
  To.new h hw1 ho ht hout s _ _ fun T' ι' w' H hn => ⟨arr, (0, 0), cap, hn, fun i _ => by simp, hcap, hsz, hle, fun i d u hd hu => (hcs i d u hd hu).mono H⟩

theorem own_new {T : Tab} {S : Addr → Prop} {w' : World} {fz0 : Bool} (s g ty sz n cap : Nat) (cs : List V) (arr : Array Value) (fz : Nat × Nat) (hT : T.get s = ⟨g, .row ty sz fz0 cs⟩) (hh : w'.heap[ι s]? = some (.cells arr ty fz)) (hcap : arr.size = cap * sz) (hn : n ≤ cap) :
    Rv T ι S w' (.own s g 0 n) (.slice (some ⟨ι s, 0, none⟩) n cap) := by
  refine .own ⟨_, _, rfl⟩ (by rw [hT]; exact Nat.le_refl _) fun ty' sz' fz' cs' e => ?_
  rw [hT] at e
  simp at e
  obtain ⟨rfl, rfl, rfl, rfl⟩ := e
  exact ⟨_, cap, cap, arr, ty, fz, rfl, rfl, hh, hcap, by omega, by omega, fun _ => by simp⟩

theorem own_new' (s ty sz n cap : Nat) (fz0 : Bool) (cs : List V) (arr : Array Value) {w1 : World} (hw1 : w1.heap = w.heap) {S : Addr → Prop} {T : Tab} (hcap : arr.size = cap * sz) (hn : n ≤ cap) :
    Rv (wrT T (some (s, ⟨(T.get s).gen + 1, .row ty sz fz0 cs⟩))) (fun t => if s = t then w.heap.size else ι t) S (w1.alloc (.cells arr ty)) (.own s ((T.get s).gen + 1) 0 n) (.slice (some ⟨w.heap.size, 0, none⟩) n cap) := by
  have hh : (w1.alloc (.cells arr ty)).heap[(fun t => if s = t then w.heap.size else ι t) s]? = some (.cells arr ty (0, 0)) := by
    have := heap_alloc_new w1 (.cells arr ty)
    rw [hw1] at this
    simp only [if_true]
    exact this
  have := own_new (fz0 := fz0) (T := wrT T (some (s, ⟨(T.get s).gen + 1, .row ty sz fz0 cs⟩))) (ι := fun t => if s = t then w.heap.size else ι t) (S := S) s ((T.get s).gen + 1) ty sz n cap cs arr (0, 0) (by simp [wrT, Tab.get_put]) hh hcap hn
  simp only [if_true] at this
  exact this

def aBuildSlice (P : Program) (T : Tab) (t len : Nat) (ps : List (Nat × V)) (d : Nat) : Option (V × Option (Nat × Ob)) :=
  match P.underlying t with
  | some (.slice e) => match zeroC P e with
    | some zs => if len = 0 then (if ps.isEmpty = true then some (.sz, some (d, ⟨(T.get d).gen + 1, .dead⟩)) else none) else if 0 < zs.length ∧ len * zs.length ≤ 16777216 then
        (aFill (fun j => some (j * zs.length, zs.length)) (repl zs len) ps).map fun cs => (.own d ((T.get d).gen + 1) 0 len, some (d, ⟨(T.get d).gen + 1, .row e zs.length false cs⟩))
      else none
    | none => none
  | _ => none
theorem aBuildSlice_ok (h : RelI κ ι st a w) {t len d : Nat} {ps : Array (Nat × Operand)} {v : V} {wr : Option (Nat × Ob)} (hx : aBuildSlice κ.P st.o t len (st.parts ps.toList) d = some (v, wr)) :
    SemOk κ ι st.o w (Instr.buildSlice t len (ps.map fun (i, x) => (i, a.eval x))) v wr := by
  obtain ⟨hl, hp⟩ := parts_ok h ps
  unfold aBuildSlice at hx
  split at hx
  · rename_i e ht
    split at hx
    · rename_i zs hz
      obtain ⟨z, i, hi, hzz, hsz, hrun, hlr⟩ := zeroC_ok hz
      have hzl : zs.length = i.size := by rw [← hsz]; simpa using (hlr (S := fun _ => False) (w := w)).1
      split at hx
      · rename_i hl0
        subst hl0
        split at hx
        · rename_i hpe
          simp only [Option.some.injEq, Prod.mk.injEq] at hx
          obtain ⟨rfl, rfl⟩ := hx
          have hps : ps = #[] := by
            obtain ⟨l⟩ := ps
            cases l with
            | nil => rfl
            | cons x r => simp [St.parts] at hpe
          subst hps
          refine ⟨.slice (some ⟨w.heap.size, 0, none⟩) 0 0, w.alloc (.cells #[] e), _, ?_, To.new h (w1 := w) rfl rfl rfl rfl d (.cells #[] e) .dead (fun _ _ _ _ _ => trivial), .pure .sz⟩
          have hr0 : (Array.range 0) = (#[] : Array Nat) := by simp
          simp [Instr.buildSlice, run_underlying ht, run_size hi, Instr.fill, newRow, hr0]
        · cases hx
      split at hx
      · rename_i hc
        obtain ⟨h0, h24⟩ := hc
        cases hf : aFill (fun j => some (j * zs.length, zs.length)) (repl zs len) (st.parts ps.toList) with
        | none => simp [hf] at hx
        | some cs =>
          simp [hf] at hx
          obtain ⟨rfl, rfl⟩ := hx
          have hmade := (hlr (S := Stable κ.D st.o ι w) (w := w)).made (len * i.size) len (by rw [hsz])
          obtain ⟨arr, h1, h2⟩ := aFill_ok _ _ _ (repl zs len) cs (madeCells z.cells (len * i.size)) (hmade.mono fun _ _ => .pure) hl hp hf
          have harr : arr.size = len * i.size := by
            have hcs : ∀ (place : Nat → Option (Nat × Nat)) (parts : List (Nat × V)) (cs cs' : List V), aFill place cs parts = some cs' → cs'.length = cs.length := by
              intro place parts
              induction parts with
              | nil => intro cs cs' hh; simp [aFill] at hh; rw [hh]
              | cons p r ih =>
                intro cs cs' hh
                obtain ⟨j, v⟩ := p
                simp only [aFill] at hh
                split at hh
                · cases hh
                · split at hh
                  · rename_i hc'
                    have := ih _ _ hh
                    rw [this, length_splice (by omega)]
                  · cases hh
            have e1 := hcs _ _ _ _ hf
            have e2 := h2.1
            rw [length_repl, hzl] at e1
            simp at e2
            omega
          refine ⟨.slice (some ⟨w.heap.size, 0, none⟩) len len, _, _, ?_, row_new h rfl rfl rfl rfl d e zs.length len false arr cs h0 (by rw [harr, hzl]) (by rw [h2.1]; simp) (fun i d u hd hu => h2.2 i d u hd hu), ?_⟩
          · simp only [Instr.buildSlice, Sem.run_bind, run_underlying ht, Result.andThen_ok, run_size hi]
            rw [hzl] at h24 h1
            rw [if_neg (by omega)]
            by_cases hz0 : len * i.size = 0
            · simp only [hz0, if_true]
              simp only [hz0] at h1
              have hm : madeCells z.cells 0 = #[] := by simp [madeCells]
              rw [hm] at h1
              have hm' : ((Array.range 0).map fun (x : Nat) => (#[] : Array Value)[x % (#[] : Array Value).size]!) = #[] := by simp
              rw [Sem.run_bind, Sem.run_pure, Result.andThen_ok, hm', h1]
              simp [newRow]
            · simp only [hz0, if_false]
              simp only [madeCells] at h1
              rw [Sem.run_bind, hrun, Result.andThen_ok, Sem.run_bind, Sem.run_pure, Result.andThen_ok, h1]
              simp [newRow]
          · exact own_new' d e zs.length len len false cs arr rfl (by rw [harr, hzl]) (Nat.le_refl _)
      · cases hx
    · cases hx
  · cases hx

end
end Go.Abs
