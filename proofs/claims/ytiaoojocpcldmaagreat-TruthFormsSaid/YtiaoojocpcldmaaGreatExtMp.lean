/- Maps whose keys are numbers. -/
import Derived.Test.YtiaoojocpcldmaaGreatExtW
namespace Go.Abs
open Go.RowKit
set_option linter.unusedVariables false
set_option linter.unusedSimpArgs false

def mget {α : Type} (d : α) (k : Int) : List (Int × α) → α
  | [] => d
  | p :: r => bif p.1 == k then p.2 else mget d k r
def mhas {α : Type} (k : Int) : List (Int × α) → Bool
  | [] => false
  | p :: r => bif p.1 == k then true else mhas k r
def mput {α : Type} (k : Int) (x : α) : List (Int × α) → List (Int × α)
  | [] => [(k, x)]
  | p :: r => bif p.1 == k then (k, x) :: r else p :: mput k x r

/-- What the model finds is what is found. -/
theorem findNow_mp {α : Type} (n : Int) {R : α → Value → Prop} : ∀ (l : List (Int × α)) (es : List MapEntry) (i : Nat), es.length = l.length →
    (∀ (i : Nat) (p : Int × α) (x : MapEntry), l[i]? = some p → es[i]? = some x → x.key = .int .i64 p.1 ∧ R p.2 x.val) →
    (Instr.findNow (.int .i64) (.int .i64 n) es i = some none ∧ mhas n l = false ∧ (∀ z, mget z n l = z) ∧ ∀ x, mput n x l = l ++ [(n, x)]) ∨
    ∃ j e p, Instr.findNow (.int .i64) (.int .i64 n) es i = some (some (i + j, e.val)) ∧ es[j]? = some e ∧ l[j]? = some p ∧ p.1 = n ∧ mhas n l = true ∧ (∀ z, mget z n l = p.2) ∧ ∀ x, mput n x l = l.set j (n, x)
  | [], es, i, hl, _ => by
    have : es = [] := List.eq_nil_of_length_eq_zero (by simpa using hl)
    subst this
    exact .inl ⟨rfl, rfl, fun _ => rfl, fun _ => rfl⟩
  | p :: l, [], i, hl, _ => by simp at hl
  | p :: l, x :: es, i, hl, h => by
    obtain ⟨hk, hv⟩ := h 0 p x rfl rfl
    by_cases e : p.1 = n
    · refine .inr ⟨0, x, p, ?_, rfl, rfl, e, ?_, fun z => ?_, fun y => ?_⟩
      · simp [Instr.findNow, Instr.sameNow, hk, e]
      · simp [mhas, e]
      · simp [mget, e]
      · simp [mput, e]
    · have ih := findNow_mp n (R := R) l es (i + 1) (by simpa using hl) fun i p x hp hx => h (i + 1) p x (by simpa using hp) (by simpa using hx)
      have hf : Instr.findNow (.int .i64) (.int .i64 n) (x :: es) i = Instr.findNow (.int .i64) (.int .i64 n) es (i + 1) := by
        have e' : (n == p.1) = false := by simpa using fun q => e (Eq.symm q)
        simp [Instr.findNow, Instr.sameNow, hk, e']
      have hb : (p.1 == n) = false := by simp [e]
      rcases ih with ⟨h1, h2, h3, h4⟩ | ⟨j, e1, p1, h1, h2, h3, h4, h5, h6, h7⟩
      · refine .inl ⟨hf.trans h1, ?_, fun z => ?_, fun y => ?_⟩
        · simp [mhas, hb, h2]
        · simp [mget, hb, h3]
        · simp [mput, hb, h4]
      · refine .inr ⟨j + 1, e1, p1, ?_, by simpa using h2, by simpa using h3, h4, ?_, fun z => ?_, fun y => ?_⟩
        · rw [hf, h1]; simp; omega
        · simp [mhas, hb, h5]
        · simp [mget, hb, h6]
        · simp [mput, hb, h7]

section
variable {κ : Cx} {ι : Nat → Nat} {st : St} {a : Act} {w : World}

/-- A type's zero value, as one value of Lean's own. -/
def zeroM (P : Program) (te : Ty) (e : Nat) : Option te.I := match P.info? e with
  | some i => match i.zero with
    | some zv => match ofVal zv with
      | some d => impV te d
      | none => none
    | none => none
  | none => none
theorem zeroM_ok {P : Program} {te : Ty} {e : Nat} {x : te.I} (h : zeroM P te e = some x) : ∃ zv, (∀ w, (zeroValue e).run P w = .ok zv w) ∧ ∀ (S : Addr → Prop) (w : World), Rp S w (valW te x) zv := by
  unfold zeroM at h
  split at h
  case h_2 => cases h
  rename_i i hi
  split at h
  case h_2 => cases h
  rename_i zv hz
  split at h
  case h_2 => cases h
  rename_i d hd
  exact ⟨zv, run_zero hi hz, fun S w => impV_rv (T := []) (ι := fun _ => 0) h (.pure (ofVal_rp hd))⟩

def nMap (P : Program) (T : Tab) (t d : Nat) : Option (V × Option (Nat × Ob)) := match P.underlying t with
  | some (.map k e) => match P.underlying k with
    | some (.int .i64) => match tyOf P 8 e with
      | some te => some (.mp d ((T.get d).gen + 1), some (d, ⟨(T.get d).gen + 1, .mp ⟨te, []⟩⟩))
      | none => none
    | _ => none
  | _ => none
theorem nMap_ok (h : RelI κ ι st a w) {t d : Nat} {v : V} {wr : Option (Nat × Ob)} (hx : nMap κ.P st.o t d = some (v, wr)) : SemOk κ ι st.o w (Instr.makeMap t none) v wr := by
  unfold nMap at hx
  split at hx
  case h_2 => cases hx
  rename_i k e ht
  split at hx
  case h_2 => cases hx
  rename_i hk
  split at hx
  case h_2 => cases hx
  rename_i te hte
  simp only [Option.some.injEq, Prod.mk.injEq] at hx
  obtain ⟨rfl, rfl⟩ := hx
  refine ⟨.map (some w.heap.size), w.alloc (.map #[] 0), _, ?_, To.new h (w1 := w) rfl rfl rfl rfl d (.map #[] 0) (.mp ⟨te, []⟩) (fun T' ι' w' H hn => ⟨#[], 0, hn, rfl, fun i p x hp _ => by simp at hp⟩), ?_⟩
  · simp [Instr.makeMap, Result.andThen]
  · exact .mp ⟨_, rfl⟩ (by simp [wrT, Tab.get_put]) fun _ _ => by simp

def nLook (P : Program) (T : Tab) (t : Nat) (x k : V) (ok : Bool) : Option V := match P.underlying t, x, k with
  | some (.map kt e), .mp s g, .int .i64 n => match P.underlying kt with
    | some (.int .i64) => if (T.get s).gen = g then (match (T.get s).k with
      | .mp M => if (isOneT M.e || isAggT M.e) = true then (match zeroM P M.e e with
        | some z => some (bif ok then .tup [valW M.e (mget z n M.l), .bs (mhas n M.l)] else valW M.e (mget z n M.l))
        | none => none) else none
      | _ => none) else none
    | _ => none
  | _, _, _ => none
theorem nLook_ok (h : RelI κ ι st a w) {t : Nat} {x k v : V} {ok : Bool} {cx ck : Value} (hr : Rv st.o ι (Stable κ.D st.o ι w) w x cx) (hk : Rv st.o ι (Stable κ.D st.o ι w) w k ck)
    (hx : nLook κ.P st.o t x k ok = some v) : SemOk κ ι st.o w (Instr.lookup t cx ck ok) v none := by
  unfold nLook at hx
  split at hx
  case h_2 => cases hx
  rename_i kt e s g n ht
  split at hx
  case h_2 => cases hx
  rename_i hkt
  split at hx
  case isFalse => cases hx
  rename_i hg
  split at hx
  case h_2 => cases hx
  rename_i M hM
  split at hx
  case isFalse => cases hx
  rename_i hone
  split at hx
  case h_2 => cases hx
  rename_i z hz
  injection hx with hx; subst hx
  have hl : st.o.live s := by simp [Tab.live, hM, OK.live]
  have := hr.mp_ hg hl
  subst this
  have := hk.int_
  subst this
  have hob := h.tr.ob s
  rw [hM] at hob
  obtain ⟨es, clock, hb, hsz, hes⟩ := hob
  obtain ⟨zv, h5, h6⟩ := zeroM_ok hz
  have hkey : MapKept.IsKey (.int .i64) (.int .i64 n) := by simp [MapKept.IsKey]
  have hone' : isOneT M.e = true ∨ isAggT M.e = true := by simpa using hone
  have hrun : ∀ (a : Option (Nat × Value)), Instr.findNow (.int .i64) (.int .i64 n) es.toList 0 = some a →
      (Instr.lookup t (.map (some (ι s))) (.int .i64 n) ok).run κ.P w = .ok (match a with
        | some (_, v) => if ok = true then .tuple #[v, .bool true] else v
        | none => if ok = true then .tuple #[zv, .bool false] else zv) w := fun a ha => by
    simp only [Instr.lookup, Sem.run_bind, run_underlying ht, Result.andThen_ok, MapKept.run_getObj_map hb, MapKept.run_checkKey hkt hkey, MapKept.run_findKey hkt ha, Sem.run_pure]
    cases a with
    | none => simp only [Sem.run_bind, h5, Result.andThen_ok, Sem.run_pure]
    | some p => rfl
  have fin : ∀ (y : M.e.I) (u : Value) (b : Bool), Rp (Stable κ.D st.o ι w) w (valW M.e y) u →
      Rv st.o ι (Stable κ.D st.o ι w) w (bif ok then .tup [valW M.e y, .bs b] else valW M.e y) (if ok = true then .tuple #[u, .bool b] else u) := fun y u b h0 => by
    cases ok with
    | true => exact .pure (.tup (vs := [u, .bool b]) rfl (LR.cons h0 (.cons (.bs (.bool b)) .nil)).2)
    | false => exact .pure h0
  rcases findNow_mp n (R := fun y u => Rp (Stable κ.D st.o ι w) w (vOf M.e (cellsV M.e y)) u) M.l es.toList 0 (by simpa using hsz) hes with ⟨a1, a2, a3, _⟩ | ⟨j, e1, p, a1, a2, a3, a4, a5, a6, _⟩
  · refine SemOk.same h (hrun _ a1) ?_
    rw [a2, a3]
    exact fin z zv false (h6 _ _)
  · refine SemOk.same h (hrun _ a1) ?_
    rw [a5, a6]
    exact fin p.2 e1.val true (valW_vOf (hes j p e1 a3 a2).2 hone')

def nUpd (P : Program) (T : Tab) (t : Nat) (x k v : V) : Option (Option (Nat × Ob)) := match P.underlying t, x, k with
  | some (.map kt e), .mp s g, .int .i64 n => match P.underlying kt with
    | some (.int .i64) => if (T.get s).gen = g then (match (T.get s).k with
      | .mp M => match impV M.e v with
        | some y => some (some (s, ⟨g, .mp ⟨M.e, mput n y M.l⟩⟩))
        | none => none
      | _ => none) else none
    | _ => none
  | _, _, _ => none
theorem nUpd_ok (h : RelI κ ι st a w) {t : Nat} {x k v : V} {cx ck cv : Value} {wr : Option (Nat × Ob)} (hr : Rv st.o ι (Stable κ.D st.o ι w) w x cx) (hk : Rv st.o ι (Stable κ.D st.o ι w) w k ck)
    (hv : Rv st.o ι (Stable κ.D st.o ι w) w v cv) (hx : nUpd κ.P st.o t x k v = some wr) : ∃ w' ι', (Instr.mapUpdate t cx ck cv).run κ.P w = .ok () w' ∧ To κ st.o ι w (wrT st.o wr) ι' w' := by
  unfold nUpd at hx
  split at hx
  case h_2 => cases hx
  rename_i kt e s g n ht
  split at hx
  case h_2 => cases hx
  rename_i hkt
  split at hx
  case isFalse => cases hx
  rename_i hg
  split at hx
  case h_2 => cases hx
  rename_i M hM
  split at hx
  case h_2 => cases hx
  rename_i y hy
  injection hx with hx; subst hx
  have hl : st.o.live s := by simp [Tab.live, hM, OK.live]
  have := hr.mp_ hg hl
  subst this
  have := hk.int_
  subst this
  have hob := h.tr.ob s
  rw [hM] at hob
  obtain ⟨es, clock, hb, hsz, hes⟩ := hob
  have hkey : MapKept.IsKey (.int .i64) (.int .i64 n) := by simp [MapKept.IsKey]
  have hyv : Rp (Stable κ.D st.o ι w) w (vOf M.e (cellsV M.e y)) cv := (impOne_rv (impC_rv M.e) hy hv).pure_ (vOf_pure (leaf_cellsV M.e y))
  have turn : ∀ (es' : Array MapEntry) (clock' : Nat) (l' : List (Int × M.e.I)), es'.size = l'.length →
      (∀ (i : Nat) (p : Int × M.e.I) (x : MapEntry), l'[i]? = some p → es'.toList[i]? = some x → x.key = .int .i64 p.1 ∧ Rp (Stable κ.D st.o ι w) w (vOf M.e (cellsV M.e p.2)) x.val) →
      To κ st.o ι w (st.o.put s ⟨g, .mp ⟨M.e, l'⟩⟩) ι { w with heap := w.heap.setIfInBounds (ι s) (.map es' clock') } := fun es' clock' l' h1 h2 => by
    refine To.turn (w' := { w with heap := w.heap.setIfInBounds (ι s) (.map es' clock') }) h s hl ⟨g, _⟩ rfl rfl rfl (by simp) (fun j hj => by simp [Array.getElem?_setIfInBounds_ne (Ne.symm hj)]) (by simp [hg]) (fun p _ hp => by simp [hM, OK.fzAt] at hp) (fun _ _ _ _ e => by simp at e) (fun T' ι' H => ?_) (hsh := fun arr ty fz e => by rw [hb] at e; injection e with e; cases e)
    refine ⟨es', clock', by simp [h.tr.lt s hl], h1, fun i p x hp hx => ⟨(h2 i p x hp hx).1, (h2 i p x hp hx).2.mono H.st⟩⟩
  rcases findNow_mp n (R := fun y u => Rp (Stable κ.D st.o ι w) w (vOf M.e (cellsV M.e y)) u) M.l es.toList 0 (by simpa using hsz) hes with ⟨a1, _, _, a4⟩ | ⟨j, e1, p, a1, a2, a3, a4, _, _, a7⟩
  · refine ⟨{ w with heap := w.heap.setIfInBounds (ι s) (.map (es.push { key := .int .i64 n, val := cv, born := clock }) (clock + 1)) }, ι, ?_, ?_⟩
    rotate_left
    · rw [a4 y]
      refine turn (es.push { key := .int .i64 n, val := cv, born := clock }) (clock + 1) _ (by simp [hsz]) fun i p x hp hx => ?_
      simp only [Array.toList_push] at hx
      rw [List.getElem?_append] at hp hx
      have hszl : es.toList.length = M.l.length := by simpa using hsz
      rw [hszl] at hx
      split at hp
      · rename_i hi
        rw [if_pos hi] at hx
        exact hes i p x hp hx
      · rename_i hi
        rw [if_neg hi] at hx
        generalize i - M.l.length = q at hp hx
        cases q with
        | zero =>
          simp at hp hx
          subst hp hx
          exact ⟨rfl, hyv⟩
        | succ q => simp at hp
    · simp only [Instr.mapUpdate, Sem.run_bind, run_underlying ht, Result.andThen_ok, MapKept.run_getObj_map hb, MapKept.run_checkKey hkt hkey, MapKept.run_findKey hkt a1]
      exact MapKept.run_setObj_map _ hb
  · have hj : es[j]? = some e1 := by simpa using a2
    have hke : e1.key = .int .i64 n := by rw [(hes j p e1 a3 a2).1, a4]
    refine ⟨{ w with heap := w.heap.setIfInBounds (ι s) (.map (es.modify j fun e => { e with key := .int .i64 n, val := cv }) clock) }, ι, ?_, ?_⟩
    rotate_left
    · rw [a7 y]
      refine turn (es.modify j fun e => { e with key := .int .i64 n, val := cv }) clock _ (by simp [hsz]) fun i p' x hp hx => ?_
      have hx' : (es.modify j fun e => { e with key := .int .i64 n, val := cv })[i]? = some x := by rw [← Array.getElem?_toList]; exact hx
      rw [Array.getElem?_modify] at hx'
      rw [List.getElem?_set] at hp
      by_cases hij : j = i
      · subst hij
        rw [if_pos rfl, hj] at hx'
        simp at hx'
        subst hx'
        have hlt : j < M.l.length := (List.getElem?_eq_some_iff.1 a3).1
        simp [hlt] at hp
        subst hp
        exact ⟨rfl, hyv⟩
      · rw [if_neg hij] at hx' hp
        exact hes i p' x hp (by simpa using hx')
    · have h0 : (0 : Nat) + j = j := Nat.zero_add j
      rw [h0] at a1
      simp only [Instr.mapUpdate, Sem.run_bind, run_underlying ht, Result.andThen_ok, MapKept.run_getObj_map hb, MapKept.run_checkKey hkt hkey, MapKept.run_findKey hkt a1, hj, Option.map_some, Option.getD_some, hke, MapKept.run_keyThatStays hkey]
      exact MapKept.run_setObj_map _ hb

def mLen (P : Program) (T : Tab) (t : Nat) (x : V) : Option V := match P.underlying t, x with
  | some (.map _ _), .mp s g => if (T.get s).gen = g then (match (T.get s).k with
    | .mp M => some (.int .i64 M.l.length)
    | _ => none) else none
  | _, _ => none
theorem mLen_ok (h : RelI κ ι st a w) {t ty : Nat} {x v : V} {cx : Value} {ts : Array TypeId} (hts : ts[0]? = some t) (hr : Rv st.o ι (Stable κ.D st.o ι w) w x cx) (hx : mLen κ.P st.o t x = some v) :
    SemOk κ ι st.o w (Builtin.len_ ts ty #[cx]) v none := by
  unfold mLen at hx
  split at hx
  case h_2 => cases hx
  rename_i k e s g ht
  split at hx
  case isFalse => cases hx
  rename_i hg
  split at hx
  case h_2 => cases hx
  rename_i M hM
  injection hx with hx; subst hx
  have hl : st.o.live s := by simp [Tab.live, hM, OK.live]
  have := hr.mp_ hg hl
  subst this
  have hob := h.tr.ob s
  rw [hM] at hob
  obtain ⟨es, clock, hb, hsz, hes⟩ := hob
  refine SemOk.same h (cv := .int .i64 M.l.length) ?_ (.pure (.int _ _))
  simp [Builtin.len_, hts, run_underlying ht, MapKept.run_getObj_map hb, goInt, Result.andThen, hsz]
end
end Go.Abs
