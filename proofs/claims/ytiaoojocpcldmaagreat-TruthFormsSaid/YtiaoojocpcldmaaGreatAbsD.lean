/- More operations on memory: stores, addresses, structs and slices built, strings gone through. -/
import Derived.Test.YtiaoojocpcldmaaGreatAbsC
import Derived.Laws.MakeOwn
namespace Go.Abs
open Go.RowKit
set_option linter.unusedVariables false
set_option linter.unusedSimpArgs false

def UnitOk (κ : Cx) (ι : Nat → Nat) (T : Tab) (w : World) (s : Sem Unit) (wr : Option (Nat × Ob)) : Prop :=
  ∃ w' ι', s.run κ.P w = .ok () w' ∧ To κ T ι w (wrT T wr) ι' w'

def splice (cs : List V) (off : Nat) (vs : List V) : List V := cs.take off ++ (vs ++ cs.drop (off + vs.length))
theorem LR.splice {R : V → Value → Prop} {cs : List V} {us : List Value} {vs : List V} {ws : List Value} (h : LR R cs us) (h' : LR R vs ws) (off : Nat) :
    LR R (splice cs off vs) (us.take off ++ (ws ++ us.drop (off + ws.length))) := by
  unfold Abs.splice
  rw [h'.1]
  exact (h.take off).append (h'.append (h.drop _))
theorem length_splice {cs vs : List V} {off : Nat} (h : off + vs.length ≤ cs.length) : (splice cs off vs).length = cs.length := by
  simp [splice]; omega

section
variable {κ : Cx} {ι : Nat → Nat} {st : St} {a : Act} {w : World}

def V.isU : V → Bool
  | .undef => true
  | _ => false
theorem V.isU_ne {v : V} (h : v.isU = false) : v ≠ .undef := by rintro rfl; cases h

theorem splice_prefix {R : V → Value → Prop} {cs vs : List V} {us ws : List Value} (hle : cs.length ≤ us.length)
    (h : ∀ (i : Nat) (d : V) (u : Value), cs[i]? = some d → us[i]? = some u → R d u) (h' : LR R vs ws) {off : Nat} (hoff : off + vs.length ≤ cs.length) :
    ∀ (i : Nat) (d : V) (u : Value), (splice cs off vs)[i]? = some d → (us.take off ++ (ws ++ us.drop (off + ws.length)))[i]? = some u → R d u := by
  intro i d u hd hu
  have hl := h'.1
  unfold splice at hd
  rw [List.getElem?_append, List.getElem?_append] at hd hu
  have e1 : (cs.take off).length = off := by simp; omega
  have e2 : (us.take off).length = off := by simp; omega
  rw [e1] at hd
  rw [e2] at hu
  by_cases h1 : i < off
  · rw [if_pos h1, List.getElem?_take, if_pos h1] at hd hu
    exact h i d u hd hu
  · rw [if_neg h1] at hd hu
    rw [hl] at hd
    by_cases h2 : i - off < ws.length
    · rw [if_pos h2] at hd hu
      exact h'.2 _ d u hd hu
    · rw [if_neg h2, List.getElem?_drop] at hd hu
      exact h _ d u hd hu

def aStore (P : Program) (T : Tab) (t : Nat) (x v : V) : Option (Option (Nat × Ob)) :=
  match x with
  | .ptr s g off =>
    match P.info? t with
    | some i =>
      if v.isU = false ∧ (T.get s).gen = g ∧ v.cells.length = i.size ∧ v.cells.all V.cellOk = true then
        match (T.get s).k with
        | .box ty cs => if off + i.size ≤ cs.length then some (some (s, ⟨g, .box ty (splice cs off v.cells)⟩)) else none
        | .row ty sz false cs => if off + i.size ≤ cs.length then some (some (s, ⟨g, .row ty sz false (splice cs off v.cells)⟩)) else none
        | _ => none
      else none
    | none => none
  | _ => none

theorem aStore_ok (h : RelI κ ι st a w) {t : Nat} {x v : V} {cx cv : Value} {wr : Option (Nat × Ob)} (hrx : Rv st.o ι (Stable κ.D st.o ι w) w x cx)
    (hrv : Rv st.o ι (Stable κ.D st.o ι w) w v cv) (hx : aStore κ.P st.o t x v = some wr) : UnitOk κ ι st.o w (Instr.storeAt t cx cv) wr := by
  unfold aStore at hx
  split at hx
  · rename_i s g off
    split at hx
    · rename_i i hi
      split at hx
      · rename_i hc
        obtain ⟨hne, hg, hlen, hall⟩ := hc
        have hlr := cells_lr (V.isU_ne hne) hrv
        have hsz : cv.cells.size = i.size := by rw [← hlen]; simpa using hlr.1.symm
        have hszl : cv.cells.toList.length = i.size := by simpa using hsz
        have hone : ∀ u ∈ cv.cells.toList, u.oneCell' = true := by
          intro u hu
          obtain ⟨j, hj⟩ := List.mem_iff_getElem?.1 hu
          have hjl : j < v.cells.length := by rw [hlr.1]; exact (List.getElem?_eq_some_iff.1 hj).1
          exact cell_one (List.all_eq_true.1 hall _ (List.getElem_mem hjl)) (hlr.2 j _ u (List.getElem?_eq_getElem hjl) hj)
        have hob := h.tr.ob s
        have key : ∀ (ty : Nat) (cs : List V) (arr : Array Value) (fz : Nat × Nat), w.heap[ι s]? = some (.cells arr ty fz) → (∀ j, j < arr.size → ¬ (fz.1 ≤ j ∧ j < fz.2)) →
            cs.length ≤ arr.size → off + i.size ≤ cs.length → st.o.live s →
            (Instr.storeAt t cx cv).run κ.P w = .ok () (w.setRow (ι s) (arr.toList.take off ++ (cv.cells.toList ++ arr.toList.drop (off + cv.cells.toList.length))).toArray) := by
          intro ty cs arr fz hh hf hle hoff hl
          have hp := hrx.ptr_ hg hl
          subst hp
          have hst := run_storeCells_fz κ.P (ι s) off ty fz cv.cells.toList 0 arr w hh hf (by simp [hsz]; omega) hone
          simp only [Nat.add_zero, List.append_assoc] at hst
          simp only [Instr.storeAt, Instr.sureAddr, storeVar, Sem.run_bind, Sem.run_pure, Result.andThen_ok, run_size hi, hsz, ne_eq, not_true_eq_false, if_false, hst]
        split at hx
        · rename_i ty cs hk
          rw [hk] at hob
          obtain ⟨arr, fz, hh, hf, has, hc⟩ := hob
          split at hx
          · rename_i hoff
            injection hx with hx; subst hx
            have hl : st.o.live s := by simp [Tab.live, hk, OK.live]
            have hns : (arr.toList.take off ++ (cv.cells.toList ++ arr.toList.drop (off + cv.cells.toList.length))).toArray.size = arr.size := by simp [hsz]; omega
            refine ⟨_, ι, key ty cs arr fz hh hf (by omega) hoff hl, ?_⟩
            refine To.turn h s hl ⟨g, _⟩ rfl rfl rfl (by simp) (fun j hj => setRow_other w (ι s) j _ hj) (by simp [hg]) (fun p _ hp => by simp [hk, OK.fzAt] at hp) (fun ty' sz fz' cs' e => by simp at e) ?_ (hsh := Shape.of hh (setRow_heap w (ι s) arr _ ty fz hh) hns)
            intro T' ι' H
            refine ⟨_, fz, setRow_heap w (ι s) arr _ ty fz hh, fun j hj => hf j (by rw [hns] at hj; exact hj), by rw [hns, length_splice (by omega)]; exact has, ?_⟩
            exact splice_prefix (by simp [has]) (fun j d u hd hu => (hc j d u hd hu).mono H) (hlr.mono fun d u hd => hd.mono H) (by omega)
          · cases hx
        · rename_i ty sz cs hk
          rw [hk] at hob
          obtain ⟨arr, fz, cap, hh, hf, has, hsz0, hle, hc⟩ := hob
          split at hx
          · rename_i hoff
            injection hx with hx; subst hx
            have hl : st.o.live s := by simp [Tab.live, hk, OK.live]
            have hns : (arr.toList.take off ++ (cv.cells.toList ++ arr.toList.drop (off + cv.cells.toList.length))).toArray.size = arr.size := by simp [hsz]; omega
            have hnew := setRow_heap w (ι s) arr (arr.toList.take off ++ (cv.cells.toList ++ arr.toList.drop (off + cv.cells.toList.length))).toArray ty fz hh
            refine ⟨_, ι, key ty cs arr fz hh (fun j hj => hf j (.inl hj)) hle hoff hl, ?_⟩
            refine To.turn h s hl ⟨g, _⟩ rfl rfl rfl (by simp) (fun j hj => setRow_other w (ι s) j _ hj) (by simp [hg]) (fun p _ hp => by simp [hk, OK.fzAt] at hp) (fun ty' sz' fz' cs' e _ => ?_) ?_ (hsh := Shape.of hh hnew hns)
            · simp at e
              obtain ⟨rfl, rfl, rfl, rfl⟩ := e
              refine ⟨⟨ty, _, cs, hk⟩, fun arr1 ty1 fz1 h1 => ?_⟩
              rw [hh] at h1
              injection h1 with h1; injection h1 with e1 e2 e3; subst e1
              exact ⟨_, _, _, hnew, hns⟩
            · intro T' ι' H
              refine ⟨_, fz, cap, hnew, fun j hj => hf j (by rw [hns] at hj; exact hj), by rw [hns]; exact has, hsz0, by rw [hns, length_splice (by omega)]; exact hle, ?_⟩
              exact splice_prefix (by simpa using hle) (fun j d u hd hu => (hc j d u hd hu).mono H) (hlr.mono fun d u hd => hd.mono H) (by omega)
          · cases hx
        · cases hx
      · cases hx
    · cases hx
  · cases hx

/-- An address, so many cells on. -/
def aOff (x : V) (n : Nat) : Option V :=
  match x with
  | .ptr t g off => some (.ptr t g (off + n))
  | .cref cs => if n ≤ cs.length then some (.cref (cs.drop n)) else none
  | .eref X off => some (.eref X (off + n))
  | .eptr t g sz i off => some (.eptr t g sz i (off + n))
  | _ => none
theorem aOff_ok {T : Tab} {S : Addr → Prop} {x y : V} {cx : Value} {n : Nat} (hr : Rv T ι S w x cx) (hx : aOff x n = some y) :
    ∃ ad, cx = .pointer (some ad) ∧ Rv T ι S w y (.pointer (some (ad.add n))) := by
  unfold aOff at hx
  split at hx
  · rename_i t g off
    injection hx with hx; subst hx
    cases hr with
    | pure h => cases h
    | ptr hv hg h =>
      obtain ⟨ad, rfl⟩ := hv
      refine ⟨ad, rfl, .ptr ⟨_, rfl⟩ hg fun e hl => ?_⟩
      have := h e hl
      injection this with this; injection this with this; subst this
      congr 2
      unfold Addr.add; split <;> simp_all
  · rename_i cs
    split at hx
    · injection hx with hx; subst hx
      obtain ⟨ad, vs, rfl, hm, hl, hh⟩ := hr.cref_
      refine ⟨ad, rfl, .pure (.cref (vs := vs.drop n) (fun i u hu => ?_) (by simp [hl]) (fun i d u hd hu => ?_))⟩
      · rw [List.getElem?_drop] at hu
        rw [add_add]
        exact hm _ u hu
      · rw [List.getElem?_drop] at hd hu
        exact hh _ d u hd hu
    · cases hx
  · rename_i X off
    injection hx with hx; subst hx
    obtain ⟨ad, vs, rfl, hm, hl, hh⟩ := (Rv.pure hr.eref_).cref_ (T := T) (ι := ι)
    refine ⟨ad, rfl, .pure (.eref (.cref (vs := vs.drop n) (fun i u hu => ?_) (by rw [← List.drop_drop]; simp [← hl]; try omega) (fun i d u hd hu => ?_)))⟩
    · rw [List.getElem?_drop] at hu
      rw [add_add]
      exact hm _ u hu
    · rw [← List.drop_drop, List.getElem?_drop] at hd
      rw [List.getElem?_drop] at hu
      exact hh _ d u hd hu
  · rename_i t g sz i off
    injection hx with hx; subst hx
    cases hr with
    | pure h => cases h
    | eptr hv hg h =>
      obtain ⟨ad, rfl⟩ := hv
      refine ⟨ad, rfl, .eptr ⟨_, rfl⟩ hg fun ty fz nl L hT => ?_⟩
      obtain ⟨a1, a2, a3⟩ := h _ _ _ _ hT
      refine ⟨a1, a2, ?_⟩
      injection a3 with a3; injection a3 with a3; subst a3
      congr 2
      unfold Addr.add; split <;> simp_all [Nat.add_assoc]
  · cases hx

def aField (P : Program) (s : Nat) (x : V) (f : Nat) : Option V :=
  match P.underlying s with
  | some (.struct fs) => match fs[f]? with
    | some fd => match P.info? fd.type with
      | some i => if i.size = 0 then none else aOff x fd.offset
      | none => none
    | none => none
  | _ => none
theorem aField_ok (h : RelI κ ι st a w) {s f : Nat} {x v : V} {cx : Value} (hr : Rv st.o ι (Stable κ.D st.o ι w) w x cx) (hx : aField κ.P s x f = some v) :
    SemOk κ ι st.o w (Instr.fieldAt s cx f) v none := by
  unfold aField at hx
  split at hx
  · rename_i fs hs
    split at hx
    · rename_i fd hf
      split at hx
      · rename_i i hi
        split at hx
        · cases hx
        · rename_i h0
          obtain ⟨ad, rfl, hv⟩ := aOff_ok hr hx
          refine SemOk.same h ?_ hv
          simp [Instr.fieldAt, run_underlying hs, hf, Instr.sureAddr, fieldPlace, run_size hi, h0]
      · cases hx
    · cases hx
  · cases hx

/-- An array that stands as a row of its own. -/
def isArr (x : V) (size len : Nat) : Bool := match x with
  | .eptr _ _ sz 0 0 => sz == size && len != 1
  | _ => false
def aArrIx (T : Tab) (x : V) (size len : Nat) (i : Int) : Option V := match x with
  | .eptr s g _ 0 0 => if (T.get s).gen = g then (match (T.get s).k with
    | .nrow _ _ _ L => if L.e.size = size ∧ 0 ≤ i ∧ i < L.l.length ∧ i < len then some (.eptr s g size i.toNat 0) else none
    | _ => none) else none
  | _ => none
def aIndexAddr (P : Program) (T : Tab) (t : Nat) (x ix : V) : Option V :=
  match ix with
  | .int _ i =>
    match P.underlying t with
    | some (.array len e) => match P.info? e with
      | some inf => if isArr x inf.size len = true then aArrIx T x inf.size len i else if 0 ≤ i ∧ i < len then aOff x (i.toNat * inf.size) else none
      | none => none
    | some (.slice e) => match P.info? e with
      | some inf => match x with
        | .own s g off n => if 0 ≤ i ∧ i < n ∧ (T.get s).gen = g then (match (T.get s).k with
            | .row _ sz _ _ => if sz = inf.size then some (.ptr s g ((off + i.toNat) * sz)) else none
            | _ => none) else none
        | .sl n cs => if 0 ≤ i ∧ i < n ∧ (i.toNat + 1) * inf.size ≤ cs.length then some (.cref ((cs.drop (i.toNat * inf.size)).take inf.size)) else none
        | .lst L => if L.e.size = inf.size then (if 0 ≤ i ∧ i < L.l.length then some (.eref ⟨L.e, L.l.getD i.toNat L.e.dflt⟩ 0) else none) else none
        | .acc s g => if (T.get s).gen = g then (match (T.get s).k with
            | .nrow _ _ _ L => if L.e.size = inf.size then (if 0 ≤ i ∧ i < L.l.length then some (.eptr s g inf.size i.toNat 0) else none) else none
            | _ => none) else none
        | _ => none
      | none => none
    | _ => none
  | _ => none
theorem aIndexAddr_ok (h : RelI κ ι st a w) {t : Nat} {x ix v : V} {cx ci : Value} (hr : Rv st.o ι (Stable κ.D st.o ι w) w x cx) (hi : Rv st.o ι (Stable κ.D st.o ι w) w ix ci)
    (hx : aIndexAddr κ.P st.o t x ix = some v) : SemOk κ ι st.o w (Instr.indexAt t cx ci) v none := by
  unfold aIndexAddr at hx
  split at hx
  · rename_i k i
    have := hi.int_; subst this
    split at hx
    · rename_i len e ht
      split at hx
      · rename_i inf hinf
        split at hx
        · rename_i hA
          unfold aArrIx at hx
          split at hx
          · rename_i s g sz
            split at hx
            · rename_i hg
              split at hx
              · rename_i ty fz nl L hk
                split at hx
                · rename_i hc
                  obtain ⟨hsz, h0, h1, h2⟩ := hc
                  injection hx with hx; subst hx
                  have hT : st.o.get s = ⟨g, .nrow ty fz nl L⟩ := by cases hTs : st.o.get s; rw [hTs] at hk hg; simp at hk hg; subst hk hg; rfl
                  obtain ⟨hse, hil, rfl⟩ := hr.eptr_ hT
                  refine SemOk.same h (cv := .pointer (some ((⟨ι s, 0 * sz + 0, none⟩ : Addr).add (i.toNat * inf.size)))) ?_ ?_
                  · simp [Instr.indexAt, asIntOf, run_underlying ht, Instr.sureAddr, h0, h2, run_size hinf]
                  · refine .eptr ⟨_, rfl⟩ (by omega) fun ty' fz' nl' L' e => ?_
                    rw [hT] at e
                    simp at e
                    obtain ⟨rfl, rfl, rfl, rfl⟩ := e
                    refine ⟨hsz.symm, by omega, ?_⟩
                    congr 2
                    unfold Addr.add
                    split <;> simp_all [isArr]
                · cases hx
              · cases hx
            · cases hx
          · cases hx
        split at hx
        · rename_i hc
          obtain ⟨ad, rfl, hv⟩ := aOff_ok hr hx
          refine SemOk.same h ?_ hv
          simp [Instr.indexAt, asIntOf, run_underlying ht, Instr.sureAddr, hc, run_size hinf]
        · cases hx
      · cases hx
    · rename_i e ht
      split at hx
      · rename_i inf hinf
        split at hx
        · rename_i s g off n
          split at hx
          · rename_i hc
            obtain ⟨h0, h1, hg⟩ := hc
            split at hx
            · rename_i ty sz fz0 cs hk
              split at hx
              · rename_i hsz
                injection hx with hx; subst hx
                have hT : st.o.get s = ⟨g, .row ty sz fz0 cs⟩ := by cases hTs : st.o.get s; rw [hTs] at hk hg; simp at hk hg; subst hk hg; rfl
                obtain ⟨ad, c, cap, arr, ty1, fz, rfl, hb, hh, has, hn, hcap, hpl⟩ := hr.own_ hT
                have := hpl (by omega); subst this
                refine SemOk.same h (cv := .pointer (some ((⟨ι s, off * sz, none⟩ : Addr).add (i.toNat * inf.size)))) ?_ ?_
                · simp [Instr.indexAt, asIntOf, run_underlying ht, h0, h1, run_size hinf]
                · refine .ptr ⟨_, rfl⟩ (by omega) fun _ _ => ?_
                  congr 2
                  unfold Addr.add
                  subst hsz
                  split
                  · rename_i e0; rw [Nat.add_mul, e0]; rfl
                  · rw [Nat.add_mul]
              · cases hx
            · cases hx
          · cases hx
        · rename_i n cs
          split at hx
          · rename_i hc
            obtain ⟨h0, h1, hle⟩ := hc
            injection hx with hx; subst hx
            obtain ⟨ad, c, vs, rfl, hnc, hm, hl, hh⟩ := hr.sl_.resolve_left (fun e => by omega)
            refine SemOk.same h (cv := .pointer (some (ad.add (i.toNat * inf.size)))) ?_ ?_
            · simp [Instr.indexAt, asIntOf, run_underlying ht, h0, h1, run_size hinf]
            · refine .pure (.cref (vs := (vs.drop (i.toNat * inf.size)).take inf.size) (fun j u hu => ?_) (by simp [hl]) (fun j d u hd hu => ?_))
              · rw [List.getElem?_take] at hu
                split at hu
                · rw [List.getElem?_drop] at hu
                  rw [add_add]
                  exact hm _ u hu
                · cases hu
              · rw [List.getElem?_take] at hd hu
                split at hu
                · rename_i hj
                  rw [if_pos hj] at hd
                  rw [List.getElem?_drop] at hd hu
                  exact hh _ d u hd hu
                · cases hu
          · cases hx
        · rename_i L
          split at hx
          · rename_i hsz
            split at hx
            · rename_i hc
              obtain ⟨h0, h1⟩ := hc
              injection hx with hx; subst hx
              have hn : i.toNat < L.l.length := by omega
              obtain ⟨ad, c, vs, rfl, hnc, hm, hl, hh⟩ := (Rv.pure hr.lst_).sl_ (T := st.o) (ι := ι) |>.resolve_left (fun e => by omega)
              refine SemOk.same h (cv := .pointer (some (ad.add (i.toNat * inf.size)))) ?_ ?_
              · simp [Instr.indexAt, asIntOf, run_underlying ht, h0, h1, run_size hinf]
              · have hlr : LR (Rp (Stable κ.D st.o ι w) w) L.cells vs := ⟨hl, hh⟩
                have h2 := (hlr.drop (i.toNat * L.e.size)).take L.e.size
                rw [show L.cells = L.l.flatMap (cellsV L.e) from rfl, flat_get L.e L.l _ hn] at h2
                refine .pure (.eref (.cref (vs := (vs.drop (i.toNat * L.e.size)).take L.e.size) (fun j u hu => ?_) (by simpa using h2.1) (by simpa using h2.2)))
                rw [List.getElem?_take] at hu
                split at hu
                · rw [List.getElem?_drop] at hu
                  rw [add_add, ← hsz]
                  exact hm _ u hu
                · cases hu
            · cases hx
          · cases hx
        · rename_i s g
          split at hx
          · rename_i hg
            split at hx
            · rename_i ty fz nl L hk
              split at hx
              · rename_i hsz
                split at hx
                · rename_i hc
                  obtain ⟨h0, h1⟩ := hc
                  injection hx with hx; subst hx
                  have hT : st.o.get s = ⟨g, .nrow ty fz nl L⟩ := by cases hTs : st.o.get s; rw [hTs] at hk hg; simp at hk hg; subst hk hg; rfl
                  obtain ⟨_, ad, c, cap, arr, ty1, fz1, rfl, hb, hh, has, hn, hcap, hpl⟩ := (hr.acc_ hT).resolve_left (fun ⟨_, e, _⟩ => by rw [e] at h1; simp at h1; omega)
                  have := hpl (by omega); subst this
                  refine SemOk.same h (cv := .pointer (some ((⟨ι s, 0 * L.e.size, none⟩ : Addr).add (i.toNat * inf.size)))) ?_ ?_
                  · simp [Instr.indexAt, asIntOf, run_underlying ht, h0, h1, run_size hinf]
                  · refine .eptr ⟨_, rfl⟩ (by omega) fun ty' fz' nl' L' e => ?_
                    rw [hT] at e
                    simp at e
                    obtain ⟨rfl, rfl, rfl, rfl⟩ := e
                    refine ⟨hsz.symm, by omega, ?_⟩
                    congr 2
                    unfold Addr.add
                    split <;> simp_all
                · cases hx
              · cases hx
            · cases hx
          · cases hx
        · cases hx
      · cases hx
    · cases hx
  · cases hx

end
end Go.Abs
