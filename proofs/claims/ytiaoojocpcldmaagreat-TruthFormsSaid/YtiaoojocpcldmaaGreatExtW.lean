/- Rows cleared, made, made of texts; texts made of rows. -/
import Derived.Test.YtiaoojocpcldmaaGreatExtV
import Derived.Laws.MakeOwn
namespace Go.Abs
open Go.RowKit
set_option linter.unusedVariables false
set_option linter.unusedSimpArgs false

theorem flat_repl (e : Ty) (x : e.I) : ∀ n : Nat, (List.replicate n x).flatMap (cellsV e) = repl (cellsV e x) n
  | 0 => rfl
  | n + 1 => by
    simp only [List.replicate_succ, List.flatMap_cons, flat_repl e x n]
    simp [repl, List.replicate_succ]
theorem zeroCells_made (z : Array Value) (n : Nat) : (Builtin.zeroCells z n).toList = (madeCells z (n * z.size)).toList := by
  apply List.ext_getElem?
  intro i
  by_cases hi : i < n * z.size
  · have h1 : (Builtin.zeroCells z n)[i]? = some ((Builtin.zeroCells z n)[i]'(by rw [size_zeroCells]; exact hi)) := Array.getElem?_eq_getElem _
    have h2 : (madeCells z (n * z.size))[i]? = some ((madeCells z (n * z.size))[i]'(by rw [size_madeCells]; exact hi)) := Array.getElem?_eq_getElem _
    simp only [Array.getElem?_toList, h1, h2]
    simp [Builtin.zeroCells, madeCells]
  · rw [List.getElem?_eq_none (by simp [size_zeroCells]; omega), List.getElem?_eq_none (by simp [size_madeCells]; omega)]

section
variable {κ : Cx} {ι : Nat → Nat} {st : St} {a : Act} {w : World}

/-- A type's zero value, as Lean's own. -/
def zeroX (P : Program) (e : Ty) (t : Nat) : Option e.I :=
  match zeroC P t with
  | some zs => match impC e zs with
    | some (x, []) => some x
    | _ => none
  | none => none
theorem zeroX_ok (w0 : World) {P : Program} {e : Ty} {t : Nat} {x : e.I} (h : zeroX P e t = some x) : ∃ z i, P.info? t = some i ∧ i.zero = some z ∧ z.cells.size = i.size ∧ i.size = e.size ∧ (∀ w, (zeroValue t).run P w = .ok z w) ∧
    ∀ {S : Addr → Prop} {w : World} (n : Nat), LR (Rp S w) ((List.replicate n x).flatMap (cellsV e)) (madeCells z.cells (n * z.cells.size)).toList := by
  unfold zeroX at h
  split at h
  case h_2 => cases h
  rename_i zs hz
  obtain ⟨z, i, h1, h2, h3, h4, h5⟩ := zeroC_ok hz
  split at h
  case h_2 => cases h
  rename_i y hy
  injection h with h; subst h
  have hlen := impC_len e zs [] y hy
  have hzl : zs.length = z.cells.size := by have := (h5 (S := fun _ => False) (w := w0)).1; simpa using this
  refine ⟨z, i, h1, h2, h3, by simp at hlen; omega, h4, fun {S w} n => ?_⟩
  rw [flat_repl]
  have := impC_rv (T := []) (ι := fun _ => 0) (S := S) (w := w) e zs [] y _ hy ((h5 (S := S) (w := w)).mono fun d u hd => .pure hd)
  rw [List.append_nil] at this
  exact LR.made (lr_pure (fun d hd => pure_cellsV e y d hd) this) _ n rfl

/-! A window cleared. -/
def wClear (P : Program) (T : Tab) (t : Nat) (x : V) : Option (Option (Nat × Ob)) :=
  match P.underlying t with
  | some (.slice e) => match winOf T x with
    | some (s, g, off, n, ty, false, nl, L) => match zeroX P L.e e with
      | some z => some (some (s, ⟨g, .nrow ty false nl ⟨L.e, putL L.l (List.replicate n z) off⟩⟩))
      | none => none
    | _ => none
  | _ => none
theorem wClear_ok (h : RelI κ ι st a w) {t ty : Nat} {x : V} {cx : Value} {wr : Option (Nat × Ob)} {ts : Array TypeId} (hts : ts[0]? = some t) (hr : Rv st.o ι (Stable κ.D st.o ι w) w x cx) (hx : wClear κ.P st.o t x = some wr) :
    SemOk κ ι st.o w (Builtin.clear_ ts ty #[cx]) (.tup []) wr := by
  unfold wClear at hx
  split at hx
  case h_2 => cases hx
  rename_i e ht
  split at hx
  case h_2 => cases hx
  rename_i s g off n ty' nl L hw
  split at hx
  case h_2 => cases hx
  rename_i z0 hz
  injection hx with hx; subst hx
  obtain ⟨z, i, h1, h2, h3, h4, h5, h6⟩ := zeroX_ok w hz
  obtain ⟨hT, _, hle, hor⟩ := winOf_ok hw hr
  have htup : ∀ {T' : Tab} {ι' : Nat → Nat} {S' : Addr → Prop} {w' : World}, Rv T' ι' S' w' (.tup []) (.tuple #[]) := .pure (.tup (vs := []) rfl (by simp))
  -- nothing to clear
  have none : n = 0 → (∃ p c, cx = .slice p 0 c) → SemOk κ ι st.o w (Builtin.clear_ ts ty #[cx]) (.tup []) (some (s, ⟨g, .nrow ty' false nl ⟨L.e, putL L.l (List.replicate n z0) off⟩⟩)) := by
    rintro rfl ⟨p, c, rfl⟩
    have e1 : putL L.l (List.replicate 0 z0) off = L.l := by simp [putL]
    rw [e1]
    have e2 : st.o.get s = ⟨g, .nrow ty' false nl ⟨L.e, L.l⟩⟩ := hT
    have hto : To κ st.o ι w (st.o.put s ⟨g, .nrow ty' false nl ⟨L.e, L.l⟩⟩) ι w := by
      have hgs : ∀ t, (st.o.put s ⟨g, .nrow ty' false nl ⟨L.e, L.l⟩⟩).get t = st.o.get t := fun t => by
        rw [Tab.get_put]
        by_cases q : s = t
        · rw [if_pos q, ← q]; exact e2.symm
        · rw [if_neg q]
      have hlv : ∀ t, (st.o.put s ⟨g, .nrow ty' false nl ⟨L.e, L.l⟩⟩).live t ↔ st.o.live t := fun t => by simp only [Tab.live, hgs]
      have hS : ∀ p, Stable κ.D st.o ι w p → Stable κ.D (st.o.put s ⟨g, .nrow ty' false nl ⟨L.e, L.l⟩⟩) ι w p := fun p hp => ⟨hp.1, hp.2.1, fun t ht he => by rw [hgs]; exact hp.2.2 t ((hlv t).1 ht) he⟩
      have H : Goes κ.D st.o ι w (st.o.put s ⟨g, .nrow ty' false nl ⟨L.e, L.l⟩⟩) ι w := ⟨fun p hp => ⟨hS p hp, rfl⟩, fun t => by rw [hgs]; exact Nat.le_refl _, fun t ht _ => ⟨(hlv t).1 ht, rfl⟩,
        fun t g' ty sz fz' cs' hq _ => by rw [hgs] at hq; exact ⟨⟨_, _, _, hq⟩, fun arr ty1 fz hh => ⟨arr, ty1, fz, hh, rfl⟩⟩,
        fun t g' ty fz nl L hq _ => by rw [hgs] at hq; exact ⟨⟨_, _, _, _, hq, rfl, rfl, rfl⟩, fun _ arr ty1 fz hh => ⟨arr, ty1, fz, hh, rfl⟩⟩⟩
      exact ⟨H, ⟨fun t => by rw [hgs]; exact (h.tr.ob t).mono H rfl, fun t u ht hu he => h.tr.inj t u ((hlv t).1 ht) ((hlv u).1 hu) he, fun t ht => h.tr.lt t ((hlv t).1 ht)⟩, fun t ht => h.my t ((hlv t).1 ht), h.kept⟩
    refine ⟨.tuple #[], w, ι, ?_, hto, htup⟩
    simp only [Builtin.clear_, hts]
    cases p <;> simp [run_underlying ht]
  rcases hor with ⟨_, hnil, p, rfl⟩ | ⟨hn, ad, c, cap, arr, ty1, fz1, rfl, hb, hmem, has, hnc, hcap, hpl⟩
  · exact none (by rw [hnil] at hle; simp at hle; omega) ⟨p, 0, rfl⟩
  by_cases hn0 : n = 0
  · exact none hn0 ⟨some ad, c, by rw [hn0]⟩
  have := hpl (by omega); subst this
  have hob := h.tr.ob s
  rw [hT] at hob
  obtain ⟨arr2, fz2, cap2, b1, b2, b3, b4, b5, b6⟩ := hob.resolve_left hn
  rw [hmem] at b1
  injection b1 with b1; injection b1 with q1 q2 q3; subst q1 q2 q3
  have hcl := L.cells_length
  have hzc : (Builtin.zeroCells z.cells n).toList = (madeCells z.cells (n * z.cells.size)).toList := zeroCells_made _ _
  have hzl : (Builtin.zeroCells z.cells n).toList.length = n * L.e.size := by simp [size_zeroCells, h3, h4]
  have hin : off * L.e.size + n * L.e.size ≤ L.l.length * L.e.size := by rw [← Nat.add_mul]; exact Nat.mul_le_mul_right _ hle
  have hone : ∀ u ∈ (Builtin.zeroCells z.cells n).toList, u.oneCell' = true := by
    intro u hu
    rw [hzc] at hu
    have hl := h6 (S := fun _ => False) (w := w) n
    obtain ⟨j, hj⟩ := List.mem_iff_getElem?.1 hu
    have hjl : j < ((List.replicate n z0).flatMap (cellsV L.e)).length := by rw [hl.1]; exact (List.getElem?_eq_some_iff.1 hj).1
    have hd := List.getElem?_eq_getElem hjl
    obtain ⟨x, _, hx⟩ := List.mem_flatMap.1 (List.getElem_mem hjl)
    exact (leaf_one (leaf_cellsV _ _ _ hx) (hl.2 j _ u hd hj)).2
  have hst := run_storeCells_fz κ.P (ι s) (off * L.e.size) _ _ (Builtin.zeroCells z.cells n).toList 0 arr w hmem (fun j hj => b2 j (.inl hj)) (by omega) hone
  simp only [Nat.add_zero, List.append_assoc] at hst
  refine ⟨.tuple #[], _, ι, ?_, To.putRow h hT hn hmem (List.replicate n z0) off (by simpa using hle) (news := (Builtin.zeroCells z.cells n).toList) ?_ (List.toList_toArray), htup⟩
  · simp only [Builtin.clear_, hts]
    obtain ⟨m, rfl⟩ : ∃ m, n = m + 1 := ⟨n - 1, by omega⟩
    simp [run_underlying ht, h5, hst]
    simp only [putL, Array.length_toList]
  · rw [hzc]; exact (h6 n).mono fun d u hd => .pure hd
/-! A row made. -/
def nMake (P : Program) (T : Tab) (t : Nat) (l c : V) (d : Nat) : Option (List Bool × V × Option (Nat × Ob)) :=
  match l, c with
  | .int _ n, .int _ m => match P.underlying t with
    | some (.slice e) => match tyOf P 8 e, P.info? e with
      | some te, some i => match zeroX P te e with
        | some z => if 0 < te.size then some ([decide (0 ≤ n), decide (n ≤ m), decide ((i.bytes : Int) * m ≤ 140737488355328), decide (m ≤ 9223372036854775807)], .acc d ((T.get d).gen + 1),
            some (d, ⟨(T.get d).gen + 1, .nrow e false false ⟨te, List.replicate n.toNat z⟩⟩)) else none
        | none => none
      | _, _ => none
    | _ => none
  | _, _ => none
theorem nMake_ok (h : RelI κ ι st a w) {t d : Nat} {l c v : V} {cl cc : Value} {wr : Option (Nat × Ob)} {bs : List Bool} (hl : Rv st.o ι (Stable κ.D st.o ι w) w l cl) (hc : Rv st.o ι (Stable κ.D st.o ι w) w c cc)
    (hx : nMake κ.P st.o t l c d = some (bs, v, wr)) (hbs : bs.all id = true) : SemOk κ ι st.o w (Instr.makeSlice t cl cc) v wr := by
  unfold nMake at hx
  split at hx
  case h_2 => cases hx
  rename_i kl n kc m
  have := hl.int_; subst this
  have := hc.int_; subst this
  split at hx
  case h_2 => cases hx
  rename_i e ht
  split at hx
  case h_2 => cases hx
  rename_i te i hte hi
  split at hx
  case h_2 => cases hx
  rename_i z0 hz
  split at hx
  case isFalse => cases hx
  rename_i hp
  injection hx with hx
  simp only [Prod.mk.injEq] at hx
  obtain ⟨rfl, rfl, rfl⟩ := hx
  simp only [List.all_cons, List.all_nil, Bool.and_eq_true, id, decide_eq_true_eq, Bool.and_true] at hbs
  obtain ⟨h0, hnm, hb, h63⟩ := hbs
  obtain ⟨z, i', h1, h2, h3, h4, h5, h6⟩ := zeroX_ok w hz
  rw [hi] at h1; injection h1 with h1; subst h1
  have hrun := run_make (P := κ.P) w t e i z ht hi h2 kl kc n m h0 hnm (by omega) h63
  have harr : (madeCells z.cells (m.toNat * i.size)).size = m.toNat * te.size := by rw [size_madeCells, h4]
  have hnm' : n.toNat ≤ m.toNat := by omega
  have hlr := h6 (S := Stable κ.D st.o ι w) (w := w) m.toNat
  have hpre : ∀ (j : Nat) (dd : V), ((List.replicate n.toNat z0).flatMap (cellsV te))[j]? = some dd → ((List.replicate m.toNat z0).flatMap (cellsV te))[j]? = some dd := fun j dd hd => by
    have e1 : List.replicate m.toNat z0 = List.replicate n.toNat z0 ++ List.replicate (m.toNat - n.toNat) z0 := by
      rw [List.replicate_append_replicate]; congr 1; omega
    rw [e1, List.flatMap_append, List.getElem?_append_left (List.getElem?_eq_some_iff.1 hd).1]; exact hd
  refine ⟨_, _, _, hrun, To.new h rfl rfl rfl rfl d _ _ fun T' ι' w' H hnew => .inr ⟨_, (0, 0), m.toNat, hnew, fun i _ => by simp, harr, hp, ?_, fun j dd u hd hu => ?_⟩, ?_⟩
  · rw [TL.cells_length, harr]; simp only [List.length_replicate]; exact Nat.mul_le_mul_right _ hnm'
  · have hu' : (madeCells z.cells (m.toNat * z.cells.size)).toList[j]? = some u := by rw [h3]; exact hu
    exact Rv.mono H (.pure (hlr.2 j dd u (hpre j dd hd) hu'))
  · refine .acc ⟨_, _, _, rfl⟩ (by simp [wrT, Tab.get_put]) fun ty' fz' nl' L' e => ?_
    simp [wrT, Tab.get_put] at e
    obtain ⟨rfl, rfl, rfl, rfl⟩ := e
    refine .inr ⟨by simp, ⟨w.heap.size, 0, none⟩, m.toNat, m.toNat, madeCells z.cells (m.toNat * i.size), e, (0, 0), by simp, by simp, ?_, harr, by simp; omega, by omega, fun _ => by simp⟩
    have := heap_alloc_new w (.cells (madeCells z.cells (m.toNat * i.size)) e)
    simpa using this

/-- A variable that is a long array: a row of its own. -/
def nAlloc (P : Program) (T : Tab) (e d : Nat) : Option (V × Option (Nat × Ob)) := match P.underlying e with
  | some (.array n u) => match zeroC P e, tyOf P 8 u with
    | some cs, some te => if 9 ≤ n ∧ te.size = 1 ∧ te.flatT = true then (match impN (impC te) n cs with
      | some (l, []) => some (.eptr d ((T.get d).gen + 1) 1 0 0, some (d, ⟨(T.get d).gen + 1, .nrow e false false ⟨te, l⟩⟩))
      | _ => none) else none
    | _, _ => none
  | _ => none
theorem nAlloc_ok (h : RelI κ ι st a w) {e d : Nat} {v : V} {wr : Option (Nat × Ob)} (hx : nAlloc κ.P st.o e d = some (v, wr)) : SemOk κ ι st.o w (Instr.alloc e true (.tuple #[])) v wr := by
  unfold nAlloc at hx
  split at hx
  case h_2 => cases hx
  rename_i n u hu
  split at hx
  case h_2 => cases hx
  rename_i cs te hz hte
  split at hx
  case isFalse => cases hx
  rename_i hc
  obtain ⟨hn9, hs1, _⟩ := hc
  split at hx
  case h_2 => cases hx
  rename_i l himp
  injection hx with hx
  simp only [Prod.mk.injEq] at hx
  obtain ⟨rfl, rfl⟩ := hx
  obtain ⟨z, i, hi, hzz, hsz, hrun, hlr⟩ := zeroC_ok hz
  obtain ⟨hll, hlr2⟩ := impN_rv (T := st.o) (ι := ι) (S := Stable κ.D st.o ι w) (w := w) (impC_rv te) n cs [] l z.cells.toList himp (hlr.mono fun _ _ => .pure)
  rw [List.append_nil] at hlr2
  have hcl : (⟨te, l⟩ : TL).cells.length = z.cells.size := by rw [← Array.length_toList]; exact hlr2.1
  refine ⟨.pointer (some ⟨w.heap.size, 0, none⟩), _, _, by simp [Instr.alloc, hrun, newVar, newRow], To.new h rfl rfl rfl rfl d _ _ fun T' ι' w' H hnew => .inr ⟨z.cells, (0, 0), z.cells.size, hnew, fun i _ => by simp, by rw [hs1, Nat.mul_one], by rw [hs1]; exact Nat.zero_lt_one, by rw [hcl]; exact Nat.le_refl _, fun j dd u hd hu => (hlr2.2 j dd u hd hu).mono H⟩, ?_⟩
  refine .eptr ⟨_, rfl⟩ (by simp [wrT, Tab.get_put]) fun ty' fz' nl' L' e => ?_
  simp [wrT, Tab.get_put] at e
  obtain ⟨rfl, rfl, rfl, rfl⟩ := e
  exact ⟨hs1.symm, by rw [hll]; omega, by simp⟩

/-! Bytes of a text, a text of bytes. -/
theorem toBytes_flat : ∀ (l : List Int), l.all (fun n => decide (0 ≤ n) && decide (n < 256)) = true → toBytes (l.flatMap (cellsV (.int .u8))) = some (l.map fun n => UInt8.ofNat n.toNat)
  | [], _ => rfl
  | n :: r, h => by
    simp only [List.all_cons, Bool.and_eq_true, decide_eq_true_eq] at h
    have e : (n :: r).flatMap (cellsV (.int .u8)) = .int .u8 n :: r.flatMap (cellsV (.int .u8)) := rfl
    rw [e, toBytes, if_pos h.1, toBytes_flat r (by simpa using h.2)]
    rfl
def u8L : TL → Option (List Int)
  | ⟨.int .u8, l⟩ => some l
  | _ => none
/-- A text of bytes. -/
def nText (P : Program) (T : Tab) (src dst : Nat) (x : V) : Option (List Bool × V) :=
  match P.underlying src, P.underlying dst with
  | some (.slice e), some .string => if (P.underlying e).any (fun d => d matches .int .u8) = true then
      (match x with
        | .lst L => match u8L L with
          | some l => some ([l.all (fun n => decide (0 ≤ n) && decide (n < 256))], .str (l.map fun n => UInt8.ofNat n.toNat))
          | none => none
        | .acc s g => if (T.get s).gen = g then (match (T.get s).k with
          | .nrow _ _ _ L => match u8L L with
            | some l => some ([l.all (fun n => decide (0 ≤ n) && decide (n < 256))], .str (l.map fun n => UInt8.ofNat n.toNat))
            | none => none
          | _ => none) else none
        | _ => none) else none
  | _, _ => none
theorem u8L_ok {L : TL} {l : List Int} (h : u8L L = some l) : L = ⟨.int .u8, l⟩ := by
  unfold u8L at h
  split at h
  · injection h with h; subst h; rfl
  · cases h
theorem nText_eq {src dst d : Nat} {x v : V} {bs : List Bool} (hx : nText κ.P st.o src dst x = some (bs, v)) (hbs : bs.all id = true) : aConvert κ.P st.o src dst x d = some (v, none) := by
  unfold nText at hx
  split at hx
  case h_2 => cases hx
  rename_i e hs hd
  split at hx
  case isFalse => cases hx
  rename_i he
  split at hx
  · rename_i L
    split at hx
    · rename_i l hl
      have := u8L_ok hl; subst this
      injection hx with hx
      simp only [Prod.mk.injEq] at hx
      obtain ⟨rfl, rfl⟩ := hx
      simp only [List.all_cons, List.all_nil, Bool.and_true, id] at hbs
      have h2 : aSrc st.o 1 (.lst ⟨.int .u8, l⟩) = some (l.length, l.flatMap (cellsV (.int .u8))) := rfl
      simp only [aConvert, hs, hd]
      rw [if_pos ⟨he, rfl⟩, h2]
      simp only
      rw [toBytes_flat l hbs]; rfl
    · cases hx
  · rename_i s g
    split at hx
    · rename_i hg
      split at hx
      · rename_i ty fz nl L hk
        split at hx
        · rename_i l hl
          have := u8L_ok hl; subst this
          injection hx with hx
          simp only [Prod.mk.injEq] at hx
          obtain ⟨rfl, rfl⟩ := hx
          simp only [List.all_cons, List.all_nil, Bool.and_true, id] at hbs
          have h2 : aSrc st.o 1 (.acc s g) = some (l.length, l.flatMap (cellsV (.int .u8))) := by simp only [aSrc, if_pos hg, hk]; rfl
          simp only [aConvert, hs, hd]
          rw [if_pos ⟨he, rfl⟩, h2]
          simp only
          rw [toBytes_flat l hbs]; rfl
        · cases hx
      · cases hx
    · cases hx
  · cases hx
end
end Go.Abs
