/- Slices made, cut, appended to, copied; strings gone through. -/
import Derived.Test.YtiaoojocpcldmaaGreatAbsE
namespace Go.Abs
open Go.RowKit
set_option linter.unusedVariables false
set_option linter.unusedSimpArgs false

section
variable {κ : Cx} {ι : Nat → Nat} {st : St} {a : Act} {w : World}

theorem made_prefix {R : V → Value → Prop} {zs : List V} {z : Array Value} (h : LR R zs z.toList) (n m : Nat) :
    ∀ (i : Nat) (d : V) (u : Value), (repl zs m)[i]? = some d → (madeCells z n).toList[i]? = some u → R d u := by
  intro i d u hd hu
  have hzl : zs.length = z.size := by simpa using h.1
  have hi : i < m * zs.length := by have := (List.getElem?_eq_some_iff.1 hd).1; rwa [length_repl] at this
  rw [getElem?_repl zs m i hi] at hd
  have hin : i < n := by have := (List.getElem?_eq_some_iff.1 hu).1; simpa [madeCells] using this
  have h0 : 0 < z.size := by rcases Nat.eq_zero_or_pos z.size with e | e; · rw [hzl, e] at hi; simp at hi
                             · exact e
  have hmod : i % z.size < z.size := Nat.mod_lt _ h0
  have : (madeCells z n).toList[i]? = some z[i % z.size] := by
    simp only [madeCells, Array.toList_map, List.getElem?_map]
    simp [hin, getElem!_pos, hmod]
  rw [this] at hu
  injection hu with hu; subst hu
  rw [hzl] at hd
  exact h.2 _ d _ hd (by simp [hmod])

def aMake (P : Program) (T : Tab) (t : Nat) (l c : V) (d : Nat) : Option (V × Option (Nat × Ob)) :=
  match l, c with
  | .int _ l, .int _ c => match P.underlying t with
    | some (.slice e) => match zeroC P e, P.info? e with
      | some zs, some i => if 0 ≤ l ∧ l ≤ c ∧ (i.bytes : Int) * c ≤ 140737488355328 ∧ c ≤ 9223372036854775807 ∧ 0 < zs.length then
          some (.own d ((T.get d).gen + 1) 0 l.toNat, some (d, ⟨(T.get d).gen + 1, .row e zs.length false (repl zs l.toNat)⟩)) else none
      | _, _ => none
    | _ => none
  | _, _ => none
theorem aMake_ok (h : RelI κ ι st a w) {t d : Nat} {l c v : V} {cl cc : Value} {wr : Option (Nat × Ob)} (hl : Rv st.o ι (Stable κ.D st.o ι w) w l cl) (hc : Rv st.o ι (Stable κ.D st.o ι w) w c cc)
    (hx : aMake κ.P st.o t l c d = some (v, wr)) : SemOk κ ι st.o w (Instr.makeSlice t cl cc) v wr := by
  unfold aMake at hx
  split at hx
  · rename_i kl l kc c
    have := hl.int_; subst this
    have := hc.int_; subst this
    split at hx
    · rename_i e ht
      split at hx
      · rename_i zs i hz hi
        obtain ⟨z, i', hi', hzz, hsz, hrun, hlr⟩ := zeroC_ok hz
        rw [hi] at hi'; injection hi' with hi'; subst hi'
        split at hx
        · rename_i hcc
          obtain ⟨h0, hlc, hb, h63, hp⟩ := hcc
          simp at hx
          obtain ⟨rfl, rfl⟩ := hx
          have hzl : zs.length = i.size := by rw [← hsz]; simpa using (hlr (S := fun _ => False) (w := w)).1
          have hrun := run_make (P := κ.P) w t e i z ht hi hzz kl kc l c h0 hlc (by omega) h63
          have harr : (madeCells z.cells (c.toNat * i.size)).size = c.toNat * zs.length := by rw [size_madeCells, hzl]
          refine ⟨_, _, _, hrun, row_new h rfl rfl rfl rfl d e zs.length c.toNat false _ (repl zs l.toNat) hp harr ?_ ?_, own_new' d e zs.length _ _ false _ _ rfl harr (by omega)⟩
          · rw [length_repl, harr]; exact Nat.mul_le_mul_right _ (by omega)
          · exact made_prefix (hlr.mono fun _ _ => .pure) _ _
        · cases hx
      · cases hx
    · cases hx
  · cases hx

def aRange (P : Program) (T : Tab) (t : Nat) (x : V) (d : Nat) : Option (V × Option (Nat × Ob)) :=
  match P.underlying t, x with
  | some .string, .str s => some (.ptr d ((T.get d).gen + 1) 0, some (d, ⟨(T.get d).gen + 1, .iter s 0⟩))
  | _, _ => none
theorem aRange_ok (h : RelI κ ι st a w) {t d : Nat} {x v : V} {cx : Value} {wr : Option (Nat × Ob)} (hr : Rv st.o ι (Stable κ.D st.o ι w) w x cx) (hx : aRange κ.P st.o t x d = some (v, wr)) :
    SemOk κ ι st.o w (Instr.range t cx) v wr := by
  unfold aRange at hx
  split at hx
  · rename_i s ht
    simp at hx
    obtain ⟨rfl, rfl⟩ := hx
    obtain ⟨b, rfl, hb⟩ := hr.str_
    obtain ⟨⟨l⟩⟩ := b
    simp at hb; subst hb
    refine ⟨_, _, _, ?_, To.new (w1 := w) h rfl rfl rfl rfl d (.stringIter ⟨⟨l⟩⟩ 0) (.iter l 0) fun T' ι' w' H hn => hn, ptr_new h d _ _ _ (by simp)⟩
    simp [Instr.range, run_underlying ht]
  · cases hx

def aNext (T : Tab) (x : V) (isString : Bool) : Option (V × Option (Nat × Ob)) :=
  match x, isString with
  | .ptr s g 0, true => if (T.get s).gen = g then (match (T.get s).k with
    | .iter l pos =>
      if pos < l.length then
        let r := Utf8.decode ⟨⟨l⟩⟩ pos
        some (.tup [.bool true, .int .i64 pos, .int .i32 r.1], some (s, ⟨g, .iter l (pos + r.2)⟩))
      else some (.tup [.bool false], none)
    | _ => none) else none
  | _, _ => none
theorem aNext_ok (h : RelI κ ι st a w) {x v : V} {isS : Bool} {ty : TypeId} {cx : Value} {wr : Option (Nat × Ob)} (hr : Rv st.o ι (Stable κ.D st.o ι w) w x cx) (hx : aNext st.o x isS = some (v, wr)) :
    SemOk κ ι st.o w (Instr.next cx isS ty) v wr := by
  unfold aNext at hx
  split at hx
  · rename_i s g
    split at hx
    · rename_i hg
      split at hx
      · rename_i l pos hk
        have hob := h.tr.ob s
        rw [hk] at hob
        have hob' : w.heap[ι s]? = some (.stringIter ⟨⟨l⟩⟩ pos) := hob
        have hl : st.o.live s := by simp [Tab.live, hk, OK.live]
        have hp := hr.ptr_ hg hl
        subst hp
        have hgo : (getObj (ι s)).run κ.P w = .ok (.stringIter ⟨⟨l⟩⟩ pos) w := by simp [getObj, Sem.run, hob']
        have hsz : (⟨⟨l⟩⟩ : ByteArray).size = l.length := rfl
        split at hx
        · rename_i hpos
          simp at hx
          obtain ⟨rfl, rfl⟩ := hx
          have hset : (setObj (ι s) (.stringIter ⟨⟨l⟩⟩ (pos + (Utf8.decode ⟨⟨l⟩⟩ pos).2))).run κ.P w = .ok () { w with heap := w.heap.setIfInBounds (ι s) (.stringIter ⟨⟨l⟩⟩ (pos + (Utf8.decode ⟨⟨l⟩⟩ pos).2)) } := by
            simp [setObj, Sem.run, hob']
          refine ⟨.tuple #[.bool true, .int .i64 pos, .int .i32 (Utf8.decode ⟨⟨l⟩⟩ pos).1], _, ι, ?_, To.turn (w' := { w with heap := w.heap.setIfInBounds (ι s) (.stringIter ⟨⟨l⟩⟩ (pos + (Utf8.decode ⟨⟨l⟩⟩ pos).2)) }) h s hl ⟨g, _⟩ rfl rfl rfl (by simp) (fun j hj => by simp [Array.getElem?_setIfInBounds_ne (Ne.symm hj)]) (by simp [hg]) (fun p _ hp => by simp [hk, OK.fzAt] at hp) (fun _ _ _ _ e => by simp at e) (fun T' ι' H => ?_) (hsh := fun arr ty fz e => by rw [hob'] at e; injection e with e; cases e), ?_⟩
          · simp only [Instr.next, Sem.run_bind, hgo, Result.andThen_ok, hsz, hpos, if_true, hset]
            rfl
          · simp [ObRel, h.tr.lt s hl]
          · exact .pure (.tup (vs := [.bool true, .int .i64 pos, .int .i32 (Utf8.decode ⟨⟨l⟩⟩ pos).1]) rfl (LR.cons (.bool _) (.cons (.int _ _) (.cons (.int _ _) .nil))).2)
        · rename_i hpos
          simp at hx
          obtain ⟨rfl, rfl⟩ := hx
          refine SemOk.same h (cv := .tuple #[.bool false]) ?_ (.pure (.tup (vs := [.bool false]) rfl (LR.cons (.bool _) .nil).2))
          simp only [Instr.next, Sem.run_bind, hgo, Result.andThen_ok, hsz, hpos, if_false]
          rfl
      · cases hx
    · cases hx
  · cases hx

/-! Cuts. -/
def aBnd (o : Option V) (d : Nat) : Option Nat :=
  match o with
  | none => some d
  | some (.int _ i) => if 0 ≤ i then some i.toNat else none
  | _ => none
def RO (T : Tab) (ι : Nat → Nat) (S : Addr → Prop) (w : World) (o : Option V) (co : Option Value) : Prop :=
  match o, co with
  | none, none => True
  | some v, some u => Rv T ι S w v u
  | _, _ => False

theorem sliceBound_ok {P : Program} (k : IntKind) (i : Int) (y : Nat) (code : BoundsCode) (h0 : 0 ≤ i) (h1 : i.toNat ≤ y) : (Instr.sliceBound (.int k i) y code).run P w = .ok i.toNat w := by
  have : 0 ≤ i ∧ i ≤ (y : Int) := ⟨h0, by omega⟩
  simp [Instr.sliceBound, asIntOf, this]

theorem sliceBounds_ok {P : Program} {T : Tab} {S : Addr → Prop} {lo hi : Option V} {clo chi : Option Value} (hlo : RO T ι S w lo clo) (hhi : RO T ι S w hi chi) (isS : Bool) (len cap l h : Nat)
    (e1 : aBnd lo 0 = some l) (e2 : aBnd hi len = some h) (hlh : l ≤ h) (hc : h ≤ cap) : (Instr.sliceBounds isS len cap clo chi none).run P w = .ok (l, h, cap) w := by
  have main : ∀ (hh : Nat) (s : Sem Nat), s.run P w = .ok hh w → True := fun _ _ _ => trivial
  have hL : ∀ code, clo = none ∧ l = 0 ∨ ∃ v, clo = some v ∧ (Instr.sliceBound v h code).run P w = .ok l w := by
    intro code
    cases lo with
    | none => cases clo with
      | none => simp [aBnd] at e1; exact .inl ⟨rfl, e1.symm⟩
      | some _ => exact hlo.elim
    | some v => cases clo with
      | none => exact hlo.elim
      | some u =>
        have hv : Rv T ι S w v u := hlo
        unfold aBnd at e1
        split at e1
        · rename_i heq; cases heq
        · rename_i k i heq
          injection heq with heq; subst heq
          split at e1
          · rename_i h0
            injection e1 with e1
            have := hv.int_; subst this
            exact .inr ⟨_, rfl, by rw [← e1]; exact sliceBound_ok k i h code h0 (by omega)⟩
          · cases e1
        · cases e1
  have hH : ∀ code, chi = none ∧ h = len ∨ ∃ v, chi = some v ∧ (Instr.sliceBound v cap code).run P w = .ok h w := by
    intro code
    cases hi with
    | none => cases chi with
      | none => simp [aBnd] at e2; exact .inl ⟨rfl, e2.symm⟩
      | some _ => exact hhi.elim
    | some v => cases chi with
      | none => exact hhi.elim
      | some u =>
        have hv : Rv T ι S w v u := hhi
        unfold aBnd at e2
        split at e2
        · rename_i heq; cases heq
        · rename_i k i heq
          injection heq with heq; subst heq
          split at e2
          · rename_i h0
            injection e2 with e2
            have := hv.int_; subst this
            exact .inr ⟨_, rfl, by rw [← e2]; exact sliceBound_ok k i cap code h0 (by omega)⟩
          · cases e2
        · cases e2
  rcases hL .sliceB with ⟨rfl, rfl⟩ | ⟨u, rfl, hu⟩ <;> rcases hH (if isS then .sliceAcap else .sliceAlen) with ⟨rfl, rfl⟩ | ⟨u', rfl, hu'⟩
  · simp [Instr.sliceBounds]
  · simp [Instr.sliceBounds, hu']
  · simp [Instr.sliceBounds, hu]
  · simp [Instr.sliceBounds, hu', hu]

theorem flat_take (e : Ty) : ∀ (l : List e.I) (n : Nat), (l.take n).flatMap (cellsV e) = (l.flatMap (cellsV e)).take (n * e.size)
  | [], n => by simp
  | x :: r, 0 => by simp
  | x :: r, n + 1 => by
    have : (n + 1) * e.size = (cellsV e x).length + n * e.size := by rw [cellsV_length, Nat.succ_mul]; omega
    simp only [List.take_succ_cons, List.flatMap_cons, this, List.take_length_add_append, flat_take e r n]
theorem flat_drop (e : Ty) : ∀ (l : List e.I) (n : Nat), (l.drop n).flatMap (cellsV e) = (l.flatMap (cellsV e)).drop (n * e.size)
  | [], n => by simp
  | x :: r, 0 => by simp
  | x :: r, n + 1 => by
    have : (n + 1) * e.size = (cellsV e x).length + n * e.size := by rw [cellsV_length, Nat.succ_mul]; omega
    simp only [List.drop_succ_cons, List.flatMap_cons, this, List.drop_length_add_append, flat_drop e r n]
theorem flat_cut (e : Ty) (l : List e.I) (a b : Nat) : ((l.take b).drop a).flatMap (cellsV e) = ((l.flatMap (cellsV e)).take (b * e.size)).drop (a * e.size) := by
  rw [flat_drop, flat_take]

def bndT : Option V → Option (Option Int)
  | none => some none
  | some (.int _ i) => some (some i)
  | _ => none
def loOk : Option Int → Bool
  | none => true
  | some i => decide (0 ≤ i)
def loOf (d : Nat) : Option Int → Nat
  | none => d
  | some i => i.toNat
theorem bndT_ok {o : Option V} {r : Option Int} {d : Nat} (h : bndT o = some r) (hb : loOk r = true) : aBnd o d = some (loOf d r) := by
  unfold bndT at h
  split at h
  · injection h with h; subst h; rfl
  · injection h with h; subst h
    simp only [loOk, decide_eq_true_eq] at hb
    simp [aBnd, hb, loOf]
  · cases h
/-- A row, or a window of one, as a window: site, time, from where, how many, and the row. -/
def winOf (T : Tab) (v : V) : Option (Nat × Nat × Nat × Nat × Nat × Bool × Bool × TL) :=
  match v with
  | .acc s g => if (T.get s).gen = g then (match (T.get s).k with
    | .nrow ty fz nl L => some (s, g, 0, L.l.length, ty, fz, nl, L)
    | _ => none) else none
  | .nwin s g off n => if (T.get s).gen = g then (match (T.get s).k with
    | .nrow ty fz nl L => some (s, g, off, n, ty, fz, nl, L)
    | _ => none) else none
  | _ => none
theorem winOf_ok {T : Tab} {S : Addr → Prop} {v : V} {cv : Value} {s g off n ty : Nat} {fz nl : Bool} {L : TL} (hx : winOf T v = some (s, g, off, n, ty, fz, nl, L)) (hr : Rv T ι S w v cv) :
    T.get s = ⟨g, .nrow ty fz nl L⟩ ∧ (∃ p n' c, cv = .slice p n' c) ∧ off + n ≤ L.l.length ∧ ((nl = true ∧ L.l = [] ∧ ∃ p, cv = .slice p 0 0) ∨ (¬ (nl = true ∧ L.l = []) ∧ Own w (ι s) L.e.size off n cv)) := by
  unfold winOf at hx
  split at hx
  · rename_i s' g'
    split at hx
    · rename_i hg
      split at hx
      · rename_i ty' fz' nl' L' hk
        injection hx with hx
        simp only [Prod.mk.injEq] at hx
        obtain ⟨rfl, rfl, rfl, rfl, rfl, rfl, rfl, rfl⟩ := hx
        have hT : T.get s' = ⟨g', .nrow ty' fz' nl' L'⟩ := by cases hq : T.get s'; rw [hq] at hk hg; simp at hk hg; subst hk hg; rfl
        exact ⟨hT, hr.acc_form, by omega, hr.acc_ hT⟩
      · cases hx
    · cases hx
  · rename_i s' g' off' n'
    split at hx
    · rename_i hg
      split at hx
      · rename_i ty' fz' nl' L' hk
        injection hx with hx
        simp only [Prod.mk.injEq] at hx
        obtain ⟨rfl, rfl, rfl, rfl, rfl, rfl, rfl, rfl⟩ := hx
        have hT : T.get s' = ⟨g', .nrow ty' fz' nl' L'⟩ := by cases hq : T.get s'; rw [hq] at hk hg; simp at hk hg; subst hk hg; rfl
        have := hr.nwin_ hT
        exact ⟨hT, hr.nwin_form, this.1, this.2⟩
      · cases hx
    · cases hx
  · cases hx
/-- A cut: what must hold, and from where to where. -/
def cutT (o n len : Nat) (l h : Option Int) : List Bool × Nat × Nat :=
  match h with
  | none => ([decide (0 ≤ l.getD 0), decide (l.getD 0 ≤ (n : Int))], (l.getD 0).toNat, n)
  | some h => ([decide (0 ≤ l.getD 0), decide (l.getD 0 ≤ h), decide ((o : Int) + h ≤ (len : Int))], (l.getD 0).toNat, h.toNat)
def wSlice (P : Program) (T : Tab) (t : Nat) (x : V) (lo hi : Option V) : Option (List Bool × V) :=
  match P.underlying t with
  | some (.slice e) => match P.info? e, winOf T x, bndT lo, bndT hi with
    | some inf, some (s, g, off, n, _, _, _, L), some l, some h => if L.e.size = inf.size then
        some ((cutT off n L.l.length l h).1, .nwin s g (off + (cutT off n L.l.length l h).2.1) ((cutT off n L.l.length l h).2.2 - (cutT off n L.l.length l h).2.1)) else none
    | _, _, _, _ => none
  | _ => none
theorem bndT_none {o : Option V} (h : bndT o = some none) : o = none := by
  unfold bndT at h
  split at h
  · rfl
  · injection h with h; cases h
  · cases h
theorem wSlice_ok (h : RelI κ ι st a w) {t : Nat} {x v : V} {cx : Value} {lo hi : Option V} {clo chi : Option Value} {bs : List Bool} (hr : Rv st.o ι (Stable κ.D st.o ι w) w x cx)
    (hlo : RO st.o ι (Stable κ.D st.o ι w) w lo clo) (hhi : RO st.o ι (Stable κ.D st.o ι w) w hi chi) (hx : wSlice κ.P st.o t x lo hi = some (bs, v)) (hbs : bs.all id = true) :
    SemOk κ ι st.o w (Instr.sliceAt t cx clo chi none) v none := by
  unfold wSlice at hx
  split at hx
  case h_2 => cases hx
  rename_i e ht
  split at hx
  case h_2 => cases hx
  rename_i inf s g off n ty fz nl L l hh hinf hw hl hh'
  split at hx
  case isFalse => cases hx
  rename_i hsz
  injection hx with hx
  simp only [Prod.mk.injEq] at hx
  obtain ⟨rfl, rfl⟩ := hx
  obtain ⟨hT, ⟨p0, n0, c0, hcx⟩, hle, hor⟩ := winOf_ok hw hr
  -- the bounds
  have hl0 : 0 ≤ l.getD 0 := by
    unfold cutT at hbs
    split at hbs <;> simp only [List.all_cons, Bool.and_eq_true, id, decide_eq_true_eq] at hbs <;> exact hbs.1
  have e1 : aBnd lo 0 = some (l.getD 0).toNat := by
    have := bndT_ok (d := 0) hl (by cases l with | none => rfl | some i => simpa [loOk] using hl0)
    cases l <;> exact this
  have key : ∃ hv, (cutT off n L.l.length l hh).2.2 = hv ∧ aBnd hi n = some hv ∧ (l.getD 0).toNat ≤ hv ∧ off + hv ≤ L.l.length := by
    cases hh with
    | none =>
      have := bndT_none hh'
      subst this
      simp only [cutT, List.all_cons, List.all_nil, Bool.and_eq_true, id, decide_eq_true_eq] at hbs
      exact ⟨n, rfl, rfl, by omega, hle⟩
    | some i =>
      simp only [cutT, List.all_cons, List.all_nil, Bool.and_eq_true, id, decide_eq_true_eq] at hbs
      have := bndT_ok (d := n) hh' (by simp [loOk]; omega)
      exact ⟨i.toNat, rfl, this, by omega, by omega⟩
  obtain ⟨hv, ehv, e2, hlh, hvl⟩ := key
  have ecut : (cutT off n L.l.length l hh).2.1 = (l.getD 0).toNat := by cases hh <;> rfl
  rw [ehv, ecut]
  generalize (l.getD 0).toNat = lv at *
  rcases hor with ⟨hnl, hnil, p, rfl⟩ | ⟨hn, ad, c, cap, arr, ty1, fz1, rfl, hb, hmem, has, hnc, hcap, hpl⟩
  · have hlen : L.l.length = 0 := by rw [hnil]; rfl
    have hlv : lv = 0 := by omega
    have hhv : hv = 0 := by omega
    have hn0 : n = 0 := by omega
    subst hlv hhv hn0
    have hb2 := sliceBounds_ok (P := κ.P) hlo hhi true 0 0 0 0 e1 e2 (by omega) (by omega)
    refine SemOk.same h (cv := .slice p 0 0) ?_ (.nwin ⟨_, _, _, rfl⟩ (by rw [hT]; exact Nat.le_refl _) fun ty' fz' nl' L' e => ?_)
    · cases p with
      | none => simp [Instr.sliceAt, Instr.slice, run_underlying ht, hb2, run_size hinf]
      | some ad => simp [Instr.sliceAt, Instr.slice, run_underlying ht, hb2, run_size hinf]
    · rw [hT] at e
      simp at e
      obtain ⟨rfl, rfl, rfl, rfl⟩ := e
      exact ⟨by omega, .inl ⟨hnl, hnil, p, rfl⟩⟩
  · have hob := h.tr.ob s
    rw [hT] at hob
    obtain ⟨arr2, fz2, cap2, h1, h2, h3, h4, h5, h6⟩ := hob.resolve_left hn
    rw [hmem] at h1
    injection h1 with h1; injection h1 with q1 q2 q3; subst q1
    have hcl := L.cells_length
    have hcc : L.l.length ≤ cap := by
      rw [hcl, has] at h5
      exact Nat.le_of_mul_le_mul_right h5 h4
    have hb2 := sliceBounds_ok (P := κ.P) hlo hhi true n c lv hv e1 e2 hlh (by omega)
    refine SemOk.same h (cv := .slice (some (if c = lv then ad else ad.add (lv * inf.size))) (hv - lv) (c - lv)) ?_ ?_
    · simp only [Instr.sliceAt, Instr.slice, Sem.run_bind, run_underlying ht, Result.andThen_ok, hb2, run_size hinf]
      by_cases hcl : c = lv <;> simp [hcl]
    · refine .nwin ⟨_, _, _, rfl⟩ (by rw [hT]; exact Nat.le_refl _) fun ty' fz' nl' L' e => ?_
      rw [hT] at e
      simp at e
      obtain ⟨rfl, rfl, rfl, rfl⟩ := e
      refine ⟨by omega, .inr ⟨hn, _, c - lv, cap, arr, ty1, fz1, rfl, ?_, hmem, has, by omega, by omega, fun hne => ?_⟩⟩
      · split
        · exact hb
        · rw [block_add]; exact hb
      · rw [if_neg (by omega)]
        have := hpl (by omega); subst this
        unfold Addr.add
        split
        · rename_i e0; rw [Nat.add_mul, hsz, e0]; rfl
        · rw [Nat.add_mul, hsz]
def aSlice (P : Program) (T : Tab) (t : Nat) (x : V) (lo hi : Option V) : Option V :=
  match P.underlying t with
  | some .string => match x with
    | .str s => match aBnd lo 0, aBnd hi s.length with
      | some l, some h => if l ≤ h ∧ h ≤ s.length then some (.str ((s.take h).drop l)) else none
      | _, _ => none
    | _ => none
  | some (.slice e) => match P.info? e with
    | some i => match x with
      | .snil => match aBnd lo 0, aBnd hi 0 with
        | some l, some h => if l = 0 ∧ h = 0 then some .snil else none
        | _, _ => none
      | .own s g off n => match aBnd lo 0, aBnd hi n with
        | some l, some h => if l ≤ h ∧ h ≤ n ∧ (T.get s).gen = g then (match (T.get s).k with
          | .row _ sz _ _ => if sz = i.size then some (.own s g (off + l) (h - l)) else none
          | _ => none) else none
        | _, _ => none
      | .sl n cs => match aBnd lo 0, aBnd hi n with
        | some l, some h => if l ≤ h ∧ h ≤ n ∧ cs.length = n * i.size then some (.sl (h - l) ((cs.take (h * i.size)).drop (l * i.size))) else none
        | _, _ => none
      | .lst L => if L.e.size = i.size then (match aBnd lo 0, aBnd hi L.l.length with
        | some l, some h => if l ≤ h ∧ h ≤ L.l.length then some (.lst ⟨L.e, (L.l.take h).drop l⟩) else none
        | _, _ => none) else none
      | x => match wSlice P T t x lo hi with
        | some r => if r.1.all id = true then some r.2 else none
        | none => none
    | none => none
  | _ => none

theorem aSlice_ok (h : RelI κ ι st a w) {t : Nat} {x v : V} {cx : Value} {lo hi : Option V} {clo chi : Option Value} (hr : Rv st.o ι (Stable κ.D st.o ι w) w x cx)
    (hlo : RO st.o ι (Stable κ.D st.o ι w) w lo clo) (hhi : RO st.o ι (Stable κ.D st.o ι w) w hi chi) (hx : aSlice κ.P st.o t x lo hi = some v) :
    SemOk κ ι st.o w (Instr.sliceAt t cx clo chi none) v none := by
  unfold aSlice at hx
  split at hx
  · rename_i ht
    split at hx
    · rename_i s
      split at hx
      · rename_i l hh e1 e2
        split at hx
        · rename_i hc
          injection hx with hx; subst hx
          obtain ⟨b, rfl, hb⟩ := hr.str_
          have hbl : b.size = s.length := by rw [← hb, Array.length_toList]; rfl
          have hb2 := sliceBounds_ok (P := κ.P) hlo hhi false b.size b.size l hh e1 (by rw [hbl]; exact e2) hc.1 (by omega)
          refine SemOk.same h (cv := .string (b.extract l hh)) ?_ (.pure (.str _ _ ?_))
          · simp [Instr.sliceAt, Instr.slice, run_underlying ht, hb2]
          · rw [← hb]
            simp [ByteArray.data_extract, List.extract_eq_take_drop, List.drop_take]
        · cases hx
      · cases hx
    · cases hx
  · rename_i e ht
    split at hx
    · rename_i i hi
      split at hx
      · split at hx
        · rename_i l hh e1 e2
          split at hx
          · rename_i hc
            obtain ⟨rfl, rfl⟩ := hc
            injection hx with hx; subst hx
            have := hr.snil_; subst this
            have hb2 := sliceBounds_ok (P := κ.P) hlo hhi true 0 0 0 0 e1 e2 (by omega) (by omega)
            refine SemOk.same h (cv := .slice none 0 0) ?_ (.pure .snil)
            simp [Instr.sliceAt, Instr.slice, run_underlying ht, hb2, run_size hi]
          · cases hx
        · cases hx
      · rename_i s g off n
        split at hx
        · rename_i l hh e1 e2
          split at hx
          · rename_i hc
            obtain ⟨hlh, hhn, hg⟩ := hc
            split at hx
            · rename_i ty sz fz0 cs hk
              split at hx
              · rename_i hsz
                injection hx with hx; subst hx
                have hT : st.o.get s = ⟨g, .row ty sz fz0 cs⟩ := by cases hTs : st.o.get s; rw [hTs] at hk hg; simp at hk hg; subst hk hg; rfl
                obtain ⟨ad, c, cap, arr, ty1, fz, rfl, hb, hmem, has, hn, hcap, hpl⟩ := hr.own_ hT
                have hb2 := sliceBounds_ok (P := κ.P) hlo hhi true n c l hh e1 e2 hlh (by omega)
                refine SemOk.same h (cv := .slice (some (if c = l then ad else ad.add (l * i.size))) (hh - l) (c - l)) ?_ ?_
                · simp only [Instr.sliceAt, Instr.slice, Sem.run_bind, run_underlying ht, Result.andThen_ok, hb2, run_size hi]
                  by_cases hcl : c = l <;> simp [hcl]
                · refine .own ⟨_, _, rfl⟩ (by omega) fun ty' sz' fz' cs' e => ?_
                  rw [hT] at e
                  simp at e
                  obtain ⟨rfl, rfl, rfl, rfl⟩ := e
                  refine ⟨_, c - l, cap, arr, ty1, fz, rfl, ?_, hmem, has, by omega, by omega, fun hne => ?_⟩
                  · split
                    · exact hb
                    · rw [block_add]; exact hb
                  · rw [if_neg (by omega)]
                    have := hpl (by omega); subst this
                    subst hsz
                    unfold Addr.add
                    split
                    · rename_i e0; rw [Nat.add_mul, e0]; rfl
                    · rw [Nat.add_mul]
              · cases hx
            · cases hx
          · cases hx
        · cases hx
      · rename_i n cs
        split at hx
        · rename_i l hh e1 e2
          split at hx
          · rename_i hc
            obtain ⟨hlh, hhn, hcl⟩ := hc
            injection hx with hx; subst hx
            rcases hr.sl_ with ⟨rfl, rfl, rfl⟩ | ⟨ad, c, vs, rfl, hnc, hm, hl, hrp⟩
            · have h0 : l = 0 ∧ hh = 0 := by omega
              obtain ⟨rfl, rfl⟩ := h0
              have hb2 := sliceBounds_ok (P := κ.P) hlo hhi true 0 0 0 0 e1 e2 (by omega) (by omega)
              refine SemOk.same h (cv := .slice none 0 0) ?_ (by simpa using .pure .slz)
              simp [Instr.sliceAt, Instr.slice, run_underlying ht, hb2, run_size hi]
            have hb2 := sliceBounds_ok (P := κ.P) hlo hhi true n c l hh e1 e2 hlh (by omega)
            refine SemOk.same h (cv := .slice (some (if c = l then ad else ad.add (l * i.size))) (hh - l) (c - l)) ?_ ?_
            · simp only [Instr.sliceAt, Instr.slice, Sem.run_bind, run_underlying ht, Result.andThen_ok, hb2, run_size hi]
              by_cases hcl : c = l <;> simp [hcl]
            · refine .pure (.sl (vs := (vs.take (hh * i.size)).drop (l * i.size)) (by omega) (fun j u hu => ?_) (by simp [hl]) (fun j d u hd hu => ?_))
              · rw [List.getElem?_drop, List.getElem?_take] at hu
                split at hu
                · rename_i hj
                  have hcl' : c ≠ l := by
                    rintro rfl
                    have : hh * i.size ≤ c * i.size := Nat.mul_le_mul_right _ (by omega)
                    omega
                  rw [if_neg hcl', add_add]
                  exact hm _ u hu
                · cases hu
              · rw [List.getElem?_drop, List.getElem?_take] at hd hu
                split at hu
                · rename_i hj
                  rw [if_pos hj] at hd
                  exact hrp _ d u hd hu
                · cases hu
          · cases hx
        · cases hx
      · rename_i L
        split at hx
        · rename_i hsz
          split at hx
          · rename_i l hh e1 e2
            split at hx
            · rename_i hc
              obtain ⟨hlh, hhn⟩ := hc
              injection hx with hx; subst hx
              have hcl := L.cells_length
              have hcut : (⟨L.e, (L.l.take hh).drop l⟩ : TL).cells = (L.cells.take (hh * i.size)).drop (l * i.size) := by
                rw [← hsz]; exact flat_cut L.e L.l l hh
              have hlen : ((L.l.take hh).drop l).length = hh - l := by simp; omega
              rcases (Rv.pure hr.lst_).sl_ (T := st.o) (ι := ι) with ⟨e0, e3, rfl⟩ | ⟨ad, c, vs, rfl, hnc, hm, hl, hrp⟩
              · have h0 : l = 0 ∧ hh = 0 := by omega
                obtain ⟨rfl, rfl⟩ := h0
                have hb2 := sliceBounds_ok (P := κ.P) hlo hhi true 0 0 0 0 e1 (by rw [e0] at e2; exact e2) (by omega) (by omega)
                refine SemOk.same h (cv := .slice none 0 0) ?_ (.pure (.lst ?_))
                · simp [Instr.sliceAt, Instr.slice, run_underlying ht, hb2, run_size hi]
                · simp only [hlen, hcut, e3]; simpa using .slz
              · have hb2 := sliceBounds_ok (P := κ.P) hlo hhi true L.l.length c l hh e1 e2 hlh (by omega)
                refine SemOk.same h (cv := .slice (some (if c = l then ad else ad.add (l * i.size))) (hh - l) (c - l)) ?_ (.pure (.lst ?_))
                · simp only [Instr.sliceAt, Instr.slice, Sem.run_bind, run_underlying ht, Result.andThen_ok, hb2, run_size hi]
                  by_cases hcl : c = l <;> simp [hcl]
                · simp only [hlen, hcut]
                  refine .sl (vs := (vs.take (hh * i.size)).drop (l * i.size)) (by omega) (fun j u hu => ?_) (by simp [hl]) (fun j d u hd hu => ?_)
                  · rw [List.getElem?_drop, List.getElem?_take] at hu
                    split at hu
                    · rename_i hj
                      have hcl' : c ≠ l := by
                        rintro rfl
                        have : hh * i.size ≤ c * i.size := Nat.mul_le_mul_right _ (by omega)
                        omega
                      rw [if_neg hcl', add_add]
                      exact hm _ u hu
                    · cases hu
                  · rw [List.getElem?_drop, List.getElem?_take] at hd hu
                    split at hu
                    · rename_i hj
                      rw [if_pos hj] at hd
                      exact hrp _ d u hd hu
                    · cases hu
            · cases hx
          · cases hx
        · cases hx
      · split at hx
        · rename_i r hw
          split at hx
          · rename_i hb
            injection hx with hx; subst hx
            exact wSlice_ok (bs := r.1) (v := r.2) h hr hlo hhi hw hb
          · cases hx
        · cases hx
    · cases hx
  · cases hx
theorem wSlice_t {P : Program} {T : Tab} {t : Nat} {x : V} {lo hi : Option V} {r : List Bool × V} (h : wSlice P T t x lo hi = some r) : ∃ e, P.underlying t = some (.slice e) := by
  unfold wSlice at h
  split at h
  · rename_i e ht; exact ⟨e, ht⟩
  · cases h
theorem aSlice_w {P : Program} {T : Tab} {t : Nat} {x : V} {lo hi : Option V} {r : List Bool × V} (h : wSlice P T t x lo hi = some r) (hb : r.1.all id = true) : aSlice P T t x lo hi = some r.2 := by
  have h0 := h
  unfold wSlice at h
  split at h
  case h_2 => cases h
  rename_i e ht
  split at h
  case h_2 => cases h
  rename_i inf s g off n ty fz nl L l hh hinf hw hl hh'
  have hx : (∃ s g, x = .acc s g) ∨ ∃ s g o n, x = .nwin s g o n := by
    unfold winOf at hw
    split at hw
    · exact .inl ⟨_, _, rfl⟩
    · exact .inr ⟨_, _, _, _, rfl⟩
    · cases hw
  rcases hx with ⟨s1, g1, rfl⟩ | ⟨s1, g1, o1, n1, rfl⟩
  · simp only [aSlice, ht, hinf, h0, hb, if_true]
  · simp only [aSlice, ht, hinf, h0, hb, if_true]

def aLen (P : Program) (T : Tab) (t : Nat) (x : V) : Option V :=
  match P.underlying t, x with
  | some .string, .str s => some (.int .i64 s.length)
  | some (.slice _), .snil => some (.int .i64 0)
  | some (.slice _), .sl n _ => some (.int .i64 n)
  | some (.slice _), .own _ _ _ n => some (.int .i64 n)
  | some (.slice _), .lst L => some (.int .i64 L.l.length)
  | some (.slice _), .sz => some (.int .i64 0)
  | some (.slice _), .acc s g => if (T.get s).gen = g then (match (T.get s).k with
    | .nrow _ _ _ L => some (.int .i64 L.l.length)
    | _ => none) else none
  | some (.array n _), _ => some (.int .i64 n)
  | _, _ => none
theorem aLen_ok (h : RelI κ ι st a w) {t ty : Nat} {x v : V} {cx : Value} {ts : Array TypeId} (hts : ts[0]? = some t) (hr : Rv st.o ι (Stable κ.D st.o ι w) w x cx) (hx : aLen κ.P st.o t x = some v) :
    SemOk κ ι st.o w (Builtin.len_ ts ty #[cx]) v none := by
  have hts' : ∀ (h0 : 0 < ts.size), ts[0] = t := fun h0 => by rw [Array.getElem?_eq_getElem h0] at hts; injection hts
  unfold aLen at hx
  split at hx
  · rename_i s ht
    injection hx with hx; subst hx
    obtain ⟨b, rfl, hb⟩ := hr.str_
    have hbl : b.size = s.length := by rw [← hb, Array.length_toList]; rfl
    refine SemOk.same h (cv := .int .i64 b.size) ?_ (by rw [hbl]; exact .pure (.int _ _))
    simp only [Builtin.len_, hts]
    simp [run_underlying ht, goInt]
  · rename_i e ht
    injection hx with hx; subst hx
    have := hr.snil_; subst this
    refine SemOk.same h (cv := .int .i64 0) ?_ (.pure (.int _ _))
    simp only [Builtin.len_, hts]
    simp [run_underlying ht, goInt]
  · rename_i e n cs ht
    injection hx with hx; subst hx
    rcases hr.sl_ with ⟨rfl, rfl, rfl⟩ | ⟨ad, c, vs, rfl, _⟩
    · refine SemOk.same h (cv := .int .i64 0) ?_ (.pure (.int _ _))
      simp only [Builtin.len_, hts]
      simp [run_underlying ht, goInt]
    refine SemOk.same h (cv := .int .i64 n) ?_ (.pure (.int _ _))
    simp only [Builtin.len_, hts]
    simp [run_underlying ht, goInt]
  · rename_i e s g off n ht
    injection hx with hx; subst hx
    have : ∃ ad c, cx = .slice (some ad) n c := by
      cases hr with
      | pure h => cases h
      | own hv _ _ => exact hv
    obtain ⟨ad, c, rfl⟩ := this
    refine SemOk.same h (cv := .int .i64 n) ?_ (.pure (.int _ _))
    simp only [Builtin.len_, hts]
    simp [run_underlying ht, goInt]
  · rename_i e L ht
    injection hx with hx; subst hx
    have : ∃ p c, cx = .slice p L.l.length c := by
      rcases (Rv.pure hr.lst_).sl_ (T := st.o) (ι := ι) with ⟨e0, _, rfl⟩ | ⟨ad, c, vs, rfl, _⟩
      · exact ⟨none, 0, by rw [e0]⟩
      · exact ⟨_, _, rfl⟩
    obtain ⟨p, c, rfl⟩ := this
    refine SemOk.same h (cv := .int .i64 L.l.length) ?_ (.pure (.int _ _))
    simp only [Builtin.len_, hts]
    simp [run_underlying ht, goInt]
  · rename_i e ht
    injection hx with hx; subst hx
    obtain ⟨p, rfl⟩ := hr.sz_
    refine SemOk.same h (cv := .int .i64 0) ?_ (.pure (.int _ _))
    simp only [Builtin.len_, hts]
    simp [run_underlying ht, goInt]
  · rename_i e s g ht
    split at hx
    · rename_i hg
      split at hx
      · rename_i ty1 fz nl L hk
        injection hx with hx; subst hx
        have hT : st.o.get s = ⟨g, .nrow ty1 fz nl L⟩ := by cases hTs : st.o.get s; rw [hTs] at hk hg; simp at hk hg; subst hk hg; rfl
        have : ∃ p c, cx = .slice p L.l.length c := by
          rcases hr.acc_ hT with ⟨_, e0, p, rfl⟩ | ⟨_, ad, c, _, _, _, _, rfl, _⟩
          · exact ⟨p, 0, by rw [e0]; rfl⟩
          · exact ⟨_, _, rfl⟩
        obtain ⟨p, c, rfl⟩ := this
        refine SemOk.same h (cv := .int .i64 L.l.length) ?_ (.pure (.int _ _))
        simp only [Builtin.len_, hts]
        simp [run_underlying ht, goInt]
      · cases hx
    · cases hx
  · rename_i n e ht
    injection hx with hx; subst hx
    refine SemOk.same h (cv := .int .i64 n) ?_ (.pure (.int _ _))
    simp only [Builtin.len_, hts]
    simp [run_underlying ht, goInt]
  · cases hx

end
end Go.Abs
