/- New operations, by conditions. -/
import Derived.Test.YtigmbfeeodggbaaExtO
namespace Go.Abs
open Go.RowKit
set_option linter.unusedVariables false
set_option linter.unusedSimpArgs false

/-! Interface values of Lean's own. -/
def siOf : (t : Ty) → t.I → V
  | .alt t a r, x => match x with
    | .inl y => .ifc t (vOf a (cellsW a y))
    | .inr z => siOf r z
  | .alt1 t a, x => .ifc t (vOf a (cellsW a x))
  | .inil, _ => .inil
  | _, _ => .undef
def siT : (t : Ty) → t.I → Tr V
  | .alt t a r, x => .sm x (fun y => .ret (.ifc t (vOf a (cellsW a y)))) fun z => siT r z
  | .alt1 t a, x => .ret (.ifc t (vOf a (cellsW a x)))
  | .inil, _ => .ret .inil
  | _, _ => .ret .undef
theorem siT_run : ∀ (t : Ty) (x : t.I), (siT t x).run = some (siOf t x)
  | .alt t a r, .inl y => rfl
  | .alt t a r, .inr z => siT_run r z
  | .alt1 _ _, _ | .inil, _ | .int _, _ | .bool, _ | .str, _ | .list _, _ | .unit, _ | .pair _ _, _ | .agg _, _ => rfl
theorem siOf_rv {T : Tab} {ι : Nat → Nat} {S : Addr → Prop} {w : World} : ∀ (t : Ty) (x : t.I) (u : Value), Rp S w ((cellsV t x).headD .pnil) u → Rv T ι S w (siOf t x) u
  | .alt t a r, .inl y, u, h => by
    have h' : Rp S w (.ifc t (vOf a (cellsV a y))) u := h
    cases h' with
    | ifc q => exact .pure (.ifc (vOf_rp (by rw [cellsV_length, cellsW_length]) (cellsW_pt a y) q))
  | .alt t a r, .inr z, u, h => siOf_rv r z u h
  | .alt1 t a, x, u, h => by
    have h' : Rp S w (.ifc t (vOf a (cellsV a x))) u := h
    cases h' with
    | ifc q => exact .pure (.ifc (vOf_rp (by rw [cellsV_length, cellsW_length]) (cellsW_pt a x) q))
  | .inil, x, u, h => .pure h
  | .int _, _, u, _ | .bool, _, u, _ | .str, _, u, _ | .list _, _, u, _ | .unit, _, u, _ | .pair _ _, _, u, _ | .agg _, _, u, _ => .undef u
def unS : V → V
  | .si X => siOf X.e X.x
  | v => v
def unST : V → Tr V
  | .si X => siT X.e X.x
  | v => .ret v
theorem unST_run (v : V) : (unST v).run = some (unS v) := by
  cases v <;> first | rfl | exact siT_run _ _
theorem Rv.unS {T : Tab} {ι : Nat → Nat} {S : Addr → Prop} {w : World} {v : V} {cv : Value} (h : Rv T ι S w v cv) : Rv T ι S w (Abs.unS v) cv := by
  unfold Abs.unS
  split
  · exact siOf_rv _ _ _ h.si_
  · exact h

def tyOf (P : Program) : Nat → TypeId → Option Ty
  | 0, _ => none
  | n + 1, t => match P.underlying t with
    | some .bool => some .bool
    | some (.int k) => some (.int k)
    | some .string => some .str
    | some (.slice u) => (tyOf P n u).map .list
    | some (.struct fs) => (flds (tyOf P n) (fs.toList.map (·.type))).map .agg
    | some (.array m u) => (flds (tyOf P n) (List.replicate m u)).map .agg
    | _ => none
where flds (f : TypeId → Option Ty) : List TypeId → Option Ty
  | [] => some .unit
  | [t] => f t
  | t :: u :: r => match f t, flds f (u :: r) with
    | some a, some b => some (.pair a b)
    | _, _ => none

section
variable {κ : Cx} {ι : Nat → Nat} {st : St} {a : Act} {w : World}

/-! Windows. -/
/-- A row, or a window of one, as a window: site, time, from where, how many, and the row. -/
def winOf (T : Tab) (v : V) : Option (Nat × Nat × Nat × Nat × Nat × Bool × Bool × TL) :=
  match v with
  | .acc s g => if (T.get s).gen = g then (match (T.get s).k with
    | .nrow ty fz nl L => some (s, g, 0, L.l.length, ty, fz, nl, L)
    | _ => none) else none
  | .nwin s g off n => if (T.get s).gen = g then (match (T.get s).k with
    | .nrow ty fz nl L => some (s, g, off, n, ty, fz, nl, L)
    | _ => none) else none
  | _ => none
theorem winOf_ok {T : Tab} {S : Addr → Prop} {v : V} {cv : Value} {s g off n ty : Nat} {fz nl : Bool} {L : TL} (hx : winOf T v = some (s, g, off, n, ty, fz, nl, L)) (hr : Rv T ι S w v cv) :
    T.get s = ⟨g, .nrow ty fz nl L⟩ ∧ (∃ p n' c, cv = .slice p n' c) ∧ off + n ≤ L.l.length ∧ ((nl = true ∧ L.l = [] ∧ ∃ p, cv = .slice p 0 0) ∨ (¬ (nl = true ∧ L.l = []) ∧ Own w (ι s) L.e.size off n cv)) := by
  unfold winOf at hx
  split at hx
  · rename_i s' g'
    split at hx
    · rename_i hg
      split at hx
      · rename_i ty' fz' nl' L' hk
        injection hx with hx
        simp only [Prod.mk.injEq] at hx
        obtain ⟨rfl, rfl, rfl, rfl, rfl, rfl, rfl, rfl⟩ := hx
        have hT : T.get s' = ⟨g', .nrow ty' fz' nl' L'⟩ := by cases hq : T.get s'; rw [hq] at hk hg; simp at hk hg; subst hk hg; rfl
        exact ⟨hT, hr.acc_form, by omega, hr.acc_ hT⟩
      · cases hx
    · cases hx
  · rename_i s' g' off' n'
    split at hx
    · rename_i hg
      split at hx
      · rename_i ty' fz' nl' L' hk
        injection hx with hx
        simp only [Prod.mk.injEq] at hx
        obtain ⟨rfl, rfl, rfl, rfl, rfl, rfl, rfl, rfl⟩ := hx
        have hT : T.get s' = ⟨g', .nrow ty' fz' nl' L'⟩ := by cases hq : T.get s'; rw [hq] at hk hg; simp at hk hg; subst hk hg; rfl
        have := hr.nwin_ hT
        exact ⟨hT, hr.nwin_form, this.1, this.2⟩
      · cases hx
    · cases hx
  · cases hx
/-- A cut: what must hold, and from where to where. -/
def cutT (o n len : Nat) (l h : Option Int) : List Bool × Nat × Nat :=
  match h with
  | none => ([decide (0 ≤ l.getD 0), decide (l.getD 0 ≤ (n : Int))], (l.getD 0).toNat, n)
  | some h => ([decide (0 ≤ l.getD 0), decide (l.getD 0 ≤ h), decide ((o : Int) + h ≤ (len : Int))], (l.getD 0).toNat, h.toNat)
def wSlice (P : Program) (T : Tab) (t : Nat) (x : V) (lo hi : Option V) : Option (List Bool × V) :=
  match P.underlying t with
  | some (.slice e) => match P.info? e, winOf T x, bndT lo, bndT hi with
    | some inf, some (s, g, off, n, _, _, _, L), some l, some h => if L.e.size = inf.size then
        some ((cutT off n L.l.length l h).1, .nwin s g (off + (cutT off n L.l.length l h).2.1) ((cutT off n L.l.length l h).2.2 - (cutT off n L.l.length l h).2.1)) else none
    | _, _, _, _ => none
  | _ => none
theorem bndT_none {o : Option V} (h : bndT o = some none) : o = none := by
  unfold bndT at h
  split at h
  · rfl
  · injection h with h; cases h
  · cases h
theorem wSlice_ok (h : RelI κ ι st a w) {t : Nat} {x v : V} {cx : Value} {lo hi : Option V} {clo chi : Option Value} {bs : List Bool} (hr : Rv st.o ι (Stable κ.D st.o ι w) w x cx)
    (hlo : RO st.o ι (Stable κ.D st.o ι w) w lo clo) (hhi : RO st.o ι (Stable κ.D st.o ι w) w hi chi) (hx : wSlice κ.P st.o t x lo hi = some (bs, v)) (hbs : bs.all id = true) :
    SemOk κ ι st.o w (Instr.sliceAt t cx clo chi none) v none := by
  unfold wSlice at hx
  split at hx
  case h_2 => cases hx
  rename_i e ht
  split at hx
  case h_2 => cases hx
  rename_i inf s g off n ty fz nl L l hh hinf hw hl hh'
  split at hx
  case isFalse => cases hx
  rename_i hsz
  injection hx with hx
  simp only [Prod.mk.injEq] at hx
  obtain ⟨rfl, rfl⟩ := hx
  obtain ⟨hT, ⟨p0, n0, c0, hcx⟩, hle, hor⟩ := winOf_ok hw hr
  -- the bounds
  have hl0 : 0 ≤ l.getD 0 := by
    unfold cutT at hbs
    split at hbs <;> simp only [List.all_cons, Bool.and_eq_true, id, decide_eq_true_eq] at hbs <;> exact hbs.1
  have e1 : aBnd lo 0 = some (l.getD 0).toNat := by
    have := bndT_ok (d := 0) hl (by cases l with | none => rfl | some i => simpa [loOk] using hl0)
    cases l <;> exact this
  have key : ∃ hv, (cutT off n L.l.length l hh).2.2 = hv ∧ aBnd hi n = some hv ∧ (l.getD 0).toNat ≤ hv ∧ off + hv ≤ L.l.length := by
    cases hh with
    | none =>
      have := bndT_none hh'
      subst this
      simp only [cutT, List.all_cons, List.all_nil, Bool.and_eq_true, id, decide_eq_true_eq] at hbs
      exact ⟨n, rfl, rfl, by omega, hle⟩
    | some i =>
      simp only [cutT, List.all_cons, List.all_nil, Bool.and_eq_true, id, decide_eq_true_eq] at hbs
      have := bndT_ok (d := n) hh' (by simp [loOk]; omega)
      exact ⟨i.toNat, rfl, this, by omega, by omega⟩
  obtain ⟨hv, ehv, e2, hlh, hvl⟩ := key
  have ecut : (cutT off n L.l.length l hh).2.1 = (l.getD 0).toNat := by cases hh <;> rfl
  rw [ehv, ecut]
  generalize (l.getD 0).toNat = lv at *
  rcases hor with ⟨hnl, hnil, p, rfl⟩ | ⟨hn, ad, c, cap, arr, ty1, fz1, rfl, hb, hmem, has, hnc, hcap, hpl⟩
  · have hlen : L.l.length = 0 := by rw [hnil]; rfl
    have hlv : lv = 0 := by omega
    have hhv : hv = 0 := by omega
    have hn0 : n = 0 := by omega
    subst hlv hhv hn0
    have hb2 := sliceBounds_ok (P := κ.P) hlo hhi true 0 0 0 0 e1 e2 (by omega) (by omega)
    refine SemOk.same h (cv := .slice p 0 0) ?_ (.nwin ⟨_, _, _, rfl⟩ (by rw [hT]; exact Nat.le_refl _) fun ty' fz' nl' L' e => ?_)
    · cases p with
      | none => simp [Instr.sliceAt, Instr.slice, run_underlying ht, hb2, run_size hinf]
      | some ad => simp [Instr.sliceAt, Instr.slice, run_underlying ht, hb2, run_size hinf]
    · rw [hT] at e
      simp at e
      obtain ⟨rfl, rfl, rfl, rfl⟩ := e
      exact ⟨by omega, .inl ⟨hnl, hnil, p, rfl⟩⟩
  · have hob := h.tr.ob s
    rw [hT] at hob
    obtain ⟨arr2, fz2, cap2, h1, h2, h3, h4, h5, h6⟩ := hob.resolve_left hn
    rw [hmem] at h1
    injection h1 with h1; injection h1 with q1 q2 q3; subst q1
    have hcl := L.cells_length
    have hcc : L.l.length ≤ cap := by
      rw [hcl, has] at h5
      exact Nat.le_of_mul_le_mul_right h5 h4
    have hb2 := sliceBounds_ok (P := κ.P) hlo hhi true n c lv hv e1 e2 hlh (by omega)
    refine SemOk.same h (cv := .slice (some (if c = lv then ad else ad.add (lv * inf.size))) (hv - lv) (c - lv)) ?_ ?_
    · simp only [Instr.sliceAt, Instr.slice, Sem.run_bind, run_underlying ht, Result.andThen_ok, hb2, run_size hinf]
      by_cases hcl : c = lv <;> simp [hcl]
    · refine .nwin ⟨_, _, _, rfl⟩ (by rw [hT]; exact Nat.le_refl _) fun ty' fz' nl' L' e => ?_
      rw [hT] at e
      simp at e
      obtain ⟨rfl, rfl, rfl, rfl⟩ := e
      refine ⟨by omega, .inr ⟨hn, _, c - lv, cap, arr, ty1, fz1, rfl, ?_, hmem, has, by omega, by omega, fun hne => ?_⟩⟩
      · split
        · exact hb
        · rw [block_add]; exact hb
      · rw [if_neg (by omega)]
        have := hpl (by omega); subst this
        unfold Addr.add
        split
        · rename_i e0; rw [Nat.add_mul, hsz, e0]; rfl
        · rw [Nat.add_mul, hsz]
/-- A window's length. -/
def wLen (P : Program) (T : Tab) (t : Nat) (x : V) : Option V :=
  match P.underlying t, x with
  | some (.slice _), .nwin s g off n => (winOf T (.nwin s g off n)).map fun _ => .int .i64 n
  | _, _ => none
theorem wLen_ok (h : RelI κ ι st a w) {t ty : Nat} {x v : V} {cx : Value} {ts : Array TypeId} (hts : ts[0]? = some t) (hr : Rv st.o ι (Stable κ.D st.o ι w) w x cx) (hx : wLen κ.P st.o t x = some v) :
    SemOk κ ι st.o w (Builtin.len_ ts ty #[cx]) v none := by
  unfold wLen at hx
  split at hx
  · rename_i e s g off n ht
    cases hw : winOf st.o (.nwin s g off n) with
    | none => rw [hw] at hx; cases hx
    | some q =>
      obtain ⟨s', g', off', n', ty', fz, nl, L⟩ := q
      rw [hw] at hx
      simp only [Option.map_some, Option.some.injEq] at hx
      subst hx
      have hn : n' = n := by
        unfold winOf at hw
        simp only at hw
        split at hw
        · split at hw
          · injection hw with hw; simp only [Prod.mk.injEq] at hw; exact hw.2.2.2.1.symm
          · cases hw
        · cases hw
      subst hn
      obtain ⟨hT, _, hle, hor⟩ := winOf_ok hw hr
      have : ∃ p c, cx = .slice p n' c := by
        rcases hor with ⟨_, e0, p, rfl⟩ | ⟨_, ad, c, _, _, _, _, rfl, _⟩
        · have : n' = 0 := by rw [e0] at hle; simp at hle; omega
          exact ⟨p, 0, by rw [this]⟩
        · exact ⟨_, _, rfl⟩
      obtain ⟨p, c, rfl⟩ := this
      refine SemOk.same h (cv := .int .i64 n') ?_ (.pure (.int _ _))
      simp only [Builtin.len_, hts]
      simp [run_underlying ht, goInt]
  · cases hx
/-- An element of a window. -/
def wIndex (P : Program) (T : Tab) (t : Nat) (x ix : V) : Option (List Bool × V) :=
  match P.underlying t, x, ix with
  | some (.slice e), .nwin s g off n, .int _ i => match P.info? e, winOf T (.nwin s g off n) with
    | some inf, some (_, _, _, _, _, _, _, L) => if L.e.size = inf.size then some ([decide (0 ≤ i), decide (i < (n : Int))], .eptr s g inf.size (off + i.toNat) 0) else none
    | _, _ => none
  | _, _, _ => none
theorem wIndex_ok (h : RelI κ ι st a w) {t : Nat} {x ix v : V} {cx ci : Value} {bs : List Bool} (hr : Rv st.o ι (Stable κ.D st.o ι w) w x cx) (hi : Rv st.o ι (Stable κ.D st.o ι w) w ix ci)
    (hx : wIndex κ.P st.o t x ix = some (bs, v)) (hbs : bs.all id = true) : SemOk κ ι st.o w (Instr.indexAt t cx ci) v none := by
  unfold wIndex at hx
  split at hx
  case h_2 => cases hx
  rename_i e s g off n k i ht
  split at hx
  case h_2 => cases hx
  rename_i inf s' g' off' n' ty' fz nl L hinf hw
  split at hx
  case isFalse => cases hx
  rename_i hsz
  injection hx with hx
  simp only [Prod.mk.injEq] at hx
  obtain ⟨rfl, rfl⟩ := hx
  simp only [List.all_cons, List.all_nil, Bool.and_eq_true, id, decide_eq_true_eq, Bool.and_true] at hbs
  obtain ⟨h0, h1⟩ := hbs
  have hq : s' = s ∧ g' = g ∧ off' = off ∧ n' = n := by
    unfold winOf at hw
    simp only at hw
    split at hw
    · split at hw
      · injection hw with hw; simp only [Prod.mk.injEq] at hw; exact ⟨hw.1.symm, hw.2.1.symm, hw.2.2.1.symm, hw.2.2.2.1.symm⟩
      · cases hw
    · cases hw
  obtain ⟨rfl, rfl, rfl, rfl⟩ := hq
  obtain ⟨hT, _, hle, hor⟩ := winOf_ok hw hr
  have := hi.int_; subst this
  obtain ⟨hn, ad, c, cap, arr, ty1, fz1, rfl, hb, hmem, has, hnc, hcap, hpl⟩ := hor.resolve_left (fun ⟨_, e0, _⟩ => by rw [e0] at hle; simp at hle; omega)
  have := hpl (by omega); subst this
  refine SemOk.same h (cv := .pointer (some ((⟨ι s', off' * L.e.size, none⟩ : Addr).add (i.toNat * inf.size)))) ?_ ?_
  · simp [Instr.indexAt, asIntOf, run_underlying ht, h0, h1, run_size hinf]
  · refine .eptr ⟨_, rfl⟩ (by rw [hT]; exact Nat.le_refl _) fun ty2 fz2 nl2 L2 e2 => ?_
    rw [hT] at e2
    simp at e2
    obtain ⟨rfl, rfl, rfl, rfl⟩ := e2
    refine ⟨hsz.symm, by omega, ?_⟩
    congr 2
    unfold Addr.add
    split
    · rename_i e0; rw [Nat.add_mul, hsz, e0]; simp
    · simp only [Addr.mk.injEq, true_and]; rw [Nat.add_mul, hsz]; simp
end
end Go.Abs
