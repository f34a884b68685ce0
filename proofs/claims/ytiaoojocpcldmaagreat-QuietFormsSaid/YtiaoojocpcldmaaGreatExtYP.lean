/- More operations on rows of which all is known: cut to a bound, cleared, written over at their ends. -/
import Derived.Test.YtiaoojocpcldmaaGreatExtX
import Derived.Test.YtiaoojocpcldmaaGreatAbsY
namespace Go.Abs
open Go.RowKit
set_option linter.unusedVariables false
set_option linter.unusedSimpArgs false
section
variable {κ : Cx} {ι : Nat → Nat} {st : St} {a : Act} {w : World}
def aClear (P : Program) (T : Tab) (t : Nat) (x : V) : Option Wr :=
 match P.underlying t with
 | some (.slice e) => match zeroC P e, P.info? e with
  | some zs, some i => match x with
   | .own s g off n => if (T.get s).gen = g then (match (T.get s).k with
    | .row ty sz false cs => if n = 0 then some none else
      if sz = zs.length ∧ zs.all V.cellOk = true ∧ (off + n) * sz ≤ cs.length then some (some (s, ⟨g, .row ty sz false (splice cs (off * sz) (repl zs n))⟩)) else none
    | _ => none) else none
   | _ => none
  | _, _ => none
 | _ => none
theorem aClear_ok (h : RelI κ ι st a w) {t ty : Nat} {x : V} {cx : Value} {wr : Wr} {ts : Array TypeId} (hts : ts[0]? = some t) (hr : Rv st.o ι (Stable κ.D st.o ι w) w x cx) (hx : aClear κ.P st.o t x = some wr) :
  SemOk κ ι st.o w (Builtin.clear_ ts ty #[cx]) (.tup []) wr := by
 unfold aClear at hx
 split at hx
 case h_2 => cases hx
 rename_i e ht
 split at hx
 case h_2 => cases hx
 rename_i zs i hz hi
 split at hx
 case h_2 => cases hx
 rename_i s g off n
 split at hx
 case isFalse => cases hx
 rename_i hg
 split at hx
 case h_2 => cases hx
 rename_i ty1 sz cs hk
 have hT : st.o.get s = ⟨g, .row ty1 sz false cs⟩ := by cases hTs : st.o.get s; rw [hTs] at hk hg; simp at hk hg; subst hk hg; rfl
 obtain ⟨ad, c, cap, arr, ty2, fz, rfl, hbk, hmem, has, hn, hcap, hpl⟩ := hr.own_ hT
 have htup : ∀ {T' : Tab} {ι' : Nat → Nat} {S' : Addr → Prop} {w' : World}, Rv T' ι' S' w' (.tup []) (.tuple #[]) := .pure (.tup (vs := []) rfl (by simp))
 split at hx
 ·rename_i hn0
  injection hx with hx; subst hx hn0
  refine SemOk.same h (cv := .tuple #[]) ?_ htup
  simp only [Builtin.clear_, hts]
  simp [run_underlying ht]
 ·rename_i hn0
  split at hx
  case isFalse => cases hx
  rename_i hc
  obtain ⟨hsz, hall, hle⟩ := hc
  injection hx with hx; subst hx
  obtain ⟨z, i', hi', hzz, hzs, hrun, hlr⟩ := zeroC_ok hz
  rw [hi] at hi'; injection hi' with hi'; subst hi'
  have hzl : zs.length = i.size := by rw [← hzs]; simpa using (hlr (S := fun _ => False) (w := w)).1
  have hmade := (hlr (S := Stable κ.D st.o ι w) (w := w)).made (n * i.size) n (by rw [hzs])
  have hzc : (Builtin.zeroCells z.cells n).toList = (madeCells z.cells (n * i.size)).toList := by rw [← hzs]; exact zeroCells_made _ _
  have hrl : (repl zs n).length = n * i.size := by simp [repl, hzl]
  have hnews : LR (Rv st.o ι (Stable κ.D st.o ι w) w) (repl zs n) (Builtin.zeroCells z.cells n).toList := by rw [hzc]; exact hmade.mono fun _ _ => .pure
  have hone : ∀ u ∈ (Builtin.zeroCells z.cells n).toList, u.oneCell' = true := by
   intro u hu
   obtain ⟨j, hj⟩ := List.mem_iff_getElem?.1 hu
   have hjl : j < (repl zs n).length := by rw [hnews.1]; exact (List.getElem?_eq_some_iff.1 hj).1
   have hd := List.getElem?_eq_getElem hjl
   refine cell_one ?_ (hnews.2 j _ u hd hj)
   have hm : (repl zs n)[j] ∈ repl zs n := List.getElem_mem hjl
   simp only [repl, List.mem_flatten, List.mem_replicate] at hm
   obtain ⟨l, ⟨_, rfl⟩, hm⟩ := hm
   exact List.all_eq_true.1 hall _ hm
  have hmul : (off + n) * sz = off * sz + n * sz := Nat.add_mul _ _ _
  obtain ⟨A, hA1, hA2, hA3, hA4⟩ := ownPut h hT hmem (q := off * sz) hnews hone (by rw [hrl, ← hzl, ← hsz]; omega)
  have := hpl (by omega); subst this
  refine ⟨.tuple #[], _, ι, ?_, hA4, htup⟩
  simp only [Builtin.clear_, hts]
  obtain ⟨n', rfl⟩ : ∃ n', n = n' + 1 := ⟨n - 1, by omega⟩
  simp [run_underlying ht, hrun, hA3]
def aCut3 (P : Program) (T : Tab) (t : Nat) (x lo hi mx : V) : Bool :=
 match P.underlying t with
 | some (.slice e) => match P.info? e, lo, hi, mx with
  | some _, .int _ l, .int _ h, .int _ m => match x with
   | .own s g _ n => decide (0 ≤ l) && decide (l ≤ h) && decide (h ≤ m) && decide (m ≤ (n : Int)) && (decide ((T.get s).gen = g) && (match (T.get s).k with | .row _ _ _ _ => true | _ => false))
   | .sl n _ => decide (0 ≤ l) && decide (l ≤ h) && decide (h ≤ m) && decide (m ≤ (n : Int))
   | _ => false
  | _, _, _, _ => false
 | _ => false
theorem aCut3_ok (h : RelI κ ι st a w) {t : Nat} {x lo hi mx : V} {cx clo chi cmx : Value} (hr : Rv st.o ι (Stable κ.D st.o ι w) w x cx) (hlo : Rv st.o ι (Stable κ.D st.o ι w) w lo clo) (hhi : Rv st.o ι (Stable κ.D st.o ι w) w hi chi) (hmx : Rv st.o ι (Stable κ.D st.o ι w) w mx cmx)
  (hx : aCut3 κ.P st.o t x lo hi mx = true) : SemOk κ ι st.o w (Instr.sliceAt t cx (some clo) (some chi) (some cmx)) .undef none := by
 unfold aCut3 at hx
 split at hx
 case h_2 => cases hx
 rename_i e ht
 split at hx
 case h_2 => cases hx
 rename_i i k1 l k2 hh k3 m hi
 have e1 := hlo.int_; have e2 := hhi.int_; have e3 := hmx.int_
 subst e1 e2 e3
 have fin : ∀ (p : Option Addr) (n c : Nat), n ≤ c → 0 ≤ l → l ≤ hh → hh ≤ m → m ≤ (n : Int) → SemOk κ ι st.o w (Instr.sliceAt t (.slice p n c) (some (.int k1 l)) (some (.int k2 hh)) (some (.int k3 m))) .undef none := by
  intro p n c hnc h1 h2 h3 h4
  have b1 := sliceBound_ok (w := w) (P := κ.P) k3 m c .slice3Acap (by omega) (by omega)
  have b2 := sliceBound_ok (w := w) (P := κ.P) k2 hh m.toNat .slice3B (by omega) (by omega)
  have b3 := sliceBound_ok (w := w) (P := κ.P) k1 l hh.toNat .slice3C (by omega) (by omega)
  refine SemOk.same h (cv := .slice (if m.toNat = l.toNat then p else p.map (·.add (l.toNat * i.size))) (hh.toNat - l.toNat) (m.toNat - l.toNat)) ?_ (.undef _)
  simp [Instr.sliceAt, Instr.slice, run_underlying ht, Instr.sliceBounds, b1, b2, b3, run_size hi]
 split at hx
 ·rename_i s g off n
  simp only [Bool.and_eq_true, decide_eq_true_eq] at hx
  obtain ⟨⟨⟨⟨h1, h2⟩, h3⟩, h4⟩, hg, hk⟩ := hx
  have hcx : ∃ p c, cx = .slice p n c ∧ n ≤ c := by
   split at hk
   ·rename_i ty sz fz0 cs hks
    have hT : st.o.get s = ⟨g, .row ty sz fz0 cs⟩ := by cases hTs : st.o.get s; rw [hTs] at hks hg; simp at hks hg; subst hks hg; rfl
    obtain ⟨ad, c, cap, arr, ty2, fz, rfl, hbk, hmem, has, hn, hcap, hpl⟩ := hr.own_ hT
    exact ⟨_, c, rfl, by omega⟩
   ·cases hk
  obtain ⟨p, c, rfl, hnc⟩ := hcx
  exact fin p n c hnc h1 h2 h3 h4
 ·rename_i n cs
  simp only [Bool.and_eq_true, decide_eq_true_eq] at hx
  obtain ⟨⟨⟨h1, h2⟩, h3⟩, h4⟩ := hx
  rcases hr.sl_ with ⟨rfl, rfl, rfl⟩ | ⟨ad, c, vs, rfl, hnc, _⟩
  ·exact fin none 0 0 (by omega) h1 h2 h3 h4
  ·exact fin (some ad) n c hnc h1 h2 h3 h4
 ·cases hx
def aSliceX (P : Program) (T : Tab) (t : Nat) (x : V) (lo hi : Option V) : Option V :=
 match P.underlying t with
 | some (.slice e) => match P.info? e with
  | some i => match x with
   | .own s g off n => match aBnd lo 0, aBnd hi n with
    | some l, some h => if l ≤ h ∧ (T.get s).gen = g then (match (T.get s).k with
     | .row _ sz _ cs => if sz = i.size ∧ 0 < sz ∧ (off + h) * sz ≤ cs.length then some (.own s g (off + l) (h - l)) else none
     | _ => none) else none
    | _, _ => none
   | _ => none
  | none => none
 | _ => none
theorem aSliceX_ok (h : RelI κ ι st a w) {t : Nat} {x v : V} {cx : Value} {lo hi : Option V} {clo chi : Option Value} (hr : Rv st.o ι (Stable κ.D st.o ι w) w x cx)
  (hlo : RO st.o ι (Stable κ.D st.o ι w) w lo clo) (hhi : RO st.o ι (Stable κ.D st.o ι w) w hi chi) (hx : aSliceX κ.P st.o t x lo hi = some v) :
  SemOk κ ι st.o w (Instr.sliceAt t cx clo chi none) v none := by
 unfold aSliceX at hx
 split at hx
 case h_2 => cases hx
 rename_i e ht
 split at hx
 case h_2 => cases hx
 rename_i i hi
 split at hx
 case h_2 => cases hx
 rename_i s g off n
 split at hx
 case h_2 => cases hx
 rename_i l hh e1 e2
 split at hx
 case isFalse => cases hx
 rename_i hc
 obtain ⟨hlh, hg⟩ := hc
 split at hx
 case h_2 => cases hx
 rename_i ty sz fz0 cs hk
 split at hx
 case isFalse => cases hx
 rename_i hc2
 obtain ⟨hsz, h0, hle⟩ := hc2
 injection hx with hx; subst hx
 have hT : st.o.get s = ⟨g, .row ty sz fz0 cs⟩ := by cases hTs : st.o.get s; rw [hTs] at hk hg; simp at hk hg; subst hk hg; rfl
 obtain ⟨ad, c, cap, arr, ty1, fz, rfl, hb, hmem, has, hn, hcap, hpl⟩ := hr.own_ hT
 have hob := h.tr.ob s
 rw [hT] at hob
 obtain ⟨arr2, fz2, cap2, hh2, _, _, _, hle2, _⟩ := hob
 rw [hmem] at hh2
 injection hh2 with hh2; injection hh2 with q1 q2 q3; subst q1
 have hfit : off + hh ≤ cap := Nat.le_of_mul_le_mul_right (by rw [← has]; omega) h0
 have hb2 := sliceBounds_ok (P := κ.P) hlo hhi true n c l hh e1 e2 hlh (by omega)
 refine SemOk.same h (cv := .slice (some (if c = l then ad else ad.add (l * i.size))) (hh - l) (c - l)) ?_ ?_
 ·simp only [Instr.sliceAt, Instr.slice, Sem.run_bind, run_underlying ht, Result.andThen_ok, hb2, run_size hi]
  by_cases hcl : c = l <;> simp [hcl]
 ·refine .own ⟨_, _, rfl⟩ (by rw [hT]; exact Nat.le_refl _) fun ty' sz' fz' cs' e => ?_
  rw [hT] at e
  simp at e
  obtain ⟨rfl, rfl, rfl, rfl⟩ := e
  refine ⟨_, c - l, cap, arr, ty1, fz, rfl, ?_, hmem, has, by omega, by omega, fun hne => ?_⟩
  ·split
   ·exact hb
   ·rw [block_add]; exact hb
  ·rw [if_neg (by omega)]
   have := hpl (by omega); subst this
   subst hsz
   unfold Addr.add
   split
   ·rename_i e0; rw [Nat.add_mul, e0]; rfl
   ·rw [Nat.add_mul]
def aopC (P : Program) (st : St) (o : Oper) : Option (V × Wr) := match o.op with
 | .convert src dst x => cvSame P st.o src dst (st.eval x)
 | .slice t x (some lo) (some hi) (some mx) => if aCut3 P st.o t (st.eval x) (st.eval lo) (st.eval hi) (st.eval mx) = true then some (.undef, none) else none
 | .slice t x lo hi none => (aSliceX P st.o t (st.eval x) (lo.map st.eval) (hi.map st.eval)).map fun v => (v, none)
 | .call ⟨.builtin .clear, args, ats⟩ => match args.toList, ats.toList with
  | [x], [t] => (aClear P st.o t (st.eval x)).map fun wr => (.tup [], wr)
  | _, _ => none
 | _ => none
theorem aopC_ok (h : RelI κ ι st a w) {o : Oper} {v : V} {wr : Wr} (hx : aopC κ.P st o = some (v, wr)) : OpRes κ ι st.o a w o v (wrT st.o wr) := by
 obtain ⟨dst, op, type, pos, after, guard⟩ := o
 unfold aopC at hx
 split at hx
 ·rename_i src d x ho
  simp only at ho; subst ho
  exact OpRes.of rfl (cvSame_ok h (h.eval x) hx)
 ·rename_i t x lo hi mx ho
  simp only at ho; subst ho
  split at hx
  ·rename_i hc
   simp only [Option.some.injEq, Prod.mk.injEq] at hx
   obtain ⟨rfl, rfl⟩ := hx
   exact OpRes.of rfl (aCut3_ok h (h.eval x) (h.eval lo) (h.eval hi) (h.eval mx) hc)
  ·cases hx
 ·rename_i t x lo hi ho
  simp only at ho; subst ho
  cases hs : aSliceX κ.P st.o t (st.eval x) (lo.map st.eval) (hi.map st.eval) with
  | none => rw [hs] at hx; cases hx
  | some v' =>
   rw [hs] at hx
   simp only [Option.map_some, Option.some.injEq, Prod.mk.injEq] at hx
   obtain ⟨rfl, rfl⟩ := hx
   have ro : ∀ o : Option Operand, RO st.o ι (Stable κ.D st.o ι w) w (o.map st.eval) (o.map a.eval) := fun o => by
    cases o with
    | none => trivial
    | some y => exact h.eval y
   exact OpRes.of rfl (aSliceX_ok h (h.eval x) (ro lo) (ro hi) hs)
 ·rename_i args ats ho
  simp only at ho; subst ho
  split at hx
  ·rename_i x t ea et
   obtain ⟨l1⟩ := args; obtain ⟨l2⟩ := ats
   simp at ea et; subst ea et
   cases hs : aClear κ.P st.o t (st.eval x) with
   | none => rw [hs] at hx; cases hx
   | some wr' =>
    rw [hs] at hx
    simp only [Option.map_some, Option.some.injEq, Prod.mk.injEq] at hx
    obtain ⟨rfl, rfl⟩ := hx
    refine OpRes.of (s := Builtin.clear_ #[t] type #[a.eval x]) ?_ (aClear_ok h rfl (h.eval x) hs)
    simp [execOp, resolve, invoke, builtin]
  ·cases hx
 ·cases hx
end
end Go.Abs
namespace Go.Abs
open Go.RowKit
set_option linter.unusedVariables false
set_option linter.unusedSimpArgs false
section
variable {κ : Cx} {ι : Nat → Nat} {st : St} {a : Act} {w : World}
def aAppSz (P : Program) (T : Tab) (t tx : Nat) (s x : V) (d : Nat) : Option (V × Wr) :=
 match s with
 | .sz => match P.underlying t, P.underlying tx with
  | some (.slice e), some dx => match zeroC P e, P.info? e with
   | some zs, some i => match aSrc T i.size x with
    | some (m, xs) =>
     if isSrcD dx = true ∧ 0 < i.size ∧ 0 < i.bytes ∧ xs.all V.cellOk = true then
      if m = 0 then some (.sz, none) else
       if m * i.bytes ≤ 140737488355328 then some (.own d ((T.get d).gen + 1) 0 m, some (d, ⟨(T.get d).gen + 1, .row e i.size false xs⟩)) else none
     else none
    | none => none
   | _, _ => none
  | _, _ => none
 | _ => none
theorem aAppSz_ok (h : RelI κ ι st a w) {t tx ty d : Nat} {s x v : V} {cs cx : Value} {wr : Wr} (hs : Rv st.o ι (Stable κ.D st.o ι w) w s cs) (hr : Rv st.o ι (Stable κ.D st.o ι w) w x cx)
  (hx : aAppSz κ.P st.o t tx s x d = some (v, wr)) : SemOk κ ι st.o w (Builtin.append_ #[t, tx] ty #[cs, cx]) v wr := by
 unfold aAppSz at hx
 split at hx
 case h_2 => cases hx
 split at hx
 case h_2 => cases hx
 rename_i e dx ht htx
 split at hx
 case h_2 => cases hx
 rename_i zs i hz hi
 obtain ⟨z, i', hi', hzz, hsz, hrun, hlr⟩ := zeroC_ok hz
 rw [hi] at hi'; injection hi' with hi'; subst hi'
 split at hx
 case h_2 => cases hx
 rename_i m xs hsrc
 obtain ⟨hlen, hxl, news, hnews, hfirst⟩ := aSrc_ok h hr hsrc
 have hnl : news.length = m * i.size := by rw [← hnews.1]; exact hxl
 have hfirst' : ∀ w', w'.heap = w.heap → (Builtin.firstCells i.size m cx).run κ.P w' = .ok news.toArray w' := fun w' hw' => by
  rw [hfirst m w' (Nat.le_refl _) hw', ← hnl, List.take_length]
 split at hx
 case isFalse => cases hx
 rename_i hc
 obtain ⟨hdx, h0, hb0, hall⟩ := hc
 have gen := fun base n cap => run_append_gen (w := w) (P := κ.P) (ty := ty) ht hi htx hdx (base := base) (n := n) (cap := cap) hlen hfirst'
 obtain ⟨p, rfl⟩ := hs.sz_
 split at hx
 ·rename_i hm
  simp only [Option.some.injEq, Prod.mk.injEq] at hx
  obtain ⟨rfl, rfl⟩ := hx
  subst hm
  have hnil : news = [] := List.eq_nil_of_length_eq_zero (by rw [hnl]; simp)
  subst hnil
  have hrun := (gen p 0 0).1 (by omega)
  cases p with
  | none => exact SemOk.same h hrun (.pure .sz)
  | some ad =>
   simp [storeCells] at hrun
   exact SemOk.same h hrun (.pure .sz)
 ·rename_i hm
  split at hx
  case isFalse => cases hx
  rename_i hb
  simp only [Option.some.injEq, Prod.mk.injEq] at hx
  obtain ⟨rfl, rfl⟩ := hx
  have hrun := (gen p 0 0).2 z #[] (by omega) hzz hb0 (by simpa using hb) (fun w' _ => by
   cases p with
   | none => simp [Builtin.firstCells]
   | some ad => simpa using run_firstCells_some (P := κ.P) w' i.size 0 ad 0 0 [] (by simp) (fun j v hv => by simp at hv))
  obtain ⟨hto, hv⟩ := grow_new h (s := d) (e := e) (n := 0) (m := m) (i := i) (z := z) 0 false [] news xs hsz h0 (by simp) hnl (by simpa using hnews)
  simp only [Nat.zero_add] at hrun hto hv
  exact ⟨_, _, _, hrun, hto, hv⟩
def aSliceSz (P : Program) (t : Nat) (x : V) (lo hi : Option V) : Option V := match x with
 | .sz => match P.underlying t with
  | some (.slice e) => match P.info? e with
   | some i => match aBnd lo 0, aBnd hi 0 with
    | some l, some h => if l = 0 ∧ h = 0 then some .sz else none
    | _, _ => none
   | none => none
  | _ => none
 | _ => none
theorem aSliceSz_ok (h : RelI κ ι st a w) {t : Nat} {x v : V} {cx : Value} {lo hi : Option V} {clo chi : Option Value} (hr : Rv st.o ι (Stable κ.D st.o ι w) w x cx)
  (hlo : RO st.o ι (Stable κ.D st.o ι w) w lo clo) (hhi : RO st.o ι (Stable κ.D st.o ι w) w hi chi) (hx : aSliceSz κ.P t x lo hi = some v) :
  SemOk κ ι st.o w (Instr.sliceAt t cx clo chi none) v none := by
 unfold aSliceSz at hx
 split at hx
 case h_2 => cases hx
 split at hx
 case h_2 => cases hx
 rename_i e ht
 split at hx
 case h_2 => cases hx
 rename_i i hi
 split at hx
 case h_2 => cases hx
 rename_i l hh e1 e2
 split at hx
 case isFalse => cases hx
 rename_i hc
 obtain ⟨rfl, rfl⟩ := hc
 injection hx with hx; subst hx
 have : ∃ p, cx = .slice p 0 0 := by
  cases hr with
  | pure h => cases h; exact ⟨_, rfl⟩
 obtain ⟨p, rfl⟩ := this
 have hb2 := sliceBounds_ok (P := κ.P) hlo hhi true 0 0 0 0 e1 e2 (by omega) (by omega)
 refine SemOk.same h (cv := .slice p 0 0) ?_ (.pure .sz)
 cases p <;> simp [Instr.sliceAt, Instr.slice, run_underlying ht, hb2, run_size hi]
def aop0 (P : Program) (st : St) (o : Oper) : Option (V × Wr) := match o.op with
 | .buildSlice t n ps => match n with
  | 0 => match ps.toList with
   | [] => match o.dst with
    | some d => bsZero P st.o t d
    | none => none
   | _ => none
  | _ => none
 | .call ⟨.builtin .append, args, ats⟩ => match args.toList, ats.toList, o.dst with
  | [s, x], [t, tx], some d => aAppSz P st.o t tx (st.eval s) (unNl (st.eval x)) d
  | _, _, _ => none
 | .slice t x lo hi none => (aSliceSz P t (st.eval x) (lo.map st.eval) (hi.map st.eval)).map fun v => (v, none)
 | _ => none
theorem aop0_ok (h : RelI κ ι st a w) {o : Oper} {v : V} {wr : Wr} (hx : aop0 κ.P st o = some (v, wr)) : OpRes κ ι st.o a w o v (wrT st.o wr) := by
 obtain ⟨dst, op, type, pos, after, guard⟩ := o
 unfold aop0 at hx
 split at hx
 ·rename_i t n ps ho
  simp only at ho; subst ho
  split at hx
  ·split at hx
   ·rename_i hps
    obtain ⟨l⟩ := ps
    simp at hps; subst hps
    split at hx
    ·refine OpRes.of (s := Instr.buildSlice t 0 #[]) ?_ (bsZero_ok h hx)
     simp [execOp]
    ·cases hx
   ·cases hx
  ·cases hx
 ·rename_i args ats ho
  simp only at ho; subst ho
  split at hx
  ·rename_i s x t tx d ea et ed
   obtain ⟨l1⟩ := args; obtain ⟨l2⟩ := ats
   simp at ea et; subst ea et
   refine OpRes.of (s := Builtin.append_ #[t, tx] type #[a.eval s, a.eval x]) ?_ (aAppSz_ok h (h.eval s) (h.eval x).unNl hx)
   simp [execOp, resolve, invoke, builtin]
  ·cases hx
 ·rename_i t x lo hi ho
  simp only at ho; subst ho
  cases hs : aSliceSz κ.P t (st.eval x) (lo.map st.eval) (hi.map st.eval) with
  | none => rw [hs] at hx; cases hx
  | some v' =>
   rw [hs] at hx
   simp only [Option.map_some, Option.some.injEq, Prod.mk.injEq] at hx
   obtain ⟨rfl, rfl⟩ := hx
   have ro : ∀ o : Option Operand, RO st.o ι (Stable κ.D st.o ι w) w (o.map st.eval) (o.map a.eval) := fun o => by
    cases o with
    | none => trivial
    | some y => exact h.eval y
   exact OpRes.of rfl (aSliceSz_ok h (h.eval x) (ro lo) (ro hi) hs)
 ·cases hx
end
def isE (v : V) : Bool := match v with
 | .sl n cs => match n with
  | 0 => match cs with
   | [] => true
   | _ => false
  | _ => false
 | .sz => true
 | _ => false
theorem cloneE {P : Program} {f : FuncId} {e : Ty} (h1 : Spec2 P f [.snil] [] .snil [] []) (h2 : Spec2 P f [.nl ⟨e, []⟩] [] .sz [] []) {y : V} (hy : isE y = true) : Spec2 P f [y] [] .sz [] [] := by
 intro w cargs β S htr hargs
 have hu : ∃ u, cargs.toList = [u] ∧ Rv (tabU [] []) β (Stable S (tabU [] []) β w) w y u := by
  obtain ⟨u, us, e1, e2, e3⟩ := hargs.head
  have : us = [] := List.eq_nil_of_length_eq_zero e3.1.symm
  exact ⟨u, by rw [e1, this], e2⟩
 obtain ⟨u, hcu, hv⟩ := hu
 have hcase : u = .slice none 0 0 ∨ ∃ ad c, u = .slice (some ad) 0 c := by
  unfold isE at hy
  split at hy
  ·split at hy
   ·split at hy
    ·rcases hv.sl_ with ⟨_, _, rfl⟩ | ⟨ad, c, vs, rfl, _⟩
     ·exact .inl rfl
     ·exact .inr ⟨ad, c, rfl⟩
    ·cases hy
   ·cases hy
  ·obtain ⟨p, rfl⟩ := hv.sz_
   cases p with
   | none => exact .inl rfl
   | some ad => exact .inr ⟨ad, 0, rfl⟩
  ·cases hy
 rcases hcase with rfl | ⟨ad, c, rfl⟩
 ·refine (h1 w cargs β S htr (by rw [hcu]; exact .cons (.pure .snil) .nil)).mono fun e w' => ?_
  rintro ⟨v, β', rfl, hk, htr', hv', hl, hb1, hb2⟩
  refine ⟨v, β', rfl, hk, htr', ?_, hl, hb1, hb2⟩
  rw [hv'.snil_]; exact .pure .sz
 ·have hnl : Rv (tabU [] []) β (Stable S (tabU [] []) β w) w (.nl ⟨e, []⟩) (.slice (some ad) 0 c) :=
   .pure (.nl (.lst (.sl (vs := []) (Nat.zero_le _) (by simp) rfl (by simp [TL.cells]))))
  exact h2 w cargs β S htr (by rw [hcu]; exact .cons hnl .nil)
noncomputable def addC (f : Nat) (Ξ : Orc) : Orc := fun g ys lb => match lb with
 | [] => match ys with
  | [y] => Bool.rec (motive := fun _ => Option (V × List OK × List OK)) (Ξ g [y] []) (Bool.rec (motive := fun _ => Option (V × List OK × List OK)) (Ξ g [y] []) (some (.sz, [], [])) (isE y)) (Nat.beq g f)
  | ys => Ξ g ys []
 | lb => Ξ g ys lb
def isA (r : Option (V × List OK × List OK)) : Bool := match r with
 | some (.snil, [], []) => true
 | _ => false
def isB (r : Option (V × List OK × List OK)) : Bool := match r with
 | some (.sz, [], []) => true
 | _ => false
theorem addC_ok {P : Program} {Ξ Γ : Orc} {f : Nat} {e : Ty} (hΞ : GammaOk2 P Ξ) (hΓ : GammaOk2 P Γ) (hA : isA (Γ f [.snil] []) = true) (hB : isB (Γ f [.nl ⟨e, []⟩] []) = true) : GammaOk2 P (addC f Ξ) := by
 intro g ys lb res lb' lf hx
 unfold addC at hx
 split at hx
 ·split at hx
  ·rename_i y
   cases h1 : Nat.beq g f with
   | false => rw [h1] at hx; exact hΞ _ _ _ _ _ _ hx
   | true =>
    rw [h1] at hx
    cases h2 : isE y with
    | false => rw [h2] at hx; exact hΞ _ _ _ _ _ _ hx
    | true =>
     rw [h2] at hx
     have e1 := Nat.eq_of_beq_eq_true h1
     subst e1
     have hx : some (V.sz, ([] : List OK), ([] : List OK)) = some (res, lb', lf) := hx
     injection hx with hx; injection hx with e1 hx; injection hx with e2 e3
     subst e1 e2 e3
     unfold isA at hA
     split at hA
     ·rename_i hra
      unfold isB at hB
      split at hB
      ·rename_i hrb
       obtain ⟨a1, a2⟩ := hΓ _ _ _ _ _ _ hra
       obtain ⟨b1, _⟩ := hΓ _ _ _ _ _ _ hrb
       exact ⟨cloneE a1 b1 h2, a2⟩
      ·cases hB
     ·cases hA
  ·exact hΞ _ _ _ _ _ _ hx
 ·exact hΞ _ _ _ _ _ _ hx
end Go.Abs
namespace Go.Abs
open Go.RowKit
set_option linter.unusedVariables false
set_option linter.unusedSimpArgs false
def zN {α : Sort _} (n : Nat) (k : Nat → α) : α := Nat.casesOn n (k 0) fun j => k (j + 1)
theorem zN_eq {α : Sort _} (n : Nat) (k : Nat → α) : zN n k = k n := by cases n <;> rfl
def zI {α : Sort _} (n : Int) (k : Int → α) : α := match n with
 | .ofNat m => zN m fun m => k (.ofNat m)
 | .negSucc m => zN m fun m => k (.negSucc m)
theorem zI_eq {α : Sort _} (n : Int) (k : Int → α) : zI n k = k n := by
 cases n <;> simp only [zI, zN_eq]
def zB {α : Sort _} (b : Bool) (k : Bool → α) : α := match b with
 | true => k true
 | false => k false
theorem zB_eq {α : Sort _} (b : Bool) (k : Bool → α) : zB b k = k b := by cases b <;> rfl
def zList {α : Sort _} {β : Type _} (f : β → (β → α) → α) : List β → (List β → α) → α
 | [], k => k []
 | x :: r, k => f x fun x => zList f r fun r => k (x :: r)
theorem zList_eq {α : Sort _} {β : Type _} {f : β → (β → α) → α} (hf : ∀ x k, f x k = k x) : ∀ (l : List β) (k : List β → α), zList f l k = k l
 | [], k => rfl
 | x :: r, k => by simp only [zList, hf, zList_eq hf r]
def zU8 {α : Sort _} (b : UInt8) (k : UInt8 → α) : α := zN b.toNat fun n => k (UInt8.ofNat n)
theorem zU8_eq {α : Sort _} (b : UInt8) (k : UInt8 → α) : zU8 b k = k b := by simp [zU8, zN_eq]
def zV {α : Sort _} : Nat → V → (V → α) → α
 | 0, v, k => k v
 | n + 1, v, k => match v with
  | .undef => k .undef
  | .bool b => zB b fun b => k (.bool b)
  | .int i m => zI m fun m => k (.int i m)
  | .str s => zList zU8 s fun s => k (.str s)
  | .snil => k .snil
  | .sl m cs => zN m fun m => zList (zV n) cs fun cs => k (.sl m cs)
  | .cref cs => zList (zV n) cs fun cs => k (.cref cs)
  | .own t g off m => zN t fun t => zN g fun g => zN off fun off => zN m fun m => k (.own t g off m)
  | .ptr t g off => zN t fun t => zN g fun g => zN off fun off => k (.ptr t g off)
  | .pnil => k .pnil
  | .agg cs => zList (zV n) cs fun cs => k (.agg cs)
  | .tup cs => zList (zV n) cs fun cs => k (.tup cs)
  | .ifc t v => zV n v fun v => k (.ifc t v)
  | .inil => k .inil
  | .fn f cs => zList (zV n) cs fun cs => k (.fn f cs)
  | .fnil => k .fnil
  | .bs b => zB b fun b => k (.bs b)
  | .sz => k .sz
  | .acc t g => zN t fun t => zN g fun g => k (.acc t g)
  | v => k v
theorem zV_eq {α : Sort _} : ∀ (n : Nat) (v : V) (k : V → α), zV n v k = k v
 | 0, v, k => rfl
 | n + 1, v, k => by
  have ih : ∀ (v : V) (k : V → α), zV n v k = k v := zV_eq n
  have ihl := zList_eq (f := zV (α := α) n) ih
  cases v <;> simp only [zV, zB_eq, zN_eq, zI_eq, ihl, ih, zList_eq zU8_eq]
def zOK {α : Sort _} (o : OK) (k : OK → α) : α := match o with
 | .dead => k .dead
 | .box ty cs => zList (zV 12) cs fun cs => k (.box ty cs)
 | .row ty sz fz cs => zB fz fun fz => zList (zV 12) cs fun cs => k (.row ty sz fz cs)
 | .iter s p => zN p fun p => k (.iter s p)
 | .mp M => k (.mp M)
 | .nrow ty fz nl L => zB fz fun fz => k (.nrow ty fz nl L)
theorem zOK_eq {α : Sort _} (o : OK) (k : OK → α) : zOK o k = k o := by
 cases o <;> simp only [zOK, zN_eq, zB_eq, zList_eq (zV_eq 12)]
def zHd {α : Sort _} (o : OK) (k : OK → α) : α := match o with
 | .dead => k .dead
 | .box ty cs => k (.box ty cs)
 | .row ty sz fz cs => zB fz fun fz => k (.row ty sz fz cs)
 | .iter s p => k (.iter s p)
 | .mp M => k (.mp M)
 | .nrow ty fz nl L => zB fz fun fz => k (.nrow ty fz nl L)
theorem zHd_eq {α : Sort _} (o : OK) (k : OK → α) : zHd o k = k o := by
 cases o <;> simp only [zHd, zB_eq]
def zEnt {α : Sort _} (f : OK → (OK → α) → α) (p : Nat × Ob) (k : Nat × Ob → α) : α := match p with
 | (s, ⟨g, o⟩) => zN s fun s => zN g fun g => f o fun o => k (s, ⟨g, o⟩)
theorem zEnt_eq {α : Sort _} {f : OK → (OK → α) → α} (hf : ∀ o k, f o k = k o) (p : Nat × Ob) (k : Nat × Ob → α) : zEnt f p k = k p := by
 obtain ⟨s, g, o⟩ := p
 simp only [zEnt, zN_eq, hf]
def zTab {α : Sort _} (T : Tab) (k : Tab → α) : α := zList (zEnt zHd) T k
theorem zTab_eq {α : Sort _} (T : Tab) (k : Tab → α) : zTab T k = k T := zList_eq (zEnt_eq zHd_eq) T k
def zTabD {α : Sort _} (T : Tab) (k : Tab → α) : α := zList (zEnt zOK) T k
theorem zTabD_eq {α : Sort _} (T : Tab) (k : Tab → α) : zTabD T k = k T := zList_eq (zEnt_eq zOK_eq) T k
def zPut {α : Sort _} {β : Type _} (t : Nat) (v : β) : List (Nat × β) → (List (Nat × β) → α) → α
 | [], k => k [(t, v)]
 | (a, x) :: r, k => match Nat.beq a t with
  | true => k ((t, v) :: r)
  | false => zPut t v r fun r => k ((a, x) :: r)
theorem zPut_eq {α : Sort _} {β : Type _} (t : Nat) (v : β) : ∀ (l : List (Nat × β)) (k : List (Nat × β) → α), zPut t v l k = k (aput t v l)
 | [], k => rfl
 | (a, x) :: r, k => by
  simp only [zPut, aput]
  by_cases h : a = t
  ·subst h
   rw [show Nat.beq a a = true from Nat.beq_refl a]
   simp
  ·have : Nat.beq a t = false := by
    cases hb : Nat.beq a t with
    | false => rfl
    | true => exact absurd (Nat.eq_of_beq_eq_true hb) h
   rw [this]
   simp only [zPut_eq t v r, if_neg h]
def zSet {β : Type _} (st : St) (T : Tab) (d : Option Nat) (v : V) (k : St → Option β) : Option β := match st with
 | ⟨n, t, _, g⟩ => match d with
  | none => k ⟨n, t, T, g⟩
  | some d => if d < n then zPut d v t fun t => k ⟨n, t, T, g⟩ else none
theorem zSet_eq {β : Type _} (st : St) (T : Tab) (d : Option Nat) (v : V) (k : St → Option β) : zSet st T d v k = (({ st with o := T } : St).set d v).bind k := by
 obtain ⟨n, t, o, g⟩ := st
 cases d with
 | none => rfl
 | some d =>
  simp only [zSet, St.set, zPut_eq]
  split <;> rfl
def aCallZ (Γ : Orc) (Λ : Lend) (T : Tab) (f : Nat) (args : List V) (d : Nat) : Option (V × Tab) :=
 match viewArgs depth T (Λ f) 0 [] args with
 | some (xs, l, bs) =>
  if bs.Nodup ∧ bs.length < 1000000 then
   match boxes2 depth T bs with
   | some (lb, l2) => zList (zV 12) xs fun xs => zList zOK lb fun lb =>
    match Γ f xs lb with
    | some (res, lb', lf) => fin2 T (l ++ l2) bs d res lb' lf
    | none => none
   | none => none
  else none
 | none => none
theorem aCallZ_eq : aCallZ = aCall2 := by
 funext Γ Λ T f args d
 simp only [aCallZ, aCall2, zList_eq (zV_eq 12), zList_eq zOK_eq]
 rfl
def opZ (P : Program) (st : St) (o : Oper) : Option (V × Wr) :=
 match aop P st o with
 | some r => some r
 | none => match aopC P st o with
  | some r => some r
  | none => match aopN P st o with
   | some tr => tr.run
   | none => (aopT P st o).run
def stepZ {β : Type _} (Γ : Orc) (In : InOrc) (Λ : Lend) (P : Program) (opl : List Oper) (st : St) (o : Oper) (k : St → Option β) : Option β :=
 match aguard opl st o with
 | some false => zSet st st.o o.dst (.tup []) k
 | some true => match o.op with
  | .call ⟨.value f, args, _⟩ => match st.eval f with
   | .fn g caps => match callIn In st g (args.toList.map st.eval ++ caps) o.dst with
    | some st' => k st'
    | none => match aCallZ Γ Λ st.o g (args.toList.map st.eval ++ caps) (o.dst.getD 99999) with
     | some (v, T) => zV 12 (norm opl o v) fun v => zTab T fun T => zSet st T o.dst v k
     | none => none
   | _ => none
  | _ => match opZ P st o with
   | some (v, none) => zV 12 (conB v) fun v => zSet st st.o o.dst v k
   | some (v, some (s, ob)) => zV 12 (conB v) fun v => zEnt zOK (s, ob) fun p => zPut p.1 p.2 st.o fun T => zSet st T o.dst v k
   | none => none
 | none => none
def stepsZ {β : Type _} (Γ : Orc) (In : InOrc) (Λ : Lend) (P : Program) (opl : List Oper) : List Oper → St → (St → Option β) → Option β
 | [], st, k => k st
 | o :: r, st, k => stepZ Γ In Λ P opl st o fun st => stepsZ Γ In Λ P opl r st k
section
variable {κ : Cx} {ι : Nat → Nat} {st : St} {a : Act} {w : World}
theorem opZ_ok (h : RelI κ ι st a w) {o : Oper} {v : V} {wr : Wr} (hx : opZ κ.P st o = some (v, wr)) : OpRes κ ι st.o a w o v (wrT st.o wr) := by
 unfold opZ at hx
 split at hx
 ·rename_i r hr
  injection hx with hx; subst hx
  exact aop_ok h hr
 split at hx
 ·rename_i r hr
  injection hx with hx; subst hx
  exact aopC_ok h hr
 ·split at hx
  ·rename_i tr htr
   exact aopN_ok h htr hx
  ·exact aop_ok h (aopT_run hx)
theorem set_bind {β : Type _} {s : Option St} {k : St → Option β} {r : β} (h : s.bind k = some r) : ∃ st', s = some st' ∧ k st' = some r := by
 cases s with
 | none => cases h
 | some x => exact ⟨x, rfl, h⟩
theorem stepZ_ok {β : Type _} {Γ : Orc} {In : InOrc} {Λ : Lend} (hΓ : GammaOk2 κ.P Γ) (hI : InOk κ.P In) (hrel : Rel κ st a w) {ops : Array Oper} {o : Oper} {k : St → Option β} {r : β} (hx : stepZ Γ In Λ κ.P ops.toList st o k = some r) {K : Act → World → Prop} {Q : Exit → Act → World → Prop}
  (hK : ∀ st' a' w', k st' = some r → Rel κ st' a' w' → K a' w') : if Region.wanted o (yielded ops a.tmps) then o.wp κ.P a w K Q else K (a.put o.dst undef) w := by
 obtain ⟨ι, h⟩ := hrel
 unfold stepZ at hx
 split at hx
 ·rename_i hg
  rw [aguard_ok h hg]
  simp only [Bool.false_eq_true, if_false]
  rw [zSet_eq] at hx
  obtain ⟨st', h1, h2⟩ := set_bind hx
  exact hK _ _ _ h2 ⟨ι, h.set (To.refl h) h1 (.pure (.tup (vs := []) rfl (by simp)))⟩
 ·rename_i hg
  rw [aguard_ok h hg]
  simp only [if_true]
  split at hx
  ·rename_i f args ts ho
   split at hx
   ·rename_i g caps hf
    split at hx
    ·rename_i st' hin
     exact callIn_ok hI h ho hf hin fun a' w' hr' => hK _ _ _ hx hr'
    ·split at hx
     ·rename_i v T hc
      rw [aCallZ_eq] at hc
      simp only [zV_eq, zTab_eq, zSet_eq] at hx
      obtain ⟨st', h1, h2⟩ := set_bind hx
      have hfv := h.eval f
      rw [hf] at hfv
      obtain ⟨us, hfu, hl, hh⟩ := hfv.fn_
      have hcall := hc
      unfold aCall2 at hcall
      have hent : ∃ fn, κ.P.funcs[g]? = some fn ∧ (fn.name == "runtime.NumGoroutine") = false ∧ fn.body.isNone = false := by
       split at hcall
       ·split at hcall
        ·split at hcall
         ·split at hcall
          ·rename_i hg
           exact (hΓ _ _ _ _ _ _ hg).2
          ·cases hcall
         ·cases hcall
        ·cases hcall
       ·cases hcall
      obtain ⟨fn, e1, e2, e3⟩ := hent
      unfold Oper.wp
      rw [exec_call ho hfu e1 e2 e3]
      have hargs : LR (Rv st.o ι (Stable κ.D st.o ι w) w) (args.toList.map st.eval ++ caps) (args.map a.eval ++ ⟨us⟩).toList := by
       have := LR.map st.eval a.eval args.toList (R := Rv st.o ι (Stable κ.D st.o ι w) w) fun x _ => h.eval x
       simpa using this.append ⟨hl, hh⟩
      refine (aCall2_ok (fun f xs lb res lb' lf hg => (hΓ f xs lb res lb' lf hg).1) h hc hargs).mono fun e w' => ?_
      rintro ⟨cv, ι', rfl, hto, hv⟩
      exact hK _ _ _ h2 ⟨ι', h.set hto h1 hv.norm⟩
     ·cases hx
   ·cases hx
  ·have fin : ∀ (v : V) (wr : Wr), OpRes κ ι st.o a w o v (wrT st.o wr) → (({ st with o := wrT st.o wr } : St).set o.dst (conB v)).bind k = some r → o.wp κ.P a w K Q := fun v wr hop e => by
    obtain ⟨st', h1, h2⟩ := set_bind e
    obtain ⟨cv, w', ι', hrun, hto, hv⟩ := hop
    unfold Oper.wp
    rcases hrun with hrun | ⟨hrun, rfl⟩
    ·rw [hrun]; exact hK _ _ _ h2 ⟨ι', h.set hto h1 hv.conB⟩
    ·rw [hrun]; exact hK _ _ _ h2 ⟨ι', h.set hto h1 hv.conB⟩
   split at hx
   ·rename_i v hop
    simp only [zV_eq, zSet_eq] at hx
    exact fin v none (opZ_ok h hop) hx
   ·rename_i v s ob hop
    simp only [zV_eq, zEnt_eq zOK_eq, zPut_eq, zSet_eq] at hx
    exact fin v (some (s, ob)) (opZ_ok h hop) hx
   ·cases hx
 ·cases hx
theorem stepsZ_ok {β : Type _} {Γ : Orc} {In : InOrc} {Λ : Lend} (hΓ : GammaOk2 κ.P Γ) (hI : InOk κ.P In) {ops : Array Oper} {Q : Exit → Act → World → Prop} {k : St → Option β} {r : β} : ∀ (l : List Oper) (st : St) (a : Act) (w : World), stepsZ Γ In Λ κ.P ops.toList l st k = some r → Rel κ st a w →
  (∀ st' a' w', k st' = some r → Rel κ st' a' w' → Q .normal a' w') → wpList κ.P ops Q l a w
 | [], st, a, w, hx, hr, hQ => wpList_nil (hQ st a w hx hr)
 | o :: l, st, a, w, hx, hr, hQ => by
  exact wpList_step fun K hK => stepZ_ok hΓ hI hr hx fun st' a' w' hx' hr' => hK _ _ (stepsZ_ok hΓ hI l st' a' w' hx' hr' hQ)
end
def orcZ (Γ : Orc) : Orc := fun f xs lb =>
 if lb.all okBox = true then (match Γ f xs lb with
  | some (res, lb', lf) => if (lb'.all okBox && lf.all okFresh) = true then some (res, lb', lf) else none
  | none => none) else none
theorem orcZ_ok {P : Program} {Γ : Orc} (hΓ : GammaOk2 P Γ) : GammaOk P (orcZ Γ) := by
 intro f xs lb res lb' lf h
 unfold orcZ at h
 split at h
 ·split at h
  ·rename_i r l1 l2 h1
   split at h
   ·rename_i hc
    injection h with h
    injection h with e1 h; injection h with e2 e3
    subst e1 e2 e3
    simp only [Bool.and_eq_true] at hc
    obtain ⟨a1, a2⟩ := hΓ f xs lb _ _ _ h1
    exact ⟨spec_of2 a1 hc.1 hc.2, a2⟩
   ·cases h
  ·cases h
 ·cases h
def aCall0 (Γ : Orc) (T : Tab) (f : Nat) (args : List V) (d : Nat) : Option (V × Tab) :=
 match viewL (viewA depth T) [] args with
 | some (xs, l, bs) =>
  if bs.Nodup ∧ bs.length < 1000000 then
   match boxesOf depth T bs with
   | some (lb, l2) => zList (zV 12) xs fun xs => zList zOK lb fun lb =>
    match Γ f xs lb with
    | some (res, lb', lf) =>
     if lf.length ≤ 4 then
      match revive (T.freezes (zs res bs lf (l ++ l2))) bs lb' with
      | some T2 => match fresh bs d T2 0 lf with
       | some T3 => (ren T3 bs d lf.length res).map fun v => (v, T3)
       | none => none
      | none => none
     else none
    | none => none
   | none => none
  else none
 | none => none
theorem aCall0_eq : aCall0 = aCall := by
 funext Γ T f args d
 simp only [aCall0, aCall, zList_eq (zV_eq 12), zList_eq zOK_eq]
 rfl
def estep0 (Γ : Orc) (P : Program) (st : St) (o : Oper) : Option (V × Tab) :=
 match o.op with
 | .call ⟨.value f, args, _⟩ => match st.eval f with
  | .fn k caps => aCall0 Γ st.o k (args.toList.map st.eval ++ caps) (o.dst.getD 99999)
  | _ => none
 | _ => match aop P st o with
  | some (v, wr) => some (v, wrT st.o wr)
  | none => none
theorem estep0_eq : estep0 = estep := by
 funext Γ P st o
 unfold estep0 estep
 rw [aCall0_eq]
 rfl
def drunZ (Γ : Orc) (P : Program) (opl : List Oper) : List Oper → St → Option (List Rec × St)
 | [], st => some ([], st)
 | o :: r, st => match aguard opl st o with
  | some false => zSet st st.o o.dst (.tup []) fun st' => match drunZ Γ P opl r st' with
    | some (rs, s) => some (⟨.tup [], [], []⟩ :: rs, s)
    | none => none
  | some true => zList zN (foot st o) fun F => zTab (restrict F st.o) fun RT =>
   match estep0 Γ P { st with o := RT } o with
   | some (v, T) => zList zN (wsites P { st with o := RT } o) fun ws =>
    if ws.all (F.contains ·) = true then zTabD (ws.map fun s => (s, T.get s)) fun W => zV 12 (norm opl o v) fun v => zTab (overlay W st.o) fun T' =>
     zSet st T' o.dst v fun st' => match drunZ Γ P opl r st' with
      | some (rs, s) => some (⟨v, F, W⟩ :: rs, s)
      | none => none
    else none
   | none => none
  | none => none
theorem drunZ_eq (Γ : Orc) (P : Program) (opl : List Oper) : ∀ (l : List Oper) (st : St), drunZ Γ P opl l st = drun Γ P opl l st
 | [], st => rfl
 | o :: r, st => by
  have ih := fun s => drunZ_eq Γ P opl r s
  simp only [drunZ, drun, zSet_eq, zList_eq zN_eq, zTab_eq, zTabD_eq, zV_eq, ih, estep0_eq]
  cases aguard opl st o with
  | none => rfl
  | some b => cases b with
   | false =>
    have e : ({ n := st.n, t := st.t, o := st.o, g := st.g } : St) = st := rfl
    simp only [e]
    cases st.set o.dst (.tup []) <;> rfl
   | true =>
    simp only
    cases estep Γ P { st with o := restrict (foot st o) st.o } o with
    | none => rfl
    | some q =>
     obtain ⟨v, T⟩ := q
     simp only
     split
     ·cases ({ st with o := overlay ((wsites P { st with o := restrict (foot st o) st.o } o).map fun s => (s, T.get s)) st.o } : St).set o.dst (norm opl o v) <;> rfl
     ·rfl
def newZ (st s1 : St) : List Nat := (st.o.map (·.1)).filter fun s => !frozenB st.o s && frozenB s1.o s
def drawZ {β : Type _} (Γ : Orc) (P : Program) (opl : List Oper) (st : St) (k : St → Option β) : Option β :=
 match drunZ (orcZ Γ) P opl opl st with
 | some (rs, s1) => match newZ st s1 with
  | [] => if objsOk opl rs = true then k s1 else none
  | z :: Z => zTab (st.o.freezes (z :: Z)) fun T => match drunZ (orcZ Γ) P opl opl { st with o := T } with
   | some (rs, s2) => if objsOk opl rs = true then k s2 else none
   | none => none
 | none => none
def regZ {β : Type _} (Γ : Orc) (In : InOrc) (Λ : Lend) (P : Program) (ops : Array Oper) (draw : Bool) (st : St) (k : St → Option β) : Option β :=
 match draw with
 | true => drawZ Γ P ops.toList st k
 | false => match spill st ops.toList with
  | ⟨n, t, o, g⟩ => stepsZ Γ In Λ P ops.toList ops.toList ⟨n, t, o, g⟩ k
section
variable {κ : Cx}
theorem HT.regZ {β : Type _} {Γ : Orc} {In : InOrc} {Λ : Lend} (hΓ : GammaOk2 κ.P Γ) (hI : InOk κ.P In) (hm : κ.P.follows .mixedOrders = true) {id : Nat} {ops : Array Oper} {draw : Bool} (htmp : (!draw || tmpsOk ops.toList) = true) {Q : Exit → St → Prop} {st : St} {k : St → Option β} {r : β}
  (hx : Abs.regZ Γ In Λ κ.P ops draw st k = some r) (h : ∀ st', k st' = some r → Q .normal st') : HT κ (.region id ops draw) Q st := fun a w hr => by
 unfold Abs.regZ at hx
 cases draw with
 | true =>
  simp only [drawZ, drunZ_eq, zTab_eq] at hx
  split at hx
  ·rename_i rs s1 hd
   split at hx
   ·split at hx
    ·rename_i hobj
     have e : ({ st with o := st.o.freezes [] } : St) = st := rfl
     exact draw_okZ (orcZ_ok hΓ) hm (by simpa using htmp) [] (e ▸ hd) hobj hr fun a' w' hr' => ⟨_, h _ hx, hr'⟩
    ·cases hx
   ·split at hx
    ·rename_i rs2 s2 hd2
     split at hx
     ·rename_i hobj
      exact draw_okZ (orcZ_ok hΓ) hm (by simpa using htmp) _ hd2 hobj hr fun a' w' hr' => ⟨_, h _ hx, hr'⟩
     ·cases hx
    ·cases hx
  ·cases hx
 | false =>
  simp only at hx
  exact wp_region_list (stepsZ_ok hΓ hI ops.toList (spill st ops.toList) a w hx (hr.spill ops.toList) fun st' a' w' hk hr' => ⟨st', h st' hk, hr'⟩)
end
def kAll : Nat → Bool := fun _ => true
def retZ (P : Program) (fn : Func) (lb : List OK) (e : Ex) (st : St) : Option (V × List OK × List OK) :=
 match e with
 | .exit _ => none
 | _ => if (rlens st.o kAll 0 lb).all id = true then
   match retOf2 P fn kAll lb st with
   | some (res, lb', lf) => zV 12 res fun res => zList zOK lb' fun lb' => zList zOK lf fun lf => some (res, lb', lf)
   | none => none
  else none
theorem noneΞ_ok2 (P : Program) : GammaOk2 P noneΞ := fun _ _ _ _ _ _ h => by cases h
end Go.Abs
namespace Go.Abs
open Go.RowKit
set_option linter.unusedVariables false
set_option linter.unusedSimpArgs false
noncomputable section
section
variable {κ : Cx} {ι : Nat → Nat} {st st' : St} {a : Act} {w : World}
theorem RelI.congr (h : RelI κ ι st a w) (hn : st'.n = st.n) (hg : st'.g = st.g) (ht : ∀ t, st'.get t = st.get t) (ho : ∀ s, st'.o.get s = st.o.get s) : RelI κ ι st' a w := by
 have hl : ∀ t, st'.o.live t ↔ st.o.live t := fun t => by simp only [Tab.live, ho]
 have hS : Stable κ.D st'.o ι w = Stable κ.D st.o ι w := by
  funext p
  simp only [Stable, hl, ho]
 have H : Goes κ.D st.o ι w st'.o ι w := by
  refine ⟨fun p hp => ⟨hS ▸ hp, rfl⟩, fun t => by rw [ho]; exact Nat.le_refl _, fun t hlt _ => ⟨(hl t).1 hlt, rfl⟩, fun t g ty sz fz cs e _ => ?_, fun t g ty fz nl L e _ => ?_⟩
  ·rw [ho] at e
   exact ⟨⟨_, _, _, e⟩, fun arr ty1 fz1 hh => ⟨arr, ty1, fz1, hh, rfl⟩⟩
  ·rw [ho] at e
   exact ⟨⟨_, _, _, _, e, rfl, rfl, rfl⟩, fun _ arr ty1 fz1 hh => ⟨arr, ty1, fz1, hh, rfl⟩⟩
 refine ⟨h.dfr, by rw [hn]; exact h.sz, fun t => by rw [ht]; exact (h.tm t).mono H, ⟨fun t => ?_, fun t u h1 h2 => h.tr.inj t u ((hl t).1 h1) ((hl u).1 h2), fun t h1 => h.tr.lt t ((hl t).1 h1)⟩,
  fun t h1 => h.my t ((hl t).1 h1), h.kept, fun t b hp h0 h1 => h.pin t b hp (by rw [ho] at h0; exact h0) ((hl t).1 h1), by rw [hg]; exact h.gh.mono fun d u hd => hd.mono H⟩
 rw [ho]
 exact (h.tr.ob t).mono H rfl
theorem Rel.congr (h : Rel κ st a w) (hn : st'.n = st.n) (hg : st'.g = st.g) (ht : ∀ t, st'.get t = st.get t) (ho : ∀ s, st'.o.get s = st.o.get s) : Rel κ st' a w := by
 obtain ⟨ι, h⟩ := h
 exact ⟨ι, h.congr hn hg ht ho⟩
end
section
variable {α : Type _} {β : Type _} {γ : Type _}
def qN (n : Nat) (k : Nat → α) : α := Nat.rec (motive := fun _ => α) (k 0) (fun j _ => k (Nat.succ j)) n
theorem qN_eq (n : Nat) (k : Nat → α) : qN n k = k n := by cases n <;> rfl
theorem blt_lt {a b : Nat} (h : Nat.blt a b = true) : a < b := Nat.le_of_ble_eq_true h
theorem blt_no {a b : Nat} (h : Nat.blt a b = false) : ¬ a < b := fun hc => by
 have : Nat.blt a b = true := Nat.ble_eq_true_of_le hc
 rw [this] at h; cases h
theorem beq_no {a b : Nat} (h : Nat.beq a b = false) : a ≠ b := fun e => by
 subst e; rw [Nat.beq_refl] at h; cases h
def qAt (d : γ) (l : List (Nat × γ)) (t : Nat) (k : γ → α) : α :=
 List.rec (motive := fun _ => α) (k d) (fun p _ ih => Bool.rec (motive := fun _ => α) ih (Prod.rec (motive := fun _ => α) (fun _ x => k x) p) (Nat.beq p.1 t)) l
theorem beq_ne {a b : Nat} (h : a ≠ b) : Nat.beq a b = false := by
 cases hb : Nat.beq a b with
 | false => rfl
 | true => exact absurd (Nat.eq_of_beq_eq_true hb) h
theorem qAt_eq (d : γ) (t : Nat) (k : γ → α) : ∀ l : List (Nat × γ), qAt d l t k = k (aget d l t)
 | [] => rfl
 | (a, x) :: r => by
  have ih := qAt_eq d t k r
  simp only [qAt] at ih ⊢
  by_cases h : a = t
  ·subst h
   simp only [aget, if_true, Nat.beq_refl]
  ·simp only [aget, if_neg h, beq_ne h]
   exact ih
def qObj (s : Nat) (T : Tab) (k : Nat → OK → α) : α := qAt ⟨0, .dead⟩ T s fun ob => Ob.rec (motive := fun _ => α) (fun g o => k g o) ob
theorem qObj_eq (s : Nat) (T : Tab) (k : Nat → OK → α) : qObj s T k = k (T.get s).gen (T.get s).k := by
 simp only [qObj, qAt_eq, Tab.get]
def qTk (n : Nat) (l : List γ) (k : List γ → Option β) : Option β :=
 Nat.rec (motive := fun _ => List γ → (List γ → Option β) → Option β) (fun _ k => k []) (fun _ ih l k => List.casesOn l none fun x t => ih t fun r => k (x :: r)) n l k
theorem qTk_ok {r : β} : ∀ (n : Nat) (l : List γ) (k : List γ → Option β), qTk n l k = some r → n ≤ l.length ∧ k (l.take n) = some r
 | 0, l, k, h => ⟨Nat.zero_le _, h⟩
 | n + 1, [], k, h => by cases h
 | n + 1, x :: l, k, h => by
  have h' : qTk n l (fun r => k (x :: r)) = some r := h
  obtain ⟨h1, h2⟩ := qTk_ok n l _ h'
  exact ⟨by simp; exact h1, by simpa using h2⟩
def qDr (n : Nat) (l : List γ) (k : List γ → Option β) : Option β :=
 Nat.rec (motive := fun _ => List γ → Option β) (fun l => k l) (fun _ ih l => List.casesOn l none fun _ t => ih t) n l
theorem qDr_ok {r : β} (k : List γ → Option β) : ∀ (n : Nat) (l : List γ), qDr n l k = some r → n ≤ l.length ∧ k (l.drop n) = some r
 | 0, l, h => ⟨Nat.zero_le _, h⟩
 | n + 1, [], h => by cases h
 | n + 1, x :: l, h => by
  have h' : qDr n l k = some r := h
  obtain ⟨h1, h2⟩ := qDr_ok k n l h'
  exact ⟨by simp; exact h1, by simpa using h2⟩
def qLen (l : List γ) : Nat := List.rec (motive := fun _ => Nat) 0 (fun _ _ ih => Nat.succ ih) l
theorem qLen_eq : ∀ l : List γ, qLen l = l.length
 | [] => rfl
 | _ :: l => by
  have := qLen_eq l
  simp only [qLen] at this ⊢
  simp only [List.length_cons, this]
def qOver (vs l : List γ) (k : List γ → Option β) : Option β :=
 List.rec (motive := fun _ => List γ → (List γ → Option β) → Option β) (fun l k => k l) (fun v _ ih l k => List.casesOn l none fun _ t => ih t fun r => k (v :: r)) vs l k
theorem qOver_ok {r : β} : ∀ (vs l : List γ) (k : List γ → Option β), qOver vs l k = some r → vs.length ≤ l.length ∧ k (vs ++ l.drop vs.length) = some r
 | [], l, k, h => ⟨Nat.zero_le _, h⟩
 | v :: vs, [], k, h => by cases h
 | v :: vs, x :: l, k, h => by
  have h' : qOver vs l (fun r => k (v :: r)) = some r := h
  obtain ⟨h1, h2⟩ := qOver_ok vs l _ h'
  exact ⟨by simp; exact h1, by simpa using h2⟩
def qSpl (off : Nat) (vs l : List γ) (k : List γ → Option β) : Option β :=
 Nat.rec (motive := fun _ => List γ → (List γ → Option β) → Option β) (fun l k => qOver vs l k) (fun _ ih l k => List.casesOn l none fun x t => ih t fun r => k (x :: r)) off l k
theorem qSpl_ok {r : β} {vs : List γ} : ∀ (off : Nat) (l : List γ) (k : List γ → Option β), qSpl off vs l k = some r → off + vs.length ≤ l.length ∧ k (l.take off ++ (vs ++ l.drop (off + vs.length))) = some r
 | 0, l, k, h => by
  obtain ⟨h1, h2⟩ := qOver_ok vs l k h
  exact ⟨by omega, by simpa using h2⟩
 | n + 1, [], k, h => by cases h
 | n + 1, x :: l, k, h => by
  have h' : qSpl n vs l (fun r => k (x :: r)) = some r := h
  obtain ⟨h1, h2⟩ := qSpl_ok n l _ h'
  refine ⟨by simp; omega, ?_⟩
  rw [show n + 1 + vs.length = (n + vs.length) + 1 from by omega]
  simpa using h2
def qNth (i : Nat) (l : List γ) (k : γ → Option β) : Option β :=
 Nat.rec (motive := fun _ => List γ → Option β) (fun l => List.casesOn l none fun x _ => k x) (fun _ ih l => List.casesOn l none fun _ t => ih t) i l
theorem qNth_ok {r : β} (k : γ → Option β) : ∀ (i : Nat) (l : List γ), qNth i l k = some r → ∃ x, l[i]? = some x ∧ k x = some r
 | 0, [], h => by cases h
 | 0, x :: l, h => ⟨x, by simp, h⟩
 | n + 1, [], h => by cases h
 | n + 1, x :: l, h => by
  have h' : qNth n l k = some r := h
  obtain ⟨y, h1, h2⟩ := qNth_ok k n l h'
  exact ⟨y, by simpa using h1, h2⟩
def qAll (f : γ → Bool) (l : List γ) : Bool := List.rec (motive := fun _ => Bool) true (fun x _ ih => Bool.rec false ih (f x)) l
theorem qAll_eq (f : γ → Bool) : ∀ l : List γ, qAll f l = l.all f
 | [] => rfl
 | x :: l => by
  have ih := qAll_eq f l
  simp only [qAll] at ih ⊢
  cases hx : f x <;> simp [hx, ih]
end
def qPure (v : V) : Bool :=
 V.rec (motive_1 := fun _ => Bool) (motive_2 := fun _ => Bool) false (fun _ => true) (fun _ _ => true) (fun _ => true) true (fun _ _ _ => true) (fun _ _ => true) (fun _ _ _ _ => false) (fun _ _ _ => false) true
  (fun _ b => b) (fun _ b => b) (fun _ _ b => b) true (fun _ _ b => b) true (fun _ => true) (fun _ _ => true) (fun _ _ _ _ _ => false) (fun _ _ => false) (fun _ => true) true (fun _ => true) (fun _ => true) (fun _ _ _ _ => false) (fun _ _ => false)
  true (fun _ _ a b => Bool.rec false b a) v
def qPureL (l : List V) : Bool := List.rec (motive := fun _ => Bool) true (fun v _ ih => Bool.rec false ih (qPure v)) l
def qPureR (l : List V) : Bool :=
 V.rec_1 (motive_1 := fun _ => Bool) (motive_2 := fun _ => Bool) false (fun _ => true) (fun _ _ => true) (fun _ => true) true (fun _ _ _ => true) (fun _ _ => true) (fun _ _ _ _ => false) (fun _ _ _ => false) true
  (fun _ b => b) (fun _ b => b) (fun _ _ b => b) true (fun _ _ b => b) true (fun _ => true) (fun _ _ => true) (fun _ _ _ _ _ => false) (fun _ _ => false) (fun _ => true) true (fun _ => true) (fun _ => true) (fun _ _ _ _ => false) (fun _ _ => false)
  true (fun _ _ a b => Bool.rec false b a) l
mutual
theorem qPure_eq : ∀ v : V, qPure v = v.pure
 | .agg cs => by
  have := qPureR_eq cs
  simp only [V.pure, ← this]; rfl
 | .tup cs => by
  have := qPureR_eq cs
  simp only [V.pure, ← this]; rfl
 | .ifc _ v => by
  have := qPure_eq v
  simp only [V.pure, ← this]; rfl
 | .fn _ cs => by
  have := qPureR_eq cs
  simp only [V.pure, ← this]; rfl
 | .undef | .bool _ | .int _ _ | .str _ | .snil | .sl _ _ | .cref _ | .own _ _ _ _ | .ptr _ _ _ | .pnil | .inil | .fnil | .lst _ | .eref _ _ | .eptr _ _ _ _ _ | .acc _ _ | .bs _ | .sz | .nl _ | .si _ | .nwin _ _ _ _ | .mp _ _ => rfl
theorem qPureR_eq : ∀ l : List V, qPureR l = pureL l
 | [] => rfl
 | v :: l => by
  have h1 := qPure_eq v
  have h2 := qPureR_eq l
  simp only [pureL, ← h1, ← h2]
  show (Bool.rec (motive := fun _ => Bool) false (qPureR l) (qPure v)) = _
  cases qPure v <;> rfl
end
theorem qPureL_eq : ∀ l : List V, qPureL l = pureL l
 | [] => rfl
 | v :: l => by
  have ih := qPureL_eq l
  simp only [qPureL] at ih ⊢
  simp only [pureL, ← qPure_eq, ← ih]
  cases qPure v <;> rfl
section
variable {β : Type _}
def qConst (v : Value) (k : V → β) : β := match v with
 | .bool b => k (.bool b)
 | .int i n => zI n fun n => k (.int i n)
 | v => zV 4 ((ofVal v).getD .undef) k
theorem qConst_eq (v : Value) (k : V → β) : qConst v k = k ((ofVal v).getD .undef) := by
 cases v <;> simp only [qConst, zV_eq, zI_eq] <;> rfl
def qEval (st : St) (x : Operand) (k : V → β) : β := match x with
 | .tmp t => qAt .undef st.t t k
 | .const v => qConst v k
 | .global _ => k .undef
 | .func f => k (.fn f [])
theorem qEval_eq (st : St) (x : Operand) (k : V → β) : qEval st x k = k (st.eval x) := by
 cases x <;> simp only [qEval, qAt_eq, qConst_eq] <;> rfl
def qEvalL (st : St) (l : List Operand) (k : List V → β) : β :=
 List.rec (motive := fun _ => (List V → β) → β) (fun k => k []) (fun x _ ih k => qEval st x fun v => ih fun vs => k (v :: vs)) l k
theorem qEvalL_eq (st : St) : ∀ (l : List Operand) (k : List V → β), qEvalL st l k = k (l.map st.eval)
 | [], k => rfl
 | x :: l, k => by
  show (qEval st x fun v => qEvalL st l fun vs => k (v :: vs)) = _
  rw [qEval_eq, qEvalL_eq st l]
  rfl
end
section
variable {β : Type _}
abbrev YK (β : Type _) := St → Nat → Option β
def yPure (st : St) (c : Nat) (d : Option Nat) (k : YK β) (v : V) : Option β :=
 St.rec (motive := fun _ => Option β) (fun n t o g => Option.rec (motive := fun _ => Option β) (k ⟨n, t, o, g⟩ c) (fun d => Bool.rec (motive := fun _ => Option β) none (k ⟨n, (d, v) :: t, o, g⟩ c) (Nat.blt d n)) d) st
def yWr (st : St) (c : Nat) (d : Option Nat) (k : YK β) (v : V) (s : Nat) (ob : Ob) : Option β :=
 St.rec (motive := fun _ => Option β) (fun n t o g => Option.rec (motive := fun _ => Option β) (k ⟨n, t, (s, ob) :: o, g⟩ c) (fun d => Bool.rec (motive := fun _ => Option β) none (k ⟨n, (d, v) :: t, (s, ob) :: o, g⟩ c) (Nat.blt d n)) d) st
def After (st : St) (d : Option Nat) (v : V) (wr : Wr) (k : YK β) (r : β) : Prop :=
 ∃ st' c', k st' c' = some r ∧ st'.n = st.n ∧ st'.g = st.g ∧ (∀ e, d = some e → e < st.n) ∧ (∀ t, st'.get t = if d = some t then v else st.get t) ∧ ∀ s, st'.o.get s = (wrT st.o wr).get s
theorem yPure_after {st : St} {c : Nat} {d : Option Nat} {k : YK β} {v : V} {r : β} (h : yPure st c d k v = some r) : After st d v none k r := by
 obtain ⟨n, t, o, g⟩ := st
 cases d with
 | none => exact ⟨_, _, h, rfl, rfl, by simp, fun t => by simp, fun s => rfl⟩
 | some d =>
  simp only [yPure] at h
  cases hb : Nat.blt d n with
  | false => rw [hb] at h; cases h
  | true =>
   rw [hb] at h
   refine ⟨_, _, h, rfl, rfl, fun e he => ?_, fun u => ?_, fun s => rfl⟩
   ·injection he with he; subst he
    exact blt_lt hb
   ·simp only [St.get, aget, Option.some.injEq]
theorem get_cons (s s' : Nat) (ob : Ob) (T : Tab) : Tab.get ((s, ob) :: T) s' = (T.put s ob).get s' := by
 rw [Tab.get_put]; rfl
theorem yWr_after {st : St} {c : Nat} {d : Option Nat} {k : YK β} {v : V} {s : Nat} {ob : Ob} {r : β} (h : yWr st c d k v s ob = some r) : After st d v (some (s, ob)) k r := by
 obtain ⟨n, t, o, g⟩ := st
 cases d with
 | none => exact ⟨_, _, h, rfl, rfl, by simp, fun t => by simp; rfl, fun s' => get_cons _ _ _ _⟩
 | some d =>
  simp only [yWr] at h
  cases hb : Nat.blt d n with
  | false => rw [hb] at h; cases h
  | true =>
   rw [hb] at h
   refine ⟨_, _, h, rfl, rfl, fun e he => ?_, fun u => ?_, fun s' => get_cons _ _ _ _⟩
   ·injection he with he; subst he
    exact blt_lt hb
   ·simp only [St.get, aget, Option.some.injEq]
def ldK (P : Program) (t : Nat) : Option (Option Nat) := match P.underlying t, P.info? t with
 | some d, some i => if isAggD d then some (some i.size) else some none
 | _, _ => none
def yLd (P : Program) (t : Nat) (cs : List V) (K : V → Option β) : Option β := match ldK P t with
 | some (some n) => qTk n cs fun cs => K (.agg cs)
 | some none => List.casesOn cs none fun x _ => K x
 | none => none
theorem yLd_ok {P : Program} {t : Nat} {cs : List V} {K : V → Option β} {r : β} (h : yLd P t cs K = some r) : ∃ v, loadV P t cs = some v ∧ K v = some r := by
 unfold yLd at h
 split at h
 ·rename_i n hk
  obtain ⟨h1, h2⟩ := qTk_ok _ _ _ h
  unfold ldK at hk
  split at hk
  ·rename_i d i hd hi
   split at hk
   ·rename_i ha
    injection hk with hk; injection hk with hk; subst hk
    exact ⟨_, by simp only [loadV, hd, hi, ha, if_true, if_pos h1], h2⟩
   ·injection hk with hk; cases hk
  ·cases hk
 ·rename_i hk
  unfold ldK at hk
  split at hk
  ·rename_i d i hd hi
   split at hk
   ·injection hk with hk; cases hk
   ·rename_i ha
    cases cs with
    | nil => cases h
    | cons x l => exact ⟨x, by simp only [loadV, hd, hi, ha, if_false]; rfl, h⟩
  ·cases hk
 ·cases h
def yLoad (P : Program) (T : Tab) (t : Nat) (x : V) (K : V → Option β) : Option β := match x with
 | .ptr s g off => qObj s T fun g' o => Bool.rec (motive := fun _ => Option β) none (match o with
  | .box _ cs => qDr off cs fun cs => yLd P t cs K
  | .row _ _ _ cs => qDr off cs fun cs => yLd P t cs K
  | _ => none) (Nat.beq g' g)
 | .cref cs => yLd P t cs K
 | x => match aLoad P T t x with
  | some (v, none) => zV 12 v K
  | _ => none
theorem brec_some {b : Bool} {x : Option β} {r : β} (h : Bool.rec (motive := fun _ => Option β) none x b = some r) : b = true ∧ x = some r := by
 cases b with
 | false => cases h
 | true => exact ⟨rfl, h⟩
theorem yLoad_ok {P : Program} {T : Tab} {t : Nat} {x : V} {K : V → Option β} {r : β} (h : yLoad P T t x K = some r) : ∃ v, aLoad P T t x = some (v, none) ∧ K v = some r := by
 unfold yLoad at h
 split at h
 ·rename_i s g off
  rw [qObj_eq] at h
  obtain ⟨hg, h⟩ := brec_some h
  have hg := Nat.eq_of_beq_eq_true hg
  split at h
  ·rename_i ty cs hk
   obtain ⟨h1, h2⟩ := qDr_ok _ _ _ h
   obtain ⟨v, h3, h4⟩ := yLd_ok h2
   exact ⟨v, by simp only [aLoad, aCells, hg, if_true, hk, if_pos h1, h3, Option.map_some], h4⟩
  ·rename_i ty sz fz cs hk
   obtain ⟨h1, h2⟩ := qDr_ok _ _ _ h
   obtain ⟨v, h3, h4⟩ := yLd_ok h2
   exact ⟨v, by simp only [aLoad, aCells, hg, if_true, hk, if_pos h1, h3, Option.map_some], h4⟩
  ·cases h
 ·rename_i cs
  obtain ⟨v, h3, h4⟩ := yLd_ok h
  exact ⟨v, by simp only [aLoad, aCells, h3, Option.map_some], h4⟩
 ·split at h
  ·rename_i v hv
   rw [zV_eq] at h
   exact ⟨v, hv, h⟩
  ·cases h
def stK (P : Program) (t : Nat) : Option Nat := (P.info? t).map (·.size)
def yStN (T : Tab) (n s g off : Nat) (vs : List V) (K : Nat → Ob → Option β) : Option β :=
 Bool.rec (motive := fun _ => Option β) none (Bool.rec (motive := fun _ => Option β) none (qObj s T fun g' o => Bool.rec (motive := fun _ => Option β) none (match o with
  | .box ty cs => qSpl off vs cs fun cs => K s ⟨g, .box ty cs⟩
  | .row ty sz false cs => qSpl off vs cs fun cs => K s ⟨g, .row ty sz false cs⟩
  | _ => none) (Nat.beq g' g)) (qAll V.cellOk vs)) (Nat.beq (qLen vs) n)
def yStore (P : Program) (T : Tab) (t : Nat) (x v : V) (K : Nat → Ob → Option β) : Option β := match x with
 | .ptr s g off => match stK P t with
  | some n => match v with
   | .undef => none
   | .agg vs => yStN T n s g off vs K
   | v => yStN T n s g off [v] K
  | none => none
 | _ => none
theorem yStN_ok {T : Tab} {n s g off : Nat} {vs : List V} {K : Nat → Ob → Option β} {r : β} (h : yStN T n s g off vs K = some r) : vs.length = n ∧ vs.all V.cellOk = true ∧ (T.get s).gen = g ∧
  ((∃ ty cs, (T.get s).k = .box ty cs ∧ off + n ≤ cs.length ∧ K s ⟨g, .box ty (splice cs off vs)⟩ = some r) ∨ (∃ ty sz cs, (T.get s).k = .row ty sz false cs ∧ off + n ≤ cs.length ∧ K s ⟨g, .row ty sz false (splice cs off vs)⟩ = some r)) := by
 unfold yStN at h
 obtain ⟨h1, h⟩ := brec_some h
 obtain ⟨h2, h⟩ := brec_some h
 rw [qObj_eq] at h
 obtain ⟨h3, h⟩ := brec_some h
 have h1 := Nat.eq_of_beq_eq_true h1
 rw [qLen_eq] at h1
 rw [qAll_eq] at h2
 refine ⟨h1, h2, Nat.eq_of_beq_eq_true h3, ?_⟩
 split at h
 ·rename_i ty cs hk
  obtain ⟨a1, a2⟩ := qSpl_ok _ _ _ h
  exact .inl ⟨ty, cs, hk, by omega, a2⟩
 ·rename_i ty sz cs hk
  obtain ⟨a1, a2⟩ := qSpl_ok _ _ _ h
  exact .inr ⟨ty, sz, cs, hk, by omega, a2⟩
 ·cases h
theorem yStore_ok {P : Program} {T : Tab} {t : Nat} {x v : V} {K : Nat → Ob → Option β} {r : β} (h : yStore P T t x v K = some r) : ∃ s ob, aStore P T t x v = some (some (s, ob)) ∧ K s ob = some r := by
 unfold yStore at h
 split at h
 ·rename_i s g off
  split at h
  ·rename_i n hn
   unfold stK at hn
   cases hi : P.info? t with
   | none => rw [hi] at hn; cases hn
   | some i =>
    rw [hi] at hn
    simp only [Option.map_some, Option.some.injEq] at hn
    have key : ∀ vs, v.isU = false → v.cells = vs → yStN T n s g off vs K = some r → ∃ s' ob, aStore P T t (.ptr s g off) v = some (some (s', ob)) ∧ K s' ob = some r := by
     intro vs hu hc hh
     obtain ⟨h1, h2, h3, h4⟩ := yStN_ok hh
     rcases h4 with ⟨ty, cs, hk, hle, hK⟩ | ⟨ty, sz, cs, hk, hle, hK⟩
     ·exact ⟨_, _, by simp only [aStore, hi, hu, h3, hc, h1, hn, h2, and_self, if_true, hk, if_pos hle], hK⟩
     ·exact ⟨_, _, by simp only [aStore, hi, hu, h3, hc, h1, hn, h2, and_self, if_true, hk, if_pos hle], hK⟩
    split at h
    ·cases h
    ·exact key _ rfl rfl h
    ·rename_i hne hna
     refine key _ ?_ ?_ h
     ·cases v <;> first | rfl | exact absurd rfl hne
     ·cases v <;> first | rfl | exact absurd rfl (hna _)
  ·cases h
 ·cases h
def hiN : IntKind → Nat
 | .i8 => 127 | .i16 => 32767 | .i32 => 2147483647 | .i64 => 9223372036854775807
 | .u8 => 255 | .u16 => 65535 | .u32 => 4294967295 | .u64 => 18446744073709551615
theorem wr_nat {k : IntKind} {n : Nat} (h : n ≤ hiN k) : wr k (n : Int) = n := by
 unfold wr
 rw [if_pos]
 constructor
 ·cases k <;> simp only [lo] <;> omega
 ·cases k <;> simp only [hi, hiN] at h ⊢ <;> omega
def qFit (k : IntKind) (n : Nat) (K : V → Option β) (F : Option β) : Option β := Bool.rec (motive := fun _ => Option β) F (qN n fun n => K (.int k (.ofNat n))) (Nat.ble n (hiN k))
def qBool (b : Bool) (K : V → Option β) : Option β := Bool.rec (motive := fun _ => Option β) (K (.bool false)) (K (.bool true)) b
def qNat (op : BinOp) (k : IntKind) (a b : Nat) (K : V → Option β) (F : Option β) : Option β := match op with
 | .add => qFit k (Nat.add a b) K F
 | .sub => Bool.rec (motive := fun _ => Option β) F (qFit k (Nat.sub a b) K F) (Nat.ble b a)
 | .mul => qFit k (Nat.mul a b) K F
 | .quo => Bool.rec (motive := fun _ => Option β) (qFit k (Nat.div a b) K F) F (Nat.beq b 0)
 | .rem => Bool.rec (motive := fun _ => Option β) (qFit k (Nat.mod a b) K F) F (Nat.beq b 0)
 | .eql => qBool (Nat.beq a b) K
 | .neq => qBool (Bool.rec true false (Nat.beq a b)) K
 | .lss => qBool (Nat.blt a b) K
 | .leq => qBool (Nat.ble a b) K
 | .gtr => qBool (Nat.blt b a) K
 | .geq => qBool (Nat.ble b a) K
 | _ => F
theorem qFit_ok {k : IntKind} {n : Nat} {K : V → Option β} {F : Option β} {r : β} (h : qFit k n K F = some r) : F = some r ∨ (n ≤ hiN k ∧ K (.int k n) = some r) := by
 unfold qFit at h
 cases hb : Nat.ble n (hiN k) with
 | false => rw [hb] at h; exact .inl h
 | true => rw [hb] at h; rw [qN_eq] at h; exact .inr ⟨Nat.le_of_ble_eq_true hb, h⟩
theorem qBool_ok {b : Bool} {K : V → Option β} {r : β} (h : qBool b K = some r) : K (.bool b) = some r := by cases b <;> exact h
theorem ble_false {a b : Nat} (h : Nat.ble a b = false) : ¬ a ≤ b := fun hc => by rw [Nat.ble_eq_true_of_le hc] at h; cases h
theorem qNat_ok {op : BinOp} {k : IntKind} {a b : Nat} {K : V → Option β} {F : Option β} {r : β} (h : qNat op k a b K F = some r) : F = some r ∨ ∃ v, intBin op k a b = some v ∧ K v = some r := by
  cases op <;> simp only [qNat] at h <;> (try exact .inl h)
  case add =>
    rcases qFit_ok h with h | ⟨h1, h2⟩
    · exact .inl h
    · refine .inr ⟨_, ?_, h2⟩
      have := wr_nat h1
      simp only [intBin]
      rw [show (a : Int) + b = ((Nat.add a b : Nat) : Int) from by simp, this]
  case sub =>
    cases hb : Nat.ble b a with
    | false => rw [hb] at h; exact .inl h
    | true =>
      rw [hb] at h
      have hle := Nat.le_of_ble_eq_true hb
      rcases qFit_ok h with h | ⟨h1, h2⟩
      · exact .inl h
      · refine .inr ⟨_, ?_, h2⟩
        have := wr_nat h1
        simp only [intBin]
        rw [show (a : Int) - b = ((Nat.sub a b : Nat) : Int) from by simp; omega, this]
  case mul =>
    rcases qFit_ok h with h | ⟨h1, h2⟩
    · exact .inl h
    · refine .inr ⟨_, ?_, h2⟩
      have := wr_nat h1
      simp only [intBin]
      rw [show (a : Int) * b = ((Nat.mul a b : Nat) : Int) from by simp, this]
  case quo =>
    cases hb : Nat.beq b 0 with
    | true => rw [hb] at h; exact .inl h
    | false =>
      rw [hb] at h
      have hne : ¬ (b : Int) = 0 := by have := beq_no hb; omega
      rcases qFit_ok h with h | ⟨h1, h2⟩
      · exact .inl h
      · refine .inr ⟨_, ?_, h2⟩
        have := wr_nat h1
        simp only [intBin, if_neg hne]
        rw [show (a : Int).tdiv b = ((Nat.div a b : Nat) : Int) from rfl, this]
  case rem =>
    cases hb : Nat.beq b 0 with
    | true => rw [hb] at h; exact .inl h
    | false =>
      rw [hb] at h
      have hne : ¬ (b : Int) = 0 := by have := beq_no hb; omega
      rcases qFit_ok h with h | ⟨h1, h2⟩
      · exact .inl h
      · refine .inr ⟨_, ?_, h2⟩
        simp only [intBin, if_neg hne]
        rw [show (a : Int).tmod b = ((Nat.mod a b : Nat) : Int) from rfl]
  case eql =>
    refine .inr ⟨_, ?_, qBool_ok h⟩
    simp only [intBin, Option.some.injEq, V.bool.injEq]
    cases hb : Nat.beq a b with
    | true => have := Nat.eq_of_beq_eq_true hb; subst this; simp
    | false => have := beq_no hb; exact decide_eq_false (by omega)
  case neq =>
    refine .inr ⟨_, ?_, qBool_ok h⟩
    simp only [intBin, Option.some.injEq, V.bool.injEq]
    cases hb : Nat.beq a b with
    | true => have := Nat.eq_of_beq_eq_true hb; subst this; simp
    | false => have := beq_no hb; exact decide_eq_true (by omega)
  case lss =>
    refine .inr ⟨_, ?_, qBool_ok h⟩
    simp only [intBin, Option.some.injEq, V.bool.injEq]
    cases hb : Nat.blt a b with
    | true => have : a < b := blt_lt hb; exact decide_eq_true (by omega)
    | false => have : ¬ a < b := fun e => by exact blt_no hb e
               exact decide_eq_false (by omega)
  case leq =>
    refine .inr ⟨_, ?_, qBool_ok h⟩
    simp only [intBin, Option.some.injEq, V.bool.injEq]
    cases hb : Nat.ble a b with
    | true => have := Nat.le_of_ble_eq_true hb; exact decide_eq_true (by omega)
    | false => have := ble_false hb; exact decide_eq_false (by omega)
  case gtr =>
    refine .inr ⟨_, ?_, qBool_ok h⟩
    simp only [intBin, Option.some.injEq, V.bool.injEq]
    cases hb : Nat.blt b a with
    | true => have : b < a := blt_lt hb; exact decide_eq_true (by omega)
    | false => have : ¬ b < a := fun e => by exact blt_no hb e
               exact decide_eq_false (by omega)
  case geq =>
    refine .inr ⟨_, ?_, qBool_ok h⟩
    simp only [intBin, Option.some.injEq, V.bool.injEq]
    cases hb : Nat.ble b a with
    | true => have := Nat.le_of_ble_eq_true hb; exact decide_eq_true (by omega)
    | false => have := ble_false hb; exact decide_eq_false (by omega)
def slowBin (P : Program) (op : BinOp) (t : Nat) (ox oy : Operand) (x y : V) (K : V → Option β) : Option β :=
 match aBin P op t ox oy (conB x) (conB y) with
 | some v => zV 12 v K
 | none => none
def shOp : BinOp → Bool
 | .shl | .shr => true
 | _ => false
def yBin (P : Program) (op : BinOp) (t : Nat) (ox oy : Operand) (x y : V) (K : V → Option β) : Option β := match x with
 | .int k m => match y with
  | .int k' n => match m with
   | .ofNat a => match n with
    | .ofNat b => Bool.rec (motive := fun _ => Option β) (qNat op k a b K (slowBin P op t ox oy (.int k (.ofNat a)) (.int k' (.ofNat b)) K)) (slowBin P op t ox oy (.int k (.ofNat a)) (.int k' (.ofNat b)) K) (Bool.rec (!(decide (k = k'))) true (shOp op))
    | n => slowBin P op t ox oy (.int k m) (.int k' n) K
   | m => slowBin P op t ox oy (.int k m) (.int k' n) K
  | y => slowBin P op t ox oy (.int k m) y K
 | x => slowBin P op t ox oy x y K
theorem slowBin_ok {P : Program} {op : BinOp} {t : Nat} {ox oy : Operand} {x y : V} {K : V → Option β} {r : β} (h : slowBin P op t ox oy x y K = some r) : ∃ v, aBin P op t ox oy (conB x) (conB y) = some v ∧ K v = some r := by
 unfold slowBin at h
 split at h
 ·rename_i v hv
  rw [zV_eq] at h
  exact ⟨v, hv, h⟩
 ·cases h
theorem yBin_ok {P : Program} {op : BinOp} {t : Nat} {ox oy : Operand} {x y : V} {K : V → Option β} {r : β} (h : yBin P op t ox oy x y K = some r) : ∃ v, aBin P op t ox oy (conB x) (conB y) = some v ∧ K v = some r := by
 unfold yBin at h
 split at h
 ·rename_i k m
  split at h
  ·rename_i k' n
   split at h
   ·rename_i a
    split at h
    ·rename_i b
     cases hs : (Bool.rec (!(decide (k = k'))) true (shOp op) : Bool) with
     | true => rw [hs] at h; exact slowBin_ok h
     | false =>
      rw [hs] at h
      rcases qNat_ok h with h | ⟨v, h1, h2⟩
      ·exact slowBin_ok h
      ·refine ⟨v, ?_, h2⟩
       cases hq : shOp op with
       | true => rw [hq] at hs; cases hs
       | false =>
        rw [hq] at hs
        have hk : k = k' := by simpa using hs
        subst hk
        simp only [Abs.conB, aBin]
        cases op <;> first | (simp [shOp] at hq; done) | (simp only [if_true]; exact h1)
    ·exact slowBin_ok h
   ·exact slowBin_ok h
  ·exact slowBin_ok h
 ·exact slowBin_ok h
end
end
end Go.Abs
namespace Go.Abs
open Go.RowKit
set_option linter.unusedVariables false
set_option linter.unusedSimpArgs false
noncomputable section
section
variable {β : Type _}
def oC (o : Oper) (c : Nat) : Oper := { o with dst := some c }
def opZ0 (P : Program) (st : St) (o : Oper) : Option (V × Wr) := match aop0 P st o with
 | some r => some r
 | none => opZ P st o
theorem opZ0_ok {κ : Cx} {ι : Nat → Nat} {st : St} {a : Act} {w : World} (h : RelI κ ι st a w) {o : Oper} {v : V} {wr : Wr} (hx : opZ0 κ.P st o = some (v, wr)) : OpRes κ ι st.o a w o v (wrT st.o wr) := by
 unfold opZ0 at hx
 split at hx
 ·rename_i r hr
  injection hx with hx; subst hx
  exact aop0_ok h hr
 ·exact opZ_ok h hx
def slow (P : Program) (st : St) (c : Nat) (o : Oper) (k : YK β) : Option β :=
 match opZ0 P st (oC o c) with
 | some (v, none) => zV 12 (conB v) fun v => yPure st c o.dst k v
 | some (v, some (s, ob)) => zV 12 (conB v) fun v => zN s fun s => Ob.rec (motive := fun _ => Option β) (fun g u => zN g fun g => zOK u fun u => qN (Nat.succ c) fun c => yWr st c o.dst k v s ⟨g, u⟩) ob
 | none => none
def Hit (P : Program) (st : St) (c : Nat) (o : Oper) (k : YK β) (r : β) : Prop :=
 ∃ v wr, (opZ P st (oC o c) = some (v, wr) ∨ opZ0 P st (oC o c) = some (v, wr)) ∧ ∃ u, (u = v ∨ u = conB v) ∧ After st o.dst u wr k r
theorem slow_hit {P : Program} {st : St} {c : Nat} {o : Oper} {k : YK β} {r : β} (h : slow P st c o k = some r) : Hit P st c o k r := by
 unfold slow at h
 split at h
 ·rename_i v hv
  rw [zV_eq] at h
  exact ⟨v, none, .inr hv, _, .inr rfl, yPure_after h⟩
 ·rename_i v s ob hv
  obtain ⟨g, u⟩ := ob
  simp only [zV_eq, zN_eq, zOK_eq, qN_eq] at h
  exact ⟨v, _, .inr hv, _, .inr rfl, yWr_after h⟩
 ·cases h
theorem opZ_aop {P : Program} {st : St} {o : Oper} {x : V × Wr} (h : aop P st o = some x) : opZ P st o = some x ∨ opZ0 P st o = some x := by
 left; simp only [opZ, h]
def yNew (st : St) (c : Nat) (d : Option Nat) (k : YK β) (u : OK) : Option β :=
 qObj c st.o fun g _ => qN (Nat.succ c) fun c' => yWr st c' d k (.ptr c (Nat.succ g) 0) c ⟨Nat.succ g, u⟩
def yAlloc (P : Program) (st : St) (c : Nat) (d : Option Nat) (e : Nat) (k : YK β) : Option β := match zeroC P e with
 | some cs => zList (zV 4) cs fun cs => yNew st c d k (.box e cs)
 | none => none
def yBox (st : St) (c : Nat) (d : Option Nat) (e : Nat) (x : V) (k : YK β) : Option β := match x with
 | .undef => none
 | .agg cs => yNew st c d k (.box e cs)
 | x => yNew st c d k (.box e [x])
def faK (P : Program) (s f : Nat) : Option Nat := match P.underlying s with
 | some (.struct fs) => match fs[f]? with
  | some fd => match P.info? fd.type with
   | some i => if i.size = 0 then none else some fd.offset
   | none => none
  | none => none
 | _ => none
def yFA (P : Program) (s : Nat) (x : V) (f : Nat) (K : V → Option β) : Option β := match faK P s f with
 | some n => match x with
  | .ptr t g off => qN (Nat.add off n) fun m => K (.ptr t g m)
  | .cref cs => qDr n cs fun cs => K (.cref cs)
  | _ => none
 | none => none
theorem yFA_ok {P : Program} {s f : Nat} {x : V} {K : V → Option β} {r : β} (h : yFA P s x f K = some r) : ∃ v, aField P s x f = some v ∧ K v = some r := by
 unfold yFA at h
 split at h
 ·rename_i n hn
  have key : ∀ v, aOff x n = some v → aField P s x f = some v := by
   intro v hv
   unfold faK at hn
   unfold aField
   split at hn
   ·rename_i fs hs
    rw [hs]; simp only
    split at hn
    ·rename_i fd hf
     rw [hf]; simp only
     split at hn
     ·rename_i i hi
      rw [hi]; simp only
      split at hn
      ·cases hn
      ·rename_i h0
       injection hn with hn; subst hn
       rw [if_neg h0]; exact hv
     ·cases hn
    ·cases hn
   ·cases hn
  split at h
  ·rename_i t g off
   rw [qN_eq] at h
   exact ⟨_, key _ rfl, h⟩
  ·rename_i cs
   obtain ⟨h1, h2⟩ := qDr_ok _ _ _ h
   exact ⟨_, key _ (by simp only [aOff, if_pos h1]), h2⟩
  ·cases h
 ·cases h
def yExt (x : V) (i : Nat) (K : V → Option β) : Option β := match x with
 | .tup vs => qNth i vs K
 | _ => none
theorem yExt_ok {x : V} {i : Nat} {K : V → Option β} {r : β} (h : yExt x i K = some r) : ∃ v, aExtract x i = some v ∧ K v = some r := by
 unfold yExt at h
 split at h
 ·exact qNth_ok _ _ _ h
 ·cases h
def taK (P : Program) (t : Nat) : Bool := match P.underlying t with
 | some d => !isIfaceD d
 | none => false
def yTA (P : Program) (asserted : Nat) (ok : Bool) (x : V) (K : V → Option β) (F : Option β) : Option β := match x with
 | .ifc t v => Bool.rec (motive := fun _ => Option β) F (Bool.rec (motive := fun _ => Option β) F (Bool.rec (motive := fun _ => Option β) (K v) (K (.tup [v, .bool true])) ok) (taK P asserted)) (Nat.beq t asserted)
 | _ => F
theorem taK_ok {P : Program} {t : Nat} (h : taK P t = true) : ∃ d, P.underlying t = some d ∧ isIfaceD d = false := by
 unfold taK at h
 split at h
 ·rename_i d hd
  exact ⟨d, hd, by simpa using h⟩
 ·cases h
theorem yTA_ok {P : Program} {asserted : Nat} {ok : Bool} {x : V} {K : V → Option β} {F : Option β} {r : β} (h : yTA P asserted ok x K F = some r) : F = some r ∨ ∃ v, aAssert P asserted ok x = some v ∧ K v = some r := by
 unfold yTA at h
 split at h
 ·rename_i t v
  cases h1 : Nat.beq t asserted with
  | false => rw [h1] at h; exact .inl h
  | true =>
   rw [h1] at h
   have h1 := Nat.eq_of_beq_eq_true h1
   cases h2 : taK P asserted with
   | false => rw [h2] at h; exact .inl h
   | true =>
    rw [h2] at h
    obtain ⟨d, hd, hi⟩ := taK_ok h2
    refine .inr ?_
    cases ok with
    | false => exact ⟨v, by simp only [aAssert, hd, hi, h1, Bool.false_eq_true, if_false, if_true], h⟩
    | true => exact ⟨.tup [v, .bool true], by simp only [aAssert, hd, hi, h1, Bool.false_eq_true, if_false, if_true], h⟩
 ·exact .inl h
def cvK (P : Program) (src dst : Nat) : Option IntKind := match P.underlying src, P.underlying dst with
 | some _, some (.int k) => some k
 | _, _ => none
def yConv (P : Program) (src dst : Nat) (x : V) (K : V → Option β) (F : Option β) : Option β := match x with
 | .int _ n => match n with
  | .ofNat a => match cvK P src dst with
   | some k => qFit k a K F
   | none => F
  | _ => F
 | _ => F
theorem yConv_ok {P : Program} {T : Tab} {src dst d : Nat} {x : V} {K : V → Option β} {F : Option β} {r : β} (h : yConv P src dst x K F = some r) : F = some r ∨ ∃ v, aConvert P T src dst x d = some (v, none) ∧ K v = some r := by
 unfold yConv at h
 split at h
 ·split at h
  ·rename_i a
   split at h
   ·rename_i k hk
    rcases qFit_ok h with h | ⟨h1, h2⟩
    ·exact .inl h
    ·refine .inr ⟨_, ?_, h2⟩
     unfold cvK at hk
     split at hk
     ·rename_i d1 k' e1 e2
      injection hk with hk; subst hk
      have := wr_nat h1
      simp only [aConvert, e1, e2]
      rw [show (Int.ofNat a) = ((a : Nat) : Int) from rfl, this]
     ·cases hk
   ·exact .inl h
  ·exact .inl h
 ·exact .inl h
def lnK (P : Program) (t : Nat) : Bool := match P.underlying t with
 | some (.slice _) => true
 | _ => false
def lnS (P : Program) (t : Nat) : Bool := match P.underlying t with
 | some .string => true
 | _ => false
def yLen (P : Program) (t : Nat) (x : V) (K : V → Option β) (F : Option β) : Option β := match x with
 | .own _ _ _ n => Bool.rec (motive := fun _ => Option β) F (K (.int .i64 (.ofNat n))) (lnK P t)
 | .sl n _ => Bool.rec (motive := fun _ => Option β) F (K (.int .i64 (.ofNat n))) (lnK P t)
 | .snil => Bool.rec (motive := fun _ => Option β) F (K (.int .i64 (.ofNat 0))) (lnK P t)
 | .str s => Bool.rec (motive := fun _ => Option β) F (qN (qLen s) fun n => K (.int .i64 (.ofNat n))) (lnS P t)
 | _ => F
theorem brec_or {b : Bool} {x F : Option β} {r : β} (h : Bool.rec (motive := fun _ => Option β) F x b = some r) : F = some r ∨ (b = true ∧ x = some r) := by
 cases b with
 | false => exact .inl h
 | true => exact .inr ⟨rfl, h⟩
theorem lnK_ok {P : Program} {t : Nat} (h : lnK P t = true) : ∃ e, P.underlying t = some (.slice e) := by
 unfold lnK at h
 split at h
 ·rename_i e he; exact ⟨e, he⟩
 ·cases h
theorem lnS_ok {P : Program} {t : Nat} (h : lnS P t = true) : P.underlying t = some .string := by
 unfold lnS at h
 split at h
 ·assumption
 ·cases h
theorem yLen_ok {P : Program} {T : Tab} {t : Nat} {x : V} {K : V → Option β} {F : Option β} {r : β} (h : yLen P t x K F = some r) : F = some r ∨ ∃ v, aLen P T t x = some v ∧ K v = some r := by
 unfold yLen at h
 split at h
 ·rcases brec_or h with h | ⟨h1, h2⟩
  ·exact .inl h
  ·obtain ⟨e, he⟩ := lnK_ok h1
   exact .inr ⟨_, by simp only [aLen, he]; rfl, h2⟩
 ·rcases brec_or h with h | ⟨h1, h2⟩
  ·exact .inl h
  ·obtain ⟨e, he⟩ := lnK_ok h1
   exact .inr ⟨_, by simp only [aLen, he]; rfl, h2⟩
 ·rcases brec_or h with h | ⟨h1, h2⟩
  ·exact .inl h
  ·obtain ⟨e, he⟩ := lnK_ok h1
   exact .inr ⟨_, by simp only [aLen, he]; rfl, h2⟩
 ·rename_i s
  rcases brec_or h with h | ⟨h1, h2⟩
  ·exact .inl h
  ·have he := lnS_ok h1
   rw [qN_eq, qLen_eq] at h2
   exact .inr ⟨_, by simp only [aLen, he]; rfl, h2⟩
 ·exact .inl h
def iaK (P : Program) (t : Nat) : Option (Option Nat × Nat) := match P.underlying t with
 | some (.array len e) => match P.info? e with
  | some inf => some (some len, inf.size)
  | none => none
 | some (.slice e) => match P.info? e with
  | some inf => some (none, inf.size)
  | none => none
 | _ => none
def yIA2 (T : Tab) (sz i : Nat) (x : V) (K : V → Option β) : Option β := match x with
 | .own s g off n => Bool.rec (motive := fun _ => Option β) none (qObj s T fun g' o => Bool.rec (motive := fun _ => Option β) none (match o with
   | .row _ sz' _ _ => Bool.rec (motive := fun _ => Option β) none (qN (Nat.mul (Nat.add off i) sz) fun m => K (.ptr s g m)) (Nat.beq sz' sz)
   | _ => none) (Nat.beq g' g)) (Nat.blt i n)
 | .sl n cs => Bool.rec (motive := fun _ => Option β) none (qDr (Nat.mul i sz) cs fun cs => qTk sz cs fun cs => K (.cref cs)) (Nat.blt i n)
 | _ => none
def yIA (P : Program) (T : Tab) (t : Nat) (x ix : V) (K : V → Option β) (F : Option β) : Option β := match ix with
 | .int _ n => match n with
  | .ofNat i => match iaK P t with
   | some (none, sz) => match x with
    | .own s g off n => yIA2 T sz i (.own s g off n) K
    | .sl n cs => yIA2 T sz i (.sl n cs) K
    | _ => F
   | some (some len, sz) => match x with
    | .ptr s g off => Bool.rec (motive := fun _ => Option β) F (qN (Nat.add off (Nat.mul i sz)) fun m => K (.ptr s g m)) (Nat.blt i len)
    | _ => F
   | none => F
  | _ => F
 | _ => F
theorem yIA_ok {P : Program} {T : Tab} {t : Nat} {x ix : V} {K : V → Option β} {F : Option β} {r : β} (h : yIA P T t x ix K F = some r) : F = some r ∨ ∃ v, aIndexAddr P T t x ix = some v ∧ K v = some r := by
 unfold yIA at h
 split at h
 ·split at h
  ·rename_i k' i
   split at h
   ·rename_i sz hk
    unfold iaK at hk
    split at hk
    ·split at hk
     ·injection hk with hk; injection hk with hk; cases hk
     ·cases hk
    ·rename_i e he
     split at hk
     ·rename_i inf hi
      injection hk with hk; injection hk with e1 hk; subst hk
      split at h
      ·rename_i s g off n
       unfold yIA2 at h
       obtain ⟨h1, h⟩ := brec_some h
       rw [qObj_eq] at h
       obtain ⟨h2, h⟩ := brec_some h
       have h1 := blt_lt h1
       have h2 := Nat.eq_of_beq_eq_true h2
       split at h
       ·rename_i ty sz' fz cs hk
        obtain ⟨h3, hz⟩ := brec_some h
        have h3 := Nat.eq_of_beq_eq_true h3
        rw [qN_eq] at hz
        subst h3
        refine .inr ⟨_, ?_, hz⟩
        have hc : (0 : Int) ≤ Int.ofNat i ∧ Int.ofNat i < (n : Int) ∧ (T.get s).gen = g := ⟨by simp, by simp; omega, h2⟩
        simp only [aIndexAddr, he, hi, if_pos hc, hk, if_true]
        rfl
       ·cases h
      ·rename_i n cs
       unfold yIA2 at h
       obtain ⟨h1, h⟩ := brec_some h
       have h1 := blt_lt h1
       obtain ⟨h2, h⟩ := qDr_ok _ _ _ h
       obtain ⟨h3, h⟩ := qTk_ok _ _ _ h
       refine .inr ⟨_, ?_, h⟩
       have h2' : i * inf.size ≤ cs.length := h2
       have h3' : inf.size ≤ (cs.drop (i * inf.size)).length := h3
       rw [List.length_drop] at h3'
       have hc : (0 : Int) ≤ Int.ofNat i ∧ Int.ofNat i < (n : Int) ∧ ((Int.ofNat i).toNat + 1) * inf.size ≤ cs.length := by
        refine ⟨by simp, by simp; omega, ?_⟩
        show (i + 1) * inf.size ≤ _
        rw [Nat.add_mul]; omega
       simp only [aIndexAddr, he, hi, if_pos hc]
       rfl
      ·exact .inl h
     ·cases hk
    ·cases hk
   ·rename_i len sz hk
    unfold iaK at hk
    split at hk
    ·rename_i len' e he
     split at hk
     ·rename_i inf hi
      injection hk with hk; injection hk with e1 hk; injection e1 with e1; subst hk e1
      split at h
      ·rename_i s g off
       rcases brec_or h with h | ⟨h1, h2⟩
       ·exact .inl h
       ·have h1 := blt_lt h1
        rw [qN_eq] at h2
        refine .inr ⟨_, ?_, h2⟩
        have hc : (0 : Int) ≤ Int.ofNat i ∧ Int.ofNat i < (len' : Int) := ⟨by simp, by simp; omega⟩
        simp only [aIndexAddr, he, hi, isArr, Bool.false_eq_true, if_false, if_pos hc, aOff]
        rfl
      ·exact .inl h
     ·cases hk
    ·split at hk
     ·injection hk with hk; injection hk with hk; cases hk
     ·cases hk
    ·cases hk
   ·exact .inl h
  ·exact .inl h
 ·exact .inl h
def yOp (P : Program) (st : St) (c : Nat) (o : Oper) (k : YK β) : Option β := match o.op with
 | .move x => qEval st x (yPure st c o.dst k)
 | .assign x => qEval st x (yPure st c o.dst k)
 | .pick b x y => qEval st b fun vb => match vb with
  | .bool b => Bool.rec (motive := fun _ => Option β) (qEval st y (yPure st c o.dst k)) (qEval st x (yPure st c o.dst k)) b
  | _ => none
 | .alloc e => yAlloc P st c o.dst e k
 | .box e x => qEval st x fun vx => yBox st c o.dst e vx k
 | .load t x => qEval st x fun vx => yLoad P st.o t vx (yPure st c o.dst k)
 | .store t x y => qEval st x fun vx => qEval st y fun vy => match vx with
  | .ptr s g off => yStore P st.o t (.ptr s g off) vy (yWr st c o.dst k (.tup []))
  | _ => slow P st c o k
 | .binOp op t x y _ => qEval st x fun vx => qEval st y fun vy => yBin P op t x y vx vy fun v => qB v (yPure st c o.dst k)
 | .unOp op _ x => qEval st x fun vx => yUn op vx (yPure st c o.dst k) (slow P st c o k)
 | .fieldAddr s x f => qEval st x fun vx => yFA2 P s vx f (yPure st c o.dst k) (slow P st c o k)
 | .indexAddr t x ix => qEval st x fun vx => qEval st ix fun vi => yIA P st.o t vx vi (yPure st c o.dst k) (slow P st c o k)
 | .extract x i => qEval st x fun vx => yExt vx i fun v => qB v (yPure st c o.dst k)
 | .typeAssert x _ asserted ok => qEval st x fun vx => yTA P asserted ok vx (yPure st c o.dst k) (slow P st c o k)
 | .convert src dst x => qEval st x fun vx => yConv P src dst vx (yPure st c o.dst k) (slow P st c o k)
 | .nilCheck x => qEval st x fun vx => yNC vx (yPure st c o.dst k) (slow P st c o k)
 | .call cl => yBi P st c o cl k
 | _ => slow P st c o k
where
 qB (v : V) (K : V → Option β) : Option β := match v with
  | .bs b => qBool b K
  | v => K v
 yUn (op : UnOp) (x : V) (K : V → Option β) (F : Option β) : Option β := match op with
  | .not => match x with
   | .bool b => Bool.rec (motive := fun _ => Option β) (K (.bool true)) (K (.bool false)) b
   | _ => F
  | _ => F
 yFA2 (P : Program) (s : Nat) (x : V) (f : Nat) (K : V → Option β) (F : Option β) : Option β := match x with
  | .ptr a b c => yFA P s (.ptr a b c) f K
  | .cref cs => yFA P s (.cref cs) f K
  | _ => F
 yNC (x : V) (K : V → Option β) (F : Option β) : Option β := match x with
  | .ptr s g off => K (.ptr s g off)
  | .cref cs => K (.cref cs)
  | _ => F
 yBi (P : Program) (st : St) (c : Nat) (o : Oper) (cl : Call) (k : YK β) : Option β := match cl.callee with
  | .builtin b => match b with
   | .len => match cl.args.toList with
    | [x] => match cl.argTypes.toList with
     | [t] => qEval st x fun vx => yLen P t vx (yPure st c o.dst k) (slow P st c o k)
     | _ => none
    | _ => none
   | _ => slow P st c o k
  | _ => none
theorem qB_ok {v : V} {K : V → Option β} {r : β} (h : yOp.qB v K = some r) : K (conB v) = some r := by
 unfold yOp.qB at h
 split at h
 ·exact qBool_ok h
 ·rename_i hv
  rw [show conB v = v from by cases v <;> first | rfl | exact absurd rfl (hv _)]
  exact h
theorem yOp_hit {P : Program} {st : St} {c : Nat} {o : Oper} {k : YK β} {r : β} (h : yOp P st c o k = some r) : Hit P st c o k r := by
 obtain ⟨dst, op, type, pos, after, guard⟩ := o
 unfold yOp at h
 cases op <;> simp only [qEval_eq] at h <;> (try exact slow_hit h)
 case move x => exact ⟨_, none, opZ_aop (by rfl), _, .inl rfl, yPure_after h⟩
 case assign x => exact ⟨_, none, opZ_aop (by rfl), _, .inl rfl, yPure_after h⟩
 case pick b x y =>
  split at h
  ·rename_i b' hb
   cases b' with
   | false => exact ⟨st.eval y, none, opZ_aop (by simp only [aop, oC, hb, Bool.false_eq_true, if_false]), _, .inl rfl, yPure_after h⟩
   | true => exact ⟨st.eval x, none, opZ_aop (by simp only [aop, oC, hb, if_true]), _, .inl rfl, yPure_after h⟩
  ·cases h
 case alloc e =>
  unfold yAlloc at h
  split at h
  ·rename_i cs hcs
   rw [zList_eq (zV_eq 4)] at h
   simp only [yNew, qObj_eq, qN_eq] at h
   exact ⟨_, _, opZ_aop (by simp only [aop, oC, aAlloc, hcs, Option.map_some]), _, .inl rfl, yWr_after h⟩
  ·cases h
 case box e x =>
  unfold yBox at h
  split at h
  ·cases h
  ·rename_i cs hcs
   simp only [yNew, qObj_eq, qN_eq] at h
   exact ⟨_, _, opZ_aop (by simp only [aop, oC, aBox, hcs]; rfl), _, .inl rfl, yWr_after h⟩
  ·rename_i x' hu ha
   simp only [yNew, qObj_eq, qN_eq] at h
   have hb : aBox st.o e c (st.eval x) = some (.ptr c ((st.o.get c).gen + 1) 0, some (c, ⟨(st.o.get c).gen + 1, .box e [st.eval x]⟩)) := by
    unfold aBox
    split
    ·rename_i e1; exact absurd e1 hu
    ·rw [show (st.eval x).cells = [st.eval x] from by
      unfold V.cells
      split
      ·rename_i e1; exact absurd e1 (ha _)
      ·rfl]
   exact ⟨_, _, opZ_aop (by simp only [aop, oC]; exact hb), _, .inl rfl, yWr_after h⟩
 case load t x =>
  obtain ⟨v, h1, h2⟩ := yLoad_ok h
  exact ⟨v, none, opZ_aop (by simp only [aop, oC, h1]), _, .inl rfl, yPure_after h2⟩
 case store t x y =>
  split at h
  ·rename_i s g off hx
   obtain ⟨s', ob, h1, h2⟩ := yStore_ok h
   exact ⟨_, _, opZ_aop (by simp only [aop, oC, aStoreN, hx, h1, Option.map_some]), _, .inl rfl, yWr_after h2⟩
  ·exact slow_hit h
 case binOp op t x y ty =>
  obtain ⟨v, h1, h2⟩ := yBin_ok h
  have h2 := qB_ok h2
  refine ⟨symB v, none, opZ_aop (by simp only [aop, oC, h1, Option.map_some]), _, .inr ?_, yPure_after h2⟩
  cases v <;> rfl
 case unOp op ty x =>
  unfold yOp.yUn at h
  split at h
  ·split at h
   ·rename_i b hx
    have key : yPure st c dst k (.bool (!b)) = some r := by cases b <;> exact h
    refine ⟨symB (.bool (!b)), none, opZ_aop (by simp only [aop, oC, hx, Abs.conB, aUn, Option.map_some]), _, .inr rfl, yPure_after key⟩
   ·exact slow_hit h
  ·exact slow_hit h
 case fieldAddr s x f =>
  unfold yOp.yFA2 at h
  split at h
  ·rename_i hx
   obtain ⟨v, h1, h2⟩ := yFA_ok h
   exact ⟨v, none, opZ_aop (by simp only [aop, oC, hx, h1, Option.map_some]), _, .inl rfl, yPure_after h2⟩
  ·rename_i hx
   obtain ⟨v, h1, h2⟩ := yFA_ok h
   exact ⟨v, none, opZ_aop (by simp only [aop, oC, hx, h1, Option.map_some]), _, .inl rfl, yPure_after h2⟩
  ·exact slow_hit h
 case indexAddr t x ix =>
  rcases yIA_ok h with h | ⟨v, h1, h2⟩
  ·exact slow_hit h
  ·exact ⟨v, none, opZ_aop (by simp only [aop, oC, h1, Option.map_some]), _, .inl rfl, yPure_after h2⟩
 case extract x i =>
  obtain ⟨v, h1, h2⟩ := yExt_ok h
  have h2 := qB_ok h2
  exact ⟨v, none, opZ_aop (by simp only [aop, oC, h1, Option.map_some]), _, .inr rfl, yPure_after h2⟩
 case typeAssert x t asserted ok =>
  rcases yTA_ok h with h | ⟨v, h1, h2⟩
  ·exact slow_hit h
  ·exact ⟨v, none, opZ_aop (by simp only [aop, oC, h1, Option.map_some]), _, .inl rfl, yPure_after h2⟩
 case convert src d x =>
  rcases yConv_ok (T := st.o) (d := c) h with h | ⟨v, h1, h2⟩
  ·exact slow_hit h
  ·exact ⟨v, none, opZ_aop (by simp only [aop, oC, h1]), _, .inl rfl, yPure_after h2⟩
 case nilCheck x =>
  unfold yOp.yNC at h
  split at h
  ·rename_i hx
   exact ⟨_, none, opZ_aop (by simp only [aop, oC, hx]), _, .inl rfl, yPure_after h⟩
  ·rename_i hx
   exact ⟨_, none, opZ_aop (by simp only [aop, oC, hx]), _, .inl rfl, yPure_after h⟩
  ·exact slow_hit h
 case call cl =>
  obtain ⟨callee, args, ats⟩ := cl
  unfold yOp.yBi at h
  simp only at h
  split at h
  ·rename_i b
   split at h
   ·split at h
    ·rename_i x hxs
     split at h
     ·rename_i t hts
      rw [qEval_eq] at h
      rcases yLen_ok (T := st.o) h with h | ⟨v, h1, h2⟩
      ·exact slow_hit h
      ·exact ⟨v, none, opZ_aop (by simp only [aop, oC, hxs, hts, h1, Option.map_some]), _, .inl rfl, yPure_after h2⟩
     ·cases h
    ·cases h
   ·exact slow_hit h
  ·cases h
end
end
end Go.Abs
namespace Go.Abs
open Go.RowKit
set_option linter.unusedVariables false
set_option linter.unusedSimpArgs false
noncomputable section
theorem pureL_mem : ∀ {l : List V}, pureL l = true → ∀ v ∈ l, v.pure = true
 | [], _, v, hv => by cases hv
 | x :: l, h, v, hv => by
  simp only [pureL, Bool.and_eq_true] at h
  rcases List.mem_cons.1 hv with rfl | hv
  ·exact h.1
  ·exact pureL_mem h.2 v hv
theorem view_pure {n : Nat} {T : Tab} {v : V} (h : v.pure = true) : view (n + 1) T v = some (v, []) := by
 unfold view; rw [if_pos h]
theorem viewA1_pure {n : Nat} {T : Tab} {bs : List Nat} {v : V} (h : v.pure = true) : viewA1 (n + 1) T bs v = some (v, [], bs) := by
 unfold viewA1
 split
 ·cases h
 ·rw [view_pure h]
theorem viewL_pure {n : Nat} {T : Tab} {bs : List Nat} : ∀ {l : List V}, pureL l = true → viewL (viewA1 (n + 1) T) bs l = some (l, [], bs)
 | [], _ => rfl
 | v :: l, h => by
  simp only [pureL, Bool.and_eq_true] at h
  simp only [viewL, viewA1_pure h.1, viewL_pure h.2, List.nil_append]
theorem viewA_pure {n : Nat} {T : Tab} {bs : List Nat} {v : V} (h : v.pure = true) : viewA (n + 1) T bs v = some (v, [], bs) := by
 unfold viewA
 split
 ·rename_i f cs
  simp only [V.pure] at h
  rw [viewL_pure h]
 ·exact viewA1_pure h
theorem viewArgs_pure {n : Nat} {T : Tab} : ∀ {l : List V} {i : Nat}, pureL l = true → viewArgs (n + 1) T [] i [] l = some (l, [], [])
 | [], _, _ => rfl
 | v :: l, i, h => by
  simp only [pureL, Bool.and_eq_true] at h
  simp only [viewArgs, List.contains_nil, Bool.false_eq_true, if_false, viewA_pure h.1, viewArgs_pure (i := i + 1) h.2, List.nil_append]
theorem ren1_pure {T : Tab} {bs : List Nat} {d nf : Nat} {v : V} (h : v.pure = true) : ren1 T bs d nf v = some v := by
 unfold ren1
 split
 ·cases h
 ·cases h
 ·cases h
 ·rw [if_pos h]
theorem renL_pure {T : Tab} {bs : List Nat} {d nf : Nat} : ∀ {l : List V}, pureL l = true → renL T bs d nf l = some l
 | [], _ => rfl
 | v :: l, h => by
  simp only [pureL, Bool.and_eq_true] at h
  simp only [renL, ren1_pure h.1, renL_pure h.2]
theorem ren_pure {T : Tab} {bs : List Nat} {d nf : Nat} {v : V} (h : v.pure = true) : ren T bs d nf v = some v := by
 unfold ren
 split
 ·simp only [V.pure] at h
  rw [renL_pure h]; rfl
 ·exact ren1_pure h
def noL : Lend := fun _ => []
theorem aCall2_args {Γ : Orc} {T : Tab} {f d : Nat} {xs : List V} (h : pureL xs = true) : aCall2 Γ noL T f xs d = match Γ f xs [] with
  | some (res, lb', lf) => fin2 T [] [] d res lb' lf
  | none => none := by
 have e1 : viewArgs depth T (noL f) 0 [] xs = some (xs, [], []) := viewArgs_pure (n := 7) h
 unfold aCall2
 rw [e1]
 simp only [boxes2]
 rw [if_pos ⟨List.nodup_nil, by simp⟩]
 cases Γ f xs [] <;> rfl
theorem fin2_pure {T : Tab} {d : Nat} {res : V} (h : res.pure = true) : fin2 T [] [] d res [] [] = some (res, T) := by
 unfold fin2
 rw [if_pos ⟨by simp, by simp, by simp [lens2]⟩]
 have e : (if flatAll res [] [] = true then T else T.freezes []) = T := by split <;> rfl
 rw [e]
 simp only [revive2, fresh2, List.length_nil]
 rw [ren_pure h]; rfl
end
end Go.Abs
