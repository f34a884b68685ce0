/- More operations on rows of which all is known: cut to a bound, cleared, written over at their ends. -/
import Derived.Test.YtiaoojocpcldmaaGreatExtX
namespace Go.Abs
open Go.RowKit
set_option linter.unusedVariables false
set_option linter.unusedSimpArgs false
section
variable {κ : Cx} {ι : Nat → Nat} {st : St} {a : Act} {w : World}
/-! A row's window cleared. -/
def aClear (P : Program) (T : Tab) (t : Nat) (x : V) : Option Wr :=
  match P.underlying t with
  | some (.slice e) => match zeroC P e, P.info? e with
    | some zs, some i => match x with
      | .own s g off n => if (T.get s).gen = g then (match (T.get s).k with
        | .row ty sz false cs => if n = 0 then some none else
            if sz = zs.length ∧ zs.all V.cellOk = true ∧ (off + n) * sz ≤ cs.length then some (some (s, ⟨g, .row ty sz false (splice cs (off * sz) (repl zs n))⟩)) else none
        | _ => none) else none
      | _ => none
    | _, _ => none
  | _ => none
theorem aClear_ok (h : RelI κ ι st a w) {t ty : Nat} {x : V} {cx : Value} {wr : Wr} {ts : Array TypeId} (hts : ts[0]? = some t) (hr : Rv st.o ι (Stable κ.D st.o ι w) w x cx) (hx : aClear κ.P st.o t x = some wr) :
    SemOk κ ι st.o w (Builtin.clear_ ts ty #[cx]) (.tup []) wr := by
  unfold aClear at hx
  split at hx
  case h_2 => cases hx
  rename_i e ht
  split at hx
  case h_2 => cases hx
  rename_i zs i hz hi
  split at hx
  case h_2 => cases hx
  rename_i s g off n
  split at hx
  case isFalse => cases hx
  rename_i hg
  split at hx
  case h_2 => cases hx
  rename_i ty1 sz cs hk
  have hT : st.o.get s = ⟨g, .row ty1 sz false cs⟩ := by cases hTs : st.o.get s; rw [hTs] at hk hg; simp at hk hg; subst hk hg; rfl
  obtain ⟨ad, c, cap, arr, ty2, fz, rfl, hbk, hmem, has, hn, hcap, hpl⟩ := hr.own_ hT
  have htup : ∀ {T' : Tab} {ι' : Nat → Nat} {S' : Addr → Prop} {w' : World}, Rv T' ι' S' w' (.tup []) (.tuple #[]) := .pure (.tup (vs := []) rfl (by simp))
  split at hx
  · rename_i hn0
    injection hx with hx; subst hx hn0
    refine SemOk.same h (cv := .tuple #[]) ?_ htup
    simp only [Builtin.clear_, hts]
    simp [run_underlying ht]
  · rename_i hn0
    split at hx
    case isFalse => cases hx
    rename_i hc
    obtain ⟨hsz, hall, hle⟩ := hc
    injection hx with hx; subst hx
    obtain ⟨z, i', hi', hzz, hzs, hrun, hlr⟩ := zeroC_ok hz
    rw [hi] at hi'; injection hi' with hi'; subst hi'
    have hzl : zs.length = i.size := by rw [← hzs]; simpa using (hlr (S := fun _ => False) (w := w)).1
    have hmade := (hlr (S := Stable κ.D st.o ι w) (w := w)).made (n * i.size) n (by rw [hzs])
    have hzc : (Builtin.zeroCells z.cells n).toList = (madeCells z.cells (n * i.size)).toList := by rw [← hzs]; exact zeroCells_made _ _
    have hrl : (repl zs n).length = n * i.size := by simp [repl, hzl]
    have hnews : LR (Rv st.o ι (Stable κ.D st.o ι w) w) (repl zs n) (Builtin.zeroCells z.cells n).toList := by rw [hzc]; exact hmade.mono fun _ _ => .pure
    have hone : ∀ u ∈ (Builtin.zeroCells z.cells n).toList, u.oneCell' = true := by
      intro u hu
      obtain ⟨j, hj⟩ := List.mem_iff_getElem?.1 hu
      have hjl : j < (repl zs n).length := by rw [hnews.1]; exact (List.getElem?_eq_some_iff.1 hj).1
      have hd := List.getElem?_eq_getElem hjl
      refine cell_one ?_ (hnews.2 j _ u hd hj)
      have hm : (repl zs n)[j] ∈ repl zs n := List.getElem_mem hjl
      simp only [repl, List.mem_flatten, List.mem_replicate] at hm
      obtain ⟨l, ⟨_, rfl⟩, hm⟩ := hm
      exact List.all_eq_true.1 hall _ hm
    have hmul : (off + n) * sz = off * sz + n * sz := Nat.add_mul _ _ _
    obtain ⟨A, hA1, hA2, hA3, hA4⟩ := ownPut h hT hmem (q := off * sz) hnews hone (by rw [hrl, ← hzl, ← hsz]; omega)
    have := hpl (by omega); subst this
    refine ⟨.tuple #[], _, ι, ?_, hA4, htup⟩
    simp only [Builtin.clear_, hts]
    obtain ⟨n', rfl⟩ : ∃ n', n = n' + 1 := ⟨n - 1, by omega⟩
    simp [run_underlying ht, hrun, hA3]

/-! A cut to a bound, of which nothing is looked at. -/
def aCut3 (P : Program) (T : Tab) (t : Nat) (x lo hi mx : V) : Bool :=
  match P.underlying t with
  | some (.slice e) => match P.info? e, lo, hi, mx with
    | some _, .int _ l, .int _ h, .int _ m => match x with
      | .own s g _ n => decide (0 ≤ l) && decide (l ≤ h) && decide (h ≤ m) && decide (m ≤ (n : Int)) && (decide ((T.get s).gen = g) && (match (T.get s).k with | .row _ _ _ _ => true | _ => false))
      | .sl n _ => decide (0 ≤ l) && decide (l ≤ h) && decide (h ≤ m) && decide (m ≤ (n : Int))
      | _ => false
    | _, _, _, _ => false
  | _ => false
theorem aCut3_ok (h : RelI κ ι st a w) {t : Nat} {x lo hi mx : V} {cx clo chi cmx : Value} (hr : Rv st.o ι (Stable κ.D st.o ι w) w x cx) (hlo : Rv st.o ι (Stable κ.D st.o ι w) w lo clo) (hhi : Rv st.o ι (Stable κ.D st.o ι w) w hi chi) (hmx : Rv st.o ι (Stable κ.D st.o ι w) w mx cmx)
    (hx : aCut3 κ.P st.o t x lo hi mx = true) : SemOk κ ι st.o w (Instr.sliceAt t cx (some clo) (some chi) (some cmx)) .undef none := by
  unfold aCut3 at hx
  split at hx
  case h_2 => cases hx
  rename_i e ht
  split at hx
  case h_2 => cases hx
  rename_i i k1 l k2 hh k3 m hi
  have e1 := hlo.int_; have e2 := hhi.int_; have e3 := hmx.int_
  subst e1 e2 e3
  have fin : ∀ (p : Option Addr) (n c : Nat), n ≤ c → 0 ≤ l → l ≤ hh → hh ≤ m → m ≤ (n : Int) → SemOk κ ι st.o w (Instr.sliceAt t (.slice p n c) (some (.int k1 l)) (some (.int k2 hh)) (some (.int k3 m))) .undef none := by
    intro p n c hnc h1 h2 h3 h4
    have b1 := sliceBound_ok (w := w) (P := κ.P) k3 m c .slice3Acap (by omega) (by omega)
    have b2 := sliceBound_ok (w := w) (P := κ.P) k2 hh m.toNat .slice3B (by omega) (by omega)
    have b3 := sliceBound_ok (w := w) (P := κ.P) k1 l hh.toNat .slice3C (by omega) (by omega)
    refine SemOk.same h (cv := .slice (if m.toNat = l.toNat then p else p.map (·.add (l.toNat * i.size))) (hh.toNat - l.toNat) (m.toNat - l.toNat)) ?_ (.undef _)
    simp [Instr.sliceAt, Instr.slice, run_underlying ht, Instr.sliceBounds, b1, b2, b3, run_size hi]
  split at hx
  · rename_i s g off n
    simp only [Bool.and_eq_true, decide_eq_true_eq] at hx
    obtain ⟨⟨⟨⟨h1, h2⟩, h3⟩, h4⟩, hg, hk⟩ := hx
    have hcx : ∃ p c, cx = .slice p n c ∧ n ≤ c := by
      split at hk
      · rename_i ty sz fz0 cs hks
        have hT : st.o.get s = ⟨g, .row ty sz fz0 cs⟩ := by cases hTs : st.o.get s; rw [hTs] at hks hg; simp at hks hg; subst hks hg; rfl
        obtain ⟨ad, c, cap, arr, ty2, fz, rfl, hbk, hmem, has, hn, hcap, hpl⟩ := hr.own_ hT
        exact ⟨_, c, rfl, by omega⟩
      · cases hk
    obtain ⟨p, c, rfl, hnc⟩ := hcx
    exact fin p n c hnc h1 h2 h3 h4
  · rename_i n cs
    simp only [Bool.and_eq_true, decide_eq_true_eq] at hx
    obtain ⟨⟨⟨h1, h2⟩, h3⟩, h4⟩ := hx
    rcases hr.sl_ with ⟨rfl, rfl, rfl⟩ | ⟨ad, c, vs, rfl, hnc, _⟩
    · exact fin none 0 0 (by omega) h1 h2 h3 h4
    · exact fin (some ad) n c hnc h1 h2 h3 h4
  · cases hx

/-! A window of a row, as far as its cells are known. -/
def aSliceX (P : Program) (T : Tab) (t : Nat) (x : V) (lo hi : Option V) : Option V :=
  match P.underlying t with
  | some (.slice e) => match P.info? e with
    | some i => match x with
      | .own s g off n => match aBnd lo 0, aBnd hi n with
        | some l, some h => if l ≤ h ∧ (T.get s).gen = g then (match (T.get s).k with
          | .row _ sz _ cs => if sz = i.size ∧ 0 < sz ∧ (off + h) * sz ≤ cs.length then some (.own s g (off + l) (h - l)) else none
          | _ => none) else none
        | _, _ => none
      | _ => none
    | none => none
  | _ => none
theorem aSliceX_ok (h : RelI κ ι st a w) {t : Nat} {x v : V} {cx : Value} {lo hi : Option V} {clo chi : Option Value} (hr : Rv st.o ι (Stable κ.D st.o ι w) w x cx)
    (hlo : RO st.o ι (Stable κ.D st.o ι w) w lo clo) (hhi : RO st.o ι (Stable κ.D st.o ι w) w hi chi) (hx : aSliceX κ.P st.o t x lo hi = some v) :
    SemOk κ ι st.o w (Instr.sliceAt t cx clo chi none) v none := by
  unfold aSliceX at hx
  split at hx
  case h_2 => cases hx
  rename_i e ht
  split at hx
  case h_2 => cases hx
  rename_i i hi
  split at hx
  case h_2 => cases hx
  rename_i s g off n
  split at hx
  case h_2 => cases hx
  rename_i l hh e1 e2
  split at hx
  case isFalse => cases hx
  rename_i hc
  obtain ⟨hlh, hg⟩ := hc
  split at hx
  case h_2 => cases hx
  rename_i ty sz fz0 cs hk
  split at hx
  case isFalse => cases hx
  rename_i hc2
  obtain ⟨hsz, h0, hle⟩ := hc2
  injection hx with hx; subst hx
  have hT : st.o.get s = ⟨g, .row ty sz fz0 cs⟩ := by cases hTs : st.o.get s; rw [hTs] at hk hg; simp at hk hg; subst hk hg; rfl
  obtain ⟨ad, c, cap, arr, ty1, fz, rfl, hb, hmem, has, hn, hcap, hpl⟩ := hr.own_ hT
  have hob := h.tr.ob s
  rw [hT] at hob
  obtain ⟨arr2, fz2, cap2, hh2, _, _, _, hle2, _⟩ := hob
  rw [hmem] at hh2
  injection hh2 with hh2; injection hh2 with q1 q2 q3; subst q1
  have hfit : off + hh ≤ cap := Nat.le_of_mul_le_mul_right (by rw [← has]; omega) h0
  have hb2 := sliceBounds_ok (P := κ.P) hlo hhi true n c l hh e1 e2 hlh (by omega)
  refine SemOk.same h (cv := .slice (some (if c = l then ad else ad.add (l * i.size))) (hh - l) (c - l)) ?_ ?_
  · simp only [Instr.sliceAt, Instr.slice, Sem.run_bind, run_underlying ht, Result.andThen_ok, hb2, run_size hi]
    by_cases hcl : c = l <;> simp [hcl]
  · refine .own ⟨_, _, rfl⟩ (by rw [hT]; exact Nat.le_refl _) fun ty' sz' fz' cs' e => ?_
    rw [hT] at e
    simp at e
    obtain ⟨rfl, rfl, rfl, rfl⟩ := e
    refine ⟨_, c - l, cap, arr, ty1, fz, rfl, ?_, hmem, has, by omega, by omega, fun hne => ?_⟩
    · split
      · exact hb
      · rw [block_add]; exact hb
    · rw [if_neg (by omega)]
      have := hpl (by omega); subst this
      subst hsz
      unfold Addr.add
      split
      · rename_i e0; rw [Nat.add_mul, e0]; rfl
      · rw [Nat.add_mul]

/-- Those operations. -/
def aopC (P : Program) (st : St) (o : Oper) : Option (V × Wr) := match o.op with
  | .convert src dst x => cvSame P st.o src dst (st.eval x)
  | .slice t x (some lo) (some hi) (some mx) => if aCut3 P st.o t (st.eval x) (st.eval lo) (st.eval hi) (st.eval mx) = true then some (.undef, none) else none
  | .slice t x lo hi none => (aSliceX P st.o t (st.eval x) (lo.map st.eval) (hi.map st.eval)).map fun v => (v, none)
  | .call ⟨.builtin .clear, args, ats⟩ => match args.toList, ats.toList with
    | [x], [t] => (aClear P st.o t (st.eval x)).map fun wr => (.tup [], wr)
    | _, _ => none
  | _ => none
theorem aopC_ok (h : RelI κ ι st a w) {o : Oper} {v : V} {wr : Wr} (hx : aopC κ.P st o = some (v, wr)) : OpRes κ ι st.o a w o v (wrT st.o wr) := by
  obtain ⟨dst, op, type, pos, after, guard⟩ := o
  unfold aopC at hx
  split at hx
  · rename_i src d x ho
    simp only at ho; subst ho
    exact OpRes.of rfl (cvSame_ok h (h.eval x) hx)
  · rename_i t x lo hi mx ho
    simp only at ho; subst ho
    split at hx
    · rename_i hc
      simp only [Option.some.injEq, Prod.mk.injEq] at hx
      obtain ⟨rfl, rfl⟩ := hx
      exact OpRes.of rfl (aCut3_ok h (h.eval x) (h.eval lo) (h.eval hi) (h.eval mx) hc)
    · cases hx
  · rename_i t x lo hi ho
    simp only at ho; subst ho
    cases hs : aSliceX κ.P st.o t (st.eval x) (lo.map st.eval) (hi.map st.eval) with
    | none => rw [hs] at hx; cases hx
    | some v' =>
      rw [hs] at hx
      simp only [Option.map_some, Option.some.injEq, Prod.mk.injEq] at hx
      obtain ⟨rfl, rfl⟩ := hx
      have ro : ∀ o : Option Operand, RO st.o ι (Stable κ.D st.o ι w) w (o.map st.eval) (o.map a.eval) := fun o => by
        cases o with
        | none => trivial
        | some y => exact h.eval y
      exact OpRes.of rfl (aSliceX_ok h (h.eval x) (ro lo) (ro hi) hs)
  · rename_i args ats ho
    simp only at ho; subst ho
    split at hx
    · rename_i x t ea et
      obtain ⟨l1⟩ := args; obtain ⟨l2⟩ := ats
      simp at ea et; subst ea et
      cases hs : aClear κ.P st.o t (st.eval x) with
      | none => rw [hs] at hx; cases hx
      | some wr' =>
        rw [hs] at hx
        simp only [Option.map_some, Option.some.injEq, Prod.mk.injEq] at hx
        obtain ⟨rfl, rfl⟩ := hx
        refine OpRes.of (s := Builtin.clear_ #[t] type #[a.eval x]) ?_ (aClear_ok h rfl (h.eval x) hs)
        simp [execOp, resolve, invoke, builtin]
    · cases hx
  · cases hx
end
end Go.Abs
