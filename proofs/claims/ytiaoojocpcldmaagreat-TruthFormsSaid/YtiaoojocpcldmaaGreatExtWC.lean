/- Slices of length and capacity 0: made, appended to; what a copy of an empty one comes to. -/
import Derived.Test.YtiaoojocpcldmaaGreatExtWB
namespace Go.Abs
open Go.RowKit
set_option linter.unusedVariables false
set_option linter.unusedSimpArgs false
section
variable {κ : Cx} {ι : Nat → Nat} {st : St} {a : Act} {w : World}
def aAppSz (P : Program) (T : Tab) (t tx : Nat) (s x : V) (d : Nat) : Option (V × Wr) :=
  match s with
  | .sz => match P.underlying t, P.underlying tx with
    | some (.slice e), some dx => match zeroC P e, P.info? e with
      | some zs, some i => match aSrc T i.size x with
        | some (m, xs) =>
          if isSrcD dx = true ∧ 0 < i.size ∧ 0 < i.bytes ∧ xs.all V.cellOk = true then
            if m = 0 then some (.sz, none) else
              if m * i.bytes ≤ 140737488355328 then some (.own d ((T.get d).gen + 1) 0 m, some (d, ⟨(T.get d).gen + 1, .row e i.size false xs⟩)) else none
          else none
        | none => none
      | _, _ => none
    | _, _ => none
  | _ => none
theorem aAppSz_ok (h : RelI κ ι st a w) {t tx ty d : Nat} {s x v : V} {cs cx : Value} {wr : Wr} (hs : Rv st.o ι (Stable κ.D st.o ι w) w s cs) (hr : Rv st.o ι (Stable κ.D st.o ι w) w x cx)
    (hx : aAppSz κ.P st.o t tx s x d = some (v, wr)) : SemOk κ ι st.o w (Builtin.append_ #[t, tx] ty #[cs, cx]) v wr := by
  unfold aAppSz at hx
  split at hx
  case h_2 => cases hx
  split at hx
  case h_2 => cases hx
  rename_i e dx ht htx
  split at hx
  case h_2 => cases hx
  rename_i zs i hz hi
  obtain ⟨z, i', hi', hzz, hsz, hrun, hlr⟩ := zeroC_ok hz
  rw [hi] at hi'; injection hi' with hi'; subst hi'
  split at hx
  case h_2 => cases hx
  rename_i m xs hsrc
  obtain ⟨hlen, hxl, news, hnews, hfirst⟩ := aSrc_ok h hr hsrc
  have hnl : news.length = m * i.size := by rw [← hnews.1]; exact hxl
  have hfirst' : ∀ w', w'.heap = w.heap → (Builtin.firstCells i.size m cx).run κ.P w' = .ok news.toArray w' := fun w' hw' => by
    rw [hfirst m w' (Nat.le_refl _) hw', ← hnl, List.take_length]
  split at hx
  case isFalse => cases hx
  rename_i hc
  obtain ⟨hdx, h0, hb0, hall⟩ := hc
  have gen := fun base n cap => run_append_gen (w := w) (P := κ.P) (ty := ty) ht hi htx hdx (base := base) (n := n) (cap := cap) hlen hfirst'
  obtain ⟨p, rfl⟩ := hs.sz_
  split at hx
  · rename_i hm
    simp only [Option.some.injEq, Prod.mk.injEq] at hx
    obtain ⟨rfl, rfl⟩ := hx
    subst hm
    have hnil : news = [] := List.eq_nil_of_length_eq_zero (by rw [hnl]; simp)
    subst hnil
    have hrun := (gen p 0 0).1 (by omega)
    cases p with
    | none => exact SemOk.same h hrun (.pure .sz)
    | some ad =>
      simp [storeCells] at hrun
      exact SemOk.same h hrun (.pure .sz)
  · rename_i hm
    split at hx
    case isFalse => cases hx
    rename_i hb
    simp only [Option.some.injEq, Prod.mk.injEq] at hx
    obtain ⟨rfl, rfl⟩ := hx
    have hrun := (gen p 0 0).2 z #[] (by omega) hzz hb0 (by simpa using hb) (fun w' _ => by
      cases p with
      | none => simp [Builtin.firstCells]
      | some ad => simpa using run_firstCells_some (P := κ.P) w' i.size 0 ad 0 0 [] (by simp) (fun j v hv => by simp at hv))
    obtain ⟨hto, hv⟩ := grow_new h (s := d) (e := e) (n := 0) (m := m) (i := i) (z := z) 0 false [] news xs hsz h0 (by simp) hnl (by simpa using hnews)
    simp only [Nat.zero_add] at hrun hto hv
    exact ⟨_, _, _, hrun, hto, hv⟩
def aSliceSz (P : Program) (t : Nat) (x : V) (lo hi : Option V) : Option V := match x with
  | .sz => match P.underlying t with
    | some (.slice e) => match P.info? e with
      | some i => match aBnd lo 0, aBnd hi 0 with
        | some l, some h => if l = 0 ∧ h = 0 then some .sz else none
        | _, _ => none
      | none => none
    | _ => none
  | _ => none
theorem aSliceSz_ok (h : RelI κ ι st a w) {t : Nat} {x v : V} {cx : Value} {lo hi : Option V} {clo chi : Option Value} (hr : Rv st.o ι (Stable κ.D st.o ι w) w x cx)
    (hlo : RO st.o ι (Stable κ.D st.o ι w) w lo clo) (hhi : RO st.o ι (Stable κ.D st.o ι w) w hi chi) (hx : aSliceSz κ.P t x lo hi = some v) :
    SemOk κ ι st.o w (Instr.sliceAt t cx clo chi none) v none := by
  unfold aSliceSz at hx
  split at hx
  case h_2 => cases hx
  split at hx
  case h_2 => cases hx
  rename_i e ht
  split at hx
  case h_2 => cases hx
  rename_i i hi
  split at hx
  case h_2 => cases hx
  rename_i l hh e1 e2
  split at hx
  case isFalse => cases hx
  rename_i hc
  obtain ⟨rfl, rfl⟩ := hc
  injection hx with hx; subst hx
  have : ∃ p, cx = .slice p 0 0 := by
    cases hr with
    | pure h => cases h; exact ⟨_, rfl⟩
  obtain ⟨p, rfl⟩ := this
  have hb2 := sliceBounds_ok (P := κ.P) hlo hhi true 0 0 0 0 e1 e2 (by omega) (by omega)
  refine SemOk.same h (cv := .slice p 0 0) ?_ (.pure .sz)
  cases p <;> simp [Instr.sliceAt, Instr.slice, run_underlying ht, hb2, run_size hi]
def aop0 (P : Program) (st : St) (o : Oper) : Option (V × Wr) := match o.op with
  | .buildSlice t n ps => match n with
    | 0 => match ps.toList with
      | [] => match o.dst with
        | some d => bsZero P st.o t d
        | none => none
      | _ => none
    | _ => none
  | .call ⟨.builtin .append, args, ats⟩ => match args.toList, ats.toList, o.dst with
    | [s, x], [t, tx], some d => aAppSz P st.o t tx (st.eval s) (unNl (st.eval x)) d
    | _, _, _ => none
  | .slice t x lo hi none => (aSliceSz P t (st.eval x) (lo.map st.eval) (hi.map st.eval)).map fun v => (v, none)
  | _ => none
theorem aop0_ok (h : RelI κ ι st a w) {o : Oper} {v : V} {wr : Wr} (hx : aop0 κ.P st o = some (v, wr)) : OpRes κ ι st.o a w o v (wrT st.o wr) := by
  obtain ⟨dst, op, type, pos, after, guard⟩ := o
  unfold aop0 at hx
  split at hx
  · rename_i t n ps ho
    simp only at ho; subst ho
    split at hx
    · split at hx
      · rename_i hps
        obtain ⟨l⟩ := ps
        simp at hps; subst hps
        split at hx
        · refine OpRes.of (s := Instr.buildSlice t 0 #[]) ?_ (bsZero_ok h hx)
          simp [execOp]
        · cases hx
      · cases hx
    · cases hx
  · rename_i args ats ho
    simp only at ho; subst ho
    split at hx
    · rename_i s x t tx d ea et ed
      obtain ⟨l1⟩ := args; obtain ⟨l2⟩ := ats
      simp at ea et; subst ea et
      refine OpRes.of (s := Builtin.append_ #[t, tx] type #[a.eval s, a.eval x]) ?_ (aAppSz_ok h (h.eval s) (h.eval x).unNl hx)
      simp [execOp, resolve, invoke, builtin]
    · cases hx
  · rename_i t x lo hi ho
    simp only at ho; subst ho
    cases hs : aSliceSz κ.P t (st.eval x) (lo.map st.eval) (hi.map st.eval) with
    | none => rw [hs] at hx; cases hx
    | some v' =>
      rw [hs] at hx
      simp only [Option.map_some, Option.some.injEq, Prod.mk.injEq] at hx
      obtain ⟨rfl, rfl⟩ := hx
      have ro : ∀ o : Option Operand, RO st.o ι (Stable κ.D st.o ι w) w (o.map st.eval) (o.map a.eval) := fun o => by
        cases o with
        | none => trivial
        | some y => exact h.eval y
      exact OpRes.of rfl (aSliceSz_ok h (h.eval x) (ro lo) (ro hi) hs)
  · cases hx
end

/-! A copy of an empty one. -/
def isE (v : V) : Bool := match v with
  | .sl n cs => match n with
    | 0 => match cs with
      | [] => true
      | _ => false
    | _ => false
  | .sz => true
  | _ => false
theorem cloneE {P : Program} {f : FuncId} {e : Ty} (h1 : Spec2 P f [.snil] [] .snil [] []) (h2 : Spec2 P f [.nl ⟨e, []⟩] [] .sz [] []) {y : V} (hy : isE y = true) : Spec2 P f [y] [] .sz [] [] := by
  intro w cargs β S htr hargs
  have hu : ∃ u, cargs.toList = [u] ∧ Rv (tabU [] []) β (Stable S (tabU [] []) β w) w y u := by
    obtain ⟨u, us, e1, e2, e3⟩ := hargs.head
    have : us = [] := List.eq_nil_of_length_eq_zero e3.1.symm
    exact ⟨u, by rw [e1, this], e2⟩
  obtain ⟨u, hcu, hv⟩ := hu
  have hcase : u = .slice none 0 0 ∨ ∃ ad c, u = .slice (some ad) 0 c := by
    unfold isE at hy
    split at hy
    · split at hy
      · split at hy
        · rcases hv.sl_ with ⟨_, _, rfl⟩ | ⟨ad, c, vs, rfl, _⟩
          · exact .inl rfl
          · exact .inr ⟨ad, c, rfl⟩
        · cases hy
      · cases hy
    · obtain ⟨p, rfl⟩ := hv.sz_
      cases p with
      | none => exact .inl rfl
      | some ad => exact .inr ⟨ad, 0, rfl⟩
    · cases hy
  rcases hcase with rfl | ⟨ad, c, rfl⟩
  · refine (h1 w cargs β S htr (by rw [hcu]; exact .cons (.pure .snil) .nil)).mono fun e w' => ?_
    rintro ⟨v, β', rfl, hk, htr', hv', hl, hb1, hb2⟩
    refine ⟨v, β', rfl, hk, htr', ?_, hl, hb1, hb2⟩
    rw [hv'.snil_]; exact .pure .sz
  · have hnl : Rv (tabU [] []) β (Stable S (tabU [] []) β w) w (.nl ⟨e, []⟩) (.slice (some ad) 0 c) :=
      .pure (.nl (.lst (.sl (vs := []) (Nat.zero_le _) (by simp) rfl (by simp [TL.cells]))))
    exact h2 w cargs β S htr (by rw [hcu]; exact .cons hnl .nil)
/-- Copies of empty ones, by two runs. -/
noncomputable def addC (f : Nat) (Ξ : Orc) : Orc := fun g ys lb => match lb with
  | [] => match ys with
    | [y] => Bool.rec (motive := fun _ => Option (V × List OK × List OK)) (Ξ g [y] []) (Bool.rec (motive := fun _ => Option (V × List OK × List OK)) (Ξ g [y] []) (some (.sz, [], [])) (isE y)) (Nat.beq g f)
    | ys => Ξ g ys []
  | lb => Ξ g ys lb
def isA (r : Option (V × List OK × List OK)) : Bool := match r with
  | some (.snil, [], []) => true
  | _ => false
def isB (r : Option (V × List OK × List OK)) : Bool := match r with
  | some (.sz, [], []) => true
  | _ => false
theorem addC_ok {P : Program} {Ξ Γ : Orc} {f : Nat} {e : Ty} (hΞ : GammaOk2 P Ξ) (hΓ : GammaOk2 P Γ) (hA : isA (Γ f [.snil] []) = true) (hB : isB (Γ f [.nl ⟨e, []⟩] []) = true) : GammaOk2 P (addC f Ξ) := by
  intro g ys lb res lb' lf hx
  unfold addC at hx
  split at hx
  · split at hx
    · rename_i y
      cases h1 : Nat.beq g f with
      | false => rw [h1] at hx; exact hΞ _ _ _ _ _ _ hx
      | true =>
        rw [h1] at hx
        cases h2 : isE y with
        | false => rw [h2] at hx; exact hΞ _ _ _ _ _ _ hx
        | true =>
          rw [h2] at hx
          have e1 := Nat.eq_of_beq_eq_true h1
          subst e1
          have hx : some (V.sz, ([] : List OK), ([] : List OK)) = some (res, lb', lf) := hx
          injection hx with hx; injection hx with e1 hx; injection hx with e2 e3
          subst e1 e2 e3
          unfold isA at hA
          split at hA
          · rename_i hra
            unfold isB at hB
            split at hB
            · rename_i hrb
              obtain ⟨a1, a2⟩ := hΓ _ _ _ _ _ _ hra
              obtain ⟨b1, _⟩ := hΓ _ _ _ _ _ _ hrb
              exact ⟨cloneE a1 b1 h2, a2⟩
            · cases hB
          · cases hA
    · exact hΞ _ _ _ _ _ _ hx
  · exact hΞ _ _ _ _ _ _ hx
end Go.Abs
