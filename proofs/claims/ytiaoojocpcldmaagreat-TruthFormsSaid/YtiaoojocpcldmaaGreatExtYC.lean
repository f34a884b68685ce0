/- Calls, regions and code of the machine in few and small steps. -/
import Derived.Test.YtiaoojocpcldmaaGreatExtYR
namespace Go.Abs
open Go.RowKit
set_option linter.unusedVariables false
set_option linter.unusedSimpArgs false
noncomputable section

section
variable {β : Type _}
def qCon (v : V) (K : V → Option β) : Option β := yOp.qB v K
/-- The next site. -/
def nextC (T : Tab) (c : Nat) : Nat := List.rec (motive := fun _ => Nat) c (fun p _ ih => Bool.rec ih (Nat.succ p.1) (Nat.blt p.1 100000 && Nat.ble ih p.1)) T
def zPair {α : Sort _} (p : Nat × V) (k : Nat × V → α) : α := match p with
  | (a, v) => zN a fun a => zV 12 v fun v => k (a, v)
theorem zPair_eq {α : Sort _} (p : Nat × V) (k : Nat × V → α) : zPair p k = k p := by
  obtain ⟨a, v⟩ := p
  simp only [zPair, zN_eq, zV_eq]
/-- A call, its result brought home. -/
def yHome (st : St) (c : Nat) (d : Option Nat) (k : YK β) (v : V) (T : Tab) : Option β :=
  zV 12 (conB v) fun v => zTab T fun T => qN (Nat.succ c) fun c => St.rec (motive := fun _ => Option β) (fun n t o g => yPure ⟨n, t, T, g⟩ c d k v) st
def yCallP (Γ : Orc) (st : St) (c : Nat) (d : Option Nat) (g : Nat) (xs : List V) (k : YK β) : Option β :=
  match Γ g xs [] with
  | some (res, lb', lf) => match lb' with
    | [] => match lf with
      | [] => Bool.rec (motive := fun _ => Option β) (yFin st c d res [] [] k) (qCon res (yPure st c d k)) (qPure res)
      | lf => yFin st c d res [] lf k
    | lb' => yFin st c d res lb' lf k
  | none => none
where
  yFin (st : St) (c : Nat) (d : Option Nat) (res : V) (lb' lf : List OK) (k : YK β) : Option β := match fin2 st.o [] [] c res lb' lf with
    | some (v, T) => yHome st c d k v T
    | none => none
def yCallG (Γ : Orc) (st : St) (c : Nat) (d : Option Nat) (g : Nat) (xs : List V) (k : YK β) : Option β :=
  match aCallZ Γ noL st.o g xs c with
  | some (v, T) => yHome st c d k v T
  | none => none
def yCall1 (Γ : Orc) (In : InOrc) (inl : List Nat) (st : St) (c : Nat) (d : Option Nat) (g : Nat) (xs : List V) (k : YK β) : Option β :=
  match inl.contains g with
  | true => match callIn In st g xs d with
    | some st' => match st' with
      | ⟨n, t, o, gg⟩ => zN n fun n => zList zPair t fun t => zTab o fun o => zList (zV 12) gg fun gg => qN (nextC o c) fun c => k ⟨n, t, o, gg⟩ c
    | none => none
  | false => Bool.rec (motive := fun _ => Option β) (yCallG Γ st c d g xs k) (yCallP Γ st c d g xs k) (qPureL xs)
def yCall (Γ : Orc) (In : InOrc) (inl : List Nat) (st : St) (c : Nat) (d : Option Nat) (f : Operand) (args : List Operand) (k : YK β) : Option β :=
  qEval st f fun vf => match vf with
    | .fn g caps => qEvalL st args fun xs => match caps with
      | [] => yCall1 Γ In inl st c d g xs k
      | caps => zList (zV 4) (xs ++ caps) fun xs => yCall1 Γ In inl st c d g xs k
    | _ => none
/-- What a call shows: by contract. -/
def HitC (Γ : Orc) (st : St) (c : Nat) (d : Option Nat) (g : Nat) (xs : List V) (k : YK β) (r : β) : Prop :=
  ∃ v T, aCall2 Γ noL st.o g xs c = some (v, T) ∧ ∃ st' c', k st' c' = some r ∧ st'.n = st.n ∧ st'.g = st.g ∧ (∀ e, d = some e → e < st.n) ∧ (∀ t, st'.get t = if d = some t then conB v else st.get t) ∧ ∀ s, st'.o.get s = T.get s
theorem yHome_hit {Γ : Orc} {st : St} {c : Nat} {d : Option Nat} {g : Nat} {xs : List V} {k : YK β} {r : β} {v : V} {T : Tab} (hc : aCall2 Γ noL st.o g xs c = some (v, T)) (h : yHome st c d k v T = some r) : HitC Γ st c d g xs k r := by
  obtain ⟨n, t, o, gg⟩ := st
  simp only [yHome, zV_eq, zTab_eq, qN_eq] at h
  obtain ⟨st', c', h1, h2, h3, h4, h5, h6⟩ := yPure_after h
  exact ⟨v, T, hc, st', c', h1, h2, h3, h4, fun t => by rw [h5]; rfl, fun s => by rw [h6]; rfl⟩
theorem yCallP_hit {Γ : Orc} {st : St} {c : Nat} {d : Option Nat} {g : Nat} {xs : List V} {k : YK β} {r : β} (hp : pureL xs = true) (h : yCallP Γ st c d g xs k = some r) : HitC Γ st c d g xs k r := by
  have hfin : ∀ res lb' lf, Γ g xs [] = some (res, lb', lf) → yCallP.yFin st c d res lb' lf k = some r → HitC Γ st c d g xs k r := by
    intro res lb' lf hΓ hh
    unfold yCallP.yFin at hh
    split at hh
    · rename_i v T hf
      exact yHome_hit (by rw [aCall2_args hp, hΓ]; exact hf) hh
    · cases hh
  unfold yCallP at h
  split at h
  · rename_i res lb' lf hΓ
    split at h
    · split at h
      · cases hq : qPure res with
        | false => rw [hq] at h; exact hfin _ _ _ hΓ h
        | true =>
          rw [hq] at h
          have h := qB_ok h
          rw [qPure_eq] at hq
          obtain ⟨st', c', h1, h2, h3, h4, h5, h6⟩ := yPure_after h
          exact ⟨res, st.o, by rw [aCall2_args hp, hΓ]; exact fin2_pure hq, st', c', h1, h2, h3, h4, h5, h6⟩
      · exact hfin _ _ _ hΓ h
    · exact hfin _ _ _ hΓ h
  · cases h
theorem yCallG_hit {Γ : Orc} {st : St} {c : Nat} {d : Option Nat} {g : Nat} {xs : List V} {k : YK β} {r : β} (h : yCallG Γ st c d g xs k = some r) : HitC Γ st c d g xs k r := by
  unfold yCallG at h
  split at h
  · rename_i v T hc
    rw [aCallZ_eq] at hc
    exact yHome_hit hc h
  · cases h
theorem yCall1_hit {Γ : Orc} {In : InOrc} {inl : List Nat} {st : St} {c : Nat} {d : Option Nat} {g : Nat} {xs : List V} {k : YK β} {r : β} (h : yCall1 Γ In inl st c d g xs k = some r) :
    (∃ st' c', callIn In st g xs d = some st' ∧ k st' c' = some r) ∨ HitC Γ st c d g xs k r := by
  unfold yCall1 at h
  split at h
  · split at h
    · rename_i st' hin
      obtain ⟨n, t, o, gg⟩ := st'
      simp only [zN_eq, zList_eq zPair_eq, zTab_eq, zList_eq (zV_eq 12), qN_eq] at h
      exact .inl ⟨_, _, hin, h⟩
    · cases h
  · cases hp : qPureL xs with
    | true => rw [hp] at h; rw [qPureL_eq] at hp; exact .inr (yCallP_hit hp h)
    | false => rw [hp] at h; exact .inr (yCallG_hit h)

theorem set_some {st : St} {T : Tab} {d : Option Nat} {u : V} (hd : ∀ e, d = some e → e < st.n) : ∃ s1, ({ st with o := T } : St).set d u = some s1 ∧ s1.n = st.n ∧ s1.g = st.g ∧ (∀ t, s1.get t = if d = some t then u else st.get t) ∧ s1.o = T := by
  cases d with
  | none => exact ⟨{ st with o := T }, rfl, rfl, rfl, fun t => by simp; rfl, rfl⟩
  | some d =>
    have hlt := hd d rfl
    refine ⟨{ st with t := aput d u st.t, o := T }, by simp only [St.set]; rw [if_pos hlt], rfl, rfl, fun t => ?_, rfl⟩
    simp only [St.get, aget_aput, Option.some.injEq]

/-! A step. -/
def gdOf (opl : List Oper) (j : Nat) : Option Nat := (opl[j]?).bind (·.dst)
def stepY (Γ : Orc) (In : InOrc) (inl : List Nat) (P : Program) (opl : List Oper) (o : Oper) (st : St) (c : Nat) (k : YK β) : Option β :=
  match o.guard with
  | none => yDo Γ In inl P o st c k
  | some (j, want) => match gdOf opl j with
    | none => yPure st c o.dst k (.tup [])
    | some t => qAt .undef st.t t fun v => match v with
      | .bool b => Bool.rec (motive := fun _ => Option β) (yPure st c o.dst k (.tup [])) (yDo Γ In inl P o st c k) (b == want)
      | .tup _ => yPure st c o.dst k (.tup [])
      | _ => none
where
  yDo (Γ : Orc) (In : InOrc) (inl : List Nat) (P : Program) (o : Oper) (st : St) (c : Nat) (k : YK β) : Option β := match o.op with
    | .call cl => match cl.callee with
      | .value f => yCall Γ In inl st c o.dst f cl.args.toList k
      | _ => yOp P st c o k
    | _ => yOp P st c o k
section
variable {κ : Cx} {st : St} {a : Act} {w : World}
theorem yDo_ok {Γ : Orc} {In : InOrc} {inl : List Nat} (hΓ : GammaOk2 κ.P Γ) (hI : InOk κ.P In) (hrel : Rel κ st a w) {o : Oper} {c : Nat} {k : YK β} {r : β} (hx : stepY.yDo Γ In inl κ.P o st c k = some r) {K : Act → World → Prop} {Q : Exit → Act → World → Prop}
    (hK : ∀ st' c' a' w', k st' c' = some r → Rel κ st' a' w' → K a' w') : o.wp κ.P a w K Q := by
  obtain ⟨ι, h⟩ := hrel
  have hop : yOp κ.P st c o k = some r → o.wp κ.P a w K Q := by
    intro hh
    obtain ⟨v, wr, h1, u, hu, st', c', h2, h3, h4, h5, h6, h7⟩ := yOp_hit hh
    have hres : OpRes κ ι st.o a w (oC o c) v (wrT st.o wr) := by
      rcases h1 with h1 | h1
      · exact opZ_ok h h1
      · exact opZ0_ok h h1
    obtain ⟨cv, w', ι', hrun0, hto, hv⟩ := hres
    have hrun : (execOp a.eval o).run κ.P w = .ok (.value cv) w' ∨ ((execOp a.eval o).run κ.P w = .ok .skip w' ∧ cv = undef) := hrun0
    clear hrun0
    have hv' : Rv (wrT st.o wr) ι' (Stable κ.D (wrT st.o wr) ι' w') w' u cv := by
      rcases hu with rfl | rfl
      · exact hv
      · exact hv.conB
    obtain ⟨s1, e1, e2, e3, e4, e5⟩ := set_some (st := st) (T := wrT st.o wr) (u := u) h5
    have hr1 := h.set hto e1 hv'
    have hr2 : RelI κ ι' st' (a.put o.dst cv) w' := hr1.congr (by rw [h3, e2]) (by rw [h4, e3]) (fun t => by rw [h6, e4]) (fun s => by rw [h7, e5])
    unfold Oper.wp
    rcases hrun with hrun | ⟨hrun, rfl⟩
    · rw [hrun]; exact hK _ _ _ _ h2 ⟨ι', hr2⟩
    · rw [hrun]; exact hK _ _ _ _ h2 ⟨ι', hr2⟩
  unfold stepY.yDo at hx
  split at hx
  · rename_i cl ho
    obtain ⟨callee, args, ts⟩ := cl
    simp only at hx
    split at hx
    · rename_i f
      unfold yCall at hx
      rw [qEval_eq] at hx
      split at hx
      · rename_i g caps hf
        rw [qEvalL_eq] at hx
        have hx' : yCall1 Γ In inl st c o.dst g (args.toList.map st.eval ++ caps) k = some r := by
          split at hx
          · simpa using hx
          · rw [zList_eq (zV_eq 4)] at hx; exact hx
        rcases yCall1_hit hx' with ⟨st', c', hin, hk⟩ | ⟨v, T, hc, st', c', h2, h3, h4, h5, h6, h7⟩
        · exact callIn_ok hI h ho hf hin fun a' w' hr' => hK _ _ _ _ hk hr'
        · have hfv := h.eval f
          rw [hf] at hfv
          obtain ⟨us, hfu, hl, hh⟩ := hfv.fn_
          have hcall := hc
          unfold aCall2 at hcall
          have hent : ∃ fn, κ.P.funcs[g]? = some fn ∧ (fn.name == "runtime.NumGoroutine") = false ∧ fn.body.isNone = false := by
            split at hcall
            · split at hcall
              · split at hcall
                · split at hcall
                  · rename_i hg
                    exact (hΓ _ _ _ _ _ _ hg).2
                  · cases hcall
                · cases hcall
              · cases hcall
            · cases hcall
          obtain ⟨fn, e1, e2, e3⟩ := hent
          unfold Oper.wp
          rw [exec_call ho hfu e1 e2 e3]
          have hargs : LR (Rv st.o ι (Stable κ.D st.o ι w) w) (args.toList.map st.eval ++ caps) (args.map a.eval ++ ⟨us⟩).toList := by
            have := LR.map st.eval a.eval args.toList (R := Rv st.o ι (Stable κ.D st.o ι w) w) fun x _ => h.eval x
            simpa using this.append ⟨hl, hh⟩
          refine (aCall2_ok (fun f xs lb res lb' lf hg => (hΓ f xs lb res lb' lf hg).1) h hc hargs).mono fun e w' => ?_
          rintro ⟨cv, ι', rfl, hto, hv⟩
          obtain ⟨s1, e1, e2, e3, e4, e5⟩ := set_some (st := st) (T := T) (u := conB v) h5
          exact hK _ _ _ _ h2 ⟨ι', (h.set hto e1 hv.conB).congr (by rw [h3, e2]) (by rw [h4, e3]) (fun t => by rw [h6, e4]) (fun s => by rw [h7, e5])⟩
      · cases hx
    · exact hop hx
  · exact hop hx
theorem stepY_ok {Γ : Orc} {In : InOrc} {inl : List Nat} (hΓ : GammaOk2 κ.P Γ) (hI : InOk κ.P In) (hrel : Rel κ st a w) {ops : Array Oper} {o : Oper} {c : Nat} {k : YK β} {r : β} (hx : stepY Γ In inl κ.P ops.toList o st c k = some r) {K : Act → World → Prop} {Q : Exit → Act → World → Prop}
    (hK : ∀ st' c' a' w', k st' c' = some r → Rel κ st' a' w' → K a' w') : if Region.wanted o (yielded ops a.tmps) then o.wp κ.P a w K Q else K (a.put o.dst undef) w := by
  have hdo : aguard ops.toList st o = some true → stepY.yDo Γ In inl κ.P o st c k = some r → if Region.wanted o (yielded ops a.tmps) then o.wp κ.P a w K Q else K (a.put o.dst undef) w := by
    intro hg hh
    obtain ⟨ι, h⟩ := hrel
    rw [aguard_ok h hg]
    exact yDo_ok hΓ hI ⟨ι, h⟩ hh hK
  have hno : aguard ops.toList st o = some false → yPure st c o.dst k (.tup []) = some r → if Region.wanted o (yielded ops a.tmps) then o.wp κ.P a w K Q else K (a.put o.dst undef) w := by
    intro hg hh
    obtain ⟨ι, h⟩ := hrel
    rw [aguard_ok h hg]
    simp only [Bool.false_eq_true, if_false]
    obtain ⟨st', c', h2, h3, h4, h5, h6, h7⟩ := yPure_after hh
    obtain ⟨s1, e1, e2, e3, e4, e5⟩ := set_some (st := st) (T := st.o) (u := .tup []) h5
    have hr1 := h.set (cv := undef) (To.refl h) e1 (.pure (.tup (vs := []) rfl (by simp)))
    exact hK _ _ _ _ h2 ⟨ι, hr1.congr (by rw [h3, e2]) (by rw [h4, e3]) (fun t => by rw [h6, e4]) (fun s => by rw [h7, e5]; rfl)⟩
  unfold stepY at hx
  split at hx
  · rename_i hg
    exact hdo (by simp only [aguard, hg]) hx
  · rename_i j want hg
    split at hx
    · rename_i hgd
      exact hno (by simp only [aguard, hg]; rw [show (ops.toList[j]?).bind (·.dst) = none from hgd]) hx
    · rename_i t hgd
      rw [qAt_eq] at hx
      have hgd' : (ops.toList[j]?).bind (·.dst) = some t := hgd
      split at hx
      · rename_i b hb
        have hb' : st.get t = .bool b := hb
        cases hw : (b == want) with
        | true => rw [hw] at hx; exact hdo (by simp only [aguard, hg, hgd', hb', hw]) hx
        | false => rw [hw] at hx; exact hno (by simp only [aguard, hg, hgd', hb', hw]) hx
      · rename_i vs hb
        have hb' : st.get t = .tup vs := hb
        exact hno (by simp only [aguard, hg, hgd', hb']) hx
      · cases hx
end
def stepsY (Γ : Orc) (In : InOrc) (inl : List Nat) (P : Program) (opl : List Oper) (l : List Oper) (st : St) (c : Nat) (k : YK β) : Option β :=
  List.rec (motive := fun _ => St → Nat → Option β) (fun st c => k st c) (fun o _ ih st c => stepY Γ In inl P opl o st c ih) l st c
theorem stepsY_ok {κ : Cx} {Γ : Orc} {In : InOrc} {inl : List Nat} (hΓ : GammaOk2 κ.P Γ) (hI : InOk κ.P In) {ops : Array Oper} {Q : Exit → Act → World → Prop} {k : YK β} {r : β} : ∀ (l : List Oper) (st : St) (c : Nat) (a : Act) (w : World), stepsY Γ In inl κ.P ops.toList l st c k = some r → Rel κ st a w →
    (∀ st' c' a' w', k st' c' = some r → Rel κ st' a' w' → Q .normal a' w') → wpList κ.P ops Q l a w
  | [], st, c, a, w, hx, hr, hQ => wpList_nil (hQ st c a w hx hr)
  | o :: l, st, c, a, w, hx, hr, hQ => by
    have hx' : stepY Γ In inl κ.P ops.toList o st c (fun st c => stepsY Γ In inl κ.P ops.toList l st c k) = some r := hx
    exact wpList_step fun K hK => stepY_ok hΓ hI hr hx' fun st' c' a' w' hx' hr' => hK _ _ (stepsY_ok hΓ hI l st' c' a' w' hx' hr' hQ)
def qConT (l : List (Nat × V)) (k : List (Nat × V) → Option β) : Option β :=
  List.rec (motive := fun _ => (List (Nat × V) → Option β) → Option β) (fun k => k []) (fun p _ ih k => match p with
    | (a, v) => match v with
      | .bs b => Bool.rec (motive := fun _ => Option β) (ih fun r => k ((a, .bool false) :: r)) (ih fun r => k ((a, .bool true) :: r)) b
      | v => ih fun r => k ((a, v) :: r)) l k
theorem qConT_eq : ∀ (l : List (Nat × V)) (k : List (Nat × V) → Option β), qConT l k = k (l.map fun p => (p.1, conB p.2))
  | [], k => rfl
  | (a, v) :: l, k => by
    have ih := fun k => qConT_eq l k
    have h0 : ∀ v : V, (∀ b, v ≠ .bs b) → conB v = v := fun v hv => by cases v <;> first | rfl | exact absurd rfl (hv _)
    by_cases hv : ∃ b, v = .bs b
    · obtain ⟨b, rfl⟩ := hv
      cases b
      · show qConT l (fun r => k ((a, .bool false) :: r)) = _
        rw [ih]; rfl
      · show qConT l (fun r => k ((a, .bool true) :: r)) = _
        rw [ih]; rfl
    · have e : qConT ((a, v) :: l) k = qConT l (fun r => k ((a, v) :: r)) := by
        cases v <;> first | rfl | exact absurd ⟨_, rfl⟩ hv
      rw [e, ih]
      simp only [List.map_cons, h0 v fun b e => hv ⟨b, e⟩]
def yConS (st : St) (k : St → Option β) : Option β := St.rec (motive := fun _ => Option β) (fun n t o g => qConT t fun t => k ⟨n, t, o, g⟩) st
theorem aget_con (l : List (Nat × V)) (t : Nat) : aget .undef (l.map fun p => (p.1, conB p.2)) t = conB (aget .undef l t) := by
  induction l with
  | nil => rfl
  | cons p l ih =>
    obtain ⟨a, v⟩ := p
    simp only [List.map_cons, aget]
    split
    · rfl
    · exact ih
theorem yConS_ok {st : St} {k : St → Option β} {r : β} (h : yConS st k = some r) : ∃ st', k st' = some r ∧ ∀ κ a w, Rel κ st a w → Rel κ st' a w := by
  obtain ⟨n, t, o, g⟩ := st
  have h' : (qConT t fun t => k ⟨n, t, o, g⟩) = some r := h
  rw [qConT_eq] at h'
  refine ⟨_, h', fun κ a w ⟨ι, hr⟩ => ⟨ι, hr.dfr, hr.sz, fun u => ?_, hr.tr, hr.my, hr.kept, hr.pin, hr.gh⟩⟩
  have := (hr.tm u).conB
  simp only [St.get, aget_con]
  exact this
def regY (Γ : Orc) (In : InOrc) (inl : List Nat) (P : Program) (ops : Array Oper) (draw : Bool) (st : St) (c : Nat) (k : YK β) : Option β :=
  match draw with
  | true => match spill st ops.toList with
    | ⟨n, t, o, g⟩ => match rReg Γ P ops.toList ⟨n, t, o, g⟩ with
      | some st => yConS st fun st => k st c
      | none => drawZ Γ P ops.toList ⟨n, t, o, g⟩ fun st => yConS st fun st => k st c
  | false => stepsY Γ In inl P ops.toList ops.toList st c k
theorem HT.regY {κ : Cx} {Γ : Orc} {In : InOrc} {inl : List Nat} (hΓ : GammaOk2 κ.P Γ) (hI : InOk κ.P In) (hm : κ.P.follows .mixedOrders = true) {id : Nat} {ops : Array Oper} {draw : Bool} (htmp : (!draw || tmpsOk ops.toList) = true) {Q : Exit → St → Prop} {st : St} {c : Nat} {k : YK β} {r : β}
    (hx : Abs.regY Γ In inl κ.P ops draw st c k = some r) (h : ∀ st' c', k st' c' = some r → Q .normal st') : HT κ (.region id ops draw) Q st := fun a w hr => by
  unfold Abs.regY at hx
  cases draw with
  | true =>
    simp only at hx
    have hz' : (match rReg Γ κ.P ops.toList (spill st ops.toList) with
      | some st => yConS st fun st => k st c
      | none => drawZ Γ κ.P ops.toList (spill st ops.toList) fun st => yConS st fun st => k st c) = some r := hx
    cases hrr : rReg Γ κ.P ops.toList (spill st ops.toList) with
    | some s1 =>
      rw [hrr] at hz'
      obtain ⟨s', h1, h2⟩ := yConS_ok hz'
      exact rReg_ok hΓ hm htmp hrr (hr.spill ops.toList) fun a' w' hr' => ⟨s', h s' c h1, h2 κ a' w' hr'⟩
    | none =>
    rw [hrr] at hz'
    have hz : Abs.regZ Γ In noL κ.P ops true (spill st ops.toList) (fun st => yConS st fun st => k st c) = some r := hz'
    have h1 : HT κ (.region id ops true) (fun e s => ∃ s', Q e s' ∧ ∀ a w, Rel κ s a w → Rel κ s' a w) (spill st ops.toList) := HT.regZ hΓ hI hm htmp hz fun st' hk => by
      obtain ⟨s', h1, h2⟩ := yConS_ok hk
      exact ⟨s', h s' c h1, fun a w hr => h2 κ a w hr⟩
    refine wp_mono (h1 a w (hr.spill ops.toList)) fun e a' w' ⟨s1, ⟨s', hq, hrel⟩, hr'⟩ => ⟨s', hq, hrel _ _ hr'⟩
  | false =>
    simp only at hx
    exact wp_region_list (stepsY_ok hΓ hI ops.toList st c a w hx hr fun st' c' a' w' hk hr' => ⟨st', h st' c' hk, hr'⟩)

end
end
end Go.Abs
