/- One operation with its guard, calls too; a region in the order of the text. -/
import Derived.Test.YtiaoojocpcldmaaGreatAbsN
import Derived.Tactics
namespace Go.Abs
open Go.RowKit
set_option linter.unusedVariables false
set_option linter.unusedSimpArgs false

def aguard (opl : List Oper) (st : St) (o : Oper) : Option Bool :=
  match o.guard with
  | none => some true
  | some (j, want) => match (opl[j]?).bind (·.dst) with
    | none => some false
    | some t => match st.get t with
      | .bool b => some (b == want)
      | .bs b => some (b == want)
      | .tup _ => some false
      | _ => none

def estep (Γ : Orc) (P : Program) (st : St) (o : Oper) : Option (V × Tab) :=
  match o.op with
  | .call ⟨.value f, args, _⟩ => match st.eval f with
    | .fn k caps => aCall Γ st.o k (args.toList.map st.eval ++ caps) (o.dst.getD 99999)
    | _ => none
  | _ => match aop P st o with
    | some (v, wr) => some (v, wrT st.o wr)
    | none => none

/-- Is it what a later one's doing hangs on? -/
def isG (opl : List Oper) (o : Oper) : Bool :=
  match o.dst with
  | none => false
  | some d => opl.any fun o' => match o'.guard with
    | some (j, _) => (opl[j]?).bind (·.dst) == some d
    | none => false
def norm (opl : List Oper) (o : Oper) (v : V) : V := if isG opl o = true then conB v else v
theorem Rv.norm {T : Tab} {ι : Nat → Nat} {S : Addr → Prop} {w : World} {opl : List Oper} {o : Oper} {v : V} {cv : Value} (h : Rv T ι S w v cv) : Rv T ι S w (Abs.norm opl o v) cv := by
  unfold Abs.norm
  split
  · exact h.conB
  · exact h
def step (Γ : Orc) (P : Program) (opl : List Oper) (st : St) (o : Oper) : Option St :=
  match aguard opl st o with
  | some false => st.set o.dst (.tup [])
  | some true => match estep Γ P st o with
    | some (v, T) => { st with o := T }.set o.dst (norm opl o v)
    | none => none
  | none => none

/-- What the machine is told of calls is so. -/
def GammaOk (P : Program) (Γ : Orc) : Prop := ∀ f xs lb res lb' lf, Γ f xs lb = some (res, lb', lf) →
  Spec P f xs lb res lb' lf ∧ ∃ fn, P.funcs[f]? = some fn ∧ (fn.name == "runtime.NumGoroutine") = false ∧ fn.body.isNone = false

section
variable {κ : Cx} {ι : Nat → Nat} {st : St} {a : Act} {w : World}

theorem aguard_ok (h : RelI κ ι st a w) {ops : Array Oper} {o : Oper} {b : Bool} (hg : aguard ops.toList st o = some b) : Region.wanted o (yielded ops a.tmps) = b := by
  unfold aguard at hg
  unfold Region.wanted
  split at hg
  · rename_i e; rw [e]; injection hg
  · rename_i j want e
    rw [e]
    simp only
    unfold yielded
    simp only [Array.getElem?_toList] at hg
    split at hg
    · rename_i hd
      injection hg with hg; subst hg
      simp [hd]
    · rename_i t hd
      rw [hd]
      have htm := h.tm t
      simp only [Option.bind_some]
      split at hg
      · rename_i b' hb
        injection hg with hg; subst hg
        rw [hb] at htm
        have := htm.bool_
        have hs : a.tmps[t]? = some (.bool b') := by
          rw [Array.getD_eq_getD_getElem?] at this
          cases hq : a.tmps[t]? with
          | none => rw [hq] at this; cases this
          | some u => rw [hq] at this; simp at this; rw [this]
        rw [hs]
        cases b' <;> cases want <;> rfl
      · rename_i b' hb
        injection hg with hg; subst hg
        rw [hb] at htm
        have := htm.bs_
        have hs : a.tmps[t]? = some (.bool b') := by
          rw [Array.getD_eq_getD_getElem?] at this
          cases hq : a.tmps[t]? with
          | none => rw [hq] at this; cases this
          | some u => rw [hq] at this; simp at this; rw [this]
        rw [hs]
        cases b' <;> cases want <;> rfl
      · rename_i vs hb
        injection hg with hg; subst hg
        rw [hb] at htm
        obtain ⟨us, hu, _⟩ := htm.tup_
        rw [Array.getD_eq_getD_getElem?] at hu
        cases hq : a.tmps[t]? with
        | none => simp
        | some u => rw [hq] at hu; simp at hu; rw [hu]; simp
      · cases hg

theorem exec_call {P : Program} {o : Oper} {k : Nat} {f : Operand} {args : Array Operand} {ts : Array TypeId} (ho : o.op = .call ⟨.value f, args, ts⟩) {us : List Value} (hf : a.eval f = .func (.func k) #[] ⟨us⟩)
    {fn : Func} (hfn : P.funcs[k]? = some fn) (hn : (fn.name == "runtime.NumGoroutine") = false) (hb : fn.body.isNone = false) :
    (execOp a.eval o).run P w = .ok (.enter k (args.map a.eval ++ ⟨us⟩)) w := by
  have hn' : ¬ fn.name = "runtime.NumGoroutine" := by simpa using hn
  have hb' : fn.body ≠ none := by intro e; rw [e] at hb; cases hb
  simp [execOp, ho, resolve, Deferred.ofValue, hf, invoke, callFunc, hfn, hn', hb']

theorem estep_ok {Γ : Orc} (hΓ : GammaOk κ.P Γ) (h : RelI κ ι st a w) {o : Oper} {v : V} {T' : Tab} (hx : estep Γ κ.P st o = some (v, T')) {K : Act → World → Prop} {Q : Exit → Act → World → Prop}
    (hK : ∀ cv w' ι', To κ st.o ι w T' ι' w' → Rv T' ι' (Stable κ.D T' ι' w') w' v cv → K (a.put o.dst cv) w') : o.wp κ.P a w K Q := by
  unfold estep at hx
  split at hx
  · rename_i f args ts ho
    split at hx
    · rename_i k caps hf
      have hfv := h.eval f
      rw [hf] at hfv
      obtain ⟨us, hfu, hl, hh⟩ := hfv.fn_
      -- the callee is one of the program's
      have hcall := hx
      unfold aCall at hcall
      have hent : ∃ fn, κ.P.funcs[k]? = some fn ∧ (fn.name == "runtime.NumGoroutine") = false ∧ fn.body.isNone = false := by
        split at hcall
        · split at hcall
          · split at hcall
            · split at hcall
              · rename_i hg
                exact (hΓ _ _ _ _ _ _ hg).2
              · cases hcall
            · cases hcall
          · cases hcall
        · cases hcall
      obtain ⟨fn, h1, h2, h3⟩ := hent
      unfold Oper.wp
      rw [exec_call ho hfu h1 h2 h3]
      have hargs : LR (Rv st.o ι (Stable κ.D st.o ι w) w) (args.toList.map st.eval ++ caps) (args.map a.eval ++ ⟨us⟩).toList := by
        have := LR.map st.eval a.eval args.toList (R := Rv st.o ι (Stable κ.D st.o ι w) w) fun x _ => h.eval x
        simpa using this.append ⟨hl, hh⟩
      refine (aCall_ok (fun f xs lb res lb' lf hg => (hΓ f xs lb res lb' lf hg).1) h hx hargs).mono fun e w' => ?_
      rintro ⟨cv, ι', rfl, hto, hv⟩
      exact hK cv w' ι' hto hv
    · cases hx
  · split at hx
    · rename_i v' wr hop
      simp at hx; obtain ⟨rfl, rfl⟩ := hx
      obtain ⟨cv, w', ι', hrun, hto, hv⟩ := aop_ok h hop
      unfold Oper.wp
      rcases hrun with hrun | ⟨hrun, rfl⟩
      · rw [hrun]; exact hK cv w' ι' hto hv
      · rw [hrun]; exact hK undef w' ι' hto hv
    · cases hx

/-- One step, whatever its guard says. -/
theorem step_ok {Γ : Orc} (hΓ : GammaOk κ.P Γ) (h : RelI κ ι st a w) {ops : Array Oper} {o : Oper} {st' : St} (hx : step Γ κ.P ops.toList st o = some st') {K : Act → World → Prop} {Q : Exit → Act → World → Prop}
    (hK : ∀ a' w', Rel κ st' a' w' → K a' w') : if Region.wanted o (yielded ops a.tmps) then o.wp κ.P a w K Q else K (a.put o.dst undef) w := by
  unfold step at hx
  split at hx
  · rename_i hg
    rw [aguard_ok h hg]
    simp only [Bool.false_eq_true, if_false]
    exact hK _ _ ⟨ι, h.set (To.refl h) (by simpa using hx) (.pure (.tup (vs := []) rfl (by simp)))⟩
  · rename_i hg
    rw [aguard_ok h hg]
    simp only [if_true]
    split at hx
    · rename_i v T' he
      exact estep_ok hΓ h he fun cv w' ι' hto hv => hK _ _ ⟨ι', h.set hto hx hv.norm⟩
    · cases hx
  · cases hx

def steps (Γ : Orc) (P : Program) (opl : List Oper) : List Oper → St → Option St
  | [], st => some st
  | o :: r, st => match step Γ P opl st o with
    | some st' => steps Γ P opl r st'
    | none => none

theorem steps_ok {Γ : Orc} (hΓ : GammaOk κ.P Γ) {ops : Array Oper} {Q : Exit → Act → World → Prop} : ∀ (l : List Oper) (st st' : St) (a : Act) (w : World), steps Γ κ.P ops.toList l st = some st' → Rel κ st a w →
    (∀ a' w', Rel κ st' a' w' → Q .normal a' w') → wpList κ.P ops Q l a w
  | [], st, st', a, w, hx, h, hQ => by
    simp [steps] at hx; subst hx
    exact wpList_nil (hQ a w h)
  | o :: r, st, st', a, w, hx, ⟨ι, h⟩, hQ => by
    simp only [steps] at hx
    split at hx
    · rename_i st1 h1
      exact wpList_step fun K hK => step_ok hΓ h h1 fun a' w' hr => hK _ _ (steps_ok hΓ r st1 st' a' w' hx hr hQ)
    · cases hx

end
end Go.Abs
