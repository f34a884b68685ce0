/- Calls that are run in the caller's own memory: what they may do is what the caller may. -/
import Derived.Test.YtiaoojocpcldmaaGreatAbsVA
import Derived.Test.YtiaoojocpcldmaaGreatAbsO
namespace Go.Abs
open Go.RowKit
set_option linter.unusedVariables false
set_option linter.unusedSimpArgs false

/-- Memory and those that ride along, without what is being run. -/
structure MRel (κ : Cx) (ι : Nat → Nat) (T : Tab) (g : List V) (w : World) : Prop where
  tr : TR κ.D T ι w
  my : ∀ t, T.live t → κ.w0.heap.size ≤ ι t ∨ κ.X (ι t)
  kept : Kept κ.X κ.w0 w
  pin : ∀ t b, κ.pin t = some b → (T.get t).gen = 0 → T.live t → ι t = b
  gh : LR (Rv T ι (Stable κ.D T ι w) w) g κ.gv
theorem RelI.m {κ : Cx} {ι : Nat → Nat} {st : St} {a : Act} {w : World} (h : RelI κ ι st a w) : MRel κ ι st.o st.g w := ⟨h.tr, h.my, h.kept, h.pin, h.gh⟩

/-- WHAT A CALL OF f COMES TO that is run in the caller's own memory. -/
def SpecI (P : Program) (f : FuncId) (args : List V) (T : Tab) (g : List V) (res : V) (T' : Tab) (g' : List V) : Prop :=
  ∀ κ : Cx, κ.P = P → ∀ (ι : Nat → Nat) (w : World) (cargs : Array Value), MRel κ ι T g w → LR (Rv T ι (Stable κ.D T ι w) w) args cargs.toList →
    Calls P f cargs w fun e w' => ∃ v ι', e = .returned v ∧ MRel κ ι' T' g' w' ∧ Rv T' ι' (Stable κ.D T' ι' w') w' res v

abbrev InOrc := Nat → List V → Tab → List V → Option (V × Tab × List V)
def InOk (P : Program) (In : InOrc) : Prop := ∀ f xs T g res T' g', In f xs T g = some (res, T', g') →
  SpecI P f xs T g res T' g' ∧ ∃ fn, P.funcs[f]? = some fn ∧ (fn.name == "runtime.NumGoroutine") = false ∧ fn.body.isNone = false

/-- A call's own place among the caller's. -/
def callIn (In : InOrc) (st : St) (k : Nat) (args : List V) (dst : Option Nat) : Option St :=
  match In k args st.o (st.g ++ st.t.map (fun p => st.get p.1)) with
  | some (res, T', g') => ({ n := st.n, t := (st.t.map (·.1)).zip (g'.drop st.g.length), o := T', g := g'.take st.g.length } : St).set dst res
  | none => none

def stepI (Γ : Orc) (In : InOrc) (P : Program) (opl : List Oper) (st : St) (o : Oper) : Option St :=
  match o.op with
  | .call ⟨.value f, args, _⟩ => match aguard opl st o with
    | some true => match st.eval f with
      | .fn k caps => match callIn In st k (args.toList.map st.eval ++ caps) o.dst with
        | some st' => some st'
        | none => step Γ P opl st o
      | _ => none
    | _ => step Γ P opl st o
  | _ => step Γ P opl st o

theorem zip_rv {R : V → Value → Prop} (hu : ∀ v, R V.undef v) (f : Nat → Value) : ∀ (ks : List Nat) (vs : List V), LR R vs (ks.map f) → ∀ t, R (aget .undef (ks.zip vs) t) (f t)
  | [], vs, h, t => by simp [aget]; exact hu _
  | k :: r, [], h, t => by simp [aget]; exact hu _
  | k :: r, v :: vs, h, t => by
    obtain ⟨u, us, e, h1, h2⟩ := h.head
    simp only [List.map_cons, List.cons.injEq] at e
    obtain ⟨rfl, rfl⟩ := e
    simp only [List.zip_cons_cons, aget]
    split
    · rename_i e; subst e; exact h1
    · exact zip_rv hu f r vs h2 t

section
variable {κ : Cx} {ι : Nat → Nat} {st : St} {a : Act} {w : World}

theorem callIn_ok {In : InOrc} (hI : InOk κ.P In) (h : RelI κ ι st a w) {o : Oper} {f : Operand} {args : Array Operand} {ts : Array TypeId} (ho : o.op = .call ⟨.value f, args, ts⟩) {k : Nat} {caps : List V} (hf : st.eval f = .fn k caps)
    {st' : St} (hx : callIn In st k (args.toList.map st.eval ++ caps) o.dst = some st') {K : Act → World → Prop} {Q : Exit → Act → World → Prop}
    (hK : ∀ a' w', Rel κ st' a' w' → K a' w') : o.wp κ.P a w K Q := by
  unfold callIn at hx
  split at hx
  · rename_i res T' g' hin
    obtain ⟨hspec, fn, h1, h2, h3⟩ := hI _ _ _ _ _ _ _ hin
    have hfv := h.eval f
    rw [hf] at hfv
    obtain ⟨us, hfu, hl, hh⟩ := hfv.fn_
    have hargs : LR (Rv st.o ι (Stable κ.D st.o ι w) w) (args.toList.map st.eval ++ caps) (args.map a.eval ++ ⟨us⟩).toList := by
      have := LR.map st.eval a.eval args.toList (R := Rv st.o ι (Stable κ.D st.o ι w) w) fun x _ => h.eval x
      simpa using this.append ⟨hl, hh⟩
    unfold Oper.wp
    rw [exec_call ho hfu h1 h2 h3]
    let κ' : Cx := { κ with gv := κ.gv ++ st.t.map (fun p => a.tmps.getD p.1 undef) }
    have hs : LR (Rv st.o ι (Stable κ.D st.o ι w) w) (st.t.map (fun p => st.get p.1)) (st.t.map (fun p => a.tmps.getD p.1 undef)) := LR.map _ _ st.t fun p _ => h.tm p.1
    have hm0 : MRel κ' ι st.o (st.g ++ st.t.map (fun p => st.get p.1)) w := ⟨h.tr, h.my, h.kept, h.pin, h.gh.append hs⟩
    refine (hspec κ' rfl ι w _ hm0 hargs).mono fun e w' => ?_
    rintro ⟨cv, ι', rfl, hm, hv⟩
    have hgl : st.g.length = κ.gv.length := h.gh.1
    have hg1 := hm.gh.take st.g.length
    have hg2 := hm.gh.drop st.g.length
    simp only [κ', hgl, List.take_left, List.drop_left] at hg1 hg2
    rw [← hgl] at hg1 hg2
    have hr : RelI κ ι' { n := st.n, t := (st.t.map (·.1)).zip (g'.drop st.g.length), o := T', g := g'.take st.g.length } a w' := by
      refine ⟨h.dfr, h.sz, fun t => ?_, hm.tr, hm.my, hm.kept, hm.pin, hg1⟩
      exact zip_rv (R := Rv T' ι' (Stable κ.D T' ι' w') w') (fun v => Rv.undef v) (fun t => a.tmps.getD t undef) (st.t.map (·.1)) _ (by rw [List.map_map]; exact hg2) t
    exact hK _ _ ⟨ι', hr.set (To.refl hr) (by simpa using hx) hv⟩
  · cases hx

theorem stepI_ok {Γ : Orc} {In : InOrc} (hΓ : GammaOk κ.P Γ) (hI : InOk κ.P In) (h : RelI κ ι st a w) {ops : Array Oper} {o : Oper} {st' : St} (hx : stepI Γ In κ.P ops.toList st o = some st')
    {K : Act → World → Prop} {Q : Exit → Act → World → Prop} (hK : ∀ a' w', Rel κ st' a' w' → K a' w') : if Region.wanted o (yielded ops a.tmps) then o.wp κ.P a w K Q else K (a.put o.dst undef) w := by
  unfold stepI at hx
  split at hx
  · rename_i f args ts ho
    split at hx
    · rename_i hg
      split at hx
      · rename_i k caps hf
        split at hx
        · rename_i st1 hc
          injection hx with hx; subst hx
          rw [aguard_ok h hg]
          simp only [if_true]
          exact callIn_ok hI h ho hf hc hK
        · exact step_ok hΓ h hx hK
      · cases hx
    · exact step_ok hΓ h hx hK
  · exact step_ok hΓ h hx hK

def stepsI (Γ : Orc) (In : InOrc) (P : Program) (opl : List Oper) : List Oper → St → Option St
  | [], st => some st
  | o :: r, st => match stepI Γ In P opl st o with
    | some st' => stepsI Γ In P opl r st'
    | none => none

theorem stepsI_ok {Γ : Orc} {In : InOrc} (hΓ : GammaOk κ.P Γ) (hI : InOk κ.P In) {ops : Array Oper} {Q : Exit → Act → World → Prop} : ∀ (l : List Oper) (st st' : St) (a : Act) (w : World), stepsI Γ In κ.P ops.toList l st = some st' → Rel κ st a w →
    (∀ a' w', Rel κ st' a' w' → Q .normal a' w') → wpList κ.P ops Q l a w
  | [], st, st', a, w, hx, h, hQ => by
    simp [stepsI] at hx; subst hx
    exact wpList_nil (hQ a w h)
  | o :: r, st, st', a, w, hx, ⟨ι, h⟩, hQ => by
    simp only [stepsI] at hx
    split at hx
    · rename_i st1 h1
      exact wpList_step fun K hK => stepI_ok hΓ hI h h1 fun a' w' hr => hK _ _ (stepsI_ok hΓ hI r st1 st' a' w' hx hr hQ)
    · cases hx
end
end Go.Abs
