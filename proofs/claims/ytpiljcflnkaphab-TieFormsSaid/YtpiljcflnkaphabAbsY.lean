/- Calls run to their end. -/
import Derived.Test.YtpiljcflnkaphabAbsX
namespace Go.Abs
open Go.RowKit
set_option linter.unusedVariables false
set_option linter.unusedSimpArgs false

/-- A body run with what is told of calls. -/
def evBody (Γ : Orc) (P : Program) (breath : Nat) (fn : Func) (args : List V) (lb : List OK) : Option (V × List OK × List OK) :=
  match fn.body with
  | none => none
  | some c => if args.length ≤ fn.ntmps then
      match ev Γ P breath c ⟨fn.ntmps, slots 0 args, tabU lb []⟩ with
      | some (.exit _, _) => none
      | some (_, st) => retOf P fn lb.length st
      | none => none
    else none

/-- Calls, so deep. Ξ: what is told of some. -/
def evC (Ξ : Orc) (P : Program) (breath : Nat) : Nat → Orc
  | 0 => Ξ
  | n + 1 => fun f args lb => match Ξ f args lb with
    | some r => some r
    | none => match P.funcs[f]? with
      | some fn => evBody (evC Ξ P breath n) P breath fn args lb
      | none => none

/-- What a program must have: bodies of a form that the machine knows. -/
def progOk (P : Program) : Bool := P.funcs.all fun fn => !(fn.name == "runtime.NumGoroutine") && match fn.body with
  | some c => codeOk c
  | none => true

theorem progOk_get {P : Program} (h : progOk P = true) {f : Nat} {fn : Func} (hf : P.funcs[f]? = some fn) : (fn.name == "runtime.NumGoroutine") = false ∧ ∀ c, fn.body = some c → codeOk c = true := by
  unfold progOk at h
  have := Array.all_eq_true_iff_forall_mem.1 h fn (Array.mem_of_getElem? hf)
  simp only [Bool.and_eq_true, Bool.not_eq_true'] at this
  refine ⟨this.1, fun c hc => ?_⟩
  have h2 := this.2
  rw [hc] at h2; exact h2

theorem evBody_ok {P : Program} {Γ : Orc} (hΓ : GammaOk P Γ) (hm : P.follows .mixedOrders = true) (hP : progOk P = true) {breath f : Nat} {fn : Func} (hf : P.funcs[f]? = some fn) {args : List V} {lb : List OK} {res : V} {lb' lf : List OK}
    (h : evBody Γ P breath fn args lb = some (res, lb', lf)) : Spec P f args lb res lb' lf ∧ ∃ fn, P.funcs[f]? = some fn ∧ (fn.name == "runtime.NumGoroutine") = false ∧ fn.body.isNone = false := by
  unfold evBody at h
  split at h
  · cases h
  · rename_i c hc
    split at h
    · rename_i hn
      have hcode := (progOk_get hP hf).2 c hc
      refine ⟨spec_of hf hc hn fun κ hκ => ?_, fn, hf, (progOk_get hP hf).1, by simp [hc]⟩
      subst hκ
      split at h
      · cases h
      · rename_i e st he hne
        refine (ev_ok hΓ hm hcode hne).mono fun e' s ⟨e1, e2⟩ => ?_
        simp only at e1 e2
        subst e1 e2
        refine ⟨?_, h⟩
        cases e with
        | normal => exact .inl rfl
        | ret => exact .inr rfl
        | exit i => first | exact (he i rfl).elim | exact (he i _ rfl).elim | exact (he i).elim
      · cases h
    · cases h

theorem evC_ok {P : Program} {Ξ : Orc} (hΞ : GammaOk P Ξ) (hm : P.follows .mixedOrders = true) (hP : progOk P = true) {breath : Nat} : ∀ n, GammaOk P (evC Ξ P breath n)
  | 0 => hΞ
  | n + 1 => by
    intro f xs lb res lb' lf h
    simp only [evC] at h
    split at h
    · rename_i r hr
      injection h with h; subst h
      exact hΞ f xs lb res lb' lf hr
    · split at h
      · rename_i fn hf
        exact evBody_ok (evC_ok hΞ hm hP n) hm hP hf h
      · cases h

def noneΞ : Orc := fun _ _ _ => none
theorem noneΞ_ok (P : Program) : GammaOk P noneΞ := fun _ _ _ _ _ _ h => by cases h

/-- A call of no arguments that comes to a bool. -/
theorem closed_of {P : Program} (hm : P.follows .mixedOrders = true) (hP : progOk P = true) {breath n f : Nat} {b : Bool} (h : evC noneΞ P breath n f [] [] = some (.bool b, [], [])) (w : World) :
    Calls P f #[] w fun e w' => e = .returned (.bool b) ∧ Below w.heap.size w w' := by
  have hs := (evC_ok (noneΞ_ok P) hm hP n f [] [] (.bool b) [] [] h).1
  have htr : TR (fun _ => False) (tabU [] []) (fun _ => 0) w := by
    refine ⟨fun t => ?_, fun t u ht => ?_, fun t ht => ?_⟩
    · have : (tabU [] []).get t = ⟨0, .dead⟩ := rfl
      rw [this]; trivial
    · exact ht.elim
    · exact ht.elim
  refine (hs w #[] (fun _ => 0) (fun _ => False) htr .nil).mono fun e w' => ?_
  rintro ⟨v, β', rfl, hk, _, hv, _⟩
  refine ⟨?_, (hk.mono (Y := fun _ => False) fun k _ ⟨t, ht, _⟩ => ht).below⟩
  rw [hv.bool_]

end Go.Abs
