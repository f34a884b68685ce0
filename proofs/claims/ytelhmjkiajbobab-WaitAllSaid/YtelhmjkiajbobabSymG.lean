/- Functions with no loop, looked through at each call. -/
import Derived.Test.YtelhmjkiajbobabSymF
namespace Go.Abs
open Go.RowKit
set_option linter.unusedVariables false
set_option linter.unusedSimpArgs false

def evTr (Γ : OrcT) (P : Program) : Nat → Code → St → Tr (Ex × St)
  | 0, _, _ => .fail
  | n + 1, c, st => match c with
    | .skip => .ret (.normal, st)
    | .label _ => .ret (.normal, st)
    | .exit id => .ret (.exit id, st)
    | .ret => .ret (.ret, st)
    | .region _ ops draw => (regionT Γ P ops draw st).bind fun s => .ret (.normal, s)
    | .seq x y => (evTr Γ P n x st).bind fun q => match q.1 with
      | .normal => evTr Γ P n y q.2
      | _ => .ret q
    | .cond c x y => match st.eval c with
      | .bool true => evTr Γ P n x st
      | .bool false => evTr Γ P n y st
      | .bs b => .ite b (evTr Γ P n x st) (evTr Γ P n y st)
      | _ => .fail
    | .block id c => (evTr Γ P n c st).bind fun q => match q.1 with
      | .exit i => if i = id then .ret (.normal, q.2) else .ret q
      | _ => .ret q
    | _ => .fail

theorem bind_some {α β : Type} {x : Tr α} {f : α → Tr β} {r : β} (h : (x.bind f).run = some r) : ∃ a, x.run = some a ∧ (f a).run = some r := by
  rw [Tr.run_bind] at h
  cases hx : x.run with
  | none => rw [hx] at h; cases h
  | some a => rw [hx] at h; exact ⟨a, rfl, h⟩

theorem evTr_ok {κ : Cx} {Γ : OrcT} (hΓ : GammaOk κ.P Γ.orc) (hm : κ.P.follows .mixedOrders = true) : ∀ (n : Nat) (c : Code) (st : St) (r : Ex × St), codeOk c = true → (evTr Γ κ.P n c st).run = some r → HT κ c (evQ r) st
  | 0, c, st, r, _, h => by simp [evTr, Tr.run] at h
  | n + 1, c, st, r, hc, h => by
    have ih := evTr_ok hΓ hm n
    cases c with
    | skip => simp only [evTr, Tr.run, Option.some.injEq] at h; subst h; exact HT.skip ⟨rfl, rfl⟩
    | label l => simp only [evTr, Tr.run, Option.some.injEq] at h; subst h; exact HT.label ⟨rfl, rfl⟩
    | exit id => simp only [evTr, Tr.run, Option.some.injEq] at h; subst h; exact HT.exit ⟨rfl, rfl⟩
    | ret => simp only [evTr, Tr.run, Option.some.injEq] at h; subst h; exact HT.ret ⟨rfl, rfl⟩
    | region id ops draw =>
      simp only [evTr] at h
      obtain ⟨s, h1, h2⟩ := bind_some h
      simp only [Tr.run, Option.some.injEq] at h2; subst h2
      exact HT.regionT hΓ hm (by simpa [codeOk] using hc) h1 ⟨rfl, rfl⟩
    | seq x y =>
      simp only [codeOk, Bool.and_eq_true] at hc
      simp only [evTr] at h
      obtain ⟨⟨ex, sx⟩, h1, h2⟩ := bind_some h
      refine HT.seq ((ih x st _ hc.1 h1).mono fun e s => ?_)
      rintro ⟨e1, e2⟩
      simp only at e1 e2; subst e1 e2
      cases ex with
      | normal => exact ih y _ r hc.2 h2
      | exit i => simp only [Tr.run, Option.some.injEq] at h2; subst h2; exact ⟨rfl, rfl⟩
      | ret => simp only [Tr.run, Option.some.injEq] at h2; subst h2; exact ⟨rfl, rfl⟩
    | cond o x y =>
      simp only [codeOk, Bool.and_eq_true] at hc
      simp only [evTr] at h
      split at h
      · rename_i ho; exact HT.cond ho (ih x st r hc.1 h)
      · rename_i ho; exact HT.cond ho (ih y st r hc.2 h)
      · rename_i b ho
        refine HT.condS ho ?_
        cases b with
        | true => exact ih x st r hc.1 h
        | false => exact ih y st r hc.2 h
      · simp [Tr.run] at h
    | block id c =>
      simp only [codeOk] at hc
      simp only [evTr] at h
      obtain ⟨⟨ex, sx⟩, h1, h2⟩ := bind_some h
      refine HT.block ((ih c st _ hc h1).mono fun e s => ?_)
      rintro ⟨e1, e2⟩
      simp only at e1 e2; subst e1 e2
      cases ex with
      | normal => simp only [Tr.run, Option.some.injEq] at h2; subst h2; exact ⟨rfl, rfl⟩
      | ret => simp only [Tr.run, Option.some.injEq] at h2; subst h2; exact ⟨rfl, rfl⟩
      | exit i =>
        simp only at h2
        simp only [Ex.to, blkQ]
        split at h2
        · rename_i hi
          simp only [Tr.run, Option.some.injEq] at h2; subst h2
          rw [if_pos hi]; exact ⟨rfl, rfl⟩
        · rename_i hi
          simp only [Tr.run, Option.some.injEq] at h2; subst h2
          rw [if_neg hi]; exact ⟨rfl, rfl⟩
    | _ => simp [evTr, Tr.run] at h

def bodyT (Γ : OrcT) (P : Program) (n : Nat) (fn : Func) (args : List V) (lb : List OK) : Tr (V × List OK × List OK) :=
  match fn.body with
  | none => .fail
  | some c => if args.length ≤ fn.ntmps then (evTr Γ P n c ⟨fn.ntmps, slots 0 args, tabU lb [], []⟩).bind fun q => match q.1 with
      | .exit _ => .fail
      | _ => .of (retOf P fn lb.length q.2)
    else .fail
theorem bodyT_ok {P : Program} {Γ : OrcT} (hΓ : GammaOk P Γ.orc) (hm : P.follows .mixedOrders = true) (hP : progOk P = true) {n f : Nat} {fn : Func} (hf : P.funcs[f]? = some fn) {args : List V} {lb : List OK} {res : V} {lb' lf : List OK}
    (h : (bodyT Γ P n fn args lb).run = some (res, lb', lf)) : Spec P f args lb res lb' lf ∧ ∃ fn, P.funcs[f]? = some fn ∧ (fn.name == "runtime.NumGoroutine") = false ∧ fn.body.isNone = false := by
  unfold bodyT at h
  split at h
  · simp [Tr.run] at h
  · rename_i c hc
    split at h
    · rename_i hn
      obtain ⟨⟨e, s⟩, h1, h2⟩ := bind_some h
      have hcode := (progOk_get hP hf).2 c hc
      refine ⟨spec_of hf hc hn fun κ hκ => ?_, fn, hf, (progOk_get hP hf).1, by simp [hc]⟩
      subst hκ
      refine (evTr_ok hΓ hm n c _ _ hcode h1).mono fun e' s' ⟨e1, e2⟩ => ?_
      simp only at e1 e2
      subst e1 e2
      cases e with
      | exit i => simp [Tr.run] at h2
      | normal => exact ⟨.inl rfl, by rwa [Tr.run_of] at h2⟩
      | ret => exact ⟨.inr rfl, by rwa [Tr.run_of] at h2⟩
    · simp [Tr.run] at h

/-- Calls: those of inl are looked through, so deep; the others are as Γ says. -/
def orcD (Γ : OrcT) (P : Program) (inl : List Nat) (n : Nat) : Nat → OrcT
  | 0 => Γ
  | d + 1 => fun f xs lb => if inl.contains f = true then (match P.funcs[f]? with
    | some fn => bodyT (orcD Γ P inl n d) P n fn xs lb
    | none => .fail) else Γ f xs lb
theorem orcD_ok {P : Program} {Γ : OrcT} (hΓ : GammaOk P Γ.orc) (hm : P.follows .mixedOrders = true) (hP : progOk P = true) {inl : List Nat} {n : Nat} : ∀ d, GammaOk P (orcD Γ P inl n d).orc
  | 0 => hΓ
  | d + 1 => by
    intro f xs lb res lb' lf h
    simp only [OrcT.orc, orcD] at h
    split at h
    · split at h
      · rename_i fn hf
        exact bodyT_ok (orcD_ok hΓ hm hP d) hm hP hf h
      · simp [Tr.run] at h
    · exact hΓ f xs lb res lb' lf h
end Go.Abs
