/- What a function comes to, in Lean's own values. -/
import Derived.Test.YtelhmjkiajbobabSymD
namespace Go.Abs
open Go.RowKit
set_option linter.unusedVariables false
set_option linter.unusedSimpArgs false

/-- What is given back is as if nobody wrote it any more. -/
def viewR (st : St) (r : Nat) : St :=
  match view depth st.o (st.get r) with
  | some (x, l) => { st with t := (r, x) :: st.t, o := st.o.freezes l }
  | none => st
def viewRs (fn : Func) (st : St) : St := fn.results.toList.foldl (fun st r => match r with | .tmp t => viewR st t | _ => st) st

theorem Rel.viewR {κ : Cx} {st : St} {a : Act} {w : World} {r : Nat} (h : Rel κ st a w) : Rel κ (Abs.viewR st r) a w := by
  unfold Abs.viewR
  split
  · rename_i x l hv
    obtain ⟨ι, h⟩ := h
    have hto := To.freezes h l
    have h1 := To.rel h hto
    refine ⟨ι, h1.dfr, h1.sz, fun t => ?_, h1.tr, h1.my, h1.kept, h1.pin, h1.gh⟩
    show Rv _ ι _ w (aget .undef ((r, x) :: st.t) t) _
    simp only [aget]
    split
    · rename_i e; subst e
      refine .pure (view_ok h1 (T := st.o) depth _ x l _ hv (fun s hs => ?_) (h1.tm r))
      have : (st.o.freezes l).get s = ⟨(st.o.get s).gen, (st.o.get s).k.freeze⟩ := by rw [Tab.get_freezes, if_pos hs]
      exact ⟨by rw [this], by rw [this]⟩
    · exact h1.tm t
  · exact h
theorem Rel.viewRs {κ : Cx} {a : Act} {w : World} (fn : Func) {st : St} (h : Rel κ st a w) : Rel κ (Abs.viewRs fn st) a w := by
  unfold Abs.viewRs
  generalize fn.results.toList = l
  induction l generalizing st with
  | nil => exact h
  | cons r l ih =>
    simp only [List.foldl_cons]
    apply ih
    cases r with
    | tmp t => exact h.viewR
    | cell a t => exact h

theorem HT.post {κ : Cx} {c : Code} {Q : Exit → St → Prop} {st : St} {f : St → St} (hf : ∀ s a w, Rel κ s a w → Rel κ (f s) a w) (h : HT κ c Q st) : HT κ c (fun e s => ∃ s0, Q e s0 ∧ s = f s0) st :=
  fun a w hr => wp_mono (h a w hr) fun e a' w' ⟨s, q, r⟩ => ⟨f s, ⟨s, q, rfl⟩, hf s a' w' r⟩

def tsI : List Ty → Type
  | [] => Unit
  | [t] => t.I
  | t :: u :: r => t.I × tsI (u :: r)
def encTs : (ts : List Ty) → tsI ts → List V
  | [], _ => []
  | [t], x => [valW t x]
  | t :: u :: r, x => valW t x.1 :: encTs (u :: r) x.2
def decTs : (ts : List Ty) → List V → Option (tsI ts)
  | [], vs => match vs with
    | [] => some ()
    | _ => none
  | [t], vs => match vs with
    | [v] => impV t v
    | _ => none
  | t :: u :: r, vs => match vs with
    | v :: vs' => match impV t v, decTs (u :: r) vs' with
      | some x, some y => some (x, y)
      | _, _ => none
    | [] => none
def encR (ts : List Ty) (x : tsI ts) : V := packV (encTs ts x)
def isOne : List Ty → Bool
  | [_] => true
  | _ => false
def tupOf : V → List V
  | .tup vs => vs
  | v => [v]
def isTup : V → Bool
  | .tup _ => true
  | _ => false
def decR (ts : List Ty) (v : V) : Option (tsI ts) :=
  if isOne ts = !isTup v then decTs ts (tupOf v) else none

theorem decTs_rv {T : Tab} {ι : Nat → Nat} {S : Addr → Prop} {w : World} : ∀ (ts : List Ty) (vs : List V) (x : tsI ts) (us : List Value), decTs ts vs = some x → LR (Rv T ι S w) vs us → LR (Rp S w) (encTs ts x) us
  | [], vs, x, us, h, hr => by
    cases vs with
    | nil =>
      have : us = [] := List.eq_nil_of_length_eq_zero (by simpa using hr.1.symm)
      subst this; exact .nil
    | cons v vs => cases h
  | [t], vs, x, us, h, hr => by
    cases vs with
    | nil => cases h
    | cons v vs =>
      cases vs with
      | cons v2 vs => cases h
      | nil =>
        obtain ⟨u, us', rfl, hu, hr'⟩ := hr.head
        have : us' = [] := List.eq_nil_of_length_eq_zero (by simpa using hr'.1.symm)
        subst this
        exact .cons (impV_rv (t := t) h hu) .nil
  | t :: u :: r, vs, x, us, h, hr => by
    cases vs with
    | nil => cases h
    | cons v vs =>
      have h' : (match impV t v, decTs (u :: r) vs with
        | some x, some y => some (x, y)
        | _, _ => none) = some x := h
      split at h'
      · rename_i x1 x2 h1 h2
        injection h' with h'; subst h'
        obtain ⟨u', us', rfl, hu, hr'⟩ := hr.head
        exact .cons (impV_rv h1 hu) (decTs_rv (u :: r) vs x2 us' h2 hr')
      · cases h'
theorem decR_rv {T : Tab} {ι : Nat → Nat} {S : Addr → Prop} {w : World} {ts : List Ty} {v : V} {x : tsI ts} {u : Value} (h : decR ts v = some x) (hr : Rv T ι S w v u) : Rp S w (encR ts x) u := by
  unfold decR at h
  split at h
  · rename_i hc
    by_cases hv : isTup v = true
    · cases v with
      | tup vs =>
        obtain ⟨us, rfl, hl, hh⟩ := hr.tup_
        have := decTs_rv ts vs x us h ⟨hl, hh⟩
        match ts, x, hc, this with
        | [], x, _, this => exact .tup this.1 this.2
        | t :: t2 :: r, x, _, this =>
          have e : encR (t :: t2 :: r) x = .tup (encTs (t :: t2 :: r) x) := by
            cases r <;> rfl
          rw [e]
          exact .tup this.1 this.2
      | _ => simp [isTup] at hv
    · have ht : tupOf v = [v] := by cases v <;> first | rfl | simp [isTup] at hv
      rw [ht] at h
      match ts, x, hc, h with
      | [t], x, _, h => exact impV_rv (t := t) h hr
      | [], x, hc, h => simp [isOne, hv] at hc
      | t :: t2 :: r, x, hc, h => simp [isOne, hv] at hc
  · cases h

/-- What a body gives back. -/
def kRet (P : Program) (fn : Func) (ts : List Ty) : Ex → St → Option (tsI ts) := fun e s =>
  match e with
  | .exit _ => none
  | _ => match retOf P fn 0 (viewRs fn s) with
    | some (v, _, _) => decR ts v
    | none => none

theorem noLive (t : Nat) : ¬ (tabU [] []).live t := fun h => h.elim
theorem stable_none {D : Addr → Prop} {T : Tab} {ι ι' : Nat → Nat} {w : World} {p : Addr} (h : Stable D T ι w p) : Stable D (tabU [] []) ι' w p := ⟨h.1, h.2.1, fun t ht => absurd ht (noLive t)⟩

theorem spec_evK {P : Program} {Γ : OrcT} (hm : P.follows .mixedOrders = true) (hΓ : GammaOk P Γ.orc) {f : FuncId} {fn : Func} {c : Code} (hf : P.funcs[f]? = some fn) (hb : fn.body = some c) (hc : codeOk c = true)
    {args : List V} (hn : args.length ≤ fn.ntmps) {ts : List Ty} {HL HC : List (Nat × Hint)} {N n : Nat} {r : tsI ts}
    (h : evK Γ P HL HC N n c ⟨fn.ntmps, slots 0 args, tabU [] [], []⟩ (kRet P fn ts) = some r) : Spec P f args [] (encR ts r) [] [] := by
  have hG := spec_ofG (lb := []) (G := fun res _ _ => decR ts res = some r) hf hb hn fun κ hκ hgv => by
    subst hκ
    refine (HT.post (f := viewRs fn) (fun s a w hr => hr.viewRs fn) (evK_ok hΓ hm hgv n _ c _ _ r hc rfl h)).mono fun e s => ?_
    rintro ⟨s0, ⟨e', rfl, hk, _⟩, rfl⟩
    unfold kRet at hk
    cases e' with
    | exit i => cases hk
    | normal =>
      refine ⟨.inl rfl, ?_⟩
      simp only at hk
      split at hk
      · rename_i v l1 l2 hv
        exact ⟨v, l1, l2, hv, hk⟩
      · cases hk
    | ret =>
      refine ⟨.inr rfl, ?_⟩
      simp only at hk
      split at hk
      · rename_i v l1 l2 hv
        exact ⟨v, l1, l2, hv, hk⟩
      · cases hk
  intro w cargs β S htr hargs
  refine (hG w cargs β S htr hargs).mono fun e w' => ?_
  rintro ⟨res, lb', lf, hd, v, β', rfl, hk, htr', hv, hl, _, _⟩
  refine ⟨v, β', rfl, hk, ⟨fun t => trivial, fun t u ht => absurd ht (noLive t), fun t ht => absurd ht (noLive t)⟩, .pure ((decR_rv hd hv).mono fun p hp => ⟨stable_none hp, rfl⟩), rfl, fun j hj => absurd hj (by simp), fun j hj => absurd hj (by simp)⟩

/-! Contracts: what is told of functions, in Lean's own values. -/
/-- Arguments that say more than those of a contract. -/
theorem Spec.args {P : Program} {f : FuncId} {args args' : List V} {lb : List OK} {res : V} {lb' lf : List OK} (h : Spec P f args' lb res lb' lf)
    (hw : ∀ (T : Tab) (ι : Nat → Nat) (S : Addr → Prop) (w : World) (us : List Value), LR (Rv T ι S w) args us → LR (Rv T ι S w) args' us) : Spec P f args lb res lb' lf :=
  fun w cargs β S htr hargs => h w cargs β S htr (hw _ _ _ _ _ hargs)
structure Con where
  f : Nat
  ts : List Ty
  /-- What it comes to: by conditions, a value. -/
  out : tsI ts → Tr V
def Con.ok (P : Program) (c : Con) : Prop := (∃ fn, P.funcs[c.f]? = some fn ∧ (fn.name == "runtime.NumGoroutine") = false ∧ fn.body.isNone = false) ∧
  ∀ x v, (c.out x).run = some v → Spec P c.f (encTs c.ts x) [] v [] []
def orcOf : List Con → OrcT
  | [], _, _, _ => .fail
  | c :: r, f, xs, lb => if c.f = f then (match decTs c.ts xs, lb with
    | some x, [] => (c.out x).bind fun v => .ret (v, [], [])
    | _, _ => .fail) else orcOf r f xs lb
theorem orcOf_ok {P : Program} : ∀ (l : List Con), (∀ c ∈ l, c.ok P) → GammaOk P (orcOf l).orc
  | [], _, f, xs, lb, res, lb', lf, h => by simp [OrcT.orc, orcOf, Tr.run] at h
  | c :: r, hl, f, xs, lb, res, lb', lf, h => by
    simp only [OrcT.orc, orcOf] at h
    split at h
    · rename_i e; subst e
      split at h
      · rename_i x hx
        rw [Tr.run_bind] at h
        cases ho : (c.out x).run with
        | none => rw [ho] at h; cases h
        | some v =>
          rw [ho] at h
          simp only [Option.bind_some, Tr.run, Option.some.injEq, Prod.mk.injEq] at h
          obtain ⟨rfl, rfl, rfl⟩ := h
          obtain ⟨h1, h2⟩ := hl c (by simp)
          refine ⟨(h2 x v ho).args fun T ι S w us hr => ?_, h1⟩
          have := decTs_rv c.ts xs x us hx hr
          exact this.mono fun d u hd => .pure hd
      · cases h
    · exact orcOf_ok r (fun c hc => hl c (by simp [hc])) f xs lb res lb' lf h
end Go.Abs
