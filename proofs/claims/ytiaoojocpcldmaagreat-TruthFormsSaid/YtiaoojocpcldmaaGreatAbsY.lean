/- Calls run to their end. -/
import Derived.Test.YtiaoojocpcldmaaGreatAbsX
namespace Go.Abs
open Go.RowKit
set_option linter.unusedVariables false
set_option linter.unusedSimpArgs false

/-- A body run with what is told of calls. -/
def evBody (Γ : Orc) (In : InOrc) (P : Program) (breath : Nat) (fn : Func) (args : List V) (lb : List OK) : Option (V × List OK × List OK) :=
  match fn.body with
  | none => none
  | some c => if args.length ≤ fn.ntmps then
      match ev Γ In P breath c ⟨fn.ntmps, slots 0 args, tabU lb [], []⟩ with
      | some (.exit _, _) => none
      | some (_, st) => retOf P fn lb.length st
      | none => none
    else none

def evIn (Γ : Orc) (In : InOrc) (P : Program) (breath : Nat) (fn : Func) (args : List V) (T : Tab) (g : List V) : Option (V × Tab × List V) :=
  match fn.body with
  | none => none
  | some c => if args.length ≤ fn.ntmps then
      match ev Γ In P breath c ⟨fn.ntmps, slots 0 args, T, g⟩ with
      | some (.exit _, _) => none
      | some (_, st) => match resL P st fn.results.toList with
        | some vs => some (packV vs, st.o, st.g)
        | none => none
      | none => none
    else none

/-- Calls, so deep. Ξ: what is told of some. inl: which are run in the caller's own memory. -/
def evO (Ξ : Orc) (inl : List Nat) (P : Program) (breath : Nat) : Nat → Orc × InOrc
  | 0 => (Ξ, fun _ _ _ _ => none)
  | n + 1 => (fun f args lb => match Ξ f args lb with
    | some r => some r
    | none => match P.funcs[f]? with
      | some fn => evBody (evO Ξ inl P breath n).1 (evO Ξ inl P breath n).2 P breath fn args lb
      | none => none,
    fun f args T g => match P.funcs[f]? with
      | some fn => if inl.contains f = true then evIn (evO Ξ inl P breath n).1 (evO Ξ inl P breath n).2 P breath fn args T g else none
      | none => none)
def evC (Ξ : Orc) (inl : List Nat) (P : Program) (breath : Nat) (n : Nat) : Orc := (evO Ξ inl P breath n).1

/-- What a program must have: bodies of a form that the machine knows. -/
def progOk (P : Program) : Bool := P.funcs.all fun fn => !(fn.name == "runtime.NumGoroutine") && match fn.body with
  | some c => codeOk c
  | none => true

theorem progOk_get {P : Program} (h : progOk P = true) {f : Nat} {fn : Func} (hf : P.funcs[f]? = some fn) : (fn.name == "runtime.NumGoroutine") = false ∧ ∀ c, fn.body = some c → codeOk c = true := by
  unfold progOk at h
  have := Array.all_eq_true_iff_forall_mem.1 h fn (Array.mem_of_getElem? hf)
  simp only [Bool.and_eq_true, Bool.not_eq_true'] at this
  refine ⟨this.1, fun c hc => ?_⟩
  have h2 := this.2
  rw [hc] at h2; exact h2

theorem evBody_ok {P : Program} {Γ : Orc} {In : InOrc} (hΓ : GammaOk P Γ) (hI : InOk P In) (hm : P.follows .mixedOrders = true) (hP : progOk P = true) {breath f : Nat} {fn : Func} (hf : P.funcs[f]? = some fn) {args : List V} {lb : List OK} {res : V} {lb' lf : List OK}
    (h : evBody Γ In P breath fn args lb = some (res, lb', lf)) : Spec P f args lb res lb' lf ∧ ∃ fn, P.funcs[f]? = some fn ∧ (fn.name == "runtime.NumGoroutine") = false ∧ fn.body.isNone = false := by
  unfold evBody at h
  split at h
  · cases h
  · rename_i c hc
    split at h
    · rename_i hn
      have hcode := (progOk_get hP hf).2 c hc
      refine ⟨spec_of hf hc hn fun κ hκ => ?_, fn, hf, (progOk_get hP hf).1, by simp [hc]⟩
      subst hκ
      split at h
      · cases h
      · rename_i e st he hne
        refine (ev_ok hΓ hI hm hcode hne).mono fun e' s ⟨e1, e2⟩ => ?_
        simp only at e1 e2
        subst e1 e2
        refine ⟨?_, h⟩
        cases e with
        | normal => exact .inl rfl
        | ret => exact .inr rfl
        | exit i => first | exact (he i rfl).elim | exact (he i _ rfl).elim | exact (he i).elim
      · cases h
    · cases h

def packC (us : List Value) : Value := match us with | [u] => u | us => .tuple ⟨us⟩
theorem pack_rv {R : Tab} {ι : Nat → Nat} {S : Addr → Prop} {w : World} {vs : List V} {us : List Value} (h : LR (Rv R ι S w) vs us) : Rv R ι S w (packV vs) (packC us) := by
  match vs, us, h with
  | [v], [u], h => exact h.2 0 v u rfl rfl
  | [v], [], h => exact absurd h.1 (by simp)
  | [v], _ :: _ :: _, h => exact absurd h.1 (by simp)
  | [], [], h => exact .tup h.1 h.2
  | [], _ :: _, h => exact absurd h.1 (by simp)
  | _ :: _ :: _, [], h => exact absurd h.1 (by simp)
  | _ :: _ :: _, [u], h => exact absurd h.1 (by simp)
  | _ :: _ :: _, _ :: _ :: _, h => exact .tup h.1 h.2

theorem specI_of {P : Program} {f : FuncId} {fn : Func} {c : Code} {args : List V} {T T' : Tab} {g g' : List V} {res : V} (hf : P.funcs[f]? = some fn) (hb : fn.body = some c) (hn : args.length ≤ fn.ntmps)
    (h : ∀ κ : Cx, κ.P = P → HT κ c (fun e s => (e = .normal ∨ e = .ret) ∧ ∃ vs, resL P s fn.results.toList = some vs ∧ packV vs = res ∧ s.o = T' ∧ s.g = g') ⟨fn.ntmps, slots 0 args, T, g⟩) : SpecI P f args T g res T' g' := by
  intro κ hκ ι w cargs hm hargs
  subst hκ
  refine calls_of_wp hf hb ?_
  have hlen : args.length = cargs.size := by rw [hargs.1]; simp
  have h0 : Rel κ ⟨fn.ntmps, slots 0 args, T, g⟩ { tmps := cargs ++ Array.replicate (fn.ntmps - cargs.size) undef, defers := [] } w := by
    refine ⟨ι, rfl, by simp; omega, fun t => ?_, hm.tr, hm.my, hm.kept, hm.pin, hm.gh⟩
    simp only [St.get, aget_slots, Nat.zero_le, if_true, Nat.sub_zero]
    by_cases ht : t < args.length
    · obtain ⟨u, hu, hru⟩ := hargs.get (i := t) (d := args[t]) (List.getElem?_eq_getElem ht)
      have e1 : args.getD t .undef = args[t] := by simp [ht]
      have e2 : (cargs ++ Array.replicate (fn.ntmps - cargs.size) undef).getD t undef = u := by
        have ht' : t < cargs.size := by omega
        have : cargs[t]? = some u := by simpa using hu
        rw [Array.getD_eq_getD_getElem?, Array.getElem?_append_left ht', this]; rfl
      rw [e1, e2]
      exact hru
    · have e1 : args.getD t .undef = .undef := by simp [List.getElem?_eq_none (Nat.le_of_not_lt ht)]
      rw [e1]; exact .undef _
  refine Code.wp_mono (fun e a' w' => ?_) (h κ rfl _ _ h0)
  rintro ⟨st', ⟨he, vs, hvs, rfl, rfl, rfl⟩, ι', hr⟩
  obtain ⟨us, hus, hres⟩ := results_ok hr fn hvs
  have hv := pack_rv hus
  rcases he with rfl | rfl
  · exact ⟨hr.dfr, _, hres, _, ι', rfl, hr.m, hv⟩
  · exact ⟨hr.dfr, _, hres, _, ι', rfl, hr.m, hv⟩

theorem evIn_ok {P : Program} {Γ : Orc} {In : InOrc} (hΓ : GammaOk P Γ) (hI : InOk P In) (hm : P.follows .mixedOrders = true) (hP : progOk P = true) {breath f : Nat} {fn : Func} (hf : P.funcs[f]? = some fn) {args : List V} {T T' : Tab} {g g' : List V} {res : V}
    (h : evIn Γ In P breath fn args T g = some (res, T', g')) : SpecI P f args T g res T' g' ∧ ∃ fn, P.funcs[f]? = some fn ∧ (fn.name == "runtime.NumGoroutine") = false ∧ fn.body.isNone = false := by
  unfold evIn at h
  split at h
  · cases h
  · rename_i c hc
    split at h
    · rename_i hn
      have hcode := (progOk_get hP hf).2 c hc
      refine ⟨specI_of hf hc hn fun κ hκ => ?_, fn, hf, (progOk_get hP hf).1, by simp [hc]⟩
      subst hκ
      split at h
      · cases h
      · rename_i e st he hne
        refine (ev_ok hΓ hI hm hcode hne).mono fun e' s ⟨e1, e2⟩ => ?_
        simp only at e1 e2
        subst e1 e2
        split at h
        · rename_i vs hvs
          simp only [Option.some.injEq, Prod.mk.injEq] at h
          refine ⟨?_, vs, hvs, h.1, h.2.1, h.2.2⟩
          cases e with
          | normal => exact .inl rfl
          | ret => exact .inr rfl
          | exit i => first | exact (he i rfl).elim | exact (he i _ rfl).elim | exact (he i).elim
        · cases h
      · cases h
    · cases h

theorem evO_ok {P : Program} {Ξ : Orc} {inl : List Nat} (hΞ : GammaOk P Ξ) (hm : P.follows .mixedOrders = true) (hP : progOk P = true) {breath : Nat} : ∀ n, GammaOk P (evO Ξ inl P breath n).1 ∧ InOk P (evO Ξ inl P breath n).2
  | 0 => ⟨hΞ, fun _ _ _ _ _ _ _ h => by cases h⟩
  | n + 1 => by
    obtain ⟨ih1, ih2⟩ := evO_ok (inl := inl) hΞ hm hP (breath := breath) n
    refine ⟨fun f xs lb res lb' lf h => ?_, fun f xs T g res T' g' h => ?_⟩
    · simp only [evO] at h
      split at h
      · rename_i r hr
        injection h with h; subst h
        exact hΞ f xs lb res lb' lf hr
      · split at h
        · rename_i fn hf
          exact evBody_ok ih1 ih2 hm hP hf h
        · cases h
    · simp only [evO] at h
      split at h
      · rename_i fn hf
        split at h
        · exact evIn_ok ih1 ih2 hm hP hf h
        · cases h
      · cases h
theorem evC_ok {P : Program} {Ξ : Orc} (hΞ : GammaOk P Ξ) (hm : P.follows .mixedOrders = true) (hP : progOk P = true) {breath : Nat} {inl : List Nat} (n : Nat) : GammaOk P (evC Ξ inl P breath n) := (evO_ok hΞ hm hP n).1

def noneΞ : Orc := fun _ _ _ => none
theorem noneΞ_ok (P : Program) : GammaOk P noneΞ := fun _ _ _ _ _ _ h => by cases h

/-- A call of no arguments that comes to a bool. -/
def isTrue : Option (V × List OK × List OK) → Bool
  | some (.bool true, [], []) => true
  | some (.bs true, [], []) => true
  | _ => false
theorem closed_of {P : Program} (hm : P.follows .mixedOrders = true) (hP : progOk P = true) {inl : List Nat} {breath n f : Nat} {b : Bool} (h : evC noneΞ inl P breath n f [] [] = some (.bool b, [], [])) (w : World) :
    Calls P f #[] w fun e w' => e = .returned (.bool b) ∧ Below w.heap.size w w' := by
  have hs := (evC_ok (noneΞ_ok P) hm hP n f [] [] (.bool b) [] [] h).1
  have htr : TR (fun _ => False) (tabU [] []) (fun _ => 0) w := by
    refine ⟨fun t => ?_, fun t u ht => ?_, fun t ht => ?_⟩
    · have : (tabU [] []).get t = ⟨0, .dead⟩ := rfl
      rw [this]; trivial
    · exact ht.elim
    · exact ht.elim
  refine (hs w #[] (fun _ => 0) (fun _ => False) htr .nil).mono fun e w' => ?_
  rintro ⟨v, β', rfl, hk, _, hv, _⟩
  refine ⟨?_, (hk.mono (Y := fun _ => False) fun k _ ⟨t, ht, _⟩ => ht).below⟩
  rw [hv.bool_]

theorem closed_true {P : Program} (hm : P.follows .mixedOrders = true) (hP : progOk P = true) {inl : List Nat} {breath n f : Nat} (h : isTrue (evC noneΞ inl P breath n f [] []) = true) (w : World) :
    Calls P f #[] w fun e w' => e = .returned (.bool true) ∧ Below w.heap.size w w' := by
  have key : ∀ r, evC noneΞ inl P breath n f [] [] = some r → r = (.bool true, [], []) ∨ r = (.bs true, [], []) := by
    intro r hr
    rw [hr] at h
    unfold isTrue at h
    split at h
    · rename_i e; injection e with e; exact .inl e
    · rename_i e; injection e with e; exact .inr e
    · cases h
  cases hr : evC noneΞ inl P breath n f [] [] with
  | none => rw [hr] at h; cases h
  | some r =>
    have hs := (evC_ok (noneΞ_ok P) hm hP n f [] [] r.1 r.2.1 r.2.2 hr).1
    have htr : TR (fun _ => False) (tabU [] []) (fun _ => 0) w := by
      refine ⟨fun t => ?_, fun t u ht => ?_, fun t ht => ?_⟩
      · have : (tabU [] []).get t = ⟨0, .dead⟩ := rfl
        rw [this]; trivial
      · exact ht.elim
      · exact ht.elim
    rcases key r hr with rfl | rfl
    all_goals
      refine (hs w #[] (fun _ => 0) (fun _ => False) htr .nil).mono fun e w' => ?_
      rintro ⟨v, β', rfl, hk, _, hv, _⟩
      refine ⟨?_, (hk.mono (Y := fun _ => False) fun k _ ⟨t, ht, _⟩ => ht).below⟩
      first | rw [hv.bool_] | rw [hv.bs_]
end Go.Abs
