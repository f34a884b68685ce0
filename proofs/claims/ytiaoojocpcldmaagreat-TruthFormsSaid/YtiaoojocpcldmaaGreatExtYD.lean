/- Code and calls of the machine in few and small steps, to their ends. -/
import Derived.Test.YtiaoojocpcldmaaGreatExtYC
namespace Go.Abs
open Go.RowKit
set_option linter.unusedVariables false
set_option linter.unusedSimpArgs false
noncomputable section
section
variable {β : Type _}
/-! Ahead of a loop's next round: the last ones alone. -/
def qDed {γ : Type _} (f : Nat → Option Nat) (l : List (Nat × γ)) (m : Nat) (k : List (Nat × γ) → Option β) : Option β :=
  List.rec (motive := fun _ => Nat → (List (Nat × γ) → Option β) → Option β) (fun m k => k [])
    (fun p _ ih m k => match f p.1 with
      | none => ih m fun r => k (p :: r)
      | some i => Bool.rec (motive := fun _ => Option β) (ih (Nat.lor m (Nat.shiftLeft 1 i)) fun r => k (p :: r)) (ih m k) (Nat.testBit m i)) l m k
theorem qDed_ok {γ : Type _} {f : Nat → Option Nat} (hf : ∀ a b i, f a = some i → f b = some i → a = b) (d : γ) {r : β} : ∀ (l : List (Nat × γ)) (m : Nat) (k : List (Nat × γ) → Option β), qDed f l m k = some r →
    ∃ l', k l' = some r ∧ ∀ t, (∀ i, f t = some i → m.testBit i = false) → aget d l' t = aget d l t
  | [], m, k, h => ⟨[], h, fun _ _ => rfl⟩
  | (a, x) :: l, m, k, h => by
    have h' : (match f a with
      | none => qDed f l m fun r => k ((a, x) :: r)
      | some i => Bool.rec (motive := fun _ => Option β) (qDed f l (Nat.lor m (Nat.shiftLeft 1 i)) fun r => k ((a, x) :: r)) (qDed f l m k) (Nat.testBit m i)) = some r := h
    split at h'
    · rename_i ha
      obtain ⟨l', h1, h2⟩ := qDed_ok hf d l m _ h'
      refine ⟨_, h1, fun t ht => ?_⟩
      simp only [aget]
      split
      · rfl
      · exact h2 t ht
    · rename_i i ha
      cases hb : Nat.testBit m i with
      | true =>
        rw [hb] at h'
        obtain ⟨l', h1, h2⟩ := qDed_ok hf d l m k h'
        refine ⟨_, h1, fun t ht => ?_⟩
        rw [h2 t ht]
        have hne : ¬ a = t := fun e => by subst e; rw [ht i ha] at hb; cases hb
        simp only [aget, if_neg hne]
      | false =>
        rw [hb] at h'
        obtain ⟨l', h1, h2⟩ := qDed_ok hf d l _ _ h'
        refine ⟨_, h1, fun t ht => ?_⟩
        simp only [aget]
        split
        · rfl
        · rename_i hne
          refine h2 t fun j hj => ?_
          have hji : j ≠ i := fun e => hne (hf _ _ _ ha (e ▸ hj))
          have e1 : Nat.lor m (Nat.shiftLeft 1 i) = m ||| (1 <<< i) := rfl
          rw [e1, Nat.testBit_or, ht j hj, Nat.testBit_shiftLeft]
          simp only [Bool.false_or, Bool.and_eq_false_iff, decide_eq_false_iff_not]
          by_cases hle : i ≤ j
          · right
            exact Nat.testBit_lt_two_pow (Nat.one_lt_two_pow (by omega))
          · left; omega
def fSlot (t : Nat) : Option Nat := some t
def fSite (s : Nat) : Option Nat := Bool.rec (motive := fun _ => Option Nat) none (Bool.rec (motive := fun _ => Option Nat) (Bool.rec (motive := fun _ => Option Nat) none (Bool.rec (motive := fun _ => Option Nat) none (some (Nat.sub s 1000000)) (Nat.blt s 1000064)) (Nat.ble 1000000 s)) (some (Nat.sub s 936)) (Nat.blt s 100000)) (Nat.ble 1000 s)
theorem fSlot_inj : ∀ a b i, fSlot a = some i → fSlot b = some i → a = b := fun a b i h1 h2 => by
  simp only [fSlot, Option.some.injEq] at h1 h2; omega
theorem fSite_ok {s i : Nat} (h : fSite s = some i) : (1000 ≤ s ∧ s < 100000 ∧ i = s - 936) ∨ (1000000 ≤ s ∧ s < 1000064 ∧ i = s - 1000000) := by
  unfold fSite at h
  cases h1 : Nat.ble 1000 s with
  | false => rw [h1] at h; cases h
  | true =>
    rw [h1] at h
    have h1 := Nat.le_of_ble_eq_true h1
    cases h2 : Nat.blt s 100000 with
    | true => rw [h2] at h; simp only [Option.some.injEq] at h; exact .inl ⟨h1, blt_lt h2, h.symm⟩
    | false =>
      rw [h2] at h
      cases h3 : Nat.ble 1000000 s with
      | false => rw [h3] at h; cases h
      | true =>
        rw [h3] at h
        cases h4 : Nat.blt s 1000064 with
        | false => rw [h4] at h; cases h
        | true => rw [h4] at h; simp only [Option.some.injEq] at h; exact .inr ⟨Nat.le_of_ble_eq_true h3, blt_lt h4, h.symm⟩
theorem fSite_inj : ∀ a b i, fSite a = some i → fSite b = some i → a = b := fun a b i h1 h2 => by
  rcases fSite_ok h1 with h1 | h1 <;> rcases fSite_ok h2 with h2 | h2 <;> omega
def yDed (st : St) (c : Nat) (k : YK β) : Option β :=
  St.rec (motive := fun _ => Option β) (fun n t o g => qDed fSlot t 0 fun t => qDed fSite o 0 fun o => k ⟨n, t, o, g⟩ c) st
theorem yDed_ok {st : St} {c : Nat} {k : YK β} {r : β} (h : yDed st c k = some r) : ∃ st', k st' c = some r ∧ ∀ κ a w, Rel κ st a w → Rel κ st' a w := by
  obtain ⟨n, t, o, g⟩ := st
  have h' : (qDed fSlot t 0 fun t => qDed fSite o 0 fun o => k ⟨n, t, o, g⟩ c) = some r := h
  obtain ⟨t', h1, h2⟩ := qDed_ok fSlot_inj V.undef t 0 _ h'
  obtain ⟨o', h3, h4⟩ := qDed_ok fSite_inj (⟨0, .dead⟩ : Ob) o 0 _ h1
  refine ⟨_, h3, fun κ a w hr => hr.congr rfl rfl (fun u => ?_) (fun s => ?_)⟩
  · exact h2 u fun i _ => by simp
  · exact h4 s fun i _ => by simp

/-! Code. -/
abbrev XK (β : Type _) := Ex → St → Nat → Option β
def evYs (Γ : Orc) (In : InOrc) (inl : List Nat) (P : Program) (ih : Code → St → Nat → XK β → Option β) (c : Code) (st : St) (cn : Nat) (k : XK β) : Option β := match c with
  | .skip => k .normal st cn
  | .label _ => k .normal st cn
  | .exit id => k (.exit id) st cn
  | .ret => k .ret st cn
  | .region _ ops draw => regY Γ In inl P ops draw st cn fun st cn => k .normal st cn
  | .seq x y => ih x st cn fun e s cn => match e with
    | .normal => ih y s cn k
    | e => k e s cn
  | .cond c x y => qEval st c fun v => match v with
    | .bool b => Bool.rec (motive := fun _ => Option β) (ih y st cn k) (ih x st cn k) b
    | _ => none
  | .block id c => ih c st cn fun e s cn => match e with
    | .exit i => Bool.rec (motive := fun _ => Option β) (k (.exit i) s cn) (k .normal s cn) (Nat.beq i id)
    | e => k e s cn
  | .loop c => ih c st cn fun e s cn => match e with
    | .normal => yDed s cn fun s cn => ih (.loop c) s cn k
    | e => k e s cn
  | _ => none
def evY (Γ : Orc) (In : InOrc) (inl : List Nat) (P : Program) (n : Nat) : Code → St → Nat → XK β → Option β :=
  Nat.rec (motive := fun _ => Code → St → Nat → XK β → Option β) (fun _ _ _ _ => none) (fun _ ih => evYs Γ In inl P ih) n
def kQY (k : XK β) (r : β) : Exit → St → Prop := fun e s => ∃ x c, e = x.to ∧ k x s c = some r
theorem evY_both {κ : Cx} {Γ : Orc} {In : InOrc} {inl : List Nat} (hΓ : GammaOk2 κ.P Γ) (hI : InOk κ.P In) (hm : κ.P.follows .mixedOrders = true) : ∀ (n : Nat) (c : Code) (st : St) (cn : Nat) (k : XK β) (r : β), codeOk c = true → evY Γ In inl κ.P n c st cn k = some r →
    (HT κ c (kQY k r) st ∧ ∀ c', c = .loop c' → ∀ a w, Rel κ st a w → Code.rounds κ.P c' (fun e a' w' => ∃ st', kQY k r e st' ∧ Rel κ st' a' w') n a w)
  | 0, c, st, cn, k, r, _, h => by cases h
  | n + 1, c, st, cn, k, r, hc, h => by
    have ih := evY_both hΓ hI hm (inl := inl) n
    have h : evYs Γ In inl κ.P (evY Γ In inl κ.P n) c st cn k = some r := h
    cases c with
    | skip => simp only [evYs] at h; exact ⟨HT.skip ⟨.normal, _, rfl, h⟩, fun _ e => by cases e⟩
    | label l => simp only [evYs] at h; exact ⟨HT.label ⟨.normal, _, rfl, h⟩, fun _ e => by cases e⟩
    | exit id => simp only [evYs] at h; exact ⟨HT.exit ⟨.exit id, _, rfl, h⟩, fun _ e => by cases e⟩
    | ret => simp only [evYs] at h; exact ⟨HT.ret ⟨.ret, _, rfl, h⟩, fun _ e => by cases e⟩
    | region id ops draw =>
      simp only [evYs] at h
      exact ⟨HT.regY hΓ hI hm (by simpa [codeOk] using hc) h fun st' c' hk => ⟨.normal, c', rfl, hk⟩, fun _ e => by cases e⟩
    | seq x y =>
      simp only [codeOk, Bool.and_eq_true] at hc
      simp only [evYs] at h
      refine ⟨?_, fun _ e => by cases e⟩
      refine HT.seq (((ih x st cn _ r hc.1 h).1).mono fun e s hq => ?_)
      obtain ⟨ex, c', rfl, hk⟩ := hq
      cases ex with
      | normal => exact (ih y s c' k r hc.2 hk).1
      | exit i => exact ⟨.exit i, c', rfl, hk⟩
      | ret => exact ⟨.ret, c', rfl, hk⟩
    | cond o x y =>
      simp only [codeOk, Bool.and_eq_true] at hc
      simp only [evYs, qEval_eq] at h
      refine ⟨?_, fun _ e => by cases e⟩
      split at h
      · rename_i b ho
        cases b with
        | true => exact HT.cond ho ((ih x st cn k r hc.1 h).1)
        | false => exact HT.cond ho ((ih y st cn k r hc.2 h).1)
      · cases h
    | block id c =>
      simp only [codeOk] at hc
      simp only [evYs] at h
      refine ⟨?_, fun _ e => by cases e⟩
      refine HT.block (((ih c st cn _ r hc h).1).mono fun e s hq => ?_)
      obtain ⟨ex, c', rfl, hk⟩ := hq
      cases ex with
      | normal => exact ⟨.normal, c', rfl, hk⟩
      | ret => exact ⟨.ret, c', rfl, hk⟩
      | exit i =>
        simp only at hk
        show if i = id then kQY k r .normal s else kQY k r (.exit i) s
        by_cases hi : i = id
        · subst hi
          rw [Nat.beq_refl] at hk
          simp only [if_true]
          exact ⟨.normal, c', rfl, hk⟩
        · rw [if_neg hi]
          rw [beq_ne hi] at hk
          exact ⟨.exit i, c', rfl, hk⟩
    | loop c =>
      have hc' : codeOk c = true := by simpa [codeOk] using hc
      simp only [evYs] at h
      have key : ∀ a w, Rel κ st a w → Code.rounds κ.P c (fun e a' w' => ∃ st', kQY k r e st' ∧ Rel κ st' a' w') (n + 1) a w := by
        intro a w hr
        refine wp_mono (((ih c st cn _ r hc' h).1) a w hr) fun e a' w' ⟨s', hq, hr'⟩ => ?_
        obtain ⟨ex, c', rfl, hk⟩ := hq
        cases ex with
        | normal =>
          simp only at hk
          obtain ⟨s2, hk2, hrel⟩ := yDed_ok hk
          exact (ih (.loop c) s2 c' k r (by simpa [codeOk] using hc') hk2).2 c rfl a' w' (hrel _ _ _ hr')
        | exit i => exact ⟨s', ⟨.exit i, c', rfl, hk⟩, hr'⟩
        | ret => exact ⟨s', ⟨.ret, c', rfl, hk⟩, hr'⟩
      refine ⟨fun a w hr => wp_loop_rounds (n + 1) (key a w hr), fun c' e => ?_⟩
      cases e
      exact key
    | _ => cases h

/-! What is given back. -/
def tmpsOf : List ResultVar → Option (List Nat)
  | [] => some []
  | .tmp t :: r => (tmpsOf r).map (t :: ·)
  | .cell _ _ :: _ => none
def qGets (T : List (Nat × V)) (l : List Nat) (k : List V → β) : β :=
  List.rec (motive := fun _ => (List V → β) → β) (fun k => k []) (fun x _ ih k => qAt .undef T x fun v => ih fun vs => k (v :: vs)) l k
theorem qGets_eq (T : List (Nat × V)) : ∀ (l : List Nat) (k : List V → β), qGets T l k = k (l.map (aget .undef T))
  | [], k => rfl
  | x :: l, k => by
    show (qAt .undef T x fun v => qGets T l fun vs => k (v :: vs)) = _
    rw [qAt_eq, qGets_eq T l]
    rfl
end
theorem tmpsOf_ok {P : Program} {st : St} : ∀ {l : List ResultVar} {ts : List Nat}, tmpsOf l = some ts → resL P st l = some (ts.map st.get)
  | [], ts, h => by injection h with h; subst h; rfl
  | .tmp t :: r, ts, h => by
    simp only [tmpsOf] at h
    cases hr : tmpsOf r with
    | none => rw [hr] at h; cases h
    | some ts' =>
      rw [hr] at h
      simp only [Option.map_some, Option.some.injEq] at h
      subst h
      simp only [resL, resV, tmpsOf_ok (P := P) (st := st) hr, List.map_cons]
  | .cell _ _ :: _, ts, h => by cases h
def retYm (P : Program) (fn : Func) (lb : List OK) (st : St) : Option (V × List OK × List OK) :=
  match lb with
  | [] => match tmpsOf fn.results.toList with
    | some ts => qGets st.t ts fun vs => Bool.rec (motive := fun _ => Option (V × List OK × List OK)) (retZ P fn [] .ret st) (match vs with
      | [v] => some (v, [], [])
      | vs => some (.tup vs, [], [])) (qPureL vs)
    | none => retZ P fn [] .ret st
  | lb => retZ P fn lb .ret st
def retY (P : Program) (fn : Func) (lb : List OK) (e : Ex) (st : St) (c : Nat) : Option (V × List OK × List OK) :=
  match e with
  | .exit _ => none
  | _ => retYm P fn lb st
theorem retV2_pure {T : Tab} {nb : Nat} {ss : List Nat} {v : V} (h : v.pure = true) : retV2 depth T nb ss v = some (v, [], ss) := by
  unfold retV2
  split
  · cases h
  · unfold retV
    split
    · cases h
    · cases h
    · rw [show depth = 7 + 1 from rfl, view_pure h]
theorem viewR_pure {T : Tab} {nb : Nat} {ss : List Nat} : ∀ {l : List V}, pureL l = true → viewL (retV2 depth T nb) ss l = some (l, [], ss)
  | [], _ => rfl
  | v :: l, h => by
    simp only [pureL, Bool.and_eq_true] at h
    simp only [viewL, retV2_pure h.1, viewR_pure h.2, List.nil_append]
theorem retOf2_pure {P : Program} {fn : Func} {st : St} {vs : List V} (h : resL P st fn.results.toList = some vs) (hp : pureL vs = true) : retOf2 P fn kAll [] st = some (packV vs, [], []) := by
  unfold retOf2
  rw [h]
  simp only [List.length_nil, viewR_pure hp, keepL, freshOf2]
  rw [if_pos ⟨by simp, by simp [bSites]⟩]
  rfl
theorem retY_ok {P : Program} {fn : Func} {lb : List OK} {e : Ex} {st : St} {c : Nat} {res : V} {lb' lf : List OK} (h : retY P fn lb e st c = some (res, lb', lf)) :
    (e.to = .normal ∨ e.to = .ret) ∧ (rlens st.o kAll 0 lb).all id = true ∧ retOf2 P fn kAll lb st = some (res, lb', lf) := by
  have hz : ∀ {lb}, retZ P fn lb .ret st = some (res, lb', lf) → (rlens st.o kAll 0 lb).all id = true ∧ retOf2 P fn kAll lb st = some (res, lb', lf) := by
    intro lb hk
    unfold retZ at hk
    simp only at hk
    split at hk
    · rename_i hl
      split at hk
      · rename_i r l1 l2 hr
        simp only [zV_eq, zList_eq zOK_eq] at hk
        injection hk with hk
        injection hk with e1 hk; injection hk with e2 e3
        subst e1 e2 e3
        exact ⟨hl, hr⟩
      · cases hk
    · cases hk
  have main : retYm P fn lb st = some (res, lb', lf) → (rlens st.o kAll 0 lb).all id = true ∧ retOf2 P fn kAll lb st = some (res, lb', lf) := by
    intro h
    unfold retYm at h
    split at h
    · split at h
      · rename_i ts hts
        rw [qGets_eq] at h
        cases hp : qPureL (ts.map (aget .undef st.t)) with
        | false => rw [hp] at h; exact hz h
        | true =>
          rw [hp] at h
          rw [qPureL_eq] at hp
          have hr := tmpsOf_ok (P := P) (st := st) hts
          have hr2 := retOf2_pure hr hp
          refine ⟨rfl, ?_⟩
          rw [hr2]
          have e : ts.map st.get = ts.map (aget .undef st.t) := rfl
          rw [e]
          generalize ts.map (aget .undef st.t) = vs at h ⊢
          simp only at h
          split at h
          · simp only [packV]; exact h
          · rename_i hne
            rw [← h]
            unfold packV
            split
            · exact absurd rfl (hne _)
            · rfl
      · exact hz h
    · exact hz h
  unfold retY at h
  cases e with
  | exit i => cases h
  | normal => exact ⟨.inl rfl, main h⟩
  | ret => exact ⟨.inr rfl, main h⟩
def bodyY (Γ : Orc) (In : InOrc) (inl : List Nat) (P : Program) (breath : Nat) (fn : Func) (args : List V) (lb : List OK) : Option (V × List OK × List OK) :=
  match fn.body with
  | none => none
  | some c => if args.length ≤ fn.ntmps then zList zPair (slots 0 args) fun t => zTab (tabU lb []) fun T => evY Γ In inl P breath c ⟨fn.ntmps, t, T, []⟩ 1000 (retY P fn lb) else none
theorem bodyY_ok {P : Program} {Γ : Orc} {In : InOrc} {inl : List Nat} (hΓ : GammaOk2 P Γ) (hI : InOk P In) (hm : P.follows .mixedOrders = true) (hP : progOk P = true) {breath f : Nat} {fn : Func} (hf : P.funcs[f]? = some fn) {args : List V} {lb : List OK} {res : V} {lb' lf : List OK}
    (h : bodyY Γ In inl P breath fn args lb = some (res, lb', lf)) : Spec2 P f args lb res lb' lf ∧ ∃ fn, P.funcs[f]? = some fn ∧ (fn.name == "runtime.NumGoroutine") = false ∧ fn.body.isNone = false := by
  unfold bodyY at h
  split at h
  · cases h
  · rename_i c hc
    split at h
    · rename_i hn
      rw [zList_eq zPair_eq, zTab_eq] at h
      have hcode := (progOk_get hP hf).2 c hc
      refine ⟨?_, fn, hf, (progOk_get hP hf).1, by simp [hc]⟩
      have hG := spec2_ofG (kp := kAll) (G := fun r l1 l2 => r = res ∧ l1 = lb' ∧ l2 = lf) (lb := lb) (args := args) hf hc hn fun κ hκ hgv => by
        subst hκ
        refine ((evY_both hΓ hI hm breath c _ _ _ _ hcode h).1).mono fun e s hq => ?_
        obtain ⟨x, cn, rfl, hk⟩ := hq
        obtain ⟨h1, h2, h3⟩ := retY_ok hk
        exact ⟨h1, h2, _, _, _, h3, rfl, rfl, rfl⟩
      intro w cargs β S htr hargs
      refine (hG w cargs β S htr hargs).mono fun e w' => ?_
      rintro ⟨_, _, _, ⟨rfl, rfl, rfl⟩, hh⟩
      exact hh
    · cases h
def inY (Γ : Orc) (In : InOrc) (inl : List Nat) (P : Program) (breath : Nat) (fn : Func) (args : List V) (T : Tab) (g : List V) : Option (V × Tab × List V) :=
  match fn.body with
  | none => none
  | some c => if args.length ≤ fn.ntmps then zList zPair (slots 0 args) fun t => zTab T fun T => zList (zV 12) g fun g => qN (nextC T 1000) fun cn => evY Γ In inl P breath c ⟨fn.ntmps, t, T, g⟩ cn fun e st cn => match e with
      | .exit _ => none
      | _ => match resL P st fn.results.toList with
        | some vs => zV 12 (packV vs) fun v => zTab st.o fun T => zList (zV 12) st.g fun g => some (v, T, g)
        | none => none
    else none
theorem inY_ok {P : Program} {Γ : Orc} {In : InOrc} {inl : List Nat} (hΓ : GammaOk2 P Γ) (hI : InOk P In) (hm : P.follows .mixedOrders = true) (hP : progOk P = true) {breath f : Nat} {fn : Func} (hf : P.funcs[f]? = some fn) {args : List V} {T T' : Tab} {g g' : List V} {res : V}
    (h : inY Γ In inl P breath fn args T g = some (res, T', g')) : SpecI P f args T g res T' g' ∧ ∃ fn, P.funcs[f]? = some fn ∧ (fn.name == "runtime.NumGoroutine") = false ∧ fn.body.isNone = false := by
  unfold inY at h
  split at h
  · cases h
  · rename_i c hc
    split at h
    · rename_i hn
      rw [zList_eq zPair_eq, zTab_eq, zList_eq (zV_eq 12), qN_eq] at h
      have hcode := (progOk_get hP hf).2 c hc
      refine ⟨specI_of hf hc hn fun κ hκ => ?_, fn, hf, (progOk_get hP hf).1, by simp [hc]⟩
      subst hκ
      refine ((evY_both hΓ hI hm breath c _ _ _ _ hcode h).1).mono fun e s hq => ?_
      obtain ⟨x, cn, rfl, hk⟩ := hq
      have fin : ∀ (hx : x = .normal ∨ x = .ret), (match resL κ.P s fn.results.toList with
          | some vs => zV 12 (packV vs) fun v => zTab s.o fun T => zList (zV 12) s.g fun g => some (v, T, g)
          | none => none) = some (res, T', g') → (x.to = .normal ∨ x.to = .ret) ∧ ∃ vs, resL κ.P s fn.results.toList = some vs ∧ packV vs = res ∧ s.o = T' ∧ s.g = g' := by
        intro hx hk
        split at hk
        · rename_i vs hvs
          simp only [zV_eq, zTab_eq, zList_eq (zV_eq 12)] at hk
          injection hk with hk
          injection hk with e1 hk; injection hk with e2 e3
          refine ⟨?_, vs, hvs, e1, e2, e3⟩
          rcases hx with rfl | rfl
          · exact .inl rfl
          · exact .inr rfl
        · cases hk
      cases x with
      | exit i => cases hk
      | normal => exact fin (.inl rfl) hk
      | ret => exact fin (.inr rfl) hk
    · cases h
def evOY (J : InOrc) (Ξ : Orc) (inl : List Nat) (P : Program) (breath : Nat) (n : Nat) : Orc × InOrc :=
  Nat.rec (motive := fun _ => Orc × InOrc) (Ξ, J) (fun _ ih =>
    (fun f args lb => match Ξ f args lb with
      | some r => some r
      | none => match P.funcs[f]? with
        | some fn => bodyY ih.1 ih.2 inl P breath fn args lb
        | none => none,
    fun f args T g => match J f args T g with
      | some r => some r
      | none => match inl.contains f with
        | true => match P.funcs[f]? with
          | some fn => inY ih.1 ih.2 inl P breath fn args T g
          | none => none
        | false => none)) n
theorem evOY_ok {P : Program} {J : InOrc} (hJ : InOk P J) {Ξ : Orc} {inl : List Nat} (hΞ : GammaOk2 P Ξ) (hm : P.follows .mixedOrders = true) (hP : progOk P = true) {breath : Nat} : ∀ n, GammaOk2 P (evOY J Ξ inl P breath n).1 ∧ InOk P (evOY J Ξ inl P breath n).2
  | 0 => ⟨hΞ, hJ⟩
  | n + 1 => by
    obtain ⟨ih1, ih2⟩ := evOY_ok hJ (inl := inl) hΞ hm hP (breath := breath) n
    refine ⟨fun f xs lb res lb' lf h => ?_, fun f xs T g res T' g' h => ?_⟩
    · have h : (match Ξ f xs lb with
        | some r => some r
        | none => match P.funcs[f]? with
          | some fn => bodyY (evOY J Ξ inl P breath n).1 (evOY J Ξ inl P breath n).2 inl P breath fn xs lb
          | none => none) = some (res, lb', lf) := h
      split at h
      · rename_i r hr
        injection h with h; subst h
        exact hΞ f xs lb res lb' lf hr
      · split at h
        · rename_i fn hf
          exact bodyY_ok ih1 ih2 hm hP hf h
        · cases h
    · have h : (match J f xs T g with
        | some r => some r
        | none => match inl.contains f with
          | true => match P.funcs[f]? with
            | some fn => inY (evOY J Ξ inl P breath n).1 (evOY J Ξ inl P breath n).2 inl P breath fn xs T g
            | none => none
          | false => none) = some (res, T', g') := h
      split at h
      · rename_i r hr
        injection h with h; subst h
        exact hJ _ _ _ _ _ _ _ hr
      · split at h
        · split at h
          · rename_i fn hf
            exact inY_ok ih1 ih2 hm hP hf h
          · cases h
        · cases h
def nonJ : InOrc := fun _ _ _ _ => none
theorem nonJ_ok (P : Program) : InOk P nonJ := fun _ _ _ _ _ _ _ h => by cases h
theorem closedY {P : Program} {J : InOrc} (hJ : InOk P J) (hm : P.follows .mixedOrders = true) (hP : progOk P = true) {Ξ : Orc} (hΞ : GammaOk2 P Ξ) {inl : List Nat} {breath n f : Nat} (h : isTrue ((evOY J Ξ inl P breath n).1 f [] []) = true) (w : World) :
    Calls P f #[] w fun e w' => e = .returned (.bool true) ∧ Below w.heap.size w w' := by
  have key : ∀ r, (evOY J Ξ inl P breath n).1 f [] [] = some r → r = (.bool true, [], []) ∨ r = (.bs true, [], []) := by
    intro r hr
    rw [hr] at h
    unfold isTrue at h
    split at h
    · rename_i e; injection e with e; exact .inl e
    · rename_i e; injection e with e; exact .inr e
    · cases h
  cases hr : (evOY J Ξ inl P breath n).1 f [] [] with
  | none => rw [hr] at h; cases h
  | some r =>
    have hs := ((evOY_ok hJ hΞ hm hP n).1 f [] [] r.1 r.2.1 r.2.2 hr).1
    have htr : TR (fun _ => False) (tabU [] []) (fun _ => 0) w := by
      refine ⟨fun t => ?_, fun t u ht => ?_, fun t ht => ?_⟩
      · have : (tabU [] []).get t = ⟨0, .dead⟩ := rfl
        rw [this]; trivial
      · exact ht.elim
      · exact ht.elim
    rcases key r hr with rfl | rfl
    all_goals
      refine (hs w #[] (fun _ => 0) (fun _ => False) htr .nil).mono fun e w' => ?_
      rintro ⟨v, β', rfl, hk, _, hv, _⟩
      refine ⟨?_, (hk.mono (Y := fun _ => False) fun k _ ⟨t, ht, _⟩ => ht).below⟩
      first | rw [hv.bool_] | rw [hv.bs_]
end
end Go.Abs
