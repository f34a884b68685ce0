/- Code of the machine, run to its end. -/
import Derived.Test.YtiaoojocpcldmaaGreatAbsVB
import Derived.LoopN
namespace Go.Abs
open Go.RowKit
set_option linter.unusedVariables false
set_option linter.unusedSimpArgs false

/-- Code c, begun in a state that stands as st, comes to an exit and a state of which Q says so. -/
def HT (κ : Cx) (c : Code) (Q : Exit → St → Prop) (st : St) : Prop :=
  ∀ a w, Rel κ st a w → c.wp κ.P (fun e a' w' => ∃ st', Q e st' ∧ Rel κ st' a' w') a w

def thenQ (next : St → Prop) (Q : Exit → St → Prop) : Exit → St → Prop
  | .normal, s => next s
  | e, s => Q e s
def blkQ (id : Nat) (Q : Exit → St → Prop) : Exit → St → Prop
  | .exit i, s => if i = id then Q .normal s else Q (.exit i) s
  | e, s => Q e s

section
variable {κ : Cx} {Q : Exit → St → Prop} {st : St}

theorem HT.mono {c : Code} {Q' : Exit → St → Prop} (h : HT κ c Q st) (hq : ∀ e s, Q e s → Q' e s) : HT κ c Q' st :=
  fun a w hr => wp_mono (h a w hr) fun e a' w' ⟨s, q, r⟩ => ⟨s, hq e s q, r⟩
theorem HT.skip (h : Q .normal st) : HT κ .skip Q st := fun a w hr => wp_skip ⟨st, h, hr⟩
theorem HT.exit {id : Nat} (h : Q (.exit id) st) : HT κ (.exit id) Q st := fun a w hr => wp_exit ⟨st, h, hr⟩
theorem HT.ret (h : Q .ret st) : HT κ .ret Q st := fun a w hr => wp_ret ⟨st, h, hr⟩
theorem HT.label {l : Nat} (h : Q .normal st) : HT κ (.label l) Q st := fun a w hr => wp_label ⟨st, h, hr⟩
theorem HT.seq {x y : Code} (h : HT κ x (thenQ (HT κ y Q) Q) st) : HT κ (.seq x y) Q st := fun a w hr =>
  wp_seq (wp_mono (h a w hr) fun e a' w' ⟨s, q, r⟩ => by
    cases e with
    | normal => exact q a' w' r
    | _ => exact ⟨s, q, r⟩)
theorem HT.cond {c : Operand} {x y : Code} {b : Bool} (hc : st.eval c = .bool b) (h : HT κ (if b then x else y) Q st) : HT κ (.cond c x y) Q st := fun a w hr => by
  have hr' := hr
  obtain ⟨ι, hi⟩ := hr
  have := hi.eval c
  rw [hc] at this
  exact wp_cond this.bool_ (h a w hr')
theorem HT.condS {c : Operand} {x y : Code} {b : Bool} (hc : st.eval c = .bs b) (h : HT κ (if b then x else y) Q st) : HT κ (.cond c x y) Q st := fun a w hr => by
  have hr' := hr
  obtain ⟨ι, hi⟩ := hr
  have := hi.eval c
  rw [hc] at this
  exact wp_cond this.bs_ (h a w hr')
theorem HT.block {id : Nat} {c : Code} (h : HT κ c (blkQ id Q) st) : HT κ (.block id c) Q st := fun a w hr =>
  wp_block (wp_mono (h a w hr) fun e a' w' ⟨s, q, r⟩ => by
    cases e with
    | exit i =>
      simp only [Exit.inBlock, blkQ] at q ⊢
      split
      · rename_i e; rw [if_pos e] at q; exact ⟨s, q, r⟩
      · rename_i e; rw [if_neg e] at q; exact ⟨s, q, r⟩
    | _ => exact ⟨s, q, r⟩)

theorem rounds_mono {P : Program} {c : Code} {Q : Exit → Act → World → Prop} : ∀ (n m : Nat) (a : Act) (w : World), n ≤ m → Code.rounds P c Q n a w → Code.rounds P c Q m a w
  | 0, m, a, w, _, h => h.elim
  | n + 1, 0, a, w, hl, _ => absurd hl (by omega)
  | n + 1, m + 1, a, w, hl, h => wp_mono h fun e a' w' q => by
    cases e with
    | normal => exact rounds_mono n m a' w' (by omega) q
    | _ => exact q

/-- A loop by something that holds ahead of each round, and a number that goes down. -/
theorem HT.loop {c : Code} (I : Nat → St → Prop) (hI : ∀ k s, I k s → HT κ c (thenQ (fun s' => ∃ j, j < k ∧ I j s') Q) s) {k : Nat} (h : I k st) : HT κ (.loop c) Q st := by
  have key : ∀ k s a w, I k s → Rel κ s a w → Code.rounds κ.P c (fun e a' w' => ∃ st', Q e st' ∧ Rel κ st' a' w') (k + 1) a w := by
    intro k
    induction k using Nat.strongRecOn with
    | _ k ih =>
      intro s a w hs hr
      refine wp_mono (hI k s hs a w hr) fun e a' w' ⟨s', q, r⟩ => ?_
      cases e with
      | normal =>
        obtain ⟨j, hj, hs'⟩ := q
        exact rounds_mono (j + 1) k a' w' (by omega) (ih j hj s' a' w' hs' r)
      | _ => exact ⟨s', q, r⟩
  exact fun a w hr => wp_loop_rounds (k + 1) (key k st a w h hr)

def execRegion (Γ : Orc) (In : InOrc) (P : Program) (ops : Array Oper) (draw : Bool) (st : St) : Option St :=
  let st := spill st ops.toList
  if draw then execDraw Γ P ops.toList st else stepsI Γ In P ops.toList ops.toList st

theorem HT.region {Γ : Orc} {In : InOrc} (hΓ : GammaOk κ.P Γ) (hI : InOk κ.P In) (hm : κ.P.follows .mixedOrders = true) {id : Nat} {ops : Array Oper} {draw : Bool} (htmp : (!draw || tmpsOk ops.toList) = true) {st' : St}
    (hx : execRegion Γ In κ.P ops draw st = some st') (h : Q .normal st') : HT κ (.region id ops draw) Q st := fun a w hr => by
  cases draw with
  | true =>
    simp only [execRegion, if_true] at hx
    exact draw_ok hΓ hm (by simpa using htmp) hx (hr.spill _) fun a' w' hr' => ⟨st', h, hr'⟩
  | false =>
    simp only [execRegion, Bool.false_eq_true, if_false] at hx
    exact wp_region_list (stepsI_ok hΓ hI ops.toList _ st' a w hx (hr.spill _) fun a' w' hr' => ⟨st', h, hr'⟩)
end

def codeOk : Code → Bool
  | .region _ ops draw => !draw || tmpsOk ops.toList
  | .seq x y => codeOk x && codeOk y
  | .cond _ x y => codeOk x && codeOk y
  | .block _ c => codeOk c
  | .loop c => codeOk c
  | _ => true

inductive Ex where
  | normal
  | exit (id : Nat)
  | ret
def Ex.to : Ex → Exit
  | .normal => .normal
  | .exit id => .exit id
  | .ret => .ret

/-- Code run, with so much breath. -/
def ev (Γ : Orc) (In : InOrc) (P : Program) : Nat → Code → St → Option (Ex × St)
  | 0, _, _ => none
  | n + 1, c, st => match c with
    | .skip => some (.normal, st)
    | .label _ => some (.normal, st)
    | .exit id => some (.exit id, st)
    | .ret => some (.ret, st)
    | .region _ ops draw => match execRegion Γ In P ops draw st with
      | some st' => some (.normal, st')
      | none => none
    | .seq x y => match ev Γ In P n x st with
      | some (.normal, st') => ev Γ In P n y st'
      | r => r
    | .cond c x y => match st.eval c with
      | .bool true => ev Γ In P n x st
      | .bool false => ev Γ In P n y st
      | .bs true => ev Γ In P n x st
      | .bs false => ev Γ In P n y st
      | _ => none
    | .block id c => match ev Γ In P n c st with
      | some (.exit i, st') => if i = id then some (.normal, st') else some (.exit i, st')
      | r => r
    | .loop c => match ev Γ In P n c st with
      | some (.normal, st') => ev Γ In P n (.loop c) st'
      | r => r
    | _ => none

def evQ (r : Ex × St) : Exit → St → Prop := fun e s => e = r.1.to ∧ s = r.2

theorem ev_both {κ : Cx} {Γ : Orc} {In : InOrc} (hΓ : GammaOk κ.P Γ) (hI : InOk κ.P In) (hm : κ.P.follows .mixedOrders = true) : ∀ (n : Nat) (c : Code) (st : St) (r : Ex × St), codeOk c = true → ev Γ In κ.P n c st = some r →
    (HT κ c (evQ r) st ∧ ∀ c', c = .loop c' → ∀ a w, Rel κ st a w → Code.rounds κ.P c' (fun e a' w' => ∃ st', evQ r e st' ∧ Rel κ st' a' w') n a w)
  | 0, c, st, r, _, h => by simp [ev] at h
  | n + 1, c, st, r, hc, h => by
    have ih := ev_both hΓ hI hm n
    cases c with
    | skip => simp [ev] at h; subst h; exact ⟨HT.skip ⟨rfl, rfl⟩, fun _ e => by cases e⟩
    | label l => simp [ev] at h; subst h; exact ⟨HT.label ⟨rfl, rfl⟩, fun _ e => by cases e⟩
    | exit id => simp [ev] at h; subst h; exact ⟨HT.exit ⟨rfl, rfl⟩, fun _ e => by cases e⟩
    | ret => simp [ev] at h; subst h; exact ⟨HT.ret ⟨rfl, rfl⟩, fun _ e => by cases e⟩
    | region id ops draw =>
      simp only [ev] at h
      split at h
      · rename_i st' hx
        injection h with h; subst h
        exact ⟨HT.region hΓ hI hm (by simpa [codeOk] using hc) hx ⟨rfl, rfl⟩, fun _ e => by cases e⟩
      · cases h
    | seq x y =>
      simp only [codeOk, Bool.and_eq_true] at hc
      simp only [ev] at h
      refine ⟨?_, fun _ e => by cases e⟩
      cases hx : ev Γ In κ.P n x st with
      | none => simp [hx] at h
      | some rx =>
        obtain ⟨ex, sx⟩ := rx
        have hhx := (ih x st _ hc.1 hx).1
        rw [hx] at h
        cases ex with
        | normal =>
          simp only at h
          exact HT.seq (hhx.mono fun e s ⟨e1, e2⟩ => by subst e1 e2; exact (ih y s r hc.2 h).1)
        | exit i =>
          simp only at h; injection h with h; subst h
          exact HT.seq (hhx.mono fun e s ⟨e1, e2⟩ => by subst e1 e2; exact ⟨rfl, rfl⟩)
        | ret =>
          simp only at h; injection h with h; subst h
          exact HT.seq (hhx.mono fun e s ⟨e1, e2⟩ => by subst e1 e2; exact ⟨rfl, rfl⟩)
    | cond o x y =>
      simp only [codeOk, Bool.and_eq_true] at hc
      simp only [ev] at h
      refine ⟨?_, fun _ e => by cases e⟩
      split at h
      · rename_i ho; exact HT.cond ho ((ih x st r hc.1 h).1)
      · rename_i ho; exact HT.cond ho ((ih y st r hc.2 h).1)
      · rename_i ho; exact HT.condS ho ((ih x st r hc.1 h).1)
      · rename_i ho; exact HT.condS ho ((ih y st r hc.2 h).1)
      · cases h
    | block id c =>
      simp only [codeOk] at hc
      simp only [ev] at h
      refine ⟨?_, fun _ e => by cases e⟩
      cases hx : ev Γ In κ.P n c st with
      | none => simp [hx] at h
      | some rx =>
        obtain ⟨ex, sx⟩ := rx
        have hhx := (ih c st _ hc hx).1
        rw [hx] at h
        cases ex with
        | normal =>
          simp only at h; injection h with h; subst h
          exact HT.block (hhx.mono fun e s ⟨e1, e2⟩ => by subst e1 e2; exact ⟨rfl, rfl⟩)
        | ret =>
          simp only at h; injection h with h; subst h
          exact HT.block (hhx.mono fun e s ⟨e1, e2⟩ => by subst e1 e2; exact ⟨rfl, rfl⟩)
        | exit i =>
          simp only at h
          split at h
          · rename_i hi
            injection h with h; subst h
            exact HT.block (hhx.mono fun e s ⟨e1, e2⟩ => by subst e1 e2; simp only [Ex.to, blkQ, if_pos hi]; exact ⟨rfl, rfl⟩)
          · rename_i hi
            injection h with h; subst h
            exact HT.block (hhx.mono fun e s ⟨e1, e2⟩ => by subst e1 e2; simp only [Ex.to, blkQ, if_neg hi]; exact ⟨rfl, rfl⟩)
    | loop c =>
      have hc' : codeOk c = true := by simpa [codeOk] using hc
      simp only [ev] at h
      have key : ∀ a w, Rel κ st a w → Code.rounds κ.P c (fun e a' w' => ∃ st', evQ r e st' ∧ Rel κ st' a' w') (n + 1) a w := by
        intro a w hr
        cases hx : ev Γ In κ.P n c st with
        | none => simp [hx] at h
        | some rx =>
          obtain ⟨ex, sx⟩ := rx
          have hhx := (ih c st _ hc' hx).1
          rw [hx] at h
          refine wp_mono (hhx a w hr) fun e a' w' ⟨s', ⟨e1, e2⟩, hr'⟩ => ?_
          subst e1 e2
          cases ex with
          | normal =>
            simp only at h
            exact (ih (.loop c) s' r (by simpa [codeOk] using hc') h).2 c rfl a' w' hr'
          | exit i => simp only at h; injection h with h; subst h; exact ⟨s', ⟨rfl, rfl⟩, hr'⟩
          | ret => simp only at h; injection h with h; subst h; exact ⟨s', ⟨rfl, rfl⟩, hr'⟩
      refine ⟨fun a w hr => wp_loop_rounds (n + 1) (key a w hr), fun c' e => ?_⟩
      cases e
      exact key
    | _ => simp [ev] at h

theorem ev_ok {κ : Cx} {Γ : Orc} {In : InOrc} (hΓ : GammaOk κ.P Γ) (hI : InOk κ.P In) (hm : κ.P.follows .mixedOrders = true) {n : Nat} {c : Code} {st : St} {r : Ex × St} (hc : codeOk c = true) (h : ev Γ In κ.P n c st = some r) : HT κ c (evQ r) st :=
  (ev_both hΓ hI hm n c st r hc h).1

end Go.Abs
