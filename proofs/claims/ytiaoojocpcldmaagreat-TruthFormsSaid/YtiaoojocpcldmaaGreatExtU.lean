/- Regions, by conditions. -/
import Derived.Test.YtiaoojocpcldmaaGreatExtT
namespace Go.Abs
open Go.RowKit
set_option linter.unusedVariables false
set_option linter.unusedSimpArgs false

abbrev OrcT := Nat → List V → List OK → Tr (V × List OK × List OK)
def OrcT.orc (Γ : OrcT) : Orc := fun f xs lb => (Γ f xs lb).run

def aCallT (Γ : OrcT) (T : Tab) (f : Nat) (args : List V) (d : Nat) : Tr (V × Tab) :=
  match viewL (viewA depth T) [] args with
  | some (xs, l, bs) =>
    if bs.Nodup ∧ bs.length < 1000000 then
      match boxesOf depth T bs with
      | some (lb, l2) => (Γ f xs lb).bind fun r =>
          if r.2.2.length ≤ 4 then
            match revive (T.freezes (zs r.1 bs r.2.2 (l ++ l2))) bs r.2.1 with
            | some T2 => match fresh bs d T2 0 r.2.2 with
              | some T3 => .of ((ren T3 bs d r.2.2.length r.1).map fun v => (v, T3))
              | none => .fail
            | none => .fail
          else .fail
      | none => .fail
    else .fail
  | none => .fail
theorem aCallT_run {Γ : OrcT} {T : Tab} {f : Nat} {args : List V} {d : Nat} {r : V × Tab} (h : (aCallT Γ T f args d).run = some r) : aCall Γ.orc T f args d = some r := by
  unfold aCallT at h
  unfold aCall
  split at h
  · rename_i xs l bs hv
    rw [hv]
    split at h
    · rename_i hc
      simp only [if_pos hc]
      split at h
      · rename_i lb l2 hb
        rw [hb]
        rw [Tr.run_bind] at h
        simp only [OrcT.orc]
        cases hr : (Γ f xs lb).run with
        | none => rw [hr] at h; cases h
        | some q =>
          obtain ⟨res, lb', lf⟩ := q
          rw [hr] at h
          simp only [Option.bind_some] at h ⊢
          split at h
          · rename_i h4
            simp only [if_pos h4]
            split at h
            · rename_i T2 h2
              rw [h2]
              simp only
              split at h
              · rename_i T3 h3
                rw [h3]
                rwa [Tr.run_of] at h
              · cases h
            · cases h
          · cases h
      · cases h
    · cases h
  · cases h

def estepT (Γ : OrcT) (P : Program) (st : St) (o : Oper) : Tr (V × Tab) :=
  match o.op with
  | .call ⟨.value f, args, _⟩ => match st.eval f with
    | .fn k caps => aCallT Γ st.o k (args.toList.map st.eval ++ caps) (o.dst.getD 99999)
    | _ => .fail
  | _ => (aopT P st o).bind fun r => .ret (r.1, wrT st.o r.2)
theorem estepT_run {Γ : OrcT} {P : Program} {st : St} {o : Oper} {r : V × Tab} (h : (estepT Γ P st o).run = some r) : estep Γ.orc P st o = some r := by
  unfold estepT at h
  unfold estep
  split at h
  · rename_i f args ts ho
    simp only [ho]
    split at h
    · rename_i k caps hf
      simp only [hf]
      exact aCallT_run h
    · cases h
  · rename_i hne
    rw [Tr.run_bind] at h
    cases hr : (aopT P st o).run with
    | none => rw [hr] at h; cases h
    | some q =>
      rw [hr] at h
      split
      · rename_i f args ts ho; exact (hne f args ts ho).elim
      · rw [aopT_run hr]
        exact h

def normT (opl : List Oper) (o : Oper) (v : V) : Tr V :=
  if isG opl o = true then (match v with
    | .bs b => .ite b (.ret (.bool true)) (.ret (.bool false))
    | v => .ret v) else .ret v
theorem normT_run {opl : List Oper} {o : Oper} {v v' : V} (h : (normT opl o v).run = some v') : norm opl o v = v' := by
  unfold normT at h
  unfold norm
  split at h
  · rename_i hg
    rw [if_pos hg]
    split at h
    · rename_i b
      cases b <;> simpa [Tr.run, conB] using h
    · rename_i hne
      injection h with h; subst h
      unfold conB
      split
      · rename_i b; exact absurd rfl (hne b)
      · rfl
  · rename_i hg
    rw [if_neg hg]
    injection h

/-- Is it done? -/
def guardT (opl : List Oper) (st : St) (o : Oper) : Option Bool :=
  match o.guard with
  | none => some true
  | some (j, want) => match (opl[j]?).bind (·.dst) with
    | none => some false
    | some t => match st.get t with
      | .bool b => some (b == want)
      | .tup _ => some false
      | _ => none
theorem guardT_ok {opl : List Oper} {st : St} {o : Oper} {b : Bool} (h : guardT opl st o = some b) : aguard opl st o = some b := by
  unfold guardT at h
  unfold aguard
  cases hg : o.guard with
  | none => simpa [hg] using h
  | some p =>
    obtain ⟨j, want⟩ := p
    simp only [hg] at h ⊢
    cases hd : (opl[j]?).bind (·.dst) with
    | none => simpa [hd] using h
    | some t =>
      simp only [hd] at h ⊢
      split at h
      · rename_i e; rw [e]; exact h
      · rename_i e; rw [e]; exact h
      · cases h

def stepT (Γ : OrcT) (P : Program) (opl : List Oper) (st : St) (o : Oper) : Tr St :=
  match guardT opl st o with
  | some false => .of (st.set o.dst (.tup []))
  | some true => (estepT Γ P st o).bind fun r => (normT opl o r.1).bind fun v => .of (({ st with o := r.2 } : St).set o.dst v)
  | none => .fail
theorem stepT_run {Γ : OrcT} {P : Program} {opl : List Oper} {st st' : St} {o : Oper} (h : (stepT Γ P opl st o).run = some st') : step Γ.orc P opl st o = some st' := by
  unfold stepT at h
  unfold step
  split at h
  · rename_i hg
    rw [guardT_ok hg]
    rwa [Tr.run_of] at h
  · rename_i hg
    rw [guardT_ok hg, Tr.run_bind] at *
    cases hr : (estepT Γ P st o).run with
    | none => rw [hr] at h; cases h
    | some q =>
      rw [hr] at h
      simp only [Option.bind_some, Tr.run_bind] at h
      simp only [estepT_run hr]
      cases hv : (normT opl o q.1).run with
      | none => rw [hv] at h; cases h
      | some v =>
        rw [hv] at h
        simp only [Option.bind_some, Tr.run_of] at h
        rw [normT_run hv]
        exact h
  · cases h

def stepsT (Γ : OrcT) (P : Program) (opl : List Oper) : List Oper → St → Tr St
  | [], st => .ret st
  | o :: r, st => (stepT Γ P opl st o).bind (stepsT Γ P opl r)
theorem stepsT_run {Γ : OrcT} {P : Program} {opl : List Oper} : ∀ (l : List Oper) (st st' : St), (stepsT Γ P opl l st).run = some st' → steps Γ.orc P opl l st = some st'
  | [], st, st', h => by simpa [stepsT, Tr.run, steps] using h
  | o :: r, st, st', h => by
    simp only [stepsT, Tr.run_bind] at h
    cases hr : (stepT Γ P opl st o).run with
    | none => rw [hr] at h; cases h
    | some s1 =>
      rw [hr] at h
      simp only [steps, stepT_run hr]
      exact stepsT_run r s1 st' h

/-- A step, and which sites it turned. -/
def estepW (Γ : OrcT) (P : Program) (st : St) (o : Oper) : Tr ((V × Tab) × List Nat) :=
  match o.op with
  | .call ⟨.value f, args, _⟩ => match st.eval f with
    | .fn k caps => (aCallT Γ st.o k (args.toList.map st.eval ++ caps) (o.dst.getD 99999)).bind fun r => .ret (r, wsites P st o)
    | _ => .fail
  | _ => (aopT P st o).bind fun r => .ret ((r.1, wrT st.o r.2), match r.2 with | some (s, _) => [s] | none => [])
theorem estepW_run {Γ : OrcT} {P : Program} {st : St} {o : Oper} {r : V × Tab} {ws : List Nat} (h : (estepW Γ P st o).run = some (r, ws)) :
    estep Γ.orc P st o = some r ∧ wsites P st o = ws := by
  unfold estepW at h
  split at h
  · rename_i f args ts ho
    split at h
    · rename_i k caps hf
      rw [Tr.run_bind] at h
      cases hr : (aCallT Γ st.o k (args.toList.map st.eval ++ caps) (o.dst.getD 99999)).run with
      | none => rw [hr] at h; cases h
      | some q =>
        rw [hr] at h
        simp [Tr.run] at h
        obtain ⟨rfl, rfl⟩ := h
        refine ⟨?_, rfl⟩
        unfold estep
        simp only [ho, hf]
        exact aCallT_run hr
    · cases h
  · rename_i hne
    rw [Tr.run_bind] at h
    cases hr : (aopT P st o).run with
    | none => rw [hr] at h; cases h
    | some q =>
      rw [hr] at h
      simp [Tr.run] at h
      obtain ⟨rfl, rfl⟩ := h
      refine ⟨?_, ?_⟩
      · unfold estep
        split
        · rename_i f args ts ho; exact (hne f args ts ho).elim
        · rw [aopT_run hr]
      · unfold wsites
        split
        · rename_i f args ts ho; exact (hne f args ts ho).elim
        · rw [aopT_run hr]
          obtain ⟨v, wr⟩ := q
          cases wr <;> rfl

def drunT (Γ : OrcT) (P : Program) (opl : List Oper) : List Oper → St → Tr (List Rec × St)
  | [], st => .ret ([], st)
  | o :: r, st => match guardT opl st o with
    | some false => match st.set o.dst (.tup []) with
      | some st' => (drunT Γ P opl r st').bind fun q => .ret (⟨.tup [], [], []⟩ :: q.1, q.2)
      | none => .fail
    | some true => (estepW Γ P { st with o := restrict (foot st o) st.o } o).bind fun q => (normT opl o q.1.1).bind fun v =>
        if q.2.all ((foot st o).contains ·) = true then
          match ({ st with o := overlay (q.2.map fun s => (s, q.1.2.get s)) st.o } : St).set o.dst v with
          | some st' => (drunT Γ P opl r st').bind fun p => .ret (⟨v, foot st o, q.2.map fun s => (s, q.1.2.get s)⟩ :: p.1, p.2)
          | none => .fail
        else .fail
    | none => .fail
theorem drunT_run {Γ : OrcT} {P : Program} {opl : List Oper} : ∀ (l : List Oper) (st : St) (q : List Rec × St), (drunT Γ P opl l st).run = some q → drun Γ.orc P opl l st = some q
  | [], st, q, h => by simpa [drunT, Tr.run, drun] using h
  | o :: r, st, q, h => by
    simp only [drunT] at h
    simp only [drun]
    split at h
    · rename_i hg
      rw [guardT_ok hg]
      split at h
      · rename_i s1 hs
        rw [Tr.run_bind] at h
        cases hr : (drunT Γ P opl r s1).run with
        | none => rw [hr] at h; cases h
        | some p =>
          rw [hr] at h
          simp only [hs, drunT_run r s1 p hr]
          exact h
      · cases h
    · rename_i hg
      rw [guardT_ok hg]
      rw [Tr.run_bind] at h
      cases he : (estepW Γ P { st with o := restrict (foot st o) st.o } o).run with
      | none => rw [he] at h; cases h
      | some e =>
        rw [he] at h
        simp only [Option.bind_some, Tr.run_bind] at h
        obtain ⟨he1, he2⟩ := estepW_run (r := e.1) (ws := e.2) he
        simp only [he1, he2]
        cases hv : (normT opl o e.1.1).run with
        | none => rw [hv] at h; cases h
        | some v =>
          rw [hv] at h
          simp only [Option.bind_some] at h
          rw [normT_run hv]
          split at h
          · rename_i hw
            rw [if_pos hw]
            split at h
            · rename_i s1 hs
              rw [Tr.run_bind] at h
              cases hr : (drunT Γ P opl r s1).run with
              | none => rw [hr] at h; cases h
              | some p =>
                rw [hr] at h
                simp only [hs, drunT_run r s1 p hr]
                exact h
            · cases h
          · cases h
    · cases h

def hasCall (opl : List Oper) : Bool := opl.any fun o => match o.op with
  | .call ⟨.value _, _, _⟩ => true
  | _ => false
/-- Which rows are handed on ahead of a region that draws its order. -/
def hasStoreU (opl : List Oper) : Bool := opl.any fun o => match o.op with
  | .store _ _ _ => true
  | _ => false
def tmpsU (l : List Operand) : List Nat := l.filterMap fun | .tmp t => some t | _ => none
/-- The slots that calls' arguments come of. -/
def argSlotsU (opl : List Oper) : List Nat := opl.foldr (fun o acc => match o.op with
  | .call ⟨.value f, args, _⟩ => tmpsU (f :: args.toList) ++ acc
  | .indexAddr _ _ _ => acc
  | op => match o.dst with
    | some d => if acc.contains d = true then tmpsU op.operands.toList ++ acc else acc
    | none => acc) []
def zOf (opl : List Oper) (st : St) : List Nat := if hasCall opl = true then (argSlotsU opl).flatMap (fun t => refsN depth st.o (st.get t)) else []
def regionT (Γ : OrcT) (P : Program) (ops : Array Oper) (draw : Bool) (st : St) : Tr St :=
  if draw = true then (drunT Γ P ops.toList ops.toList { st with o := st.o.freezes (zOf ops.toList st) }).bind fun q => if objsOk ops.toList q.1 = true then .ret q.2 else .fail
  else stepsT Γ P ops.toList ops.toList st

theorem HT.regionT {κ : Cx} {Γ : OrcT} (hΓ : GammaOk κ.P Γ.orc) (hm : κ.P.follows .mixedOrders = true) {id : Nat} {ops : Array Oper} {draw : Bool} (htmp : (!draw || tmpsOk ops.toList) = true) {Q : Exit → St → Prop} {st st' : St}
    (hx : (Abs.regionT Γ κ.P ops draw st).run = some st') (h : Q .normal st') : HT κ (.region id ops draw) Q st := fun a w hr => by
  unfold Abs.regionT at hx
  cases draw with
  | true =>
    simp only [if_true] at hx
    rw [Tr.run_bind] at hx
    cases hd : (drunT Γ κ.P ops.toList ops.toList { st with o := st.o.freezes (zOf ops.toList st) }).run with
    | none => rw [hd] at hx; cases hx
    | some q =>
      obtain ⟨rs, sn⟩ := q
      rw [hd] at hx
      simp only [Option.bind_some] at hx
      split at hx
      · rename_i hobj
        injection hx with hx; subst hx
        exact draw_okZ hΓ hm (by simpa using htmp) _ (drunT_run _ _ _ hd) hobj hr fun a' w' hr' => ⟨_, h, hr'⟩
      · cases hx
  | false =>
    simp only [Bool.false_eq_true, if_false] at hx
    exact wp_region_list (steps_ok hΓ ops.toList _ st' a w (stepsT_run _ _ _ hx) hr fun a' w' hr' => ⟨st', h, hr'⟩)
end Go.Abs
