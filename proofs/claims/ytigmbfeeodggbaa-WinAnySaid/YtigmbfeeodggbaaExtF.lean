/- The same reckoning, with its values brought to their forms at each step: the kernel then has less to do twice. -/
import Derived.Test.YtigmbfeeodggbaaExtX
namespace Go.Abs
open Go.RowKit
set_option linter.unusedVariables false
set_option linter.unusedSimpArgs false

def frc1 {α : Type 1} (v : V) (k : V → α) : α := match v with
  | .undef => k .undef
  | .bool b => k (.bool b)
  | .int i n => k (.int i n)
  | .str s => k (.str s)
  | .snil => k .snil
  | .sl n cs => k (.sl n cs)
  | .cref cs => k (.cref cs)
  | .own t g off n => k (.own t g off n)
  | .ptr t g off => k (.ptr t g off)
  | .pnil => k .pnil
  | .agg cs => k (.agg cs)
  | .tup cs => k (.tup cs)
  | .ifc t v => k (.ifc t v)
  | .inil => k .inil
  | .fn f cs => k (.fn f cs)
  | .fnil => k .fnil
  | .lst L => k (.lst L)
  | .eref X o => k (.eref X o)
  | .eptr t g sz i off => k (.eptr t g sz i off)
  | .acc t g => k (.acc t g)
  | .bs b => k (.bs b)
  | .sz => k .sz
  | .nl L => k (.nl L)
  | .si X => k (.si X)
  | .nwin t g off n => k (.nwin t g off n)
theorem frc1_eq {α : Type 1} (v : V) (k : V → α) : frc1 v k = k v := by cases v <;> rfl
def frcL {α : Type 1} : List V → (List V → α) → α
  | [], k => k []
  | v :: r, k => frc1 v fun v => frcL r fun r => k (v :: r)
theorem frcL_eq {α : Type 1} : ∀ (l : List V) (k : List V → α), frcL l k = k l
  | [], k => rfl
  | v :: r, k => by simp only [frcL, frc1_eq, frcL_eq r]
def frc2 {α : Type 1} (v : V) (k : V → α) : α := frc1 v fun v => match v with
  | .agg cs => frcL cs fun cs => k (.agg cs)
  | .tup cs => frcL cs fun cs => k (.tup cs)
  | v => k v
theorem frc2_eq {α : Type 1} (v : V) (k : V → α) : frc2 v k = k v := by cases v <;> simp [frc2, frc1_eq, frcL_eq]
def frcO {α : Type 1} (b : Ob) (k : Ob → α) : α := match b with
  | ⟨g, o⟩ => match o with
    | .dead => k ⟨g, .dead⟩
    | .box ty cs => frcL cs fun cs => k ⟨g, .box ty cs⟩
    | .row ty sz fz cs => k ⟨g, .row ty sz fz cs⟩
    | .iter s p => k ⟨g, .iter s p⟩
    | .nrow ty fz nl L => k ⟨g, .nrow ty fz nl L⟩
theorem frcO_eq {α : Type 1} (b : Ob) (k : Ob → α) : frcO b k = k b := by
  obtain ⟨g, o⟩ := b
  cases o <;> simp [frcO, frcL_eq]
def frcT {α : Type 1} : Tab → (Tab → α) → α
  | [], k => k []
  | (i, b) :: r, k => frcO b fun b => frcT r fun r => k ((i, b) :: r)
theorem frcT_eq {α : Type 1} : ∀ (l : Tab) (k : Tab → α), frcT l k = k l
  | [], k => rfl
  | (i, b) :: r, k => by simp only [frcT, frcO_eq, frcT_eq r]
def frcM {α : Type 1} : List (Nat × V) → (List (Nat × V) → α) → α
  | [], k => k []
  | (i, v) :: r, k => frc1 v fun v => frcM r fun r => k ((i, v) :: r)
theorem frcM_eq {α : Type 1} : ∀ (l : List (Nat × V)) (k : List (Nat × V) → α), frcM l k = k l
  | [], k => rfl
  | (i, v) :: r, k => by simp only [frcM, frc1_eq, frcM_eq r]
def frcS {α : Type 1} (st : St) (k : St → α) : α := match st with
  | ⟨n, t, o, g⟩ => frcM t fun t => frcT o fun o => frcL g fun g => k ⟨n, t, o, g⟩
theorem frcS_eq {α : Type 1} (st : St) (k : St → α) : frcS st k = k st := by
  obtain ⟨n, t, o, g⟩ := st
  simp only [frcS, frcM_eq, frcT_eq, frcL_eq]

/-- A slot is set. -/
def setF (st : St) (T : Tab) (d : Option Nat) (v : V) : Tr St := match st with
  | ⟨n, t, _, g⟩ => match d with
    | none => .ret ⟨n, t, T, g⟩
    | some d => if d < n then frcM (aput d v t) fun t => .ret ⟨n, t, T, g⟩ else .fail
theorem setF_eq (st : St) (T : Tab) (d : Option Nat) (v : V) : setF st T d v = .of (({ st with o := T } : St).set d v) := by
  obtain ⟨n, t, o, g⟩ := st
  cases d with
  | none => rfl
  | some d =>
    simp only [setF, St.set, frcM_eq]
    split <;> rfl

def step2F (Γ : OrcT) (Λ : Lend) (P : Program) (opl : List Oper) (st : St) (o : Oper) : Tr St :=
  match guardT opl st o with
  | some false => setF st st.o o.dst (.tup [])
  | some true => (estepL Γ Λ P opl st o).bind fun r => frc2 r.1 fun v => frcT r.2 fun T => (normT opl o v).bind fun v => frc1 v fun v => setF st T o.dst v
  | none => .fail
theorem step2F_eq (Γ : OrcT) (Λ : Lend) (P : Program) (opl : List Oper) (st : St) (o : Oper) : step2F Γ Λ P opl st o = step2 Γ Λ P opl st o := by
  unfold step2F step2
  simp only [frc2_eq, frcT_eq, frc1_eq, setF_eq]
  cases guardT opl st o with
  | none => rfl
  | some b => cases b <;> rfl
def steps2F (Γ : OrcT) (Λ : Lend) (P : Program) (opl : List Oper) : List Oper → St → Tr St
  | [], st => .ret st
  | o :: r, st => (step2F Γ Λ P opl st o).bind (steps2F Γ Λ P opl r)
theorem steps2F_eq (Γ : OrcT) (Λ : Lend) (P : Program) (opl : List Oper) : ∀ (l : List Oper) (st : St), steps2F Γ Λ P opl l st = steps2 Γ Λ P opl l st
  | [], st => rfl
  | o :: r, st => by
    simp only [steps2F, steps2, step2F_eq]
    congr 1
    funext s
    exact steps2F_eq Γ Λ P opl r s

def drunF (Γ : OrcT) (P : Program) (opl : List Oper) : List Oper → St → Tr (List Rec × St)
  | [], st => .ret ([], st)
  | o :: r, st => match guardT opl st o with
    | some false => (setF st st.o o.dst (.tup [])).bind fun st' => (drunF Γ P opl r st').bind fun q => .ret (⟨.tup [], [], []⟩ :: q.1, q.2)
    | some true => (estepW Γ P { st with o := restrict (foot st o) st.o } o).bind fun q => frc2 q.1.1 fun v => (normT opl o v).bind fun v => frc1 v fun v =>
        if q.2.all ((foot st o).contains ·) = true then
          frcT (overlay (q.2.map fun s => (s, q.1.2.get s)) st.o) fun T =>
          (setF st T o.dst v).bind fun st' => (drunF Γ P opl r st').bind fun p => .ret (⟨v, foot st o, q.2.map fun s => (s, q.1.2.get s)⟩ :: p.1, p.2)
        else .fail
    | none => .fail
theorem bind_of {α β : Type} (m : Option α) (f : α → Tr β) : (Tr.of m).bind f = match m with | some a => f a | none => .fail := by
  cases m <;> rfl
theorem drunF_eq (Γ : OrcT) (P : Program) (opl : List Oper) : ∀ (l : List Oper) (st : St), drunF Γ P opl l st = drunT Γ P opl l st
  | [], st => rfl
  | o :: r, st => by
    have ih := fun s => drunF_eq Γ P opl r s
    simp only [drunF, drunT, frc2_eq, frcT_eq, frc1_eq, setF_eq, bind_of, ih]
    cases guardT opl st o with
    | none => rfl
    | some b => cases b with
      | false =>
        have e : ({ n := st.n, t := st.t, o := st.o, g := st.g } : St) = st := rfl
        simp only [e]
        cases st.set o.dst (.tup []) <;> rfl
      | true =>
        simp only
        congr 1
        funext q
        congr 1
        funext v
        split
        · cases ({ st with o := overlay (q.2.map fun s => (s, q.1.2.get s)) st.o } : St).set o.dst v <;> rfl
        · rfl

theorem bind_assocT {α β γ : Type} (f : α → Tr β) (g : β → Tr γ) : ∀ m : Tr α, (m.bind f).bind g = m.bind fun a => (f a).bind g
  | .ret a => rfl
  | .fail => rfl
  | .ite b x y => by
    show Tr.ite b _ _ = Tr.ite b _ _
    rw [bind_assocT f g x, bind_assocT f g y]
  | .ob m h => by
    show Tr.ob m _ = Tr.ob m _
    congr 1
    funext a
    exact bind_assocT f g (h a)
  | .sm s h k => by
    show Tr.sm s _ _ = Tr.sm s _ _
    congr 1
    · funext a; exact bind_assocT f g (h a)
    · funext a; exact bind_assocT f g (k a)
/-- The same, with what follows handed in: nothing waits for its end. -/
def drunK (Γ : OrcT) (P : Program) (opl : List Oper) {γ : Type} : List Oper → St → (List Rec → St → Tr γ) → Tr γ
  | [], st, k => k [] st
  | o :: r, st, k => match guardT opl st o with
    | some false => (setF st st.o o.dst (.tup [])).bind fun st' => drunK Γ P opl r st' fun rs s => k (⟨.tup [], [], []⟩ :: rs) s
    | some true => (estepW Γ P { st with o := restrict (foot st o) st.o } o).bind fun q => frc2 q.1.1 fun v => (normT opl o v).bind fun v => frc1 v fun v =>
        if q.2.all ((foot st o).contains ·) = true then
          frcT (overlay (q.2.map fun s => (s, q.1.2.get s)) st.o) fun T =>
          (setF st T o.dst v).bind fun st' => drunK Γ P opl r st' fun rs s => k (⟨v, foot st o, q.2.map fun s => (s, q.1.2.get s)⟩ :: rs) s
        else .fail
    | none => .fail
theorem drunK_eq (Γ : OrcT) (P : Program) (opl : List Oper) {γ : Type} : ∀ (l : List Oper) (st : St) (k : List Rec → St → Tr γ), drunK Γ P opl l st k = (drunF Γ P opl l st).bind fun p => k p.1 p.2
  | [], st, k => rfl
  | o :: r, st, k => by
    simp only [drunK, drunF, frc2_eq, frcT_eq, frc1_eq]
    cases guardT opl st o with
    | none => rfl
    | some b => cases b with
      | false =>
        simp only [bind_assocT, drunK_eq Γ P opl r]
        rfl
      | true =>
        simp only [bind_assocT, drunK_eq Γ P opl r]
        congr 1
        funext q
        congr 1
        funext v
        split
        · rw [bind_assocT]
          congr 1
          funext s
          rw [bind_assocT]
          rfl
        · rfl

def regionF (Γ : OrcT) (Λ : Lend) (P : Program) (ops : Array Oper) (draw : Bool) (st : St) : Tr St :=
  if draw = true then frcS { st with o := st.o.freezes (zOf ops.toList st) } fun st => drunK (orc1 Γ) P ops.toList ops.toList st fun rs s => if objsOk ops.toList rs = true then .ret s else .fail
  else frcS (spill st ops.toList) fun st => steps2F Γ Λ P ops.toList ops.toList st
theorem regionF_eq (Γ : OrcT) (Λ : Lend) (P : Program) (ops : Array Oper) (draw : Bool) (st : St) : regionF Γ Λ P ops draw st = regionT2 Γ Λ P ops draw st := by
  unfold regionF regionT2 regionT
  cases draw <;> simp only [frcS_eq, drunK_eq, drunF_eq, steps2F_eq, if_true, Bool.false_eq_true, if_false]
end Go.Abs
