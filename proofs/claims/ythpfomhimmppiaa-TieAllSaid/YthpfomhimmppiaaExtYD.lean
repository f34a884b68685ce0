/- A region that draws its order, of which each operation turns at most what is its own: in few and small steps. -/
import Derived.Test.YthpfomhimmppiaaExtYP
namespace Go.Abs
open Go.RowKit
set_option linter.unusedVariables false
set_option linter.unusedSimpArgs false
noncomputable section
def okS (s : Nat) : Bool := Bool.rec (Nat.ble 400000 s) true (Nat.ble 1000 (Nat.mod s 100000))
def Fine (o : Oper) (r : Rec) : Prop := (∀ s ∈ r.F, (∃ k, k < 4 ∧ s = fsite (o.dst.getD 99999) k) ∨ okS s = true) ∧ (r.W = [] ∨ ∃ d : Nat, o.dst = some d ∧ ∀ s ∈ keys r.W, ∃ k, k < 4 ∧ s = fsite d k)
structure Sim (a b : St) : Prop where
  n : a.n = b.n
  g : a.g = b.g
  t : ∀ t, a.get t = b.get t
  o : ∀ s, a.o.get s = b.o.get s
theorem Sim.eval {a b : St} (h : Sim a b) (x : Operand) : a.eval x = b.eval x := by
  cases x <;> simp only [St.eval, h.t]
section
variable {β : Type _}
end
structure RS (Γ : Orc) (P : Program) (opl : List Oper) (o : Oper) (s0 : St) (st2 : St) : Prop where
  ex : ∃ v0 T F W v st1, foot s0 o = F ∧ estep Γ P { s0 with o := restrict F s0.o } o = some (v0, T) ∧ (wsites P { s0 with o := restrict F s0.o } o).map (fun s => (s, T.get s)) = W ∧
    (wsites P { s0 with o := restrict F s0.o } o).all (F.contains ·) = true ∧ norm opl o v0 = v ∧ ({ s0 with o := overlay W s0.o } : St).set o.dst v = some st1 ∧ Sim st1 st2 ∧ Fine o ⟨v, F, W⟩
end
end Go.Abs
namespace Go.Abs
open Go.RowKit
set_option linter.unusedVariables false
set_option linter.unusedSimpArgs false
noncomputable section
section
variable {β : Type _}
section
variable {κ : Cx} {st : St} {a : Act} {w : World}
end
end
end
end Go.Abs
namespace Go.Abs
open Go.RowKit
set_option linter.unusedVariables false
set_option linter.unusedSimpArgs false
noncomputable section
section
variable {β : Type _}
end
end
end Go.Abs
