/- NakForms: the call returns true. It is run to its end by the machine of the texts beside it, which stands to the model's own; no condition. -/
import Derived.Test.YtfmoomkfefpcgacBaseY
namespace Go.Proofs.Ytfmoomkfefpcgac
open Go.ChangeShapes Go.WideShapes Go.ChangeAt Go.RowKit
open Go.Abs
set_option linter.unusedVariables false
namespace nakFormsCl

def tyN : Nat → Ty
  | 0 => .unit
  | n + 1 => .pair (.int .i64) (tyN n)
set_option maxRecDepth 100000 in
theorem cA44 : isA ((evOY noneΞ [32] Try.prog 100000 60).1 44 [.snil] []) = true := by kernel_rfl
set_option maxRecDepth 100000 in
theorem cB44 : isB ((evOY noneΞ [32] Try.prog 100000 60).1 44 [.nl ⟨tyN 5, []⟩] []) = true := by kernel_rfl
noncomputable def Y0 : Orc := addC 44 noneΞ
theorem okY0 : GammaOk2 Try.prog Y0 := addC_ok (noneΞ_ok2 _) (evOY_ok (noneΞ_ok2 _) mixed progOk_ 60).1 cA44 cB44
set_option maxRecDepth 100000 in
theorem cA67 : isA ((evOY noneΞ [32] Try.prog 100000 60).1 67 [.snil] []) = true := by kernel_rfl
set_option maxRecDepth 100000 in
theorem cB67 : isB ((evOY noneΞ [32] Try.prog 100000 60).1 67 [.nl ⟨tyN 2, []⟩] []) = true := by kernel_rfl
noncomputable def Y1 : Orc := addC 67 Y0
theorem okY1 : GammaOk2 Try.prog Y1 := addC_ok okY0 (evOY_ok (noneΞ_ok2 _) mixed progOk_ 60).1 cA67 cB67
set_option maxRecDepth 100000 in
theorem run : isTrue ((evOY Y1 [32] Try.prog 100000 60).1 3 [] []) = true := by kernel_rfl

theorem walk (w : World) : Calls Try.prog 3 #[] w fun e w' => e = .returned (.bool true) ∧ Below w.heap.size w w' :=
  closedY mixed progOk_ okY1 run w

set_option maxRecDepth 100000 in
theorem lifted (os : Os) (started : os.Started) (H : Type) (enc : TypeId × Value → H) :
    ReturnsInHanded {} Try.checked os 3 .any (Rows.nakFormsSpec.pre6 enc Try.prog Try.f3 Rows.nakFormsRow.domain false) (Rows.nakFormsSpec.post enc Try.prog Try.f3 false true false false) := by
  refine returnsInHanded_of_change (C := Try.checked) own started (by kernel_rfl) Try.func3
    (ChangeSpec.witness6 (enc := enc) (C := Try.checked) false ⟨#[], #[], []⟩ 8 (by kernel_rfl) (by kernel_rfl) (by kernel_rfl) (by kernel_rfl)) ?_
  intro W base args ds gs before hval0 hW hcnd _
  have hW' := hW
  obtain ⟨p, q, hA0, hV, rfl, hfz, hnd⟩ := hW
  have hA : DataW.TrodAll enc Try.prog W 0 (fun _ => true) true Try.f3.params.toList args.toList ds p := hA0
  rw [Try.params3] at hA
  obtain ⟨hargs, rfl, rfl⟩ := trodAll_nil hA
  obtain rfl : args = #[] := by cases args; simp_all
  obtain ⟨rfl, rfl⟩ := trodVars_none hV
  clear hA0 hval0
  refine (walk W).mono fun e W' ⟨he, bel⟩ => ?_
  subst he
  exact ⟨_, rfl, _, _, _, [], _, [], hW', trodAll_mk1 (shut_bool Try.underlying4 _), trodAll_mk0, rfl, bel.frame _, fun h => by cases h⟩

theorem over : Rows.nakFormsRow.holds Try.pinned (OpenSpec.ofChange Rows.nakFormsSpec) :=
  OpenClaim.holds_of_wide 3 Try.f3 rfl rfl rfl rfl rfl rfl rfl ⟨rfl, rfl, rfl, rfl, rfl⟩ rfl rfl rfl rfl rfl (by kernel_rfl) Try.func3 (by kernel_rfl)
    (of_decide_eq_true (by kernel_rfl)) (by unfold Func.isWrapper; first | (rw [if_pos (by decide +kernel)]; kernel_rfl) | (rw [if_neg (by decide +kernel)]; exact ⟨rfl, rfl⟩))
    (fun os started H enc _ => lifted os started H enc)

theorem holds : Rows.NakFormsSaid := over
end nakFormsCl
end Go.Proofs.Ytfmoomkfefpcgac
