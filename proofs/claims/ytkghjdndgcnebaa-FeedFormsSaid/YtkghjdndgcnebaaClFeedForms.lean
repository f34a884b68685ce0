/- FeedForms: the call returns true. It is run to its end by the machine of the texts beside it, which stands to the model's own; no condition. -/
import Derived.Test.YtkghjdndgcnebaaBaseY
namespace Go.Proofs.Ytkghjdndgcnebaa
open Go.ChangeShapes Go.WideShapes Go.ChangeAt Go.RowKit
open Go.Abs
set_option linter.unusedVariables false
namespace feedFormsCl

def tyN : Nat → Ty
  | 0 => .unit
  | n + 1 => .pair (.int .i64) (tyN n)
set_option maxRecDepth 100000 in
theorem cA80 : isA ((evOY (insIn insT) noneΞ [41,43,82,101,87] Try.prog 100000 60).1 80 [.snil] []) = true := by kernel_rfl
set_option maxRecDepth 100000 in
theorem cB80 : isB ((evOY (insIn insT) noneΞ [41,43,82,101,87] Try.prog 100000 60).1 80 [.nl ⟨tyN 2, []⟩] []) = true := by kernel_rfl
noncomputable def Y0 : Orc := addC 80 noneΞ
theorem okY0 : GammaOk2 Try.prog Y0 := addC_ok (noneΞ_ok2 _) (evOY_ok (insIn_ok insT_ok) (noneΞ_ok2 _) mixed progOk_ 60).1 cA80 cB80
set_option maxRecDepth 100000 in
theorem cA59 : isA ((evOY (insIn insT) noneΞ [41,43,82,101,87] Try.prog 100000 60).1 59 [.snil] []) = true := by kernel_rfl
set_option maxRecDepth 100000 in
theorem cB59 : isB ((evOY (insIn insT) noneΞ [41,43,82,101,87] Try.prog 100000 60).1 59 [.nl ⟨tyN 5, []⟩] []) = true := by kernel_rfl
noncomputable def Y1 : Orc := addC 59 Y0
theorem okY1 : GammaOk2 Try.prog Y1 := addC_ok okY0 (evOY_ok (insIn_ok insT_ok) (noneΞ_ok2 _) mixed progOk_ 60).1 cA59 cB59
set_option maxRecDepth 100000 in
theorem run : isTrue ((evOY (insIn insT) Y1 [41,43,82,101,87] Try.prog 100000 60).1 5 [] []) = true := by kernel_rfl

theorem walk (w : World) : Calls Try.prog 5 #[] w fun e w' => e = .returned (.bool true) ∧ Below w.heap.size w w' :=
  closedY (insIn_ok insT_ok) mixed progOk_ okY1 run w

set_option maxRecDepth 100000 in
theorem lifted (os : Os) (started : os.Started) (H : Type) (enc : TypeId × Value → H) :
    ReturnsInHanded {} Try.checked os 5 .any (Rows.feedFormsSpec.pre6 enc Try.prog Try.f5 Rows.feedFormsRow.domain false) (Rows.feedFormsSpec.post enc Try.prog Try.f5 false true false false) := by
  refine returnsInHanded_of_change (C := Try.checked) own started (by kernel_rfl) Try.func5
    (ChangeSpec.witness6 (enc := enc) (C := Try.checked) false ⟨#[], #[], []⟩ 8 (by kernel_rfl) (by kernel_rfl) (by kernel_rfl) (by kernel_rfl)) ?_
  intro W base args ds gs before hval0 hW hcnd _
  have hW' := hW
  obtain ⟨p, q, hA0, hV, rfl, hfz, hnd⟩ := hW
  have hA : DataW.TrodAll enc Try.prog W 0 (fun _ => true) true Try.f5.params.toList args.toList ds p := hA0
  rw [Try.params5] at hA
  obtain ⟨hargs, rfl, rfl⟩ := trodAll_nil hA
  obtain rfl : args = #[] := by cases args; simp_all
  obtain ⟨rfl, rfl⟩ := trodVars_none hV
  clear hA0 hval0
  refine (walk W).mono fun e W' ⟨he, bel⟩ => ?_
  subst he
  exact ⟨_, rfl, _, _, _, [], _, [], hW', trodAll_mk1 (shut_bool Try.underlying4 _), trodAll_mk0, rfl, bel.frame _, fun h => by cases h⟩

theorem over : Rows.feedFormsRow.holds Try.pinned (OpenSpec.ofChange Rows.feedFormsSpec) :=
  OpenClaim.holds_of_wide 5 Try.f5 rfl rfl rfl rfl rfl rfl rfl ⟨rfl, rfl, rfl, rfl, rfl⟩ rfl rfl rfl rfl rfl (by kernel_rfl) Try.func5 (by kernel_rfl)
    (of_decide_eq_true (by kernel_rfl)) (by unfold Func.isWrapper; first | (rw [if_pos (by decide +kernel)]; kernel_rfl) | (rw [if_neg (by decide +kernel)]; exact ⟨rfl, rfl⟩))
    (fun os started H enc _ => lifted os started H enc)

theorem holds : Rows.FeedFormsSaid := over
end feedFormsCl
end Go.Proofs.Ytkghjdndgcnebaa
