/- WorldForms: the call returns true. It is run to its end by the machine of the texts beside it, which stands to the model's own; no condition. -/
import Derived.Test.YtiaoojocpcldmaaGreatMmWorldFormsP0
import Derived.Test.YtiaoojocpcldmaaGreatMmWorldFormsP1
import Derived.Test.YtiaoojocpcldmaaGreatMmWorldFormsP2
import Derived.Test.YtiaoojocpcldmaaGreatMmWorldFormsP3
namespace Go.Proofs.YtiaoojocpcldmaaGreat
open Go.ChangeShapes Go.WideShapes Go.ChangeAt Go.RowKit
open Go.Abs
set_option linter.unusedVariables false
namespace worldFormsCl

def tyN : Nat → Ty
  | 0 => .unit
  | n + 1 => .pair (.int .i64) (tyN n)
set_option maxRecDepth 100000 in
theorem cA98 : isA ((evOY nonJ noneΞ [44,45,100,101,102,103,179,336] Tryz.prog 100000 60).1 98 [.snil] []) = true := by kernel_rfl
set_option maxRecDepth 100000 in
theorem cB98 : isB ((evOY nonJ noneΞ [44,45,100,101,102,103,179,336] Tryz.prog 100000 60).1 98 [.nl ⟨tyN 3, []⟩] []) = true := by kernel_rfl
noncomputable def Y0 : Orc := addC 98 noneΞ
theorem okY0 : GammaOk2 Tryz.prog Y0 := addC_ok (noneΞ_ok2 _) (evOY_ok (nonJ_ok _) (noneΞ_ok2 _) mixed progOk_ 60).1 cA98 cB98
theorem ok0 : GammaOk2 Tryz.prog X0 := okY0
theorem ok1 : GammaOk2 Tryz.prog X1 := addM_ok (nonJ_ok _) ok0 mixed progOk_ e1
theorem ok2 : GammaOk2 Tryz.prog X2 := addM_ok (nonJ_ok _) ok1 mixed progOk_ e2
theorem ok3 : GammaOk2 Tryz.prog X3 := addM_ok (nonJ_ok _) ok2 mixed progOk_ e3
theorem ok4 : GammaOk2 Tryz.prog X4 := addM_ok (nonJ_ok _) ok3 mixed progOk_ e4
theorem ok5 : GammaOk2 Tryz.prog X5 := addM_ok (nonJ_ok _) ok4 mixed progOk_ e5
theorem ok6 : GammaOk2 Tryz.prog X6 := addM_ok (nonJ_ok _) ok5 mixed progOk_ e6
theorem ok7 : GammaOk2 Tryz.prog X7 := addM_ok (nonJ_ok _) ok6 mixed progOk_ e7
theorem ok8 : GammaOk2 Tryz.prog X8 := addM_ok (nonJ_ok _) ok7 mixed progOk_ e8
theorem ok9 : GammaOk2 Tryz.prog X9 := addM_ok (nonJ_ok _) ok8 mixed progOk_ e9
theorem ok10 : GammaOk2 Tryz.prog X10 := addM_ok (nonJ_ok _) ok9 mixed progOk_ e10
theorem ok11 : GammaOk2 Tryz.prog X11 := addM_ok (nonJ_ok _) ok10 mixed progOk_ e11
theorem ok12 : GammaOk2 Tryz.prog X12 := addM_ok (nonJ_ok _) ok11 mixed progOk_ e12
theorem ok13 : GammaOk2 Tryz.prog X13 := addM_ok (nonJ_ok _) ok12 mixed progOk_ e13
theorem ok14 : GammaOk2 Tryz.prog X14 := addM_ok (nonJ_ok _) ok13 mixed progOk_ e14
theorem ok15 : GammaOk2 Tryz.prog X15 := addM_ok (nonJ_ok _) ok14 mixed progOk_ e15
theorem ok16 : GammaOk2 Tryz.prog X16 := addM_ok (nonJ_ok _) ok15 mixed progOk_ e16
theorem ok17 : GammaOk2 Tryz.prog X17 := addM_ok (nonJ_ok _) ok16 mixed progOk_ e17
theorem ok18 : GammaOk2 Tryz.prog X18 := addM_ok (nonJ_ok _) ok17 mixed progOk_ e18
theorem ok19 : GammaOk2 Tryz.prog X19 := addM_ok (nonJ_ok _) ok18 mixed progOk_ e19
theorem ok20 : GammaOk2 Tryz.prog X20 := addM_ok (nonJ_ok _) ok19 mixed progOk_ e20
theorem ok21 : GammaOk2 Tryz.prog X21 := addM_ok (nonJ_ok _) ok20 mixed progOk_ e21
theorem ok22 : GammaOk2 Tryz.prog X22 := addM_ok (nonJ_ok _) ok21 mixed progOk_ e22
theorem ok23 : GammaOk2 Tryz.prog X23 := addM_ok (nonJ_ok _) ok22 mixed progOk_ e23
theorem ok24 : GammaOk2 Tryz.prog X24 := addM_ok (nonJ_ok _) ok23 mixed progOk_ e24
theorem ok25 : GammaOk2 Tryz.prog X25 := addM_ok (nonJ_ok _) ok24 mixed progOk_ e25
theorem ok26 : GammaOk2 Tryz.prog X26 := addM_ok (nonJ_ok _) ok25 mixed progOk_ e26
theorem ok27 : GammaOk2 Tryz.prog X27 := addM_ok (nonJ_ok _) ok26 mixed progOk_ e27
theorem ok28 : GammaOk2 Tryz.prog X28 := addM_ok (nonJ_ok _) ok27 mixed progOk_ e28
theorem ok29 : GammaOk2 Tryz.prog X29 := addM_ok (nonJ_ok _) ok28 mixed progOk_ e29
theorem ok30 : GammaOk2 Tryz.prog X30 := addM_ok (nonJ_ok _) ok29 mixed progOk_ e30
theorem ok31 : GammaOk2 Tryz.prog X31 := addM_ok (nonJ_ok _) ok30 mixed progOk_ e31
theorem ok32 : GammaOk2 Tryz.prog X32 := addM_ok (nonJ_ok _) ok31 mixed progOk_ e32
theorem ok33 : GammaOk2 Tryz.prog X33 := addM_ok (nonJ_ok _) ok32 mixed progOk_ e33
theorem ok34 : GammaOk2 Tryz.prog X34 := addM_ok (nonJ_ok _) ok33 mixed progOk_ e34
set_option maxRecDepth 100000 in
theorem run : isTrue ((evOY nonJ X34 INL Tryz.prog 100000 60).1 4 [] []) = true := by kernel_rfl

theorem walk (w : World) : Calls Tryz.prog 4 #[] w fun e w' => e = .returned (.bool true) ∧ Below w.heap.size w w' :=
  closedY (nonJ_ok _) mixed progOk_ ok34 run w

set_option maxRecDepth 100000 in
theorem lifted (os : Os) (started : os.Started) (H : Type) (enc : TypeId × Value → H) :
    ReturnsInHanded {} Tryz.checked os 4 .any (Rows.worldFormsSpec.pre6 enc Tryz.prog Tryz.f4 Rows.worldFormsRow.domain false) (Rows.worldFormsSpec.post enc Tryz.prog Tryz.f4 false true false false) := by
  refine returnsInHanded_of_change (C := Tryz.checked) own started (by kernel_rfl) Tryz.func4
    (ChangeSpec.witness6 (enc := enc) (C := Tryz.checked) false ⟨#[], #[], []⟩ 8 (by kernel_rfl) (by kernel_rfl) (by kernel_rfl) (by kernel_rfl)) ?_
  intro W base args ds gs before hval0 hW hcnd _
  have hW' := hW
  obtain ⟨p, q, hA0, hV, rfl, hfz, hnd⟩ := hW
  have hA : DataW.TrodAll enc Tryz.prog W 0 (fun _ => true) true Tryz.f4.params.toList args.toList ds p := hA0
  rw [Tryz.params4] at hA
  obtain ⟨hargs, rfl, rfl⟩ := trodAll_nil hA
  obtain rfl : args = #[] := by cases args; simp_all
  obtain ⟨rfl, rfl⟩ := trodVars_none hV
  clear hA0 hval0
  refine (walk W).mono fun e W' ⟨he, bel⟩ => ?_
  subst he
  exact ⟨_, rfl, _, _, _, [], _, [], hW', trodAll_mk1 (shut_bool Tryz.underlying4 _), trodAll_mk0, rfl, bel.frame _, fun h => by cases h⟩

theorem jA : (Rows.worldFormsRow.inPlace == Tryz.pinned.checked.prog.inPlace 4) = true := by kernel_rfl
theorem jB : (Rows.worldFormsRow.unfollowed == Tryz.pinned.checked.prog.unfollowed 4) = true := by kernel_rfl
theorem jC : (Rows.worldFormsRow.recurses == Tryz.pinned.checked.prog.recurses 4) = true := by kernel_rfl
theorem jD : (Rows.worldFormsRow.named == Tryz.pinned.checked.prog.varsNamed 4) = true := by kernel_rfl
theorem joined_ : joinedFacts Tryz.pinned.checked.prog 4 Tryz.f4 Rows.worldFormsSpec Rows.worldFormsRow = true := by
  unfold joinedFacts
  rw [jA, jB, jC, jD]
  kernel_rfl
theorem over : Rows.worldFormsRow.holds Tryz.pinned (OpenSpec.ofChange Rows.worldFormsSpec) :=
  OpenClaim.holds_of_wide 4 Tryz.f4 rfl rfl rfl rfl rfl rfl rfl ⟨rfl, rfl, rfl, rfl, rfl⟩ rfl rfl rfl rfl rfl (by kernel_rfl) Tryz.func4 joined_
    (of_decide_eq_true (by kernel_rfl)) (by unfold Func.isWrapper; first | (rw [if_pos (by decide +kernel)]; kernel_rfl) | (rw [if_neg (by decide +kernel)]; exact ⟨rfl, rfl⟩))
    (fun os started H enc _ => lifted os started H enc)

theorem holds : Rows.WorldFormsSaid := over
end worldFormsCl
end Go.Proofs.YtiaoojocpcldmaaGreat
