/- QuietForms: the call returns true. It is run to its end by the machine of the texts beside it, which stands to the model's own; no condition. -/
import Derived.Test.YtiaoojocpcldmaaGreatMmQuietFormsP0
import Derived.Test.YtiaoojocpcldmaaGreatMmQuietFormsP1
import Derived.Test.YtiaoojocpcldmaaGreatMmQuietFormsP2
import Derived.Test.YtiaoojocpcldmaaGreatMmQuietFormsP3
import Derived.Test.YtiaoojocpcldmaaGreatMmQuietFormsP4
import Derived.Test.YtiaoojocpcldmaaGreatMmQuietFormsP5
import Derived.Test.YtiaoojocpcldmaaGreatMmQuietFormsP6
import Derived.Test.YtiaoojocpcldmaaGreatMmQuietFormsP7
import Derived.Test.YtiaoojocpcldmaaGreatMmQuietFormsP8
import Derived.Test.YtiaoojocpcldmaaGreatMmQuietFormsP9
import Derived.Test.YtiaoojocpcldmaaGreatMmQuietFormsP10
import Derived.Test.YtiaoojocpcldmaaGreatMmQuietFormsP11
import Derived.Test.YtiaoojocpcldmaaGreatMmQuietFormsP12
namespace Go.Proofs.YtiaoojocpcldmaaGreat
open Go.ChangeShapes Go.WideShapes Go.ChangeAt Go.RowKit
open Go.Abs
set_option linter.unusedVariables false
namespace quietFormsCl

def tyN : Nat → Ty
  | 0 => .unit
  | n + 1 => .pair (.int .i64) (tyN n)
set_option maxRecDepth 100000 in
theorem cA98 : isA ((evOY nonJ noneΞ [13,122,44,45,100,101,102,103,179,336,228,361] Tryz.prog 100000 60).1 98 [.snil] []) = true := by kernel_rfl
set_option maxRecDepth 100000 in
theorem cB98 : isB ((evOY nonJ noneΞ [13,122,44,45,100,101,102,103,179,336,228,361] Tryz.prog 100000 60).1 98 [.nl ⟨tyN 3, []⟩] []) = true := by kernel_rfl
noncomputable def Y0 : Orc := addC 98 noneΞ
theorem okY0 : GammaOk2 Tryz.prog Y0 := addC_ok (noneΞ_ok2 _) (evOY_ok (nonJ_ok _) (noneΞ_ok2 _) mixed progOk_ 60).1 cA98 cB98
theorem ok0 : GammaOk2 Tryz.prog X0 := okY0
theorem ok1 : GammaOk2 Tryz.prog X1 := addM_ok (nonJ_ok _) ok0 mixed progOk_ e1
theorem ok2 : GammaOk2 Tryz.prog X2 := addM_ok (nonJ_ok _) ok1 mixed progOk_ e2
theorem ok3 : GammaOk2 Tryz.prog X3 := addM_ok (nonJ_ok _) ok2 mixed progOk_ e3
theorem ok4 : GammaOk2 Tryz.prog X4 := addM_ok (nonJ_ok _) ok3 mixed progOk_ e4
theorem ok5 : GammaOk2 Tryz.prog X5 := addM_ok (nonJ_ok _) ok4 mixed progOk_ e5
theorem ok6 : GammaOk2 Tryz.prog X6 := addM_ok (nonJ_ok _) ok5 mixed progOk_ e6
theorem ok7 : GammaOk2 Tryz.prog X7 := addM_ok (nonJ_ok _) ok6 mixed progOk_ e7
theorem ok8 : GammaOk2 Tryz.prog X8 := addM_ok (nonJ_ok _) ok7 mixed progOk_ e8
theorem ok9 : GammaOk2 Tryz.prog X9 := addM_ok (nonJ_ok _) ok8 mixed progOk_ e9
theorem ok10 : GammaOk2 Tryz.prog X10 := addM_ok (nonJ_ok _) ok9 mixed progOk_ e10
theorem ok11 : GammaOk2 Tryz.prog X11 := addM_ok (nonJ_ok _) ok10 mixed progOk_ e11
theorem ok12 : GammaOk2 Tryz.prog X12 := addM_ok (nonJ_ok _) ok11 mixed progOk_ e12
theorem ok13 : GammaOk2 Tryz.prog X13 := addM_ok (nonJ_ok _) ok12 mixed progOk_ e13
theorem ok14 : GammaOk2 Tryz.prog X14 := addM_ok (nonJ_ok _) ok13 mixed progOk_ e14
theorem ok15 : GammaOk2 Tryz.prog X15 := addM_ok (nonJ_ok _) ok14 mixed progOk_ e15
theorem ok16 : GammaOk2 Tryz.prog X16 := addM_ok (nonJ_ok _) ok15 mixed progOk_ e16
theorem ok17 : GammaOk2 Tryz.prog X17 := addM_ok (nonJ_ok _) ok16 mixed progOk_ e17
theorem ok18 : GammaOk2 Tryz.prog X18 := addM_ok (nonJ_ok _) ok17 mixed progOk_ e18
theorem ok19 : GammaOk2 Tryz.prog X19 := addM_ok (nonJ_ok _) ok18 mixed progOk_ e19
theorem ok20 : GammaOk2 Tryz.prog X20 := addM_ok (nonJ_ok _) ok19 mixed progOk_ e20
theorem ok21 : GammaOk2 Tryz.prog X21 := addM_ok (nonJ_ok _) ok20 mixed progOk_ e21
theorem ok22 : GammaOk2 Tryz.prog X22 := addM_ok (nonJ_ok _) ok21 mixed progOk_ e22
theorem ok23 : GammaOk2 Tryz.prog X23 := addM_ok (nonJ_ok _) ok22 mixed progOk_ e23
theorem ok24 : GammaOk2 Tryz.prog X24 := addM_ok (nonJ_ok _) ok23 mixed progOk_ e24
theorem ok25 : GammaOk2 Tryz.prog X25 := addM_ok (nonJ_ok _) ok24 mixed progOk_ e25
theorem ok26 : GammaOk2 Tryz.prog X26 := addM_ok (nonJ_ok _) ok25 mixed progOk_ e26
theorem ok27 : GammaOk2 Tryz.prog X27 := addM_ok (nonJ_ok _) ok26 mixed progOk_ e27
theorem ok28 : GammaOk2 Tryz.prog X28 := addM_ok (nonJ_ok _) ok27 mixed progOk_ e28
theorem ok29 : GammaOk2 Tryz.prog X29 := addM_ok (nonJ_ok _) ok28 mixed progOk_ e29
theorem ok30 : GammaOk2 Tryz.prog X30 := addM_ok (nonJ_ok _) ok29 mixed progOk_ e30
theorem ok31 : GammaOk2 Tryz.prog X31 := addM_ok (nonJ_ok _) ok30 mixed progOk_ e31
theorem ok32 : GammaOk2 Tryz.prog X32 := addM_ok (nonJ_ok _) ok31 mixed progOk_ e32
theorem ok33 : GammaOk2 Tryz.prog X33 := addM_ok (nonJ_ok _) ok32 mixed progOk_ e33
theorem ok34 : GammaOk2 Tryz.prog X34 := addM_ok (nonJ_ok _) ok33 mixed progOk_ e34
theorem ok35 : GammaOk2 Tryz.prog X35 := addM_ok (nonJ_ok _) ok34 mixed progOk_ e35
theorem ok36 : GammaOk2 Tryz.prog X36 := addM_ok (nonJ_ok _) ok35 mixed progOk_ e36
theorem ok37 : GammaOk2 Tryz.prog X37 := addM_ok (nonJ_ok _) ok36 mixed progOk_ e37
theorem ok38 : GammaOk2 Tryz.prog X38 := addM_ok (nonJ_ok _) ok37 mixed progOk_ e38
theorem ok39 : GammaOk2 Tryz.prog X39 := addM_ok (nonJ_ok _) ok38 mixed progOk_ e39
theorem ok40 : GammaOk2 Tryz.prog X40 := addM_ok (nonJ_ok _) ok39 mixed progOk_ e40
theorem ok41 : GammaOk2 Tryz.prog X41 := addM_ok (nonJ_ok _) ok40 mixed progOk_ e41
theorem ok42 : GammaOk2 Tryz.prog X42 := addM_ok (nonJ_ok _) ok41 mixed progOk_ e42
theorem ok43 : GammaOk2 Tryz.prog X43 := addM_ok (nonJ_ok _) ok42 mixed progOk_ e43
theorem ok44 : GammaOk2 Tryz.prog X44 := addM_ok (nonJ_ok _) ok43 mixed progOk_ e44
theorem ok45 : GammaOk2 Tryz.prog X45 := addM_ok (nonJ_ok _) ok44 mixed progOk_ e45
theorem ok46 : GammaOk2 Tryz.prog X46 := addM_ok (nonJ_ok _) ok45 mixed progOk_ e46
theorem ok47 : GammaOk2 Tryz.prog X47 := addM_ok (nonJ_ok _) ok46 mixed progOk_ e47
theorem ok48 : GammaOk2 Tryz.prog X48 := addM_ok (nonJ_ok _) ok47 mixed progOk_ e48
theorem ok49 : GammaOk2 Tryz.prog X49 := addM_ok (nonJ_ok _) ok48 mixed progOk_ e49
theorem ok50 : GammaOk2 Tryz.prog X50 := addM_ok (nonJ_ok _) ok49 mixed progOk_ e50
theorem ok51 : GammaOk2 Tryz.prog X51 := addM_ok (nonJ_ok _) ok50 mixed progOk_ e51
theorem ok52 : GammaOk2 Tryz.prog X52 := addM_ok (nonJ_ok _) ok51 mixed progOk_ e52
theorem ok53 : GammaOk2 Tryz.prog X53 := addM_ok (nonJ_ok _) ok52 mixed progOk_ e53
theorem ok54 : GammaOk2 Tryz.prog X54 := addM_ok (nonJ_ok _) ok53 mixed progOk_ e54
theorem ok55 : GammaOk2 Tryz.prog X55 := addM_ok (nonJ_ok _) ok54 mixed progOk_ e55
theorem ok56 : GammaOk2 Tryz.prog X56 := addM_ok (nonJ_ok _) ok55 mixed progOk_ e56
theorem ok57 : GammaOk2 Tryz.prog X57 := addM_ok (nonJ_ok _) ok56 mixed progOk_ e57
theorem ok58 : GammaOk2 Tryz.prog X58 := addM_ok (nonJ_ok _) ok57 mixed progOk_ e58
theorem ok59 : GammaOk2 Tryz.prog X59 := addM_ok (nonJ_ok _) ok58 mixed progOk_ e59
theorem ok60 : GammaOk2 Tryz.prog X60 := addM_ok (nonJ_ok _) ok59 mixed progOk_ e60
theorem ok61 : GammaOk2 Tryz.prog X61 := addM_ok (nonJ_ok _) ok60 mixed progOk_ e61
theorem ok62 : GammaOk2 Tryz.prog X62 := addM_ok (nonJ_ok _) ok61 mixed progOk_ e62
theorem ok63 : GammaOk2 Tryz.prog X63 := addM_ok (nonJ_ok _) ok62 mixed progOk_ e63
theorem ok64 : GammaOk2 Tryz.prog X64 := addM_ok (nonJ_ok _) ok63 mixed progOk_ e64
theorem ok65 : GammaOk2 Tryz.prog X65 := addM_ok (nonJ_ok _) ok64 mixed progOk_ e65
theorem ok66 : GammaOk2 Tryz.prog X66 := addM_ok (nonJ_ok _) ok65 mixed progOk_ e66
theorem ok67 : GammaOk2 Tryz.prog X67 := addM_ok (nonJ_ok _) ok66 mixed progOk_ e67
theorem ok68 : GammaOk2 Tryz.prog X68 := addM_ok (nonJ_ok _) ok67 mixed progOk_ e68
theorem ok69 : GammaOk2 Tryz.prog X69 := addM_ok (nonJ_ok _) ok68 mixed progOk_ e69
theorem ok70 : GammaOk2 Tryz.prog X70 := addM_ok (nonJ_ok _) ok69 mixed progOk_ e70
theorem ok71 : GammaOk2 Tryz.prog X71 := addM_ok (nonJ_ok _) ok70 mixed progOk_ e71
theorem ok72 : GammaOk2 Tryz.prog X72 := addM_ok (nonJ_ok _) ok71 mixed progOk_ e72
theorem ok73 : GammaOk2 Tryz.prog X73 := addM_ok (nonJ_ok _) ok72 mixed progOk_ e73
theorem ok74 : GammaOk2 Tryz.prog X74 := addM_ok (nonJ_ok _) ok73 mixed progOk_ e74
theorem ok75 : GammaOk2 Tryz.prog X75 := addM_ok (nonJ_ok _) ok74 mixed progOk_ e75
theorem ok76 : GammaOk2 Tryz.prog X76 := addM_ok (nonJ_ok _) ok75 mixed progOk_ e76
theorem ok77 : GammaOk2 Tryz.prog X77 := addM_ok (nonJ_ok _) ok76 mixed progOk_ e77
theorem ok78 : GammaOk2 Tryz.prog X78 := addM_ok (nonJ_ok _) ok77 mixed progOk_ e78
theorem ok79 : GammaOk2 Tryz.prog X79 := addM_ok (nonJ_ok _) ok78 mixed progOk_ e79
set_option maxRecDepth 100000 in
theorem run : isTrue ((evOY nonJ X79 INL Tryz.prog 100000 60).1 6 [] []) = true := by kernel_rfl

theorem walk (w : World) : Calls Tryz.prog 6 #[] w fun e w' => e = .returned (.bool true) ∧ Below w.heap.size w w' :=
  closedY (nonJ_ok _) mixed progOk_ ok79 run w

set_option maxRecDepth 100000 in
theorem lifted (os : Os) (started : os.Started) (H : Type) (enc : TypeId × Value → H) :
    ReturnsInHanded {} Tryz.checked os 6 .any (Rows.quietFormsSpec.pre6 enc Tryz.prog Tryz.f6 Rows.quietFormsRow.domain false) (Rows.quietFormsSpec.post enc Tryz.prog Tryz.f6 false true false false) := by
  refine returnsInHanded_of_change (C := Tryz.checked) own started (by kernel_rfl) Tryz.func6
    (ChangeSpec.witness6 (enc := enc) (C := Tryz.checked) false ⟨#[], #[], []⟩ 8 (by kernel_rfl) (by kernel_rfl) (by kernel_rfl) (by kernel_rfl)) ?_
  intro W base args ds gs before hval0 hW hcnd _
  have hW' := hW
  obtain ⟨p, q, hA0, hV, rfl, hfz, hnd⟩ := hW
  have hA : DataW.TrodAll enc Tryz.prog W 0 (fun _ => true) true Tryz.f6.params.toList args.toList ds p := hA0
  rw [Tryz.params6] at hA
  obtain ⟨hargs, rfl, rfl⟩ := trodAll_nil hA
  obtain rfl : args = #[] := by cases args; simp_all
  obtain ⟨rfl, rfl⟩ := trodVars_none hV
  clear hA0 hval0
  refine (walk W).mono fun e W' ⟨he, bel⟩ => ?_
  subst he
  exact ⟨_, rfl, _, _, _, [], _, [], hW', trodAll_mk1 (shut_bool Tryz.underlying4 _), trodAll_mk0, rfl, bel.frame _, fun h => by cases h⟩

theorem jA : (Rows.quietFormsRow.inPlace == Tryz.pinned.checked.prog.inPlace 6) = true := by kernel_rfl
theorem jB : (Rows.quietFormsRow.unfollowed == Tryz.pinned.checked.prog.unfollowed 6) = true := by kernel_rfl
theorem jC : (Rows.quietFormsRow.recurses == Tryz.pinned.checked.prog.recurses 6) = true := by kernel_rfl
theorem jD : (Rows.quietFormsRow.named == Tryz.pinned.checked.prog.varsNamed 6) = true := by kernel_rfl
theorem joined_ : joinedFacts Tryz.pinned.checked.prog 6 Tryz.f6 Rows.quietFormsSpec Rows.quietFormsRow = true := by
  unfold joinedFacts
  rw [jA, jB, jC, jD]
  kernel_rfl
theorem over : Rows.quietFormsRow.holds Tryz.pinned (OpenSpec.ofChange Rows.quietFormsSpec) :=
  OpenClaim.holds_of_wide 6 Tryz.f6 rfl rfl rfl rfl rfl rfl rfl ⟨rfl, rfl, rfl, rfl, rfl⟩ rfl rfl rfl rfl rfl (by kernel_rfl) Tryz.func6 joined_
    (of_decide_eq_true (by kernel_rfl)) (by unfold Func.isWrapper; first | (rw [if_pos (by decide +kernel)]; kernel_rfl) | (rw [if_neg (by decide +kernel)]; exact ⟨rfl, rfl⟩))
    (fun os started H enc _ => lifted os started H enc)

theorem holds : Rows.QuietFormsSaid := over
end quietFormsCl
end Go.Proofs.YtiaoojocpcldmaaGreat
