/- HierForms: the call returns true. It is run to its end by the machine of the texts beside it, which stands to the model's own; no condition. -/
import Derived.Test.YtfmoomkfefpcgadMmHierFormsP0
import Derived.Test.YtfmoomkfefpcgadMmHierFormsP1
import Derived.Test.YtfmoomkfefpcgadMmHierFormsP2
namespace Go.Proofs.Ytfmoomkfefpcgad
open Go.ChangeShapes Go.WideShapes Go.ChangeAt Go.RowKit
open Go.Abs
set_option linter.unusedVariables false
namespace hierFormsCl

theorem ok0 : GammaOk2 Try.prog X0 := noneΞ_ok2 _
theorem ok1 : GammaOk2 Try.prog X1 := addM_ok ok0 mixed progOk_ e1
theorem ok2 : GammaOk2 Try.prog X2 := addM_ok ok1 mixed progOk_ e2
theorem ok3 : GammaOk2 Try.prog X3 := addM_ok ok2 mixed progOk_ e3
theorem ok4 : GammaOk2 Try.prog X4 := addM_ok ok3 mixed progOk_ e4
theorem ok5 : GammaOk2 Try.prog X5 := addM_ok ok4 mixed progOk_ e5
theorem ok6 : GammaOk2 Try.prog X6 := addM_ok ok5 mixed progOk_ e6
theorem ok7 : GammaOk2 Try.prog X7 := addM_ok ok6 mixed progOk_ e7
theorem ok8 : GammaOk2 Try.prog X8 := addM_ok ok7 mixed progOk_ e8
theorem ok9 : GammaOk2 Try.prog X9 := addM_ok ok8 mixed progOk_ e9
theorem ok10 : GammaOk2 Try.prog X10 := addM_ok ok9 mixed progOk_ e10
theorem ok11 : GammaOk2 Try.prog X11 := addM_ok ok10 mixed progOk_ e11
theorem ok12 : GammaOk2 Try.prog X12 := addM_ok ok11 mixed progOk_ e12
theorem ok13 : GammaOk2 Try.prog X13 := addM_ok ok12 mixed progOk_ e13
theorem ok14 : GammaOk2 Try.prog X14 := addM_ok ok13 mixed progOk_ e14
theorem ok15 : GammaOk2 Try.prog X15 := addM_ok ok14 mixed progOk_ e15
theorem ok16 : GammaOk2 Try.prog X16 := addM_ok ok15 mixed progOk_ e16
theorem ok17 : GammaOk2 Try.prog X17 := addM_ok ok16 mixed progOk_ e17
theorem ok18 : GammaOk2 Try.prog X18 := addM_ok ok17 mixed progOk_ e18
theorem ok19 : GammaOk2 Try.prog X19 := addM_ok ok18 mixed progOk_ e19
theorem ok20 : GammaOk2 Try.prog X20 := addM_ok ok19 mixed progOk_ e20
theorem ok21 : GammaOk2 Try.prog X21 := addM_ok ok20 mixed progOk_ e21
theorem ok22 : GammaOk2 Try.prog X22 := addM_ok ok21 mixed progOk_ e22
theorem ok23 : GammaOk2 Try.prog X23 := addM_ok ok22 mixed progOk_ e23
theorem ok24 : GammaOk2 Try.prog X24 := addM_ok ok23 mixed progOk_ e24
theorem ok25 : GammaOk2 Try.prog X25 := addM_ok ok24 mixed progOk_ e25
theorem ok26 : GammaOk2 Try.prog X26 := addM_ok ok25 mixed progOk_ e26
theorem ok27 : GammaOk2 Try.prog X27 := addM_ok ok26 mixed progOk_ e27
theorem ok28 : GammaOk2 Try.prog X28 := addM_ok ok27 mixed progOk_ e28
theorem ok29 : GammaOk2 Try.prog X29 := addM_ok ok28 mixed progOk_ e29
theorem ok30 : GammaOk2 Try.prog X30 := addM_ok ok29 mixed progOk_ e30
theorem ok31 : GammaOk2 Try.prog X31 := addM_ok ok30 mixed progOk_ e31
theorem ok32 : GammaOk2 Try.prog X32 := addM_ok ok31 mixed progOk_ e32
theorem ok33 : GammaOk2 Try.prog X33 := addM_ok ok32 mixed progOk_ e33
theorem ok34 : GammaOk2 Try.prog X34 := addM_ok ok33 mixed progOk_ e34
theorem ok35 : GammaOk2 Try.prog X35 := addM_ok ok34 mixed progOk_ e35
theorem ok36 : GammaOk2 Try.prog X36 := addM_ok ok35 mixed progOk_ e36
theorem ok37 : GammaOk2 Try.prog X37 := addM_ok ok36 mixed progOk_ e37
theorem ok38 : GammaOk2 Try.prog X38 := addM_ok ok37 mixed progOk_ e38
theorem ok39 : GammaOk2 Try.prog X39 := addM_ok ok38 mixed progOk_ e39
theorem ok40 : GammaOk2 Try.prog X40 := addM_ok ok39 mixed progOk_ e40
theorem ok41 : GammaOk2 Try.prog X41 := addM_ok ok40 mixed progOk_ e41
theorem ok42 : GammaOk2 Try.prog X42 := addM_ok ok41 mixed progOk_ e42
theorem ok43 : GammaOk2 Try.prog X43 := addM_ok ok42 mixed progOk_ e43
theorem ok44 : GammaOk2 Try.prog X44 := addM_ok ok43 mixed progOk_ e44
theorem ok45 : GammaOk2 Try.prog X45 := addM_ok ok44 mixed progOk_ e45
theorem ok46 : GammaOk2 Try.prog X46 := addM_ok ok45 mixed progOk_ e46
theorem ok47 : GammaOk2 Try.prog X47 := addM_ok ok46 mixed progOk_ e47
theorem ok48 : GammaOk2 Try.prog X48 := addM_ok ok47 mixed progOk_ e48
theorem ok49 : GammaOk2 Try.prog X49 := addM_ok ok48 mixed progOk_ e49
theorem ok50 : GammaOk2 Try.prog X50 := addM_ok ok49 mixed progOk_ e50
theorem ok51 : GammaOk2 Try.prog X51 := addM_ok ok50 mixed progOk_ e51
theorem ok52 : GammaOk2 Try.prog X52 := addM_ok ok51 mixed progOk_ e52
theorem ok53 : GammaOk2 Try.prog X53 := addM_ok ok52 mixed progOk_ e53
theorem ok54 : GammaOk2 Try.prog X54 := addM_ok ok53 mixed progOk_ e54
theorem ok55 : GammaOk2 Try.prog X55 := addM_ok ok54 mixed progOk_ e55
theorem ok56 : GammaOk2 Try.prog X56 := addM_ok ok55 mixed progOk_ e56
theorem ok57 : GammaOk2 Try.prog X57 := addM_ok ok56 mixed progOk_ e57
theorem ok58 : GammaOk2 Try.prog X58 := addM_ok ok57 mixed progOk_ e58
theorem ok59 : GammaOk2 Try.prog X59 := addM_ok ok58 mixed progOk_ e59
theorem ok60 : GammaOk2 Try.prog X60 := addM_ok ok59 mixed progOk_ e60
theorem ok61 : GammaOk2 Try.prog X61 := addM_ok ok60 mixed progOk_ e61
theorem ok62 : GammaOk2 Try.prog X62 := addM_ok ok61 mixed progOk_ e62
theorem ok63 : GammaOk2 Try.prog X63 := addM_ok ok62 mixed progOk_ e63
theorem ok64 : GammaOk2 Try.prog X64 := addM_ok ok63 mixed progOk_ e64
theorem ok65 : GammaOk2 Try.prog X65 := addM_ok ok64 mixed progOk_ e65
theorem ok66 : GammaOk2 Try.prog X66 := addM_ok ok65 mixed progOk_ e66
theorem ok67 : GammaOk2 Try.prog X67 := addM_ok ok66 mixed progOk_ e67
theorem ok68 : GammaOk2 Try.prog X68 := addM_ok ok67 mixed progOk_ e68
theorem ok69 : GammaOk2 Try.prog X69 := addM_ok ok68 mixed progOk_ e69
theorem ok70 : GammaOk2 Try.prog X70 := addM_ok ok69 mixed progOk_ e70
theorem ok71 : GammaOk2 Try.prog X71 := addM_ok ok70 mixed progOk_ e71
theorem ok72 : GammaOk2 Try.prog X72 := addM_ok ok71 mixed progOk_ e72
theorem ok73 : GammaOk2 Try.prog X73 := addM_ok ok72 mixed progOk_ e73
theorem ok74 : GammaOk2 Try.prog X74 := addM_ok ok73 mixed progOk_ e74
theorem ok75 : GammaOk2 Try.prog X75 := addM_ok ok74 mixed progOk_ e75
theorem ok76 : GammaOk2 Try.prog X76 := addM_ok ok75 mixed progOk_ e76
theorem ok77 : GammaOk2 Try.prog X77 := addM_ok ok76 mixed progOk_ e77
theorem ok78 : GammaOk2 Try.prog X78 := addM_ok ok77 mixed progOk_ e78
theorem ok79 : GammaOk2 Try.prog X79 := addM_ok ok78 mixed progOk_ e79
theorem ok80 : GammaOk2 Try.prog X80 := addM_ok ok79 mixed progOk_ e80
theorem ok81 : GammaOk2 Try.prog X81 := addM_ok ok80 mixed progOk_ e81
theorem ok82 : GammaOk2 Try.prog X82 := addM_ok ok81 mixed progOk_ e82
theorem ok83 : GammaOk2 Try.prog X83 := addM_ok ok82 mixed progOk_ e83
theorem ok84 : GammaOk2 Try.prog X84 := addM_ok ok83 mixed progOk_ e84
theorem ok85 : GammaOk2 Try.prog X85 := addM_ok ok84 mixed progOk_ e85
theorem ok86 : GammaOk2 Try.prog X86 := addM_ok ok85 mixed progOk_ e86
theorem ok87 : GammaOk2 Try.prog X87 := addM_ok ok86 mixed progOk_ e87
theorem ok88 : GammaOk2 Try.prog X88 := addM_ok ok87 mixed progOk_ e88
theorem ok89 : GammaOk2 Try.prog X89 := addM_ok ok88 mixed progOk_ e89
theorem ok90 : GammaOk2 Try.prog X90 := addM_ok ok89 mixed progOk_ e90
theorem ok91 : GammaOk2 Try.prog X91 := addM_ok ok90 mixed progOk_ e91
theorem ok92 : GammaOk2 Try.prog X92 := addM_ok ok91 mixed progOk_ e92
theorem ok93 : GammaOk2 Try.prog X93 := addM_ok ok92 mixed progOk_ e93
theorem ok94 : GammaOk2 Try.prog X94 := addM_ok ok93 mixed progOk_ e94
theorem ok95 : GammaOk2 Try.prog X95 := addM_ok ok94 mixed progOk_ e95
theorem ok96 : GammaOk2 Try.prog X96 := addM_ok ok95 mixed progOk_ e96
theorem ok97 : GammaOk2 Try.prog X97 := addM_ok ok96 mixed progOk_ e97
theorem ok98 : GammaOk2 Try.prog X98 := addM_ok ok97 mixed progOk_ e98
theorem ok99 : GammaOk2 Try.prog X99 := addM_ok ok98 mixed progOk_ e99
theorem ok100 : GammaOk2 Try.prog X100 := addM_ok ok99 mixed progOk_ e100
theorem ok101 : GammaOk2 Try.prog X101 := addM_ok ok100 mixed progOk_ e101
theorem ok102 : GammaOk2 Try.prog X102 := addM_ok ok101 mixed progOk_ e102
theorem ok103 : GammaOk2 Try.prog X103 := addM_ok ok102 mixed progOk_ e103
theorem ok104 : GammaOk2 Try.prog X104 := addM_ok ok103 mixed progOk_ e104
theorem ok105 : GammaOk2 Try.prog X105 := addM_ok ok104 mixed progOk_ e105
theorem ok106 : GammaOk2 Try.prog X106 := addM_ok ok105 mixed progOk_ e106
theorem ok107 : GammaOk2 Try.prog X107 := addM_ok ok106 mixed progOk_ e107
theorem ok108 : GammaOk2 Try.prog X108 := addM_ok ok107 mixed progOk_ e108
theorem ok109 : GammaOk2 Try.prog X109 := addM_ok ok108 mixed progOk_ e109
theorem ok110 : GammaOk2 Try.prog X110 := addM_ok ok109 mixed progOk_ e110
theorem ok111 : GammaOk2 Try.prog X111 := addM_ok ok110 mixed progOk_ e111
theorem ok112 : GammaOk2 Try.prog X112 := addM_ok ok111 mixed progOk_ e112
theorem ok113 : GammaOk2 Try.prog X113 := addM_ok ok112 mixed progOk_ e113
theorem ok114 : GammaOk2 Try.prog X114 := addM_ok ok113 mixed progOk_ e114
theorem ok115 : GammaOk2 Try.prog X115 := addM_ok ok114 mixed progOk_ e115
theorem ok116 : GammaOk2 Try.prog X116 := addM_ok ok115 mixed progOk_ e116
theorem ok117 : GammaOk2 Try.prog X117 := addM_ok ok116 mixed progOk_ e117
theorem ok118 : GammaOk2 Try.prog X118 := addM_ok ok117 mixed progOk_ e118
theorem ok119 : GammaOk2 Try.prog X119 := addM_ok ok118 mixed progOk_ e119
theorem ok120 : GammaOk2 Try.prog X120 := addM_ok ok119 mixed progOk_ e120
theorem ok121 : GammaOk2 Try.prog X121 := addM_ok ok120 mixed progOk_ e121
theorem ok122 : GammaOk2 Try.prog X122 := addM_ok ok121 mixed progOk_ e122
theorem ok123 : GammaOk2 Try.prog X123 := addM_ok ok122 mixed progOk_ e123
theorem ok124 : GammaOk2 Try.prog X124 := addM_ok ok123 mixed progOk_ e124
theorem ok125 : GammaOk2 Try.prog X125 := addM_ok ok124 mixed progOk_ e125
theorem ok126 : GammaOk2 Try.prog X126 := addM_ok ok125 mixed progOk_ e126
theorem ok127 : GammaOk2 Try.prog X127 := addM_ok ok126 mixed progOk_ e127
theorem ok128 : GammaOk2 Try.prog X128 := addM_ok ok127 mixed progOk_ e128
theorem ok129 : GammaOk2 Try.prog X129 := addM_ok ok128 mixed progOk_ e129
theorem ok130 : GammaOk2 Try.prog X130 := addM_ok ok129 mixed progOk_ e130
theorem ok131 : GammaOk2 Try.prog X131 := addM_ok ok130 mixed progOk_ e131
theorem ok132 : GammaOk2 Try.prog X132 := addM_ok ok131 mixed progOk_ e132
theorem ok133 : GammaOk2 Try.prog X133 := addM_ok ok132 mixed progOk_ e133
theorem ok134 : GammaOk2 Try.prog X134 := addM_ok ok133 mixed progOk_ e134
theorem ok135 : GammaOk2 Try.prog X135 := addM_ok ok134 mixed progOk_ e135
theorem ok136 : GammaOk2 Try.prog X136 := addM_ok ok135 mixed progOk_ e136
theorem ok137 : GammaOk2 Try.prog X137 := addM_ok ok136 mixed progOk_ e137
theorem ok138 : GammaOk2 Try.prog X138 := addM_ok ok137 mixed progOk_ e138
theorem ok139 : GammaOk2 Try.prog X139 := addM_ok ok138 mixed progOk_ e139
theorem ok140 : GammaOk2 Try.prog X140 := addM_ok ok139 mixed progOk_ e140
theorem ok141 : GammaOk2 Try.prog X141 := addM_ok ok140 mixed progOk_ e141
theorem ok142 : GammaOk2 Try.prog X142 := addM_ok ok141 mixed progOk_ e142
theorem ok143 : GammaOk2 Try.prog X143 := addM_ok ok142 mixed progOk_ e143
theorem ok144 : GammaOk2 Try.prog X144 := addM_ok ok143 mixed progOk_ e144
theorem ok145 : GammaOk2 Try.prog X145 := addM_ok ok144 mixed progOk_ e145
theorem ok146 : GammaOk2 Try.prog X146 := addM_ok ok145 mixed progOk_ e146
theorem ok147 : GammaOk2 Try.prog X147 := addM_ok ok146 mixed progOk_ e147
theorem ok148 : GammaOk2 Try.prog X148 := addM_ok ok147 mixed progOk_ e148
theorem ok149 : GammaOk2 Try.prog X149 := addM_ok ok148 mixed progOk_ e149
theorem ok150 : GammaOk2 Try.prog X150 := addM_ok ok149 mixed progOk_ e150
theorem ok151 : GammaOk2 Try.prog X151 := addM_ok ok150 mixed progOk_ e151
theorem ok152 : GammaOk2 Try.prog X152 := addM_ok ok151 mixed progOk_ e152
theorem ok153 : GammaOk2 Try.prog X153 := addM_ok ok152 mixed progOk_ e153
theorem ok154 : GammaOk2 Try.prog X154 := addM_ok ok153 mixed progOk_ e154
set_option maxRecDepth 100000 in
theorem run : isTrue ((evOY X154 INL Try.prog 100000 60).1 4 [] []) = true := by kernel_rfl

theorem walk (w : World) : Calls Try.prog 4 #[] w fun e w' => e = .returned (.bool true) ∧ Below w.heap.size w w' :=
  closedY mixed progOk_ ok154 run w

set_option maxRecDepth 100000 in
theorem lifted (os : Os) (started : os.Started) (H : Type) (enc : TypeId × Value → H) :
    ReturnsInHanded {} Try.checked os 4 .any (Rows.hierFormsSpec.pre6 enc Try.prog Try.f4 Rows.hierFormsRow.domain false) (Rows.hierFormsSpec.post enc Try.prog Try.f4 false true false false) := by
  refine returnsInHanded_of_change (C := Try.checked) own started (by kernel_rfl) Try.func4
    (ChangeSpec.witness6 (enc := enc) (C := Try.checked) false ⟨#[], #[], []⟩ 8 (by kernel_rfl) (by kernel_rfl) (by kernel_rfl) (by kernel_rfl)) ?_
  intro W base args ds gs before hval0 hW hcnd _
  have hW' := hW
  obtain ⟨p, q, hA0, hV, rfl, hfz, hnd⟩ := hW
  have hA : DataW.TrodAll enc Try.prog W 0 (fun _ => true) true Try.f4.params.toList args.toList ds p := hA0
  rw [Try.params4] at hA
  obtain ⟨hargs, rfl, rfl⟩ := trodAll_nil hA
  obtain rfl : args = #[] := by cases args; simp_all
  obtain ⟨rfl, rfl⟩ := trodVars_none hV
  clear hA0 hval0
  refine (walk W).mono fun e W' ⟨he, bel⟩ => ?_
  subst he
  exact ⟨_, rfl, _, _, _, [], _, [], hW', trodAll_mk1 (shut_bool Try.underlying4 _), trodAll_mk0, rfl, bel.frame _, fun h => by cases h⟩

theorem over : Rows.hierFormsRow.holds Try.pinned (OpenSpec.ofChange Rows.hierFormsSpec) :=
  OpenClaim.holds_of_wide 4 Try.f4 rfl rfl rfl rfl rfl rfl rfl ⟨rfl, rfl, rfl, rfl, rfl⟩ rfl rfl rfl rfl rfl (by kernel_rfl) Try.func4 (by kernel_rfl)
    (of_decide_eq_true (by kernel_rfl)) (by unfold Func.isWrapper; first | (rw [if_pos (by decide +kernel)]; kernel_rfl) | (rw [if_neg (by decide +kernel)]; exact ⟨rfl, rfl⟩))
    (fun os started H enc _ => lifted os started H enc)

theorem holds : Rows.HierFormsSaid := over
end hierFormsCl
end Go.Proofs.Ytfmoomkfefpcgad
