/-
  No cell of these rows narrows 'for every input' (looked for: loops, veiled, ifaces, maps, wideKeys, modest, calm, conditions, laid).
  DERIVED. THE GIVEN ROWS OF THIS SEAT. 12 by the template 'for every input the law returns true; each argument reads behind the call as it read before'; 0 by the template 'total and deterministic' (their statements: YtelhmjkiajbobaaTotals.lean).
  GIVEN WITH THE SEED: the statements are not yours to turn. If you find one false, say at which input.
  Laid BY PROGRAM, IN A SANDBOX (cutbox-rows.mjs): the forced cells as the released guide's own fill.sh prints them over the translation 600f65669e367c17… (all of the seat's roots in one cut). By AI agents, Wed Nov 11 2026. No macro, syntax, notation, axiom, sorry.
-/
import Derived.Test.YtelhmjkiajbobaaChecked
import GoSem.Claim
import GoSem.ClaimJoined
import GoSem.ClaimMapViews
import Derived.JoinedTies
import Derived.KernelRfl
namespace Go.Proofs.Ytelhmjkiajbobaa
/- THE CELL 'sum', in the pinned program and in every row, IS THE sha256 OF THE DUMP (.gsa) THAT YtelhmjkiajbobaaProg.lean LOADS. Nothing in Lean hashes anything: it is a label: what it is worth is what the hold of that sum in a sandbox is worth. -/
noncomputable def Try.pinned : Pinned := { name := "ytelhmjkiajbobaa", sum := "600f65669e367c17cfda4bf3ef7195aeb4d458021e4e44c38ee2eced6bf12878", checked := Try.checked }
namespace Rows
def none {H : Type} : Left H := { results := [], args := [] }

/-- 'pleachlaw1.TextAll': WHATEVER THE INPUT: true; the input reads as it did. -/
def textAllSpec : ChangeSpec := { name := "textAll", fn := fun _ => fun
  | [d1, d2, d3, d4] => { results := [.lit (.bool true)], args := [d1, d2, d3, d4] }
  | _ => none }
def textAllRow : OpenClaim := { program := "ytelhmjkiajbobaa", sum := "600f65669e367c17cfda4bf3ef7195aeb4d458021e4e44c38ee2eced6bf12878", func := "pleach/pleachlaw1.TextAll", spec := "textAll", inPlace := ["internal/abi.NoEscape"], apart := false }
def TextAllSaid : Prop := textAllRow.holds Try.pinned (OpenSpec.ofChange textAllSpec)

/-- ITS FALSE NEIGHBOUR: 'it returns false'. Refute it at one input. -/
def textAllWrong : ChangeSpec := { name := "textAll", fn := fun _ => fun
  | [d1, d2, d3, d4] => { results := [.lit (.bool false)], args := [d1, d2, d3, d4] }
  | _ => none }
def TextAllWrongFalsely : Prop := textAllRow.holds Try.pinned (OpenSpec.ofChange textAllWrong)

/-- 'pleachlaw1.TextCut': WHATEVER THE INPUT: true; the input reads as it did. -/
def textCutSpec : ChangeSpec := { name := "textCut", fn := fun _ => fun
  | [d1, d2] => { results := [.lit (.bool true)], args := [d1, d2] }
  | _ => none }
def textCutRow : OpenClaim := { program := "ytelhmjkiajbobaa", sum := "600f65669e367c17cfda4bf3ef7195aeb4d458021e4e44c38ee2eced6bf12878", func := "pleach/pleachlaw1.TextCut", spec := "textCut", inPlace := ["internal/abi.NoEscape"], apart := false }
def TextCutSaid : Prop := textCutRow.holds Try.pinned (OpenSpec.ofChange textCutSpec)

/-- ITS FALSE NEIGHBOUR: 'it returns false'. Refute it at one input. -/
def textCutWrong : ChangeSpec := { name := "textCut", fn := fun _ => fun
  | [d1, d2] => { results := [.lit (.bool false)], args := [d1, d2] }
  | _ => none }
def TextCutWrongFalsely : Prop := textCutRow.holds Try.pinned (OpenSpec.ofChange textCutWrong)

/-- 'pleachlaw1.TextShown': WHATEVER THE INPUT: true; the input reads as it did. -/
def textShownSpec : ChangeSpec := { name := "textShown", fn := fun _ => fun
  | [d1, d2] => { results := [.lit (.bool true)], args := [d1, d2] }
  | _ => none }
def textShownRow : OpenClaim := { program := "ytelhmjkiajbobaa", sum := "600f65669e367c17cfda4bf3ef7195aeb4d458021e4e44c38ee2eced6bf12878", func := "pleach/pleachlaw1.TextShown", spec := "textShown", inPlace := ["internal/abi.NoEscape"], apart := false }
def TextShownSaid : Prop := textShownRow.holds Try.pinned (OpenSpec.ofChange textShownSpec)

/-- ITS FALSE NEIGHBOUR: 'it returns false'. Refute it at one input. -/
def textShownWrong : ChangeSpec := { name := "textShown", fn := fun _ => fun
  | [d1, d2] => { results := [.lit (.bool false)], args := [d1, d2] }
  | _ => none }
def TextShownWrongFalsely : Prop := textShownRow.holds Try.pinned (OpenSpec.ofChange textShownWrong)

/-- 'pleachlaw1.TextForms': WHATEVER THE INPUT: true; the input reads as it did. -/
def textFormsSpec : ChangeSpec := { name := "textForms", fn := fun _ => fun
  | [] => { results := [.lit (.bool true)], args := [] }
  | _ => none }
def textFormsRow : OpenClaim := { program := "ytelhmjkiajbobaa", sum := "600f65669e367c17cfda4bf3ef7195aeb4d458021e4e44c38ee2eced6bf12878", func := "pleach/pleachlaw1.TextForms", spec := "textForms", inPlace := ["internal/abi.NoEscape"], apart := false }
def TextFormsSaid : Prop := textFormsRow.holds Try.pinned (OpenSpec.ofChange textFormsSpec)

/-- ITS FALSE NEIGHBOUR: 'it returns false'. Refute it at one input. -/
def textFormsWrong : ChangeSpec := { name := "textForms", fn := fun _ => fun
  | [] => { results := [.lit (.bool false)], args := [] }
  | _ => none }
def TextFormsWrongFalsely : Prop := textFormsRow.holds Try.pinned (OpenSpec.ofChange textFormsWrong)

/-- 'pleachlaw1.TextJoins': WHATEVER THE INPUT: true; the input reads as it did. -/
def textJoinsSpec : ChangeSpec := { name := "textJoins", fn := fun _ => fun
  | [d1, d2] => { results := [.lit (.bool true)], args := [d1, d2] }
  | _ => none }
def textJoinsRow : OpenClaim := { program := "ytelhmjkiajbobaa", sum := "600f65669e367c17cfda4bf3ef7195aeb4d458021e4e44c38ee2eced6bf12878", func := "pleach/pleachlaw1.TextJoins", spec := "textJoins", inPlace := ["internal/abi.NoEscape"], apart := false }
def TextJoinsSaid : Prop := textJoinsRow.holds Try.pinned (OpenSpec.ofChange textJoinsSpec)

/-- ITS FALSE NEIGHBOUR: 'it returns false'. Refute it at one input. -/
def textJoinsWrong : ChangeSpec := { name := "textJoins", fn := fun _ => fun
  | [d1, d2] => { results := [.lit (.bool false)], args := [d1, d2] }
  | _ => none }
def TextJoinsWrongFalsely : Prop := textJoinsRow.holds Try.pinned (OpenSpec.ofChange textJoinsWrong)

/-- 'pleachlaw2.PathAll': WHATEVER THE INPUT: true; the input reads as it did. -/
def pathAllSpec : ChangeSpec := { name := "pathAll", fn := fun _ => fun
  | [d1, d2, d3] => { results := [.lit (.bool true)], args := [d1, d2, d3] }
  | _ => none }
def pathAllRow : OpenClaim := { program := "ytelhmjkiajbobaa", sum := "600f65669e367c17cfda4bf3ef7195aeb4d458021e4e44c38ee2eced6bf12878", func := "pleach/pleachlaw2.PathAll", spec := "pathAll", apart := false }
def PathAllSaid : Prop := pathAllRow.holds Try.pinned (OpenSpec.ofChange pathAllSpec)

/-- ITS FALSE NEIGHBOUR: 'it returns false'. Refute it at one input. -/
def pathAllWrong : ChangeSpec := { name := "pathAll", fn := fun _ => fun
  | [d1, d2, d3] => { results := [.lit (.bool false)], args := [d1, d2, d3] }
  | _ => none }
def PathAllWrongFalsely : Prop := pathAllRow.holds Try.pinned (OpenSpec.ofChange pathAllWrong)

/-- 'pleachlaw2.PathOnce': WHATEVER THE INPUT: true; the input reads as it did. -/
def pathOnceSpec : ChangeSpec := { name := "pathOnce", fn := fun _ => fun
  | [d] => { results := [.lit (.bool true)], args := [d] }
  | _ => none }
def pathOnceRow : OpenClaim := { program := "ytelhmjkiajbobaa", sum := "600f65669e367c17cfda4bf3ef7195aeb4d458021e4e44c38ee2eced6bf12878", func := "pleach/pleachlaw2.PathOnce", spec := "pathOnce", apart := false }
def PathOnceSaid : Prop := pathOnceRow.holds Try.pinned (OpenSpec.ofChange pathOnceSpec)

/-- ITS FALSE NEIGHBOUR: 'it returns false'. Refute it at one input. -/
def pathOnceWrong : ChangeSpec := { name := "pathOnce", fn := fun _ => fun
  | [d] => { results := [.lit (.bool false)], args := [d] }
  | _ => none }
def PathOnceWrongFalsely : Prop := pathOnceRow.holds Try.pinned (OpenSpec.ofChange pathOnceWrong)

/-- 'pleachlaw2.PathForms': WHATEVER THE INPUT: true; the input reads as it did. -/
def pathFormsSpec : ChangeSpec := { name := "pathForms", fn := fun _ => fun
  | [] => { results := [.lit (.bool true)], args := [] }
  | _ => none }
def pathFormsRow : OpenClaim := { program := "ytelhmjkiajbobaa", sum := "600f65669e367c17cfda4bf3ef7195aeb4d458021e4e44c38ee2eced6bf12878", func := "pleach/pleachlaw2.PathForms", spec := "pathForms", apart := false }
def PathFormsSaid : Prop := pathFormsRow.holds Try.pinned (OpenSpec.ofChange pathFormsSpec)

/-- ITS FALSE NEIGHBOUR: 'it returns false'. Refute it at one input. -/
def pathFormsWrong : ChangeSpec := { name := "pathForms", fn := fun _ => fun
  | [] => { results := [.lit (.bool false)], args := [] }
  | _ => none }
def PathFormsWrongFalsely : Prop := pathFormsRow.holds Try.pinned (OpenSpec.ofChange pathFormsWrong)

/-- 'pleachlaw2.PathFronts': WHATEVER THE INPUT: true; the input reads as it did. -/
def pathFrontsSpec : ChangeSpec := { name := "pathFronts", fn := fun _ => fun
  | [d1, d2] => { results := [.lit (.bool true)], args := [d1, d2] }
  | _ => none }
def pathFrontsRow : OpenClaim := { program := "ytelhmjkiajbobaa", sum := "600f65669e367c17cfda4bf3ef7195aeb4d458021e4e44c38ee2eced6bf12878", func := "pleach/pleachlaw2.PathFronts", spec := "pathFronts", apart := false }
def PathFrontsSaid : Prop := pathFrontsRow.holds Try.pinned (OpenSpec.ofChange pathFrontsSpec)

/-- ITS FALSE NEIGHBOUR: 'it returns false'. Refute it at one input. -/
def pathFrontsWrong : ChangeSpec := { name := "pathFronts", fn := fun _ => fun
  | [d1, d2] => { results := [.lit (.bool false)], args := [d1, d2] }
  | _ => none }
def PathFrontsWrongFalsely : Prop := pathFrontsRow.holds Try.pinned (OpenSpec.ofChange pathFrontsWrong)

/-- 'pleachlaw3.SpanAll': WHATEVER THE INPUT: true; the input reads as it did. -/
def spanAllSpec : ChangeSpec := { name := "spanAll", fn := fun _ => fun
  | [d1, d2, d3, d4] => { results := [.lit (.bool true)], args := [d1, d2, d3, d4] }
  | _ => none }
def spanAllRow : OpenClaim := { program := "ytelhmjkiajbobaa", sum := "600f65669e367c17cfda4bf3ef7195aeb4d458021e4e44c38ee2eced6bf12878", func := "pleach/pleachlaw3.SpanAll", spec := "spanAll", unfollowed := true, recurses := true, apart := false }
def SpanAllSaid : Prop := spanAllRow.holds Try.pinned (OpenSpec.ofChange spanAllSpec)

/-- ITS FALSE NEIGHBOUR: 'it returns false'. Refute it at one input. -/
def spanAllWrong : ChangeSpec := { name := "spanAll", fn := fun _ => fun
  | [d1, d2, d3, d4] => { results := [.lit (.bool false)], args := [d1, d2, d3, d4] }
  | _ => none }
def SpanAllWrongFalsely : Prop := spanAllRow.holds Try.pinned (OpenSpec.ofChange spanAllWrong)

/-- 'pleachlaw3.SpanSet': WHATEVER THE INPUT: true; the input reads as it did. -/
def spanSetSpec : ChangeSpec := { name := "spanSet", fn := fun _ => fun
  | [d1, d2, d3, d4] => { results := [.lit (.bool true)], args := [d1, d2, d3, d4] }
  | _ => none }
def spanSetRow : OpenClaim := { program := "ytelhmjkiajbobaa", sum := "600f65669e367c17cfda4bf3ef7195aeb4d458021e4e44c38ee2eced6bf12878", func := "pleach/pleachlaw3.SpanSet", spec := "spanSet", unfollowed := true, recurses := true, apart := false }
def SpanSetSaid : Prop := spanSetRow.holds Try.pinned (OpenSpec.ofChange spanSetSpec)

/-- ITS FALSE NEIGHBOUR: 'it returns false'. Refute it at one input. -/
def spanSetWrong : ChangeSpec := { name := "spanSet", fn := fun _ => fun
  | [d1, d2, d3, d4] => { results := [.lit (.bool false)], args := [d1, d2, d3, d4] }
  | _ => none }
def SpanSetWrongFalsely : Prop := spanSetRow.holds Try.pinned (OpenSpec.ofChange spanSetWrong)

/-- 'pleachlaw3.SpanForms': WHATEVER THE INPUT: true; the input reads as it did. -/
def spanFormsSpec : ChangeSpec := { name := "spanForms", fn := fun _ => fun
  | [] => { results := [.lit (.bool true)], args := [] }
  | _ => none }
def spanFormsRow : OpenClaim := { program := "ytelhmjkiajbobaa", sum := "600f65669e367c17cfda4bf3ef7195aeb4d458021e4e44c38ee2eced6bf12878", func := "pleach/pleachlaw3.SpanForms", spec := "spanForms", unfollowed := true, recurses := true, apart := false }
def SpanFormsSaid : Prop := spanFormsRow.holds Try.pinned (OpenSpec.ofChange spanFormsSpec)

/-- ITS FALSE NEIGHBOUR: 'it returns false'. Refute it at one input. -/
def spanFormsWrong : ChangeSpec := { name := "spanForms", fn := fun _ => fun
  | [] => { results := [.lit (.bool false)], args := [] }
  | _ => none }
def SpanFormsWrongFalsely : Prop := spanFormsRow.holds Try.pinned (OpenSpec.ofChange spanFormsWrong)

/- THE SECOND FORM. 'bulk': how many values and letters a reading holds, each counted each time it is reached (what is shared counts as often as it is met; a slice's spare places count too). A statement '..UptoSaid' is the law's where the arguments, and the package variables that the reading takes, are together of bulk at most 1048576: NARROWER than '..Said'. Prove '..Said' where nothing that the law and all that it calls make is longer than what came in: it says more and counts as full. Else prove '..UptoSaid'. A law counts once. -/
mutual
def uptoBulk {H : Type} : DataW H → Nat
  | .lit (.string bytes) => bytes.length + 1
  | .lit _ => 1
  | .nil => 1
  | .ptr d => uptoBulk d + 1
  | .slice elems spare => uptoBulkAll elems + uptoBulkAll spare + 1
  | .agg parts => uptoBulkAll parts + 1
  | .iface _ d => uptoBulk d + 1
  | .map entries => uptoBulkEntries entries + 1
  | .held _ => 1
def uptoBulkAll {H : Type} : List (DataW H) → Nat
  | [] => 0
  | d :: r => uptoBulk d + uptoBulkAll r
def uptoBulkEntries {H : Type} : List (Lit × DataW H) → Nat
  | [] => 0
  | x :: r => uptoBulkEntry x + uptoBulkEntries r
def uptoBulkEntry {H : Type} : Lit × DataW H → Nat
  | (.string bytes, d) => bytes.length + uptoBulk d + 1
  | (_, d) => uptoBulk d + 1
 end
def uptoSmall : (H : Type) → List (DataW H) → Bool := fun _ ds => decide (uptoBulkAll ds ≤ 1048576)
def OpenSpec.upto (s : _root_.Go.ChangeSpec) : _root_.Go.OpenSpec := { _root_.Go.OpenSpec.ofChange s with cond := some uptoSmall }

/-- 'pleachlaw1.TextAll', WHERE WHAT IT READS IS OF BULK AT MOST 1048576: true; the input reads as it did. -/
def textAllUptoRow : OpenClaim := { program := "ytelhmjkiajbobaa", sum := "600f65669e367c17cfda4bf3ef7195aeb4d458021e4e44c38ee2eced6bf12878", func := "pleach/pleachlaw1.TextAll", spec := "textAll", inPlace := ["internal/abi.NoEscape"], apart := false, narrowed := true }
def TextAllUptoSaid : Prop := textAllUptoRow.holds Try.pinned (OpenSpec.upto textAllSpec)

/-- 'pleachlaw1.TextCut', WHERE WHAT IT READS IS OF BULK AT MOST 1048576: true; the input reads as it did. -/
def textCutUptoRow : OpenClaim := { program := "ytelhmjkiajbobaa", sum := "600f65669e367c17cfda4bf3ef7195aeb4d458021e4e44c38ee2eced6bf12878", func := "pleach/pleachlaw1.TextCut", spec := "textCut", inPlace := ["internal/abi.NoEscape"], apart := false, narrowed := true }
def TextCutUptoSaid : Prop := textCutUptoRow.holds Try.pinned (OpenSpec.upto textCutSpec)

/-- 'pleachlaw1.TextShown', WHERE WHAT IT READS IS OF BULK AT MOST 1048576: true; the input reads as it did. -/
def textShownUptoRow : OpenClaim := { program := "ytelhmjkiajbobaa", sum := "600f65669e367c17cfda4bf3ef7195aeb4d458021e4e44c38ee2eced6bf12878", func := "pleach/pleachlaw1.TextShown", spec := "textShown", inPlace := ["internal/abi.NoEscape"], apart := false, narrowed := true }
def TextShownUptoSaid : Prop := textShownUptoRow.holds Try.pinned (OpenSpec.upto textShownSpec)

/-- 'pleachlaw1.TextForms', WHERE WHAT IT READS IS OF BULK AT MOST 1048576: true; the input reads as it did. -/
def textFormsUptoRow : OpenClaim := { program := "ytelhmjkiajbobaa", sum := "600f65669e367c17cfda4bf3ef7195aeb4d458021e4e44c38ee2eced6bf12878", func := "pleach/pleachlaw1.TextForms", spec := "textForms", inPlace := ["internal/abi.NoEscape"], apart := false, narrowed := true }
def TextFormsUptoSaid : Prop := textFormsUptoRow.holds Try.pinned (OpenSpec.upto textFormsSpec)

/-- 'pleachlaw1.TextJoins', WHERE WHAT IT READS IS OF BULK AT MOST 1048576: true; the input reads as it did. -/
def textJoinsUptoRow : OpenClaim := { program := "ytelhmjkiajbobaa", sum := "600f65669e367c17cfda4bf3ef7195aeb4d458021e4e44c38ee2eced6bf12878", func := "pleach/pleachlaw1.TextJoins", spec := "textJoins", inPlace := ["internal/abi.NoEscape"], apart := false, narrowed := true }
def TextJoinsUptoSaid : Prop := textJoinsUptoRow.holds Try.pinned (OpenSpec.upto textJoinsSpec)

/-- 'pleachlaw2.PathAll', WHERE WHAT IT READS IS OF BULK AT MOST 1048576: true; the input reads as it did. -/
def pathAllUptoRow : OpenClaim := { program := "ytelhmjkiajbobaa", sum := "600f65669e367c17cfda4bf3ef7195aeb4d458021e4e44c38ee2eced6bf12878", func := "pleach/pleachlaw2.PathAll", spec := "pathAll", apart := false, narrowed := true }
def PathAllUptoSaid : Prop := pathAllUptoRow.holds Try.pinned (OpenSpec.upto pathAllSpec)

/-- 'pleachlaw2.PathOnce', WHERE WHAT IT READS IS OF BULK AT MOST 1048576: true; the input reads as it did. -/
def pathOnceUptoRow : OpenClaim := { program := "ytelhmjkiajbobaa", sum := "600f65669e367c17cfda4bf3ef7195aeb4d458021e4e44c38ee2eced6bf12878", func := "pleach/pleachlaw2.PathOnce", spec := "pathOnce", apart := false, narrowed := true }
def PathOnceUptoSaid : Prop := pathOnceUptoRow.holds Try.pinned (OpenSpec.upto pathOnceSpec)

/-- 'pleachlaw2.PathForms', WHERE WHAT IT READS IS OF BULK AT MOST 1048576: true; the input reads as it did. -/
def pathFormsUptoRow : OpenClaim := { program := "ytelhmjkiajbobaa", sum := "600f65669e367c17cfda4bf3ef7195aeb4d458021e4e44c38ee2eced6bf12878", func := "pleach/pleachlaw2.PathForms", spec := "pathForms", apart := false, narrowed := true }
def PathFormsUptoSaid : Prop := pathFormsUptoRow.holds Try.pinned (OpenSpec.upto pathFormsSpec)

/-- 'pleachlaw2.PathFronts', WHERE WHAT IT READS IS OF BULK AT MOST 1048576: true; the input reads as it did. -/
def pathFrontsUptoRow : OpenClaim := { program := "ytelhmjkiajbobaa", sum := "600f65669e367c17cfda4bf3ef7195aeb4d458021e4e44c38ee2eced6bf12878", func := "pleach/pleachlaw2.PathFronts", spec := "pathFronts", apart := false, narrowed := true }
def PathFrontsUptoSaid : Prop := pathFrontsUptoRow.holds Try.pinned (OpenSpec.upto pathFrontsSpec)

/-- 'pleachlaw3.SpanAll', WHERE WHAT IT READS IS OF BULK AT MOST 1048576: true; the input reads as it did. -/
def spanAllUptoRow : OpenClaim := { program := "ytelhmjkiajbobaa", sum := "600f65669e367c17cfda4bf3ef7195aeb4d458021e4e44c38ee2eced6bf12878", func := "pleach/pleachlaw3.SpanAll", spec := "spanAll", unfollowed := true, recurses := true, apart := false, narrowed := true }
def SpanAllUptoSaid : Prop := spanAllUptoRow.holds Try.pinned (OpenSpec.upto spanAllSpec)

/-- 'pleachlaw3.SpanSet', WHERE WHAT IT READS IS OF BULK AT MOST 1048576: true; the input reads as it did. -/
def spanSetUptoRow : OpenClaim := { program := "ytelhmjkiajbobaa", sum := "600f65669e367c17cfda4bf3ef7195aeb4d458021e4e44c38ee2eced6bf12878", func := "pleach/pleachlaw3.SpanSet", spec := "spanSet", unfollowed := true, recurses := true, apart := false, narrowed := true }
def SpanSetUptoSaid : Prop := spanSetUptoRow.holds Try.pinned (OpenSpec.upto spanSetSpec)

/-- 'pleachlaw3.SpanForms', WHERE WHAT IT READS IS OF BULK AT MOST 1048576: true; the input reads as it did. -/
def spanFormsUptoRow : OpenClaim := { program := "ytelhmjkiajbobaa", sum := "600f65669e367c17cfda4bf3ef7195aeb4d458021e4e44c38ee2eced6bf12878", func := "pleach/pleachlaw3.SpanForms", spec := "spanForms", unfollowed := true, recurses := true, apart := false, narrowed := true }
def SpanFormsUptoSaid : Prop := spanFormsUptoRow.holds Try.pinned (OpenSpec.upto spanFormsSpec)

end Rows
end Go.Proofs.Ytelhmjkiajbobaa
