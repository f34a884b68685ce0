/-
  No cell of these rows narrows 'for every input' (looked for: loops, veiled, ifaces, maps, wideKeys, modest, calm, conditions, laid).
  DERIVED. THE GIVEN ROWS OF THIS SEAT. 3 by the template 'for every input the law returns true; each argument reads behind the call as it read before'; 0 by the template 'total and deterministic' (their statements: YtelhmjkiajbobabTotals.lean).
  GIVEN WITH THE SEED: the statements are not yours to turn. If you find one false, say at which input.
  Laid BY PROGRAM, IN A SANDBOX (cutbox-rows.mjs): the forced cells as the released guide's own fill.sh prints them over the translation 39dcee58835ca13f… (all of the seat's roots in one cut). By AI agents, Wed Nov 11 2026. No macro, syntax, notation, axiom, sorry.
-/
import Derived.Test.YtelhmjkiajbobabChecked
import GoSem.Claim
import GoSem.ClaimJoined
import GoSem.ClaimMapViews
import Derived.JoinedTies
import Derived.KernelRfl
namespace Go.Proofs.Ytelhmjkiajbobab
/- THE CELL 'sum', in the pinned program and in every row, IS THE sha256 OF THE DUMP (.gsa) THAT YtelhmjkiajbobabProg.lean LOADS. Nothing in Lean hashes anything: it is a label: what it is worth is what the hold of that sum in a sandbox is worth. -/
noncomputable def Try.pinned : Pinned := { name := "ytelhmjkiajbobab", sum := "39dcee58835ca13fe427fb7b8344c73af9ad1dddbd1a4e1b77b9fd0e43f11a37", checked := Try.checked }
namespace Rows
def none {H : Type} : Left H := { results := [], args := [] }

/-- 'pleachlaw4.WaitAll': WHATEVER THE INPUT: true; the input reads as it did. -/
def waitAllSpec : ChangeSpec := { name := "waitAll", fn := fun _ => fun
  | [d1, d2, d3] => { results := [.lit (.bool true)], args := [d1, d2, d3] }
  | _ => none }
def waitAllRow : OpenClaim := { program := "ytelhmjkiajbobab", sum := "39dcee58835ca13fe427fb7b8344c73af9ad1dddbd1a4e1b77b9fd0e43f11a37", func := "pleach/pleachlaw4.WaitAll", spec := "waitAll", apart := false }
def WaitAllSaid : Prop := waitAllRow.holds Try.pinned (OpenSpec.ofChange waitAllSpec)

/-- ITS FALSE NEIGHBOUR: 'it returns false'. Refute it at one input. -/
def waitAllWrong : ChangeSpec := { name := "waitAll", fn := fun _ => fun
  | [d1, d2, d3] => { results := [.lit (.bool false)], args := [d1, d2, d3] }
  | _ => none }
def WaitAllWrongFalsely : Prop := waitAllRow.holds Try.pinned (OpenSpec.ofChange waitAllWrong)

/-- 'pleachlaw4.WaitGaps': WHATEVER THE INPUT: true; the input reads as it did. -/
def waitGapsSpec : ChangeSpec := { name := "waitGaps", fn := fun _ => fun
  | [d] => { results := [.lit (.bool true)], args := [d] }
  | _ => none }
def waitGapsRow : OpenClaim := { program := "ytelhmjkiajbobab", sum := "39dcee58835ca13fe427fb7b8344c73af9ad1dddbd1a4e1b77b9fd0e43f11a37", func := "pleach/pleachlaw4.WaitGaps", spec := "waitGaps", apart := false }
def WaitGapsSaid : Prop := waitGapsRow.holds Try.pinned (OpenSpec.ofChange waitGapsSpec)

/-- ITS FALSE NEIGHBOUR: 'it returns false'. Refute it at one input. -/
def waitGapsWrong : ChangeSpec := { name := "waitGaps", fn := fun _ => fun
  | [d] => { results := [.lit (.bool false)], args := [d] }
  | _ => none }
def WaitGapsWrongFalsely : Prop := waitGapsRow.holds Try.pinned (OpenSpec.ofChange waitGapsWrong)

/-- 'pleachlaw4.WaitForms': WHATEVER THE INPUT: true; the input reads as it did. -/
def waitFormsSpec : ChangeSpec := { name := "waitForms", fn := fun _ => fun
  | [] => { results := [.lit (.bool true)], args := [] }
  | _ => none }
def waitFormsRow : OpenClaim := { program := "ytelhmjkiajbobab", sum := "39dcee58835ca13fe427fb7b8344c73af9ad1dddbd1a4e1b77b9fd0e43f11a37", func := "pleach/pleachlaw4.WaitForms", spec := "waitForms", apart := false }
def WaitFormsSaid : Prop := waitFormsRow.holds Try.pinned (OpenSpec.ofChange waitFormsSpec)

/-- ITS FALSE NEIGHBOUR: 'it returns false'. Refute it at one input. -/
def waitFormsWrong : ChangeSpec := { name := "waitForms", fn := fun _ => fun
  | [] => { results := [.lit (.bool false)], args := [] }
  | _ => none }
def WaitFormsWrongFalsely : Prop := waitFormsRow.holds Try.pinned (OpenSpec.ofChange waitFormsWrong)

/- THE SECOND FORM. 'bulk': how many values and letters a reading holds, each counted each time it is reached (what is shared counts as often as it is met; a slice's spare places count too). A statement '..UptoSaid' is the law's where the arguments, and the package variables that the reading takes, are together of bulk at most 1048576: NARROWER than '..Said'. Prove '..Said' where nothing that the law and all that it calls make is longer than what came in: it says more and counts as full. Else prove '..UptoSaid'. A law counts once. -/
mutual
def uptoBulk {H : Type} : DataW H → Nat
  | .lit (.string bytes) => bytes.length + 1
  | .lit _ => 1
  | .nil => 1
  | .ptr d => uptoBulk d + 1
  | .slice elems spare => uptoBulkAll elems + uptoBulkAll spare + 1
  | .agg parts => uptoBulkAll parts + 1
  | .iface _ d => uptoBulk d + 1
  | .map entries => uptoBulkEntries entries + 1
  | .held _ => 1
def uptoBulkAll {H : Type} : List (DataW H) → Nat
  | [] => 0
  | d :: r => uptoBulk d + uptoBulkAll r
def uptoBulkEntries {H : Type} : List (Lit × DataW H) → Nat
  | [] => 0
  | x :: r => uptoBulkEntry x + uptoBulkEntries r
def uptoBulkEntry {H : Type} : Lit × DataW H → Nat
  | (.string bytes, d) => bytes.length + uptoBulk d + 1
  | (_, d) => uptoBulk d + 1
 end
def uptoSmall : (H : Type) → List (DataW H) → Bool := fun _ ds => decide (uptoBulkAll ds ≤ 1048576)
def OpenSpec.upto (s : _root_.Go.ChangeSpec) : _root_.Go.OpenSpec := { _root_.Go.OpenSpec.ofChange s with cond := some uptoSmall }

/-- 'pleachlaw4.WaitAll', WHERE WHAT IT READS IS OF BULK AT MOST 1048576: true; the input reads as it did. -/
def waitAllUptoRow : OpenClaim := { program := "ytelhmjkiajbobab", sum := "39dcee58835ca13fe427fb7b8344c73af9ad1dddbd1a4e1b77b9fd0e43f11a37", func := "pleach/pleachlaw4.WaitAll", spec := "waitAll", apart := false, narrowed := true }
def WaitAllUptoSaid : Prop := waitAllUptoRow.holds Try.pinned (OpenSpec.upto waitAllSpec)

/-- 'pleachlaw4.WaitGaps', WHERE WHAT IT READS IS OF BULK AT MOST 1048576: true; the input reads as it did. -/
def waitGapsUptoRow : OpenClaim := { program := "ytelhmjkiajbobab", sum := "39dcee58835ca13fe427fb7b8344c73af9ad1dddbd1a4e1b77b9fd0e43f11a37", func := "pleach/pleachlaw4.WaitGaps", spec := "waitGaps", apart := false, narrowed := true }
def WaitGapsUptoSaid : Prop := waitGapsUptoRow.holds Try.pinned (OpenSpec.upto waitGapsSpec)

/-- 'pleachlaw4.WaitForms', WHERE WHAT IT READS IS OF BULK AT MOST 1048576: true; the input reads as it did. -/
def waitFormsUptoRow : OpenClaim := { program := "ytelhmjkiajbobab", sum := "39dcee58835ca13fe427fb7b8344c73af9ad1dddbd1a4e1b77b9fd0e43f11a37", func := "pleach/pleachlaw4.WaitForms", spec := "waitForms", apart := false, narrowed := true }
def WaitFormsUptoSaid : Prop := waitFormsUptoRow.holds Try.pinned (OpenSpec.upto waitFormsSpec)

end Rows
end Go.Proofs.Ytelhmjkiajbobab
