/-
  No cell of these rows narrows 'for every input' (looked for: loops, veiled, ifaces, maps, wideKeys, modest, calm, conditions, laid).
  DERIVED. THE GIVEN ROWS OF THIS SEAT. 4 by the template 'for every input the law returns true; each argument reads behind the call as it read before'; 0 by the template 'total and deterministic' (their statements: YtkghjdndgcnebabGreatTotals.lean).
  GIVEN WITH THE SEED: the statements are not yours to turn. If you find one false, say at which input.
  Laid BY PROGRAM, IN A SANDBOX (cutbox-rows.mjs): the forced cells as the released guide's own fill.sh prints them over the translation 757268d30b7b5ac7… (all of the seat's roots in one cut). By AI agents, Wed Nov 11 2026. No macro, syntax, notation, axiom, sorry.
-/
import Derived.Test.YtkghjdndgcnebabGreatChecked
import GoSem.Claim
import GoSem.ClaimJoined
import GoSem.ClaimMapViews
import Derived.JoinedTies
import Derived.KernelRfl
namespace Go.Proofs.YtkghjdndgcnebabGreat
/- THE CELL 'sum', in the pinned program and in every row, IS THE sha256 OF THE DUMP (.gsa) THAT YtkghjdndgcnebabGreatProg.lean LOADS. Nothing in Lean hashes anything: it is a label: what it is worth is what the hold of that sum in a sandbox is worth. -/
noncomputable def Tryz.pinned : Pinned := { name := "ytkghjdndgcnebabgreat", sum := "757268d30b7b5ac7b1f2d4728db86419169fdf88fdcba931f68c14e97d10312c", checked := Tryz.checked }
namespace Rows
def none {H : Type} : Left H := { results := [], args := [] }

/-- 'pleachlaw20.NodeForms': WHATEVER THE INPUT: true; the input reads as it did. -/
def nodeFormsSpec : ChangeSpec := { name := "nodeForms", fn := fun _ => fun
  | [] => { results := [.lit (.bool true)], args := [] }
  | _ => none }
def nodeFormsRow : OpenClaim := { program := "ytkghjdndgcnebabgreat", sum := "757268d30b7b5ac7b1f2d4728db86419169fdf88fdcba931f68c14e97d10312c", func := "pleach/pleachlaw20.NodeForms", spec := "nodeForms", inPlace := ["slices.overlaps[pleach/api.Kid]", "slices.overlaps[pleach/api.Item]"], unfollowed := true, recurses := true, apart := false }
def NodeFormsSaid : Prop := nodeFormsRow.holds Tryz.pinned (OpenSpec.ofChange nodeFormsSpec)

/-- ITS FALSE NEIGHBOUR: 'it returns false'. Refute it at one input. -/
def nodeFormsWrong : ChangeSpec := { name := "nodeForms", fn := fun _ => fun
  | [] => { results := [.lit (.bool false)], args := [] }
  | _ => none }
def NodeFormsWrongFalsely : Prop := nodeFormsRow.holds Tryz.pinned (OpenSpec.ofChange nodeFormsWrong)

/-- 'pleachlaw24.TruthForms': WHATEVER THE INPUT: true; the input reads as it did. -/
def truthFormsSpec : ChangeSpec := { name := "truthForms", fn := fun _ => fun
  | [] => { results := [.lit (.bool true)], args := [] }
  | _ => none }
def truthFormsRow : OpenClaim := { program := "ytkghjdndgcnebabgreat", sum := "757268d30b7b5ac7b1f2d4728db86419169fdf88fdcba931f68c14e97d10312c", func := "pleach/pleachlaw24.TruthForms", spec := "truthForms", apart := false }
def TruthFormsSaid : Prop := truthFormsRow.holds Tryz.pinned (OpenSpec.ofChange truthFormsSpec)

/-- ITS FALSE NEIGHBOUR: 'it returns false'. Refute it at one input. -/
def truthFormsWrong : ChangeSpec := { name := "truthForms", fn := fun _ => fun
  | [] => { results := [.lit (.bool false)], args := [] }
  | _ => none }
def TruthFormsWrongFalsely : Prop := truthFormsRow.holds Tryz.pinned (OpenSpec.ofChange truthFormsWrong)

/-- 'pleachlaw22.WorldForms': WHATEVER THE INPUT: true; the input reads as it did. -/
def worldFormsSpec : ChangeSpec := { name := "worldForms", fn := fun _ => fun
  | [] => { results := [.lit (.bool true)], args := [] }
  | _ => none }
def worldFormsRow : OpenClaim := { program := "ytkghjdndgcnebabgreat", sum := "757268d30b7b5ac7b1f2d4728db86419169fdf88fdcba931f68c14e97d10312c", func := "pleach/pleachlaw22.WorldForms", spec := "worldForms", inPlace := ["slices.overlaps[pleach/api.Kid]", "slices.overlaps[pleach/api.Item]"], unfollowed := true, recurses := true, apart := false }
def WorldFormsSaid : Prop := worldFormsRow.holds Tryz.pinned (OpenSpec.ofChange worldFormsSpec)

/-- ITS FALSE NEIGHBOUR: 'it returns false'. Refute it at one input. -/
def worldFormsWrong : ChangeSpec := { name := "worldForms", fn := fun _ => fun
  | [] => { results := [.lit (.bool false)], args := [] }
  | _ => none }
def WorldFormsWrongFalsely : Prop := worldFormsRow.holds Tryz.pinned (OpenSpec.ofChange worldFormsWrong)

/-- 'pleachlaw23.QuietForms': WHATEVER THE INPUT: true; the input reads as it did. -/
def quietFormsSpec : ChangeSpec := { name := "quietForms", fn := fun _ => fun
  | [] => { results := [.lit (.bool true)], args := [] }
  | _ => none }
def quietFormsRow : OpenClaim := { program := "ytkghjdndgcnebabgreat", sum := "757268d30b7b5ac7b1f2d4728db86419169fdf88fdcba931f68c14e97d10312c", func := "pleach/pleachlaw23.QuietForms", spec := "quietForms", inPlace := ["slices.overlaps[pleach/api.Kid]", "slices.overlaps[pleach/api.Item]"], unfollowed := true, recurses := true, apart := false }
def QuietFormsSaid : Prop := quietFormsRow.holds Tryz.pinned (OpenSpec.ofChange quietFormsSpec)

/-- ITS FALSE NEIGHBOUR: 'it returns false'. Refute it at one input. -/
def quietFormsWrong : ChangeSpec := { name := "quietForms", fn := fun _ => fun
  | [] => { results := [.lit (.bool false)], args := [] }
  | _ => none }
def QuietFormsWrongFalsely : Prop := quietFormsRow.holds Tryz.pinned (OpenSpec.ofChange quietFormsWrong)

/- THE SECOND FORM. 'bulk': how many values and letters a reading holds, each counted each time it is reached (what is shared counts as often as it is met; a slice's spare places count too). A statement '..UptoSaid' is the law's where the arguments, and the package variables that the reading takes, are together of bulk at most 1048576: NARROWER than '..Said'. Prove '..Said' where nothing that the law and all that it calls make is longer than what came in: it says more and counts as full. Else prove '..UptoSaid'. A law counts once. -/
mutual
def uptoBulk {H : Type} : DataW H → Nat
  | .lit (.string bytes) => bytes.length + 1
  | .lit _ => 1
  | .nil => 1
  | .ptr d => uptoBulk d + 1
  | .slice elems spare => uptoBulkAll elems + uptoBulkAll spare + 1
  | .agg parts => uptoBulkAll parts + 1
  | .iface _ d => uptoBulk d + 1
  | .map entries => uptoBulkEntries entries + 1
  | .held _ => 1
def uptoBulkAll {H : Type} : List (DataW H) → Nat
  | [] => 0
  | d :: r => uptoBulk d + uptoBulkAll r
def uptoBulkEntries {H : Type} : List (Lit × DataW H) → Nat
  | [] => 0
  | x :: r => uptoBulkEntry x + uptoBulkEntries r
def uptoBulkEntry {H : Type} : Lit × DataW H → Nat
  | (.string bytes, d) => bytes.length + uptoBulk d + 1
  | (_, d) => uptoBulk d + 1
 end
def uptoSmall : (H : Type) → List (DataW H) → Bool := fun _ ds => decide (uptoBulkAll ds ≤ 1048576)
def OpenSpec.upto (s : _root_.Go.ChangeSpec) : _root_.Go.OpenSpec := { _root_.Go.OpenSpec.ofChange s with cond := some uptoSmall }

/-- 'pleachlaw20.NodeForms', WHERE WHAT IT READS IS OF BULK AT MOST 1048576: true; the input reads as it did. -/
def nodeFormsUptoRow : OpenClaim := { program := "ytkghjdndgcnebabgreat", sum := "757268d30b7b5ac7b1f2d4728db86419169fdf88fdcba931f68c14e97d10312c", func := "pleach/pleachlaw20.NodeForms", spec := "nodeForms", inPlace := ["slices.overlaps[pleach/api.Kid]", "slices.overlaps[pleach/api.Item]"], unfollowed := true, recurses := true, apart := false, narrowed := true }
def NodeFormsUptoSaid : Prop := nodeFormsUptoRow.holds Tryz.pinned (OpenSpec.upto nodeFormsSpec)

/-- 'pleachlaw24.TruthForms', WHERE WHAT IT READS IS OF BULK AT MOST 1048576: true; the input reads as it did. -/
def truthFormsUptoRow : OpenClaim := { program := "ytkghjdndgcnebabgreat", sum := "757268d30b7b5ac7b1f2d4728db86419169fdf88fdcba931f68c14e97d10312c", func := "pleach/pleachlaw24.TruthForms", spec := "truthForms", apart := false, narrowed := true }
def TruthFormsUptoSaid : Prop := truthFormsUptoRow.holds Tryz.pinned (OpenSpec.upto truthFormsSpec)

/-- 'pleachlaw22.WorldForms', WHERE WHAT IT READS IS OF BULK AT MOST 1048576: true; the input reads as it did. -/
def worldFormsUptoRow : OpenClaim := { program := "ytkghjdndgcnebabgreat", sum := "757268d30b7b5ac7b1f2d4728db86419169fdf88fdcba931f68c14e97d10312c", func := "pleach/pleachlaw22.WorldForms", spec := "worldForms", inPlace := ["slices.overlaps[pleach/api.Kid]", "slices.overlaps[pleach/api.Item]"], unfollowed := true, recurses := true, apart := false, narrowed := true }
def WorldFormsUptoSaid : Prop := worldFormsUptoRow.holds Tryz.pinned (OpenSpec.upto worldFormsSpec)

/-- 'pleachlaw23.QuietForms', WHERE WHAT IT READS IS OF BULK AT MOST 1048576: true; the input reads as it did. -/
def quietFormsUptoRow : OpenClaim := { program := "ytkghjdndgcnebabgreat", sum := "757268d30b7b5ac7b1f2d4728db86419169fdf88fdcba931f68c14e97d10312c", func := "pleach/pleachlaw23.QuietForms", spec := "quietForms", inPlace := ["slices.overlaps[pleach/api.Kid]", "slices.overlaps[pleach/api.Item]"], unfollowed := true, recurses := true, apart := false, narrowed := true }
def QuietFormsUptoSaid : Prop := quietFormsUptoRow.holds Tryz.pinned (OpenSpec.upto quietFormsSpec)

end Rows
end Go.Proofs.YtkghjdndgcnebabGreat
