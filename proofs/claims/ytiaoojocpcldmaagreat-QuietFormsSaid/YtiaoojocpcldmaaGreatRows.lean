/-
  No cell of these rows narrows 'for every input' (looked for: loops, veiled, ifaces, maps, wideKeys, modest, calm, conditions, laid).
  DERIVED. THE GIVEN ROWS OF THIS SEAT. 6 by the template 'for every input the law returns true; each argument reads behind the call as it read before'; 0 by the template 'total and deterministic' (their statements: YtiaoojocpcldmaaGreatTotals.lean).
  GIVEN WITH THE SEED: the statements are not yours to turn. If you find one false, say at which input.
  Laid BY PROGRAM, IN A SANDBOX (cutbox-rows.mjs): the forced cells as the released guide's own fill.sh prints them over the translation 0817a8912df72626… (all of the seat's roots in one cut). By AI agents, Wed Nov 11 2026. No macro, syntax, notation, axiom, sorry.
-/
import Derived.Test.YtiaoojocpcldmaaGreatChecked
import GoSem.Claim
import GoSem.ClaimJoined
import GoSem.ClaimMapViews
import Derived.JoinedTies
import Derived.KernelRfl
namespace Go.Proofs.YtiaoojocpcldmaaGreat
/- THE CELL 'sum', in the pinned program and in every row, IS THE sha256 OF THE DUMP (.gsa) THAT YtiaoojocpcldmaaGreatProg.lean LOADS. Nothing in Lean hashes anything: it is a label: what it is worth is what the hold of that sum in a sandbox is worth. -/
noncomputable def Tryz.pinned : Pinned := { name := "ytiaoojocpcldmaagreat", sum := "0817a8912df72626db48ce9dc1a0a7c19e0a03b924f7c4a8e5ac453bdf71e16e", checked := Tryz.checked }
namespace Rows
def none {H : Type} : Left H := { results := [], args := [] }

/-- 'pleachlaw22.WorldNew': WHATEVER THE INPUT: true; the input reads as it did. -/
def worldNewSpec : ChangeSpec := { name := "worldNew", fn := fun _ => fun
  | [d1, d2, d3] => { results := [.lit (.bool true)], args := [d1, d2, d3] }
  | _ => none }
def worldNewRow : OpenClaim := { program := "ytiaoojocpcldmaagreat", sum := "0817a8912df72626db48ce9dc1a0a7c19e0a03b924f7c4a8e5ac453bdf71e16e", func := "pleach/pleachlaw22.WorldNew", spec := "worldNew", inPlace := ["slices.overlaps[pleach/api.Kid]", "slices.overlaps[pleach/api.Item]"], unfollowed := true, recurses := true, apart := false }
def WorldNewSaid : Prop := worldNewRow.holds Tryz.pinned (OpenSpec.ofChange worldNewSpec)

/-- ITS FALSE NEIGHBOUR: 'it returns false'. Refute it at one input. -/
def worldNewWrong : ChangeSpec := { name := "worldNew", fn := fun _ => fun
  | [d1, d2, d3] => { results := [.lit (.bool false)], args := [d1, d2, d3] }
  | _ => none }
def WorldNewWrongFalsely : Prop := worldNewRow.holds Tryz.pinned (OpenSpec.ofChange worldNewWrong)

/-- 'pleachlaw22.WorldForms': WHATEVER THE INPUT: true; the input reads as it did. -/
def worldFormsSpec : ChangeSpec := { name := "worldForms", fn := fun _ => fun
  | [] => { results := [.lit (.bool true)], args := [] }
  | _ => none }
def worldFormsRow : OpenClaim := { program := "ytiaoojocpcldmaagreat", sum := "0817a8912df72626db48ce9dc1a0a7c19e0a03b924f7c4a8e5ac453bdf71e16e", func := "pleach/pleachlaw22.WorldForms", spec := "worldForms", inPlace := ["slices.overlaps[pleach/api.Kid]", "slices.overlaps[pleach/api.Item]"], unfollowed := true, recurses := true, apart := false }
def WorldFormsSaid : Prop := worldFormsRow.holds Tryz.pinned (OpenSpec.ofChange worldFormsSpec)

/-- ITS FALSE NEIGHBOUR: 'it returns false'. Refute it at one input. -/
def worldFormsWrong : ChangeSpec := { name := "worldForms", fn := fun _ => fun
  | [] => { results := [.lit (.bool false)], args := [] }
  | _ => none }
def WorldFormsWrongFalsely : Prop := worldFormsRow.holds Tryz.pinned (OpenSpec.ofChange worldFormsWrong)

/-- 'pleachlaw22.WorldJoins': WHATEVER THE INPUT: true; the input reads as it did. -/
def worldJoinsSpec : ChangeSpec := { name := "worldJoins", fn := fun _ => fun
  | [d1, d2] => { results := [.lit (.bool true)], args := [d1, d2] }
  | _ => none }
def worldJoinsRow : OpenClaim := { program := "ytiaoojocpcldmaagreat", sum := "0817a8912df72626db48ce9dc1a0a7c19e0a03b924f7c4a8e5ac453bdf71e16e", func := "pleach/pleachlaw22.WorldJoins", spec := "worldJoins", inPlace := ["slices.overlaps[pleach/api.Kid]", "slices.overlaps[pleach/api.Item]"], unfollowed := true, recurses := true, apart := false }
def WorldJoinsSaid : Prop := worldJoinsRow.holds Tryz.pinned (OpenSpec.ofChange worldJoinsSpec)

/-- ITS FALSE NEIGHBOUR: 'it returns false'. Refute it at one input. -/
def worldJoinsWrong : ChangeSpec := { name := "worldJoins", fn := fun _ => fun
  | [d1, d2] => { results := [.lit (.bool false)], args := [d1, d2] }
  | _ => none }
def WorldJoinsWrongFalsely : Prop := worldJoinsRow.holds Tryz.pinned (OpenSpec.ofChange worldJoinsWrong)

/-- 'pleachlaw23.QuietForms': WHATEVER THE INPUT: true; the input reads as it did. -/
def quietFormsSpec : ChangeSpec := { name := "quietForms", fn := fun _ => fun
  | [] => { results := [.lit (.bool true)], args := [] }
  | _ => none }
def quietFormsRow : OpenClaim := { program := "ytiaoojocpcldmaagreat", sum := "0817a8912df72626db48ce9dc1a0a7c19e0a03b924f7c4a8e5ac453bdf71e16e", func := "pleach/pleachlaw23.QuietForms", spec := "quietForms", inPlace := ["slices.overlaps[pleach/api.Kid]", "slices.overlaps[pleach/api.Item]"], unfollowed := true, recurses := true, apart := false }
def QuietFormsSaid : Prop := quietFormsRow.holds Tryz.pinned (OpenSpec.ofChange quietFormsSpec)

/-- ITS FALSE NEIGHBOUR: 'it returns false'. Refute it at one input. -/
def quietFormsWrong : ChangeSpec := { name := "quietForms", fn := fun _ => fun
  | [] => { results := [.lit (.bool false)], args := [] }
  | _ => none }
def QuietFormsWrongFalsely : Prop := quietFormsRow.holds Tryz.pinned (OpenSpec.ofChange quietFormsWrong)

/-- 'pleachlaw24.TruthForms': WHATEVER THE INPUT: true; the input reads as it did. -/
def truthFormsSpec : ChangeSpec := { name := "truthForms", fn := fun _ => fun
  | [] => { results := [.lit (.bool true)], args := [] }
  | _ => none }
def truthFormsRow : OpenClaim := { program := "ytiaoojocpcldmaagreat", sum := "0817a8912df72626db48ce9dc1a0a7c19e0a03b924f7c4a8e5ac453bdf71e16e", func := "pleach/pleachlaw24.TruthForms", spec := "truthForms", apart := false }
def TruthFormsSaid : Prop := truthFormsRow.holds Tryz.pinned (OpenSpec.ofChange truthFormsSpec)

/-- ITS FALSE NEIGHBOUR: 'it returns false'. Refute it at one input. -/
def truthFormsWrong : ChangeSpec := { name := "truthForms", fn := fun _ => fun
  | [] => { results := [.lit (.bool false)], args := [] }
  | _ => none }
def TruthFormsWrongFalsely : Prop := truthFormsRow.holds Tryz.pinned (OpenSpec.ofChange truthFormsWrong)

/-- 'pleachtop.TopNear': WHATEVER THE INPUT: true; the input reads as it did. -/
def topNearSpec : ChangeSpec := { name := "topNear", fn := fun _ => fun
  | [d1, d2, d3] => { results := [.lit (.bool true)], args := [d1, d2, d3] }
  | _ => none }
def topNearRow : OpenClaim := { program := "ytiaoojocpcldmaagreat", sum := "0817a8912df72626db48ce9dc1a0a7c19e0a03b924f7c4a8e5ac453bdf71e16e", func := "pleach/pleachtop.TopNear", spec := "topNear", inPlace := ["slices.overlaps[pleach/api.Kid]", "slices.overlaps[pleach/api.Item]"], unfollowed := true, recurses := true, apart := false }
def TopNearSaid : Prop := topNearRow.holds Tryz.pinned (OpenSpec.ofChange topNearSpec)

/-- ITS FALSE NEIGHBOUR: 'it returns false'. Refute it at one input. -/
def topNearWrong : ChangeSpec := { name := "topNear", fn := fun _ => fun
  | [d1, d2, d3] => { results := [.lit (.bool false)], args := [d1, d2, d3] }
  | _ => none }
def TopNearWrongFalsely : Prop := topNearRow.holds Tryz.pinned (OpenSpec.ofChange topNearWrong)

/- THE SECOND FORM. 'bulk': how many values and letters a reading holds, each counted each time it is reached (what is shared counts as often as it is met; a slice's spare places count too). A statement '..UptoSaid' is the law's where the arguments, and the package variables that the reading takes, are together of bulk at most 1048576: NARROWER than '..Said'. Prove '..Said' where nothing that the law and all that it calls make is longer than what came in: it says more and counts as full. Else prove '..UptoSaid'. A law counts once. -/
mutual
def uptoBulk {H : Type} : DataW H → Nat
  | .lit (.string bytes) => bytes.length + 1
  | .lit _ => 1
  | .nil => 1
  | .ptr d => uptoBulk d + 1
  | .slice elems spare => uptoBulkAll elems + uptoBulkAll spare + 1
  | .agg parts => uptoBulkAll parts + 1
  | .iface _ d => uptoBulk d + 1
  | .map entries => uptoBulkEntries entries + 1
  | .held _ => 1
def uptoBulkAll {H : Type} : List (DataW H) → Nat
  | [] => 0
  | d :: r => uptoBulk d + uptoBulkAll r
def uptoBulkEntries {H : Type} : List (Lit × DataW H) → Nat
  | [] => 0
  | x :: r => uptoBulkEntry x + uptoBulkEntries r
def uptoBulkEntry {H : Type} : Lit × DataW H → Nat
  | (.string bytes, d) => bytes.length + uptoBulk d + 1
  | (_, d) => uptoBulk d + 1
 end
def uptoSmall : (H : Type) → List (DataW H) → Bool := fun _ ds => decide (uptoBulkAll ds ≤ 1048576)
def OpenSpec.upto (s : _root_.Go.ChangeSpec) : _root_.Go.OpenSpec := { _root_.Go.OpenSpec.ofChange s with cond := some uptoSmall }

/-- 'pleachlaw22.WorldNew', WHERE WHAT IT READS IS OF BULK AT MOST 1048576: true; the input reads as it did. -/
def worldNewUptoRow : OpenClaim := { program := "ytiaoojocpcldmaagreat", sum := "0817a8912df72626db48ce9dc1a0a7c19e0a03b924f7c4a8e5ac453bdf71e16e", func := "pleach/pleachlaw22.WorldNew", spec := "worldNew", inPlace := ["slices.overlaps[pleach/api.Kid]", "slices.overlaps[pleach/api.Item]"], unfollowed := true, recurses := true, apart := false, narrowed := true }
def WorldNewUptoSaid : Prop := worldNewUptoRow.holds Tryz.pinned (OpenSpec.upto worldNewSpec)

/-- 'pleachlaw22.WorldForms', WHERE WHAT IT READS IS OF BULK AT MOST 1048576: true; the input reads as it did. -/
def worldFormsUptoRow : OpenClaim := { program := "ytiaoojocpcldmaagreat", sum := "0817a8912df72626db48ce9dc1a0a7c19e0a03b924f7c4a8e5ac453bdf71e16e", func := "pleach/pleachlaw22.WorldForms", spec := "worldForms", inPlace := ["slices.overlaps[pleach/api.Kid]", "slices.overlaps[pleach/api.Item]"], unfollowed := true, recurses := true, apart := false, narrowed := true }
def WorldFormsUptoSaid : Prop := worldFormsUptoRow.holds Tryz.pinned (OpenSpec.upto worldFormsSpec)

/-- 'pleachlaw22.WorldJoins', WHERE WHAT IT READS IS OF BULK AT MOST 1048576: true; the input reads as it did. -/
def worldJoinsUptoRow : OpenClaim := { program := "ytiaoojocpcldmaagreat", sum := "0817a8912df72626db48ce9dc1a0a7c19e0a03b924f7c4a8e5ac453bdf71e16e", func := "pleach/pleachlaw22.WorldJoins", spec := "worldJoins", inPlace := ["slices.overlaps[pleach/api.Kid]", "slices.overlaps[pleach/api.Item]"], unfollowed := true, recurses := true, apart := false, narrowed := true }
def WorldJoinsUptoSaid : Prop := worldJoinsUptoRow.holds Tryz.pinned (OpenSpec.upto worldJoinsSpec)

/-- 'pleachlaw23.QuietForms', WHERE WHAT IT READS IS OF BULK AT MOST 1048576: true; the input reads as it did. -/
def quietFormsUptoRow : OpenClaim := { program := "ytiaoojocpcldmaagreat", sum := "0817a8912df72626db48ce9dc1a0a7c19e0a03b924f7c4a8e5ac453bdf71e16e", func := "pleach/pleachlaw23.QuietForms", spec := "quietForms", inPlace := ["slices.overlaps[pleach/api.Kid]", "slices.overlaps[pleach/api.Item]"], unfollowed := true, recurses := true, apart := false, narrowed := true }
def QuietFormsUptoSaid : Prop := quietFormsUptoRow.holds Tryz.pinned (OpenSpec.upto quietFormsSpec)

/-- 'pleachlaw24.TruthForms', WHERE WHAT IT READS IS OF BULK AT MOST 1048576: true; the input reads as it did. -/
def truthFormsUptoRow : OpenClaim := { program := "ytiaoojocpcldmaagreat", sum := "0817a8912df72626db48ce9dc1a0a7c19e0a03b924f7c4a8e5ac453bdf71e16e", func := "pleach/pleachlaw24.TruthForms", spec := "truthForms", apart := false, narrowed := true }
def TruthFormsUptoSaid : Prop := truthFormsUptoRow.holds Tryz.pinned (OpenSpec.upto truthFormsSpec)

/-- 'pleachtop.TopNear', WHERE WHAT IT READS IS OF BULK AT MOST 1048576: true; the input reads as it did. -/
def topNearUptoRow : OpenClaim := { program := "ytiaoojocpcldmaagreat", sum := "0817a8912df72626db48ce9dc1a0a7c19e0a03b924f7c4a8e5ac453bdf71e16e", func := "pleach/pleachtop.TopNear", spec := "topNear", inPlace := ["slices.overlaps[pleach/api.Kid]", "slices.overlaps[pleach/api.Item]"], unfollowed := true, recurses := true, apart := false, narrowed := true }
def TopNearUptoSaid : Prop := topNearUptoRow.holds Tryz.pinned (OpenSpec.upto topNearSpec)

end Rows
end Go.Proofs.YtiaoojocpcldmaaGreat
