/-
  No cell of these rows narrows 'for every input' (looked for: loops, veiled, ifaces, maps, wideKeys, modest, calm, conditions, laid).
  DERIVED. THE GIVEN ROWS OF THIS SEAT. 4 by the template 'for every input the law returns true; each argument reads behind the call as it read before'; 0 by the template 'total and deterministic' (their statements: YtnjmmfcikdfinaaTotals.lean).
  GIVEN WITH THE SEED: the statements are not yours to turn. If you find one false, say at which input.
  Laid BY PROGRAM, IN A SANDBOX (cutbox-rows.mjs): the forced cells as the released guide's own fill.sh prints them over the translation 92b5377a34430620… (all of the seat's roots in one cut). By AI agents, Wed Nov 11 2026. No macro, syntax, notation, axiom, sorry.
-/
import Derived.Test.YtnjmmfcikdfinaaChecked
import GoSem.Claim
import GoSem.ClaimJoined
import GoSem.ClaimMapViews
import Derived.JoinedTies
import Derived.KernelRfl
namespace Go.Proofs.Ytnjmmfcikdfinaa
/- THE CELL 'sum', in the pinned program and in every row, IS THE sha256 OF THE DUMP (.gsa) THAT YtnjmmfcikdfinaaProg.lean LOADS. Nothing in Lean hashes anything: it is a label: what it is worth is what the hold of that sum in a sandbox is worth. -/
noncomputable def Try.pinned : Pinned := { name := "ytnjmmfcikdfinaa", sum := "92b5377a344306209d7ee0ecda3d4d06ca017d5b0ffbc1983ef0fb39f234c0a7", checked := Try.checked }
namespace Rows
def none {H : Type} : Left H := { results := [], args := [] }

/-- 'pleachlaw8.ClusAll': WHATEVER THE INPUT: true; the input reads as it did. -/
def clusAllSpec : ChangeSpec := { name := "clusAll", fn := fun _ => fun
  | [d1, d2, d3] => { results := [.lit (.bool true)], args := [d1, d2, d3] }
  | _ => none }
def clusAllRow : OpenClaim := { program := "ytnjmmfcikdfinaa", sum := "92b5377a344306209d7ee0ecda3d4d06ca017d5b0ffbc1983ef0fb39f234c0a7", func := "pleach/pleachlaw8.ClusAll", spec := "clusAll", unfollowed := true, recurses := true, apart := false }
def ClusAllSaid : Prop := clusAllRow.holds Try.pinned (OpenSpec.ofChange clusAllSpec)

/-- ITS FALSE NEIGHBOUR: 'it returns false'. Refute it at one input. -/
def clusAllWrong : ChangeSpec := { name := "clusAll", fn := fun _ => fun
  | [d1, d2, d3] => { results := [.lit (.bool false)], args := [d1, d2, d3] }
  | _ => none }
def ClusAllWrongFalsely : Prop := clusAllRow.holds Try.pinned (OpenSpec.ofChange clusAllWrong)

/-- 'pleachlaw8.ClusMoves': WHATEVER THE INPUT: true; the input reads as it did. -/
def clusMovesSpec : ChangeSpec := { name := "clusMoves", fn := fun _ => fun
  | [d1, d2, d3] => { results := [.lit (.bool true)], args := [d1, d2, d3] }
  | _ => none }
def clusMovesRow : OpenClaim := { program := "ytnjmmfcikdfinaa", sum := "92b5377a344306209d7ee0ecda3d4d06ca017d5b0ffbc1983ef0fb39f234c0a7", func := "pleach/pleachlaw8.ClusMoves", spec := "clusMoves", unfollowed := true, recurses := true, apart := false }
def ClusMovesSaid : Prop := clusMovesRow.holds Try.pinned (OpenSpec.ofChange clusMovesSpec)

/-- ITS FALSE NEIGHBOUR: 'it returns false'. Refute it at one input. -/
def clusMovesWrong : ChangeSpec := { name := "clusMoves", fn := fun _ => fun
  | [d1, d2, d3] => { results := [.lit (.bool false)], args := [d1, d2, d3] }
  | _ => none }
def ClusMovesWrongFalsely : Prop := clusMovesRow.holds Try.pinned (OpenSpec.ofChange clusMovesWrong)

/-- 'pleachlaw8.ClusNear': WHATEVER THE INPUT: true; the input reads as it did. -/
def clusNearSpec : ChangeSpec := { name := "clusNear", fn := fun _ => fun
  | [d1, d2, d3, d4] => { results := [.lit (.bool true)], args := [d1, d2, d3, d4] }
  | _ => none }
def clusNearRow : OpenClaim := { program := "ytnjmmfcikdfinaa", sum := "92b5377a344306209d7ee0ecda3d4d06ca017d5b0ffbc1983ef0fb39f234c0a7", func := "pleach/pleachlaw8.ClusNear", spec := "clusNear", unfollowed := true, recurses := true, apart := false }
def ClusNearSaid : Prop := clusNearRow.holds Try.pinned (OpenSpec.ofChange clusNearSpec)

/-- ITS FALSE NEIGHBOUR: 'it returns false'. Refute it at one input. -/
def clusNearWrong : ChangeSpec := { name := "clusNear", fn := fun _ => fun
  | [d1, d2, d3, d4] => { results := [.lit (.bool false)], args := [d1, d2, d3, d4] }
  | _ => none }
def ClusNearWrongFalsely : Prop := clusNearRow.holds Try.pinned (OpenSpec.ofChange clusNearWrong)

/-- 'pleachlaw8.ClusGroup': WHATEVER THE INPUT: true; the input reads as it did. -/
def clusGroupSpec : ChangeSpec := { name := "clusGroup", fn := fun _ => fun
  | [d1, d2, d3] => { results := [.lit (.bool true)], args := [d1, d2, d3] }
  | _ => none }
def clusGroupRow : OpenClaim := { program := "ytnjmmfcikdfinaa", sum := "92b5377a344306209d7ee0ecda3d4d06ca017d5b0ffbc1983ef0fb39f234c0a7", func := "pleach/pleachlaw8.ClusGroup", spec := "clusGroup", unfollowed := true, recurses := true, apart := false }
def ClusGroupSaid : Prop := clusGroupRow.holds Try.pinned (OpenSpec.ofChange clusGroupSpec)

/-- ITS FALSE NEIGHBOUR: 'it returns false'. Refute it at one input. -/
def clusGroupWrong : ChangeSpec := { name := "clusGroup", fn := fun _ => fun
  | [d1, d2, d3] => { results := [.lit (.bool false)], args := [d1, d2, d3] }
  | _ => none }
def ClusGroupWrongFalsely : Prop := clusGroupRow.holds Try.pinned (OpenSpec.ofChange clusGroupWrong)

/- THE SECOND FORM. 'bulk': how many values and letters a reading holds, each counted each time it is reached (what is shared counts as often as it is met; a slice's spare places count too). A statement '..UptoSaid' is the law's where the arguments, and the package variables that the reading takes, are together of bulk at most 1048576: NARROWER than '..Said'. Prove '..Said' where nothing that the law and all that it calls make is longer than what came in: it says more and counts as full. Else prove '..UptoSaid'. A law counts once. -/
mutual
def uptoBulk {H : Type} : DataW H → Nat
  | .lit (.string bytes) => bytes.length + 1
  | .lit _ => 1
  | .nil => 1
  | .ptr d => uptoBulk d + 1
  | .slice elems spare => uptoBulkAll elems + uptoBulkAll spare + 1
  | .agg parts => uptoBulkAll parts + 1
  | .iface _ d => uptoBulk d + 1
  | .map entries => uptoBulkEntries entries + 1
  | .held _ => 1
def uptoBulkAll {H : Type} : List (DataW H) → Nat
  | [] => 0
  | d :: r => uptoBulk d + uptoBulkAll r
def uptoBulkEntries {H : Type} : List (Lit × DataW H) → Nat
  | [] => 0
  | x :: r => uptoBulkEntry x + uptoBulkEntries r
def uptoBulkEntry {H : Type} : Lit × DataW H → Nat
  | (.string bytes, d) => bytes.length + uptoBulk d + 1
  | (_, d) => uptoBulk d + 1
 end
def uptoSmall : (H : Type) → List (DataW H) → Bool := fun _ ds => decide (uptoBulkAll ds ≤ 1048576)
def OpenSpec.upto (s : _root_.Go.ChangeSpec) : _root_.Go.OpenSpec := { _root_.Go.OpenSpec.ofChange s with cond := some uptoSmall }

/-- 'pleachlaw8.ClusAll', WHERE WHAT IT READS IS OF BULK AT MOST 1048576: true; the input reads as it did. -/
def clusAllUptoRow : OpenClaim := { program := "ytnjmmfcikdfinaa", sum := "92b5377a344306209d7ee0ecda3d4d06ca017d5b0ffbc1983ef0fb39f234c0a7", func := "pleach/pleachlaw8.ClusAll", spec := "clusAll", unfollowed := true, recurses := true, apart := false, narrowed := true }
def ClusAllUptoSaid : Prop := clusAllUptoRow.holds Try.pinned (OpenSpec.upto clusAllSpec)

/-- 'pleachlaw8.ClusMoves', WHERE WHAT IT READS IS OF BULK AT MOST 1048576: true; the input reads as it did. -/
def clusMovesUptoRow : OpenClaim := { program := "ytnjmmfcikdfinaa", sum := "92b5377a344306209d7ee0ecda3d4d06ca017d5b0ffbc1983ef0fb39f234c0a7", func := "pleach/pleachlaw8.ClusMoves", spec := "clusMoves", unfollowed := true, recurses := true, apart := false, narrowed := true }
def ClusMovesUptoSaid : Prop := clusMovesUptoRow.holds Try.pinned (OpenSpec.upto clusMovesSpec)

/-- 'pleachlaw8.ClusNear', WHERE WHAT IT READS IS OF BULK AT MOST 1048576: true; the input reads as it did. -/
def clusNearUptoRow : OpenClaim := { program := "ytnjmmfcikdfinaa", sum := "92b5377a344306209d7ee0ecda3d4d06ca017d5b0ffbc1983ef0fb39f234c0a7", func := "pleach/pleachlaw8.ClusNear", spec := "clusNear", unfollowed := true, recurses := true, apart := false, narrowed := true }
def ClusNearUptoSaid : Prop := clusNearUptoRow.holds Try.pinned (OpenSpec.upto clusNearSpec)

/-- 'pleachlaw8.ClusGroup', WHERE WHAT IT READS IS OF BULK AT MOST 1048576: true; the input reads as it did. -/
def clusGroupUptoRow : OpenClaim := { program := "ytnjmmfcikdfinaa", sum := "92b5377a344306209d7ee0ecda3d4d06ca017d5b0ffbc1983ef0fb39f234c0a7", func := "pleach/pleachlaw8.ClusGroup", spec := "clusGroup", unfollowed := true, recurses := true, apart := false, narrowed := true }
def ClusGroupUptoSaid : Prop := clusGroupUptoRow.holds Try.pinned (OpenSpec.upto clusGroupSpec)

end Rows
end Go.Proofs.Ytnjmmfcikdfinaa
