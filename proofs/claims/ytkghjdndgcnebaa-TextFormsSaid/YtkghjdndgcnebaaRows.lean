/-
  No cell of these rows narrows 'for every input' (looked for: loops, veiled, ifaces, maps, wideKeys, modest, calm, conditions, laid).
  DERIVED. THE GIVEN ROWS OF THIS SEAT. 4 by the template 'for every input the law returns true; each argument reads behind the call as it read before'; 0 by the template 'total and deterministic' (their statements: YtkghjdndgcnebaaTotals.lean).
  GIVEN WITH THE SEED: the statements are not yours to turn. If you find one false, say at which input.
  Laid BY PROGRAM, IN A SANDBOX (cutbox-rows.mjs): the forced cells as the released guide's own fill.sh prints them over the translation 81afefa9d4fd2de4… (all of the seat's roots in one cut). By AI agents, Wed Nov 11 2026. No macro, syntax, notation, axiom, sorry.
-/
import Derived.Test.YtkghjdndgcnebaaChecked
import GoSem.Claim
import GoSem.ClaimJoined
import GoSem.ClaimMapViews
import Derived.JoinedTies
import Derived.KernelRfl
namespace Go.Proofs.Ytkghjdndgcnebaa
/- THE CELL 'sum', in the pinned program and in every row, IS THE sha256 OF THE DUMP (.gsa) THAT YtkghjdndgcnebaaProg.lean LOADS. Nothing in Lean hashes anything: it is a label: what it is worth is what the hold of that sum in a sandbox is worth. -/
noncomputable def Try.pinned : Pinned := { name := "ytkghjdndgcnebaa", sum := "81afefa9d4fd2de4fed2ea2a7a457ae92186553af86f4a5e75263798a56a50d1", checked := Try.checked }
namespace Rows
def none {H : Type} : Left H := { results := [], args := [] }

/-- 'pleachlaw1.TextForms': WHATEVER THE INPUT: true; the input reads as it did. -/
def textFormsSpec : ChangeSpec := { name := "textForms", fn := fun _ => fun
  | [] => { results := [.lit (.bool true)], args := [] }
  | _ => none }
def textFormsRow : OpenClaim := { program := "ytkghjdndgcnebaa", sum := "81afefa9d4fd2de4fed2ea2a7a457ae92186553af86f4a5e75263798a56a50d1", func := "pleach/pleachlaw1.TextForms", spec := "textForms", inPlace := ["internal/abi.NoEscape"], apart := false }
def TextFormsSaid : Prop := textFormsRow.holds Try.pinned (OpenSpec.ofChange textFormsSpec)

/-- ITS FALSE NEIGHBOUR: 'it returns false'. Refute it at one input. -/
def textFormsWrong : ChangeSpec := { name := "textForms", fn := fun _ => fun
  | [] => { results := [.lit (.bool false)], args := [] }
  | _ => none }
def TextFormsWrongFalsely : Prop := textFormsRow.holds Try.pinned (OpenSpec.ofChange textFormsWrong)

/-- 'pleachlaw6.KidsForms': WHATEVER THE INPUT: true; the input reads as it did. -/
def kidsFormsSpec : ChangeSpec := { name := "kidsForms", fn := fun _ => fun
  | [] => { results := [.lit (.bool true)], args := [] }
  | _ => none }
def kidsFormsRow : OpenClaim := { program := "ytkghjdndgcnebaa", sum := "81afefa9d4fd2de4fed2ea2a7a457ae92186553af86f4a5e75263798a56a50d1", func := "pleach/pleachlaw6.KidsForms", spec := "kidsForms", inPlace := ["slices.overlaps[pleach/api.Kid]"], unfollowed := true, recurses := true, apart := false }
def KidsFormsSaid : Prop := kidsFormsRow.holds Try.pinned (OpenSpec.ofChange kidsFormsSpec)

/-- ITS FALSE NEIGHBOUR: 'it returns false'. Refute it at one input. -/
def kidsFormsWrong : ChangeSpec := { name := "kidsForms", fn := fun _ => fun
  | [] => { results := [.lit (.bool false)], args := [] }
  | _ => none }
def KidsFormsWrongFalsely : Prop := kidsFormsRow.holds Try.pinned (OpenSpec.ofChange kidsFormsWrong)

/-- 'pleachlaw18.FeedForms': WHATEVER THE INPUT: true; the input reads as it did. -/
def feedFormsSpec : ChangeSpec := { name := "feedForms", fn := fun _ => fun
  | [] => { results := [.lit (.bool true)], args := [] }
  | _ => none }
def feedFormsRow : OpenClaim := { program := "ytkghjdndgcnebaa", sum := "81afefa9d4fd2de4fed2ea2a7a457ae92186553af86f4a5e75263798a56a50d1", func := "pleach/pleachlaw18.FeedForms", spec := "feedForms", inPlace := ["slices.overlaps[pleach/api.Item]"], unfollowed := true, recurses := true, apart := false }
def FeedFormsSaid : Prop := feedFormsRow.holds Try.pinned (OpenSpec.ofChange feedFormsSpec)

/-- ITS FALSE NEIGHBOUR: 'it returns false'. Refute it at one input. -/
def feedFormsWrong : ChangeSpec := { name := "feedForms", fn := fun _ => fun
  | [] => { results := [.lit (.bool false)], args := [] }
  | _ => none }
def FeedFormsWrongFalsely : Prop := feedFormsRow.holds Try.pinned (OpenSpec.ofChange feedFormsWrong)

/-- 'pleachlaw19.TieKids': WHATEVER THE INPUT: true; the input reads as it did. -/
def tieKidsSpec : ChangeSpec := { name := "tieKids", fn := fun _ => fun
  | [] => { results := [.lit (.bool true)], args := [] }
  | _ => none }
def tieKidsRow : OpenClaim := { program := "ytkghjdndgcnebaa", sum := "81afefa9d4fd2de4fed2ea2a7a457ae92186553af86f4a5e75263798a56a50d1", func := "pleach/pleachlaw19.TieKids", spec := "tieKids", inPlace := ["slices.overlaps[pleach/api.Kid]"], unfollowed := true, recurses := true, apart := false }
def TieKidsSaid : Prop := tieKidsRow.holds Try.pinned (OpenSpec.ofChange tieKidsSpec)

/-- ITS FALSE NEIGHBOUR: 'it returns false'. Refute it at one input. -/
def tieKidsWrong : ChangeSpec := { name := "tieKids", fn := fun _ => fun
  | [] => { results := [.lit (.bool false)], args := [] }
  | _ => none }
def TieKidsWrongFalsely : Prop := tieKidsRow.holds Try.pinned (OpenSpec.ofChange tieKidsWrong)

/- THE SECOND FORM. 'bulk': how many values and letters a reading holds, each counted each time it is reached (what is shared counts as often as it is met; a slice's spare places count too). A statement '..UptoSaid' is the law's where the arguments, and the package variables that the reading takes, are together of bulk at most 1048576: NARROWER than '..Said'. Prove '..Said' where nothing that the law and all that it calls make is longer than what came in: it says more and counts as full. Else prove '..UptoSaid'. A law counts once. -/
mutual
def uptoBulk {H : Type} : DataW H → Nat
  | .lit (.string bytes) => bytes.length + 1
  | .lit _ => 1
  | .nil => 1
  | .ptr d => uptoBulk d + 1
  | .slice elems spare => uptoBulkAll elems + uptoBulkAll spare + 1
  | .agg parts => uptoBulkAll parts + 1
  | .iface _ d => uptoBulk d + 1
  | .map entries => uptoBulkEntries entries + 1
  | .held _ => 1
def uptoBulkAll {H : Type} : List (DataW H) → Nat
  | [] => 0
  | d :: r => uptoBulk d + uptoBulkAll r
def uptoBulkEntries {H : Type} : List (Lit × DataW H) → Nat
  | [] => 0
  | x :: r => uptoBulkEntry x + uptoBulkEntries r
def uptoBulkEntry {H : Type} : Lit × DataW H → Nat
  | (.string bytes, d) => bytes.length + uptoBulk d + 1
  | (_, d) => uptoBulk d + 1
 end
def uptoSmall : (H : Type) → List (DataW H) → Bool := fun _ ds => decide (uptoBulkAll ds ≤ 1048576)
def OpenSpec.upto (s : _root_.Go.ChangeSpec) : _root_.Go.OpenSpec := { _root_.Go.OpenSpec.ofChange s with cond := some uptoSmall }

/-- 'pleachlaw1.TextForms', WHERE WHAT IT READS IS OF BULK AT MOST 1048576: true; the input reads as it did. -/
def textFormsUptoRow : OpenClaim := { program := "ytkghjdndgcnebaa", sum := "81afefa9d4fd2de4fed2ea2a7a457ae92186553af86f4a5e75263798a56a50d1", func := "pleach/pleachlaw1.TextForms", spec := "textForms", inPlace := ["internal/abi.NoEscape"], apart := false, narrowed := true }
def TextFormsUptoSaid : Prop := textFormsUptoRow.holds Try.pinned (OpenSpec.upto textFormsSpec)

/-- 'pleachlaw6.KidsForms', WHERE WHAT IT READS IS OF BULK AT MOST 1048576: true; the input reads as it did. -/
def kidsFormsUptoRow : OpenClaim := { program := "ytkghjdndgcnebaa", sum := "81afefa9d4fd2de4fed2ea2a7a457ae92186553af86f4a5e75263798a56a50d1", func := "pleach/pleachlaw6.KidsForms", spec := "kidsForms", inPlace := ["slices.overlaps[pleach/api.Kid]"], unfollowed := true, recurses := true, apart := false, narrowed := true }
def KidsFormsUptoSaid : Prop := kidsFormsUptoRow.holds Try.pinned (OpenSpec.upto kidsFormsSpec)

/-- 'pleachlaw18.FeedForms', WHERE WHAT IT READS IS OF BULK AT MOST 1048576: true; the input reads as it did. -/
def feedFormsUptoRow : OpenClaim := { program := "ytkghjdndgcnebaa", sum := "81afefa9d4fd2de4fed2ea2a7a457ae92186553af86f4a5e75263798a56a50d1", func := "pleach/pleachlaw18.FeedForms", spec := "feedForms", inPlace := ["slices.overlaps[pleach/api.Item]"], unfollowed := true, recurses := true, apart := false, narrowed := true }
def FeedFormsUptoSaid : Prop := feedFormsUptoRow.holds Try.pinned (OpenSpec.upto feedFormsSpec)

/-- 'pleachlaw19.TieKids', WHERE WHAT IT READS IS OF BULK AT MOST 1048576: true; the input reads as it did. -/
def tieKidsUptoRow : OpenClaim := { program := "ytkghjdndgcnebaa", sum := "81afefa9d4fd2de4fed2ea2a7a457ae92186553af86f4a5e75263798a56a50d1", func := "pleach/pleachlaw19.TieKids", spec := "tieKids", inPlace := ["slices.overlaps[pleach/api.Kid]"], unfollowed := true, recurses := true, apart := false, narrowed := true }
def TieKidsUptoSaid : Prop := tieKidsUptoRow.holds Try.pinned (OpenSpec.upto tieKidsSpec)

end Rows
end Go.Proofs.Ytkghjdndgcnebaa
