/-
  No cell of these rows narrows 'for every input' (looked for: loops, veiled, ifaces, maps, wideKeys, modest, calm, conditions, laid).
  DERIVED. THE GIVEN ROWS OF THIS SEAT. 12 by the template 'for every input the law returns true; each argument reads behind the call as it read before'; 0 by the template 'total and deterministic' (their statements: YtnajkooelhmmeaaTotals.lean).
  GIVEN WITH THE SEED: the statements are not yours to turn. If you find one false, say at which input.
  Laid BY PROGRAM, IN A SANDBOX (cutbox-rows.mjs): the forced cells as the released guide's own fill.sh prints them over the translation 7b53e3f70f71cf12… (all of the seat's roots in one cut). By AI agents, Wed Nov 11 2026. No macro, syntax, notation, axiom, sorry.
-/
import Derived.Test.YtnajkooelhmmeaaChecked
import GoSem.Claim
import GoSem.ClaimJoined
import GoSem.ClaimMapViews
import Derived.JoinedTies
import Derived.KernelRfl
namespace Go.Proofs.Ytnajkooelhmmeaa
/- THE CELL 'sum', in the pinned program and in every row, IS THE sha256 OF THE DUMP (.gsa) THAT YtnajkooelhmmeaaProg.lean LOADS. Nothing in Lean hashes anything: it is a label: what it is worth is what the hold of that sum in a sandbox is worth. -/
noncomputable def Try.pinned : Pinned := { name := "ytnajkooelhmmeaa", sum := "7b53e3f70f71cf1270a974300fc182a9fd8fe2f79294c63fb525ddf3f68a1eb2", checked := Try.checked }
namespace Rows
def none {H : Type} : Left H := { results := [], args := [] }

/-- 'pleachlaw6.KidsHeard': WHATEVER THE INPUT: true; the input reads as it did. -/
def kidsHeardSpec : ChangeSpec := { name := "kidsHeard", fn := fun _ => fun
  | [d1, d2] => { results := [.lit (.bool true)], args := [d1, d2] }
  | _ => none }
def kidsHeardRow : OpenClaim := { program := "ytnajkooelhmmeaa", sum := "7b53e3f70f71cf1270a974300fc182a9fd8fe2f79294c63fb525ddf3f68a1eb2", func := "pleach/pleachlaw6.KidsHeard", spec := "kidsHeard", inPlace := ["slices.overlaps[pleach/api.Kid]"], unfollowed := true, recurses := true, apart := false }
def KidsHeardSaid : Prop := kidsHeardRow.holds Try.pinned (OpenSpec.ofChange kidsHeardSpec)

/-- ITS FALSE NEIGHBOUR: 'it returns false'. Refute it at one input. -/
def kidsHeardWrong : ChangeSpec := { name := "kidsHeard", fn := fun _ => fun
  | [d1, d2] => { results := [.lit (.bool false)], args := [d1, d2] }
  | _ => none }
def KidsHeardWrongFalsely : Prop := kidsHeardRow.holds Try.pinned (OpenSpec.ofChange kidsHeardWrong)

/-- 'pleachlaw7.MidAll': WHATEVER THE INPUT: true; the input reads as it did. -/
def midAllSpec : ChangeSpec := { name := "midAll", fn := fun _ => fun
  | [d1, d2, d3] => { results := [.lit (.bool true)], args := [d1, d2, d3] }
  | _ => none }
def midAllRow : OpenClaim := { program := "ytnajkooelhmmeaa", sum := "7b53e3f70f71cf1270a974300fc182a9fd8fe2f79294c63fb525ddf3f68a1eb2", func := "pleach/pleachlaw7.MidAll", spec := "midAll", apart := false }
def MidAllSaid : Prop := midAllRow.holds Try.pinned (OpenSpec.ofChange midAllSpec)

/-- ITS FALSE NEIGHBOUR: 'it returns false'. Refute it at one input. -/
def midAllWrong : ChangeSpec := { name := "midAll", fn := fun _ => fun
  | [d1, d2, d3] => { results := [.lit (.bool false)], args := [d1, d2, d3] }
  | _ => none }
def MidAllWrongFalsely : Prop := midAllRow.holds Try.pinned (OpenSpec.ofChange midAllWrong)

/-- 'pleachlaw7.MidBest': WHATEVER THE INPUT: true; the input reads as it did. -/
def midBestSpec : ChangeSpec := { name := "midBest", fn := fun _ => fun
  | [d1, d2, d3] => { results := [.lit (.bool true)], args := [d1, d2, d3] }
  | _ => none }
def midBestRow : OpenClaim := { program := "ytnajkooelhmmeaa", sum := "7b53e3f70f71cf1270a974300fc182a9fd8fe2f79294c63fb525ddf3f68a1eb2", func := "pleach/pleachlaw7.MidBest", spec := "midBest", apart := false }
def MidBestSaid : Prop := midBestRow.holds Try.pinned (OpenSpec.ofChange midBestSpec)

/-- ITS FALSE NEIGHBOUR: 'it returns false'. Refute it at one input. -/
def midBestWrong : ChangeSpec := { name := "midBest", fn := fun _ => fun
  | [d1, d2, d3] => { results := [.lit (.bool false)], args := [d1, d2, d3] }
  | _ => none }
def MidBestWrongFalsely : Prop := midBestRow.holds Try.pinned (OpenSpec.ofChange midBestWrong)

/-- 'pleachlaw7.MidMoved': WHATEVER THE INPUT: true; the input reads as it did. -/
def midMovedSpec : ChangeSpec := { name := "midMoved", fn := fun _ => fun
  | [d1, d2, d3] => { results := [.lit (.bool true)], args := [d1, d2, d3] }
  | _ => none }
def midMovedRow : OpenClaim := { program := "ytnajkooelhmmeaa", sum := "7b53e3f70f71cf1270a974300fc182a9fd8fe2f79294c63fb525ddf3f68a1eb2", func := "pleach/pleachlaw7.MidMoved", spec := "midMoved", apart := false }
def MidMovedSaid : Prop := midMovedRow.holds Try.pinned (OpenSpec.ofChange midMovedSpec)

/-- ITS FALSE NEIGHBOUR: 'it returns false'. Refute it at one input. -/
def midMovedWrong : ChangeSpec := { name := "midMoved", fn := fun _ => fun
  | [d1, d2, d3] => { results := [.lit (.bool false)], args := [d1, d2, d3] }
  | _ => none }
def MidMovedWrongFalsely : Prop := midMovedRow.holds Try.pinned (OpenSpec.ofChange midMovedWrong)

/-- 'pleachlaw8.ClusNear': WHATEVER THE INPUT: true; the input reads as it did. -/
def clusNearSpec : ChangeSpec := { name := "clusNear", fn := fun _ => fun
  | [d1, d2, d3, d4] => { results := [.lit (.bool true)], args := [d1, d2, d3, d4] }
  | _ => none }
def clusNearRow : OpenClaim := { program := "ytnajkooelhmmeaa", sum := "7b53e3f70f71cf1270a974300fc182a9fd8fe2f79294c63fb525ddf3f68a1eb2", func := "pleach/pleachlaw8.ClusNear", spec := "clusNear", unfollowed := true, recurses := true, apart := false }
def ClusNearSaid : Prop := clusNearRow.holds Try.pinned (OpenSpec.ofChange clusNearSpec)

/-- ITS FALSE NEIGHBOUR: 'it returns false'. Refute it at one input. -/
def clusNearWrong : ChangeSpec := { name := "clusNear", fn := fun _ => fun
  | [d1, d2, d3, d4] => { results := [.lit (.bool false)], args := [d1, d2, d3, d4] }
  | _ => none }
def ClusNearWrongFalsely : Prop := clusNearRow.holds Try.pinned (OpenSpec.ofChange clusNearWrong)

/-- 'pleachlaw8.ClusSizes': WHATEVER THE INPUT: true; the input reads as it did. -/
def clusSizesSpec : ChangeSpec := { name := "clusSizes", fn := fun _ => fun
  | [d1, d2, d3] => { results := [.lit (.bool true)], args := [d1, d2, d3] }
  | _ => none }
def clusSizesRow : OpenClaim := { program := "ytnajkooelhmmeaa", sum := "7b53e3f70f71cf1270a974300fc182a9fd8fe2f79294c63fb525ddf3f68a1eb2", func := "pleach/pleachlaw8.ClusSizes", spec := "clusSizes", unfollowed := true, recurses := true, apart := false }
def ClusSizesSaid : Prop := clusSizesRow.holds Try.pinned (OpenSpec.ofChange clusSizesSpec)

/-- ITS FALSE NEIGHBOUR: 'it returns false'. Refute it at one input. -/
def clusSizesWrong : ChangeSpec := { name := "clusSizes", fn := fun _ => fun
  | [d1, d2, d3] => { results := [.lit (.bool false)], args := [d1, d2, d3] }
  | _ => none }
def ClusSizesWrongFalsely : Prop := clusSizesRow.holds Try.pinned (OpenSpec.ofChange clusSizesWrong)

/-- 'pleachlaw8.ClusSplit': WHATEVER THE INPUT: true; the input reads as it did. -/
def clusSplitSpec : ChangeSpec := { name := "clusSplit", fn := fun _ => fun
  | [d1, d2, d3] => { results := [.lit (.bool true)], args := [d1, d2, d3] }
  | _ => none }
def clusSplitRow : OpenClaim := { program := "ytnajkooelhmmeaa", sum := "7b53e3f70f71cf1270a974300fc182a9fd8fe2f79294c63fb525ddf3f68a1eb2", func := "pleach/pleachlaw8.ClusSplit", spec := "clusSplit", unfollowed := true, recurses := true, apart := false }
def ClusSplitSaid : Prop := clusSplitRow.holds Try.pinned (OpenSpec.ofChange clusSplitSpec)

/-- ITS FALSE NEIGHBOUR: 'it returns false'. Refute it at one input. -/
def clusSplitWrong : ChangeSpec := { name := "clusSplit", fn := fun _ => fun
  | [d1, d2, d3] => { results := [.lit (.bool false)], args := [d1, d2, d3] }
  | _ => none }
def ClusSplitWrongFalsely : Prop := clusSplitRow.holds Try.pinned (OpenSpec.ofChange clusSplitWrong)

/-- 'pleachlaw8.ClusGroup': WHATEVER THE INPUT: true; the input reads as it did. -/
def clusGroupSpec : ChangeSpec := { name := "clusGroup", fn := fun _ => fun
  | [d1, d2, d3] => { results := [.lit (.bool true)], args := [d1, d2, d3] }
  | _ => none }
def clusGroupRow : OpenClaim := { program := "ytnajkooelhmmeaa", sum := "7b53e3f70f71cf1270a974300fc182a9fd8fe2f79294c63fb525ddf3f68a1eb2", func := "pleach/pleachlaw8.ClusGroup", spec := "clusGroup", unfollowed := true, recurses := true, apart := false }
def ClusGroupSaid : Prop := clusGroupRow.holds Try.pinned (OpenSpec.ofChange clusGroupSpec)

/-- ITS FALSE NEIGHBOUR: 'it returns false'. Refute it at one input. -/
def clusGroupWrong : ChangeSpec := { name := "clusGroup", fn := fun _ => fun
  | [d1, d2, d3] => { results := [.lit (.bool false)], args := [d1, d2, d3] }
  | _ => none }
def ClusGroupWrongFalsely : Prop := clusGroupRow.holds Try.pinned (OpenSpec.ofChange clusGroupWrong)

/-- 'pleachlaw1.TextAll': WHATEVER THE INPUT: true; the input reads as it did. -/
def textAllSpec : ChangeSpec := { name := "textAll", fn := fun _ => fun
  | [d1, d2, d3, d4] => { results := [.lit (.bool true)], args := [d1, d2, d3, d4] }
  | _ => none }
def textAllRow : OpenClaim := { program := "ytnajkooelhmmeaa", sum := "7b53e3f70f71cf1270a974300fc182a9fd8fe2f79294c63fb525ddf3f68a1eb2", func := "pleach/pleachlaw1.TextAll", spec := "textAll", inPlace := ["internal/abi.NoEscape"], apart := false }
def TextAllSaid : Prop := textAllRow.holds Try.pinned (OpenSpec.ofChange textAllSpec)

/-- ITS FALSE NEIGHBOUR: 'it returns false'. Refute it at one input. -/
def textAllWrong : ChangeSpec := { name := "textAll", fn := fun _ => fun
  | [d1, d2, d3, d4] => { results := [.lit (.bool false)], args := [d1, d2, d3, d4] }
  | _ => none }
def TextAllWrongFalsely : Prop := textAllRow.holds Try.pinned (OpenSpec.ofChange textAllWrong)

/-- 'pleachlaw1.TextShown': WHATEVER THE INPUT: true; the input reads as it did. -/
def textShownSpec : ChangeSpec := { name := "textShown", fn := fun _ => fun
  | [d1, d2] => { results := [.lit (.bool true)], args := [d1, d2] }
  | _ => none }
def textShownRow : OpenClaim := { program := "ytnajkooelhmmeaa", sum := "7b53e3f70f71cf1270a974300fc182a9fd8fe2f79294c63fb525ddf3f68a1eb2", func := "pleach/pleachlaw1.TextShown", spec := "textShown", inPlace := ["internal/abi.NoEscape"], apart := false }
def TextShownSaid : Prop := textShownRow.holds Try.pinned (OpenSpec.ofChange textShownSpec)

/-- ITS FALSE NEIGHBOUR: 'it returns false'. Refute it at one input. -/
def textShownWrong : ChangeSpec := { name := "textShown", fn := fun _ => fun
  | [d1, d2] => { results := [.lit (.bool false)], args := [d1, d2] }
  | _ => none }
def TextShownWrongFalsely : Prop := textShownRow.holds Try.pinned (OpenSpec.ofChange textShownWrong)

/-- 'pleachlaw1.TextJoins': WHATEVER THE INPUT: true; the input reads as it did. -/
def textJoinsSpec : ChangeSpec := { name := "textJoins", fn := fun _ => fun
  | [d1, d2] => { results := [.lit (.bool true)], args := [d1, d2] }
  | _ => none }
def textJoinsRow : OpenClaim := { program := "ytnajkooelhmmeaa", sum := "7b53e3f70f71cf1270a974300fc182a9fd8fe2f79294c63fb525ddf3f68a1eb2", func := "pleach/pleachlaw1.TextJoins", spec := "textJoins", inPlace := ["internal/abi.NoEscape"], apart := false }
def TextJoinsSaid : Prop := textJoinsRow.holds Try.pinned (OpenSpec.ofChange textJoinsSpec)

/-- ITS FALSE NEIGHBOUR: 'it returns false'. Refute it at one input. -/
def textJoinsWrong : ChangeSpec := { name := "textJoins", fn := fun _ => fun
  | [d1, d2] => { results := [.lit (.bool false)], args := [d1, d2] }
  | _ => none }
def TextJoinsWrongFalsely : Prop := textJoinsRow.holds Try.pinned (OpenSpec.ofChange textJoinsWrong)

/-- 'pleachlaw17.NakKept': WHATEVER THE INPUT: true; the input reads as it did. -/
def nakKeptSpec : ChangeSpec := { name := "nakKept", fn := fun _ => fun
  | [d1, d2] => { results := [.lit (.bool true)], args := [d1, d2] }
  | _ => none }
def nakKeptRow : OpenClaim := { program := "ytnajkooelhmmeaa", sum := "7b53e3f70f71cf1270a974300fc182a9fd8fe2f79294c63fb525ddf3f68a1eb2", func := "pleach/pleachlaw17.NakKept", spec := "nakKept", unfollowed := true, recurses := true, apart := false }
def NakKeptSaid : Prop := nakKeptRow.holds Try.pinned (OpenSpec.ofChange nakKeptSpec)

/-- ITS FALSE NEIGHBOUR: 'it returns false'. Refute it at one input. -/
def nakKeptWrong : ChangeSpec := { name := "nakKept", fn := fun _ => fun
  | [d1, d2] => { results := [.lit (.bool false)], args := [d1, d2] }
  | _ => none }
def NakKeptWrongFalsely : Prop := nakKeptRow.holds Try.pinned (OpenSpec.ofChange nakKeptWrong)

/- THE SECOND FORM. 'bulk': how many values and letters a reading holds, each counted each time it is reached (what is shared counts as often as it is met; a slice's spare places count too). A statement '..UptoSaid' is the law's where the arguments, and the package variables that the reading takes, are together of bulk at most 1048576: NARROWER than '..Said'. Prove '..Said' where nothing that the law and all that it calls make is longer than what came in: it says more and counts as full. Else prove '..UptoSaid'. A law counts once. -/
mutual
def uptoBulk {H : Type} : DataW H → Nat
  | .lit (.string bytes) => bytes.length + 1
  | .lit _ => 1
  | .nil => 1
  | .ptr d => uptoBulk d + 1
  | .slice elems spare => uptoBulkAll elems + uptoBulkAll spare + 1
  | .agg parts => uptoBulkAll parts + 1
  | .iface _ d => uptoBulk d + 1
  | .map entries => uptoBulkEntries entries + 1
  | .held _ => 1
def uptoBulkAll {H : Type} : List (DataW H) → Nat
  | [] => 0
  | d :: r => uptoBulk d + uptoBulkAll r
def uptoBulkEntries {H : Type} : List (Lit × DataW H) → Nat
  | [] => 0
  | x :: r => uptoBulkEntry x + uptoBulkEntries r
def uptoBulkEntry {H : Type} : Lit × DataW H → Nat
  | (.string bytes, d) => bytes.length + uptoBulk d + 1
  | (_, d) => uptoBulk d + 1
 end
def uptoSmall : (H : Type) → List (DataW H) → Bool := fun _ ds => decide (uptoBulkAll ds ≤ 1048576)
def OpenSpec.upto (s : _root_.Go.ChangeSpec) : _root_.Go.OpenSpec := { _root_.Go.OpenSpec.ofChange s with cond := some uptoSmall }

/-- 'pleachlaw6.KidsHeard', WHERE WHAT IT READS IS OF BULK AT MOST 1048576: true; the input reads as it did. -/
def kidsHeardUptoRow : OpenClaim := { program := "ytnajkooelhmmeaa", sum := "7b53e3f70f71cf1270a974300fc182a9fd8fe2f79294c63fb525ddf3f68a1eb2", func := "pleach/pleachlaw6.KidsHeard", spec := "kidsHeard", inPlace := ["slices.overlaps[pleach/api.Kid]"], unfollowed := true, recurses := true, apart := false, narrowed := true }
def KidsHeardUptoSaid : Prop := kidsHeardUptoRow.holds Try.pinned (OpenSpec.upto kidsHeardSpec)

/-- 'pleachlaw7.MidAll', WHERE WHAT IT READS IS OF BULK AT MOST 1048576: true; the input reads as it did. -/
def midAllUptoRow : OpenClaim := { program := "ytnajkooelhmmeaa", sum := "7b53e3f70f71cf1270a974300fc182a9fd8fe2f79294c63fb525ddf3f68a1eb2", func := "pleach/pleachlaw7.MidAll", spec := "midAll", apart := false, narrowed := true }
def MidAllUptoSaid : Prop := midAllUptoRow.holds Try.pinned (OpenSpec.upto midAllSpec)

/-- 'pleachlaw7.MidBest', WHERE WHAT IT READS IS OF BULK AT MOST 1048576: true; the input reads as it did. -/
def midBestUptoRow : OpenClaim := { program := "ytnajkooelhmmeaa", sum := "7b53e3f70f71cf1270a974300fc182a9fd8fe2f79294c63fb525ddf3f68a1eb2", func := "pleach/pleachlaw7.MidBest", spec := "midBest", apart := false, narrowed := true }
def MidBestUptoSaid : Prop := midBestUptoRow.holds Try.pinned (OpenSpec.upto midBestSpec)

/-- 'pleachlaw7.MidMoved', WHERE WHAT IT READS IS OF BULK AT MOST 1048576: true; the input reads as it did. -/
def midMovedUptoRow : OpenClaim := { program := "ytnajkooelhmmeaa", sum := "7b53e3f70f71cf1270a974300fc182a9fd8fe2f79294c63fb525ddf3f68a1eb2", func := "pleach/pleachlaw7.MidMoved", spec := "midMoved", apart := false, narrowed := true }
def MidMovedUptoSaid : Prop := midMovedUptoRow.holds Try.pinned (OpenSpec.upto midMovedSpec)

/-- 'pleachlaw8.ClusNear', WHERE WHAT IT READS IS OF BULK AT MOST 1048576: true; the input reads as it did. -/
def clusNearUptoRow : OpenClaim := { program := "ytnajkooelhmmeaa", sum := "7b53e3f70f71cf1270a974300fc182a9fd8fe2f79294c63fb525ddf3f68a1eb2", func := "pleach/pleachlaw8.ClusNear", spec := "clusNear", unfollowed := true, recurses := true, apart := false, narrowed := true }
def ClusNearUptoSaid : Prop := clusNearUptoRow.holds Try.pinned (OpenSpec.upto clusNearSpec)

/-- 'pleachlaw8.ClusSizes', WHERE WHAT IT READS IS OF BULK AT MOST 1048576: true; the input reads as it did. -/
def clusSizesUptoRow : OpenClaim := { program := "ytnajkooelhmmeaa", sum := "7b53e3f70f71cf1270a974300fc182a9fd8fe2f79294c63fb525ddf3f68a1eb2", func := "pleach/pleachlaw8.ClusSizes", spec := "clusSizes", unfollowed := true, recurses := true, apart := false, narrowed := true }
def ClusSizesUptoSaid : Prop := clusSizesUptoRow.holds Try.pinned (OpenSpec.upto clusSizesSpec)

/-- 'pleachlaw8.ClusSplit', WHERE WHAT IT READS IS OF BULK AT MOST 1048576: true; the input reads as it did. -/
def clusSplitUptoRow : OpenClaim := { program := "ytnajkooelhmmeaa", sum := "7b53e3f70f71cf1270a974300fc182a9fd8fe2f79294c63fb525ddf3f68a1eb2", func := "pleach/pleachlaw8.ClusSplit", spec := "clusSplit", unfollowed := true, recurses := true, apart := false, narrowed := true }
def ClusSplitUptoSaid : Prop := clusSplitUptoRow.holds Try.pinned (OpenSpec.upto clusSplitSpec)

/-- 'pleachlaw8.ClusGroup', WHERE WHAT IT READS IS OF BULK AT MOST 1048576: true; the input reads as it did. -/
def clusGroupUptoRow : OpenClaim := { program := "ytnajkooelhmmeaa", sum := "7b53e3f70f71cf1270a974300fc182a9fd8fe2f79294c63fb525ddf3f68a1eb2", func := "pleach/pleachlaw8.ClusGroup", spec := "clusGroup", unfollowed := true, recurses := true, apart := false, narrowed := true }
def ClusGroupUptoSaid : Prop := clusGroupUptoRow.holds Try.pinned (OpenSpec.upto clusGroupSpec)

/-- 'pleachlaw1.TextAll', WHERE WHAT IT READS IS OF BULK AT MOST 1048576: true; the input reads as it did. -/
def textAllUptoRow : OpenClaim := { program := "ytnajkooelhmmeaa", sum := "7b53e3f70f71cf1270a974300fc182a9fd8fe2f79294c63fb525ddf3f68a1eb2", func := "pleach/pleachlaw1.TextAll", spec := "textAll", inPlace := ["internal/abi.NoEscape"], apart := false, narrowed := true }
def TextAllUptoSaid : Prop := textAllUptoRow.holds Try.pinned (OpenSpec.upto textAllSpec)

/-- 'pleachlaw1.TextShown', WHERE WHAT IT READS IS OF BULK AT MOST 1048576: true; the input reads as it did. -/
def textShownUptoRow : OpenClaim := { program := "ytnajkooelhmmeaa", sum := "7b53e3f70f71cf1270a974300fc182a9fd8fe2f79294c63fb525ddf3f68a1eb2", func := "pleach/pleachlaw1.TextShown", spec := "textShown", inPlace := ["internal/abi.NoEscape"], apart := false, narrowed := true }
def TextShownUptoSaid : Prop := textShownUptoRow.holds Try.pinned (OpenSpec.upto textShownSpec)

/-- 'pleachlaw1.TextJoins', WHERE WHAT IT READS IS OF BULK AT MOST 1048576: true; the input reads as it did. -/
def textJoinsUptoRow : OpenClaim := { program := "ytnajkooelhmmeaa", sum := "7b53e3f70f71cf1270a974300fc182a9fd8fe2f79294c63fb525ddf3f68a1eb2", func := "pleach/pleachlaw1.TextJoins", spec := "textJoins", inPlace := ["internal/abi.NoEscape"], apart := false, narrowed := true }
def TextJoinsUptoSaid : Prop := textJoinsUptoRow.holds Try.pinned (OpenSpec.upto textJoinsSpec)

/-- 'pleachlaw17.NakKept', WHERE WHAT IT READS IS OF BULK AT MOST 1048576: true; the input reads as it did. -/
def nakKeptUptoRow : OpenClaim := { program := "ytnajkooelhmmeaa", sum := "7b53e3f70f71cf1270a974300fc182a9fd8fe2f79294c63fb525ddf3f68a1eb2", func := "pleach/pleachlaw17.NakKept", spec := "nakKept", unfollowed := true, recurses := true, apart := false, narrowed := true }
def NakKeptUptoSaid : Prop := nakKeptUptoRow.holds Try.pinned (OpenSpec.upto nakKeptSpec)

end Rows
end Go.Proofs.Ytnajkooelhmmeaa
