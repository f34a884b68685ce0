/-
  No cell of these rows narrows 'for every input' (looked for: loops, veiled, ifaces, maps, wideKeys, modest, calm, conditions, laid).
  DERIVED. THE GIVEN ROWS OF THIS SEAT. 11 by the template 'for every input the law returns true; each argument reads behind the call as it read before'; 0 by the template 'total and deterministic' (their statements: YtigmbfeeodggbaaTotals.lean).
  GIVEN WITH THE SEED: the statements are not yours to turn. If you find one false, say at which input.
  Laid BY PROGRAM, IN A SANDBOX (cutbox-rows.mjs): the forced cells as the released guide's own fill.sh prints them over the translation ea29bd2d5ce84ff7… (all of the seat's roots in one cut). By AI agents, Wed Nov 11 2026. No macro, syntax, notation, axiom, sorry.
-/
import Derived.Test.YtigmbfeeodggbaaChecked
import GoSem.Claim
import GoSem.ClaimJoined
import GoSem.ClaimMapViews
import Derived.JoinedTies
import Derived.KernelRfl
namespace Go.Proofs.Ytigmbfeeodggbaa
/- THE CELL 'sum', in the pinned program and in every row, IS THE sha256 OF THE DUMP (.gsa) THAT YtigmbfeeodggbaaProg.lean LOADS. Nothing in Lean hashes anything: it is a label: what it is worth is what the hold of that sum in a sandbox is worth. -/
noncomputable def Try.pinned : Pinned := { name := "ytigmbfeeodggbaa", sum := "ea29bd2d5ce84ff7f1ce18689cd25faf1c988d132036dd4e6a86892f603b3bbc", checked := Try.checked }
namespace Rows
def none {H : Type} : Left H := { results := [], args := [] }

/-- 'pleachlaw15.WinAny': WHATEVER THE INPUT: true; the input reads as it did. -/
def winAnySpec : ChangeSpec := { name := "winAny", fn := fun _ => fun
  | [d1, d2, d3] => { results := [.lit (.bool true)], args := [d1, d2, d3] }
  | _ => none }
def winAnyRow : OpenClaim := { program := "ytigmbfeeodggbaa", sum := "ea29bd2d5ce84ff7f1ce18689cd25faf1c988d132036dd4e6a86892f603b3bbc", func := "pleach/pleachlaw15.WinAny", spec := "winAny", inPlace := ["slices.overlaps[pleach/api.Item]"], apart := false }
def WinAnySaid : Prop := winAnyRow.holds Try.pinned (OpenSpec.ofChange winAnySpec)

/-- ITS FALSE NEIGHBOUR: 'it returns false'. Refute it at one input. -/
def winAnyWrong : ChangeSpec := { name := "winAny", fn := fun _ => fun
  | [d1, d2, d3] => { results := [.lit (.bool false)], args := [d1, d2, d3] }
  | _ => none }
def WinAnyWrongFalsely : Prop := winAnyRow.holds Try.pinned (OpenSpec.ofChange winAnyWrong)

/-- 'pleachlaw17.NakAll': WHATEVER THE INPUT: true; the input reads as it did. -/
def nakAllSpec : ChangeSpec := { name := "nakAll", fn := fun _ => fun
  | [d1, d2, d3, d4, d5, d6] => { results := [.lit (.bool true)], args := [d1, d2, d3, d4, d5, d6] }
  | _ => none }
def nakAllRow : OpenClaim := { program := "ytigmbfeeodggbaa", sum := "ea29bd2d5ce84ff7f1ce18689cd25faf1c988d132036dd4e6a86892f603b3bbc", func := "pleach/pleachlaw17.NakAll", spec := "nakAll", unfollowed := true, recurses := true, apart := false }
def NakAllSaid : Prop := nakAllRow.holds Try.pinned (OpenSpec.ofChange nakAllSpec)

/-- ITS FALSE NEIGHBOUR: 'it returns false'. Refute it at one input. -/
def nakAllWrong : ChangeSpec := { name := "nakAll", fn := fun _ => fun
  | [d1, d2, d3, d4, d5, d6] => { results := [.lit (.bool false)], args := [d1, d2, d3, d4, d5, d6] }
  | _ => none }
def NakAllWrongFalsely : Prop := nakAllRow.holds Try.pinned (OpenSpec.ofChange nakAllWrong)

/-- 'pleachlaw17.NakCatches': WHATEVER THE INPUT: true; the input reads as it did. -/
def nakCatchesSpec : ChangeSpec := { name := "nakCatches", fn := fun _ => fun
  | [d1, d2] => { results := [.lit (.bool true)], args := [d1, d2] }
  | _ => none }
def nakCatchesRow : OpenClaim := { program := "ytigmbfeeodggbaa", sum := "ea29bd2d5ce84ff7f1ce18689cd25faf1c988d132036dd4e6a86892f603b3bbc", func := "pleach/pleachlaw17.NakCatches", spec := "nakCatches", unfollowed := true, recurses := true, apart := false }
def NakCatchesSaid : Prop := nakCatchesRow.holds Try.pinned (OpenSpec.ofChange nakCatchesSpec)

/-- ITS FALSE NEIGHBOUR: 'it returns false'. Refute it at one input. -/
def nakCatchesWrong : ChangeSpec := { name := "nakCatches", fn := fun _ => fun
  | [d1, d2] => { results := [.lit (.bool false)], args := [d1, d2] }
  | _ => none }
def NakCatchesWrongFalsely : Prop := nakCatchesRow.holds Try.pinned (OpenSpec.ofChange nakCatchesWrong)

/-- 'pleachlaw17.NakKept': WHATEVER THE INPUT: true; the input reads as it did. -/
def nakKeptSpec : ChangeSpec := { name := "nakKept", fn := fun _ => fun
  | [d1, d2] => { results := [.lit (.bool true)], args := [d1, d2] }
  | _ => none }
def nakKeptRow : OpenClaim := { program := "ytigmbfeeodggbaa", sum := "ea29bd2d5ce84ff7f1ce18689cd25faf1c988d132036dd4e6a86892f603b3bbc", func := "pleach/pleachlaw17.NakKept", spec := "nakKept", unfollowed := true, recurses := true, apart := false }
def NakKeptSaid : Prop := nakKeptRow.holds Try.pinned (OpenSpec.ofChange nakKeptSpec)

/-- ITS FALSE NEIGHBOUR: 'it returns false'. Refute it at one input. -/
def nakKeptWrong : ChangeSpec := { name := "nakKept", fn := fun _ => fun
  | [d1, d2] => { results := [.lit (.bool false)], args := [d1, d2] }
  | _ => none }
def NakKeptWrongFalsely : Prop := nakKeptRow.holds Try.pinned (OpenSpec.ofChange nakKeptWrong)

/-- 'pleachlaw18.FeedOrder': WHATEVER THE INPUT: true; the input reads as it did. -/
def feedOrderSpec : ChangeSpec := { name := "feedOrder", fn := fun _ => fun
  | [d1, d2, d3] => { results := [.lit (.bool true)], args := [d1, d2, d3] }
  | _ => none }
def feedOrderRow : OpenClaim := { program := "ytigmbfeeodggbaa", sum := "ea29bd2d5ce84ff7f1ce18689cd25faf1c988d132036dd4e6a86892f603b3bbc", func := "pleach/pleachlaw18.FeedOrder", spec := "feedOrder", inPlace := ["slices.overlaps[pleach/api.Item]"], unfollowed := true, recurses := true, apart := false }
def FeedOrderSaid : Prop := feedOrderRow.holds Try.pinned (OpenSpec.ofChange feedOrderSpec)

/-- ITS FALSE NEIGHBOUR: 'it returns false'. Refute it at one input. -/
def feedOrderWrong : ChangeSpec := { name := "feedOrder", fn := fun _ => fun
  | [d1, d2, d3] => { results := [.lit (.bool false)], args := [d1, d2, d3] }
  | _ => none }
def FeedOrderWrongFalsely : Prop := feedOrderRow.holds Try.pinned (OpenSpec.ofChange feedOrderWrong)

/-- 'pleachlaw18.FeedWants': WHATEVER THE INPUT: true; the input reads as it did. -/
def feedWantsSpec : ChangeSpec := { name := "feedWants", fn := fun _ => fun
  | [d1, d2] => { results := [.lit (.bool true)], args := [d1, d2] }
  | _ => none }
def feedWantsRow : OpenClaim := { program := "ytigmbfeeodggbaa", sum := "ea29bd2d5ce84ff7f1ce18689cd25faf1c988d132036dd4e6a86892f603b3bbc", func := "pleach/pleachlaw18.FeedWants", spec := "feedWants", inPlace := ["slices.overlaps[pleach/api.Item]"], unfollowed := true, recurses := true, apart := false }
def FeedWantsSaid : Prop := feedWantsRow.holds Try.pinned (OpenSpec.ofChange feedWantsSpec)

/-- ITS FALSE NEIGHBOUR: 'it returns false'. Refute it at one input. -/
def feedWantsWrong : ChangeSpec := { name := "feedWants", fn := fun _ => fun
  | [d1, d2] => { results := [.lit (.bool false)], args := [d1, d2] }
  | _ => none }
def FeedWantsWrongFalsely : Prop := feedWantsRow.holds Try.pinned (OpenSpec.ofChange feedWantsWrong)

/-- 'pleachlaw18.FeedResumes': WHATEVER THE INPUT: true; the input reads as it did. -/
def feedResumesSpec : ChangeSpec := { name := "feedResumes", fn := fun _ => fun
  | [d1, d2, d3] => { results := [.lit (.bool true)], args := [d1, d2, d3] }
  | _ => none }
def feedResumesRow : OpenClaim := { program := "ytigmbfeeodggbaa", sum := "ea29bd2d5ce84ff7f1ce18689cd25faf1c988d132036dd4e6a86892f603b3bbc", func := "pleach/pleachlaw18.FeedResumes", spec := "feedResumes", inPlace := ["slices.overlaps[pleach/api.Item]"], unfollowed := true, recurses := true, apart := false }
def FeedResumesSaid : Prop := feedResumesRow.holds Try.pinned (OpenSpec.ofChange feedResumesSpec)

/-- ITS FALSE NEIGHBOUR: 'it returns false'. Refute it at one input. -/
def feedResumesWrong : ChangeSpec := { name := "feedResumes", fn := fun _ => fun
  | [d1, d2, d3] => { results := [.lit (.bool false)], args := [d1, d2, d3] }
  | _ => none }
def FeedResumesWrongFalsely : Prop := feedResumesRow.holds Try.pinned (OpenSpec.ofChange feedResumesWrong)

/-- 'pleachlaw18.FeedEnds': WHATEVER THE INPUT: true; the input reads as it did. -/
def feedEndsSpec : ChangeSpec := { name := "feedEnds", fn := fun _ => fun
  | [d] => { results := [.lit (.bool true)], args := [d] }
  | _ => none }
def feedEndsRow : OpenClaim := { program := "ytigmbfeeodggbaa", sum := "ea29bd2d5ce84ff7f1ce18689cd25faf1c988d132036dd4e6a86892f603b3bbc", func := "pleach/pleachlaw18.FeedEnds", spec := "feedEnds", inPlace := ["slices.overlaps[pleach/api.Item]"], unfollowed := true, recurses := true, apart := false }
def FeedEndsSaid : Prop := feedEndsRow.holds Try.pinned (OpenSpec.ofChange feedEndsSpec)

/-- ITS FALSE NEIGHBOUR: 'it returns false'. Refute it at one input. -/
def feedEndsWrong : ChangeSpec := { name := "feedEnds", fn := fun _ => fun
  | [d] => { results := [.lit (.bool false)], args := [d] }
  | _ => none }
def FeedEndsWrongFalsely : Prop := feedEndsRow.holds Try.pinned (OpenSpec.ofChange feedEndsWrong)

/-- 'pleachlaw18.FeedAll': WHATEVER THE INPUT: true; the input reads as it did. -/
def feedAllSpec : ChangeSpec := { name := "feedAll", fn := fun _ => fun
  | [d1, d2, d3, d4] => { results := [.lit (.bool true)], args := [d1, d2, d3, d4] }
  | _ => none }
def feedAllRow : OpenClaim := { program := "ytigmbfeeodggbaa", sum := "ea29bd2d5ce84ff7f1ce18689cd25faf1c988d132036dd4e6a86892f603b3bbc", func := "pleach/pleachlaw18.FeedAll", spec := "feedAll", inPlace := ["slices.overlaps[pleach/api.Item]"], unfollowed := true, recurses := true, apart := false }
def FeedAllSaid : Prop := feedAllRow.holds Try.pinned (OpenSpec.ofChange feedAllSpec)

/-- ITS FALSE NEIGHBOUR: 'it returns false'. Refute it at one input. -/
def feedAllWrong : ChangeSpec := { name := "feedAll", fn := fun _ => fun
  | [d1, d2, d3, d4] => { results := [.lit (.bool false)], args := [d1, d2, d3, d4] }
  | _ => none }
def FeedAllWrongFalsely : Prop := feedAllRow.holds Try.pinned (OpenSpec.ofChange feedAllWrong)

/-- 'pleachlaw18.FeedTwice': WHATEVER THE INPUT: true; the input reads as it did. -/
def feedTwiceSpec : ChangeSpec := { name := "feedTwice", fn := fun _ => fun
  | [d1, d2] => { results := [.lit (.bool true)], args := [d1, d2] }
  | _ => none }
def feedTwiceRow : OpenClaim := { program := "ytigmbfeeodggbaa", sum := "ea29bd2d5ce84ff7f1ce18689cd25faf1c988d132036dd4e6a86892f603b3bbc", func := "pleach/pleachlaw18.FeedTwice", spec := "feedTwice", inPlace := ["slices.overlaps[pleach/api.Item]"], unfollowed := true, recurses := true, apart := false }
def FeedTwiceSaid : Prop := feedTwiceRow.holds Try.pinned (OpenSpec.ofChange feedTwiceSpec)

/-- ITS FALSE NEIGHBOUR: 'it returns false'. Refute it at one input. -/
def feedTwiceWrong : ChangeSpec := { name := "feedTwice", fn := fun _ => fun
  | [d1, d2] => { results := [.lit (.bool false)], args := [d1, d2] }
  | _ => none }
def FeedTwiceWrongFalsely : Prop := feedTwiceRow.holds Try.pinned (OpenSpec.ofChange feedTwiceWrong)

/-- 'pleachlaw18.FeedOne': WHATEVER THE INPUT: true; the input reads as it did. -/
def feedOneSpec : ChangeSpec := { name := "feedOne", fn := fun _ => fun
  | [d] => { results := [.lit (.bool true)], args := [d] }
  | _ => none }
def feedOneRow : OpenClaim := { program := "ytigmbfeeodggbaa", sum := "ea29bd2d5ce84ff7f1ce18689cd25faf1c988d132036dd4e6a86892f603b3bbc", func := "pleach/pleachlaw18.FeedOne", spec := "feedOne", inPlace := ["slices.overlaps[pleach/api.Item]"], unfollowed := true, recurses := true, apart := false }
def FeedOneSaid : Prop := feedOneRow.holds Try.pinned (OpenSpec.ofChange feedOneSpec)

/-- ITS FALSE NEIGHBOUR: 'it returns false'. Refute it at one input. -/
def feedOneWrong : ChangeSpec := { name := "feedOne", fn := fun _ => fun
  | [d] => { results := [.lit (.bool false)], args := [d] }
  | _ => none }
def FeedOneWrongFalsely : Prop := feedOneRow.holds Try.pinned (OpenSpec.ofChange feedOneWrong)

/- THE SECOND FORM. 'bulk': how many values and letters a reading holds, each counted each time it is reached (what is shared counts as often as it is met; a slice's spare places count too). A statement '..UptoSaid' is the law's where the arguments, and the package variables that the reading takes, are together of bulk at most 1048576: NARROWER than '..Said'. Prove '..Said' where nothing that the law and all that it calls make is longer than what came in: it says more and counts as full. Else prove '..UptoSaid'. A law counts once. -/
mutual
def uptoBulk {H : Type} : DataW H → Nat
  | .lit (.string bytes) => bytes.length + 1
  | .lit _ => 1
  | .nil => 1
  | .ptr d => uptoBulk d + 1
  | .slice elems spare => uptoBulkAll elems + uptoBulkAll spare + 1
  | .agg parts => uptoBulkAll parts + 1
  | .iface _ d => uptoBulk d + 1
  | .map entries => uptoBulkEntries entries + 1
  | .held _ => 1
def uptoBulkAll {H : Type} : List (DataW H) → Nat
  | [] => 0
  | d :: r => uptoBulk d + uptoBulkAll r
def uptoBulkEntries {H : Type} : List (Lit × DataW H) → Nat
  | [] => 0
  | x :: r => uptoBulkEntry x + uptoBulkEntries r
def uptoBulkEntry {H : Type} : Lit × DataW H → Nat
  | (.string bytes, d) => bytes.length + uptoBulk d + 1
  | (_, d) => uptoBulk d + 1
 end
def uptoSmall : (H : Type) → List (DataW H) → Bool := fun _ ds => decide (uptoBulkAll ds ≤ 1048576)
def OpenSpec.upto (s : _root_.Go.ChangeSpec) : _root_.Go.OpenSpec := { _root_.Go.OpenSpec.ofChange s with cond := some uptoSmall }

/-- 'pleachlaw15.WinAny', WHERE WHAT IT READS IS OF BULK AT MOST 1048576: true; the input reads as it did. -/
def winAnyUptoRow : OpenClaim := { program := "ytigmbfeeodggbaa", sum := "ea29bd2d5ce84ff7f1ce18689cd25faf1c988d132036dd4e6a86892f603b3bbc", func := "pleach/pleachlaw15.WinAny", spec := "winAny", inPlace := ["slices.overlaps[pleach/api.Item]"], apart := false, narrowed := true }
def WinAnyUptoSaid : Prop := winAnyUptoRow.holds Try.pinned (OpenSpec.upto winAnySpec)

/-- 'pleachlaw17.NakAll', WHERE WHAT IT READS IS OF BULK AT MOST 1048576: true; the input reads as it did. -/
def nakAllUptoRow : OpenClaim := { program := "ytigmbfeeodggbaa", sum := "ea29bd2d5ce84ff7f1ce18689cd25faf1c988d132036dd4e6a86892f603b3bbc", func := "pleach/pleachlaw17.NakAll", spec := "nakAll", unfollowed := true, recurses := true, apart := false, narrowed := true }
def NakAllUptoSaid : Prop := nakAllUptoRow.holds Try.pinned (OpenSpec.upto nakAllSpec)

/-- 'pleachlaw17.NakCatches', WHERE WHAT IT READS IS OF BULK AT MOST 1048576: true; the input reads as it did. -/
def nakCatchesUptoRow : OpenClaim := { program := "ytigmbfeeodggbaa", sum := "ea29bd2d5ce84ff7f1ce18689cd25faf1c988d132036dd4e6a86892f603b3bbc", func := "pleach/pleachlaw17.NakCatches", spec := "nakCatches", unfollowed := true, recurses := true, apart := false, narrowed := true }
def NakCatchesUptoSaid : Prop := nakCatchesUptoRow.holds Try.pinned (OpenSpec.upto nakCatchesSpec)

/-- 'pleachlaw17.NakKept', WHERE WHAT IT READS IS OF BULK AT MOST 1048576: true; the input reads as it did. -/
def nakKeptUptoRow : OpenClaim := { program := "ytigmbfeeodggbaa", sum := "ea29bd2d5ce84ff7f1ce18689cd25faf1c988d132036dd4e6a86892f603b3bbc", func := "pleach/pleachlaw17.NakKept", spec := "nakKept", unfollowed := true, recurses := true, apart := false, narrowed := true }
def NakKeptUptoSaid : Prop := nakKeptUptoRow.holds Try.pinned (OpenSpec.upto nakKeptSpec)

/-- 'pleachlaw18.FeedOrder', WHERE WHAT IT READS IS OF BULK AT MOST 1048576: true; the input reads as it did. -/
def feedOrderUptoRow : OpenClaim := { program := "ytigmbfeeodggbaa", sum := "ea29bd2d5ce84ff7f1ce18689cd25faf1c988d132036dd4e6a86892f603b3bbc", func := "pleach/pleachlaw18.FeedOrder", spec := "feedOrder", inPlace := ["slices.overlaps[pleach/api.Item]"], unfollowed := true, recurses := true, apart := false, narrowed := true }
def FeedOrderUptoSaid : Prop := feedOrderUptoRow.holds Try.pinned (OpenSpec.upto feedOrderSpec)

/-- 'pleachlaw18.FeedWants', WHERE WHAT IT READS IS OF BULK AT MOST 1048576: true; the input reads as it did. -/
def feedWantsUptoRow : OpenClaim := { program := "ytigmbfeeodggbaa", sum := "ea29bd2d5ce84ff7f1ce18689cd25faf1c988d132036dd4e6a86892f603b3bbc", func := "pleach/pleachlaw18.FeedWants", spec := "feedWants", inPlace := ["slices.overlaps[pleach/api.Item]"], unfollowed := true, recurses := true, apart := false, narrowed := true }
def FeedWantsUptoSaid : Prop := feedWantsUptoRow.holds Try.pinned (OpenSpec.upto feedWantsSpec)

/-- 'pleachlaw18.FeedResumes', WHERE WHAT IT READS IS OF BULK AT MOST 1048576: true; the input reads as it did. -/
def feedResumesUptoRow : OpenClaim := { program := "ytigmbfeeodggbaa", sum := "ea29bd2d5ce84ff7f1ce18689cd25faf1c988d132036dd4e6a86892f603b3bbc", func := "pleach/pleachlaw18.FeedResumes", spec := "feedResumes", inPlace := ["slices.overlaps[pleach/api.Item]"], unfollowed := true, recurses := true, apart := false, narrowed := true }
def FeedResumesUptoSaid : Prop := feedResumesUptoRow.holds Try.pinned (OpenSpec.upto feedResumesSpec)

/-- 'pleachlaw18.FeedEnds', WHERE WHAT IT READS IS OF BULK AT MOST 1048576: true; the input reads as it did. -/
def feedEndsUptoRow : OpenClaim := { program := "ytigmbfeeodggbaa", sum := "ea29bd2d5ce84ff7f1ce18689cd25faf1c988d132036dd4e6a86892f603b3bbc", func := "pleach/pleachlaw18.FeedEnds", spec := "feedEnds", inPlace := ["slices.overlaps[pleach/api.Item]"], unfollowed := true, recurses := true, apart := false, narrowed := true }
def FeedEndsUptoSaid : Prop := feedEndsUptoRow.holds Try.pinned (OpenSpec.upto feedEndsSpec)

/-- 'pleachlaw18.FeedAll', WHERE WHAT IT READS IS OF BULK AT MOST 1048576: true; the input reads as it did. -/
def feedAllUptoRow : OpenClaim := { program := "ytigmbfeeodggbaa", sum := "ea29bd2d5ce84ff7f1ce18689cd25faf1c988d132036dd4e6a86892f603b3bbc", func := "pleach/pleachlaw18.FeedAll", spec := "feedAll", inPlace := ["slices.overlaps[pleach/api.Item]"], unfollowed := true, recurses := true, apart := false, narrowed := true }
def FeedAllUptoSaid : Prop := feedAllUptoRow.holds Try.pinned (OpenSpec.upto feedAllSpec)

/-- 'pleachlaw18.FeedTwice', WHERE WHAT IT READS IS OF BULK AT MOST 1048576: true; the input reads as it did. -/
def feedTwiceUptoRow : OpenClaim := { program := "ytigmbfeeodggbaa", sum := "ea29bd2d5ce84ff7f1ce18689cd25faf1c988d132036dd4e6a86892f603b3bbc", func := "pleach/pleachlaw18.FeedTwice", spec := "feedTwice", inPlace := ["slices.overlaps[pleach/api.Item]"], unfollowed := true, recurses := true, apart := false, narrowed := true }
def FeedTwiceUptoSaid : Prop := feedTwiceUptoRow.holds Try.pinned (OpenSpec.upto feedTwiceSpec)

/-- 'pleachlaw18.FeedOne', WHERE WHAT IT READS IS OF BULK AT MOST 1048576: true; the input reads as it did. -/
def feedOneUptoRow : OpenClaim := { program := "ytigmbfeeodggbaa", sum := "ea29bd2d5ce84ff7f1ce18689cd25faf1c988d132036dd4e6a86892f603b3bbc", func := "pleach/pleachlaw18.FeedOne", spec := "feedOne", inPlace := ["slices.overlaps[pleach/api.Item]"], unfollowed := true, recurses := true, apart := false, narrowed := true }
def FeedOneUptoSaid : Prop := feedOneUptoRow.holds Try.pinned (OpenSpec.upto feedOneSpec)

end Rows
end Go.Proofs.Ytigmbfeeodggbaa
