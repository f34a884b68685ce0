/-
  No cell of these rows narrows 'for every input' (looked for: loops, veiled, ifaces, maps, wideKeys, modest, calm, conditions, laid).
  DERIVED. THE GIVEN ROWS OF THIS SEAT. 5 by the template 'for every input the law returns true; each argument reads behind the call as it read before'; 0 by the template 'total and deterministic' (their statements: YtjbgbmldfdeokaaTotals.lean).
  GIVEN WITH THE SEED: the statements are not yours to turn. If you find one false, say at which input.
  Laid BY PROGRAM, IN A SANDBOX (cutbox-rows.mjs): the forced cells as the released guide's own fill.sh prints them over the translation d6035dfa6825f1c9… (all of the seat's roots in one cut). By AI agents, Wed Nov 11 2026. No macro, syntax, notation, axiom, sorry.
-/
import Derived.Test.YtjbgbmldfdeokaaChecked
import GoSem.Claim
import GoSem.ClaimJoined
import GoSem.ClaimMapViews
import Derived.JoinedTies
import Derived.KernelRfl
namespace Go.Proofs.Ytjbgbmldfdeokaa
/- THE CELL 'sum', in the pinned program and in every row, IS THE sha256 OF THE DUMP (.gsa) THAT YtjbgbmldfdeokaaProg.lean LOADS. Nothing in Lean hashes anything: it is a label: what it is worth is what the hold of that sum in a sandbox is worth. -/
noncomputable def Try.pinned : Pinned := { name := "ytjbgbmldfdeokaa", sum := "d6035dfa6825f1c97895d7e4a50fa00c21fca6180f9c79390ccf96f25a7439b1", checked := Try.checked }
namespace Rows
def none {H : Type} : Left H := { results := [], args := [] }

/-- 'pleachlaw8.ClusSizes': WHATEVER THE INPUT: true; the input reads as it did. -/
def clusSizesSpec : ChangeSpec := { name := "clusSizes", fn := fun _ => fun
  | [d1, d2, d3] => { results := [.lit (.bool true)], args := [d1, d2, d3] }
  | _ => none }
def clusSizesRow : OpenClaim := { program := "ytjbgbmldfdeokaa", sum := "d6035dfa6825f1c97895d7e4a50fa00c21fca6180f9c79390ccf96f25a7439b1", func := "pleach/pleachlaw8.ClusSizes", spec := "clusSizes", unfollowed := true, recurses := true, apart := false }
def ClusSizesSaid : Prop := clusSizesRow.holds Try.pinned (OpenSpec.ofChange clusSizesSpec)

/-- ITS FALSE NEIGHBOUR: 'it returns false'. Refute it at one input. -/
def clusSizesWrong : ChangeSpec := { name := "clusSizes", fn := fun _ => fun
  | [d1, d2, d3] => { results := [.lit (.bool false)], args := [d1, d2, d3] }
  | _ => none }
def ClusSizesWrongFalsely : Prop := clusSizesRow.holds Try.pinned (OpenSpec.ofChange clusSizesWrong)

/-- 'pleachlaw9.HierMay': WHATEVER THE INPUT: true; the input reads as it did. -/
def hierMaySpec : ChangeSpec := { name := "hierMay", fn := fun _ => fun
  | [d1, d2, d3, d4, d5] => { results := [.lit (.bool true)], args := [d1, d2, d3, d4, d5] }
  | _ => none }
def hierMayRow : OpenClaim := { program := "ytjbgbmldfdeokaa", sum := "d6035dfa6825f1c97895d7e4a50fa00c21fca6180f9c79390ccf96f25a7439b1", func := "pleach/pleachlaw9.HierMay", spec := "hierMay", unfollowed := true, recurses := true, apart := false }
def HierMaySaid : Prop := hierMayRow.holds Try.pinned (OpenSpec.ofChange hierMaySpec)

/-- ITS FALSE NEIGHBOUR: 'it returns false'. Refute it at one input. -/
def hierMayWrong : ChangeSpec := { name := "hierMay", fn := fun _ => fun
  | [d1, d2, d3, d4, d5] => { results := [.lit (.bool false)], args := [d1, d2, d3, d4, d5] }
  | _ => none }
def HierMayWrongFalsely : Prop := hierMayRow.holds Try.pinned (OpenSpec.ofChange hierMayWrong)

/-- 'pleachlaw9.HierLeads': WHATEVER THE INPUT: true; the input reads as it did. -/
def hierLeadsSpec : ChangeSpec := { name := "hierLeads", fn := fun _ => fun
  | [d1, d2, d3] => { results := [.lit (.bool true)], args := [d1, d2, d3] }
  | _ => none }
def hierLeadsRow : OpenClaim := { program := "ytjbgbmldfdeokaa", sum := "d6035dfa6825f1c97895d7e4a50fa00c21fca6180f9c79390ccf96f25a7439b1", func := "pleach/pleachlaw9.HierLeads", spec := "hierLeads", unfollowed := true, recurses := true, apart := false }
def HierLeadsSaid : Prop := hierLeadsRow.holds Try.pinned (OpenSpec.ofChange hierLeadsSpec)

/-- ITS FALSE NEIGHBOUR: 'it returns false'. Refute it at one input. -/
def hierLeadsWrong : ChangeSpec := { name := "hierLeads", fn := fun _ => fun
  | [d1, d2, d3] => { results := [.lit (.bool false)], args := [d1, d2, d3] }
  | _ => none }
def HierLeadsWrongFalsely : Prop := hierLeadsRow.holds Try.pinned (OpenSpec.ofChange hierLeadsWrong)

/-- 'pleachlaw9.HierAlone': WHATEVER THE INPUT: true; the input reads as it did. -/
def hierAloneSpec : ChangeSpec := { name := "hierAlone", fn := fun _ => fun
  | [d1, d2, d3, d4] => { results := [.lit (.bool true)], args := [d1, d2, d3, d4] }
  | _ => none }
def hierAloneRow : OpenClaim := { program := "ytjbgbmldfdeokaa", sum := "d6035dfa6825f1c97895d7e4a50fa00c21fca6180f9c79390ccf96f25a7439b1", func := "pleach/pleachlaw9.HierAlone", spec := "hierAlone", unfollowed := true, recurses := true, apart := false }
def HierAloneSaid : Prop := hierAloneRow.holds Try.pinned (OpenSpec.ofChange hierAloneSpec)

/-- ITS FALSE NEIGHBOUR: 'it returns false'. Refute it at one input. -/
def hierAloneWrong : ChangeSpec := { name := "hierAlone", fn := fun _ => fun
  | [d1, d2, d3, d4] => { results := [.lit (.bool false)], args := [d1, d2, d3, d4] }
  | _ => none }
def HierAloneWrongFalsely : Prop := hierAloneRow.holds Try.pinned (OpenSpec.ofChange hierAloneWrong)

/-- 'pleachlaw9.HierSizes': WHATEVER THE INPUT: true; the input reads as it did. -/
def hierSizesSpec : ChangeSpec := { name := "hierSizes", fn := fun _ => fun
  | [d1, d2, d3, d4] => { results := [.lit (.bool true)], args := [d1, d2, d3, d4] }
  | _ => none }
def hierSizesRow : OpenClaim := { program := "ytjbgbmldfdeokaa", sum := "d6035dfa6825f1c97895d7e4a50fa00c21fca6180f9c79390ccf96f25a7439b1", func := "pleach/pleachlaw9.HierSizes", spec := "hierSizes", unfollowed := true, recurses := true, apart := false }
def HierSizesSaid : Prop := hierSizesRow.holds Try.pinned (OpenSpec.ofChange hierSizesSpec)

/-- ITS FALSE NEIGHBOUR: 'it returns false'. Refute it at one input. -/
def hierSizesWrong : ChangeSpec := { name := "hierSizes", fn := fun _ => fun
  | [d1, d2, d3, d4] => { results := [.lit (.bool false)], args := [d1, d2, d3, d4] }
  | _ => none }
def HierSizesWrongFalsely : Prop := hierSizesRow.holds Try.pinned (OpenSpec.ofChange hierSizesWrong)

/- THE SECOND FORM. 'bulk': how many values and letters a reading holds, each counted each time it is reached (what is shared counts as often as it is met; a slice's spare places count too). A statement '..UptoSaid' is the law's where the arguments, and the package variables that the reading takes, are together of bulk at most 1048576: NARROWER than '..Said'. Prove '..Said' where nothing that the law and all that it calls make is longer than what came in: it says more and counts as full. Else prove '..UptoSaid'. A law counts once. -/
mutual
def uptoBulk {H : Type} : DataW H → Nat
  | .lit (.string bytes) => bytes.length + 1
  | .lit _ => 1
  | .nil => 1
  | .ptr d => uptoBulk d + 1
  | .slice elems spare => uptoBulkAll elems + uptoBulkAll spare + 1
  | .agg parts => uptoBulkAll parts + 1
  | .iface _ d => uptoBulk d + 1
  | .map entries => uptoBulkEntries entries + 1
  | .held _ => 1
def uptoBulkAll {H : Type} : List (DataW H) → Nat
  | [] => 0
  | d :: r => uptoBulk d + uptoBulkAll r
def uptoBulkEntries {H : Type} : List (Lit × DataW H) → Nat
  | [] => 0
  | x :: r => uptoBulkEntry x + uptoBulkEntries r
def uptoBulkEntry {H : Type} : Lit × DataW H → Nat
  | (.string bytes, d) => bytes.length + uptoBulk d + 1
  | (_, d) => uptoBulk d + 1
 end
def uptoSmall : (H : Type) → List (DataW H) → Bool := fun _ ds => decide (uptoBulkAll ds ≤ 1048576)
def OpenSpec.upto (s : _root_.Go.ChangeSpec) : _root_.Go.OpenSpec := { _root_.Go.OpenSpec.ofChange s with cond := some uptoSmall }

/-- 'pleachlaw8.ClusSizes', WHERE WHAT IT READS IS OF BULK AT MOST 1048576: true; the input reads as it did. -/
def clusSizesUptoRow : OpenClaim := { program := "ytjbgbmldfdeokaa", sum := "d6035dfa6825f1c97895d7e4a50fa00c21fca6180f9c79390ccf96f25a7439b1", func := "pleach/pleachlaw8.ClusSizes", spec := "clusSizes", unfollowed := true, recurses := true, apart := false, narrowed := true }
def ClusSizesUptoSaid : Prop := clusSizesUptoRow.holds Try.pinned (OpenSpec.upto clusSizesSpec)

/-- 'pleachlaw9.HierMay', WHERE WHAT IT READS IS OF BULK AT MOST 1048576: true; the input reads as it did. -/
def hierMayUptoRow : OpenClaim := { program := "ytjbgbmldfdeokaa", sum := "d6035dfa6825f1c97895d7e4a50fa00c21fca6180f9c79390ccf96f25a7439b1", func := "pleach/pleachlaw9.HierMay", spec := "hierMay", unfollowed := true, recurses := true, apart := false, narrowed := true }
def HierMayUptoSaid : Prop := hierMayUptoRow.holds Try.pinned (OpenSpec.upto hierMaySpec)

/-- 'pleachlaw9.HierLeads', WHERE WHAT IT READS IS OF BULK AT MOST 1048576: true; the input reads as it did. -/
def hierLeadsUptoRow : OpenClaim := { program := "ytjbgbmldfdeokaa", sum := "d6035dfa6825f1c97895d7e4a50fa00c21fca6180f9c79390ccf96f25a7439b1", func := "pleach/pleachlaw9.HierLeads", spec := "hierLeads", unfollowed := true, recurses := true, apart := false, narrowed := true }
def HierLeadsUptoSaid : Prop := hierLeadsUptoRow.holds Try.pinned (OpenSpec.upto hierLeadsSpec)

/-- 'pleachlaw9.HierAlone', WHERE WHAT IT READS IS OF BULK AT MOST 1048576: true; the input reads as it did. -/
def hierAloneUptoRow : OpenClaim := { program := "ytjbgbmldfdeokaa", sum := "d6035dfa6825f1c97895d7e4a50fa00c21fca6180f9c79390ccf96f25a7439b1", func := "pleach/pleachlaw9.HierAlone", spec := "hierAlone", unfollowed := true, recurses := true, apart := false, narrowed := true }
def HierAloneUptoSaid : Prop := hierAloneUptoRow.holds Try.pinned (OpenSpec.upto hierAloneSpec)

/-- 'pleachlaw9.HierSizes', WHERE WHAT IT READS IS OF BULK AT MOST 1048576: true; the input reads as it did. -/
def hierSizesUptoRow : OpenClaim := { program := "ytjbgbmldfdeokaa", sum := "d6035dfa6825f1c97895d7e4a50fa00c21fca6180f9c79390ccf96f25a7439b1", func := "pleach/pleachlaw9.HierSizes", spec := "hierSizes", unfollowed := true, recurses := true, apart := false, narrowed := true }
def HierSizesUptoSaid : Prop := hierSizesUptoRow.holds Try.pinned (OpenSpec.upto hierSizesSpec)

end Rows
end Go.Proofs.Ytjbgbmldfdeokaa
