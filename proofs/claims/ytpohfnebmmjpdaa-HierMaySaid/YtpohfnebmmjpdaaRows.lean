/-
  No cell of these rows narrows 'for every input' (looked for: loops, veiled, ifaces, maps, wideKeys, modest, calm, conditions, laid).
  DERIVED. THE GIVEN ROWS OF THIS SEAT. 3 by the template 'for every input the law returns true; each argument reads behind the call as it read before'; 0 by the template 'total and deterministic' (their statements: YtpohfnebmmjpdaaTotals.lean).
  GIVEN WITH THE SEED: the statements are not yours to turn. If you find one false, say at which input.
  Laid BY PROGRAM, IN A SANDBOX (cutbox-rows.mjs): the forced cells as the released guide's own fill.sh prints them over the translation b540b9dd6d79a967… (all of the seat's roots in one cut). By AI agents, Wed Nov 11 2026. No macro, syntax, notation, axiom, sorry.
-/
import Derived.Test.YtpohfnebmmjpdaaChecked
import GoSem.Claim
import GoSem.ClaimJoined
import GoSem.ClaimMapViews
import Derived.JoinedTies
import Derived.KernelRfl
namespace Go.Proofs.Ytpohfnebmmjpdaa
/- THE CELL 'sum', in the pinned program and in every row, IS THE sha256 OF THE DUMP (.gsa) THAT YtpohfnebmmjpdaaProg.lean LOADS. Nothing in Lean hashes anything: it is a label: what it is worth is what the hold of that sum in a sandbox is worth. -/
noncomputable def Try.pinned : Pinned := { name := "ytpohfnebmmjpdaa", sum := "b540b9dd6d79a967cd991ae83b8f7b4152de512be3e5489c1434de44348896e2", checked := Try.checked }
namespace Rows
def none {H : Type} : Left H := { results := [], args := [] }

/-- 'pleachlaw5.RttAll': WHATEVER THE INPUT: true; the input reads as it did. -/
def rttAllSpec : ChangeSpec := { name := "rttAll", fn := fun _ => fun
  | [d1, d2, d3, d4, d5, d6, d7, d8] => { results := [.lit (.bool true)], args := [d1, d2, d3, d4, d5, d6, d7, d8] }
  | _ => none }
def rttAllRow : OpenClaim := { program := "ytpohfnebmmjpdaa", sum := "b540b9dd6d79a967cd991ae83b8f7b4152de512be3e5489c1434de44348896e2", func := "pleach/pleachlaw5.RttAll", spec := "rttAll", apart := false }
def RttAllSaid : Prop := rttAllRow.holds Try.pinned (OpenSpec.ofChange rttAllSpec)

/-- ITS FALSE NEIGHBOUR: 'it returns false'. Refute it at one input. -/
def rttAllWrong : ChangeSpec := { name := "rttAll", fn := fun _ => fun
  | [d1, d2, d3, d4, d5, d6, d7, d8] => { results := [.lit (.bool false)], args := [d1, d2, d3, d4, d5, d6, d7, d8] }
  | _ => none }
def RttAllWrongFalsely : Prop := rttAllRow.holds Try.pinned (OpenSpec.ofChange rttAllWrong)

/-- 'pleachlaw5.RttLearn': WHATEVER THE INPUT: true; the input reads as it did. -/
def rttLearnSpec : ChangeSpec := { name := "rttLearn", fn := fun _ => fun
  | [d1, d2, d3, d4] => { results := [.lit (.bool true)], args := [d1, d2, d3, d4] }
  | _ => none }
def rttLearnRow : OpenClaim := { program := "ytpohfnebmmjpdaa", sum := "b540b9dd6d79a967cd991ae83b8f7b4152de512be3e5489c1434de44348896e2", func := "pleach/pleachlaw5.RttLearn", spec := "rttLearn", apart := false }
def RttLearnSaid : Prop := rttLearnRow.holds Try.pinned (OpenSpec.ofChange rttLearnSpec)

/-- ITS FALSE NEIGHBOUR: 'it returns false'. Refute it at one input. -/
def rttLearnWrong : ChangeSpec := { name := "rttLearn", fn := fun _ => fun
  | [d1, d2, d3, d4] => { results := [.lit (.bool false)], args := [d1, d2, d3, d4] }
  | _ => none }
def RttLearnWrongFalsely : Prop := rttLearnRow.holds Try.pinned (OpenSpec.ofChange rttLearnWrong)

/-- 'pleachlaw9.HierMay': WHATEVER THE INPUT: true; the input reads as it did. -/
def hierMaySpec : ChangeSpec := { name := "hierMay", fn := fun _ => fun
  | [d1, d2, d3, d4, d5] => { results := [.lit (.bool true)], args := [d1, d2, d3, d4, d5] }
  | _ => none }
def hierMayRow : OpenClaim := { program := "ytpohfnebmmjpdaa", sum := "b540b9dd6d79a967cd991ae83b8f7b4152de512be3e5489c1434de44348896e2", func := "pleach/pleachlaw9.HierMay", spec := "hierMay", unfollowed := true, recurses := true, apart := false }
def HierMaySaid : Prop := hierMayRow.holds Try.pinned (OpenSpec.ofChange hierMaySpec)

/-- ITS FALSE NEIGHBOUR: 'it returns false'. Refute it at one input. -/
def hierMayWrong : ChangeSpec := { name := "hierMay", fn := fun _ => fun
  | [d1, d2, d3, d4, d5] => { results := [.lit (.bool false)], args := [d1, d2, d3, d4, d5] }
  | _ => none }
def HierMayWrongFalsely : Prop := hierMayRow.holds Try.pinned (OpenSpec.ofChange hierMayWrong)

/- THE SECOND FORM. 'bulk': how many values and letters a reading holds, each counted each time it is reached (what is shared counts as often as it is met; a slice's spare places count too). A statement '..UptoSaid' is the law's where the arguments, and the package variables that the reading takes, are together of bulk at most 1048576: NARROWER than '..Said'. Prove '..Said' where nothing that the law and all that it calls make is longer than what came in: it says more and counts as full. Else prove '..UptoSaid'. A law counts once. -/
mutual
def uptoBulk {H : Type} : DataW H → Nat
  | .lit (.string bytes) => bytes.length + 1
  | .lit _ => 1
  | .nil => 1
  | .ptr d => uptoBulk d + 1
  | .slice elems spare => uptoBulkAll elems + uptoBulkAll spare + 1
  | .agg parts => uptoBulkAll parts + 1
  | .iface _ d => uptoBulk d + 1
  | .map entries => uptoBulkEntries entries + 1
  | .held _ => 1
def uptoBulkAll {H : Type} : List (DataW H) → Nat
  | [] => 0
  | d :: r => uptoBulk d + uptoBulkAll r
def uptoBulkEntries {H : Type} : List (Lit × DataW H) → Nat
  | [] => 0
  | x :: r => uptoBulkEntry x + uptoBulkEntries r
def uptoBulkEntry {H : Type} : Lit × DataW H → Nat
  | (.string bytes, d) => bytes.length + uptoBulk d + 1
  | (_, d) => uptoBulk d + 1
 end
def uptoSmall : (H : Type) → List (DataW H) → Bool := fun _ ds => decide (uptoBulkAll ds ≤ 1048576)
def OpenSpec.upto (s : _root_.Go.ChangeSpec) : _root_.Go.OpenSpec := { _root_.Go.OpenSpec.ofChange s with cond := some uptoSmall }

/-- 'pleachlaw5.RttAll', WHERE WHAT IT READS IS OF BULK AT MOST 1048576: true; the input reads as it did. -/
def rttAllUptoRow : OpenClaim := { program := "ytpohfnebmmjpdaa", sum := "b540b9dd6d79a967cd991ae83b8f7b4152de512be3e5489c1434de44348896e2", func := "pleach/pleachlaw5.RttAll", spec := "rttAll", apart := false, narrowed := true }
def RttAllUptoSaid : Prop := rttAllUptoRow.holds Try.pinned (OpenSpec.upto rttAllSpec)

/-- 'pleachlaw5.RttLearn', WHERE WHAT IT READS IS OF BULK AT MOST 1048576: true; the input reads as it did. -/
def rttLearnUptoRow : OpenClaim := { program := "ytpohfnebmmjpdaa", sum := "b540b9dd6d79a967cd991ae83b8f7b4152de512be3e5489c1434de44348896e2", func := "pleach/pleachlaw5.RttLearn", spec := "rttLearn", apart := false, narrowed := true }
def RttLearnUptoSaid : Prop := rttLearnUptoRow.holds Try.pinned (OpenSpec.upto rttLearnSpec)

/-- 'pleachlaw9.HierMay', WHERE WHAT IT READS IS OF BULK AT MOST 1048576: true; the input reads as it did. -/
def hierMayUptoRow : OpenClaim := { program := "ytpohfnebmmjpdaa", sum := "b540b9dd6d79a967cd991ae83b8f7b4152de512be3e5489c1434de44348896e2", func := "pleach/pleachlaw9.HierMay", spec := "hierMay", unfollowed := true, recurses := true, apart := false, narrowed := true }
def HierMayUptoSaid : Prop := hierMayUptoRow.holds Try.pinned (OpenSpec.upto hierMaySpec)

end Rows
end Go.Proofs.Ytpohfnebmmjpdaa
