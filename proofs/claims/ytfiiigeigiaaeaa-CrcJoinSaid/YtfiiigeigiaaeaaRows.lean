/-
  No cell of these rows narrows 'for every input' (looked for: loops, veiled, ifaces, maps, wideKeys, modest, calm, conditions, laid).
  DERIVED. THE GIVEN ROWS OF THIS SEAT. 12 by the template 'for every input the law returns true; each argument reads behind the call as it read before'; 0 by the template 'total and deterministic' (their statements: YtfiiigeigiaaeaaTotals.lean).
  GIVEN WITH THE SEED: the statements are not yours to turn. If you find one false, say at which input.
  Laid BY PROGRAM, IN A SANDBOX (cutbox-rows.mjs): the forced cells as the released guide's own fill.sh prints them over the translation 312c7ab75e81aedd… (all of the seat's roots in one cut). By AI agents, Wed Nov 11 2026. No macro, syntax, notation, axiom, sorry.
-/
import Derived.Test.YtfiiigeigiaaeaaChecked
import GoSem.Claim
import GoSem.ClaimJoined
import GoSem.ClaimMapViews
import Derived.JoinedTies
import Derived.KernelRfl
namespace Go.Proofs.Ytfiiigeigiaaeaa
/- THE CELL 'sum', in the pinned program and in every row, IS THE sha256 OF THE DUMP (.gsa) THAT YtfiiigeigiaaeaaProg.lean LOADS. Nothing in Lean hashes anything: it is a label: what it is worth is what the hold of that sum in a sandbox is worth. -/
noncomputable def Try.pinned : Pinned := { name := "ytfiiigeigiaaeaa", sum := "312c7ab75e81aedddad55d3b60e8b513e5ebc152da466da8b4ca72d37d315cbd", checked := Try.checked }
namespace Rows
def none {H : Type} : Left H := { results := [], args := [] }

/-- 'pleachlaw2.PathAll': WHATEVER THE INPUT: true; the input reads as it did. -/
def pathAllSpec : ChangeSpec := { name := "pathAll", fn := fun _ => fun
  | [d1, d2, d3] => { results := [.lit (.bool true)], args := [d1, d2, d3] }
  | _ => none }
def pathAllRow : OpenClaim := { program := "ytfiiigeigiaaeaa", sum := "312c7ab75e81aedddad55d3b60e8b513e5ebc152da466da8b4ca72d37d315cbd", func := "pleach/pleachlaw2.PathAll", spec := "pathAll", apart := false }
def PathAllSaid : Prop := pathAllRow.holds Try.pinned (OpenSpec.ofChange pathAllSpec)

/-- ITS FALSE NEIGHBOUR: 'it returns false'. Refute it at one input. -/
def pathAllWrong : ChangeSpec := { name := "pathAll", fn := fun _ => fun
  | [d1, d2, d3] => { results := [.lit (.bool false)], args := [d1, d2, d3] }
  | _ => none }
def PathAllWrongFalsely : Prop := pathAllRow.holds Try.pinned (OpenSpec.ofChange pathAllWrong)

/-- 'pleachlaw2.PathOnce': WHATEVER THE INPUT: true; the input reads as it did. -/
def pathOnceSpec : ChangeSpec := { name := "pathOnce", fn := fun _ => fun
  | [d] => { results := [.lit (.bool true)], args := [d] }
  | _ => none }
def pathOnceRow : OpenClaim := { program := "ytfiiigeigiaaeaa", sum := "312c7ab75e81aedddad55d3b60e8b513e5ebc152da466da8b4ca72d37d315cbd", func := "pleach/pleachlaw2.PathOnce", spec := "pathOnce", apart := false }
def PathOnceSaid : Prop := pathOnceRow.holds Try.pinned (OpenSpec.ofChange pathOnceSpec)

/-- ITS FALSE NEIGHBOUR: 'it returns false'. Refute it at one input. -/
def pathOnceWrong : ChangeSpec := { name := "pathOnce", fn := fun _ => fun
  | [d] => { results := [.lit (.bool false)], args := [d] }
  | _ => none }
def PathOnceWrongFalsely : Prop := pathOnceRow.holds Try.pinned (OpenSpec.ofChange pathOnceWrong)

/-- 'pleachlaw2.PathFronts': WHATEVER THE INPUT: true; the input reads as it did. -/
def pathFrontsSpec : ChangeSpec := { name := "pathFronts", fn := fun _ => fun
  | [d1, d2] => { results := [.lit (.bool true)], args := [d1, d2] }
  | _ => none }
def pathFrontsRow : OpenClaim := { program := "ytfiiigeigiaaeaa", sum := "312c7ab75e81aedddad55d3b60e8b513e5ebc152da466da8b4ca72d37d315cbd", func := "pleach/pleachlaw2.PathFronts", spec := "pathFronts", apart := false }
def PathFrontsSaid : Prop := pathFrontsRow.holds Try.pinned (OpenSpec.ofChange pathFrontsSpec)

/-- ITS FALSE NEIGHBOUR: 'it returns false'. Refute it at one input. -/
def pathFrontsWrong : ChangeSpec := { name := "pathFronts", fn := fun _ => fun
  | [d1, d2] => { results := [.lit (.bool false)], args := [d1, d2] }
  | _ => none }
def PathFrontsWrongFalsely : Prop := pathFrontsRow.holds Try.pinned (OpenSpec.ofChange pathFrontsWrong)

/-- 'pleachlaw3.SpanAll': WHATEVER THE INPUT: true; the input reads as it did. -/
def spanAllSpec : ChangeSpec := { name := "spanAll", fn := fun _ => fun
  | [d1, d2, d3, d4] => { results := [.lit (.bool true)], args := [d1, d2, d3, d4] }
  | _ => none }
def spanAllRow : OpenClaim := { program := "ytfiiigeigiaaeaa", sum := "312c7ab75e81aedddad55d3b60e8b513e5ebc152da466da8b4ca72d37d315cbd", func := "pleach/pleachlaw3.SpanAll", spec := "spanAll", unfollowed := true, recurses := true, apart := false }
def SpanAllSaid : Prop := spanAllRow.holds Try.pinned (OpenSpec.ofChange spanAllSpec)

/-- ITS FALSE NEIGHBOUR: 'it returns false'. Refute it at one input. -/
def spanAllWrong : ChangeSpec := { name := "spanAll", fn := fun _ => fun
  | [d1, d2, d3, d4] => { results := [.lit (.bool false)], args := [d1, d2, d3, d4] }
  | _ => none }
def SpanAllWrongFalsely : Prop := spanAllRow.holds Try.pinned (OpenSpec.ofChange spanAllWrong)

/-- 'pleachlaw3.SpanSet': WHATEVER THE INPUT: true; the input reads as it did. -/
def spanSetSpec : ChangeSpec := { name := "spanSet", fn := fun _ => fun
  | [d1, d2, d3, d4] => { results := [.lit (.bool true)], args := [d1, d2, d3, d4] }
  | _ => none }
def spanSetRow : OpenClaim := { program := "ytfiiigeigiaaeaa", sum := "312c7ab75e81aedddad55d3b60e8b513e5ebc152da466da8b4ca72d37d315cbd", func := "pleach/pleachlaw3.SpanSet", spec := "spanSet", unfollowed := true, recurses := true, apart := false }
def SpanSetSaid : Prop := spanSetRow.holds Try.pinned (OpenSpec.ofChange spanSetSpec)

/-- ITS FALSE NEIGHBOUR: 'it returns false'. Refute it at one input. -/
def spanSetWrong : ChangeSpec := { name := "spanSet", fn := fun _ => fun
  | [d1, d2, d3, d4] => { results := [.lit (.bool false)], args := [d1, d2, d3, d4] }
  | _ => none }
def SpanSetWrongFalsely : Prop := spanSetRow.holds Try.pinned (OpenSpec.ofChange spanSetWrong)

/-- 'pleachlaw5.RttAll': WHATEVER THE INPUT: true; the input reads as it did. -/
def rttAllSpec : ChangeSpec := { name := "rttAll", fn := fun _ => fun
  | [d1, d2, d3, d4, d5, d6, d7, d8] => { results := [.lit (.bool true)], args := [d1, d2, d3, d4, d5, d6, d7, d8] }
  | _ => none }
def rttAllRow : OpenClaim := { program := "ytfiiigeigiaaeaa", sum := "312c7ab75e81aedddad55d3b60e8b513e5ebc152da466da8b4ca72d37d315cbd", func := "pleach/pleachlaw5.RttAll", spec := "rttAll", apart := false }
def RttAllSaid : Prop := rttAllRow.holds Try.pinned (OpenSpec.ofChange rttAllSpec)

/-- ITS FALSE NEIGHBOUR: 'it returns false'. Refute it at one input. -/
def rttAllWrong : ChangeSpec := { name := "rttAll", fn := fun _ => fun
  | [d1, d2, d3, d4, d5, d6, d7, d8] => { results := [.lit (.bool false)], args := [d1, d2, d3, d4, d5, d6, d7, d8] }
  | _ => none }
def RttAllWrongFalsely : Prop := rttAllRow.holds Try.pinned (OpenSpec.ofChange rttAllWrong)

/-- 'pleachlaw5.RttBetween': WHATEVER THE INPUT: true; the input reads as it did. -/
def rttBetweenSpec : ChangeSpec := { name := "rttBetween", fn := fun _ => fun
  | [d1, d2, d3] => { results := [.lit (.bool true)], args := [d1, d2, d3] }
  | _ => none }
def rttBetweenRow : OpenClaim := { program := "ytfiiigeigiaaeaa", sum := "312c7ab75e81aedddad55d3b60e8b513e5ebc152da466da8b4ca72d37d315cbd", func := "pleach/pleachlaw5.RttBetween", spec := "rttBetween", apart := false }
def RttBetweenSaid : Prop := rttBetweenRow.holds Try.pinned (OpenSpec.ofChange rttBetweenSpec)

/-- ITS FALSE NEIGHBOUR: 'it returns false'. Refute it at one input. -/
def rttBetweenWrong : ChangeSpec := { name := "rttBetween", fn := fun _ => fun
  | [d1, d2, d3] => { results := [.lit (.bool false)], args := [d1, d2, d3] }
  | _ => none }
def RttBetweenWrongFalsely : Prop := rttBetweenRow.holds Try.pinned (OpenSpec.ofChange rttBetweenWrong)

/-- 'pleachlaw5.RttLearn': WHATEVER THE INPUT: true; the input reads as it did. -/
def rttLearnSpec : ChangeSpec := { name := "rttLearn", fn := fun _ => fun
  | [d1, d2, d3, d4] => { results := [.lit (.bool true)], args := [d1, d2, d3, d4] }
  | _ => none }
def rttLearnRow : OpenClaim := { program := "ytfiiigeigiaaeaa", sum := "312c7ab75e81aedddad55d3b60e8b513e5ebc152da466da8b4ca72d37d315cbd", func := "pleach/pleachlaw5.RttLearn", spec := "rttLearn", apart := false }
def RttLearnSaid : Prop := rttLearnRow.holds Try.pinned (OpenSpec.ofChange rttLearnSpec)

/-- ITS FALSE NEIGHBOUR: 'it returns false'. Refute it at one input. -/
def rttLearnWrong : ChangeSpec := { name := "rttLearn", fn := fun _ => fun
  | [d1, d2, d3, d4] => { results := [.lit (.bool false)], args := [d1, d2, d3, d4] }
  | _ => none }
def RttLearnWrongFalsely : Prop := rttLearnRow.holds Try.pinned (OpenSpec.ofChange rttLearnWrong)

/-- 'pleachlaw10.CrcAll': WHATEVER THE INPUT: true; the input reads as it did. -/
def crcAllSpec : ChangeSpec := { name := "crcAll", fn := fun _ => fun
  | [d] => { results := [.lit (.bool true)], args := [d] }
  | _ => none }
def crcAllRow : OpenClaim := { program := "ytfiiigeigiaaeaa", sum := "312c7ab75e81aedddad55d3b60e8b513e5ebc152da466da8b4ca72d37d315cbd", func := "pleach/pleachlaw10.CrcAll", spec := "crcAll", apart := false }
def CrcAllSaid : Prop := crcAllRow.holds Try.pinned (OpenSpec.ofChange crcAllSpec)

/-- ITS FALSE NEIGHBOUR: 'it returns false'. Refute it at one input. -/
def crcAllWrong : ChangeSpec := { name := "crcAll", fn := fun _ => fun
  | [d] => { results := [.lit (.bool false)], args := [d] }
  | _ => none }
def CrcAllWrongFalsely : Prop := crcAllRow.holds Try.pinned (OpenSpec.ofChange crcAllWrong)

/-- 'pleachlaw10.CrcJoin': WHATEVER THE INPUT: true; the input reads as it did. -/
def crcJoinSpec : ChangeSpec := { name := "crcJoin", fn := fun _ => fun
  | [d1, d2, d3] => { results := [.lit (.bool true)], args := [d1, d2, d3] }
  | _ => none }
def crcJoinRow : OpenClaim := { program := "ytfiiigeigiaaeaa", sum := "312c7ab75e81aedddad55d3b60e8b513e5ebc152da466da8b4ca72d37d315cbd", func := "pleach/pleachlaw10.CrcJoin", spec := "crcJoin", apart := false }
def CrcJoinSaid : Prop := crcJoinRow.holds Try.pinned (OpenSpec.ofChange crcJoinSpec)

/-- ITS FALSE NEIGHBOUR: 'it returns false'. Refute it at one input. -/
def crcJoinWrong : ChangeSpec := { name := "crcJoin", fn := fun _ => fun
  | [d1, d2, d3] => { results := [.lit (.bool false)], args := [d1, d2, d3] }
  | _ => none }
def CrcJoinWrongFalsely : Prop := crcJoinRow.holds Try.pinned (OpenSpec.ofChange crcJoinWrong)

/-- 'pleachlaw14.RingLast': WHATEVER THE INPUT: true; the input reads as it did. -/
def ringLastSpec : ChangeSpec := { name := "ringLast", fn := fun _ => fun
  | [d] => { results := [.lit (.bool true)], args := [d] }
  | _ => none }
def ringLastRow : OpenClaim := { program := "ytfiiigeigiaaeaa", sum := "312c7ab75e81aedddad55d3b60e8b513e5ebc152da466da8b4ca72d37d315cbd", func := "pleach/pleachlaw14.RingLast", spec := "ringLast", apart := false }
def RingLastSaid : Prop := ringLastRow.holds Try.pinned (OpenSpec.ofChange ringLastSpec)

/-- ITS FALSE NEIGHBOUR: 'it returns false'. Refute it at one input. -/
def ringLastWrong : ChangeSpec := { name := "ringLast", fn := fun _ => fun
  | [d] => { results := [.lit (.bool false)], args := [d] }
  | _ => none }
def RingLastWrongFalsely : Prop := ringLastRow.holds Try.pinned (OpenSpec.ofChange ringLastWrong)

/-- 'pleachlaw14.RingTurns': WHATEVER THE INPUT: true; the input reads as it did. -/
def ringTurnsSpec : ChangeSpec := { name := "ringTurns", fn := fun _ => fun
  | [d1, d2, d3] => { results := [.lit (.bool true)], args := [d1, d2, d3] }
  | _ => none }
def ringTurnsRow : OpenClaim := { program := "ytfiiigeigiaaeaa", sum := "312c7ab75e81aedddad55d3b60e8b513e5ebc152da466da8b4ca72d37d315cbd", func := "pleach/pleachlaw14.RingTurns", spec := "ringTurns", apart := false }
def RingTurnsSaid : Prop := ringTurnsRow.holds Try.pinned (OpenSpec.ofChange ringTurnsSpec)

/-- ITS FALSE NEIGHBOUR: 'it returns false'. Refute it at one input. -/
def ringTurnsWrong : ChangeSpec := { name := "ringTurns", fn := fun _ => fun
  | [d1, d2, d3] => { results := [.lit (.bool false)], args := [d1, d2, d3] }
  | _ => none }
def RingTurnsWrongFalsely : Prop := ringTurnsRow.holds Try.pinned (OpenSpec.ofChange ringTurnsWrong)

/- THE SECOND FORM. 'bulk': how many values and letters a reading holds, each counted each time it is reached (what is shared counts as often as it is met; a slice's spare places count too). A statement '..UptoSaid' is the law's where the arguments, and the package variables that the reading takes, are together of bulk at most 1048576: NARROWER than '..Said'. Prove '..Said' where nothing that the law and all that it calls make is longer than what came in: it says more and counts as full. Else prove '..UptoSaid'. A law counts once. -/
mutual
def uptoBulk {H : Type} : DataW H → Nat
  | .lit (.string bytes) => bytes.length + 1
  | .lit _ => 1
  | .nil => 1
  | .ptr d => uptoBulk d + 1
  | .slice elems spare => uptoBulkAll elems + uptoBulkAll spare + 1
  | .agg parts => uptoBulkAll parts + 1
  | .iface _ d => uptoBulk d + 1
  | .map entries => uptoBulkEntries entries + 1
  | .held _ => 1
def uptoBulkAll {H : Type} : List (DataW H) → Nat
  | [] => 0
  | d :: r => uptoBulk d + uptoBulkAll r
def uptoBulkEntries {H : Type} : List (Lit × DataW H) → Nat
  | [] => 0
  | x :: r => uptoBulkEntry x + uptoBulkEntries r
def uptoBulkEntry {H : Type} : Lit × DataW H → Nat
  | (.string bytes, d) => bytes.length + uptoBulk d + 1
  | (_, d) => uptoBulk d + 1
 end
def uptoSmall : (H : Type) → List (DataW H) → Bool := fun _ ds => decide (uptoBulkAll ds ≤ 1048576)
def OpenSpec.upto (s : _root_.Go.ChangeSpec) : _root_.Go.OpenSpec := { _root_.Go.OpenSpec.ofChange s with cond := some uptoSmall }

/-- 'pleachlaw2.PathAll', WHERE WHAT IT READS IS OF BULK AT MOST 1048576: true; the input reads as it did. -/
def pathAllUptoRow : OpenClaim := { program := "ytfiiigeigiaaeaa", sum := "312c7ab75e81aedddad55d3b60e8b513e5ebc152da466da8b4ca72d37d315cbd", func := "pleach/pleachlaw2.PathAll", spec := "pathAll", apart := false, narrowed := true }
def PathAllUptoSaid : Prop := pathAllUptoRow.holds Try.pinned (OpenSpec.upto pathAllSpec)

/-- 'pleachlaw2.PathOnce', WHERE WHAT IT READS IS OF BULK AT MOST 1048576: true; the input reads as it did. -/
def pathOnceUptoRow : OpenClaim := { program := "ytfiiigeigiaaeaa", sum := "312c7ab75e81aedddad55d3b60e8b513e5ebc152da466da8b4ca72d37d315cbd", func := "pleach/pleachlaw2.PathOnce", spec := "pathOnce", apart := false, narrowed := true }
def PathOnceUptoSaid : Prop := pathOnceUptoRow.holds Try.pinned (OpenSpec.upto pathOnceSpec)

/-- 'pleachlaw2.PathFronts', WHERE WHAT IT READS IS OF BULK AT MOST 1048576: true; the input reads as it did. -/
def pathFrontsUptoRow : OpenClaim := { program := "ytfiiigeigiaaeaa", sum := "312c7ab75e81aedddad55d3b60e8b513e5ebc152da466da8b4ca72d37d315cbd", func := "pleach/pleachlaw2.PathFronts", spec := "pathFronts", apart := false, narrowed := true }
def PathFrontsUptoSaid : Prop := pathFrontsUptoRow.holds Try.pinned (OpenSpec.upto pathFrontsSpec)

/-- 'pleachlaw3.SpanAll', WHERE WHAT IT READS IS OF BULK AT MOST 1048576: true; the input reads as it did. -/
def spanAllUptoRow : OpenClaim := { program := "ytfiiigeigiaaeaa", sum := "312c7ab75e81aedddad55d3b60e8b513e5ebc152da466da8b4ca72d37d315cbd", func := "pleach/pleachlaw3.SpanAll", spec := "spanAll", unfollowed := true, recurses := true, apart := false, narrowed := true }
def SpanAllUptoSaid : Prop := spanAllUptoRow.holds Try.pinned (OpenSpec.upto spanAllSpec)

/-- 'pleachlaw3.SpanSet', WHERE WHAT IT READS IS OF BULK AT MOST 1048576: true; the input reads as it did. -/
def spanSetUptoRow : OpenClaim := { program := "ytfiiigeigiaaeaa", sum := "312c7ab75e81aedddad55d3b60e8b513e5ebc152da466da8b4ca72d37d315cbd", func := "pleach/pleachlaw3.SpanSet", spec := "spanSet", unfollowed := true, recurses := true, apart := false, narrowed := true }
def SpanSetUptoSaid : Prop := spanSetUptoRow.holds Try.pinned (OpenSpec.upto spanSetSpec)

/-- 'pleachlaw5.RttAll', WHERE WHAT IT READS IS OF BULK AT MOST 1048576: true; the input reads as it did. -/
def rttAllUptoRow : OpenClaim := { program := "ytfiiigeigiaaeaa", sum := "312c7ab75e81aedddad55d3b60e8b513e5ebc152da466da8b4ca72d37d315cbd", func := "pleach/pleachlaw5.RttAll", spec := "rttAll", apart := false, narrowed := true }
def RttAllUptoSaid : Prop := rttAllUptoRow.holds Try.pinned (OpenSpec.upto rttAllSpec)

/-- 'pleachlaw5.RttBetween', WHERE WHAT IT READS IS OF BULK AT MOST 1048576: true; the input reads as it did. -/
def rttBetweenUptoRow : OpenClaim := { program := "ytfiiigeigiaaeaa", sum := "312c7ab75e81aedddad55d3b60e8b513e5ebc152da466da8b4ca72d37d315cbd", func := "pleach/pleachlaw5.RttBetween", spec := "rttBetween", apart := false, narrowed := true }
def RttBetweenUptoSaid : Prop := rttBetweenUptoRow.holds Try.pinned (OpenSpec.upto rttBetweenSpec)

/-- 'pleachlaw5.RttLearn', WHERE WHAT IT READS IS OF BULK AT MOST 1048576: true; the input reads as it did. -/
def rttLearnUptoRow : OpenClaim := { program := "ytfiiigeigiaaeaa", sum := "312c7ab75e81aedddad55d3b60e8b513e5ebc152da466da8b4ca72d37d315cbd", func := "pleach/pleachlaw5.RttLearn", spec := "rttLearn", apart := false, narrowed := true }
def RttLearnUptoSaid : Prop := rttLearnUptoRow.holds Try.pinned (OpenSpec.upto rttLearnSpec)

/-- 'pleachlaw10.CrcAll', WHERE WHAT IT READS IS OF BULK AT MOST 1048576: true; the input reads as it did. -/
def crcAllUptoRow : OpenClaim := { program := "ytfiiigeigiaaeaa", sum := "312c7ab75e81aedddad55d3b60e8b513e5ebc152da466da8b4ca72d37d315cbd", func := "pleach/pleachlaw10.CrcAll", spec := "crcAll", apart := false, narrowed := true }
def CrcAllUptoSaid : Prop := crcAllUptoRow.holds Try.pinned (OpenSpec.upto crcAllSpec)

/-- 'pleachlaw10.CrcJoin', WHERE WHAT IT READS IS OF BULK AT MOST 1048576: true; the input reads as it did. -/
def crcJoinUptoRow : OpenClaim := { program := "ytfiiigeigiaaeaa", sum := "312c7ab75e81aedddad55d3b60e8b513e5ebc152da466da8b4ca72d37d315cbd", func := "pleach/pleachlaw10.CrcJoin", spec := "crcJoin", apart := false, narrowed := true }
def CrcJoinUptoSaid : Prop := crcJoinUptoRow.holds Try.pinned (OpenSpec.upto crcJoinSpec)

/-- 'pleachlaw14.RingLast', WHERE WHAT IT READS IS OF BULK AT MOST 1048576: true; the input reads as it did. -/
def ringLastUptoRow : OpenClaim := { program := "ytfiiigeigiaaeaa", sum := "312c7ab75e81aedddad55d3b60e8b513e5ebc152da466da8b4ca72d37d315cbd", func := "pleach/pleachlaw14.RingLast", spec := "ringLast", apart := false, narrowed := true }
def RingLastUptoSaid : Prop := ringLastUptoRow.holds Try.pinned (OpenSpec.upto ringLastSpec)

/-- 'pleachlaw14.RingTurns', WHERE WHAT IT READS IS OF BULK AT MOST 1048576: true; the input reads as it did. -/
def ringTurnsUptoRow : OpenClaim := { program := "ytfiiigeigiaaeaa", sum := "312c7ab75e81aedddad55d3b60e8b513e5ebc152da466da8b4ca72d37d315cbd", func := "pleach/pleachlaw14.RingTurns", spec := "ringTurns", apart := false, narrowed := true }
def RingTurnsUptoSaid : Prop := ringTurnsUptoRow.holds Try.pinned (OpenSpec.upto ringTurnsSpec)

end Rows
end Go.Proofs.Ytfiiigeigiaaeaa
