/-
  No cell of these rows narrows 'for every input' (looked for: loops, veiled, ifaces, maps, wideKeys, modest, calm, conditions, laid).
  DERIVED. THE GIVEN ROWS OF THIS SEAT. 4 by the template 'for every input the law returns true; each argument reads behind the call as it read before'; 0 by the template 'total and deterministic' (their statements: YtkdgdpeoneegnaaTotals.lean).
  GIVEN WITH THE SEED: the statements are not yours to turn. If you find one false, say at which input.
  Laid BY PROGRAM, IN A SANDBOX (cutbox-rows.mjs): the forced cells as the released guide's own fill.sh prints them over the translation 8337abcf1d57f469… (all of the seat's roots in one cut). By AI agents, Wed Nov 11 2026. No macro, syntax, notation, axiom, sorry.
-/
import Derived.Test.YtkdgdpeoneegnaaChecked
import GoSem.Claim
import GoSem.ClaimJoined
import GoSem.ClaimMapViews
import Derived.JoinedTies
import Derived.KernelRfl
namespace Go.Proofs.Ytkdgdpeoneegnaa
/- THE CELL 'sum', in the pinned program and in every row, IS THE sha256 OF THE DUMP (.gsa) THAT YtkdgdpeoneegnaaProg.lean LOADS. Nothing in Lean hashes anything: it is a label: what it is worth is what the hold of that sum in a sandbox is worth. -/
noncomputable def Try.pinned : Pinned := { name := "ytkdgdpeoneegnaa", sum := "8337abcf1d57f469f4d47454a33c6300bd0ff40a712f0bae0d334fb9647a6857", checked := Try.checked }
namespace Rows
def none {H : Type} : Left H := { results := [], args := [] }

/-- 'pleachlaw17.NakServes': WHATEVER THE INPUT: true; the input reads as it did. -/
def nakServesSpec : ChangeSpec := { name := "nakServes", fn := fun _ => fun
  | [d1, d2, d3] => { results := [.lit (.bool true)], args := [d1, d2, d3] }
  | _ => none }
def nakServesRow : OpenClaim := { program := "ytkdgdpeoneegnaa", sum := "8337abcf1d57f469f4d47454a33c6300bd0ff40a712f0bae0d334fb9647a6857", func := "pleach/pleachlaw17.NakServes", spec := "nakServes", unfollowed := true, recurses := true, apart := false }
def NakServesSaid : Prop := nakServesRow.holds Try.pinned (OpenSpec.ofChange nakServesSpec)

/-- ITS FALSE NEIGHBOUR: 'it returns false'. Refute it at one input. -/
def nakServesWrong : ChangeSpec := { name := "nakServes", fn := fun _ => fun
  | [d1, d2, d3] => { results := [.lit (.bool false)], args := [d1, d2, d3] }
  | _ => none }
def NakServesWrongFalsely : Prop := nakServesRow.holds Try.pinned (OpenSpec.ofChange nakServesWrong)

/-- 'pleachlaw18.FeedSays': WHATEVER THE INPUT: true; the input reads as it did. -/
def feedSaysSpec : ChangeSpec := { name := "feedSays", fn := fun _ => fun
  | [d] => { results := [.lit (.bool true)], args := [d] }
  | _ => none }
def feedSaysRow : OpenClaim := { program := "ytkdgdpeoneegnaa", sum := "8337abcf1d57f469f4d47454a33c6300bd0ff40a712f0bae0d334fb9647a6857", func := "pleach/pleachlaw18.FeedSays", spec := "feedSays", inPlace := ["slices.overlaps[pleach/api.Item]"], unfollowed := true, recurses := true, apart := false }
def FeedSaysSaid : Prop := feedSaysRow.holds Try.pinned (OpenSpec.ofChange feedSaysSpec)

/-- ITS FALSE NEIGHBOUR: 'it returns false'. Refute it at one input. -/
def feedSaysWrong : ChangeSpec := { name := "feedSays", fn := fun _ => fun
  | [d] => { results := [.lit (.bool false)], args := [d] }
  | _ => none }
def FeedSaysWrongFalsely : Prop := feedSaysRow.holds Try.pinned (OpenSpec.ofChange feedSaysWrong)

/-- 'pleachlaw19.TieAsks': WHATEVER THE INPUT: true; the input reads as it did. -/
def tieAsksSpec : ChangeSpec := { name := "tieAsks", fn := fun _ => fun
  | [d1, d2, d3] => { results := [.lit (.bool true)], args := [d1, d2, d3] }
  | _ => none }
def tieAsksRow : OpenClaim := { program := "ytkdgdpeoneegnaa", sum := "8337abcf1d57f469f4d47454a33c6300bd0ff40a712f0bae0d334fb9647a6857", func := "pleach/pleachlaw19.TieAsks", spec := "tieAsks", inPlace := ["slices.overlaps[pleach/api.Kid]"], unfollowed := true, recurses := true, apart := false }
def TieAsksSaid : Prop := tieAsksRow.holds Try.pinned (OpenSpec.ofChange tieAsksSpec)

/-- ITS FALSE NEIGHBOUR: 'it returns false'. Refute it at one input. -/
def tieAsksWrong : ChangeSpec := { name := "tieAsks", fn := fun _ => fun
  | [d1, d2, d3] => { results := [.lit (.bool false)], args := [d1, d2, d3] }
  | _ => none }
def TieAsksWrongFalsely : Prop := tieAsksRow.holds Try.pinned (OpenSpec.ofChange tieAsksWrong)

/-- 'pleachlaw19.TieHangs': WHATEVER THE INPUT: true; the input reads as it did. -/
def tieHangsSpec : ChangeSpec := { name := "tieHangs", fn := fun _ => fun
  | [d1, d2, d3, d4, d5] => { results := [.lit (.bool true)], args := [d1, d2, d3, d4, d5] }
  | _ => none }
def tieHangsRow : OpenClaim := { program := "ytkdgdpeoneegnaa", sum := "8337abcf1d57f469f4d47454a33c6300bd0ff40a712f0bae0d334fb9647a6857", func := "pleach/pleachlaw19.TieHangs", spec := "tieHangs", inPlace := ["slices.overlaps[pleach/api.Kid]"], unfollowed := true, recurses := true, apart := false }
def TieHangsSaid : Prop := tieHangsRow.holds Try.pinned (OpenSpec.ofChange tieHangsSpec)

/-- ITS FALSE NEIGHBOUR: 'it returns false'. Refute it at one input. -/
def tieHangsWrong : ChangeSpec := { name := "tieHangs", fn := fun _ => fun
  | [d1, d2, d3, d4, d5] => { results := [.lit (.bool false)], args := [d1, d2, d3, d4, d5] }
  | _ => none }
def TieHangsWrongFalsely : Prop := tieHangsRow.holds Try.pinned (OpenSpec.ofChange tieHangsWrong)

/- THE SECOND FORM. 'bulk': how many values and letters a reading holds, each counted each time it is reached (what is shared counts as often as it is met; a slice's spare places count too). A statement '..UptoSaid' is the law's where the arguments, and the package variables that the reading takes, are together of bulk at most 1048576: NARROWER than '..Said'. Prove '..Said' where nothing that the law and all that it calls make is longer than what came in: it says more and counts as full. Else prove '..UptoSaid'. A law counts once. -/
mutual
def uptoBulk {H : Type} : DataW H → Nat
  | .lit (.string bytes) => bytes.length + 1
  | .lit _ => 1
  | .nil => 1
  | .ptr d => uptoBulk d + 1
  | .slice elems spare => uptoBulkAll elems + uptoBulkAll spare + 1
  | .agg parts => uptoBulkAll parts + 1
  | .iface _ d => uptoBulk d + 1
  | .map entries => uptoBulkEntries entries + 1
  | .held _ => 1
def uptoBulkAll {H : Type} : List (DataW H) → Nat
  | [] => 0
  | d :: r => uptoBulk d + uptoBulkAll r
def uptoBulkEntries {H : Type} : List (Lit × DataW H) → Nat
  | [] => 0
  | x :: r => uptoBulkEntry x + uptoBulkEntries r
def uptoBulkEntry {H : Type} : Lit × DataW H → Nat
  | (.string bytes, d) => bytes.length + uptoBulk d + 1
  | (_, d) => uptoBulk d + 1
 end
def uptoSmall : (H : Type) → List (DataW H) → Bool := fun _ ds => decide (uptoBulkAll ds ≤ 1048576)
def OpenSpec.upto (s : _root_.Go.ChangeSpec) : _root_.Go.OpenSpec := { _root_.Go.OpenSpec.ofChange s with cond := some uptoSmall }

/-- 'pleachlaw17.NakServes', WHERE WHAT IT READS IS OF BULK AT MOST 1048576: true; the input reads as it did. -/
def nakServesUptoRow : OpenClaim := { program := "ytkdgdpeoneegnaa", sum := "8337abcf1d57f469f4d47454a33c6300bd0ff40a712f0bae0d334fb9647a6857", func := "pleach/pleachlaw17.NakServes", spec := "nakServes", unfollowed := true, recurses := true, apart := false, narrowed := true }
def NakServesUptoSaid : Prop := nakServesUptoRow.holds Try.pinned (OpenSpec.upto nakServesSpec)

/-- 'pleachlaw18.FeedSays', WHERE WHAT IT READS IS OF BULK AT MOST 1048576: true; the input reads as it did. -/
def feedSaysUptoRow : OpenClaim := { program := "ytkdgdpeoneegnaa", sum := "8337abcf1d57f469f4d47454a33c6300bd0ff40a712f0bae0d334fb9647a6857", func := "pleach/pleachlaw18.FeedSays", spec := "feedSays", inPlace := ["slices.overlaps[pleach/api.Item]"], unfollowed := true, recurses := true, apart := false, narrowed := true }
def FeedSaysUptoSaid : Prop := feedSaysUptoRow.holds Try.pinned (OpenSpec.upto feedSaysSpec)

/-- 'pleachlaw19.TieAsks', WHERE WHAT IT READS IS OF BULK AT MOST 1048576: true; the input reads as it did. -/
def tieAsksUptoRow : OpenClaim := { program := "ytkdgdpeoneegnaa", sum := "8337abcf1d57f469f4d47454a33c6300bd0ff40a712f0bae0d334fb9647a6857", func := "pleach/pleachlaw19.TieAsks", spec := "tieAsks", inPlace := ["slices.overlaps[pleach/api.Kid]"], unfollowed := true, recurses := true, apart := false, narrowed := true }
def TieAsksUptoSaid : Prop := tieAsksUptoRow.holds Try.pinned (OpenSpec.upto tieAsksSpec)

/-- 'pleachlaw19.TieHangs', WHERE WHAT IT READS IS OF BULK AT MOST 1048576: true; the input reads as it did. -/
def tieHangsUptoRow : OpenClaim := { program := "ytkdgdpeoneegnaa", sum := "8337abcf1d57f469f4d47454a33c6300bd0ff40a712f0bae0d334fb9647a6857", func := "pleach/pleachlaw19.TieHangs", spec := "tieHangs", inPlace := ["slices.overlaps[pleach/api.Kid]"], unfollowed := true, recurses := true, apart := false, narrowed := true }
def TieHangsUptoSaid : Prop := tieHangsUptoRow.holds Try.pinned (OpenSpec.upto tieHangsSpec)

end Rows
end Go.Proofs.Ytkdgdpeoneegnaa
