/- TextJoins: for all arguments the call returns true. The law is brought to a function of Lean's own (W_..) by the machine of the texts beside it, and that is reckoned; no condition. -/
import Derived.Test.YtbholnfijmjicaaExtFl
import Derived.Test.YtbholnfijmjicaaExtCm
import Derived.Test.YtbholnfijmjicaaRows
import Derived.WalkKit
import Derived.ProofKit
import Derived.OpenShut
import Derived.ShutString
import Derived.ChangeOld
import Derived.Below
import Derived.Shelf.Strings.Builder1
import Derived.Shelf.Strings.BuilderF
import Derived.Shelf.Strings.BuilderK
import Derived.Shelf.Strings.BuilderRune
import Derived.Lib.OthersKept
import Derived.Lib.Strings
import Derived.Lib.IndexBytes
import Derived.Laws.Slices
import Derived.Lib.ItoaWalk
import Derived.Lib.RuneBytes
import Derived.BigCall
import Derived.Lib.MapLaws
namespace Go.Proofs.Ytbholnfijmjicaa.textJoinsX
open Go.Abs Go.RowKit Go.ChangeShapes Go.WideShapes Go.ChangeAt
set_option maxRecDepth 100000
set_option linter.unusedVariables false
set_option linter.unusedSimpArgs false
noncomputable abbrev P0 : Program := Try.prog
noncomputable def bodyOf (fn : Func) : Code := fn.body.getD .skip
def L0 : Lend := fun f => aget [] [] f
def kpL (l : List Bool) : Nat → Bool := fun j => l.getD j true
theorem own : ownKnob Try.prog.godebug = none := by kernel_rfl
theorem laidOut : laidOutB Try.prog = true := by kernel_rfl
theorem mixed : P0.follows .mixedOrders = true := by decide +kernel
theorem progOk_ : progOk P0 = true := by decide +kernel
section
open Go.Shelf
def bdRen : Go.Shelf.Ren := ⟨fun | 166 => 39 | 168 => 41 | 169 => 42 | 240 => 55 | 276 => 59 | 242 => 56 | 278 => 60 | n => n, fun | 0 => 0 | 3 => 3 | 4 => 4 | 5 => 5 | 9 => 9 | 20 => 20 | 21 => 21 | 37 => 22 | 46 => 92 | 51 => 91 | 70 => 60 | 72 => 62 | 75 => 64 | 80 => 69 | 164 => 89 | 127 => 84 | n => n, fun | n => n⟩
theorem bdLays166 : Go.Proofs.Lays.n166 Try.prog bdRen := {
  mixed := by kernel_rfl
  f166 := Try.func39.trans (congrArg some (by kernel_rfl))
  f240 := Try.func55.trans (congrArg some (by kernel_rfl))
  f276 := Try.func59.trans (congrArg some (by kernel_rfl))
  t0 := Try.underlying0
  a0 := Try.isAgg0
  z0 := Try.sizeOf0
  v0 := Try.zeroValue0
  t3 := Try.underlying3
  a3 := Try.isAgg3
  z3 := Try.sizeOf3
  v3 := Try.zeroValue3
  t4 := Try.underlying4
  a4 := Try.isAgg4
  z4 := Try.sizeOf4
  v4 := Try.zeroValue4
  t9 := Try.underlying9
  a9 := Try.isAgg9
  z9 := Try.sizeOf9
  v9 := Try.zeroValue9
  t20 := Try.underlying20
  a20 := Try.isAgg20
  z20 := Try.sizeOf20
  v20 := Try.zeroValue20
  t37 := Try.underlying22
  a37 := Try.isAgg22
  z37 := Try.sizeOf22
  v37 := Try.zeroValue22
  t70 := Try.underlying60
  a70 := Try.isAgg60
  z70 := Try.sizeOf60
  v70 := Try.zeroValue60
  t72 := Try.underlying62
  a72 := Try.isAgg62
  z72 := Try.sizeOf62
  v72 := Try.zeroValue62
  t75 := Try.underlying64
  a75 := Try.isAgg64
  z75 := Try.sizeOf64
  v75 := Try.zeroValue64
  t164 := Try.underlying89
  a164 := Try.isAgg89
  z164 := Try.sizeOf89
  v164 := Try.zeroValue89 }
theorem bdLays168 : Go.Proofs.Lays.n168 Try.prog bdRen := {
  mixed := by kernel_rfl
  f168 := Try.func41.trans (congrArg some (by kernel_rfl))
  f240 := Try.func55.trans (congrArg some (by kernel_rfl))
  f242 := Try.func56.trans (congrArg some (by kernel_rfl))
  f276 := Try.func59.trans (congrArg some (by kernel_rfl))
  f278 := Try.func60.trans (congrArg some (by kernel_rfl))
  t0 := Try.underlying0
  a0 := Try.isAgg0
  z0 := Try.sizeOf0
  v0 := Try.zeroValue0
  t3 := Try.underlying3
  a3 := Try.isAgg3
  z3 := Try.sizeOf3
  v3 := Try.zeroValue3
  t4 := Try.underlying4
  a4 := Try.isAgg4
  z4 := Try.sizeOf4
  v4 := Try.zeroValue4
  t5 := Try.underlying5
  a5 := Try.isAgg5
  z5 := Try.sizeOf5
  v5 := Try.zeroValue5
  t9 := Try.underlying9
  a9 := Try.isAgg9
  z9 := Try.sizeOf9
  v9 := Try.zeroValue9
  t20 := Try.underlying20
  a20 := Try.isAgg20
  z20 := Try.sizeOf20
  v20 := Try.zeroValue20
  t21 := Try.underlying21
  a21 := Try.isAgg21
  z21 := Try.sizeOf21
  v21 := Try.zeroValue21
  t37 := Try.underlying22
  a37 := Try.isAgg22
  z37 := Try.sizeOf22
  v37 := Try.zeroValue22
  t46 := Try.underlying92
  a46 := Try.isAgg92
  z46 := Try.sizeOf92
  v46 := Try.zeroValue92
  t51 := Try.underlying91
  a51 := Try.isAgg91
  z51 := Try.sizeOf91
  v51 := Try.zeroValue91
  t70 := Try.underlying60
  a70 := Try.isAgg60
  z70 := Try.sizeOf60
  v70 := Try.zeroValue60
  t72 := Try.underlying62
  a72 := Try.isAgg62
  z72 := Try.sizeOf62
  v72 := Try.zeroValue62
  t75 := Try.underlying64
  a75 := Try.isAgg64
  z75 := Try.sizeOf64
  v75 := Try.zeroValue64
  t164 := Try.underlying89
  a164 := Try.isAgg89
  z164 := Try.sizeOf89
  v164 := Try.zeroValue89 }
theorem bdLays169 : Go.Proofs.Lays.n169 Try.prog bdRen := {
  mixed := by kernel_rfl
  f169 := Try.func42.trans (congrArg some (by kernel_rfl))
  t0 := Try.underlying0
  a0 := Try.isAgg0
  z0 := Try.sizeOf0
  v0 := Try.zeroValue0
  t3 := Try.underlying3
  a3 := Try.isAgg3
  z3 := Try.sizeOf3
  v3 := Try.zeroValue3
  t9 := Try.underlying9
  a9 := Try.isAgg9
  z9 := Try.sizeOf9
  v9 := Try.zeroValue9
  t37 := Try.underlying22
  a37 := Try.isAgg22
  z37 := Try.sizeOf22
  v37 := Try.zeroValue22
  t70 := Try.underlying60
  a70 := Try.isAgg60
  z70 := Try.sizeOf60
  v70 := Try.zeroValue60
  t72 := Try.underlying62
  a72 := Try.isAgg62
  z72 := Try.sizeOf62
  v72 := Try.zeroValue62
  t127 := Try.underlying84
  a127 := Try.isAgg84
  z127 := Try.sizeOf84
  v127 := Try.zeroValue84 }
theorem bdExtra : Builder.Extra Try.prog bdRen := {
  sizeBuilder := by kernel_rfl
  liesBuilder := by kernel_rfl
  t5 := Try.underlying5
  a5 := Try.isAgg5
  z5 := Try.sizeOf5
  v5 := Try.zeroValue5
  infoByte := by kernel_rfl
  cellsByte := by kernel_rfl
  sizeByte := by kernel_rfl
  neB5 := by decide }
theorem bdWS (B b : Nat) (bs : List UInt8) (s : ByteArray) (w : World) (h : Lib.IsBuilderF 62 5 B b (Lib.byteCells bs) w) (hlen : bs.length + s.size ≤ 140737488355328) (hBw : B ≤ w.heap.size) :
    Calls Try.prog 39 #[.pointer (some ⟨b, 0, none⟩), .string s] w fun e w' => e = .returned (.tuple #[.int .i64 s.size, .nilIface]) ∧ (Lib.IsBuilderF 62 5 B b (Lib.byteCells (bs ++ s.data.toList)) w' ∧ Below B w w' ∧ Lib.OthersKept 5 (some b) w w') := by
  refine (Any.Builder_WriteString_k bdLays166 bdExtra B b (Lib.byteCells bs) s w h (by rw [Lib.byteCells_length]; exact hlen) hBw).mono ?_
  rintro e w' ⟨rfl, h1, h2⟩
  refine ⟨rfl, .inr ?_, h2⟩
  rw [show Lib.byteCells (bs ++ s.data.toList) = Lib.byteCells bs ++ Lib.strCells s from by simp [Lib.byteCells, Lib.strCells]]
  exact h1
theorem bdWR (B b : Nat) (bs : List UInt8) (r : Int) (hr0 : 0 ≤ r) (hr1 : r ≤ 127) (w : World) (h : Lib.IsBuilderF 62 5 B b (Lib.byteCells bs) w) (hlen : bs.length + 4 ≤ 140737488355328) (hBw : B ≤ w.heap.size) :
    Calls Try.prog 41 #[.pointer (some ⟨b, 0, none⟩), .int .i32 r] w fun e w' => e = .returned (.tuple #[.int .i64 (Lib.runeCells r).length, .nilIface]) ∧ (Lib.IsBuilderF 62 5 B b (Lib.byteCells (bs ++ [r.toNat.toUInt8])) w' ∧ Below B w w' ∧ Lib.OthersKept 5 (some b) w w') := by
  refine (Any.Builder_WriteRune_k bdLays168 bdExtra B b (Lib.byteCells bs) r (by omega) (by omega) w h (by rw [Lib.byteCells_length]; exact hlen) hBw).mono ?_
  rintro e w' ⟨rfl, h1, h2⟩
  refine ⟨rfl, .inr ?_, h2⟩
  rw [show Lib.byteCells (bs ++ [r.toNat.toUInt8]) = Lib.byteCells bs ++ Lib.runeCells r from by
    rw [← Lib.byteCells_encodeRune, Lib.encodeRune, Lib.encodeRuneZ_one hr0 hr1]; simp [Lib.byteCells]]
  exact h1
theorem bdSt (B b : Nat) (l : List UInt8) (w : World) (h : Lib.IsBuilderF 62 5 B b (Lib.byteCells l) w) (hBw : B ≤ w.heap.size) :
    Calls Try.prog 42 #[.pointer (some ⟨b, 0, none⟩)] w fun e w' => e = .returned (.string ⟨l.toArray⟩) ∧ Below B w w' := by
  refine (Any.Builder_String_any_f bdLays169 bdExtra B b l w h hBw).mono ?_
  rintro e w' ⟨rfl, _, h2⟩
  exact ⟨rfl, h2⟩
theorem keepB {T e : TypeId} {B b : Nat} {bs : List Value} {w w' : World} (h : Lib.IsBuilderF T e B b bs w) (hb : Below w.heap.size w w') : Lib.IsBuilderF T e B b bs w' := by
  have one : ∀ p, Lib.BuilderAtF T e B b p bs w → Lib.BuilderAtF T e B b p bs w' := by
    rintro p ⟨hB, v, hbk, hown, hne⟩
    have lt : ∀ {k : Nat} {o : Obj}, w.heap[k]? = some o → k < w.heap.size := fun h => (Array.getElem?_eq_some_iff.1 h).1
    refine ⟨hB, v, (hb.block b (lt hbk)).trans hbk, ⟨hown.1, ?_⟩, hne⟩
    rcases hown.2 with hn | ⟨g, cap, cur, fz, hv, hbg, hg, rest⟩
    · exact .inl hn
    · exact .inr ⟨g, cap, cur, fz, hv, hbg, (hb.block g (lt hg)).trans hg, rest⟩
  exact h.elim (fun x => .inl (one _ x)) (fun x => .inr (one _ x))
theorem keepI {w w' : World} {k : Nat} {s : ByteArray} {pos : Nat} (h : w.heap[k]? = some (.stringIter s pos)) (hb : Below w.heap.size w w') : w'.heap[k]? = some (.stringIter s pos) :=
  (hb.block k (Array.getElem?_eq_some_iff.1 h).1).trans h
theorem upB {w a b : World} (h : Below w.heap.size w a) (k : Below a.heap.size a b) : Below w.heap.size w b :=
  h.trans ⟨k.os, k.tape, k.output, k.size, fun i hi => k.block i (Nat.lt_of_lt_of_le hi h.size)⟩
theorem dec_pos (s : ByteArray) (p : Nat) : 1 ≤ (Utf8.decode s p).2 := by
  unfold Utf8.decode
  dsimp only
  repeat' (first | (show 1 ≤ 1; omega) | (show 1 ≤ 2; omega) | (show 1 ≤ 3; omega) | (show 1 ≤ 4; omega) | split)
set_option maxHeartbeats 6400000 in
set_option maxRecDepth 100000 in
theorem show_walk {le : List UInt8 × Int → Option Int} {di : Int × Int → Option (List UInt8)} (hle : bLe Try.prog 38 le) (hdi : bDi Try.prog 40 di) (N : Nat) (s : ByteArray) (r : List UInt8) (hr : loopN N (showS le di s.data.toList) (0, []) = some r) (w : World) :
    Calls Try.prog 18 #[.string s] w fun e w' => (∃ b : ByteArray, e = .returned (.string b) ∧ b.data.toList = r) ∧ Below w.heap.size w w' := by
  have hLn : s.data.toList.length = s.size := (Lib.size_eq s).symm
  have hI0 : Lib.IsBuilderF 62 5 w.heap.size w.heap.size (Lib.byteCells []) ((w.alloc (.cells #[.pointer none, .slice none 0 0] 62)).iter s 0) := Lib.IsBuilderF.alloc (Lib.IsBuilderF.of (Lib.fresh_isBuilder 62 5 w)) _
  have hk0 : ((w.alloc (.cells #[.pointer none, .slice none 0 0] 62)).iter s 0).heap[w.heap.size + 1]? = some (.stringIter s 0) := by
    have h5 := World.iter_heap (w.alloc (.cells #[.pointer none, .slice none 0 0] 62)) s 0
    simpa using h5
  have hb0 : Below w.heap.size w ((w.alloc (.cells #[.pointer none, .slice none 0 0] 62)).iter s 0) := ((Below.refl _ w).alloc (Nat.le_refl _) _).alloc (by simp) _
  go_enter Try.func18, Try.ntmps18
  go_wp2
  go_loopw [4, 5, 6] (fun _ _ _ wr => ∃ (pos M : Nat) (acc : List UInt8), wr.heap[w.heap.size + 1]? = some (.stringIter s pos) ∧ Lib.IsBuilderF 62 5 w.heap.size w.heap.size (Lib.byteCells acc) wr ∧ Below w.heap.size w wr ∧ acc.length ≤ 70368744177664 ∧ loopN M (showS le di s.data.toList) (pos, acc) = some r)
    (fun _ _ _ wr => s.size - wr.iterPos (w.heap.size + 1))
  case atStart => exact ⟨0, N, [], hk0, hI0, hb0, by simp, hr⟩
  case round =>
    obtain ⟨pos, M, acc, hk, hI, hnx, hal, hlp⟩ := hrel
    clear hI0 hk0 hb0 hr
    by_cases hp : pos < s.size
    · have hnext : ∀ ty, (Instr.next (.pointer (some ⟨w.heap.size + 1, 0, none⟩)) true ty).run Try.prog wr = _ := fun ty => Lib.run_next_any_at wr (w.heap.size + 1) s pos ty hk hp
      obtain ⟨M', t, ht, htl, hlp'⟩ := show_round hlp (by rw [hLn]; exact hp)
      rw [show (⟨⟨s.data.toList⟩⟩ : ByteArray) = s from rfl] at ht hlp'
      obtain ⟨c, hc, hcs⟩ := showT_cases ht
      clear ht hlp
      have hI1 := hI.iterAt hk (pos + (Utf8.decode s pos).2)
      have hk1 := Lib.iterAt_heap wr (w.heap.size + 1) s pos (pos + (Utf8.decode s pos).2) hk
      have hnx1 : Below w.heap.size w (wr.iterAt (w.heap.size + 1) s (pos + (Utf8.decode s pos).2)) := Lib.below_iterAt hnx (by omega) s (pos + (Utf8.decode s pos).2)
      have hmu : wr.iterPos (w.heap.size + 1) = pos := by simp [World.iterPos, hk]
      generalize wr.iterAt (w.heap.size + 1) s (pos + (Utf8.decode s pos).2) = W1 at hnext hI1 hk1 hnx1
      obtain ⟨R, hR⟩ : ∃ R : Nat, (Utf8.decode s pos).1 = R := ⟨_, rfl⟩
      obtain ⟨K, hK⟩ : ∃ K : Nat, (Utf8.decode s pos).2 = K := ⟨_, rfl⟩
      rw [hR] at hnext hc hcs
      rw [hK] at hk1 hlp'
      have hce : le ((s.extract pos s.size).data.toList, (R : Int)) = some c := by
        rw [← hc, Lib.extract_to_end]
      have hsl : ∀ wx, (Instr.slice 9 (.string s) (some (.int .i64 (pos : Int))) none none).run Try.prog wx = .ok (.string (s.extract pos s.size)) wx := fun wx => by
        have := run_slice_string_l (P := Try.prog) (w := wx) (t := 9) (s := s) Try.underlying9 .i64 (pos : Int) (by omega) (by omega)
        simpa using this
      obtain ⟨B, hB⟩ : ∃ B : Int, ((s.data.toList.getD pos 0).toNat : Int) = B := ⟨_, rfl⟩
      rw [hB] at hcs
      have hw8 : wrap64 ((s[pos]'hp).toNat : Int) = B := by
        have hb8 := (s[pos]'hp).toNat_lt
        have e : s.data.toList.getD pos 0 = s[pos]'hp := by
          have hq : pos < s.data.toList.length := by omega
          rw [List.getD_eq_getElem?_getD, List.getElem?_eq_getElem hq]; rfl
        rw [e] at hB
        rw [← hB]
        generalize (s[pos]'hp).toNat = X at hb8
        unfold wrap64
        omega
      clear hB
      have hK1 : 1 ≤ K := by rw [← hK]; exact dec_pos s pos
      have fin : ∀ (b : ByteArray) (W4 : World), Lib.IsBuilderF 62 5 w.heap.size w.heap.size (Lib.byteCells (acc ++ b.data.toList)) W4 → b.data.toList = t → Below w.heap.size w W4 → W4.heap[w.heap.size + 1]? = some (.stringIter s (pos + K)) →
          (∃ (pos M : Nat) (acc : List UInt8), W4.heap[w.heap.size + 1]? = some (.stringIter s pos) ∧ Lib.IsBuilderF 62 5 w.heap.size w.heap.size (Lib.byteCells acc) W4 ∧ Below w.heap.size w W4 ∧ acc.length ≤ 70368744177664 ∧ loopN M (showS le di s.data.toList) (pos, acc) = some r) ∧ s.size - W4.iterPos (w.heap.size + 1) < s.size - wr.iterPos (w.heap.size + 1) := by
        intro b W4 h1 h2 h3 h4
        refine ⟨⟨pos + K, M', acc ++ t, h4, ?_, h3, htl, hlp'⟩, ?_⟩
        · rw [← h2]; exact h1
        · have : W4.iterPos (w.heap.size + 1) = pos + K := by simp [World.iterPos, h4]
          rw [hmu, this]; omega
      clear hlp'
      rcases hcs with ⟨rfl, u, hu, et⟩ | ⟨c1, c2, rfl, et⟩ | ⟨c1, c2, c3, c4, rfl, et⟩ | ⟨c1, c2, c3, c4, c5, u, hu, et⟩ | ⟨c1, c2, c3, c4, c5, u, hu, et⟩
      · have hul : acc.length + (2 + u.length) ≤ 70368744177664 := by rw [et] at htl; simp only [List.length_append, List.length_cons, List.length_nil] at htl; omega
        go_wp2_with (first
          | (go_at_call 38; refine (hle (s.extract pos s.size) R (-1) hce W1).mono ?_; rintro e W2 ⟨rfl, hb2⟩; have hI2 := keepB hI1 hb2; have hk2 := keepI hk1 hb2; have hn2 := upB hnx1 hb2)
          | (go_at_call 40; rw [hw8]; refine (hdi _ _ _ hu W2).mono ?_; rintro e W3 ⟨⟨b, rfl, hbu⟩, hb3⟩; have hI3 := keepB hI2 hb3; have hk3 := keepI hk2 hb3; have hn3 := upB hn2 hb3; have hbz : b.size = u.length := by rw [← hbu]; exact Lib.size_eq b)
          | (go_at_call 39; refine (bdWS w.heap.size w.heap.size acc _ W3 hI3 ?_ ?_).mono ?_; (· simp only [ByteArray.size_append, hbz]; show acc.length + (2 + u.length) ≤ _; omega); (· exact hn3.size); rintro e W4 ⟨rfl, hI4, hb4, hkp⟩; have hk4 := hkp.iter hk3 (by omega)))
        all_goals exact fin _ W4 hI4 (by rw [et, ← hbu]; simp) (hn3.trans hb4) hk4
      · rcases c2 with c2 | c2
        · obtain rfl : R = 34 := by omega
          have hz1 : (Utf8.encode 34).size = 1 := by decide
          have hz2 : (Utf8.encode 34).data.toList = [34] := by decide
          have hal2 : acc.length + 2 ≤ 70368744177664 := by rw [et] at htl; simp only [List.length_append, List.length_cons, List.length_nil] at htl; omega
          go_wp2_with (first
            | (go_at_call 38; refine (hle (s.extract pos s.size) 34 34 hce W1).mono ?_; rintro e W2 ⟨rfl, hb2⟩; have hI2 := keepB hI1 hb2; have hk2 := keepI hk1 hb2; have hn2 := upB hnx1 hb2)
            | (go_at_call 39; refine (bdWS w.heap.size w.heap.size acc _ W2 hI2 ?_ ?_).mono ?_; (· simp only [ByteArray.size_append, hz1]; show acc.length + (1 + 1) ≤ _; omega); (· exact hn2.size); rintro e W4 ⟨rfl, hI4, hb4, hkp⟩; have hk4 := hkp.iter hk2 (by omega)))
          all_goals exact fin _ W4 hI4 (by rw [et, ByteArray.data_append, Array.toList_append, hz2]; rfl) (hn2.trans hb4) hk4
        · obtain rfl : R = 92 := by omega
          have hz1 : (Utf8.encode 92).size = 1 := by decide
          have hz2 : (Utf8.encode 92).data.toList = [92] := by decide
          have hal2 : acc.length + 2 ≤ 70368744177664 := by rw [et] at htl; simp only [List.length_append, List.length_cons, List.length_nil] at htl; omega
          go_wp2_with (first
            | (go_at_call 38; refine (hle (s.extract pos s.size) 92 92 hce W1).mono ?_; rintro e W2 ⟨rfl, hb2⟩; have hI2 := keepB hI1 hb2; have hk2 := keepI hk1 hb2; have hn2 := upB hnx1 hb2)
            | (go_at_call 39; refine (bdWS w.heap.size w.heap.size acc _ W2 hI2 ?_ ?_).mono ?_; (· simp only [ByteArray.size_append, hz1]; show acc.length + (1 + 1) ≤ _; omega); (· exact hn2.size); rintro e W4 ⟨rfl, hI4, hb4, hkp⟩; have hk4 := hkp.iter hk2 (by omega)))
          all_goals exact fin _ W4 hI4 (by rw [et, ByteArray.data_append, Array.toList_append, hz2]; rfl) (hn2.trans hb4) hk4
      · have d2 : ((R : Int) == 34) = false := by simpa using c2
        have d3 : ((R : Int) == 92) = false := by simpa using c3
        have hal2 : acc.length + 1 ≤ 70368744177664 := by rw [et] at htl; simp only [List.length_append, List.length_cons, List.length_nil] at htl; omega
        go_wp2_with (first
          | (go_at_call 38; refine (hle (s.extract pos s.size) R R hce W1).mono ?_; rintro e W2 ⟨rfl, hb2⟩; have hI2 := keepB hI1 hb2; have hk2 := keepI hk1 hb2; have hn2 := upB hnx1 hb2)
          | (go_at_call 41; refine (bdWR w.heap.size w.heap.size acc R (by omega) (by omega) W2 hI2 (by omega) hn2.size).mono ?_; rintro e W4 ⟨rfl, hI4, hb4, hkp⟩; have hk4 := hkp.iter hk2 (by omega)))
        all_goals exact fin ⟨⟨t⟩⟩ W4 (by rw [et]; exact hI4) rfl (hn2.trans hb4) hk4
      · have d2 : (c == 34) = false := by simpa using c2
        have d3 : (c == 92) = false := by simpa using c3
        have hul : acc.length + (2 + u.length) ≤ 70368744177664 := by rw [et] at htl; simp only [List.length_append, List.length_cons, List.length_nil] at htl; omega
        go_wp2_with (first
          | (go_at_call 38; refine (hle (s.extract pos s.size) R c hce W1).mono ?_; rintro e W2 ⟨rfl, hb2⟩; have hI2 := keepB hI1 hb2; have hk2 := keepI hk1 hb2; have hn2 := upB hnx1 hb2)
          | (go_at_call 40; refine (hdi _ _ _ hu W2).mono ?_; rintro e W3 ⟨⟨b, rfl, hbu⟩, hb3⟩; have hI3 := keepB hI2 hb3; have hk3 := keepI hk2 hb3; have hn3 := upB hn2 hb3; have hbz : b.size = u.length := by rw [← hbu]; exact Lib.size_eq b)
          | (go_at_call 39; refine (bdWS w.heap.size w.heap.size acc _ W3 hI3 ?_ ?_).mono ?_; (· simp only [ByteArray.size_append, hbz]; show acc.length + (2 + u.length) ≤ _; omega); (· exact hn3.size); rintro e W4 ⟨rfl, hI4, hb4, hkp⟩; have hk4 := hkp.iter hk3 (by omega)))
        all_goals exact fin _ W4 hI4 (by rw [et, ← hbu]; simp) (hn3.trans hb4) hk4
      · have d2 : (c == 34) = false := by simpa using c2
        have d3 : (c == 92) = false := by simpa using c3
        have hul : acc.length + (2 + u.length) ≤ 70368744177664 := by rw [et] at htl; simp only [List.length_append, List.length_cons, List.length_nil] at htl; omega
        go_wp2_with (first
          | (go_at_call 38; refine (hle (s.extract pos s.size) R c hce W1).mono ?_; rintro e W2 ⟨rfl, hb2⟩; have hI2 := keepB hI1 hb2; have hk2 := keepI hk1 hb2; have hn2 := upB hnx1 hb2)
          | (go_at_call 40; refine (hdi _ _ _ hu W2).mono ?_; rintro e W3 ⟨⟨b, rfl, hbu⟩, hb3⟩; have hI3 := keepB hI2 hb3; have hk3 := keepI hk2 hb3; have hn3 := upB hn2 hb3; have hbz : b.size = u.length := by rw [← hbu]; exact Lib.size_eq b)
          | (go_at_call 39; refine (bdWS w.heap.size w.heap.size acc _ W3 hI3 ?_ ?_).mono ?_; (· simp only [ByteArray.size_append, hbz]; show acc.length + (2 + u.length) ≤ _; omega); (· exact hn3.size); rintro e W4 ⟨rfl, hI4, hb4, hkp⟩; have hk4 := hkp.iter hk3 (by omega)))
        all_goals exact fin _ W4 hI4 (by rw [et, ← hbu]; simp) (hn3.trans hb4) hk4
    · have hnext : ∀ ty, (Instr.next (.pointer (some ⟨w.heap.size + 1, 0, none⟩)) true ty).run Try.prog wr = _ := fun ty => Lib.run_next_end_at wr (w.heap.size + 1) s pos ty hk hp
      have hre := show_end hlp (by rw [hLn]; exact hp)
      go_wp2_with (go_at_call 42; refine (bdSt w.heap.size w.heap.size acc wr hI hnx.size).mono ?_; rintro e W2 ⟨rfl, hb2⟩)
      go_ret
      exact ⟨⟨_, rfl, hre.symm⟩, hnx.trans hb2⟩
end
noncomputable def u_text_Count : Uf := ⟨13, 11, Try.f13, [.val .str], [],
⟨[(2, .val (.int .i64))], []⟩, [],
[(3, .loop [] ⟨[(3, .val (.int .i64)), (5, .ptr 600005 0)], [(600005, .iter)]⟩ [(.exit 0, ⟨[(3, .val (.int .i64))], []⟩)])],
[], fun y => (valW (.int .i64) y, [], [])⟩
noncomputable def V_text_Count (N : Nat) (x : List UInt8) : Option (Int) :=
  obind (loopN N (fun (v : Int × List UInt8 × Int) => cnd (decide (Int.toNat v.2.2 < List.length v.2.1)) (some (Sum.inl (wr .i64 (v.1 + (1:Int)), v.2.1,
    (↑(Int.toNat v.2.2 + Prod.snd (Utf8.decode { data := { toList := v.2.1 } } (Int.toNat v.2.2))) : Int)))) (some (Sum.inr v.1))) ((0:Int), x,
    (↑(0:Nat) : Int))) fun (b : Int) => some b
theorem q_text_Count : ∀ N x, u_text_Count.F L0 P0 (orcOf []) N x = V_text_Count N x := by intros; kernel_rfl
noncomputable def W_text_Count (N : Nat) := V_text_Count N
theorem con_text_Count_ok (N : Nat) : (u_text_Count.con (W_text_Count N)).ok P0 := Uf.ok mixed (q_text_Count N) trivial Try.func13 (by kernel_rfl) fun x y => by kernel_rfl
noncomputable def u_internal_stringslite_HasPrefix : Uf := ⟨58, 18, Try.f58, [.val .str, .val .str], [],
⟨[(4, .val .bool)], []⟩, [],
[],
[], fun y => (valW .bool y, [], [])⟩
noncomputable def V_internal_stringslite_HasPrefix (N : Nat) (x : (List UInt8) × List UInt8) : Option (Bool) :=
  cnd (decide ((↑(List.length x.2) : Int) ≤ (↑(List.length x.1) : Int))) (cnd (decide ((0:Int) ≤ (↑(List.length x.2) : Int)) && decide ((↑(List.length x.2) : Int) ≤ (↑(List.length x.1) : Int))) (some (List.drop (0:Nat) (List.take (Int.toNat (↑(List.length x.2) : Int)) x.1) == x.2)) none) (some false)
theorem q_internal_stringslite_HasPrefix : ∀ N x, u_internal_stringslite_HasPrefix.F L0 P0 (orcOf []) N x = V_internal_stringslite_HasPrefix N x := by intros; kernel_rfl
noncomputable def W_internal_stringslite_HasPrefix (N : Nat) := V_internal_stringslite_HasPrefix N
theorem con_internal_stringslite_HasPrefix_ok (N : Nat) : (u_internal_stringslite_HasPrefix.con (W_internal_stringslite_HasPrefix N)).ok P0 := Uf.ok mixed (q_internal_stringslite_HasPrefix N) trivial Try.func58 (by kernel_rfl) fun x y => by kernel_rfl
noncomputable def u_strings_HasPrefix : Uf := ⟨54, 8, Try.f54, [.val .str, .val .str], [],
⟨[(4, .val .bool)], []⟩, [],
[],
[], fun y => (valW .bool y, [], [])⟩
noncomputable def V_strings_HasPrefix (w_internal_stringslite_HasPrefix : (List UInt8) × List UInt8 → Option (Bool)) (N : Nat) (x : (List UInt8) × List UInt8) : Option (Bool) :=
  obind (w_internal_stringslite_HasPrefix x) fun b => some b
theorem q_strings_HasPrefix : ∀ w_internal_stringslite_HasPrefix N x, u_strings_HasPrefix.F L0 P0 (orcOf [u_internal_stringslite_HasPrefix.con w_internal_stringslite_HasPrefix]) N x = V_strings_HasPrefix w_internal_stringslite_HasPrefix N x := by intros; kernel_rfl
noncomputable def W_strings_HasPrefix (N : Nat) := V_strings_HasPrefix (W_internal_stringslite_HasPrefix N) N
theorem con_strings_HasPrefix_ok (N : Nat) : (u_strings_HasPrefix.con (W_strings_HasPrefix N)).ok P0 := Uf.ok mixed (q_strings_HasPrefix (W_internal_stringslite_HasPrefix N) N) ⟨con_internal_stringslite_HasPrefix_ok N, trivial⟩ Try.func54 (by kernel_rfl) fun x y => by kernel_rfl
noncomputable def u_text_letter : Uf := ⟨38, 14, Try.f38, [.val .str, .val (.int .i32)], [],
⟨[(4, .val (.int .i64))], []⟩, [],
[],
[], fun y => (valW (.int .i64) y, [], [])⟩
noncomputable def V_text_letter (w_strings_HasPrefix : (List UInt8) × List UInt8 → Option (Bool)) (N : Nat) (x : (List UInt8) × Int) : Option (Int) :=
  cnd (decide (x.2 = (65533:Int))) (obind (w_strings_HasPrefix (x.1, [(239 : UInt8), (191 : UInt8), (189 : UInt8)])) fun b => cnd (!b) (some (-1 : Int)) (some (wr .i64 x.2))) (some (wr .i64 x.2))
theorem q_text_letter : ∀ w_strings_HasPrefix N x, u_text_letter.F L0 P0 (orcOf [u_strings_HasPrefix.con w_strings_HasPrefix]) N x = V_text_letter w_strings_HasPrefix N x := by intros; kernel_rfl
noncomputable def W_text_letter (N : Nat) := V_text_letter (W_strings_HasPrefix N) N
theorem con_text_letter_ok (N : Nat) : (u_text_letter.con (W_text_letter N)).ok P0 := Uf.ok mixed (q_text_letter (W_strings_HasPrefix N) N) ⟨con_strings_HasPrefix_ok N, trivial⟩ Try.func38 (by kernel_rfl) fun x y => by kernel_rfl
noncomputable def u_text_Letters : Uf := ⟨12, 21, Try.f12, [.val .str], [],
⟨[(2, .val (.list (.int .i64)))], []⟩, [],
[(3, .loop [] ⟨[(3, .acc 700003), (7, .ptr 600007 0)], [(700003, .nrow 3 (.int .i64) true true), (600007, .iter)]⟩ [(.exit 0, ⟨[(3, .val (.list (.int .i64)))], []⟩)])],
[], fun y => (valW (.list (.int .i64)) y, [], [])⟩
noncomputable def V_text_Letters (w_text_letter : (List UInt8) × Int → Option (Int)) (N : Nat) (x : List UInt8) : Option (List Int) :=
  obind (loopN N (fun (v : List Int × List UInt8 × Int) => cnd (decide (Int.toNat v.2.2 < List.length v.2.1)) (cnd (decide ((0:Int) ≤ (↑(Int.toNat
    v.2.2) : Int)) && decide ((↑(Int.toNat v.2.2) : Int) ≤ (↑(List.length x) : Int))) (obind (w_text_letter (List.drop (Int.toNat (↑(Int.toNat v.2.2)
    : Int)) (List.take (List.length x) x), (↑(Prod.fst (Utf8.decode { data := { toList := v.2.1 } } (Int.toNat v.2.2))) : Int))) fun b => cnd (decide
    ((List.length v.1 + List.length [b]) * (8:Nat) ≤ (140737488355328:Nat))) (some (Sum.inl (v.1 ++ [b], v.2.1, (↑(Int.toNat v.2.2 + Prod.snd
    (Utf8.decode { data := { toList := v.2.1 } } (Int.toNat v.2.2))) : Int)))) none) none) (some (Sum.inr v.1))) ([], x, (↑(0:Nat) : Int))) fun (b :
    List Int) => some b
theorem q_text_Letters : ∀ w_text_letter N x, u_text_Letters.F L0 P0 (orcOf [u_text_letter.con w_text_letter]) N x = V_text_Letters w_text_letter N x := by intros; kernel_rfl
noncomputable def W_text_Letters (N : Nat) := V_text_Letters (W_text_letter N) N
theorem con_text_Letters_ok (N : Nat) : (u_text_Letters.con (W_text_Letters N)).ok P0 := Uf.ok mixed (q_text_Letters (W_text_letter N) N) ⟨con_text_letter_ok N, trivial⟩ Try.func12 (by kernel_rfl) fun x y => by kernel_rfl
noncomputable def u_text_Cut : Uf := ⟨14, 24, Try.f14, [.val .str, .val (.int .i64)], [],
⟨[(4, .val .str)], []⟩, [],
[(5, .loop [] ⟨[(5, .val (.int .i64)), (13, .ptr 600013 0)], [(600013, .iter)]⟩ [(.exit 0, ⟨[(5, .val (.int .i64))], []⟩)])],
[], fun y => (valW .str y, [], [])⟩
noncomputable def V_text_Cut (N : Nat) (x : (List UInt8) × Int) : Option (List UInt8) :=
  cnd (decide ((↑(List.length x.1) : Int) ≤ x.2)) (some x.1) (obind (loopN N (fun (v : Int × List UInt8 × Int) => cnd (decide (Int.toNat v.2.2 <
    List.length v.2.1)) (cnd (decide (x.2 < (↑(Int.toNat v.2.2) : Int))) (some (Sum.inr v.1)) (some (Sum.inl ((↑(Int.toNat v.2.2) : Int), v.2.1,
    (↑(Int.toNat v.2.2 + Prod.snd (Utf8.decode { data := { toList := v.2.1 } } (Int.toNat v.2.2))) : Int))))) (some (Sum.inr v.1))) ((0:Int), x.1,
    (↑(0:Nat) : Int))) fun (b : Int) => cnd (decide ((0:Int) ≤ b) && decide (b ≤ (↑(List.length x.1) : Int))) (some (List.drop (0:Nat) (List.take
    (Int.toNat b) x.1))) none)
theorem q_text_Cut : ∀ N x, u_text_Cut.F L0 P0 (orcOf []) N x = V_text_Cut N x := by intros; kernel_rfl
noncomputable def W_text_Cut (N : Nat) := V_text_Cut N
theorem con_text_Cut_ok (N : Nat) : (u_text_Cut.con (W_text_Cut N)).ok P0 := Uf.ok mixed (q_text_Cut N) trivial Try.func14 (by kernel_rfl) fun x y => by kernel_rfl
noncomputable def u_text_Name : Uf := ⟨16, 36, Try.f16, [.val .str], [],
⟨[(2, .val .bool)], []⟩, [],
[(3, .loop [] ⟨[(3, .val (.int .i64)), (8, .ptr 600008 0)], [(600008, .iter)]⟩ [(.exit 0, ⟨[(3, .val (.int .i64))], []⟩), (.ret, ⟨[(2, .val .bool)], []⟩)])],
[], fun y => (valW .bool y, [], [])⟩
noncomputable def V_text_Name (w_text_letter : (List UInt8) × Int → Option (Int)) (N : Nat) (x : List UInt8) : Option (Bool) :=
  obind (loopN N (fun (v : Int × List UInt8 × Int) => cnd (decide (Int.toNat v.2.2 < List.length v.2.1)) (cnd (decide ((0:Int) ≤ (↑(Int.toNat v.2.2) :
    Int)) && decide ((↑(Int.toNat v.2.2) : Int) ≤ (↑(List.length x) : Int))) (obind (w_text_letter (List.drop (Int.toNat (↑(Int.toNat v.2.2) : Int))
    (List.take (List.length x) x), (↑(Prod.fst (Utf8.decode { data := { toList := v.2.1 } } (Int.toNat v.2.2))) : Int))) fun b => cnd (decide (b <
    (33:Int))) (some (Sum.inr (Sum.inr false))) (cnd (decide ((127:Int) ≤ b)) (cnd (decide (b ≤ (159:Int))) (some (Sum.inr (Sum.inr false))) (some
    (Sum.inl (wr .i64 (v.1 + (1:Int)), v.2.1, (↑(Int.toNat v.2.2 + Prod.snd (Utf8.decode { data := { toList := v.2.1 } } (Int.toNat v.2.2))) : Int)))))
    (some (Sum.inl (wr .i64 (v.1 + (1:Int)), v.2.1, (↑(Int.toNat v.2.2 + Prod.snd (Utf8.decode { data := { toList := v.2.1 } } (Int.toNat v.2.2))) :
    Int)))))) none) (some (Sum.inr (Sum.inl v.1)))) ((0:Int), x, (↑(0:Nat) : Int))) fun (b : Int ⊕ Bool) => selim (fun (b : Int) => cnd (decide ((1:Int)
    ≤ b)) (some (decide (b ≤ (8:Int)))) (some false)) (fun (c : Bool) => some c) b
theorem q_text_Name : ∀ w_text_letter N x, u_text_Name.F L0 P0 (orcOf [u_text_letter.con w_text_letter]) N x = V_text_Name w_text_letter N x := by intros; kernel_rfl
noncomputable def W_text_Name (N : Nat) := V_text_Name (W_text_letter N) N
theorem con_text_Name_ok (N : Nat) : (u_text_Name.con (W_text_Name N)).ok P0 := Uf.ok mixed (q_text_Name (W_text_letter N) N) ⟨con_text_letter_ok N, trivial⟩ Try.func16 (by kernel_rfl) fun x y => by kernel_rfl
noncomputable def u_text_digits : Uf := ⟨40, 21, Try.f40, [.val (.int .i64), .val (.int .i64)], [],
⟨[(4, .val .str)], []⟩, [],
[(3, .loop [] ⟨[(0, .val (.int .i64)), (5, .val .str), (7, .val (.int .i64))], []⟩ [(.exit 0, ⟨[(5, .val .str)], []⟩)])],
[], fun y => (valW .str y, [], [])⟩
noncomputable def V_text_digits (N : Nat) (x : Int × Int) : Option (List UInt8) :=
  obind (loopN N (fun (v : Int × List UInt8 × Int) => cnd (decide (v.2.2 < x.2)) (cnd (decide ((0:Int) ≤ Int.tmod v.1 (16:Int)) && decide (Int.tmod v.1
    (16:Int) ≤ wr .i64 (Int.tmod v.1 (16:Int) + (1:Int))) && decide (wr .i64 (Int.tmod v.1 (16:Int) + (1:Int)) ≤ (↑(16:Nat) : Int))) (cnd (decide
    (List.length (List.drop (Int.toNat (Int.tmod v.1 (16:Int))) (List.take (Int.toNat (wr .i64 (Int.tmod v.1 (16:Int) + (1:Int)))) [(48 : UInt8), (49 :
    UInt8), (50 : UInt8), (51 : UInt8), (52 : UInt8), (53 : UInt8), (54 : UInt8), (55 : UInt8), (56 : UInt8), (57 : UInt8), (97 : UInt8), (98 : UInt8),
    (99 : UInt8), (100 : UInt8), (101 : UInt8), (102 : UInt8)])) + List.length v.2.1 ≤ (9223372036854775807:Nat))) (some (Sum.inl (wr .i64 (Int.tdiv v.1
    (16:Int)), List.drop (Int.toNat (Int.tmod v.1 (16:Int))) (List.take (Int.toNat (wr .i64 (Int.tmod v.1 (16:Int) + (1:Int)))) [(48 : UInt8), (49 :
    UInt8), (50 : UInt8), (51 : UInt8), (52 : UInt8), (53 : UInt8), (54 : UInt8), (55 : UInt8), (56 : UInt8), (57 : UInt8), (97 : UInt8), (98 : UInt8),
    (99 : UInt8), (100 : UInt8), (101 : UInt8), (102 : UInt8)]) ++ v.2.1, wr .i64 (v.2.2 + (1:Int))))) none) none) (some (Sum.inr v.2.1))) (x.1, [],
    (0:Int))) fun (b : List UInt8) => some b
theorem q_text_digits : ∀ N x, u_text_digits.F L0 P0 (orcOf []) N x = V_text_digits N x := by intros; kernel_rfl
noncomputable def W_text_digits (N : Nat) := V_text_digits N
theorem con_text_digits_ok (N : Nat) : (u_text_digits.con (W_text_digits N)).ok P0 := Uf.ok mixed (q_text_digits N) trivial Try.func40 (by kernel_rfl) fun x y => by kernel_rfl
def as_text_Show : List AS := [.val .str]
def bs_text_Show : List BS := []
def out_text_Show (y : List UInt8) : V × List OK × List OK := (.str y, [], [])
noncomputable def W_text_Show (N : Nat) (x : List UInt8) : Option (List UInt8) :=
  loopN N (showS (W_text_letter N) (W_text_digits N) x) ((0:Nat), ([] : List UInt8))
noncomputable def conw_text_Show (w : List UInt8 → Option (List UInt8)) : Con := ⟨18, as_text_Show, bs_text_Show, List UInt8, w, out_text_Show⟩
noncomputable def con_text_Show (N : Nat) : Con := conw_text_Show (W_text_Show N)
theorem con_text_Show_ok (N : Nat) : Con.ok P0 (con_text_Show N) := ⟨⟨Try.f18, Try.func18, by kernel_rfl, by kernel_rfl⟩, fun (x : List UInt8) (r : List UInt8) (hr : W_text_Show N x = some r) => show_spec (show_walk (bLe_of fun x r h => (con_text_letter_ok N).2 x r h) (bDi_of fun x r h => (con_text_digits_ok N).2 x r h) N) hr⟩
noncomputable def u_law1_begun : Uf := ⟨9, 23, Try.f9, [], [],
⟨[(0, .val .bool)], []⟩, [],
[],
[(1000001, .reg [(7, [], ⟨[(7, .val .bool)], []⟩), (4, [], ⟨[(11, .val .bool)], []⟩), (3, [], ⟨[(14, .val .bool)], []⟩), (4, [], ⟨[(18, .val .bool)], []⟩)])], fun y => (valW .bool y, [], [])⟩
noncomputable def V_law1_begun (w_text_Count : List UInt8 → Option (Int)) (w_text_Letters : List UInt8 → Option (List Int)) (w_text_Cut : (List UInt8) × Int → Option (List UInt8)) (w_text_Name : List UInt8 → Option (Bool)) (w_text_Show : List UInt8 → Option (List UInt8)) (N : Nat) (x : Unit) : Option (Bool) :=
  obind (obind (w_text_Count [(110 : UInt8), (195 : UInt8), (169 : UInt8)]) fun b => cnd (decide (b = (2:Int))) (obind (w_text_Letters [(110 :
    UInt8), (195 : UInt8), (169 : UInt8)]) fun b => some (decide ((↑(List.length b) : Int) = (2:Int)))) (some false)) fun (b : Bool) => obind (cnd b
    (obind (w_text_Cut ([(110 : UInt8), (195 : UInt8), (169 : UInt8)], (2:Int))) fun b => some (b == [(110 : UInt8)])) (some false)) fun (b : Bool) =>
    obind (cnd b (obind (w_text_Name [(110 : UInt8), (195 : UInt8), (169 : UInt8)]) fun b => some b) (some false)) fun (b : Bool) => obind (cnd b
    (obind (w_text_Name []) fun b => some !b) (some false)) fun (b : Bool) => cnd b (obind (w_text_Show [(195 : UInt8), (169 : UInt8)]) fun b =>
    some (b == [(92 : UInt8), (117 : UInt8), (48 : UInt8), (48 : UInt8), (101 : UInt8), (57 : UInt8)])) (some false)
theorem q_law1_begun : ∀ w_text_Count w_text_Letters w_text_Cut w_text_Name w_text_Show N x, u_law1_begun.F L0 P0 (orcOf [u_text_Count.con w_text_Count, u_text_Letters.con w_text_Letters, u_text_Cut.con w_text_Cut, u_text_Name.con w_text_Name, conw_text_Show w_text_Show]) N x = V_law1_begun w_text_Count w_text_Letters w_text_Cut w_text_Name w_text_Show N x := by intros; kernel_rfl
noncomputable def W_law1_begun (N : Nat) := V_law1_begun (W_text_Count N) (W_text_Letters N) (W_text_Cut N) (W_text_Name N) (W_text_Show N) N
theorem con_law1_begun_ok (N : Nat) : (u_law1_begun.con (W_law1_begun N)).ok P0 := Uf.ok mixed (q_law1_begun (W_text_Count N) (W_text_Letters N) (W_text_Cut N) (W_text_Name N) (W_text_Show N) N) ⟨con_text_Count_ok N, con_text_Letters_ok N, con_text_Cut_ok N, con_text_Name_ok N, con_text_Show_ok N, trivial⟩ Try.func9 (by kernel_rfl) fun x y => by kernel_rfl
noncomputable def u_ref1_SameInts : Uf := ⟨11, 26, Try.f11, [.val (.list (.int .i64)), .val (.list (.int .i64))], [],
⟨[(4, .val .bool)], []⟩, [],
[(4, .loop [] ⟨[(5, .val (.int .i64))], []⟩ [(.exit 0, ⟨[], []⟩), (.ret, ⟨[(4, .val .bool)], []⟩)])],
[], fun y => (valW .bool y, [], [])⟩
noncomputable def V_ref1_SameInts (N : Nat) (x : (List Int) × List Int) : Option (Bool) :=
  cnd (decide ((↑(List.length x.1) : Int) ≠ (↑(List.length x.2) : Int))) (some false) (obind (loopN N (fun (v : Int) => cnd (decide (v < (↑(List.length
    x.1) : Int))) (cnd (decide ((0:Int) ≤ v) && decide (v < (↑(List.length x.1) : Int))) (cnd (decide ((0:Int) ≤ v) && decide (v < (↑(List.length x.2) :
    Int))) (cnd (decide (List.getD x.1 (Int.toNat v) (0:Int) ≠ List.getD x.2 (Int.toNat v) (0:Int))) (some (Sum.inr (Sum.inr false))) (some (Sum.inl (wr
    .i64 (v + (1:Int)))))) none) none) (some (Sum.inr (Sum.inl ())))) (Int.ofNat (0:Nat))) fun (b : PUnit ⊕ Bool) => selim (fun (b : PUnit) => some
    true) (fun (c : Bool) => some c) b)
theorem q_ref1_SameInts : ∀ N x, u_ref1_SameInts.F L0 P0 (orcOf []) N x = V_ref1_SameInts N x := by intros; kernel_rfl
noncomputable def W_ref1_SameInts (N : Nat) := V_ref1_SameInts N
theorem con_ref1_SameInts_ok (N : Nat) : (u_ref1_SameInts.con (W_ref1_SameInts N)).ok P0 := Uf.ok mixed (q_ref1_SameInts N) trivial Try.func11 (by kernel_rfl) fun x y => by kernel_rfl
noncomputable def u_law1_TextJoins : Uf := ⟨5, 70, Try.f5, [.val .str, .val .str], [],
⟨[(4, .val .bool)], []⟩, [],
[],
[(1000008, .reg [(15, [], ⟨[(48, .val .bool)], []⟩), (10, [], ⟨[(58, .val .bool)], []⟩)]),
(8, .cut [5, 6, 7] [(.normal, ⟨[(8, .val .str)], []⟩)]),
(7, .cut [5, 6] [(.normal, ⟨[(7, .val (.list (.int .i64)))], []⟩)]),
(6, .cut [] [(.normal, ⟨[(5, .val (.list (.int .i64))), (6, .val (.list (.int .i64)))], []⟩)])], fun y => (valW .bool y, [], [])⟩
noncomputable def V_law1_TextJoins (w_law1_begun : Unit → Option (Bool)) (w_text_Letters : List UInt8 → Option (List Int)) (w_ref1_SameInts : (List Int) × List Int → Option (Bool)) (w_text_Count : List UInt8 → Option (Int)) (w_text_Cut : (List UInt8) × Int → Option (List UInt8)) (w_text_Show : List UInt8 → Option (List UInt8)) (N : Nat) (x : (List UInt8) × List UInt8) : Option (Bool) :=
  obind (w_law1_begun ()) fun b => cnd (!b) (some false) (cnd (decide ((40:Int) < (↑(List.length x.1) : Int))) (some true) (cnd (decide ((40:Int) <
    (↑(List.length x.2) : Int))) (some true) (obind (obind (w_text_Letters x.1) fun b => obind (w_text_Letters x.2) fun b_1 => some (b, b_1)) fun (b
    : List Int × List Int) => obind (cnd (decide (List.length b.1 * (8:Nat) ≤ (140737488355328:Nat))) (cnd (decide ((List.length b.1 + List.length
    [(124:Int)]) * (8:Nat) ≤ (140737488355328:Nat))) (cnd (decide ((List.length (b.1 ++ [(124:Int)]) + List.length b.2) * (8:Nat) ≤
    (140737488355328:Nat))) (some (b.1 ++ [(124:Int)] ++ b.2)) none) none) none) fun (b_1 : List Int) => obind (cnd (decide (List.length x.1 + (1:Nat) ≤
    (9223372036854775807:Nat))) (cnd (decide (List.length (x.1 ++ [(124 : UInt8)]) + List.length x.2 ≤ (9223372036854775807:Nat))) (some (x.1 ++ [(124 :
    UInt8)] ++ x.2)) none) none) fun (b_2 : List UInt8) => obind (obind (w_text_Letters b_2) fun b_3 => obind (w_ref1_SameInts (b_3, b_1)) fun b_4
    => cnd b_4 (obind (w_text_Count b_2) fun b_5 => some (decide (b_5 = wr .i64 (wr .i64 ((↑(List.length b.1) : Int) + (1:Int)) + (↑(List.length b.2)
    : Int))))) (some false)) fun (b : Bool) => obind (cnd b (obind (w_text_Cut (b_2, castX (e := .int .i64) (e' := .int .i64) rfl (wr .i64
    ((↑(List.length x.1) : Int) + (1:Int))))) fun b => cnd (decide (List.length x.1 + (1:Nat) ≤ (9223372036854775807:Nat))) (some (b == x.1 ++ [(124 :
    UInt8)])) none) (some false)) fun (b : Bool) => cnd b (obind (w_text_Show b_2) fun b => obind (w_text_Show x.1) fun b_3 => cnd (decide
    (List.length b_3 + (1:Nat) ≤ (9223372036854775807:Nat))) (obind (w_text_Show x.2) fun b_4 => cnd (decide (List.length (b_3 ++ [(124 : UInt8)]) +
    List.length b_4 ≤ (9223372036854775807:Nat))) (some (b == b_3 ++ [(124 : UInt8)] ++ b_4)) none) none) (some false))))
theorem q_law1_TextJoins : ∀ w_law1_begun w_text_Letters w_ref1_SameInts w_text_Count w_text_Cut w_text_Show N x, u_law1_TextJoins.F L0 P0 (orcOf [u_law1_begun.con w_law1_begun, u_text_Letters.con w_text_Letters, u_ref1_SameInts.con w_ref1_SameInts, u_text_Count.con w_text_Count, u_text_Cut.con w_text_Cut, conw_text_Show w_text_Show]) N x = V_law1_TextJoins w_law1_begun w_text_Letters w_ref1_SameInts w_text_Count w_text_Cut w_text_Show N x := by intros; kernel_rfl
noncomputable def W_law1_TextJoins (N : Nat) := V_law1_TextJoins (W_law1_begun N) (W_text_Letters N) (W_ref1_SameInts N) (W_text_Count N) (W_text_Cut N) (W_text_Show N) N
theorem con_law1_TextJoins_ok (N : Nat) : (u_law1_TextJoins.con (W_law1_TextJoins N)).ok P0 := Uf.ok mixed (q_law1_TextJoins (W_law1_begun N) (W_text_Letters N) (W_ref1_SameInts N) (W_text_Count N) (W_text_Cut N) (W_text_Show N) N) ⟨con_law1_begun_ok N, con_text_Letters_ok N, con_ref1_SameInts_ok N, con_text_Count_ok N, con_text_Cut_ok N, con_text_Show_ok N, trivial⟩ Try.func5 (by kernel_rfl) fun x y => by kernel_rfl
/-! What is reckoned. -/
-- PURE
theorem wr_m {z : Int} (h : -140737488355328 ≤ z) (h2 : z ≤ 140737488355328) : wr .i64 z = z := wr_i64 (by omega) (by omega)
theorem cnd_T {α : Type} {p : Prop} {i : Decidable p} {x y : α} (h : p) : cnd (@decide p i) x y = x := by rw [decide_eq_true h]; rfl
theorem cnd_F {α : Type} {p : Prop} {i : Decidable p} {x y : α} (h : ¬ p) : cnd (@decide p i) x y = y := by rw [decide_eq_false h]; rfl
theorem loopG {σ ρ : Type} {f : σ → Option (σ ⊕ ρ)} (I : Nat → σ → Prop) (B : Nat) (J : ρ → Prop) (hb : ∀ k x, I k x → k ≤ B) (hs : ∀ k x, I k x → (∃ y, f x = some (.inl y) ∧ I (k + 1) y) ∨ ∃ r, f x = some (.inr r) ∧ J r) :
    ∀ (M k : Nat) (x : σ), I k x → B < M + k → ∃ r, loopN M f x = some r ∧ J r
  | 0, k, x, h, hm => by have := hb k x h; omega
  | M + 1, k, x, h, hm => by
    rcases hs k x h with ⟨y, h1, h2⟩ | ⟨r, h1, h2⟩
    · obtain ⟨r, h4, h5⟩ := loopG I B J hb hs M (k + 1) y h2 (by omega)
      exact ⟨r, by simp only [loopN, h1]; exact h4, h5⟩
    · exact ⟨r, by simp only [loopN, h1], h2⟩
theorem loop_G {σ ρ β : Type} {f : σ → Option (σ ⊕ ρ)} {g : ρ → Option β} {x : σ} {N : Nat} (Q : Option β → Prop) (I : Nat → σ → Prop) (B : Nat) (J : ρ → Prop) (hx : I 0 x) (hm : B < N) (hk : ∀ r, J r → Q (g r)) (hb : ∀ k x, I k x → k ≤ B)
    (hs : ∀ k x, I k x → (∃ y, f x = some (.inl y) ∧ I (k + 1) y) ∨ ∃ r, f x = some (.inr r) ∧ J r) : Q (obind (loopN N f x) g) := by
  obtain ⟨r, h1, h2⟩ := loopG I B J hb hs N 0 x hx (by omega)
  rw [h1]; exact hk r h2
def atL (l : List UInt8) (k : Nat) : Nat := (l.getD k 0).toNat
def ctL (l : List UInt8) (k : Nat) : Bool := decide (k < l.length) && atL l k / 64 == 2
def dkN (b0 a1 a2 a3 : Nat) (c1 c2 c3 : Bool) : Nat × Nat :=
  if b0 < 0x80 then (b0, 1)
  else if b0 / 32 == 6 && c1 then
    if (b0 % 32) * 64 + a1 % 64 ≥ 0x80 then ((b0 % 32) * 64 + a1 % 64, 2) else (65533, 1)
  else if b0 / 16 == 14 && c1 && c2 then
    if (b0 % 16) * 4096 + (a1 % 64) * 64 + a2 % 64 ≥ 0x800 && Utf8.valid ((b0 % 16) * 4096 + (a1 % 64) * 64 + a2 % 64 : Nat) then ((b0 % 16) * 4096 + (a1 % 64) * 64 + a2 % 64, 3) else (65533, 1)
  else if b0 / 8 == 30 && c1 && c2 && c3 then
    if (b0 % 8) * 262144 + (a1 % 64) * 4096 + (a2 % 64) * 64 + a3 % 64 ≥ 0x10000 && Utf8.valid ((b0 % 8) * 262144 + (a1 % 64) * 4096 + (a2 % 64) * 64 + a3 % 64 : Nat) then ((b0 % 8) * 262144 + (a1 % 64) * 4096 + (a2 % 64) * 64 + a3 % 64, 4) else (65533, 1)
  else (65533, 1)
def dk (l : List UInt8) : Nat × Nat := dkN (atL l 0) (atL l 1) (atL l 2) (atL l 3) (ctL l 1) (ctL l 2) (ctL l 3)
theorem get_eq (s : List UInt8) (j : Nat) : (ByteArray.get! ⟨⟨s⟩⟩ j) = s.getD j 0 := by
  show (Array.mk s)[j]! = _
  rw [List.getD_eq_getElem?_getD, getElem!_def]
  simp
  cases s[j]? <;> rfl
theorem at_drop (s : List UInt8) (i k : Nat) : atL (s.drop i) k = (s.getD (i + k) 0).toNat := by
  unfold atL
  rw [List.getD_eq_getElem?_getD, List.getD_eq_getElem?_getD, List.getElem?_drop]
theorem decode_eq (s : List UInt8) (i : Nat) : Utf8.decode ⟨⟨s⟩⟩ i = dk (s.drop i) := by
  have hs : (ByteArray.mk ⟨s⟩).size = s.length := rfl
  have hc : ∀ k, ctL (s.drop i) k = (decide (i + k < s.length) && (s.getD (i + k) 0).toNat / 64 == 2) := by
    intro k
    unfold ctL
    rw [at_drop]
    congr 1
    rw [List.length_drop]
    exact decide_eq_decide.2 (by omega)
  unfold Utf8.decode dk dkN
  simp only [hc, at_drop, get_eq, hs, Utf8.runeError]
theorem dkN_w (b0 a1 a2 a3 : Nat) (c1 c2 c3 : Bool) : 1 ≤ (dkN b0 a1 a2 a3 c1 c2 c3).2 ∧ (dkN b0 a1 a2 a3 c1 c2 c3).2 ≤ 4 := by
  unfold dkN
  repeat' split
  all_goals simp
theorem dk_w (l : List UInt8) : 1 ≤ (dk l).2 ∧ (dk l).2 ≤ 4 := dkN_w _ _ _ _ _ _ _
theorem ct_lt {l : List UInt8} {k : Nat} (h : ctL l k = true) : k < l.length := by
  unfold ctL at h
  simp at h
  exact h.1
theorem dk_len (l : List UInt8) (h : l ≠ []) : (dk l).2 ≤ l.length := by
  have h1 : 1 ≤ l.length := by cases l with | nil => exact (h rfl).elim | cons => simp
  unfold dk dkN
  split
  · exact h1
  split
  · rename_i g
    simp at g
    have := ct_lt g.2
    split
    · exact this
    · exact h1
  split
  · rename_i g
    simp at g
    have := ct_lt g.2
    split
    · exact this
    · exact h1
  split
  · rename_i g
    simp at g
    have := ct_lt g.2
    split
    · exact this
    · exact h1
  · exact h1
theorem at_take (l : List UInt8) (n k : Nat) : atL (l.take n) k = if k < n then atL l k else 0 := by
  unfold atL
  rw [List.getD_eq_getElem?_getD, List.getD_eq_getElem?_getD, List.getElem?_take]
  split <;> rfl
theorem ct_take (l : List UInt8) (n k : Nat) : ctL (l.take n) k = (decide (k < n) && ctL l k) := by
  unfold ctL
  rw [at_take, List.length_take]
  by_cases h : k < n
  · rw [if_pos h, decide_eq_true h, Bool.true_and]
    congr 1
    exact decide_eq_decide.2 (by omega)
  · rw [if_neg h, decide_eq_false h, Bool.false_and]
    have : decide (k < min n l.length) = false := decide_eq_false (by omega)
    rw [this, Bool.false_and]
theorem dkN1 (b0 a1 a2 a3 : Nat) (c1 c2 c3 : Bool) (h : (dkN b0 a1 a2 a3 c1 c2 c3).2 ≤ 1) : dkN b0 0 0 0 false false false = dkN b0 a1 a2 a3 c1 c2 c3 := by
  unfold dkN at h ⊢
  simp only [Bool.and_false, Bool.false_eq_true, if_false]
  split
  · rfl
  rename_i g
  rw [if_neg g] at h
  split
  · rename_i g1
    rw [if_pos g1] at h
    split
    · rename_i g2; rw [if_pos g2] at h; exact absurd h (by simp)
    · rfl
  rename_i g1
  rw [if_neg g1] at h
  split
  · rename_i g2
    rw [if_pos g2] at h
    split
    · rename_i g3; rw [if_pos g3] at h; exact absurd h (by simp)
    · rfl
  rename_i g2
  rw [if_neg g2] at h
  split
  · rename_i g3
    rw [if_pos g3] at h
    split
    · rename_i g4; rw [if_pos g4] at h; exact absurd h (by simp)
    · rfl
  · rfl
theorem dkN2 (b0 a1 a2 a3 : Nat) (c1 c2 c3 : Bool) (h : (dkN b0 a1 a2 a3 c1 c2 c3).2 ≤ 2) : dkN b0 a1 0 0 c1 false false = dkN b0 a1 a2 a3 c1 c2 c3 := by
  unfold dkN at h ⊢
  simp only [Bool.and_false, Bool.false_eq_true, if_false]
  split
  · rfl
  rename_i g
  rw [if_neg g] at h
  split
  · rfl
  rename_i g1
  rw [if_neg g1] at h
  split
  · rename_i g2
    rw [if_pos g2] at h
    split
    · rename_i g3; rw [if_pos g3] at h; exact absurd h (by simp)
    · rfl
  rename_i g2
  rw [if_neg g2] at h
  split
  · rename_i g3
    rw [if_pos g3] at h
    split
    · rename_i g4; rw [if_pos g4] at h; exact absurd h (by simp)
    · rfl
  · rfl
theorem dkN3 (b0 a1 a2 a3 : Nat) (c1 c2 c3 : Bool) (h : (dkN b0 a1 a2 a3 c1 c2 c3).2 ≤ 3) : dkN b0 a1 a2 0 c1 c2 false = dkN b0 a1 a2 a3 c1 c2 c3 := by
  unfold dkN at h ⊢
  simp only [Bool.and_false, Bool.false_eq_true, if_false]
  split
  · rfl
  rename_i g
  rw [if_neg g] at h
  split
  · rfl
  rename_i g1
  rw [if_neg g1] at h
  split
  · rfl
  rename_i g2
  rw [if_neg g2] at h
  split
  · rename_i g3
    rw [if_pos g3] at h
    split
    · rename_i g4; rw [if_pos g4] at h; exact absurd h (by simp)
    · rfl
  · rfl
theorem dk_take (l : List UInt8) (n : Nat) (h : (dk l).2 ≤ n) : dk (l.take n) = dk l := by
  have h1 := (dk_w l).1
  unfold dk at h ⊢
  simp only [at_take, ct_take]
  by_cases e4 : 4 ≤ n
  · simp only [show 0 < n by omega, show 1 < n by omega, show 2 < n by omega, show 3 < n by omega, if_true, decide_true, Bool.true_and]
  have : n = 1 ∨ n = 2 ∨ n = 3 := by have h1' : 1 ≤ (dkN (atL l 0) (atL l 1) (atL l 2) (atL l 3) (ctL l 1) (ctL l 2) (ctL l 3)).2 := h1; omega
  rcases this with rfl | rfl | rfl
  · exact dkN1 _ _ _ _ _ _ _ h
  · exact dkN2 _ _ _ _ _ _ _ h
  · exact dkN3 _ _ _ _ _ _ _ h
def hpL (l : List UInt8) : Bool := decide (3 ≤ l.length) && (l.take 3 == [(239 : UInt8), 191, 189])
theorem HasPrefix_eq (N : Nat) (l : List UInt8) : W_strings_HasPrefix N (l, [(239 : UInt8), (191 : UInt8), (189 : UInt8)]) = some (hpL l) := by
  unfold W_strings_HasPrefix V_strings_HasPrefix W_internal_stringslite_HasPrefix V_internal_stringslite_HasPrefix hpL
  simp only [List.length_cons, List.length_nil]
  by_cases h : 3 ≤ l.length
  · have e1 : decide (((0 + 1 + 1 + 1 : Nat) : Int) ≤ (l.length : Int)) = true := dT (by omega)
    have e2 : decide ((0 : Int) ≤ ((0 + 1 + 1 + 1 : Nat) : Int)) = true := dT (by omega)
    rw [e1, e2, dT h]
    simp only [Bool.and_self, cnd_t, obind_s, Bool.true_and, List.drop_zero]
    rfl
  · have e1 : decide (((0 + 1 + 1 + 1 : Nat) : Int) ≤ (l.length : Int)) = false := dF (by omega)
    rw [e1, dF h]
    simp only [cnd_f, obind_s, Bool.false_and]
def vl (l : List UInt8) : Int := if ((dk l).1 : Int) = 65533 then (if hpL l = true then wr .i64 ((dk l).1 : Int) else -1) else wr .i64 ((dk l).1 : Int)
theorem letter_eq (N : Nat) (l : List UInt8) : W_text_letter N (l, ((dk l).1 : Int)) = some (vl l) := by
  unfold W_text_letter V_text_letter vl
  simp only [HasPrefix_eq, obind_s]
  by_cases h : ((dk l).1 : Int) = 65533
  · rw [if_pos h, dT h, cnd_t]
    cases hpL l
    · rfl
    · rfl
  · rw [if_neg h, dF h, cnd_f]
theorem hp_dk (l : List UInt8) (h : hpL l = true) : dk l = (65533, 3) := by
  unfold hpL at h
  simp at h
  obtain ⟨h1, h2⟩ := h
  match l, h1, h2 with
  | a :: b :: c :: r, _, h2 =>
    simp at h2
    obtain ⟨rfl, rfl, rfl⟩ := h2
    have l1 : decide (1 < (r.length + 1 + 1 + 1)) = true := decide_eq_true (by omega)
    have l2 : decide (2 < (r.length + 1 + 1 + 1)) = true := decide_eq_true (by omega)
    simp [dk, atL, ctL, dkN, l1, l2, Utf8.valid]
theorem vl_take (l : List UInt8) (n : Nat) (h : (dk l).2 ≤ n) : vl (l.take n) = vl l := by
  have e : hpL (l.take n) = hpL l := by
    cases h2 : hpL l with
    | true =>
      have h3 := hp_dk l h2
      rw [h3] at h
      unfold hpL at h2 ⊢
      simp at h2 ⊢
      rw [List.take_take]
      simp only [show min 3 n = 3 by omega]
      exact ⟨by omega, h2.2⟩
    | false =>
      cases h4 : hpL (l.take n) with
      | false => rfl
      | true =>
        exfalso
        unfold hpL at h4 h2
        simp at h4
        rw [List.take_take, show min 3 n = 3 by omega] at h4
        rw [h4.2, decide_eq_true (by omega)] at h2
        simp at h2
  unfold vl
  rw [dk_take l n h, e]
def letsN : Nat → List UInt8 → List Int
  | 0, _ => []
  | k + 1, l => if l = [] then [] else vl l :: letsN k (l.drop (dk l).2)
def cutN : Nat → List UInt8 → Nat → Nat
  | 0, _, _ => 0
  | k + 1, l, n => if l = [] then 0 else if (dk l).2 ≤ n then (dk l).2 + cutN k (l.drop (dk l).2) (n - (dk l).2) else 0
theorem letsN_nil (k : Nat) : letsN k [] = [] := by cases k <;> simp [letsN]
theorem cutN_nil (k n : Nat) : cutN k [] n = 0 := by cases k <;> simp [cutN]
theorem drop_lt (l : List UInt8) (h : l ≠ []) : (l.drop (dk l).2).length < l.length := by
  have := (dk_w l).1
  have h1 : 1 ≤ l.length := by cases l with | nil => exact (h rfl).elim | cons => simp
  rw [List.length_drop]
  omega
theorem letsN_fuel : ∀ (k k2 : Nat) (l : List UInt8), l.length ≤ k → l.length ≤ k2 → letsN k l = letsN k2 l
  | 0, k2, l, h, _ => by
    have : l = [] := List.eq_nil_of_length_eq_zero (by omega)
    subst this
    rw [letsN_nil, letsN_nil]
  | k + 1, 0, l, _, h => by
    have : l = [] := List.eq_nil_of_length_eq_zero (by omega)
    subst this
    rw [letsN_nil, letsN_nil]
  | k + 1, k2 + 1, l, h1, h2 => by
    unfold letsN
    split
    · rfl
    · rename_i hn
      have := drop_lt l hn
      rw [letsN_fuel k k2 _ (by omega) (by omega)]
theorem cutN_fuel : ∀ (k k2 : Nat) (l : List UInt8) (n : Nat), l.length ≤ k → l.length ≤ k2 → cutN k l n = cutN k2 l n
  | 0, k2, l, n, h, _ => by
    have : l = [] := List.eq_nil_of_length_eq_zero (by omega)
    subst this
    rw [cutN_nil, cutN_nil]
  | k + 1, 0, l, n, _, h => by
    have : l = [] := List.eq_nil_of_length_eq_zero (by omega)
    subst this
    rw [cutN_nil, cutN_nil]
  | k + 1, k2 + 1, l, n, h1, h2 => by
    unfold cutN
    split
    · rfl
    · rename_i hn
      have := drop_lt l hn
      rw [cutN_fuel k k2 _ _ (by omega) (by omega)]
def LL (l : List UInt8) : List Int := letsN l.length l
def CC (l : List UInt8) (n : Nat) : Nat := cutN l.length l n
theorem LL_nil : LL [] = [] := rfl
theorem CC_nil (n : Nat) : CC [] n = 0 := rfl
theorem LL_cons (l : List UInt8) (h : l ≠ []) : LL l = vl l :: LL (l.drop (dk l).2) := by
  unfold LL
  obtain ⟨k, hk⟩ : ∃ k, l.length = k + 1 := ⟨l.length - 1, by cases l with | nil => exact (h rfl).elim | cons => simp⟩
  have := drop_lt l h
  rw [hk]
  rw [letsN, if_neg h, letsN_fuel k _ _ (by omega) (Nat.le_refl _)]
theorem CC_cons (l : List UInt8) (n : Nat) (h : l ≠ []) : CC l n = if (dk l).2 ≤ n then (dk l).2 + CC (l.drop (dk l).2) (n - (dk l).2) else 0 := by
  unfold CC
  obtain ⟨k, hk⟩ : ∃ k, l.length = k + 1 := ⟨l.length - 1, by cases l with | nil => exact (h rfl).elim | cons => simp⟩
  have := drop_lt l h
  rw [hk]
  rw [cutN, if_neg h, cutN_fuel k _ _ _ (by omega) (Nat.le_refl _)]
theorem list_ind {p : List UInt8 → Prop} (h0 : p []) (h1 : ∀ l, l ≠ [] → p (l.drop (dk l).2) → p l) (l : List UInt8) : p l := by
  have key : ∀ (k : Nat) (l : List UInt8), l.length ≤ k → p l := by
    intro k
    induction k with
    | zero => intro l h; have : l = [] := List.eq_nil_of_length_eq_zero (by omega); subst this; exact h0
    | succ k ih =>
      intro l h
      by_cases hn : l = []
      · subst hn; exact h0
      · exact h1 l hn (ih _ (by have := drop_lt l hn; omega))
  exact key l.length l (Nat.le_refl _)
theorem CC_le (l : List UInt8) : ∀ n, CC l n ≤ n ∧ CC l n ≤ l.length := by
  refine list_ind (p := fun l => ∀ n, CC l n ≤ n ∧ CC l n ≤ l.length) ?_ ?_ l
  · intro n; rw [CC_nil]; exact ⟨by omega, by omega⟩
  · intro l hn ih n
    rw [CC_cons l n hn]
    have h1 := dk_len l hn
    split
    · have := ih (n - (dk l).2)
      rw [List.length_drop] at this
      omega
    · omega
theorem CC_full (l : List UInt8) : ∀ n, l.length ≤ n → CC l n = l.length := by
  refine list_ind (p := fun l => ∀ n, l.length ≤ n → CC l n = l.length) ?_ ?_ l
  · intro n _; rfl
  · intro l hn ih n h
    rw [CC_cons l n hn]
    have h1 := dk_len l hn
    rw [if_pos (by omega), ih _ (by rw [List.length_drop]; omega), List.length_drop]
    omega
theorem LL_len (l : List UInt8) : (LL l).length ≤ l.length := by
  refine list_ind (p := fun l => (LL l).length ≤ l.length) (by simp [LL_nil]) ?_ l
  intro l hn ih
  have := drop_lt l hn
  rw [LL_cons l hn, List.length_cons]
  omega
theorem loop_in {σ ρ : Type} {f : σ → Option (σ ⊕ ρ)} {M : Nat} {x y : σ} (h : f x = some (.inl y)) : loopN (M + 1) f x = loopN M f y := by simp only [loopN, h]
theorem loop_out {σ ρ : Type} {f : σ → Option (σ ⊕ ρ)} {M : Nat} {x : σ} {r : ρ} (h : f x = some (.inr r)) : loopN (M + 1) f x = some r := by simp only [loopN, h]
theorem drop_ne (s : List UInt8) (i : Nat) (h : i < s.length) : s.drop i ≠ [] := by
  intro e
  have := congrArg List.length e
  rw [List.length_drop, List.length_nil] at this
  omega
theorem Letters_eq (N : Nat) (s : List UInt8) (hN : s.length < N) (hs : s.length ≤ 1000) : W_text_Letters N s = some (LL s) := by
  unfold W_text_Letters V_text_Letters
  have key : ∀ (k M i : Nat) (acc : List Int), s.length - i ≤ k → k < M → i ≤ s.length → acc.length ≤ i →
      loopN M (fun (v : List Int × List UInt8 × Int) =>
        cnd (decide (Int.toNat (Prod.snd (Prod.snd v)) < List.length (Prod.fst (Prod.snd v))))
          (cnd
            (decide ((0 : Int) ≤ (↑(Int.toNat (Prod.snd (Prod.snd v))) : Int)) &&
              decide ((↑(Int.toNat (Prod.snd (Prod.snd v))) : Int) ≤ (↑(List.length s) : Int)))
            (obind
              (W_text_letter N
                (List.drop (Int.toNat (↑(Int.toNat (Prod.snd (Prod.snd v))) : Int)) (List.take (List.length s) s),
                  (↑(Prod.fst
                      (Utf8.decode { data := { toList := Prod.fst (Prod.snd v) } } (Int.toNat (Prod.snd (Prod.snd v))))) : Int)))
              fun (b : Int) =>
              cnd (decide ((List.length (Prod.fst v) + List.length [b]) * (8 : Nat) ≤ (140737488355328 : Nat)))
                (some
                  (Sum.inl
                    (Prod.fst v ++ [b], Prod.fst (Prod.snd v),
                      (↑(Int.toNat (Prod.snd (Prod.snd v)) +
                          Prod.snd
                            (Utf8.decode { data := { toList := Prod.fst (Prod.snd v) } }
                              (Int.toNat (Prod.snd (Prod.snd v))))) : Int))))
                none)
            none)
          (some (Sum.inr (Prod.fst v)))) (acc, s, (i : Int)) = some (acc ++ LL (s.drop i)) := by
    intro k
    induction k with
    | zero =>
      intro M i acc h1 h2 h3 h4
      obtain ⟨M, rfl⟩ : ∃ M', M = M' + 1 := ⟨M - 1, by omega⟩
      have hi : i = s.length := by omega
      subst hi
      rw [loop_out (r := acc) (by simp only [Int.toNat_natCast, dF (Nat.lt_irrefl _), cnd_f]), List.drop_length, LL_nil, List.append_nil]
    | succ k ih =>
      intro M i acc h1 h2 h3 h4
      obtain ⟨M, rfl⟩ : ∃ M', M = M' + 1 := ⟨M - 1, by omega⟩
      by_cases hi : i < s.length
      · have hne := drop_ne s i hi
        have hl := dk_len _ hne
        have hw := (dk_w (s.drop i)).1
        rw [List.length_drop] at hl
        have d0 : decide (i < s.length) = true := dT (by omega)
        have d1 : decide ((0 : Int) ≤ (i : Int)) = true := dT (by omega)
        have d2 : decide ((i : Int) ≤ (s.length : Int)) = true := dT (by omega)
        have d3 : ∀ b : Int, decide ((acc.length + [b].length) * 8 ≤ 140737488355328) = true := fun b => dT (by simp only [List.length_cons, List.length_nil]; omega)
        rw [loop_in (y := (acc ++ [vl (s.drop i)], s, ((i + (dk (s.drop i)).2 : Nat) : Int))) (by
          simp only [Int.toNat_natCast, List.take_length, decode_eq, letter_eq, obind_s, d0, d1, d2, d3, cnd_t, Bool.and_self])]
        rw [ih M (i + (dk (s.drop i)).2) (acc ++ [vl (s.drop i)]) (by omega) (by omega) (by omega) (by simp only [List.length_append, List.length_cons, List.length_nil]; omega)]
        rw [LL_cons _ hne, List.drop_drop, List.append_assoc]
        rfl
      · have hi : i = s.length := by omega
        subst hi
        rw [loop_out (r := acc) (by simp only [Int.toNat_natCast, dF (Nat.lt_irrefl _), cnd_f]), List.drop_length, LL_nil, List.append_nil]
  have := key s.length N 0 [] (by omega) hN (by omega) (by simp)
  rw [List.drop_zero, List.nil_append] at this
  rw [this, obind_s]
theorem Count_eq (N : Nat) (s : List UInt8) (hN : s.length < N) (hs : s.length ≤ 1000) : W_text_Count N s = some ((LL s).length : Int) := by
  unfold W_text_Count V_text_Count
  have key : ∀ (k M i c : Nat), s.length - i ≤ k → k < M → i ≤ s.length → c ≤ i →
      loopN M (fun (v : Int × List UInt8 × Int) =>
        cnd (decide (Int.toNat (Prod.snd (Prod.snd v)) < List.length (Prod.fst (Prod.snd v))))
          (some
            (Sum.inl
              (wr IntKind.i64 (Prod.fst v + (1 : Int)), Prod.fst (Prod.snd v),
                (↑(Int.toNat (Prod.snd (Prod.snd v)) +
                    Prod.snd
                      (Utf8.decode { data := { toList := Prod.fst (Prod.snd v) } }
                        (Int.toNat (Prod.snd (Prod.snd v))))) : Int))))
          (some (Sum.inr (Prod.fst v)))) ((c : Int), s, (i : Int)) = some ((c : Int) + (LL (s.drop i)).length) := by
    intro k
    induction k with
    | zero =>
      intro M i c h1 h2 h3 h4
      obtain ⟨M, rfl⟩ : ∃ M', M = M' + 1 := ⟨M - 1, by omega⟩
      have hi : i = s.length := by omega
      subst hi
      rw [loop_out (r := (c : Int)) (by simp only [Int.toNat_natCast, dF (Nat.lt_irrefl _), cnd_f]), List.drop_length, LL_nil]
      simp
    | succ k ih =>
      intro M i c h1 h2 h3 h4
      obtain ⟨M, rfl⟩ : ∃ M', M = M' + 1 := ⟨M - 1, by omega⟩
      by_cases hi : i < s.length
      · have hne := drop_ne s i hi
        have hl := dk_len _ hne
        have hw := (dk_w (s.drop i)).1
        rw [List.length_drop] at hl
        have d0 : decide (i < s.length) = true := dT (by omega)
        have hwr : wr IntKind.i64 ((c : Int) + 1) = ((c + 1 : Nat) : Int) := by rw [wr_i64 (by omega) (by omega)]; omega
        rw [loop_in (y := (((c + 1 : Nat) : Int), s, ((i + (dk (s.drop i)).2 : Nat) : Int))) (by simp only [Int.toNat_natCast, decode_eq, d0, cnd_t, hwr])]
        rw [ih M (i + (dk (s.drop i)).2) (c + 1) (by omega) (by omega) (by omega) (by omega)]
        rw [LL_cons _ hne, List.drop_drop, List.length_cons]
        refine congrArg some ?_
        omega
      · have hi : i = s.length := by omega
        subst hi
        rw [loop_out (r := (c : Int)) (by simp only [Int.toNat_natCast, dF (Nat.lt_irrefl _), cnd_f]), List.drop_length, LL_nil]
        simp
  have := key s.length N 0 0 (by omega) hN (by omega) (by omega)
  rw [List.drop_zero] at this
  have e0 : ((0 : Nat) : Int) = (0 : Int) := rfl
  rw [e0, Int.zero_add] at this
  simp only [e0]
  rw [this, obind_s]
theorem Cut_eq (N : Nat) (s : List UInt8) (n : Nat) (hN : s.length + 2 < N) : W_text_Cut N (s, (n : Int)) = some (s.take (CC s n)) := by
  unfold W_text_Cut V_text_Cut
  try simp only
  by_cases hf : s.length ≤ n
  · rw [dT (by omega), cnd_t, CC_full s n hf, List.take_length]
  have key : ∀ (k M i e : Nat), s.length - i ≤ k → k + 1 < M → i ≤ s.length → i ≤ n →
      loopN M (fun (v : Int × List UInt8 × Int) =>
        cnd (decide (Int.toNat (Prod.snd (Prod.snd v)) < List.length (Prod.fst (Prod.snd v))))
          (cnd (decide ((n : Int) < (↑(Int.toNat (Prod.snd (Prod.snd v))) : Int))) (some (Sum.inr (Prod.fst v)))
            (some
              (Sum.inl
                ((↑(Int.toNat (Prod.snd (Prod.snd v))) : Int), Prod.fst (Prod.snd v),
                  (↑(Int.toNat (Prod.snd (Prod.snd v)) +
                      Prod.snd
                        (Utf8.decode { data := { toList := Prod.fst (Prod.snd v) } }
                          (Int.toNat (Prod.snd (Prod.snd v))))) : Int)))))
          (some (Sum.inr (Prod.fst v)))) ((e : Int), s, (i : Int)) = some ((i + CC (s.drop i) (n - i) : Nat) : Int) := by
    intro k
    induction k with
    | zero => intro M i e h1 h2 h3 h4; omega
    | succ k ih =>
      intro M i e h1 h2 h3 h4
      obtain ⟨M, rfl⟩ : ∃ M', M = M' + 1 := ⟨M - 1, by omega⟩
      have hi : i < s.length := by omega
      have hne := drop_ne s i hi
      have hl := dk_len _ hne
      have hw := (dk_w (s.drop i)).1
      rw [List.length_drop] at hl
      have d0 : decide (i < s.length) = true := dT (by omega)
      have d1 : decide ((n : Int) < (i : Int)) = false := dF (by omega)
      rw [loop_in (y := ((i : Int), s, ((i + (dk (s.drop i)).2 : Nat) : Int))) (by simp only [Int.toNat_natCast, decode_eq, d0, d1, cnd_t, cnd_f])]
      rw [CC_cons _ _ hne]
      by_cases hc : i + (dk (s.drop i)).2 ≤ n
      · rw [ih M (i + (dk (s.drop i)).2) i (by omega) (by omega) (by omega) hc, if_pos (by omega), List.drop_drop, Nat.sub_sub, Nat.add_assoc]
      · rw [if_neg (by omega), Nat.add_zero]
        obtain ⟨M, rfl⟩ : ∃ M', M = M' + 1 := ⟨M - 1, by omega⟩
        refine loop_out ?_
        simp only [Int.toNat_natCast]
        by_cases hl2 : i + (dk (s.drop i)).2 < s.length
        · have d2 : decide ((n : Int) < ((i + (dk (s.drop i)).2 : Nat) : Int)) = true := dT (by omega)
          rw [dT hl2, d2, cnd_t, cnd_t]
        · rw [dF hl2, cnd_f]
  have h0 := key s.length N 0 0 (by omega) (by omega) (by omega) (by omega)
  rw [List.drop_zero, Nat.zero_add, Nat.sub_zero] at h0
  have e0 : ((0 : Nat) : Int) = (0 : Int) := rfl
  rw [e0] at h0
  have hc := CC_le s n
  have d0 : decide ((s.length : Int) ≤ (n : Int)) = false := dF (by omega)
  have d1 : decide ((0 : Int) ≤ ((CC s n : Nat) : Int)) = true := dT (by omega)
  have d2 : decide (((CC s n : Nat) : Int) ≤ (s.length : Int)) = true := dT (by omega)
  rw [d0, cnd_f]
  simp only [e0]
  rw [h0, obind_s, d1, d2, Bool.and_self, cnd_t, Int.toNat_natCast, List.drop_zero]
theorem Same_self (N : Nat) (a : List Int) (hN : a.length < N) (hl : a.length ≤ 140737488355327) : W_ref1_SameInts N (a, a) = some true := by
  unfold W_ref1_SameInts V_ref1_SameInts
  try simp only
  have key : ∀ (k M i : Nat), a.length - i ≤ k → k < M → i ≤ a.length → loopN M (fun (v : Int) =>
          cnd (decide (v < (↑(List.length a) : Int)))
            (cnd (decide ((0 : Int) ≤ v) && decide (v < (↑(List.length a) : Int)))
              (cnd (decide ((0 : Int) ≤ v) && decide (v < (↑(List.length a) : Int)))
                (cnd
                  (decide
                    (List.getD a (Int.toNat v) (0 : Int) ≠ List.getD a (Int.toNat v) (0 : Int)))
                  (some (Sum.inr (Sum.inr false))) (some (Sum.inl (wr IntKind.i64 (v + (1 : Int))))))
                none)
              none)
            (some (Sum.inr (Sum.inl ())))) (i : Int) = some (Sum.inl () : PUnit ⊕ Bool) := by
    intro k
    induction k with
    | zero =>
      intro M i h1 h2 h3
      obtain ⟨M, rfl⟩ : ∃ M', M = M' + 1 := ⟨M - 1, by omega⟩
      have d0 : decide ((i : Int) < (a.length : Int)) = false := dF (by omega)
      exact loop_out (by simp only [d0, cnd_f])
    | succ k ih =>
      intro M i h1 h2 h3
      obtain ⟨M, rfl⟩ : ∃ M', M = M' + 1 := ⟨M - 1, by omega⟩
      by_cases hi : i < a.length
      · have d0 : decide ((i : Int) < (a.length : Int)) = true := dT (by omega)
        have d1 : decide ((0 : Int) ≤ (i : Int)) = true := dT (by omega)
        have hw : wr IntKind.i64 ((i : Int) + 1) = ((i + 1 : Nat) : Int) := by rw [wr_i64 (by omega) (by omega)]; omega
        rw [loop_in (y := ((i + 1 : Nat) : Int)) (by simp only [d0, d1, cnd_t, Bool.and_self, ne_eq, not_true_eq_false, decide_false, cnd_f, hw])]
        exact ih M (i + 1) (by omega) (by omega) (by omega)
      · have d0 : decide ((i : Int) < (a.length : Int)) = false := dF (by omega)
        exact loop_out (by simp only [d0, cnd_f])
  rw [dF (by simp), cnd_f]
  have := key a.length N 0 (by omega) hN (by omega)
  have e0 : Int.ofNat 0 = ((0 : Nat) : Int) := rfl
  rw [e0, this, obind_s, selim_l]
def hx (d : Nat) : UInt8 := if d < 10 then (48 + d).toUInt8 else (87 + d).toUInt8
def hexN : Nat → Nat → List UInt8
  | 0, _ => []
  | n + 1, v => hexN n (v / 16) ++ [hx (v % 16)]
theorem hexN_len : ∀ n v, (hexN n v).length = n
  | 0, _ => rfl
  | n + 1, v => by rw [hexN, List.length_append, hexN_len n]; rfl
theorem hx_row : ∀ d : Fin 16, List.drop d.val (List.take (d.val + 1) [(48 : UInt8), (49 : UInt8), (50 : UInt8), (51 : UInt8), (52 : UInt8), (53 : UInt8), (54 : UInt8), (55 : UInt8), (56 : UInt8), (57 : UInt8), (97 : UInt8), (98 : UInt8), (99 : UInt8), (100 : UInt8), (101 : UInt8), (102 : UInt8)]) = [hx d.val] := by decide
theorem digits_eq (N : Nat) (hN : 20 < N) (n v : Nat) (hn : n ≤ 8) (hv : v ≤ 1000000000000) : W_text_digits N ((v : Int), (n : Int)) = some (hexN n v) := by
  unfold W_text_digits V_text_digits
  refine loop_G (σ := Int × List UInt8 × Int) (ρ := List UInt8) (β := List UInt8) (· = some (hexN n v)) (fun k s => ∃ (u : Nat) (acc : List UInt8), s = ((u : Int), acc, (k : Int)) ∧ k ≤ n ∧ u ≤ 1000000000000 ∧ acc.length = k ∧ hexN (n - k) u ++ acc = hexN n v) n (fun r => r = hexN n v) ⟨v, [], rfl, by omega, hv, rfl, by simp⟩ (by omega) ?_ (fun k s h => by obtain ⟨_, _, _, h, _⟩ := h; exact h) ?_
  · rintro r rfl; rfl
  · rintro k s ⟨u, acc, rfl, hk, hu, hl, he⟩
    try simp only
    by_cases q : k < n
    · left
      have m1 : Int.tmod (u : Int) 16 = ((u % 16 : Nat) : Int) := by rw [Int.tmod_eq_emod_of_nonneg (by omega)]; rfl
      have m2 : Int.tdiv (u : Int) 16 = ((u / 16 : Nat) : Int) := by rw [Int.tdiv_eq_ediv_of_nonneg (by omega)]; rfl
      have m3 := Nat.mod_lt u (show 0 < 16 by omega)
      have hr := hx_row ⟨u % 16, m3⟩
      simp only at hr
      rw [cnd_T (show (k : Int) < (n : Int) by omega), m1, m2, wr_m (z := ((u % 16 : Nat) : Int) + 1) (by omega) (by omega), wr_m (z := ((u / 16 : Nat) : Int)) (by omega) (by omega), wr_m (z := (k : Int) + 1) (by omega) (by omega),
        dT (show (0 : Int) ≤ ((u % 16 : Nat) : Int) by omega), dT (show ((u % 16 : Nat) : Int) ≤ ((u % 16 : Nat) : Int) + 1 by omega), dT (show ((u % 16 : Nat) : Int) + 1 ≤ ((16 : Nat) : Int) by omega), Bool.and_self, Bool.and_self, cnd_t,
        show (((u % 16 : Nat) : Int) + 1).toNat = u % 16 + 1 from by omega, Int.toNat_natCast, hr, cnd_T (by simp only [List.length_cons, List.length_nil]; omega)]
      refine ⟨_, rfl, u / 16, [hx (u % 16)] ++ acc, rfl, by omega, by omega, by simp only [List.length_append, List.length_cons, List.length_nil]; omega, ?_⟩
      rw [← he, show n - k = n - (k + 1) + 1 from by omega, hexN, List.append_assoc]
    · right
      rw [cnd_F (show ¬ (k : Int) < (n : Int) by omega)]
      refine ⟨_, rfl, ?_⟩
      rw [show n - k = 0 from by omega] at he
      exact he
def sh1 (l : List UInt8) : List UInt8 :=
  if vl l = -1 then [92, 120] ++ hexN 2 (atL l 0)
  else if vl l = 34 ∨ vl l = 92 then [92, (vl l).toNat.toUInt8]
  else if 32 ≤ vl l ∧ vl l ≤ 126 then [(vl l).toNat.toUInt8]
  else if 65535 < vl l then [92, 85] ++ hexN 8 (vl l).toNat
  else [92, 117] ++ hexN 4 (vl l).toNat
def shN : Nat → List UInt8 → List UInt8
  | 0, _ => []
  | k + 1, l => if l = [] then [] else sh1 l ++ shN k (l.drop (dk l).2)
theorem shN_nil (k : Nat) : shN k [] = [] := by cases k <;> simp [shN]
theorem shN_fuel : ∀ (k k2 : Nat) (l : List UInt8), l.length ≤ k → l.length ≤ k2 → shN k l = shN k2 l
  | 0, k2, l, h1, h2 => by
    have : l = [] := List.eq_nil_of_length_eq_zero (by omega)
    subst this; rw [shN_nil, shN_nil]
  | k + 1, 0, l, h1, h2 => by
    have : l = [] := List.eq_nil_of_length_eq_zero (by omega)
    subst this; rw [shN_nil, shN_nil]
  | k + 1, k2 + 1, l, h1, h2 => by
    by_cases h : l = []
    · subst h; rw [shN_nil, shN_nil]
    · have := drop_lt l h
      rw [shN, shN, if_neg h, if_neg h, shN_fuel k k2 _ (by omega) (by omega)]
def SH (l : List UInt8) : List UInt8 := shN l.length l
theorem SH_nil : SH [] = [] := rfl
theorem SH_cons (l : List UInt8) (h : l ≠ []) : SH l = sh1 l ++ SH (l.drop (dk l).2) := by
  have h1 := drop_lt l h
  unfold SH
  obtain ⟨k, hk⟩ : ∃ k, l.length = k + 1 := ⟨l.length - 1, by have := List.length_pos_iff.2 h; omega⟩
  rw [hk, shN, if_neg h, shN_fuel k (l.drop (dk l).2).length _ (by omega) (Nat.le_refl _)]
theorem sh1_len (l : List UInt8) : 1 ≤ (sh1 l).length ∧ (sh1 l).length ≤ 10 := by
  unfold sh1
  split
  · simp [hexN_len]
  split
  · simp
  split
  · simp
  split
  · simp [hexN_len]
  · simp [hexN_len]
theorem SH_len (l : List UInt8) : (SH l).length ≤ 10 * l.length := by
  refine list_ind (p := fun l => (SH l).length ≤ 10 * l.length) (by simp [SH_nil]) (fun l h ih => ?_) l
  have h1 := drop_lt l h
  have := (sh1_len l).2
  rw [SH_cons l h, List.length_append]
  omega
theorem dkN_lt (b0 a1 a2 a3 : Nat) (c1 c2 c3 : Bool) (h0 : b0 < 256) : (dkN b0 a1 a2 a3 c1 c2 c3).1 < 2097152 := by
  unfold dkN
  have := Nat.mod_lt a1 (show 0 < 64 by omega)
  have := Nat.mod_lt a2 (show 0 < 64 by omega)
  have := Nat.mod_lt a3 (show 0 < 64 by omega)
  have := Nat.mod_lt b0 (show 0 < 32 by omega)
  have := Nat.mod_lt b0 (show 0 < 16 by omega)
  have := Nat.mod_lt b0 (show 0 < 8 by omega)
  repeat' split
  all_goals simp only
  all_goals omega
theorem atL_lt (l : List UInt8) (k : Nat) : atL l k < 256 := UInt8.toNat_lt _
theorem dk_lt (l : List UInt8) : (dk l).1 < 2097152 := dkN_lt _ _ _ _ _ _ _ (atL_lt l 0)
theorem vl_or (l : List UInt8) : vl l = -1 ∨ vl l = ((dk l).1 : Int) := by
  have := dk_lt l
  unfold vl
  split
  · split
    · right; exact wr_m (by omega) (by omega)
    · left; rfl
  · right; exact wr_m (by omega) (by omega)
theorem showT_eq (N : Nat) (hN : 20 < N) (s : List UInt8) (i : Nat) : showT (W_text_letter N) (W_text_digits N) s i ((dk (s.drop i)).1 : Nat) = some (sh1 (s.drop i)) := by
  have h0 : (s.getD i 0).toNat = atL (s.drop i) 0 := by rw [at_drop]; rfl
  unfold showT sh1
  rw [letter_eq, obind_s, h0]
  have hv := vl_or (s.drop i)
  have hd := dk_lt (s.drop i)
  have ha := atL_lt (s.drop i) 0
  generalize vl (s.drop i) = c at hv ⊢
  by_cases c1 : c = -1
  · rw [cnd_T c1, if_pos c1, show (2 : Int) = ((2 : Nat) : Int) from rfl, digits_eq N hN 2 _ (by omega) (by omega), obind_s]
  rw [cnd_F c1, if_neg c1]
  have hc : ((dk (s.drop i)).1 : Int) = c := by omega
  obtain ⟨n, hn⟩ : ∃ n : Nat, c = (n : Int) := ⟨(dk (s.drop i)).1, hc.symm⟩
  by_cases c2 : c = 34 ∨ c = 92
  · rw [if_pos c2, show (decide (c = 34) || decide (c = 92)) = true by simp [c2], cnd_t, cnd_T hc]
  rw [if_neg c2, show (decide (c = 34) || decide (c = 92)) = false by simpa using c2, cnd_f]
  by_cases c4 : 32 ≤ c ∧ c ≤ 126
  · rw [if_pos c4, dT c4.1, dT c4.2, Bool.and_self, cnd_t, cnd_T hc]
  rw [if_neg c4, show (decide (32 ≤ c) && decide (c ≤ 126)) = false by
    cases hq : (decide (32 ≤ c) && decide (c ≤ 126)) with
    | false => rfl
    | true => simp only [Bool.and_eq_true, decide_eq_true_eq] at hq; exact absurd hq c4, cnd_f]
  subst hn
  rw [Int.toNat_natCast]
  by_cases c5 : 65535 < (n : Int)
  · rw [if_pos c5, cnd_T c5, show (8 : Int) = ((8 : Nat) : Int) from rfl, digits_eq N hN 8 n (by omega) (by omega), obind_s]
  · rw [if_neg c5, cnd_F c5, show (4 : Int) = ((4 : Nat) : Int) from rfl, digits_eq N hN 4 n (by omega) (by omega), obind_s]
theorem Show_eq (N : Nat) (s : List UInt8) (hN : s.length + 20 < N) (hs : s.length ≤ 1000) : W_text_Show N s = some (SH s) := by
  unfold W_text_Show
  have h := loopG (f := showS (W_text_letter N) (W_text_digits N) s) (fun k (v : Nat × List UInt8) => k ≤ v.1 ∧ v.1 ≤ s.length ∧ v.2 ++ SH (s.drop v.1) = SH s) s.length (fun r => r = SH s) (fun k v h => by omega) (fun k v h => by
    obtain ⟨i, acc⟩ := v
    obtain ⟨h1, h2, h3⟩ := h
    simp only at h1 h2 h3
    unfold showS
    try simp only
    by_cases q : i < s.length
    · left
      have hne := drop_ne s i q
      have hl := dk_len _ hne
      have hw := (dk_w (s.drop i)).1
      rw [List.length_drop] at hl
      have hS := SH_len s
      rw [SH_cons _ hne, List.drop_drop, ← List.append_assoc] at h3
      have hle : (acc ++ sh1 (s.drop i)).length ≤ (SH s).length := by
        have := congrArg List.length h3
        simp only [List.length_append] at this ⊢
        omega
      rw [cnd_T q, decode_eq, showT_eq N (by omega), obind_s, cnd_T (by omega)]
      exact ⟨_, rfl, by show k + 1 ≤ i + _; omega, by show i + _ ≤ _; omega, h3⟩
    · right
      rw [cnd_F q]
      refine ⟨_, rfl, ?_⟩
      rw [show i = s.length from by omega, List.drop_length, SH_nil, List.append_nil] at h3
      exact h3) N 0 (0, []) ⟨Nat.le_refl _, Nat.zero_le _, rfl⟩ (by omega)
  obtain ⟨r, h1, rfl⟩ := h
  exact h1
theorem dkN_ct (b0 a1 a2 a3 : Nat) (c1 c2 c3 : Bool) : (2 ≤ (dkN b0 a1 a2 a3 c1 c2 c3).2 → c1 = true) ∧ (3 ≤ (dkN b0 a1 a2 a3 c1 c2 c3).2 → c2 = true) ∧ (4 ≤ (dkN b0 a1 a2 a3 c1 c2 c3).2 → c3 = true) := by
  unfold dkN
  cases c1 <;> cases c2 <;> cases c3 <;> simp only [Bool.and_true, Bool.and_false, Bool.false_eq_true, if_false] <;> (repeat' split) <;> simp
theorem dk_ct (l : List UInt8) (k : Nat) (h : 1 ≤ k) (hk : k < (dk l).2) : ctL l k = true := by
  have h4 := (dk_w l).2
  have hd := dkN_ct (atL l 0) (atL l 1) (atL l 2) (atL l 3) (ctL l 1) (ctL l 2) (ctL l 3)
  have hk' : k < (dkN (atL l 0) (atL l 1) (atL l 2) (atL l 3) (ctL l 1) (ctL l 2) (ctL l 3)).2 := hk
  have : k = 1 ∨ k = 2 ∨ k = 3 := by omega
  rcases this with rfl | rfl | rfl
  · exact hd.1 (by omega)
  · exact hd.2.1 (by omega)
  · exact hd.2.2 (by omega)
theorem dk_mark (l b : List UInt8) (h : l ≠ []) : (dk (l ++ 124 :: b)).2 ≤ l.length := by
  have hp := List.length_pos_iff.2 h
  refine Nat.le_of_not_lt fun q => ?_
  have := dk_ct _ l.length (by omega) q
  unfold ctL atL at this
  rw [List.getD_eq_getElem?_getD, List.getElem?_append_right (Nat.le_refl _), Nat.sub_self] at this
  simp at this
theorem mark_take (l b : List UInt8) : (l ++ 124 :: b).take l.length = l := by rw [List.take_append_of_le_length (Nat.le_refl _), List.take_length]
theorem dk_join (l b : List UInt8) (h : l ≠ []) : dk (l ++ 124 :: b) = dk l := by
  have := dk_take (l ++ 124 :: b) l.length (dk_mark l b h)
  rw [mark_take] at this
  exact this.symm
theorem vl_join (l b : List UInt8) (h : l ≠ []) : vl (l ++ 124 :: b) = vl l := by
  have := vl_take (l ++ 124 :: b) l.length (dk_mark l b h)
  rw [mark_take] at this
  exact this.symm
theorem at_join (l b : List UInt8) (h : l ≠ []) : atL (l ++ 124 :: b) 0 = atL l 0 := by
  cases l with
  | nil => exact absurd rfl h
  | cons x r => rfl
theorem sh1_join (l b : List UInt8) (h : l ≠ []) : sh1 (l ++ 124 :: b) = sh1 l := by
  unfold sh1
  rw [vl_join l b h, at_join l b h]
theorem drop_join (l b : List UInt8) (n : Nat) (h : n ≤ l.length) : (l ++ 124 :: b).drop n = l.drop n ++ 124 :: b := by rw [List.drop_append_of_le_length h]
theorem dk_124 (b : List UInt8) : dk (124 :: b) = (124, 1) := by
  unfold dk
  rw [show atL (124 :: b) 0 = 124 from rfl]
  rfl
theorem vl_124 (b : List UInt8) : vl (124 :: b) = 124 := by
  unfold vl
  rw [dk_124]
  exact wr_m (z := 124) (by omega) (by omega)
theorem LL_join (b a : List UInt8) : LL (a ++ 124 :: b) = LL a ++ 124 :: LL b := by
  refine list_ind (p := fun a => LL (a ++ 124 :: b) = LL a ++ 124 :: LL b) ?_ (fun l h ih => ?_) a
  · rw [List.nil_append, LL_cons _ (by simp), vl_124, dk_124]; rfl
  · rw [LL_cons _ (by simp), vl_join l b h, dk_join l b h, drop_join l b _ (dk_len l h), ih, LL_cons l h]; rfl
theorem SH_join (b a : List UInt8) : SH (a ++ 124 :: b) = SH a ++ 124 :: SH b := by
  refine list_ind (p := fun a => SH (a ++ 124 :: b) = SH a ++ 124 :: SH b) ?_ (fun l h ih => ?_) a
  · rw [List.nil_append, SH_cons _ (by simp), dk_124]
    have : sh1 (124 :: b) = [124] := by unfold sh1; rw [vl_124]; rfl
    rw [this]; rfl
  · rw [SH_cons _ (by simp), sh1_join l b h, dk_join l b h, drop_join l b _ (dk_len l h), ih, SH_cons l h, List.append_assoc]
theorem CC_join (b a : List UInt8) : CC (a ++ 124 :: b) (a.length + 1) = a.length + 1 := by
  refine list_ind (p := fun a => CC (a ++ 124 :: b) (a.length + 1) = a.length + 1) ?_ (fun l h ih => ?_) a
  · rw [List.nil_append, CC_cons _ _ (by simp), dk_124, if_pos (by simp)]
    show 1 + CC b 0 = 1
    have := (CC_le b 0).1
    omega
  · have hl := dk_len l h
    rw [CC_cons _ _ (by simp), dk_join l b h, if_pos (by omega), drop_join l b _ hl]
    rw [List.length_drop, show l.length - (dk l).2 + 1 = l.length + 1 - (dk l).2 from by omega] at ih
    rw [ih]; omega
theorem cX (z : Int) : castX (e := .int .i64) (e' := .int .i64) rfl z = z := rfl
theorem law_aux (N : Nat) (hN : 1000 ≤ N) (hbeg : W_law1_begun N () = some true) (a b : List UInt8) : W_law1_TextJoins N (a, b) = some true := by
  unfold W_law1_TextJoins V_law1_TextJoins
  try simp only
  rw [hbeg, obind_s, Bool.not_true, cnd_f]
  by_cases c1 : (40 : Int) < a.length
  · rw [cnd_T c1]
  rw [cnd_F c1]
  by_cases c2 : (40 : Int) < b.length
  · rw [cnd_T c2]
  rw [cnd_F c2]
  have la := LL_len a
  have lb := LL_len b
  have sa := SH_len a
  have sb := SH_len b
  have e : a ++ [(124 : UInt8)] ++ b = a ++ 124 :: b := by simp
  have hlen : (a ++ (124 : UInt8) :: b).length = a.length + 1 + b.length := by simp only [List.length_append, List.length_cons]; omega
  have h1 := Letters_eq N a (by omega) (by omega)
  have h2 := Letters_eq N b (by omega) (by omega)
  have h3 := Letters_eq N (a ++ 124 :: b) (by omega) (by omega)
  have h4 := Count_eq N (a ++ 124 :: b) (by omega) (by omega)
  have h5 := Cut_eq N (a ++ 124 :: b) (a.length + 1) (by omega)
  have h6 := Show_eq N (a ++ 124 :: b) (by omega) (by omega)
  have h7 := Show_eq N a (by omega) (by omega)
  have h8 := Show_eq N b (by omega) (by omega)
  have hL : LL a ++ [(124 : Int)] ++ LL b = LL (a ++ 124 :: b) := by rw [LL_join]; simp
  have hlL : (LL (a ++ 124 :: b)).length = (LL a).length + 1 + (LL b).length := by rw [← hL]; simp only [List.length_append, List.length_cons, List.length_nil]
  have lj := LL_len (a ++ 124 :: b)
  rw [h1, obind_s, h2, obind_s, obind_s]
  try simp only
  rw [cnd_T (by omega), cnd_T (by simp only [List.length_cons, List.length_nil]; omega), cnd_T (by simp only [List.length_append, List.length_cons, List.length_nil]; omega), obind_s, cnd_T (by omega), cnd_T (by simp only [List.length_append, List.length_cons, List.length_nil]; omega), obind_s]
  rw [e, h3, obind_s, hL, Same_self N _ (by omega) (by omega), obind_s, cnd_t, h4, obind_s, obind_s]
  rw [cX, wr_m (z := ((LL a).length : Int) + 1) (by omega) (by omega), wr_m (z := ((LL a).length : Int) + 1 + ((LL b).length : Int)) (by omega) (by omega), dT (show ((LL (a ++ 124 :: b)).length : Int) = ((LL a).length : Int) + 1 + ((LL b).length : Int) by omega), cnd_t, wr_m (z := (a.length : Int) + 1) (by omega) (by omega),
    show (a.length : Int) + 1 = ((a.length + 1 : Nat) : Int) from rfl, h5, obind_s, cnd_T (by omega), obind_s, CC_join]
  have ht : (a ++ 124 :: b).take (a.length + 1) = a ++ [124] := by
    rw [← e, List.append_assoc, List.take_append, List.take_of_length_le (by omega), show a.length + 1 - a.length = 1 from by omega]; rfl
  rw [ht, beq_self_eq_true, cnd_t, h6, obind_s, h7, obind_s, cnd_T (by omega), h8, obind_s, cnd_T (by simp only [List.length_append, List.length_cons, List.length_nil]; omega), SH_join]
  have : SH a ++ [(124 : UInt8)] ++ SH b = SH a ++ 124 :: SH b := by simp
  rw [this, beq_self_eq_true]
def NN : Nat := 1000
theorem begun_ok : W_law1_begun NN () = some true := by decide +kernel
theorem law_true (y0 : List UInt8) (y1 : List UInt8) (h0 : Twf .str y0) (h1 : Twf .str y1) : W_law1_TextJoins NN (y0, y1) = some true :=
  law_aux NN (Nat.le_refl _) begun_ok y0 y1

theorem spec (y0 : List UInt8) (y1 : List UInt8) (h0 : Twf .str y0) (h1 : Twf .str y1) : Spec2 P0 5 [valW .str y0, valW .str y1] [] (.bs true) [] [] := (con_law1_TextJoins_ok NN).2 (y0, y1) true (law_true y0 y1 h0 h1)
theorem lifted (os : Os) (started : os.Started) (H : Type) (enc : TypeId × Value → H) :
    ReturnsInHanded {} Try.checked os 5 .any (Rows.textJoinsSpec.pre6 enc Try.prog Try.f5 Rows.textJoinsRow.domain false) (Rows.textJoinsSpec.post enc Try.prog Try.f5 false true false false) := by
  refine returnsInHanded_of_change (C := Try.checked) own started (by kernel_rfl) Try.func5
    (ChangeSpec.witness6 (enc := enc) (C := Try.checked) false ⟨#[], #[.string ⟨#[]⟩, .string ⟨#[]⟩], []⟩ 8 (by kernel_rfl) (by kernel_rfl) (by kernel_rfl) (by kernel_rfl)) ?_
  intro W base args ds gs before hval0 hW hcnd _
  have hval : ∀ (j : Nat) t v, Try.f5.params[j]? = some t → args[j]? = some v → Value.okWide Try.prog W .any base t v := hval0
  have hW' := hW
  obtain ⟨p, q, hA0, hV, rfl, hfz, hnd⟩ := hW
  have hA : DataW.TrodAll enc Try.prog W 0 (fun _ => true) true Try.f5.params.toList args.toList ds p := hA0
  rw [Try.params5] at hA hval
  obtain ⟨v0, vs0, d0, ds0, p0, q0, hargs, rfl, rfl, h0, r0⟩ := trodAll_cons hA
  obtain ⟨v1, vs1, d1, ds1, p1, q1, rfl, rfl, rfl, h1, r1⟩ := trodAll_cons r0
  obtain ⟨rfl, rfl, rfl⟩ := trodAll_nil r1
  obtain rfl : args = #[v0, v1] := by cases args; simp_all
  obtain ⟨rfl, rfl⟩ := trodVars_none hV
  have k0 := h0
  have lt0 : ∀ x ∈ p0, x.block < W.heap.size := by obtain ⟨m, hm⟩ := k0; exact DataW.trod_lt m _ _ _ hm
  obtain ⟨y0, rp0, wf0⟩ := arg_ok (n := 12) (ty := .str) (by kernel_rfl) (hval 0 _ v0 rfl rfl) h0
  have k1 := h1
  have lt1 : ∀ x ∈ p1, x.block < W.heap.size := by obtain ⟨m, hm⟩ := k1; exact DataW.trod_lt m _ _ _ hm
  obtain ⟨y1, rp1, wf1⟩ := arg_ok (n := 12) (ty := .str) (by kernel_rfl) (hval 1 _ v1 rfl rfl) h1
  clear hA0 hval0
  refine (law_of2 (spec y0 y1 wf0 wf1) W #[v0, v1] (.cons rp0 (.cons rp1 .nil))).mono fun e W' ⟨he, bel⟩ => ?_
  subst he
  exact ⟨_, rfl, _, _, _, [], _, [], hW', trodAll_mk1 (shut_bool Try.underlying4 _), (trodAll_cons_mk (Below.trod laidOut (by kernel_rfl) (of_decide_eq_true (by kernel_rfl)) k0 bel lt0) (trodAll_cons_mk (Below.trod laidOut (by kernel_rfl) (of_decide_eq_true (by kernel_rfl)) k1 bel lt1) trodAll_mk0)), rfl, bel.frame _, fun h => by cases h⟩

theorem over : Rows.textJoinsRow.holds Try.pinned (OpenSpec.ofChange Rows.textJoinsSpec) :=
  OpenClaim.holds_of_wide 5 Try.f5 rfl rfl rfl rfl rfl rfl rfl ⟨rfl, rfl, rfl, rfl, rfl⟩ rfl rfl rfl rfl rfl (by kernel_rfl) Try.func5 (by kernel_rfl)
    (of_decide_eq_true (by kernel_rfl)) (by unfold Func.isWrapper; first | (rw [if_pos (by decide +kernel)]; kernel_rfl) | (rw [if_neg (by decide +kernel)]; exact ⟨rfl, rfl⟩))
    (fun os started H enc _ => lifted os started H enc)

theorem holds : Rows.TextJoinsSaid := over
end Go.Proofs.Ytbholnfijmjicaa.textJoinsX
