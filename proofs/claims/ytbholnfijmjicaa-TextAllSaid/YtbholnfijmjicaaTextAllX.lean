/- TextAll: for all arguments the call returns true. The law is brought to a function of Lean's own (W_..) by the machine of the texts beside it, and that is reckoned; no condition. -/
import Derived.Test.YtbholnfijmjicaaExtFl
import Derived.Test.YtbholnfijmjicaaExtCm
import Derived.Test.YtbholnfijmjicaaRows
import Derived.WalkKit
import Derived.ProofKit
import Derived.OpenShut
import Derived.ShutString
import Derived.ChangeOld
import Derived.Below
import Derived.Shelf.Strings.Builder1
import Derived.Shelf.Strings.BuilderF
import Derived.Shelf.Strings.BuilderK
import Derived.Shelf.Strings.BuilderRune
import Derived.Lib.OthersKept
import Derived.Lib.Strings
import Derived.Lib.IndexBytes
import Derived.Laws.Slices
import Derived.Lib.ItoaWalk
import Derived.Lib.RuneBytes
import Derived.BigCall
import Derived.Lib.MapLaws
namespace Go.Proofs.Ytbholnfijmjicaa.textAllX
open Go.Abs Go.RowKit Go.ChangeShapes Go.WideShapes Go.ChangeAt
set_option maxRecDepth 100000
set_option linter.unusedVariables false
set_option linter.unusedSimpArgs false
noncomputable abbrev P0 : Program := Try.prog
noncomputable def bodyOf (fn : Func) : Code := fn.body.getD .skip
def L0 : Lend := fun f => aget [] [] f
def kpL (l : List Bool) : Nat → Bool := fun j => l.getD j true
theorem own : ownKnob Try.prog.godebug = none := by kernel_rfl
theorem laidOut : laidOutB Try.prog = true := by kernel_rfl
theorem mixed : P0.follows .mixedOrders = true := by decide +kernel
theorem progOk_ : progOk P0 = true := by decide +kernel
section
open Go.Shelf
def bdRen : Go.Shelf.Ren := ⟨fun | 166 => 39 | 168 => 41 | 169 => 42 | 240 => 55 | 276 => 59 | 242 => 56 | 278 => 60 | n => n, fun | 0 => 0 | 3 => 3 | 4 => 4 | 5 => 5 | 9 => 9 | 20 => 20 | 21 => 21 | 37 => 22 | 46 => 92 | 51 => 91 | 70 => 60 | 72 => 62 | 75 => 64 | 80 => 69 | 164 => 89 | 127 => 84 | n => n, fun | n => n⟩
theorem bdLays166 : Go.Proofs.Lays.n166 Try.prog bdRen := {
  mixed := by kernel_rfl
  f166 := Try.func39.trans (congrArg some (by kernel_rfl))
  f240 := Try.func55.trans (congrArg some (by kernel_rfl))
  f276 := Try.func59.trans (congrArg some (by kernel_rfl))
  t0 := Try.underlying0
  a0 := Try.isAgg0
  z0 := Try.sizeOf0
  v0 := Try.zeroValue0
  t3 := Try.underlying3
  a3 := Try.isAgg3
  z3 := Try.sizeOf3
  v3 := Try.zeroValue3
  t4 := Try.underlying4
  a4 := Try.isAgg4
  z4 := Try.sizeOf4
  v4 := Try.zeroValue4
  t9 := Try.underlying9
  a9 := Try.isAgg9
  z9 := Try.sizeOf9
  v9 := Try.zeroValue9
  t20 := Try.underlying20
  a20 := Try.isAgg20
  z20 := Try.sizeOf20
  v20 := Try.zeroValue20
  t37 := Try.underlying22
  a37 := Try.isAgg22
  z37 := Try.sizeOf22
  v37 := Try.zeroValue22
  t70 := Try.underlying60
  a70 := Try.isAgg60
  z70 := Try.sizeOf60
  v70 := Try.zeroValue60
  t72 := Try.underlying62
  a72 := Try.isAgg62
  z72 := Try.sizeOf62
  v72 := Try.zeroValue62
  t75 := Try.underlying64
  a75 := Try.isAgg64
  z75 := Try.sizeOf64
  v75 := Try.zeroValue64
  t164 := Try.underlying89
  a164 := Try.isAgg89
  z164 := Try.sizeOf89
  v164 := Try.zeroValue89 }
theorem bdLays168 : Go.Proofs.Lays.n168 Try.prog bdRen := {
  mixed := by kernel_rfl
  f168 := Try.func41.trans (congrArg some (by kernel_rfl))
  f240 := Try.func55.trans (congrArg some (by kernel_rfl))
  f242 := Try.func56.trans (congrArg some (by kernel_rfl))
  f276 := Try.func59.trans (congrArg some (by kernel_rfl))
  f278 := Try.func60.trans (congrArg some (by kernel_rfl))
  t0 := Try.underlying0
  a0 := Try.isAgg0
  z0 := Try.sizeOf0
  v0 := Try.zeroValue0
  t3 := Try.underlying3
  a3 := Try.isAgg3
  z3 := Try.sizeOf3
  v3 := Try.zeroValue3
  t4 := Try.underlying4
  a4 := Try.isAgg4
  z4 := Try.sizeOf4
  v4 := Try.zeroValue4
  t5 := Try.underlying5
  a5 := Try.isAgg5
  z5 := Try.sizeOf5
  v5 := Try.zeroValue5
  t9 := Try.underlying9
  a9 := Try.isAgg9
  z9 := Try.sizeOf9
  v9 := Try.zeroValue9
  t20 := Try.underlying20
  a20 := Try.isAgg20
  z20 := Try.sizeOf20
  v20 := Try.zeroValue20
  t21 := Try.underlying21
  a21 := Try.isAgg21
  z21 := Try.sizeOf21
  v21 := Try.zeroValue21
  t37 := Try.underlying22
  a37 := Try.isAgg22
  z37 := Try.sizeOf22
  v37 := Try.zeroValue22
  t46 := Try.underlying92
  a46 := Try.isAgg92
  z46 := Try.sizeOf92
  v46 := Try.zeroValue92
  t51 := Try.underlying91
  a51 := Try.isAgg91
  z51 := Try.sizeOf91
  v51 := Try.zeroValue91
  t70 := Try.underlying60
  a70 := Try.isAgg60
  z70 := Try.sizeOf60
  v70 := Try.zeroValue60
  t72 := Try.underlying62
  a72 := Try.isAgg62
  z72 := Try.sizeOf62
  v72 := Try.zeroValue62
  t75 := Try.underlying64
  a75 := Try.isAgg64
  z75 := Try.sizeOf64
  v75 := Try.zeroValue64
  t164 := Try.underlying89
  a164 := Try.isAgg89
  z164 := Try.sizeOf89
  v164 := Try.zeroValue89 }
theorem bdLays169 : Go.Proofs.Lays.n169 Try.prog bdRen := {
  mixed := by kernel_rfl
  f169 := Try.func42.trans (congrArg some (by kernel_rfl))
  t0 := Try.underlying0
  a0 := Try.isAgg0
  z0 := Try.sizeOf0
  v0 := Try.zeroValue0
  t3 := Try.underlying3
  a3 := Try.isAgg3
  z3 := Try.sizeOf3
  v3 := Try.zeroValue3
  t9 := Try.underlying9
  a9 := Try.isAgg9
  z9 := Try.sizeOf9
  v9 := Try.zeroValue9
  t37 := Try.underlying22
  a37 := Try.isAgg22
  z37 := Try.sizeOf22
  v37 := Try.zeroValue22
  t70 := Try.underlying60
  a70 := Try.isAgg60
  z70 := Try.sizeOf60
  v70 := Try.zeroValue60
  t72 := Try.underlying62
  a72 := Try.isAgg62
  z72 := Try.sizeOf62
  v72 := Try.zeroValue62
  t127 := Try.underlying84
  a127 := Try.isAgg84
  z127 := Try.sizeOf84
  v127 := Try.zeroValue84 }
theorem bdExtra : Builder.Extra Try.prog bdRen := {
  sizeBuilder := by kernel_rfl
  liesBuilder := by kernel_rfl
  t5 := Try.underlying5
  a5 := Try.isAgg5
  z5 := Try.sizeOf5
  v5 := Try.zeroValue5
  infoByte := by kernel_rfl
  cellsByte := by kernel_rfl
  sizeByte := by kernel_rfl
  neB5 := by decide }
theorem bdWS (B b : Nat) (bs : List UInt8) (s : ByteArray) (w : World) (h : Lib.IsBuilderF 62 5 B b (Lib.byteCells bs) w) (hlen : bs.length + s.size ≤ 140737488355328) (hBw : B ≤ w.heap.size) :
    Calls Try.prog 39 #[.pointer (some ⟨b, 0, none⟩), .string s] w fun e w' => e = .returned (.tuple #[.int .i64 s.size, .nilIface]) ∧ (Lib.IsBuilderF 62 5 B b (Lib.byteCells (bs ++ s.data.toList)) w' ∧ Below B w w' ∧ Lib.OthersKept 5 (some b) w w') := by
  refine (Any.Builder_WriteString_k bdLays166 bdExtra B b (Lib.byteCells bs) s w h (by rw [Lib.byteCells_length]; exact hlen) hBw).mono ?_
  rintro e w' ⟨rfl, h1, h2⟩
  refine ⟨rfl, .inr ?_, h2⟩
  rw [show Lib.byteCells (bs ++ s.data.toList) = Lib.byteCells bs ++ Lib.strCells s from by simp [Lib.byteCells, Lib.strCells]]
  exact h1
theorem bdWR (B b : Nat) (bs : List UInt8) (r : Int) (hr0 : 0 ≤ r) (hr1 : r ≤ 127) (w : World) (h : Lib.IsBuilderF 62 5 B b (Lib.byteCells bs) w) (hlen : bs.length + 4 ≤ 140737488355328) (hBw : B ≤ w.heap.size) :
    Calls Try.prog 41 #[.pointer (some ⟨b, 0, none⟩), .int .i32 r] w fun e w' => e = .returned (.tuple #[.int .i64 (Lib.runeCells r).length, .nilIface]) ∧ (Lib.IsBuilderF 62 5 B b (Lib.byteCells (bs ++ [r.toNat.toUInt8])) w' ∧ Below B w w' ∧ Lib.OthersKept 5 (some b) w w') := by
  refine (Any.Builder_WriteRune_k bdLays168 bdExtra B b (Lib.byteCells bs) r (by omega) (by omega) w h (by rw [Lib.byteCells_length]; exact hlen) hBw).mono ?_
  rintro e w' ⟨rfl, h1, h2⟩
  refine ⟨rfl, .inr ?_, h2⟩
  rw [show Lib.byteCells (bs ++ [r.toNat.toUInt8]) = Lib.byteCells bs ++ Lib.runeCells r from by
    rw [← Lib.byteCells_encodeRune, Lib.encodeRune, Lib.encodeRuneZ_one hr0 hr1]; simp [Lib.byteCells]]
  exact h1
theorem bdSt (B b : Nat) (l : List UInt8) (w : World) (h : Lib.IsBuilderF 62 5 B b (Lib.byteCells l) w) (hBw : B ≤ w.heap.size) :
    Calls Try.prog 42 #[.pointer (some ⟨b, 0, none⟩)] w fun e w' => e = .returned (.string ⟨l.toArray⟩) ∧ Below B w w' := by
  refine (Any.Builder_String_any_f bdLays169 bdExtra B b l w h hBw).mono ?_
  rintro e w' ⟨rfl, _, h2⟩
  exact ⟨rfl, h2⟩
theorem keepB {T e : TypeId} {B b : Nat} {bs : List Value} {w w' : World} (h : Lib.IsBuilderF T e B b bs w) (hb : Below w.heap.size w w') : Lib.IsBuilderF T e B b bs w' := by
  have one : ∀ p, Lib.BuilderAtF T e B b p bs w → Lib.BuilderAtF T e B b p bs w' := by
    rintro p ⟨hB, v, hbk, hown, hne⟩
    have lt : ∀ {k : Nat} {o : Obj}, w.heap[k]? = some o → k < w.heap.size := fun h => (Array.getElem?_eq_some_iff.1 h).1
    refine ⟨hB, v, (hb.block b (lt hbk)).trans hbk, ⟨hown.1, ?_⟩, hne⟩
    rcases hown.2 with hn | ⟨g, cap, cur, fz, hv, hbg, hg, rest⟩
    · exact .inl hn
    · exact .inr ⟨g, cap, cur, fz, hv, hbg, (hb.block g (lt hg)).trans hg, rest⟩
  exact h.elim (fun x => .inl (one _ x)) (fun x => .inr (one _ x))
theorem keepI {w w' : World} {k : Nat} {s : ByteArray} {pos : Nat} (h : w.heap[k]? = some (.stringIter s pos)) (hb : Below w.heap.size w w') : w'.heap[k]? = some (.stringIter s pos) :=
  (hb.block k (Array.getElem?_eq_some_iff.1 h).1).trans h
theorem upB {w a b : World} (h : Below w.heap.size w a) (k : Below a.heap.size a b) : Below w.heap.size w b :=
  h.trans ⟨k.os, k.tape, k.output, k.size, fun i hi => k.block i (Nat.lt_of_lt_of_le hi h.size)⟩
theorem dec_pos (s : ByteArray) (p : Nat) : 1 ≤ (Utf8.decode s p).2 := by
  unfold Utf8.decode
  dsimp only
  repeat' (first | (show 1 ≤ 1; omega) | (show 1 ≤ 2; omega) | (show 1 ≤ 3; omega) | (show 1 ≤ 4; omega) | split)
set_option maxHeartbeats 6400000 in
set_option maxRecDepth 100000 in
theorem show_walk {le : List UInt8 × Int → Option Int} {di : Int × Int → Option (List UInt8)} (hle : bLe Try.prog 38 le) (hdi : bDi Try.prog 40 di) (N : Nat) (s : ByteArray) (r : List UInt8) (hr : loopN N (showS le di s.data.toList) (0, []) = some r) (w : World) :
    Calls Try.prog 18 #[.string s] w fun e w' => (∃ b : ByteArray, e = .returned (.string b) ∧ b.data.toList = r) ∧ Below w.heap.size w w' := by
  have hLn : s.data.toList.length = s.size := (Lib.size_eq s).symm
  have hI0 : Lib.IsBuilderF 62 5 w.heap.size w.heap.size (Lib.byteCells []) ((w.alloc (.cells #[.pointer none, .slice none 0 0] 62)).iter s 0) := Lib.IsBuilderF.alloc (Lib.IsBuilderF.of (Lib.fresh_isBuilder 62 5 w)) _
  have hk0 : ((w.alloc (.cells #[.pointer none, .slice none 0 0] 62)).iter s 0).heap[w.heap.size + 1]? = some (.stringIter s 0) := by
    have h5 := World.iter_heap (w.alloc (.cells #[.pointer none, .slice none 0 0] 62)) s 0
    simpa using h5
  have hb0 : Below w.heap.size w ((w.alloc (.cells #[.pointer none, .slice none 0 0] 62)).iter s 0) := ((Below.refl _ w).alloc (Nat.le_refl _) _).alloc (by simp) _
  go_enter Try.func18, Try.ntmps18
  go_wp2
  go_loopw [4, 5, 6] (fun _ _ _ wr => ∃ (pos M : Nat) (acc : List UInt8), wr.heap[w.heap.size + 1]? = some (.stringIter s pos) ∧ Lib.IsBuilderF 62 5 w.heap.size w.heap.size (Lib.byteCells acc) wr ∧ Below w.heap.size w wr ∧ acc.length ≤ 70368744177664 ∧ loopN M (showS le di s.data.toList) (pos, acc) = some r)
    (fun _ _ _ wr => s.size - wr.iterPos (w.heap.size + 1))
  case atStart => exact ⟨0, N, [], hk0, hI0, hb0, by simp, hr⟩
  case round =>
    obtain ⟨pos, M, acc, hk, hI, hnx, hal, hlp⟩ := hrel
    clear hI0 hk0 hb0 hr
    by_cases hp : pos < s.size
    · have hnext : ∀ ty, (Instr.next (.pointer (some ⟨w.heap.size + 1, 0, none⟩)) true ty).run Try.prog wr = _ := fun ty => Lib.run_next_any_at wr (w.heap.size + 1) s pos ty hk hp
      obtain ⟨M', t, ht, htl, hlp'⟩ := show_round hlp (by rw [hLn]; exact hp)
      rw [show (⟨⟨s.data.toList⟩⟩ : ByteArray) = s from rfl] at ht hlp'
      obtain ⟨c, hc, hcs⟩ := showT_cases ht
      clear ht hlp
      have hI1 := hI.iterAt hk (pos + (Utf8.decode s pos).2)
      have hk1 := Lib.iterAt_heap wr (w.heap.size + 1) s pos (pos + (Utf8.decode s pos).2) hk
      have hnx1 : Below w.heap.size w (wr.iterAt (w.heap.size + 1) s (pos + (Utf8.decode s pos).2)) := Lib.below_iterAt hnx (by omega) s (pos + (Utf8.decode s pos).2)
      have hmu : wr.iterPos (w.heap.size + 1) = pos := by simp [World.iterPos, hk]
      generalize wr.iterAt (w.heap.size + 1) s (pos + (Utf8.decode s pos).2) = W1 at hnext hI1 hk1 hnx1
      obtain ⟨R, hR⟩ : ∃ R : Nat, (Utf8.decode s pos).1 = R := ⟨_, rfl⟩
      obtain ⟨K, hK⟩ : ∃ K : Nat, (Utf8.decode s pos).2 = K := ⟨_, rfl⟩
      rw [hR] at hnext hc hcs
      rw [hK] at hk1 hlp'
      have hce : le ((s.extract pos s.size).data.toList, (R : Int)) = some c := by
        rw [← hc, Lib.extract_to_end]
      have hsl : ∀ wx, (Instr.slice 9 (.string s) (some (.int .i64 (pos : Int))) none none).run Try.prog wx = .ok (.string (s.extract pos s.size)) wx := fun wx => by
        have := run_slice_string_l (P := Try.prog) (w := wx) (t := 9) (s := s) Try.underlying9 .i64 (pos : Int) (by omega) (by omega)
        simpa using this
      obtain ⟨B, hB⟩ : ∃ B : Int, ((s.data.toList.getD pos 0).toNat : Int) = B := ⟨_, rfl⟩
      rw [hB] at hcs
      have hw8 : wrap64 ((s[pos]'hp).toNat : Int) = B := by
        have hb8 := (s[pos]'hp).toNat_lt
        have e : s.data.toList.getD pos 0 = s[pos]'hp := by
          have hq : pos < s.data.toList.length := by omega
          rw [List.getD_eq_getElem?_getD, List.getElem?_eq_getElem hq]; rfl
        rw [e] at hB
        rw [← hB]
        generalize (s[pos]'hp).toNat = X at hb8
        unfold wrap64
        omega
      clear hB
      have hK1 : 1 ≤ K := by rw [← hK]; exact dec_pos s pos
      have fin : ∀ (b : ByteArray) (W4 : World), Lib.IsBuilderF 62 5 w.heap.size w.heap.size (Lib.byteCells (acc ++ b.data.toList)) W4 → b.data.toList = t → Below w.heap.size w W4 → W4.heap[w.heap.size + 1]? = some (.stringIter s (pos + K)) →
          (∃ (pos M : Nat) (acc : List UInt8), W4.heap[w.heap.size + 1]? = some (.stringIter s pos) ∧ Lib.IsBuilderF 62 5 w.heap.size w.heap.size (Lib.byteCells acc) W4 ∧ Below w.heap.size w W4 ∧ acc.length ≤ 70368744177664 ∧ loopN M (showS le di s.data.toList) (pos, acc) = some r) ∧ s.size - W4.iterPos (w.heap.size + 1) < s.size - wr.iterPos (w.heap.size + 1) := by
        intro b W4 h1 h2 h3 h4
        refine ⟨⟨pos + K, M', acc ++ t, h4, ?_, h3, htl, hlp'⟩, ?_⟩
        · rw [← h2]; exact h1
        · have : W4.iterPos (w.heap.size + 1) = pos + K := by simp [World.iterPos, h4]
          rw [hmu, this]; omega
      clear hlp'
      rcases hcs with ⟨rfl, u, hu, et⟩ | ⟨c1, c2, rfl, et⟩ | ⟨c1, c2, c3, c4, rfl, et⟩ | ⟨c1, c2, c3, c4, c5, u, hu, et⟩ | ⟨c1, c2, c3, c4, c5, u, hu, et⟩
      · have hul : acc.length + (2 + u.length) ≤ 70368744177664 := by rw [et] at htl; simp only [List.length_append, List.length_cons, List.length_nil] at htl; omega
        go_wp2_with (first
          | (go_at_call 38; refine (hle (s.extract pos s.size) R (-1) hce W1).mono ?_; rintro e W2 ⟨rfl, hb2⟩; have hI2 := keepB hI1 hb2; have hk2 := keepI hk1 hb2; have hn2 := upB hnx1 hb2)
          | (go_at_call 40; rw [hw8]; refine (hdi _ _ _ hu W2).mono ?_; rintro e W3 ⟨⟨b, rfl, hbu⟩, hb3⟩; have hI3 := keepB hI2 hb3; have hk3 := keepI hk2 hb3; have hn3 := upB hn2 hb3; have hbz : b.size = u.length := by rw [← hbu]; exact Lib.size_eq b)
          | (go_at_call 39; refine (bdWS w.heap.size w.heap.size acc _ W3 hI3 ?_ ?_).mono ?_; (· simp only [ByteArray.size_append, hbz]; show acc.length + (2 + u.length) ≤ _; omega); (· exact hn3.size); rintro e W4 ⟨rfl, hI4, hb4, hkp⟩; have hk4 := hkp.iter hk3 (by omega)))
        all_goals exact fin _ W4 hI4 (by rw [et, ← hbu]; simp) (hn3.trans hb4) hk4
      · rcases c2 with c2 | c2
        · obtain rfl : R = 34 := by omega
          have hz1 : (Utf8.encode 34).size = 1 := by decide
          have hz2 : (Utf8.encode 34).data.toList = [34] := by decide
          have hal2 : acc.length + 2 ≤ 70368744177664 := by rw [et] at htl; simp only [List.length_append, List.length_cons, List.length_nil] at htl; omega
          go_wp2_with (first
            | (go_at_call 38; refine (hle (s.extract pos s.size) 34 34 hce W1).mono ?_; rintro e W2 ⟨rfl, hb2⟩; have hI2 := keepB hI1 hb2; have hk2 := keepI hk1 hb2; have hn2 := upB hnx1 hb2)
            | (go_at_call 39; refine (bdWS w.heap.size w.heap.size acc _ W2 hI2 ?_ ?_).mono ?_; (· simp only [ByteArray.size_append, hz1]; show acc.length + (1 + 1) ≤ _; omega); (· exact hn2.size); rintro e W4 ⟨rfl, hI4, hb4, hkp⟩; have hk4 := hkp.iter hk2 (by omega)))
          all_goals exact fin _ W4 hI4 (by rw [et, ByteArray.data_append, Array.toList_append, hz2]; rfl) (hn2.trans hb4) hk4
        · obtain rfl : R = 92 := by omega
          have hz1 : (Utf8.encode 92).size = 1 := by decide
          have hz2 : (Utf8.encode 92).data.toList = [92] := by decide
          have hal2 : acc.length + 2 ≤ 70368744177664 := by rw [et] at htl; simp only [List.length_append, List.length_cons, List.length_nil] at htl; omega
          go_wp2_with (first
            | (go_at_call 38; refine (hle (s.extract pos s.size) 92 92 hce W1).mono ?_; rintro e W2 ⟨rfl, hb2⟩; have hI2 := keepB hI1 hb2; have hk2 := keepI hk1 hb2; have hn2 := upB hnx1 hb2)
            | (go_at_call 39; refine (bdWS w.heap.size w.heap.size acc _ W2 hI2 ?_ ?_).mono ?_; (· simp only [ByteArray.size_append, hz1]; show acc.length + (1 + 1) ≤ _; omega); (· exact hn2.size); rintro e W4 ⟨rfl, hI4, hb4, hkp⟩; have hk4 := hkp.iter hk2 (by omega)))
          all_goals exact fin _ W4 hI4 (by rw [et, ByteArray.data_append, Array.toList_append, hz2]; rfl) (hn2.trans hb4) hk4
      · have d2 : ((R : Int) == 34) = false := by simpa using c2
        have d3 : ((R : Int) == 92) = false := by simpa using c3
        have hal2 : acc.length + 1 ≤ 70368744177664 := by rw [et] at htl; simp only [List.length_append, List.length_cons, List.length_nil] at htl; omega
        go_wp2_with (first
          | (go_at_call 38; refine (hle (s.extract pos s.size) R R hce W1).mono ?_; rintro e W2 ⟨rfl, hb2⟩; have hI2 := keepB hI1 hb2; have hk2 := keepI hk1 hb2; have hn2 := upB hnx1 hb2)
          | (go_at_call 41; refine (bdWR w.heap.size w.heap.size acc R (by omega) (by omega) W2 hI2 (by omega) hn2.size).mono ?_; rintro e W4 ⟨rfl, hI4, hb4, hkp⟩; have hk4 := hkp.iter hk2 (by omega)))
        all_goals exact fin ⟨⟨t⟩⟩ W4 (by rw [et]; exact hI4) rfl (hn2.trans hb4) hk4
      · have d2 : (c == 34) = false := by simpa using c2
        have d3 : (c == 92) = false := by simpa using c3
        have hul : acc.length + (2 + u.length) ≤ 70368744177664 := by rw [et] at htl; simp only [List.length_append, List.length_cons, List.length_nil] at htl; omega
        go_wp2_with (first
          | (go_at_call 38; refine (hle (s.extract pos s.size) R c hce W1).mono ?_; rintro e W2 ⟨rfl, hb2⟩; have hI2 := keepB hI1 hb2; have hk2 := keepI hk1 hb2; have hn2 := upB hnx1 hb2)
          | (go_at_call 40; refine (hdi _ _ _ hu W2).mono ?_; rintro e W3 ⟨⟨b, rfl, hbu⟩, hb3⟩; have hI3 := keepB hI2 hb3; have hk3 := keepI hk2 hb3; have hn3 := upB hn2 hb3; have hbz : b.size = u.length := by rw [← hbu]; exact Lib.size_eq b)
          | (go_at_call 39; refine (bdWS w.heap.size w.heap.size acc _ W3 hI3 ?_ ?_).mono ?_; (· simp only [ByteArray.size_append, hbz]; show acc.length + (2 + u.length) ≤ _; omega); (· exact hn3.size); rintro e W4 ⟨rfl, hI4, hb4, hkp⟩; have hk4 := hkp.iter hk3 (by omega)))
        all_goals exact fin _ W4 hI4 (by rw [et, ← hbu]; simp) (hn3.trans hb4) hk4
      · have d2 : (c == 34) = false := by simpa using c2
        have d3 : (c == 92) = false := by simpa using c3
        have hul : acc.length + (2 + u.length) ≤ 70368744177664 := by rw [et] at htl; simp only [List.length_append, List.length_cons, List.length_nil] at htl; omega
        go_wp2_with (first
          | (go_at_call 38; refine (hle (s.extract pos s.size) R c hce W1).mono ?_; rintro e W2 ⟨rfl, hb2⟩; have hI2 := keepB hI1 hb2; have hk2 := keepI hk1 hb2; have hn2 := upB hnx1 hb2)
          | (go_at_call 40; refine (hdi _ _ _ hu W2).mono ?_; rintro e W3 ⟨⟨b, rfl, hbu⟩, hb3⟩; have hI3 := keepB hI2 hb3; have hk3 := keepI hk2 hb3; have hn3 := upB hn2 hb3; have hbz : b.size = u.length := by rw [← hbu]; exact Lib.size_eq b)
          | (go_at_call 39; refine (bdWS w.heap.size w.heap.size acc _ W3 hI3 ?_ ?_).mono ?_; (· simp only [ByteArray.size_append, hbz]; show acc.length + (2 + u.length) ≤ _; omega); (· exact hn3.size); rintro e W4 ⟨rfl, hI4, hb4, hkp⟩; have hk4 := hkp.iter hk3 (by omega)))
        all_goals exact fin _ W4 hI4 (by rw [et, ← hbu]; simp) (hn3.trans hb4) hk4
    · have hnext : ∀ ty, (Instr.next (.pointer (some ⟨w.heap.size + 1, 0, none⟩)) true ty).run Try.prog wr = _ := fun ty => Lib.run_next_end_at wr (w.heap.size + 1) s pos ty hk hp
      have hre := show_end hlp (by rw [hLn]; exact hp)
      go_wp2_with (go_at_call 42; refine (bdSt w.heap.size w.heap.size acc wr hI hnx.size).mono ?_; rintro e W2 ⟨rfl, hb2⟩)
      go_ret
      exact ⟨⟨_, rfl, hre.symm⟩, hnx.trans hb2⟩
end
noncomputable def u_text_Count : Uf := ⟨13, 11, Try.f13, [.val .str], [],
⟨[(2, .val (.int .i64))], []⟩, [],
[(3, .loop [] ⟨[(3, .val (.int .i64)), (5, .ptr 600005 0)], [(600005, .iter)]⟩ [(.exit 0, ⟨[(3, .val (.int .i64))], []⟩)])],
[], fun y => (valW (.int .i64) y, [], [])⟩
noncomputable def V_text_Count (N : Nat) (x : List UInt8) : Option (Int) :=
  obind (loopN N (fun (v : Int × List UInt8 × Int) => cnd (decide (Int.toNat v.2.2 < List.length v.2.1)) (some (Sum.inl (wr .i64 (v.1 + (1:Int)), v.2.1,
    (↑(Int.toNat v.2.2 + Prod.snd (Utf8.decode { data := { toList := v.2.1 } } (Int.toNat v.2.2))) : Int)))) (some (Sum.inr v.1))) ((0:Int), x,
    (↑(0:Nat) : Int))) fun (b : Int) => some b
theorem q_text_Count : ∀ N x, u_text_Count.F L0 P0 (orcOf []) N x = V_text_Count N x := by intros; kernel_rfl
noncomputable def W_text_Count (N : Nat) := V_text_Count N
theorem con_text_Count_ok (N : Nat) : (u_text_Count.con (W_text_Count N)).ok P0 := Uf.ok mixed (q_text_Count N) trivial Try.func13 (by kernel_rfl) fun x y => by kernel_rfl
noncomputable def u_internal_stringslite_HasPrefix : Uf := ⟨58, 18, Try.f58, [.val .str, .val .str], [],
⟨[(4, .val .bool)], []⟩, [],
[],
[], fun y => (valW .bool y, [], [])⟩
noncomputable def V_internal_stringslite_HasPrefix (N : Nat) (x : (List UInt8) × List UInt8) : Option (Bool) :=
  cnd (decide ((↑(List.length x.2) : Int) ≤ (↑(List.length x.1) : Int))) (cnd (decide ((0:Int) ≤ (↑(List.length x.2) : Int)) && decide ((↑(List.length x.2) : Int) ≤ (↑(List.length x.1) : Int))) (some (List.drop (0:Nat) (List.take (Int.toNat (↑(List.length x.2) : Int)) x.1) == x.2)) none) (some false)
theorem q_internal_stringslite_HasPrefix : ∀ N x, u_internal_stringslite_HasPrefix.F L0 P0 (orcOf []) N x = V_internal_stringslite_HasPrefix N x := by intros; kernel_rfl
noncomputable def W_internal_stringslite_HasPrefix (N : Nat) := V_internal_stringslite_HasPrefix N
theorem con_internal_stringslite_HasPrefix_ok (N : Nat) : (u_internal_stringslite_HasPrefix.con (W_internal_stringslite_HasPrefix N)).ok P0 := Uf.ok mixed (q_internal_stringslite_HasPrefix N) trivial Try.func58 (by kernel_rfl) fun x y => by kernel_rfl
noncomputable def u_strings_HasPrefix : Uf := ⟨54, 8, Try.f54, [.val .str, .val .str], [],
⟨[(4, .val .bool)], []⟩, [],
[],
[], fun y => (valW .bool y, [], [])⟩
noncomputable def V_strings_HasPrefix (w_internal_stringslite_HasPrefix : (List UInt8) × List UInt8 → Option (Bool)) (N : Nat) (x : (List UInt8) × List UInt8) : Option (Bool) :=
  obind (w_internal_stringslite_HasPrefix x) fun b => some b
theorem q_strings_HasPrefix : ∀ w_internal_stringslite_HasPrefix N x, u_strings_HasPrefix.F L0 P0 (orcOf [u_internal_stringslite_HasPrefix.con w_internal_stringslite_HasPrefix]) N x = V_strings_HasPrefix w_internal_stringslite_HasPrefix N x := by intros; kernel_rfl
noncomputable def W_strings_HasPrefix (N : Nat) := V_strings_HasPrefix (W_internal_stringslite_HasPrefix N) N
theorem con_strings_HasPrefix_ok (N : Nat) : (u_strings_HasPrefix.con (W_strings_HasPrefix N)).ok P0 := Uf.ok mixed (q_strings_HasPrefix (W_internal_stringslite_HasPrefix N) N) ⟨con_internal_stringslite_HasPrefix_ok N, trivial⟩ Try.func54 (by kernel_rfl) fun x y => by kernel_rfl
noncomputable def u_text_letter : Uf := ⟨38, 14, Try.f38, [.val .str, .val (.int .i32)], [],
⟨[(4, .val (.int .i64))], []⟩, [],
[],
[], fun y => (valW (.int .i64) y, [], [])⟩
noncomputable def V_text_letter (w_strings_HasPrefix : (List UInt8) × List UInt8 → Option (Bool)) (N : Nat) (x : (List UInt8) × Int) : Option (Int) :=
  cnd (decide (x.2 = (65533:Int))) (obind (w_strings_HasPrefix (x.1, [(239 : UInt8), (191 : UInt8), (189 : UInt8)])) fun b => cnd (!b) (some (-1 : Int)) (some (wr .i64 x.2))) (some (wr .i64 x.2))
theorem q_text_letter : ∀ w_strings_HasPrefix N x, u_text_letter.F L0 P0 (orcOf [u_strings_HasPrefix.con w_strings_HasPrefix]) N x = V_text_letter w_strings_HasPrefix N x := by intros; kernel_rfl
noncomputable def W_text_letter (N : Nat) := V_text_letter (W_strings_HasPrefix N) N
theorem con_text_letter_ok (N : Nat) : (u_text_letter.con (W_text_letter N)).ok P0 := Uf.ok mixed (q_text_letter (W_strings_HasPrefix N) N) ⟨con_strings_HasPrefix_ok N, trivial⟩ Try.func38 (by kernel_rfl) fun x y => by kernel_rfl
noncomputable def u_text_Letters : Uf := ⟨12, 21, Try.f12, [.val .str], [],
⟨[(2, .val (.list (.int .i64)))], []⟩, [],
[(3, .loop [] ⟨[(3, .acc 700003), (7, .ptr 600007 0)], [(700003, .nrow 3 (.int .i64) true true), (600007, .iter)]⟩ [(.exit 0, ⟨[(3, .val (.list (.int .i64)))], []⟩)])],
[], fun y => (valW (.list (.int .i64)) y, [], [])⟩
noncomputable def V_text_Letters (w_text_letter : (List UInt8) × Int → Option (Int)) (N : Nat) (x : List UInt8) : Option (List Int) :=
  obind (loopN N (fun (v : List Int × List UInt8 × Int) => cnd (decide (Int.toNat v.2.2 < List.length v.2.1)) (cnd (decide ((0:Int) ≤ (↑(Int.toNat
    v.2.2) : Int)) && decide ((↑(Int.toNat v.2.2) : Int) ≤ (↑(List.length x) : Int))) (obind (w_text_letter (List.drop (Int.toNat (↑(Int.toNat v.2.2)
    : Int)) (List.take (List.length x) x), (↑(Prod.fst (Utf8.decode { data := { toList := v.2.1 } } (Int.toNat v.2.2))) : Int))) fun b => cnd (decide
    ((List.length v.1 + List.length [b]) * (8:Nat) ≤ (140737488355328:Nat))) (some (Sum.inl (v.1 ++ [b], v.2.1, (↑(Int.toNat v.2.2 + Prod.snd
    (Utf8.decode { data := { toList := v.2.1 } } (Int.toNat v.2.2))) : Int)))) none) none) (some (Sum.inr v.1))) ([], x, (↑(0:Nat) : Int))) fun (b :
    List Int) => some b
theorem q_text_Letters : ∀ w_text_letter N x, u_text_Letters.F L0 P0 (orcOf [u_text_letter.con w_text_letter]) N x = V_text_Letters w_text_letter N x := by intros; kernel_rfl
noncomputable def W_text_Letters (N : Nat) := V_text_Letters (W_text_letter N) N
theorem con_text_Letters_ok (N : Nat) : (u_text_Letters.con (W_text_Letters N)).ok P0 := Uf.ok mixed (q_text_Letters (W_text_letter N) N) ⟨con_text_letter_ok N, trivial⟩ Try.func12 (by kernel_rfl) fun x y => by kernel_rfl
noncomputable def u_text_Cut : Uf := ⟨14, 24, Try.f14, [.val .str, .val (.int .i64)], [],
⟨[(4, .val .str)], []⟩, [],
[(5, .loop [] ⟨[(5, .val (.int .i64)), (13, .ptr 600013 0)], [(600013, .iter)]⟩ [(.exit 0, ⟨[(5, .val (.int .i64))], []⟩)])],
[], fun y => (valW .str y, [], [])⟩
noncomputable def V_text_Cut (N : Nat) (x : (List UInt8) × Int) : Option (List UInt8) :=
  cnd (decide ((↑(List.length x.1) : Int) ≤ x.2)) (some x.1) (obind (loopN N (fun (v : Int × List UInt8 × Int) => cnd (decide (Int.toNat v.2.2 <
    List.length v.2.1)) (cnd (decide (x.2 < (↑(Int.toNat v.2.2) : Int))) (some (Sum.inr v.1)) (some (Sum.inl ((↑(Int.toNat v.2.2) : Int), v.2.1,
    (↑(Int.toNat v.2.2 + Prod.snd (Utf8.decode { data := { toList := v.2.1 } } (Int.toNat v.2.2))) : Int))))) (some (Sum.inr v.1))) ((0:Int), x.1,
    (↑(0:Nat) : Int))) fun (b : Int) => cnd (decide ((0:Int) ≤ b) && decide (b ≤ (↑(List.length x.1) : Int))) (some (List.drop (0:Nat) (List.take
    (Int.toNat b) x.1))) none)
theorem q_text_Cut : ∀ N x, u_text_Cut.F L0 P0 (orcOf []) N x = V_text_Cut N x := by intros; kernel_rfl
noncomputable def W_text_Cut (N : Nat) := V_text_Cut N
theorem con_text_Cut_ok (N : Nat) : (u_text_Cut.con (W_text_Cut N)).ok P0 := Uf.ok mixed (q_text_Cut N) trivial Try.func14 (by kernel_rfl) fun x y => by kernel_rfl
noncomputable def u_text_Name : Uf := ⟨16, 36, Try.f16, [.val .str], [],
⟨[(2, .val .bool)], []⟩, [],
[(3, .loop [] ⟨[(3, .val (.int .i64)), (8, .ptr 600008 0)], [(600008, .iter)]⟩ [(.exit 0, ⟨[(3, .val (.int .i64))], []⟩), (.ret, ⟨[(2, .val .bool)], []⟩)])],
[], fun y => (valW .bool y, [], [])⟩
noncomputable def V_text_Name (w_text_letter : (List UInt8) × Int → Option (Int)) (N : Nat) (x : List UInt8) : Option (Bool) :=
  obind (loopN N (fun (v : Int × List UInt8 × Int) => cnd (decide (Int.toNat v.2.2 < List.length v.2.1)) (cnd (decide ((0:Int) ≤ (↑(Int.toNat v.2.2) :
    Int)) && decide ((↑(Int.toNat v.2.2) : Int) ≤ (↑(List.length x) : Int))) (obind (w_text_letter (List.drop (Int.toNat (↑(Int.toNat v.2.2) : Int))
    (List.take (List.length x) x), (↑(Prod.fst (Utf8.decode { data := { toList := v.2.1 } } (Int.toNat v.2.2))) : Int))) fun b => cnd (decide (b <
    (33:Int))) (some (Sum.inr (Sum.inr false))) (cnd (decide ((127:Int) ≤ b)) (cnd (decide (b ≤ (159:Int))) (some (Sum.inr (Sum.inr false))) (some
    (Sum.inl (wr .i64 (v.1 + (1:Int)), v.2.1, (↑(Int.toNat v.2.2 + Prod.snd (Utf8.decode { data := { toList := v.2.1 } } (Int.toNat v.2.2))) : Int)))))
    (some (Sum.inl (wr .i64 (v.1 + (1:Int)), v.2.1, (↑(Int.toNat v.2.2 + Prod.snd (Utf8.decode { data := { toList := v.2.1 } } (Int.toNat v.2.2))) :
    Int)))))) none) (some (Sum.inr (Sum.inl v.1)))) ((0:Int), x, (↑(0:Nat) : Int))) fun (b : Int ⊕ Bool) => selim (fun (b : Int) => cnd (decide ((1:Int)
    ≤ b)) (some (decide (b ≤ (8:Int)))) (some false)) (fun (c : Bool) => some c) b
theorem q_text_Name : ∀ w_text_letter N x, u_text_Name.F L0 P0 (orcOf [u_text_letter.con w_text_letter]) N x = V_text_Name w_text_letter N x := by intros; kernel_rfl
noncomputable def W_text_Name (N : Nat) := V_text_Name (W_text_letter N) N
theorem con_text_Name_ok (N : Nat) : (u_text_Name.con (W_text_Name N)).ok P0 := Uf.ok mixed (q_text_Name (W_text_letter N) N) ⟨con_text_letter_ok N, trivial⟩ Try.func16 (by kernel_rfl) fun x y => by kernel_rfl
noncomputable def u_text_digits : Uf := ⟨40, 21, Try.f40, [.val (.int .i64), .val (.int .i64)], [],
⟨[(4, .val .str)], []⟩, [],
[(3, .loop [] ⟨[(0, .val (.int .i64)), (5, .val .str), (7, .val (.int .i64))], []⟩ [(.exit 0, ⟨[(5, .val .str)], []⟩)])],
[], fun y => (valW .str y, [], [])⟩
noncomputable def V_text_digits (N : Nat) (x : Int × Int) : Option (List UInt8) :=
  obind (loopN N (fun (v : Int × List UInt8 × Int) => cnd (decide (v.2.2 < x.2)) (cnd (decide ((0:Int) ≤ Int.tmod v.1 (16:Int)) && decide (Int.tmod v.1
    (16:Int) ≤ wr .i64 (Int.tmod v.1 (16:Int) + (1:Int))) && decide (wr .i64 (Int.tmod v.1 (16:Int) + (1:Int)) ≤ (↑(16:Nat) : Int))) (cnd (decide
    (List.length (List.drop (Int.toNat (Int.tmod v.1 (16:Int))) (List.take (Int.toNat (wr .i64 (Int.tmod v.1 (16:Int) + (1:Int)))) [(48 : UInt8), (49 :
    UInt8), (50 : UInt8), (51 : UInt8), (52 : UInt8), (53 : UInt8), (54 : UInt8), (55 : UInt8), (56 : UInt8), (57 : UInt8), (97 : UInt8), (98 : UInt8),
    (99 : UInt8), (100 : UInt8), (101 : UInt8), (102 : UInt8)])) + List.length v.2.1 ≤ (9223372036854775807:Nat))) (some (Sum.inl (wr .i64 (Int.tdiv v.1
    (16:Int)), List.drop (Int.toNat (Int.tmod v.1 (16:Int))) (List.take (Int.toNat (wr .i64 (Int.tmod v.1 (16:Int) + (1:Int)))) [(48 : UInt8), (49 :
    UInt8), (50 : UInt8), (51 : UInt8), (52 : UInt8), (53 : UInt8), (54 : UInt8), (55 : UInt8), (56 : UInt8), (57 : UInt8), (97 : UInt8), (98 : UInt8),
    (99 : UInt8), (100 : UInt8), (101 : UInt8), (102 : UInt8)]) ++ v.2.1, wr .i64 (v.2.2 + (1:Int))))) none) none) (some (Sum.inr v.2.1))) (x.1, [],
    (0:Int))) fun (b : List UInt8) => some b
theorem q_text_digits : ∀ N x, u_text_digits.F L0 P0 (orcOf []) N x = V_text_digits N x := by intros; kernel_rfl
noncomputable def W_text_digits (N : Nat) := V_text_digits N
theorem con_text_digits_ok (N : Nat) : (u_text_digits.con (W_text_digits N)).ok P0 := Uf.ok mixed (q_text_digits N) trivial Try.func40 (by kernel_rfl) fun x y => by kernel_rfl
def as_text_Show : List AS := [.val .str]
def bs_text_Show : List BS := []
def out_text_Show (y : List UInt8) : V × List OK × List OK := (.str y, [], [])
noncomputable def W_text_Show (N : Nat) (x : List UInt8) : Option (List UInt8) :=
  loopN N (showS (W_text_letter N) (W_text_digits N) x) ((0:Nat), ([] : List UInt8))
noncomputable def conw_text_Show (w : List UInt8 → Option (List UInt8)) : Con := ⟨18, as_text_Show, bs_text_Show, List UInt8, w, out_text_Show⟩
noncomputable def con_text_Show (N : Nat) : Con := conw_text_Show (W_text_Show N)
theorem con_text_Show_ok (N : Nat) : Con.ok P0 (con_text_Show N) := ⟨⟨Try.f18, Try.func18, by kernel_rfl, by kernel_rfl⟩, fun (x : List UInt8) (r : List UInt8) (hr : W_text_Show N x = some r) => show_spec (show_walk (bLe_of fun x r h => (con_text_letter_ok N).2 x r h) (bDi_of fun x r h => (con_text_digits_ok N).2 x r h) N) hr⟩
noncomputable def u_law1_begun : Uf := ⟨9, 23, Try.f9, [], [],
⟨[(0, .val .bool)], []⟩, [],
[],
[(1000001, .reg [(7, [], ⟨[(7, .val .bool)], []⟩), (4, [], ⟨[(11, .val .bool)], []⟩), (3, [], ⟨[(14, .val .bool)], []⟩), (4, [], ⟨[(18, .val .bool)], []⟩)])], fun y => (valW .bool y, [], [])⟩
noncomputable def V_law1_begun (w_text_Count : List UInt8 → Option (Int)) (w_text_Letters : List UInt8 → Option (List Int)) (w_text_Cut : (List UInt8) × Int → Option (List UInt8)) (w_text_Name : List UInt8 → Option (Bool)) (w_text_Show : List UInt8 → Option (List UInt8)) (N : Nat) (x : Unit) : Option (Bool) :=
  obind (obind (w_text_Count [(110 : UInt8), (195 : UInt8), (169 : UInt8)]) fun b => cnd (decide (b = (2:Int))) (obind (w_text_Letters [(110 :
    UInt8), (195 : UInt8), (169 : UInt8)]) fun b => some (decide ((↑(List.length b) : Int) = (2:Int)))) (some false)) fun (b : Bool) => obind (cnd b
    (obind (w_text_Cut ([(110 : UInt8), (195 : UInt8), (169 : UInt8)], (2:Int))) fun b => some (b == [(110 : UInt8)])) (some false)) fun (b : Bool) =>
    obind (cnd b (obind (w_text_Name [(110 : UInt8), (195 : UInt8), (169 : UInt8)]) fun b => some b) (some false)) fun (b : Bool) => obind (cnd b
    (obind (w_text_Name []) fun b => some !b) (some false)) fun (b : Bool) => cnd b (obind (w_text_Show [(195 : UInt8), (169 : UInt8)]) fun b =>
    some (b == [(92 : UInt8), (117 : UInt8), (48 : UInt8), (48 : UInt8), (101 : UInt8), (57 : UInt8)])) (some false)
theorem q_law1_begun : ∀ w_text_Count w_text_Letters w_text_Cut w_text_Name w_text_Show N x, u_law1_begun.F L0 P0 (orcOf [u_text_Count.con w_text_Count, u_text_Letters.con w_text_Letters, u_text_Cut.con w_text_Cut, u_text_Name.con w_text_Name, conw_text_Show w_text_Show]) N x = V_law1_begun w_text_Count w_text_Letters w_text_Cut w_text_Name w_text_Show N x := by intros; kernel_rfl
noncomputable def W_law1_begun (N : Nat) := V_law1_begun (W_text_Count N) (W_text_Letters N) (W_text_Cut N) (W_text_Name N) (W_text_Show N) N
theorem con_law1_begun_ok (N : Nat) : (u_law1_begun.con (W_law1_begun N)).ok P0 := Uf.ok mixed (q_law1_begun (W_text_Count N) (W_text_Letters N) (W_text_Cut N) (W_text_Name N) (W_text_Show N) N) ⟨con_text_Count_ok N, con_text_Letters_ok N, con_text_Cut_ok N, con_text_Name_ok N, con_text_Show_ok N, trivial⟩ Try.func9 (by kernel_rfl) fun x y => by kernel_rfl
noncomputable def u_ref1_Letter : Uf := ⟨37, 86, Try.f37, [.val .str], [],
⟨[(2, .val (.int .i64)), (3, .val (.int .i64))], []⟩, [],
[(15, .loop [] ⟨[(4, .val (.int .i64)), (7, .val (.int .i64))], []⟩ [(.exit 1, ⟨[(4, .val (.int .i64))], []⟩), (.ret, ⟨[(2, .val (.int .i64)), (3, .val (.int .i64))], []⟩)])],
[(1000020, .reg [(7, [], ⟨[(75, .val .bool)], []⟩)]),
(12, .cut [] [(.normal, ⟨[(4, .val (.int .i64)), (5, .val (.int .i64)), (6, .val (.int .i64))], []⟩), (.ret, ⟨[(2, .val (.int .i64)), (3, .val (.int .i64))], []⟩)])], fun y => (.tup [valW (.int .i64) y.1, valW (.int .i64) y.2], [], [])⟩
noncomputable def V_ref1_Letter (N : Nat) (x : List UInt8) : Option (Int × Int) :=
  cnd (decide ((0:Int) ≤ (0:Int)) && decide ((0:Int) < (↑(List.length x) : Int))) (obind (cnd (decide (wr .i64 (↑(UInt8.toNat (List.getD x (0:Nat) (0 :
    UInt8))) : Int) < (128:Int))) (some (Sum.inr (wr .i64 (↑(UInt8.toNat (List.getD x (0:Nat) (0 : UInt8))) : Int), (1:Int)))) (cnd (decide ((194:Int) ≤
    wr .i64 (↑(UInt8.toNat (List.getD x (0:Nat) (0 : UInt8))) : Int))) (cnd (decide (wr .i64 (↑(UInt8.toNat (List.getD x (0:Nat) (0 : UInt8))) : Int) ≤
    (223:Int))) (some (Sum.inl (wr .i64 (wr .i64 (↑(UInt8.toNat (List.getD x (0:Nat) (0 : UInt8))) : Int) - (192:Int)), (2:Int), (128:Int)))) (cnd
    (decide ((224:Int) ≤ wr .i64 (↑(UInt8.toNat (List.getD x (0:Nat) (0 : UInt8))) : Int))) (cnd (decide (wr .i64 (↑(UInt8.toNat (List.getD x (0:Nat) (0
    : UInt8))) : Int) ≤ (239:Int))) (some (Sum.inl (wr .i64 (wr .i64 (↑(UInt8.toNat (List.getD x (0:Nat) (0 : UInt8))) : Int) - (224:Int)), (3:Int),
    (2048:Int)))) (cnd (decide ((240:Int) ≤ wr .i64 (↑(UInt8.toNat (List.getD x (0:Nat) (0 : UInt8))) : Int))) (cnd (decide (wr .i64 (↑(UInt8.toNat
    (List.getD x (0:Nat) (0 : UInt8))) : Int) ≤ (244:Int))) (some (Sum.inl (wr .i64 (wr .i64 (↑(UInt8.toNat (List.getD x (0:Nat) (0 : UInt8))) : Int) -
    (240:Int)), (4:Int), (65536:Int)))) (some (Sum.inr ((-1 : Int), (1:Int))))) (some (Sum.inr ((-1 : Int), (1:Int)))))) (cnd (decide ((240:Int) ≤ wr
    .i64 (↑(UInt8.toNat (List.getD x (0:Nat) (0 : UInt8))) : Int))) (cnd (decide (wr .i64 (↑(UInt8.toNat (List.getD x (0:Nat) (0 : UInt8))) : Int) ≤
    (244:Int))) (some (Sum.inl (wr .i64 (wr .i64 (↑(UInt8.toNat (List.getD x (0:Nat) (0 : UInt8))) : Int) - (240:Int)), (4:Int), (65536:Int)))) (some
    (Sum.inr ((-1 : Int), (1:Int))))) (some (Sum.inr ((-1 : Int), (1:Int))))))) (cnd (decide ((224:Int) ≤ wr .i64 (↑(UInt8.toNat (List.getD x (0:Nat) (0
    : UInt8))) : Int))) (cnd (decide (wr .i64 (↑(UInt8.toNat (List.getD x (0:Nat) (0 : UInt8))) : Int) ≤ (239:Int))) (some (Sum.inl (wr .i64 (wr .i64
    (↑(UInt8.toNat (List.getD x (0:Nat) (0 : UInt8))) : Int) - (224:Int)), (3:Int), (2048:Int)))) (cnd (decide ((240:Int) ≤ wr .i64 (↑(UInt8.toNat
    (List.getD x (0:Nat) (0 : UInt8))) : Int))) (cnd (decide (wr .i64 (↑(UInt8.toNat (List.getD x (0:Nat) (0 : UInt8))) : Int) ≤ (244:Int))) (some
    (Sum.inl (wr .i64 (wr .i64 (↑(UInt8.toNat (List.getD x (0:Nat) (0 : UInt8))) : Int) - (240:Int)), (4:Int), (65536:Int)))) (some (Sum.inr ((-1 :
    Int), (1:Int))))) (some (Sum.inr ((-1 : Int), (1:Int)))))) (cnd (decide ((240:Int) ≤ wr .i64 (↑(UInt8.toNat (List.getD x (0:Nat) (0 : UInt8))) :
    Int))) (cnd (decide (wr .i64 (↑(UInt8.toNat (List.getD x (0:Nat) (0 : UInt8))) : Int) ≤ (244:Int))) (some (Sum.inl (wr .i64 (wr .i64 (↑(UInt8.toNat
    (List.getD x (0:Nat) (0 : UInt8))) : Int) - (240:Int)), (4:Int), (65536:Int)))) (some (Sum.inr ((-1 : Int), (1:Int))))) (some (Sum.inr ((-1 : Int),
    (1:Int)))))))) fun (b : Int × Int × Int ⊕ Int × Int) => selim (fun (b : Int × Int × Int) => cnd (decide ((↑(List.length x) : Int) < b.2.1)) (some
    ((-1 : Int), (1:Int))) (obind (loopN N (fun (v : Int × Int) => cnd (decide (v.2 < b.2.1)) (cnd (decide ((0:Int) ≤ v.2) && decide (v.2 <
    (↑(List.length x) : Int))) (cnd (decide ((↑(UInt8.toNat (List.getD x (Int.toNat v.2) (0 : UInt8))) : Int) < (128:Int))) (some (Sum.inr (Sum.inr ((-1
    : Int), (1:Int))))) (cnd (decide ((0:Int) ≤ v.2) && decide (v.2 < (↑(List.length x) : Int))) (cnd (decide ((191:Int) < (↑(UInt8.toNat (List.getD x
    (Int.toNat v.2) (0 : UInt8))) : Int))) (some (Sum.inr (Sum.inr ((-1 : Int), (1:Int))))) (cnd (decide ((0:Int) ≤ v.2) && decide (v.2 < (↑(List.length
    x) : Int))) (some (Sum.inl (wr .i64 (wr .i64 (wr .i64 (v.1 * (64:Int)) + wr .i64 (↑(UInt8.toNat (List.getD x (Int.toNat v.2) (0 : UInt8))) : Int)) -
    (128:Int)), wr .i64 (v.2 + (1:Int))))) none)) none)) none) (some (Sum.inr (Sum.inl v.1)))) (b.1, (1:Int))) fun (b_1 : Int ⊕ Int × Int) => selim (fun
    (b_2 : Int) => obind (cnd (decide (b_2 < b.2.2)) (some true) (some (decide ((1114111:Int) < b_2)))) fun (b_3 : Bool) => cnd b_3 (some ((-1 : Int),
    (1:Int))) (cnd (decide ((55296:Int) ≤ b_2)) (cnd (decide (b_2 ≤ (57343:Int))) (some ((-1 : Int), (1:Int))) (some (b_2, b.2.1))) (some (b_2,
    b.2.1)))) (fun (c : Int × Int) => some c) b_1)) (fun (c : Int × Int) => some c) b) none
theorem q_ref1_Letter : ∀ N x, u_ref1_Letter.F L0 P0 (orcOf []) N x = V_ref1_Letter N x := by intros; kernel_rfl
noncomputable def W_ref1_Letter (N : Nat) := V_ref1_Letter N
theorem con_ref1_Letter_ok (N : Nat) : (u_ref1_Letter.con (W_ref1_Letter N)).ok P0 := Uf.ok mixed (q_ref1_Letter N) trivial Try.func37 (by kernel_rfl) fun x y => by kernel_rfl
noncomputable def u_ref1_Letters : Uf := ⟨10, 22, Try.f10, [.val .str], [],
⟨[(2, .val (.list (.int .i64)))], []⟩, [],
[(2, .loop [] ⟨[(0, .val .str), (3, .acc 700003)], [(700003, .nrow 3 (.int .i64) true true)]⟩ [(.exit 0, ⟨[(3, .val (.list (.int .i64)))], []⟩)])],
[], fun y => (valW (.list (.int .i64)) y, [], [])⟩
noncomputable def V_ref1_Letters (w_ref1_Letter : List UInt8 → Option (Int × Int)) (N : Nat) (x : List UInt8) : Option (List Int) :=
  obind (loopN N (fun (v : List UInt8 × List Int) => cnd (decide ((0:Int) < (↑(List.length v.1) : Int))) (obind (w_ref1_Letter v.1) fun b => cnd
    (decide ((List.length v.2 + List.length [b.1]) * (8:Nat) ≤ (140737488355328:Nat))) (cnd (decide ((0:Int) ≤ b.2) && decide (b.2 ≤ (↑(List.length v.1)
    : Int))) (some (Sum.inl (List.drop (Int.toNat b.2) (List.take (List.length v.1) v.1), v.2 ++ [b.1]))) none) none) (some (Sum.inr v.2))) (x, [])) fun
    (b : List Int) => some b
theorem q_ref1_Letters : ∀ w_ref1_Letter N x, u_ref1_Letters.F L0 P0 (orcOf [u_ref1_Letter.con w_ref1_Letter]) N x = V_ref1_Letters w_ref1_Letter N x := by intros; kernel_rfl
noncomputable def W_ref1_Letters (N : Nat) := V_ref1_Letters (W_ref1_Letter N) N
theorem con_ref1_Letters_ok (N : Nat) : (u_ref1_Letters.con (W_ref1_Letters N)).ok P0 := Uf.ok mixed (q_ref1_Letters (W_ref1_Letter N) N) ⟨con_ref1_Letter_ok N, trivial⟩ Try.func10 (by kernel_rfl) fun x y => by kernel_rfl
noncomputable def u_ref1_SameInts : Uf := ⟨11, 26, Try.f11, [.val (.list (.int .i64)), .val (.list (.int .i64))], [],
⟨[(4, .val .bool)], []⟩, [],
[(4, .loop [] ⟨[(5, .val (.int .i64))], []⟩ [(.exit 0, ⟨[], []⟩), (.ret, ⟨[(4, .val .bool)], []⟩)])],
[], fun y => (valW .bool y, [], [])⟩
noncomputable def V_ref1_SameInts (N : Nat) (x : (List Int) × List Int) : Option (Bool) :=
  cnd (decide ((↑(List.length x.1) : Int) ≠ (↑(List.length x.2) : Int))) (some false) (obind (loopN N (fun (v : Int) => cnd (decide (v < (↑(List.length
    x.1) : Int))) (cnd (decide ((0:Int) ≤ v) && decide (v < (↑(List.length x.1) : Int))) (cnd (decide ((0:Int) ≤ v) && decide (v < (↑(List.length x.2) :
    Int))) (cnd (decide (List.getD x.1 (Int.toNat v) (0:Int) ≠ List.getD x.2 (Int.toNat v) (0:Int))) (some (Sum.inr (Sum.inr false))) (some (Sum.inl (wr
    .i64 (v + (1:Int)))))) none) none) (some (Sum.inr (Sum.inl ())))) (Int.ofNat (0:Nat))) fun (b : PUnit ⊕ Bool) => selim (fun (b : PUnit) => some
    true) (fun (c : Bool) => some c) b)
theorem q_ref1_SameInts : ∀ N x, u_ref1_SameInts.F L0 P0 (orcOf []) N x = V_ref1_SameInts N x := by intros; kernel_rfl
noncomputable def W_ref1_SameInts (N : Nat) := V_ref1_SameInts N
theorem con_ref1_SameInts_ok (N : Nat) : (u_ref1_SameInts.con (W_ref1_SameInts N)).ok P0 := Uf.ok mixed (q_ref1_SameInts N) trivial Try.func11 (by kernel_rfl) fun x y => by kernel_rfl
noncomputable def u_ref1_Cut : Uf := ⟨15, 30, Try.f15, [.val .str, .val (.int .i64)], [],
⟨[(4, .val .str)], []⟩, [],
[(2, .loop [] ⟨[(5, .val (.int .i64))], []⟩ [(.exit 0, ⟨[(5, .val (.int .i64))], []⟩)])],
[], fun y => (valW .str y, [], [])⟩
noncomputable def V_ref1_Cut (w_ref1_Letter : List UInt8 → Option (Int × Int)) (N : Nat) (x : (List UInt8) × Int) : Option (List UInt8) :=
  obind (loopN N (fun (v : Int) => cnd (decide (v < (↑(List.length x.1) : Int))) (cnd (decide ((0:Int) ≤ v) && decide (v ≤ (↑(List.length x.1) : Int)))
    (obind (w_ref1_Letter (List.drop (Int.toNat v) (List.take (List.length x.1) x.1))) fun b => cnd (decide (x.2 < wr .i64 (v + b.2))) (some (Sum.inr
    v)) (some (Sum.inl (wr .i64 (v + b.2))))) none) (some (Sum.inr v))) (Int.ofNat (0:Nat))) fun (b : Int) => cnd (decide ((0:Int) ≤ b) && decide (b ≤
    (↑(List.length x.1) : Int))) (some (List.drop (0:Nat) (List.take (Int.toNat b) x.1))) none
theorem q_ref1_Cut : ∀ w_ref1_Letter N x, u_ref1_Cut.F L0 P0 (orcOf [u_ref1_Letter.con w_ref1_Letter]) N x = V_ref1_Cut w_ref1_Letter N x := by intros; kernel_rfl
noncomputable def W_ref1_Cut (N : Nat) := V_ref1_Cut (W_ref1_Letter N) N
theorem con_ref1_Cut_ok (N : Nat) : (u_ref1_Cut.con (W_ref1_Cut N)).ok P0 := Uf.ok mixed (q_ref1_Cut (W_ref1_Letter N) N) ⟨con_ref1_Letter_ok N, trivial⟩ Try.func15 (by kernel_rfl) fun x y => by kernel_rfl
noncomputable def u_ref1_Name : Uf := ⟨17, 40, Try.f17, [.val .str], [],
⟨[(2, .val .bool)], []⟩, [],
[(3, .loop [3] ⟨[(4, .val (.int .i64))], []⟩ [(.exit 0, ⟨[], []⟩), (.ret, ⟨[(2, .val .bool)], []⟩)])],
[], fun y => (valW .bool y, [], [])⟩
noncomputable def V_ref1_Name (w_ref1_Letters : List UInt8 → Option (List Int)) (N : Nat) (x : List UInt8) : Option (Bool) :=
  obind (w_ref1_Letters x) fun b => obind (loopN N (fun (v : Int) => cnd (decide (v < (↑(List.length b) : Int))) (cnd (decide ((0:Int) ≤ v) && decide
    (v < (↑(List.length b) : Int))) (cnd (decide (List.getD b (Int.toNat v) (0:Int) < (33:Int))) (some (Sum.inr (Sum.inr false))) (cnd (decide ((0:Int)
    ≤ v) && decide (v < (↑(List.length b) : Int))) (cnd (decide ((127:Int) ≤ List.getD b (Int.toNat v) (0:Int))) (cnd (decide ((0:Int) ≤ v) && decide (v
    < (↑(List.length b) : Int))) (cnd (decide (List.getD b (Int.toNat v) (0:Int) ≤ (159:Int))) (some (Sum.inr (Sum.inr false))) (some (Sum.inl (wr .i64
    (v + (1:Int)))))) none) (some (Sum.inl (wr .i64 (v + (1:Int)))))) none)) none) (some (Sum.inr (Sum.inl ())))) (Int.ofNat (0:Nat))) fun (b_1 : PUnit
    ⊕ Bool) => selim (fun (b_2 : PUnit) => cnd (decide ((1:Int) ≤ (↑(List.length b) : Int))) (some (decide ((↑(List.length b) : Int) ≤ (8:Int)))) (some
    false)) (fun (c : Bool) => some c) b_1
theorem q_ref1_Name : ∀ w_ref1_Letters N x, u_ref1_Name.F L0 P0 (orcOf [u_ref1_Letters.con w_ref1_Letters]) N x = V_ref1_Name w_ref1_Letters N x := by intros; kernel_rfl
noncomputable def W_ref1_Name (N : Nat) := V_ref1_Name (W_ref1_Letters N) N
theorem con_ref1_Name_ok (N : Nat) : (u_ref1_Name.con (W_ref1_Name N)).ok P0 := Uf.ok mixed (q_ref1_Name (W_ref1_Letters N) N) ⟨con_ref1_Letters_ok N, trivial⟩ Try.func17 (by kernel_rfl) fun x y => by kernel_rfl
noncomputable def u_ref1_hex : Uf := ⟨43, 24, Try.f43, [.val (.int .i64), .val (.int .i64)], [],
⟨[(4, .val .str)], []⟩, [],
[(3, .loop [] ⟨[(0, .val (.int .i64)), (5, .val .str), (6, .val (.int .i64))], []⟩ [(.exit 0, ⟨[(5, .val .str)], []⟩)])],
[], fun y => (valW .str y, [], [])⟩
noncomputable def V_ref1_hex (N : Nat) (x : Int × Int) : Option (List UInt8) :=
  obind (loopN N (fun (v : Int × List UInt8 × Int) => cnd (decide (v.2.2 < x.2)) (cnd (decide ((0:Int) ≤ Int.tmod v.1 (16:Int)) && decide (Int.tmod v.1
    (16:Int) ≤ wr .i64 (Int.tmod v.1 (16:Int) + (1:Int))) && decide (wr .i64 (Int.tmod v.1 (16:Int) + (1:Int)) ≤ (↑(16:Nat) : Int))) (cnd (decide
    (List.length (List.drop (Int.toNat (Int.tmod v.1 (16:Int))) (List.take (Int.toNat (wr .i64 (Int.tmod v.1 (16:Int) + (1:Int)))) [(48 : UInt8), (49 :
    UInt8), (50 : UInt8), (51 : UInt8), (52 : UInt8), (53 : UInt8), (54 : UInt8), (55 : UInt8), (56 : UInt8), (57 : UInt8), (97 : UInt8), (98 : UInt8),
    (99 : UInt8), (100 : UInt8), (101 : UInt8), (102 : UInt8)])) + List.length v.2.1 ≤ (9223372036854775807:Nat))) (some (Sum.inl (wr .i64 (Int.tdiv v.1
    (16:Int)), List.drop (Int.toNat (Int.tmod v.1 (16:Int))) (List.take (Int.toNat (wr .i64 (Int.tmod v.1 (16:Int) + (1:Int)))) [(48 : UInt8), (49 :
    UInt8), (50 : UInt8), (51 : UInt8), (52 : UInt8), (53 : UInt8), (54 : UInt8), (55 : UInt8), (56 : UInt8), (57 : UInt8), (97 : UInt8), (98 : UInt8),
    (99 : UInt8), (100 : UInt8), (101 : UInt8), (102 : UInt8)]) ++ v.2.1, wr .i64 (v.2.2 + (1:Int))))) none) none) (some (Sum.inr v.2.1))) (x.1, [],
    (0:Int))) fun (b : List UInt8) => some b
theorem q_ref1_hex : ∀ N x, u_ref1_hex.F L0 P0 (orcOf []) N x = V_ref1_hex N x := by intros; kernel_rfl
noncomputable def W_ref1_hex (N : Nat) := V_ref1_hex N
theorem con_ref1_hex_ok (N : Nat) : (u_ref1_hex.con (W_ref1_hex N)).ok P0 := Uf.ok mixed (q_ref1_hex N) trivial Try.func43 (by kernel_rfl) fun x y => by kernel_rfl
noncomputable def u_ref1_Show : Uf := ⟨19, 64, Try.f19, [.val .str], [],
⟨[(2, .val .str)], []⟩, [],
[(2, .loop [] ⟨[(0, .val .str), (3, .val .str)], []⟩ [(.exit 0, ⟨[(3, .val .str)], []⟩)])],
[], fun y => (valW .str y, [], [])⟩
noncomputable def V_ref1_Show (w_ref1_Letter : List UInt8 → Option (Int × Int)) (w_ref1_hex : Int × Int → Option (List UInt8)) (N : Nat) (x : List UInt8) : Option (List UInt8) :=
  obind (loopN N (fun (v : List UInt8 × List UInt8) => cnd (decide ((0:Int) < (↑(List.length v.1) : Int))) (obind (w_ref1_Letter v.1) fun b => cnd
    (decide (b.1 < (0:Int))) (cnd (decide (List.length v.2 + (2:Nat) ≤ (9223372036854775807:Nat))) (cnd (decide ((0:Int) ≤ (0:Int)) && decide ((0:Int) <
    (↑(List.length v.1) : Int))) (obind (w_ref1_hex (wr .i64 (↑(UInt8.toNat (List.getD v.1 (0:Nat) (0 : UInt8))) : Int), (2:Int))) fun b_1 => cnd
    (decide (List.length (v.2 ++ [(92 : UInt8), (120 : UInt8)]) + List.length b_1 ≤ (9223372036854775807:Nat))) (cnd (decide ((0:Int) ≤ b.2) && decide
    (b.2 ≤ (↑(List.length v.1) : Int))) (some (Sum.inl (List.drop (Int.toNat b.2) (List.take (List.length v.1) v.1), v.2 ++ [(92 : UInt8), (120 :
    UInt8)] ++ b_1))) none) none) none) none) (cnd (decide (b.1 = (34:Int))) (cnd (decide (List.length v.2 + (1:Nat) ≤ (9223372036854775807:Nat))) (cnd
    (decide ((0:Int) ≤ (1:Int)) && decide ((1:Int) ≤ (↑(List.length v.1) : Int))) (cnd (decide (List.length (v.2 ++ [(92 : UInt8)]) + List.length
    (List.drop (0:Nat) (List.take (Int.toNat (1:Int)) v.1)) ≤ (9223372036854775807:Nat))) (cnd (decide ((0:Int) ≤ b.2) && decide (b.2 ≤ (↑(List.length
    v.1) : Int))) (some (Sum.inl (List.drop (Int.toNat b.2) (List.take (List.length v.1) v.1), v.2 ++ [(92 : UInt8)] ++ List.drop (0:Nat) (List.take
    (Int.toNat (1:Int)) v.1)))) none) none) none) none) (cnd (decide (b.1 = (92:Int))) (cnd (decide (List.length v.2 + (1:Nat) ≤
    (9223372036854775807:Nat))) (cnd (decide ((0:Int) ≤ (1:Int)) && decide ((1:Int) ≤ (↑(List.length v.1) : Int))) (cnd (decide (List.length (v.2 ++
    [(92 : UInt8)]) + List.length (List.drop (0:Nat) (List.take (Int.toNat (1:Int)) v.1)) ≤ (9223372036854775807:Nat))) (cnd (decide ((0:Int) ≤ b.2) &&
    decide (b.2 ≤ (↑(List.length v.1) : Int))) (some (Sum.inl (List.drop (Int.toNat b.2) (List.take (List.length v.1) v.1), v.2 ++ [(92 : UInt8)] ++
    List.drop (0:Nat) (List.take (Int.toNat (1:Int)) v.1)))) none) none) none) none) (cnd (decide ((32:Int) ≤ b.1)) (cnd (decide (b.1 < (127:Int))) (cnd
    (decide ((0:Int) ≤ (1:Int)) && decide ((1:Int) ≤ (↑(List.length v.1) : Int))) (cnd (decide (List.length v.2 + List.length (List.drop (0:Nat)
    (List.take (Int.toNat (1:Int)) v.1)) ≤ (9223372036854775807:Nat))) (cnd (decide ((0:Int) ≤ b.2) && decide (b.2 ≤ (↑(List.length v.1) : Int))) (some
    (Sum.inl (List.drop (Int.toNat b.2) (List.take (List.length v.1) v.1), v.2 ++ List.drop (0:Nat) (List.take (Int.toNat (1:Int)) v.1)))) none) none)
    none) (cnd (decide ((65535:Int) < b.1)) (cnd (decide (List.length v.2 + (2:Nat) ≤ (9223372036854775807:Nat))) (obind (w_ref1_hex (b.1, (8:Int)))
    fun b_1 => cnd (decide (List.length (v.2 ++ [(92 : UInt8), (85 : UInt8)]) + List.length b_1 ≤ (9223372036854775807:Nat))) (cnd (decide ((0:Int) ≤
    b.2) && decide (b.2 ≤ (↑(List.length v.1) : Int))) (some (Sum.inl (List.drop (Int.toNat b.2) (List.take (List.length v.1) v.1), v.2 ++ [(92 :
    UInt8), (85 : UInt8)] ++ b_1))) none) none) none) (cnd (decide (List.length v.2 + (2:Nat) ≤ (9223372036854775807:Nat))) (obind (w_ref1_hex (b.1,
    (4:Int))) fun b_1 => cnd (decide (List.length (v.2 ++ [(92 : UInt8), (117 : UInt8)]) + List.length b_1 ≤ (9223372036854775807:Nat))) (cnd (decide
    ((0:Int) ≤ b.2) && decide (b.2 ≤ (↑(List.length v.1) : Int))) (some (Sum.inl (List.drop (Int.toNat b.2) (List.take (List.length v.1) v.1), v.2 ++
    [(92 : UInt8), (117 : UInt8)] ++ b_1))) none) none) none))) (cnd (decide ((65535:Int) < b.1)) (cnd (decide (List.length v.2 + (2:Nat) ≤
    (9223372036854775807:Nat))) (obind (w_ref1_hex (b.1, (8:Int))) fun b_1 => cnd (decide (List.length (v.2 ++ [(92 : UInt8), (85 : UInt8)]) +
    List.length b_1 ≤ (9223372036854775807:Nat))) (cnd (decide ((0:Int) ≤ b.2) && decide (b.2 ≤ (↑(List.length v.1) : Int))) (some (Sum.inl (List.drop
    (Int.toNat b.2) (List.take (List.length v.1) v.1), v.2 ++ [(92 : UInt8), (85 : UInt8)] ++ b_1))) none) none) none) (cnd (decide (List.length v.2 +
    (2:Nat) ≤ (9223372036854775807:Nat))) (obind (w_ref1_hex (b.1, (4:Int))) fun b_1 => cnd (decide (List.length (v.2 ++ [(92 : UInt8), (117 :
    UInt8)]) + List.length b_1 ≤ (9223372036854775807:Nat))) (cnd (decide ((0:Int) ≤ b.2) && decide (b.2 ≤ (↑(List.length v.1) : Int))) (some (Sum.inl
    (List.drop (Int.toNat b.2) (List.take (List.length v.1) v.1), v.2 ++ [(92 : UInt8), (117 : UInt8)] ++ b_1))) none) none) none)))))) (some (Sum.inr
    v.2))) (x, [])) fun (b : List UInt8) => some b
theorem q_ref1_Show : ∀ w_ref1_Letter w_ref1_hex N x, u_ref1_Show.F L0 P0 (orcOf [u_ref1_Letter.con w_ref1_Letter, u_ref1_hex.con w_ref1_hex]) N x = V_ref1_Show w_ref1_Letter w_ref1_hex N x := by intros; kernel_rfl
noncomputable def W_ref1_Show (N : Nat) := V_ref1_Show (W_ref1_Letter N) (W_ref1_hex N) N
theorem con_ref1_Show_ok (N : Nat) : (u_ref1_Show.con (W_ref1_Show N)).ok P0 := Uf.ok mixed (q_ref1_Show (W_ref1_Letter N) (W_ref1_hex N) N) ⟨con_ref1_Letter_ok N, con_ref1_hex_ok N, trivial⟩ Try.func19 (by kernel_rfl) fun x y => by kernel_rfl
noncomputable def u_law1_TextAll : Uf := ⟨3, 135, Try.f3, [.val .str, .val (.list (.int .u8)), .val (.int .i64), .val (.int .u8)], [],
⟨[(8, .val .bool)], []⟩, [],
[(8, .loop [9] ⟨[(10, .val .str), (11, .val (.int .i64))], []⟩ [(.exit 0, ⟨[(10, .val .str)], []⟩)]),
(13, .unroll 3)],
[(17, .cut [12] [(.normal, ⟨[(134, .val .bool)], []⟩)]),
(14, .cut [12] [(.normal, ⟨[], []⟩), (.ret, ⟨[(8, .val .bool)], []⟩)]),
(6, .cut [] [(.normal, ⟨[(9, .val (.list .str))], []⟩)])], fun y => (valW .bool y, [], [])⟩
noncomputable def V_law1_TextAll (w_law1_begun : Unit → Option (Bool)) (w_ref1_Letters : List UInt8 → Option (List Int)) (w_text_Letters : List UInt8 → Option (List Int)) (w_ref1_SameInts : (List Int) × List Int → Option (Bool)) (w_text_Count : List UInt8 → Option (Int)) (w_text_Cut : (List UInt8) × Int → Option (List UInt8)) (w_ref1_Cut : (List UInt8) × Int → Option (List UInt8)) (w_text_Name : List UInt8 → Option (Bool)) (w_ref1_Name : List UInt8 → Option (Bool)) (w_text_Show : List UInt8 → Option (List UInt8)) (w_ref1_Show : List UInt8 → Option (List UInt8)) (N : Nat) (x : (List UInt8) × (List Int) × Int × Int) : Option (Bool) :=
  obind (w_law1_begun ()) fun b => cnd (!b) (some false) (cnd (decide ((60:Int) < (↑(List.length x.1) : Int))) (some true) (cnd (decide ((15:Int) <
    (↑(List.length x.2.1) : Int))) (some true) (obind (loopN N (fun (v : List UInt8 × Int) => cnd (decide (v.2 < (↑(List.length x.2.1) : Int))) (cnd
    (decide ((0:Int) ≤ v.2) && decide (v.2 < (↑(List.length x.2.1) : Int))) (cnd (decide ((0:Int) ≤ Int.tmod (wr .i64 (List.getD x.2.1 (Int.toNat v.2)
    (0:Int))) (↑(19:Nat) : Int)) && decide (Int.tmod (wr .i64 (List.getD x.2.1 (Int.toNat v.2) (0:Int))) (↑(19:Nat) : Int) < (↑(19:Nat) : Int))) (cnd
    (decide (List.length v.1 + List.length (List.getD [[(97 : UInt8)], [(195 : UInt8), (169 : UInt8)], [(230 : UInt8), (151 : UInt8), (165 : UInt8)],
    [(240 : UInt8), (159 : UInt8), (152 : UInt8), (128 : UInt8)], [(195 : UInt8)], [(230 : UInt8), (151 : UInt8)], [(240 : UInt8), (159 : UInt8), (152 :
    UInt8)], [(255 : UInt8)], [(237 : UInt8), (160 : UInt8), (128 : UInt8)], [(192 : UInt8), (128 : UInt8)], [(244 : UInt8), (144 : UInt8), (128 :
    UInt8), (128 : UInt8)], [(34 : UInt8)], [(92 : UInt8)], [(10 : UInt8)], [(32 : UInt8)], [(127 : UInt8)], [(194 : UInt8), (133 : UInt8)], [(239 :
    UInt8), (191 : UInt8), (189 : UInt8)], [(244 : UInt8), (143 : UInt8), (191 : UInt8), (191 : UInt8)]] (Int.toNat (Int.tmod (wr .i64 (List.getD x.2.1
    (Int.toNat v.2) (0:Int))) (↑(19:Nat) : Int))) []) ≤ (9223372036854775807:Nat))) (some (Sum.inl (v.1 ++ List.getD [[(97 : UInt8)], [(195 : UInt8),
    (169 : UInt8)], [(230 : UInt8), (151 : UInt8), (165 : UInt8)], [(240 : UInt8), (159 : UInt8), (152 : UInt8), (128 : UInt8)], [(195 : UInt8)], [(230
    : UInt8), (151 : UInt8)], [(240 : UInt8), (159 : UInt8), (152 : UInt8)], [(255 : UInt8)], [(237 : UInt8), (160 : UInt8), (128 : UInt8)], [(192 :
    UInt8), (128 : UInt8)], [(244 : UInt8), (144 : UInt8), (128 : UInt8), (128 : UInt8)], [(34 : UInt8)], [(92 : UInt8)], [(10 : UInt8)], [(32 :
    UInt8)], [(127 : UInt8)], [(194 : UInt8), (133 : UInt8)], [(239 : UInt8), (191 : UInt8), (189 : UInt8)], [(244 : UInt8), (143 : UInt8), (191 :
    UInt8), (191 : UInt8)]] (Int.toNat (Int.tmod (wr .i64 (List.getD x.2.1 (Int.toNat v.2) (0:Int))) (↑(19:Nat) : Int))) [], wr .i64 (v.2 + (1:Int)))))
    none) none) none) (some (Sum.inr v.1))) ([], (0:Int))) fun (b : List UInt8) => obind (obind (w_ref1_Letters x.1) fun b => obind (obind
    (w_text_Letters x.1) fun b_1 => obind (w_ref1_SameInts (b_1, b)) fun b_2 => cnd (!b_2) (some true) (obind (w_text_Count x.1) fun b_3 => cnd
    (decide (b_3 ≠ (↑(List.length b) : Int))) (some true) (obind (w_text_Cut (x.1, x.2.2.1)) fun b => obind (w_ref1_Cut (x.1, x.2.2.1)) fun b_4 =>
    cnd (!b == b_4) (some true) (obind (w_text_Cut (x.1, wr .i64 (Int.tmod x.2.2.2 (70:Int)))) fun b => obind (w_ref1_Cut (x.1, wr .i64 (Int.tmod
    x.2.2.2 (70:Int)))) fun b_5 => cnd (!b == b_5) (some true) (obind (w_text_Name x.1) fun b => obind (w_ref1_Name x.1) fun b_6 => cnd (!b == b_6)
    (some true) (obind (w_text_Show x.1) fun b => obind (w_ref1_Show x.1) fun b_7 => some !b == b_7)))))) fun (b : Bool) => cnd b (some (Sum.inr
    false)) (some (Sum.inl ()))) fun (b_1 : PUnit ⊕ Bool) => selim (fun (b_2 : PUnit) => obind (obind (w_ref1_Letters b) fun b_3 => obind (obind
    (w_text_Letters b) fun b_4 => obind (w_ref1_SameInts (b_4, b_3)) fun b_5 => cnd (!b_5) (some true) (obind (w_text_Count b) fun b_6 => cnd
    (decide (b_6 ≠ (↑(List.length b_3) : Int))) (some true) (obind (w_text_Cut (b, x.2.2.1)) fun b_7 => obind (w_ref1_Cut (b, x.2.2.1)) fun b_8 =>
    cnd (!b_7 == b_8) (some true) (obind (w_text_Cut (b, wr .i64 (Int.tmod x.2.2.2 (70:Int)))) fun b_9 => obind (w_ref1_Cut (b, wr .i64 (Int.tmod
    x.2.2.2 (70:Int)))) fun b_10 => cnd (!b_9 == b_10) (some true) (obind (w_text_Name b) fun b_11 => obind (w_ref1_Name b) fun b_12 => cnd (!b_11
    == b_12) (some true) (obind (w_text_Show b) fun b_13 => obind (w_ref1_Show b) fun b => some !b_13 == b)))))) fun (b : Bool) => cnd b (some
    (Sum.inr false)) (some (Sum.inl ()))) fun (b : PUnit ⊕ Bool) => selim (fun (b : PUnit) => some true) (fun (c : Bool) => some c) b) (fun (c : Bool)
    => some c) b_1)))
theorem q_law1_TextAll : ∀ w_law1_begun w_ref1_Letters w_text_Letters w_ref1_SameInts w_text_Count w_text_Cut w_ref1_Cut w_text_Name w_ref1_Name w_text_Show w_ref1_Show N x, u_law1_TextAll.F L0 P0 (orcOf [u_law1_begun.con w_law1_begun, u_ref1_Letters.con w_ref1_Letters, u_text_Letters.con w_text_Letters, u_ref1_SameInts.con w_ref1_SameInts, u_text_Count.con w_text_Count, u_text_Cut.con w_text_Cut, u_ref1_Cut.con w_ref1_Cut, u_text_Name.con w_text_Name, u_ref1_Name.con w_ref1_Name, conw_text_Show w_text_Show, u_ref1_Show.con w_ref1_Show]) N x = V_law1_TextAll w_law1_begun w_ref1_Letters w_text_Letters w_ref1_SameInts w_text_Count w_text_Cut w_ref1_Cut w_text_Name w_ref1_Name w_text_Show w_ref1_Show N x := by intros; kernel_rfl
noncomputable def W_law1_TextAll (N : Nat) := V_law1_TextAll (W_law1_begun N) (W_ref1_Letters N) (W_text_Letters N) (W_ref1_SameInts N) (W_text_Count N) (W_text_Cut N) (W_ref1_Cut N) (W_text_Name N) (W_ref1_Name N) (W_text_Show N) (W_ref1_Show N) N
theorem con_law1_TextAll_ok (N : Nat) : (u_law1_TextAll.con (W_law1_TextAll N)).ok P0 := Uf.ok mixed (q_law1_TextAll (W_law1_begun N) (W_ref1_Letters N) (W_text_Letters N) (W_ref1_SameInts N) (W_text_Count N) (W_text_Cut N) (W_ref1_Cut N) (W_text_Name N) (W_ref1_Name N) (W_text_Show N) (W_ref1_Show N) N) ⟨con_law1_begun_ok N, con_ref1_Letters_ok N, con_text_Letters_ok N, con_ref1_SameInts_ok N, con_text_Count_ok N, con_text_Cut_ok N, con_ref1_Cut_ok N, con_text_Name_ok N, con_ref1_Name_ok N, con_text_Show_ok N, con_ref1_Show_ok N, trivial⟩ Try.func3 (by kernel_rfl) fun x y => by kernel_rfl
/-! What is reckoned. -/
-- PURE
theorem wr_m {z : Int} (h : -140737488355328 ≤ z) (h2 : z ≤ 140737488355328) : wr .i64 z = z := wr_i64 (by omega) (by omega)
theorem cnd_T {α : Type} {p : Prop} {i : Decidable p} {x y : α} (h : p) : cnd (@decide p i) x y = x := by rw [decide_eq_true h]; rfl
theorem cnd_F {α : Type} {p : Prop} {i : Decidable p} {x y : α} (h : ¬ p) : cnd (@decide p i) x y = y := by rw [decide_eq_false h]; rfl
theorem loopG {σ ρ : Type} {f : σ → Option (σ ⊕ ρ)} (I : Nat → σ → Prop) (B : Nat) (J : ρ → Prop) (hb : ∀ k x, I k x → k ≤ B) (hs : ∀ k x, I k x → (∃ y, f x = some (.inl y) ∧ I (k + 1) y) ∨ ∃ r, f x = some (.inr r) ∧ J r) :
    ∀ (M k : Nat) (x : σ), I k x → B < M + k → ∃ r, loopN M f x = some r ∧ J r
  | 0, k, x, h, hm => by have := hb k x h; omega
  | M + 1, k, x, h, hm => by
    rcases hs k x h with ⟨y, h1, h2⟩ | ⟨r, h1, h2⟩
    · obtain ⟨r, h4, h5⟩ := loopG I B J hb hs M (k + 1) y h2 (by omega)
      exact ⟨r, by simp only [loopN, h1]; exact h4, h5⟩
    · exact ⟨r, by simp only [loopN, h1], h2⟩
theorem loop_G {σ ρ β : Type} {f : σ → Option (σ ⊕ ρ)} {g : ρ → Option β} {x : σ} {N : Nat} (Q : Option β → Prop) (I : Nat → σ → Prop) (B : Nat) (J : ρ → Prop) (hx : I 0 x) (hm : B < N) (hk : ∀ r, J r → Q (g r)) (hb : ∀ k x, I k x → k ≤ B)
    (hs : ∀ k x, I k x → (∃ y, f x = some (.inl y) ∧ I (k + 1) y) ∨ ∃ r, f x = some (.inr r) ∧ J r) : Q (obind (loopN N f x) g) := by
  obtain ⟨r, h1, h2⟩ := loopG I B J hb hs N 0 x hx (by omega)
  rw [h1]; exact hk r h2
def atL (l : List UInt8) (k : Nat) : Nat := (l.getD k 0).toNat
def ctL (l : List UInt8) (k : Nat) : Bool := decide (k < l.length) && atL l k / 64 == 2
def dkN (b0 a1 a2 a3 : Nat) (c1 c2 c3 : Bool) : Nat × Nat :=
  if b0 < 0x80 then (b0, 1)
  else if b0 / 32 == 6 && c1 then
    if (b0 % 32) * 64 + a1 % 64 ≥ 0x80 then ((b0 % 32) * 64 + a1 % 64, 2) else (65533, 1)
  else if b0 / 16 == 14 && c1 && c2 then
    if (b0 % 16) * 4096 + (a1 % 64) * 64 + a2 % 64 ≥ 0x800 && Utf8.valid ((b0 % 16) * 4096 + (a1 % 64) * 64 + a2 % 64 : Nat) then ((b0 % 16) * 4096 + (a1 % 64) * 64 + a2 % 64, 3) else (65533, 1)
  else if b0 / 8 == 30 && c1 && c2 && c3 then
    if (b0 % 8) * 262144 + (a1 % 64) * 4096 + (a2 % 64) * 64 + a3 % 64 ≥ 0x10000 && Utf8.valid ((b0 % 8) * 262144 + (a1 % 64) * 4096 + (a2 % 64) * 64 + a3 % 64 : Nat) then ((b0 % 8) * 262144 + (a1 % 64) * 4096 + (a2 % 64) * 64 + a3 % 64, 4) else (65533, 1)
  else (65533, 1)
def dk (l : List UInt8) : Nat × Nat := dkN (atL l 0) (atL l 1) (atL l 2) (atL l 3) (ctL l 1) (ctL l 2) (ctL l 3)
theorem get_eq (s : List UInt8) (j : Nat) : (ByteArray.get! ⟨⟨s⟩⟩ j) = s.getD j 0 := by
  show (Array.mk s)[j]! = _
  rw [List.getD_eq_getElem?_getD, getElem!_def]
  simp
  cases s[j]? <;> rfl
theorem at_drop (s : List UInt8) (i k : Nat) : atL (s.drop i) k = (s.getD (i + k) 0).toNat := by
  unfold atL
  rw [List.getD_eq_getElem?_getD, List.getD_eq_getElem?_getD, List.getElem?_drop]
theorem decode_eq (s : List UInt8) (i : Nat) : Utf8.decode ⟨⟨s⟩⟩ i = dk (s.drop i) := by
  have hs : (ByteArray.mk ⟨s⟩).size = s.length := rfl
  have hc : ∀ k, ctL (s.drop i) k = (decide (i + k < s.length) && (s.getD (i + k) 0).toNat / 64 == 2) := by
    intro k
    unfold ctL
    rw [at_drop]
    congr 1
    rw [List.length_drop]
    exact decide_eq_decide.2 (by omega)
  unfold Utf8.decode dk dkN
  simp only [hc, at_drop, get_eq, hs, Utf8.runeError]
theorem dkN_w (b0 a1 a2 a3 : Nat) (c1 c2 c3 : Bool) : 1 ≤ (dkN b0 a1 a2 a3 c1 c2 c3).2 ∧ (dkN b0 a1 a2 a3 c1 c2 c3).2 ≤ 4 := by
  unfold dkN
  repeat' split
  all_goals simp
theorem dk_w (l : List UInt8) : 1 ≤ (dk l).2 ∧ (dk l).2 ≤ 4 := dkN_w _ _ _ _ _ _ _
theorem ct_lt {l : List UInt8} {k : Nat} (h : ctL l k = true) : k < l.length := by
  unfold ctL at h
  simp at h
  exact h.1
theorem dk_len (l : List UInt8) (h : l ≠ []) : (dk l).2 ≤ l.length := by
  have h1 : 1 ≤ l.length := by cases l with | nil => exact (h rfl).elim | cons => simp
  unfold dk dkN
  split
  · exact h1
  split
  · rename_i g
    simp at g
    have := ct_lt g.2
    split
    · exact this
    · exact h1
  split
  · rename_i g
    simp at g
    have := ct_lt g.2
    split
    · exact this
    · exact h1
  split
  · rename_i g
    simp at g
    have := ct_lt g.2
    split
    · exact this
    · exact h1
  · exact h1
def hpL (l : List UInt8) : Bool := decide (3 ≤ l.length) && (l.take 3 == [(239 : UInt8), 191, 189])
theorem HasPrefix_eq (N : Nat) (l : List UInt8) : W_strings_HasPrefix N (l, [(239 : UInt8), (191 : UInt8), (189 : UInt8)]) = some (hpL l) := by
  unfold W_strings_HasPrefix V_strings_HasPrefix W_internal_stringslite_HasPrefix V_internal_stringslite_HasPrefix hpL
  simp only [List.length_cons, List.length_nil]
  by_cases h : 3 ≤ l.length
  · have e1 : decide (((0 + 1 + 1 + 1 : Nat) : Int) ≤ (l.length : Int)) = true := dT (by omega)
    have e2 : decide ((0 : Int) ≤ ((0 + 1 + 1 + 1 : Nat) : Int)) = true := dT (by omega)
    rw [e1, e2, dT h]
    simp only [Bool.and_self, cnd_t, obind_s, Bool.true_and, List.drop_zero]
    rfl
  · have e1 : decide (((0 + 1 + 1 + 1 : Nat) : Int) ≤ (l.length : Int)) = false := dF (by omega)
    rw [e1, dF h]
    simp only [cnd_f, obind_s, Bool.false_and]
def vl (l : List UInt8) : Int := if ((dk l).1 : Int) = 65533 then (if hpL l = true then wr .i64 ((dk l).1 : Int) else -1) else wr .i64 ((dk l).1 : Int)
theorem letter_eq (N : Nat) (l : List UInt8) : W_text_letter N (l, ((dk l).1 : Int)) = some (vl l) := by
  unfold W_text_letter V_text_letter vl
  simp only [HasPrefix_eq, obind_s]
  by_cases h : ((dk l).1 : Int) = 65533
  · rw [if_pos h, dT h, cnd_t]
    cases hpL l
    · rfl
    · rfl
  · rw [if_neg h, dF h, cnd_f]
theorem hp_dk (l : List UInt8) (h : hpL l = true) : dk l = (65533, 3) := by
  unfold hpL at h
  simp at h
  obtain ⟨h1, h2⟩ := h
  match l, h1, h2 with
  | a :: b :: c :: r, _, h2 =>
    simp at h2
    obtain ⟨rfl, rfl, rfl⟩ := h2
    have l1 : decide (1 < (r.length + 1 + 1 + 1)) = true := decide_eq_true (by omega)
    have l2 : decide (2 < (r.length + 1 + 1 + 1)) = true := decide_eq_true (by omega)
    simp [dk, atL, ctL, dkN, l1, l2, Utf8.valid]
def letsN : Nat → List UInt8 → List Int
  | 0, _ => []
  | k + 1, l => if l = [] then [] else vl l :: letsN k (l.drop (dk l).2)
def cutN : Nat → List UInt8 → Nat → Nat
  | 0, _, _ => 0
  | k + 1, l, n => if l = [] then 0 else if (dk l).2 ≤ n then (dk l).2 + cutN k (l.drop (dk l).2) (n - (dk l).2) else 0
theorem letsN_nil (k : Nat) : letsN k [] = [] := by cases k <;> simp [letsN]
theorem cutN_nil (k n : Nat) : cutN k [] n = 0 := by cases k <;> simp [cutN]
theorem drop_lt (l : List UInt8) (h : l ≠ []) : (l.drop (dk l).2).length < l.length := by
  have := (dk_w l).1
  have h1 : 1 ≤ l.length := by cases l with | nil => exact (h rfl).elim | cons => simp
  rw [List.length_drop]
  omega
theorem letsN_fuel : ∀ (k k2 : Nat) (l : List UInt8), l.length ≤ k → l.length ≤ k2 → letsN k l = letsN k2 l
  | 0, k2, l, h, _ => by
    have : l = [] := List.eq_nil_of_length_eq_zero (by omega)
    subst this
    rw [letsN_nil, letsN_nil]
  | k + 1, 0, l, _, h => by
    have : l = [] := List.eq_nil_of_length_eq_zero (by omega)
    subst this
    rw [letsN_nil, letsN_nil]
  | k + 1, k2 + 1, l, h1, h2 => by
    unfold letsN
    split
    · rfl
    · rename_i hn
      have := drop_lt l hn
      rw [letsN_fuel k k2 _ (by omega) (by omega)]
theorem cutN_fuel : ∀ (k k2 : Nat) (l : List UInt8) (n : Nat), l.length ≤ k → l.length ≤ k2 → cutN k l n = cutN k2 l n
  | 0, k2, l, n, h, _ => by
    have : l = [] := List.eq_nil_of_length_eq_zero (by omega)
    subst this
    rw [cutN_nil, cutN_nil]
  | k + 1, 0, l, n, _, h => by
    have : l = [] := List.eq_nil_of_length_eq_zero (by omega)
    subst this
    rw [cutN_nil, cutN_nil]
  | k + 1, k2 + 1, l, n, h1, h2 => by
    unfold cutN
    split
    · rfl
    · rename_i hn
      have := drop_lt l hn
      rw [cutN_fuel k k2 _ _ (by omega) (by omega)]
def LL (l : List UInt8) : List Int := letsN l.length l
def CC (l : List UInt8) (n : Nat) : Nat := cutN l.length l n
theorem LL_nil : LL [] = [] := rfl
theorem CC_nil (n : Nat) : CC [] n = 0 := rfl
theorem LL_cons (l : List UInt8) (h : l ≠ []) : LL l = vl l :: LL (l.drop (dk l).2) := by
  unfold LL
  obtain ⟨k, hk⟩ : ∃ k, l.length = k + 1 := ⟨l.length - 1, by cases l with | nil => exact (h rfl).elim | cons => simp⟩
  have := drop_lt l h
  rw [hk]
  rw [letsN, if_neg h, letsN_fuel k _ _ (by omega) (Nat.le_refl _)]
theorem CC_cons (l : List UInt8) (n : Nat) (h : l ≠ []) : CC l n = if (dk l).2 ≤ n then (dk l).2 + CC (l.drop (dk l).2) (n - (dk l).2) else 0 := by
  unfold CC
  obtain ⟨k, hk⟩ : ∃ k, l.length = k + 1 := ⟨l.length - 1, by cases l with | nil => exact (h rfl).elim | cons => simp⟩
  have := drop_lt l h
  rw [hk]
  rw [cutN, if_neg h, cutN_fuel k _ _ _ (by omega) (Nat.le_refl _)]
theorem list_ind {p : List UInt8 → Prop} (h0 : p []) (h1 : ∀ l, l ≠ [] → p (l.drop (dk l).2) → p l) (l : List UInt8) : p l := by
  have key : ∀ (k : Nat) (l : List UInt8), l.length ≤ k → p l := by
    intro k
    induction k with
    | zero => intro l h; have : l = [] := List.eq_nil_of_length_eq_zero (by omega); subst this; exact h0
    | succ k ih =>
      intro l h
      by_cases hn : l = []
      · subst hn; exact h0
      · exact h1 l hn (ih _ (by have := drop_lt l hn; omega))
  exact key l.length l (Nat.le_refl _)
theorem CC_le (l : List UInt8) : ∀ n, CC l n ≤ n ∧ CC l n ≤ l.length := by
  refine list_ind (p := fun l => ∀ n, CC l n ≤ n ∧ CC l n ≤ l.length) ?_ ?_ l
  · intro n; rw [CC_nil]; exact ⟨by omega, by omega⟩
  · intro l hn ih n
    rw [CC_cons l n hn]
    have h1 := dk_len l hn
    split
    · have := ih (n - (dk l).2)
      rw [List.length_drop] at this
      omega
    · omega
theorem CC_full (l : List UInt8) : ∀ n, l.length ≤ n → CC l n = l.length := by
  refine list_ind (p := fun l => ∀ n, l.length ≤ n → CC l n = l.length) ?_ ?_ l
  · intro n _; rfl
  · intro l hn ih n h
    rw [CC_cons l n hn]
    have h1 := dk_len l hn
    rw [if_pos (by omega), ih _ (by rw [List.length_drop]; omega), List.length_drop]
    omega
theorem LL_len (l : List UInt8) : (LL l).length ≤ l.length := by
  refine list_ind (p := fun l => (LL l).length ≤ l.length) (by simp [LL_nil]) ?_ l
  intro l hn ih
  have := drop_lt l hn
  rw [LL_cons l hn, List.length_cons]
  omega
theorem loop_in {σ ρ : Type} {f : σ → Option (σ ⊕ ρ)} {M : Nat} {x y : σ} (h : f x = some (.inl y)) : loopN (M + 1) f x = loopN M f y := by simp only [loopN, h]
theorem loop_out {σ ρ : Type} {f : σ → Option (σ ⊕ ρ)} {M : Nat} {x : σ} {r : ρ} (h : f x = some (.inr r)) : loopN (M + 1) f x = some r := by simp only [loopN, h]
theorem drop_ne (s : List UInt8) (i : Nat) (h : i < s.length) : s.drop i ≠ [] := by
  intro e
  have := congrArg List.length e
  rw [List.length_drop, List.length_nil] at this
  omega
theorem Letters_eq (N : Nat) (s : List UInt8) (hN : s.length < N) (hs : s.length ≤ 1000) : W_text_Letters N s = some (LL s) := by
  unfold W_text_Letters V_text_Letters
  have key : ∀ (k M i : Nat) (acc : List Int), s.length - i ≤ k → k < M → i ≤ s.length → acc.length ≤ i →
      loopN M (fun (v : List Int × List UInt8 × Int) =>
        cnd (decide (Int.toNat (Prod.snd (Prod.snd v)) < List.length (Prod.fst (Prod.snd v))))
          (cnd
            (decide ((0 : Int) ≤ (↑(Int.toNat (Prod.snd (Prod.snd v))) : Int)) &&
              decide ((↑(Int.toNat (Prod.snd (Prod.snd v))) : Int) ≤ (↑(List.length s) : Int)))
            (obind
              (W_text_letter N
                (List.drop (Int.toNat (↑(Int.toNat (Prod.snd (Prod.snd v))) : Int)) (List.take (List.length s) s),
                  (↑(Prod.fst
                      (Utf8.decode { data := { toList := Prod.fst (Prod.snd v) } } (Int.toNat (Prod.snd (Prod.snd v))))) : Int)))
              fun (b : Int) =>
              cnd (decide ((List.length (Prod.fst v) + List.length [b]) * (8 : Nat) ≤ (140737488355328 : Nat)))
                (some
                  (Sum.inl
                    (Prod.fst v ++ [b], Prod.fst (Prod.snd v),
                      (↑(Int.toNat (Prod.snd (Prod.snd v)) +
                          Prod.snd
                            (Utf8.decode { data := { toList := Prod.fst (Prod.snd v) } }
                              (Int.toNat (Prod.snd (Prod.snd v))))) : Int))))
                none)
            none)
          (some (Sum.inr (Prod.fst v)))) (acc, s, (i : Int)) = some (acc ++ LL (s.drop i)) := by
    intro k
    induction k with
    | zero =>
      intro M i acc h1 h2 h3 h4
      obtain ⟨M, rfl⟩ : ∃ M', M = M' + 1 := ⟨M - 1, by omega⟩
      have hi : i = s.length := by omega
      subst hi
      rw [loop_out (r := acc) (by simp only [Int.toNat_natCast, dF (Nat.lt_irrefl _), cnd_f]), List.drop_length, LL_nil, List.append_nil]
    | succ k ih =>
      intro M i acc h1 h2 h3 h4
      obtain ⟨M, rfl⟩ : ∃ M', M = M' + 1 := ⟨M - 1, by omega⟩
      by_cases hi : i < s.length
      · have hne := drop_ne s i hi
        have hl := dk_len _ hne
        have hw := (dk_w (s.drop i)).1
        rw [List.length_drop] at hl
        have d0 : decide (i < s.length) = true := dT (by omega)
        have d1 : decide ((0 : Int) ≤ (i : Int)) = true := dT (by omega)
        have d2 : decide ((i : Int) ≤ (s.length : Int)) = true := dT (by omega)
        have d3 : ∀ b : Int, decide ((acc.length + [b].length) * 8 ≤ 140737488355328) = true := fun b => dT (by simp only [List.length_cons, List.length_nil]; omega)
        rw [loop_in (y := (acc ++ [vl (s.drop i)], s, ((i + (dk (s.drop i)).2 : Nat) : Int))) (by
          simp only [Int.toNat_natCast, List.take_length, decode_eq, letter_eq, obind_s, d0, d1, d2, d3, cnd_t, Bool.and_self])]
        rw [ih M (i + (dk (s.drop i)).2) (acc ++ [vl (s.drop i)]) (by omega) (by omega) (by omega) (by simp only [List.length_append, List.length_cons, List.length_nil]; omega)]
        rw [LL_cons _ hne, List.drop_drop, List.append_assoc]
        rfl
      · have hi : i = s.length := by omega
        subst hi
        rw [loop_out (r := acc) (by simp only [Int.toNat_natCast, dF (Nat.lt_irrefl _), cnd_f]), List.drop_length, LL_nil, List.append_nil]
  have := key s.length N 0 [] (by omega) hN (by omega) (by simp)
  rw [List.drop_zero, List.nil_append] at this
  rw [this, obind_s]
theorem Count_eq (N : Nat) (s : List UInt8) (hN : s.length < N) (hs : s.length ≤ 1000) : W_text_Count N s = some ((LL s).length : Int) := by
  unfold W_text_Count V_text_Count
  have key : ∀ (k M i c : Nat), s.length - i ≤ k → k < M → i ≤ s.length → c ≤ i →
      loopN M (fun (v : Int × List UInt8 × Int) =>
        cnd (decide (Int.toNat (Prod.snd (Prod.snd v)) < List.length (Prod.fst (Prod.snd v))))
          (some
            (Sum.inl
              (wr IntKind.i64 (Prod.fst v + (1 : Int)), Prod.fst (Prod.snd v),
                (↑(Int.toNat (Prod.snd (Prod.snd v)) +
                    Prod.snd
                      (Utf8.decode { data := { toList := Prod.fst (Prod.snd v) } }
                        (Int.toNat (Prod.snd (Prod.snd v))))) : Int))))
          (some (Sum.inr (Prod.fst v)))) ((c : Int), s, (i : Int)) = some ((c : Int) + (LL (s.drop i)).length) := by
    intro k
    induction k with
    | zero =>
      intro M i c h1 h2 h3 h4
      obtain ⟨M, rfl⟩ : ∃ M', M = M' + 1 := ⟨M - 1, by omega⟩
      have hi : i = s.length := by omega
      subst hi
      rw [loop_out (r := (c : Int)) (by simp only [Int.toNat_natCast, dF (Nat.lt_irrefl _), cnd_f]), List.drop_length, LL_nil]
      simp
    | succ k ih =>
      intro M i c h1 h2 h3 h4
      obtain ⟨M, rfl⟩ : ∃ M', M = M' + 1 := ⟨M - 1, by omega⟩
      by_cases hi : i < s.length
      · have hne := drop_ne s i hi
        have hl := dk_len _ hne
        have hw := (dk_w (s.drop i)).1
        rw [List.length_drop] at hl
        have d0 : decide (i < s.length) = true := dT (by omega)
        have hwr : wr IntKind.i64 ((c : Int) + 1) = ((c + 1 : Nat) : Int) := by rw [wr_i64 (by omega) (by omega)]; omega
        rw [loop_in (y := (((c + 1 : Nat) : Int), s, ((i + (dk (s.drop i)).2 : Nat) : Int))) (by simp only [Int.toNat_natCast, decode_eq, d0, cnd_t, hwr])]
        rw [ih M (i + (dk (s.drop i)).2) (c + 1) (by omega) (by omega) (by omega) (by omega)]
        rw [LL_cons _ hne, List.drop_drop, List.length_cons]
        refine congrArg some ?_
        omega
      · have hi : i = s.length := by omega
        subst hi
        rw [loop_out (r := (c : Int)) (by simp only [Int.toNat_natCast, dF (Nat.lt_irrefl _), cnd_f]), List.drop_length, LL_nil]
        simp
  have := key s.length N 0 0 (by omega) hN (by omega) (by omega)
  rw [List.drop_zero] at this
  have e0 : ((0 : Nat) : Int) = (0 : Int) := rfl
  rw [e0, Int.zero_add] at this
  simp only [e0]
  rw [this, obind_s]
theorem Cut_eq (N : Nat) (s : List UInt8) (n : Nat) (hN : s.length + 2 < N) : W_text_Cut N (s, (n : Int)) = some (s.take (CC s n)) := by
  unfold W_text_Cut V_text_Cut
  try simp only
  by_cases hf : s.length ≤ n
  · rw [dT (by omega), cnd_t, CC_full s n hf, List.take_length]
  have key : ∀ (k M i e : Nat), s.length - i ≤ k → k + 1 < M → i ≤ s.length → i ≤ n →
      loopN M (fun (v : Int × List UInt8 × Int) =>
        cnd (decide (Int.toNat (Prod.snd (Prod.snd v)) < List.length (Prod.fst (Prod.snd v))))
          (cnd (decide ((n : Int) < (↑(Int.toNat (Prod.snd (Prod.snd v))) : Int))) (some (Sum.inr (Prod.fst v)))
            (some
              (Sum.inl
                ((↑(Int.toNat (Prod.snd (Prod.snd v))) : Int), Prod.fst (Prod.snd v),
                  (↑(Int.toNat (Prod.snd (Prod.snd v)) +
                      Prod.snd
                        (Utf8.decode { data := { toList := Prod.fst (Prod.snd v) } }
                          (Int.toNat (Prod.snd (Prod.snd v))))) : Int)))))
          (some (Sum.inr (Prod.fst v)))) ((e : Int), s, (i : Int)) = some ((i + CC (s.drop i) (n - i) : Nat) : Int) := by
    intro k
    induction k with
    | zero => intro M i e h1 h2 h3 h4; omega
    | succ k ih =>
      intro M i e h1 h2 h3 h4
      obtain ⟨M, rfl⟩ : ∃ M', M = M' + 1 := ⟨M - 1, by omega⟩
      have hi : i < s.length := by omega
      have hne := drop_ne s i hi
      have hl := dk_len _ hne
      have hw := (dk_w (s.drop i)).1
      rw [List.length_drop] at hl
      have d0 : decide (i < s.length) = true := dT (by omega)
      have d1 : decide ((n : Int) < (i : Int)) = false := dF (by omega)
      rw [loop_in (y := ((i : Int), s, ((i + (dk (s.drop i)).2 : Nat) : Int))) (by simp only [Int.toNat_natCast, decode_eq, d0, d1, cnd_t, cnd_f])]
      rw [CC_cons _ _ hne]
      by_cases hc : i + (dk (s.drop i)).2 ≤ n
      · rw [ih M (i + (dk (s.drop i)).2) i (by omega) (by omega) (by omega) hc, if_pos (by omega), List.drop_drop, Nat.sub_sub, Nat.add_assoc]
      · rw [if_neg (by omega), Nat.add_zero]
        obtain ⟨M, rfl⟩ : ∃ M', M = M' + 1 := ⟨M - 1, by omega⟩
        refine loop_out ?_
        simp only [Int.toNat_natCast]
        by_cases hl2 : i + (dk (s.drop i)).2 < s.length
        · have d2 : decide ((n : Int) < ((i + (dk (s.drop i)).2 : Nat) : Int)) = true := dT (by omega)
          rw [dT hl2, d2, cnd_t, cnd_t]
        · rw [dF hl2, cnd_f]
  have h0 := key s.length N 0 0 (by omega) (by omega) (by omega) (by omega)
  rw [List.drop_zero, Nat.zero_add, Nat.sub_zero] at h0
  have e0 : ((0 : Nat) : Int) = (0 : Int) := rfl
  rw [e0] at h0
  have hc := CC_le s n
  have d0 : decide ((s.length : Int) ≤ (n : Int)) = false := dF (by omega)
  have d1 : decide ((0 : Int) ≤ ((CC s n : Nat) : Int)) = true := dT (by omega)
  have d2 : decide (((CC s n : Nat) : Int) ≤ (s.length : Int)) = true := dT (by omega)
  rw [d0, cnd_f]
  simp only [e0]
  rw [h0, obind_s, d1, d2, Bool.and_self, cnd_t, Int.toNat_natCast, List.drop_zero]
theorem Same_self (N : Nat) (a : List Int) (hN : a.length < N) (hl : a.length ≤ 140737488355327) : W_ref1_SameInts N (a, a) = some true := by
  unfold W_ref1_SameInts V_ref1_SameInts
  try simp only
  have key : ∀ (k M i : Nat), a.length - i ≤ k → k < M → i ≤ a.length → loopN M (fun (v : Int) =>
          cnd (decide (v < (↑(List.length a) : Int)))
            (cnd (decide ((0 : Int) ≤ v) && decide (v < (↑(List.length a) : Int)))
              (cnd (decide ((0 : Int) ≤ v) && decide (v < (↑(List.length a) : Int)))
                (cnd
                  (decide
                    (List.getD a (Int.toNat v) (0 : Int) ≠ List.getD a (Int.toNat v) (0 : Int)))
                  (some (Sum.inr (Sum.inr false))) (some (Sum.inl (wr IntKind.i64 (v + (1 : Int))))))
                none)
              none)
            (some (Sum.inr (Sum.inl ())))) (i : Int) = some (Sum.inl () : PUnit ⊕ Bool) := by
    intro k
    induction k with
    | zero =>
      intro M i h1 h2 h3
      obtain ⟨M, rfl⟩ : ∃ M', M = M' + 1 := ⟨M - 1, by omega⟩
      have d0 : decide ((i : Int) < (a.length : Int)) = false := dF (by omega)
      exact loop_out (by simp only [d0, cnd_f])
    | succ k ih =>
      intro M i h1 h2 h3
      obtain ⟨M, rfl⟩ : ∃ M', M = M' + 1 := ⟨M - 1, by omega⟩
      by_cases hi : i < a.length
      · have d0 : decide ((i : Int) < (a.length : Int)) = true := dT (by omega)
        have d1 : decide ((0 : Int) ≤ (i : Int)) = true := dT (by omega)
        have hw : wr IntKind.i64 ((i : Int) + 1) = ((i + 1 : Nat) : Int) := by rw [wr_i64 (by omega) (by omega)]; omega
        rw [loop_in (y := ((i + 1 : Nat) : Int)) (by simp only [d0, d1, cnd_t, Bool.and_self, ne_eq, not_true_eq_false, decide_false, cnd_f, hw])]
        exact ih M (i + 1) (by omega) (by omega) (by omega)
      · have d0 : decide ((i : Int) < (a.length : Int)) = false := dF (by omega)
        exact loop_out (by simp only [d0, cnd_f])
  rw [dF (by simp), cnd_f]
  have := key a.length N 0 (by omega) hN (by omega)
  have e0 : Int.ofNat 0 = ((0 : Nat) : Int) := rfl
  rw [e0, this, obind_s, selim_l]
theorem u8_lt (b : UInt8) : b.toNat < 256 := UInt8.toNat_lt b
theorem at_lt (l : List UInt8) (k : Nat) : atL l k < 256 := u8_lt _
theorem loop_inl {σ ρ : Type} {f : σ → Option (σ ⊕ ρ)} {n : Nat} {x y : σ} (h : f x = some (.inl y)) : loopN (n + 1) f x = loopN n f y := by
  simp only [loopN, h]
theorem loop_inr {σ ρ : Type} {f : σ → Option (σ ⊕ ρ)} {n : Nat} {x : σ} {r : ρ} (h : f x = some (.inr r)) : loopN (n + 1) f x = some r := by
  simp only [loopN, h]
theorem vl_bad {l : List UInt8} (h : dk l = (65533, 1)) : vl l = -1 := by
  have hp : hpL l = false := by
    cases q : hpL l with
    | false => rfl
    | true =>
      have := hp_dk l q
      rw [h] at this
      injection this with _ e
      cases e
  unfold vl
  rw [h, hp]
  rfl
theorem vl_good {l : List UInt8} {c n : Nat} (h : dk l = (c, n)) (hc : c ≠ 65533) (hb : c < 1114112) : vl l = c := by
  unfold vl
  rw [h]
  try simp only
  rw [if_neg (by omega)]
  exact wr_i64 (z := (c : Int)) (by omega) (by omega)
theorem vl_fffd {l : List UInt8} (h : dk l = (65533, 3)) (hp : hpL l = true) : vl l = 65533 := by
  unfold vl
  rw [h, hp]
  exact wr_i64 (z := 65533) (by omega) (by omega)
def refC (l : List UInt8) : Nat → Nat → Int → Option Int
  | 0, _, c => some c
  | k + 1, i, c => if (atL l i : Int) < 128 ∨ 191 < (atL l i : Int) then none else refC l k (i + 1) (c * 64 + atL l i - 128)
def refM (l : List UInt8) (c : Int) (n : Nat) (least : Int) : Int × Int :=
  if (l.length : Int) < n then (-1, 1) else
    match refC l (n - 1) 1 c with
    | none => (-1, 1)
    | some v => if v < least ∨ 1114111 < v ∨ (55296 ≤ v ∧ v ≤ 57343) then (-1, 1) else (v, n)
def refL (l : List UInt8) : Int × Int :=
  if atL l 0 < 128 then (atL l 0, 1)
  else if 194 ≤ atL l 0 ∧ atL l 0 ≤ 223 then refM l (atL l 0 - 192) 2 128
  else if 224 ≤ atL l 0 ∧ atL l 0 ≤ 239 then refM l (atL l 0 - 224) 3 2048
  else if 240 ≤ atL l 0 ∧ atL l 0 ≤ 244 then refM l (atL l 0 - 240) 4 65536
  else (-1, 1)
theorem ct_iff (l : List UInt8) (k : Nat) : ctL l k = true ↔ (k < l.length ∧ 128 ≤ atL l k ∧ atL l k ≤ 191) := by
  unfold ctL
  rw [Bool.and_eq_true, decide_eq_true_iff, beq_iff_eq]
  omega
theorem ct_no (l : List UInt8) (k : Nat) (h : ¬ (k < l.length ∧ 128 ≤ atL l k ∧ atL l k ≤ 191)) : ctL l k = false := by
  cases q : ctL l k with
  | false => rfl
  | true => exact absurd ((ct_iff l k).1 q) h
theorem hp_of : ∀ (l : List UInt8), 3 ≤ l.length → atL l 0 = 239 → atL l 1 = 191 → atL l 2 = 189 → hpL l = true
  | x :: y :: z :: r, h, a0, a1, a2 => by
    have x1 : x = 239 := UInt8.toNat_inj.1 a0
    have y1 : y = 191 := UInt8.toNat_inj.1 a1
    have z1 : z = 189 := UInt8.toNat_inj.1 a2
    subst x1 y1 z1
    unfold hpL
    rw [decide_eq_true h]; rfl
  | [_, _], h, _, _, _ => by simp at h
  | [_], h, _, _, _ => by simp at h
  | [], h, _, _, _ => by simp at h
theorem refL2 (l : List UInt8) (d2 : 194 ≤ atL l 0 ∧ atL l 0 ≤ 223) (bad : dk l = (65533, 1) → ((-1 : Int), (1 : Int)) = (vl l, ((dk l).2 : Int))) (good : ∀ c n, dk l = (c, n) → c ≠ 65533 → c < 1114112 → ((c : Int), (n : Int)) = (vl l, ((dk l).2 : Int))) : refM l (atL l 0 - 192) 2 128 = (vl l, ((dk l).2 : Int)) := by
  have h0 := at_lt l 0; have h1 := at_lt l 1; have h2 := at_lt l 2; have h3 := at_lt l 3
  have ct : ∀ k, ctL l k = true ↔ (k < l.length ∧ 128 ≤ atL l k ∧ atL l k ≤ 191) := ct_iff l
  have ctf : ∀ k, ¬ (k < l.length ∧ 128 ≤ atL l k ∧ atL l k ≤ 191) → ctL l k = false := ct_no l
  have c1 : ¬ atL l 0 < 128 := by omega
  have C1 : ∀ i (c : Int), refC l 1 i c = if (atL l i : Int) < 128 ∨ 191 < (atL l i : Int) then none else some (c * 64 + atL l i - 128) := fun i c => rfl
  have C2 : ∀ i (c : Int), refC l 2 i c = if (atL l i : Int) < 128 ∨ 191 < (atL l i : Int) then none else refC l 1 (i + 1) (c * 64 + atL l i - 128) := fun i c => rfl
  have C3 : ∀ i (c : Int), refC l 3 i c = if (atL l i : Int) < 128 ∨ 191 < (atL l i : Int) then none else refC l 2 (i + 1) (c * 64 + atL l i - 128) := fun i c => rfl
  have bt : ∀ {b : Bool}, ∀ {α : Type} {x y : α}, b = true → (if b = true then x else y) = x := fun h => if_pos h
  have bf : ∀ {b : Bool}, ∀ {α : Type} {x y : α}, b = false → (if b = true then x else y) = y := fun {b} {α} {x y} h => if_neg (by rw [h]; decide)
  have h32 : (atL l 0 / 32 == 6) = true := beq_iff_eq.2 (by omega)
  have h16 : (atL l 0 / 16 == 14) = false := beq_eq_false_iff_ne.2 (by omega)
  have h8 : (atL l 0 / 8 == 30) = false := beq_eq_false_iff_ne.2 (by omega)
  unfold refM
  by_cases k1 : 1 < l.length ∧ 128 ≤ atL l 1 ∧ atL l 1 ≤ 191
  · rw [if_neg (by omega), show 2 - 1 = 1 from rfl, C1, if_neg (by omega)]
    try simp only
    rw [if_neg (by omega)]
    have e : dk l = ((atL l 0 % 32) * 64 + atL l 1 % 64, 2) := by
      unfold dk dkN
      rw [if_neg c1, h32, (ct 1).2 k1, Bool.and_self, bt rfl, if_pos (by omega)]
    rw [← good _ _ e (by omega) (by omega)]
    exact Prod.ext (by simp only; omega) rfl
  · rw [← bad (by
      unfold dk dkN
      rw [if_neg c1, ctf 1 k1, h16, h8]
      simp only [Bool.and_false, Bool.false_and, Bool.false_eq_true, if_false])]
    by_cases q : (l.length : Int) < (2 : Nat)
    · rw [if_pos q]
    · rw [if_neg q, show 2 - 1 = 1 from rfl, C1, if_pos (by omega)]
theorem refL3 (l : List UInt8) (d3 : 224 ≤ atL l 0 ∧ atL l 0 ≤ 239) (bad : dk l = (65533, 1) → ((-1 : Int), (1 : Int)) = (vl l, ((dk l).2 : Int))) (good : ∀ c n, dk l = (c, n) → c ≠ 65533 → c < 1114112 → ((c : Int), (n : Int)) = (vl l, ((dk l).2 : Int))) : refM l (atL l 0 - 224) 3 2048 = (vl l, ((dk l).2 : Int)) := by
  have h0 := at_lt l 0; have h1 := at_lt l 1; have h2 := at_lt l 2; have h3 := at_lt l 3
  have ct : ∀ k, ctL l k = true ↔ (k < l.length ∧ 128 ≤ atL l k ∧ atL l k ≤ 191) := ct_iff l
  have ctf : ∀ k, ¬ (k < l.length ∧ 128 ≤ atL l k ∧ atL l k ≤ 191) → ctL l k = false := ct_no l
  have c1 : ¬ atL l 0 < 128 := by omega
  have C1 : ∀ i (c : Int), refC l 1 i c = if (atL l i : Int) < 128 ∨ 191 < (atL l i : Int) then none else some (c * 64 + atL l i - 128) := fun i c => rfl
  have C2 : ∀ i (c : Int), refC l 2 i c = if (atL l i : Int) < 128 ∨ 191 < (atL l i : Int) then none else refC l 1 (i + 1) (c * 64 + atL l i - 128) := fun i c => rfl
  have C3 : ∀ i (c : Int), refC l 3 i c = if (atL l i : Int) < 128 ∨ 191 < (atL l i : Int) then none else refC l 2 (i + 1) (c * 64 + atL l i - 128) := fun i c => rfl
  have bt : ∀ {b : Bool}, ∀ {α : Type} {x y : α}, b = true → (if b = true then x else y) = x := fun h => if_pos h
  have bf : ∀ {b : Bool}, ∀ {α : Type} {x y : α}, b = false → (if b = true then x else y) = y := fun {b} {α} {x y} h => if_neg (by rw [h]; decide)
  have h32 : (atL l 0 / 32 == 6) = false := beq_eq_false_iff_ne.2 (by omega)
  have h16 : (atL l 0 / 16 == 14) = true := beq_iff_eq.2 (by omega)
  have h8 : (atL l 0 / 8 == 30) = false := beq_eq_false_iff_ne.2 (by omega)
  unfold refM
  by_cases k1 : (1 < l.length ∧ 128 ≤ atL l 1 ∧ atL l 1 ≤ 191) ∧ (2 < l.length ∧ 128 ≤ atL l 2 ∧ atL l 2 ≤ 191)
  · rw [if_neg (by omega), show 3 - 1 = 2 from rfl, C2, if_neg (by omega), C1, if_neg (by
      show ¬ ((atL l 2 : Int) < 128 ∨ 191 < (atL l 2 : Int)); omega)]
    try simp only
    have e0 : dk l = if (decide ((atL l 0 % 16) * 4096 + (atL l 1 % 64) * 64 + atL l 2 % 64 ≥ 0x800) && Utf8.valid ((atL l 0 % 16) * 4096 + (atL l 1 % 64) * 64 + atL l 2 % 64 : Nat)) = true then ((atL l 0 % 16) * 4096 + (atL l 1 % 64) * 64 + atL l 2 % 64, 3) else (65533, 1) := by
      unfold dk dkN
      rw [if_neg c1, h32, h16, (ct 1).2 k1.1, (ct 2).2 k1.2]
      rfl
    obtain ⟨v, hv⟩ : ∃ v, (atL l 0 % 16) * 4096 + (atL l 1 % 64) * 64 + atL l 2 % 64 = v := ⟨_, rfl⟩
    rw [hv] at e0
    rw [show ((((atL l 0 : Int) - 224) * 64 + (atL l 1 : Int) - 128) * 64 + ((atL l (1 + 1) : Nat) : Int) - 128) = (v : Int) by
      show ((((atL l 0 : Int) - 224) * 64 + (atL l 1 : Int) - 128) * 64 + ((atL l 2 : Nat) : Int) - 128) = (v : Int)
      omega]
    by_cases q : (v : Int) < 2048 ∨ 1114111 < (v : Int) ∨ (55296 ≤ (v : Int) ∧ (v : Int) ≤ 57343)
    · rw [if_pos q]
      refine bad (e0.trans (bf ?_))
      unfold Utf8.valid
      by_cases q1 : v ≥ 0x800
      · rw [decide_eq_true q1, Bool.true_and, decide_eq_false (show ¬ (v : Int) < 0xD800 by omega), decide_eq_false (show ¬ 0xE000 ≤ (v : Int) by omega), Bool.and_false, Bool.false_and]; rfl
      · rw [decide_eq_false q1, Bool.false_and]
    · rw [if_neg q]
      have e : dk l = (v, 3) := e0.trans (bt (by
        unfold Utf8.valid
        rw [decide_eq_true (show v ≥ 0x800 by omega), Bool.true_and, decide_eq_true (show (0 : Int) ≤ (v : Int) by omega), Bool.true_and]
        by_cases q1 : (v : Int) < 0xD800
        · rw [decide_eq_true q1]; rfl
        · rw [decide_eq_false q1, decide_eq_true (show 0xE000 ≤ (v : Int) by omega), decide_eq_true (show (v : Int) ≤ 0x10FFFF by omega)]; rfl))
      by_cases w : v = 65533
      · have hp : hpL l = true := hp_of l (by omega) (by omega) (by omega) (by omega)
        rw [w] at e ⊢
        rw [vl_fffd e hp, e]; rfl
      · exact good v 3 e w (by omega)
  · rw [← bad (by
      have : (ctL l 1 && ctL l 2) = false := by
        by_cases k2 : 1 < l.length ∧ 128 ≤ atL l 1 ∧ atL l 1 ≤ 191
        · rw [ctf 2 (fun q => k1 ⟨k2, q⟩), Bool.and_false]
        · rw [ctf 1 k2, Bool.false_and]
      unfold dk dkN
      rw [if_neg c1, h32, h16, h8]
      simp only [Bool.true_and, this, Bool.and_false, Bool.false_and, Bool.false_eq_true, if_false])]
    by_cases q : (l.length : Int) < (3 : Nat)
    · rw [if_pos q]
    · rw [if_neg q, show 3 - 1 = 2 from rfl, C2]
      by_cases q1 : (atL l 1 : Int) < 128 ∨ 191 < (atL l 1 : Int)
      · rw [if_pos q1]
      · rw [if_neg q1, C1, if_pos (by
          show (atL l 2 : Int) < 128 ∨ 191 < (atL l 2 : Int)
          omega)]
theorem refL4 (l : List UInt8) (d4 : 240 ≤ atL l 0 ∧ atL l 0 ≤ 244) (bad : dk l = (65533, 1) → ((-1 : Int), (1 : Int)) = (vl l, ((dk l).2 : Int))) (good : ∀ c n, dk l = (c, n) → c ≠ 65533 → c < 1114112 → ((c : Int), (n : Int)) = (vl l, ((dk l).2 : Int))) : refM l (atL l 0 - 240) 4 65536 = (vl l, ((dk l).2 : Int)) := by
  have h0 := at_lt l 0; have h1 := at_lt l 1; have h2 := at_lt l 2; have h3 := at_lt l 3
  have ct : ∀ k, ctL l k = true ↔ (k < l.length ∧ 128 ≤ atL l k ∧ atL l k ≤ 191) := ct_iff l
  have ctf : ∀ k, ¬ (k < l.length ∧ 128 ≤ atL l k ∧ atL l k ≤ 191) → ctL l k = false := ct_no l
  have c1 : ¬ atL l 0 < 128 := by omega
  have C1 : ∀ i (c : Int), refC l 1 i c = if (atL l i : Int) < 128 ∨ 191 < (atL l i : Int) then none else some (c * 64 + atL l i - 128) := fun i c => rfl
  have C2 : ∀ i (c : Int), refC l 2 i c = if (atL l i : Int) < 128 ∨ 191 < (atL l i : Int) then none else refC l 1 (i + 1) (c * 64 + atL l i - 128) := fun i c => rfl
  have C3 : ∀ i (c : Int), refC l 3 i c = if (atL l i : Int) < 128 ∨ 191 < (atL l i : Int) then none else refC l 2 (i + 1) (c * 64 + atL l i - 128) := fun i c => rfl
  have bt : ∀ {b : Bool}, ∀ {α : Type} {x y : α}, b = true → (if b = true then x else y) = x := fun h => if_pos h
  have bf : ∀ {b : Bool}, ∀ {α : Type} {x y : α}, b = false → (if b = true then x else y) = y := fun {b} {α} {x y} h => if_neg (by rw [h]; decide)
  have h32 : (atL l 0 / 32 == 6) = false := beq_eq_false_iff_ne.2 (by omega)
  have h16 : (atL l 0 / 16 == 14) = false := beq_eq_false_iff_ne.2 (by omega)
  have h8 : (atL l 0 / 8 == 30) = true := beq_iff_eq.2 (by omega)
  unfold refM
  by_cases k1 : (1 < l.length ∧ 128 ≤ atL l 1 ∧ atL l 1 ≤ 191) ∧ (2 < l.length ∧ 128 ≤ atL l 2 ∧ atL l 2 ≤ 191) ∧ (3 < l.length ∧ 128 ≤ atL l 3 ∧ atL l 3 ≤ 191)
  · rw [if_neg (by omega), show 4 - 1 = 3 from rfl, C3, if_neg (by omega), C2, if_neg (by
      show ¬ ((atL l 2 : Int) < 128 ∨ 191 < (atL l 2 : Int)); omega), C1, if_neg (by
      show ¬ ((atL l 3 : Int) < 128 ∨ 191 < (atL l 3 : Int)); omega)]
    try simp only
    have e0 : dk l = if (decide ((atL l 0 % 8) * 262144 + (atL l 1 % 64) * 4096 + (atL l 2 % 64) * 64 + atL l 3 % 64 ≥ 0x10000) && Utf8.valid ((atL l 0 % 8) * 262144 + (atL l 1 % 64) * 4096 + (atL l 2 % 64) * 64 + atL l 3 % 64 : Nat)) = true then ((atL l 0 % 8) * 262144 + (atL l 1 % 64) * 4096 + (atL l 2 % 64) * 64 + atL l 3 % 64, 4) else (65533, 1) := by
      unfold dk dkN
      rw [if_neg c1, h32, h16, h8, (ct 1).2 k1.1, (ct 2).2 k1.2.1, (ct 3).2 k1.2.2]
      rfl
    obtain ⟨v, hv⟩ : ∃ v, (atL l 0 % 8) * 262144 + (atL l 1 % 64) * 4096 + (atL l 2 % 64) * 64 + atL l 3 % 64 = v := ⟨_, rfl⟩
    rw [hv] at e0
    rw [show (((((atL l 0 : Int) - 240) * 64 + (atL l 1 : Int) - 128) * 64 + ((atL l (1 + 1) : Nat) : Int) - 128) * 64 + ((atL l (1 + 1 + 1) : Nat) : Int) - 128) = (v : Int) by
      show (((((atL l 0 : Int) - 240) * 64 + (atL l 1 : Int) - 128) * 64 + ((atL l 2 : Nat) : Int) - 128) * 64 + ((atL l 3 : Nat) : Int) - 128) = (v : Int)
      omega]
    by_cases q : (v : Int) < 65536 ∨ 1114111 < (v : Int) ∨ (55296 ≤ (v : Int) ∧ (v : Int) ≤ 57343)
    · rw [if_pos q]
      refine bad (e0.trans (bf ?_))
      unfold Utf8.valid
      by_cases q1 : v ≥ 0x10000
      · rw [decide_eq_true q1, Bool.true_and, decide_eq_false (show ¬ (v : Int) < 0xD800 by omega), decide_eq_false (show ¬ (v : Int) ≤ 0x10FFFF by omega), Bool.and_false, Bool.and_false]; rfl
      · rw [decide_eq_false q1, Bool.false_and]
    · rw [if_neg q]
      have e : dk l = (v, 4) := e0.trans (bt (by
        unfold Utf8.valid
        rw [decide_eq_true (show v ≥ 0x10000 by omega), Bool.true_and, decide_eq_true (show 0xE000 ≤ (v : Int) by omega), decide_eq_true (show (v : Int) ≤ 0x10FFFF by omega), Bool.and_self, Bool.or_true]))
      exact good v 4 e (by omega) (by omega)
  · rw [← bad (by
      have : (ctL l 1 && ctL l 2 && ctL l 3) = false := by
        by_cases k2 : 1 < l.length ∧ 128 ≤ atL l 1 ∧ atL l 1 ≤ 191
        · by_cases k3 : 2 < l.length ∧ 128 ≤ atL l 2 ∧ atL l 2 ≤ 191
          · rw [ctf 3 (fun q => k1 ⟨k2, k3, q⟩), Bool.and_false]
          · rw [ctf 2 k3, Bool.and_false, Bool.false_and]
        · rw [ctf 1 k2, Bool.false_and, Bool.false_and]
      unfold dk dkN
      rw [if_neg c1, h32, h16, h8]
      simp only [Bool.true_and, this, Bool.and_false, Bool.false_and, Bool.false_eq_true, if_false])]
    by_cases q : (l.length : Int) < (4 : Nat)
    · rw [if_pos q]
    · rw [if_neg q, show 4 - 1 = 3 from rfl, C3]
      by_cases q1 : (atL l 1 : Int) < 128 ∨ 191 < (atL l 1 : Int)
      · rw [if_pos q1]
      · rw [if_neg q1, C2]
        by_cases q2 : ((atL l (1 + 1) : Nat) : Int) < 128 ∨ 191 < ((atL l (1 + 1) : Nat) : Int)
        · rw [if_pos q2]
        · have q2' : ¬ ((atL l 2 : Int) < 128 ∨ 191 < (atL l 2 : Int)) := q2
          rw [if_neg q2, C1, if_pos (by
            show (atL l 3 : Int) < 128 ∨ 191 < (atL l 3 : Int)
            omega)]
theorem refL5 (l : List UInt8) (c1 : ¬ atL l 0 < 128) (d2 : ¬ (194 ≤ atL l 0 ∧ atL l 0 ≤ 223)) (d3 : ¬ (224 ≤ atL l 0 ∧ atL l 0 ≤ 239)) (d4 : ¬ (240 ≤ atL l 0 ∧ atL l 0 ≤ 244)) (bad : dk l = (65533, 1) → ((-1 : Int), (1 : Int)) = (vl l, ((dk l).2 : Int))) : ((-1 : Int), (1 : Int)) = (vl l, ((dk l).2 : Int)) := by
  have h0 := at_lt l 0; have h1 := at_lt l 1; have h2 := at_lt l 2; have h3 := at_lt l 3
  refine bad ?_
  unfold dk dkN
  rw [if_neg c1]
  by_cases z1 : atL l 0 < 194
  · have h16 : (atL l 0 / 16 == 14) = false := beq_eq_false_iff_ne.2 (by omega)
    have h8 : (atL l 0 / 8 == 30) = false := beq_eq_false_iff_ne.2 (by omega)
    rw [h16, h8]
    simp only [Bool.false_and, Bool.false_eq_true, if_false]
    split
    · rename_i w
      rw [Bool.and_eq_true, beq_iff_eq] at w
      rw [if_neg (by omega)]
    · rfl
  · have h32 : (atL l 0 / 32 == 6) = false := beq_eq_false_iff_ne.2 (by omega)
    have h16 : (atL l 0 / 16 == 14) = false := beq_eq_false_iff_ne.2 (by omega)
    rw [h32, h16]
    simp only [Bool.false_and, Bool.false_eq_true, if_false]
    split
    · rename_i w
      rw [Bool.and_eq_true, Bool.and_eq_true, Bool.and_eq_true, beq_iff_eq] at w
      rw [if_neg]
      intro w2
      unfold Utf8.valid at w2
      rw [decide_eq_false (show ¬ (((atL l 0 % 8) * 262144 + (atL l 1 % 64) * 4096 + (atL l 2 % 64) * 64 + atL l 3 % 64 : Nat) : Int) < 0xD800 by omega), decide_eq_false (show ¬ (((atL l 0 % 8) * 262144 + (atL l 1 % 64) * 4096 + (atL l 2 % 64) * 64 + atL l 3 % 64 : Nat) : Int) ≤ 0x10FFFF by omega)] at w2
      simp at w2
    · rfl
theorem refL_eq (l : List UInt8) : refL l = (vl l, ((dk l).2 : Int)) := by
  have h0 := at_lt l 0
  have bad : dk l = (65533, 1) → ((-1 : Int), (1 : Int)) = (vl l, ((dk l).2 : Int)) := fun h => by rw [vl_bad h, h]; rfl
  have good : ∀ c n, dk l = (c, n) → c ≠ 65533 → c < 1114112 → ((c : Int), (n : Int)) = (vl l, ((dk l).2 : Int)) := fun c n h a b => by rw [vl_good h a b, h]
  unfold refL
  by_cases c1 : atL l 0 < 128
  · rw [if_pos c1]
    refine good (atL l 0) 1 ?_ (by omega) (by omega)
    unfold dk dkN
    rw [if_pos c1]
  rw [if_neg c1]
  by_cases d2 : 194 ≤ atL l 0 ∧ atL l 0 ≤ 223
  · rw [if_pos d2]; exact refL2 l d2 bad good
  rw [if_neg d2]
  by_cases d3 : 224 ≤ atL l 0 ∧ atL l 0 ≤ 239
  · rw [if_pos d3]; exact refL3 l d3 bad good
  rw [if_neg d3]
  by_cases d4 : 240 ≤ atL l 0 ∧ atL l 0 ≤ 244
  · rw [if_pos d4]; exact refL4 l d4 bad good
  rw [if_neg d4]
  exact refL5 l c1 d2 d3 d4 bad
theorem rLetter_eq (N : Nat) (hN : 1000 ≤ N) (l : List UInt8) (hl : l ≠ []) (hlen : l.length ≤ 1000) : W_ref1_Letter N l = some (vl l, ((dk l).2 : Int)) := by
  rw [← refL_eq]
  have hl0 : 0 < l.length := List.length_pos_iff.2 hl
  have h0 := at_lt l 0
  have e0 : wr .i64 ((List.getD l 0 (0 : UInt8)).toNat : Int) = (atL l 0 : Int) := wr_m (by omega) (by have : (List.getD l 0 (0 : UInt8)).toNat = atL l 0 := rfl; omega)
  obtain ⟨M, rfl⟩ : ∃ M, N = M + 4 := ⟨N - 4, by omega⟩
  unfold W_ref1_Letter V_ref1_Letter
  rw [dT (Int.le_refl (0 : Int)), dT (show (0 : Int) < l.length by omega), Bool.and_self, cnd_t]
  simp only [e0]
  unfold refL
  by_cases c1 : atL l 0 < 128
  · rw [dT (show (atL l 0 : Int) < 128 by omega), cnd_t, obind_s, selim_r, if_pos c1]
  rw [dF (show ¬ (atL l 0 : Int) < 128 by omega), cnd_f, if_neg c1]
  have key : ∀ (c : Int) (n : Nat) (least : Int), 0 ≤ c → c ≤ 63 → 2 ≤ n → n ≤ 4 → (cnd (decide ((l.length : Int) < (n : Int))) (some ((-1 : Int), (1 : Int))) (obind (loopN (M + 4) (fun (v : Int × Int) =>
                cnd (decide (Prod.snd v < (n : Int)))
                  (cnd (decide ((0 : Int) ≤ Prod.snd v) && decide (Prod.snd v < (↑(List.length l) : Int)))
                    (cnd (decide ((↑(UInt8.toNat (List.getD l (Int.toNat (Prod.snd v)) (0 : UInt8))) : Int) < (128 : Int)))
                      (some (Sum.inr (Sum.inr ((-1 : Int), (1 : Int)))))
                      (cnd (decide ((0 : Int) ≤ Prod.snd v) && decide (Prod.snd v < (↑(List.length l) : Int)))
                        (cnd (decide ((191 : Int) < (↑(UInt8.toNat (List.getD l (Int.toNat (Prod.snd v)) (0 : UInt8))) : Int)))
                          (some (Sum.inr (Sum.inr ((-1 : Int), (1 : Int)))))
                          (cnd (decide ((0 : Int) ≤ Prod.snd v) && decide (Prod.snd v < (↑(List.length l) : Int)))
                            (some
                              (Sum.inl
                                (wr IntKind.i64
                                    (wr IntKind.i64
                                        (wr IntKind.i64 (Prod.fst v * (64 : Int)) +
                                          wr IntKind.i64
                                            (↑(UInt8.toNat (List.getD l (Int.toNat (Prod.snd v)) (0 : UInt8))) : Int)) -
                                      (128 : Int)),
                                  wr IntKind.i64 (Prod.snd v + (1 : Int)))))
                            none))
                        none))
                    none)
                  (some (Sum.inr (Sum.inl (Prod.fst v))))) (c, (1 : Int))) fun (b_1 : Int ⊕ Int × Int) =>
            selim
              (fun (b_2 : Int) =>
                obind (cnd (decide (b_2 < least)) (some true) (some (decide ((1114111 : Int) < b_2))))
                  fun (b_3 : Bool) =>
                  cnd b_3 (some ((-1 : Int), (1 : Int)))
                    (cnd (decide ((55296 : Int) ≤ b_2))
                      (cnd (decide (b_2 ≤ (57343 : Int))) (some ((-1 : Int), (1 : Int)))
                        (some (b_2, (n : Int))))
                      (some (b_2, (n : Int)))))
              (fun (c : Int × Int) => some (Prod.fst c, Prod.snd c)) b_1)) = some (refM l c n least) := fun c n least hc0 hc1 hn2 hn4 => by
    unfold refM
    by_cases q : (l.length : Int) < (n : Int)
    · rw [dT q, cnd_t, if_pos q]
    rw [dF q, cnd_f, if_neg q]
    generalize hF : (fun (v : Int × Int) => _) = F
    have step : ∀ (i : Nat) (c : Int), i < n → 0 ≤ c → c ≤ 2147483648 → F (c, (i : Int)) = if (atL l i : Int) < 128 ∨ 191 < (atL l i : Int) then some (.inr (.inr (-1, 1))) else some (.inl (c * 64 + atL l i - 128, ((i + 1 : Nat) : Int))) := fun i c hi a b => by
      subst hF
      have hb := at_lt l i
      have eb : ((UInt8.toNat (List.getD l i (0 : UInt8)) : Nat) : Int) = (atL l i : Int) := rfl
      simp only [Int.toNat_natCast, eb]
      rw [dT (show (i : Int) < (n : Int) by omega), cnd_t, dT (show (0 : Int) ≤ (i : Int) by omega), dT (show (i : Int) < (l.length : Int) by omega), Bool.and_self, cnd_t]
      by_cases k1 : (atL l i : Int) < 128
      · rw [dT k1, cnd_t, if_pos (.inl k1)]
      rw [dF k1, cnd_f, cnd_t]
      by_cases k2 : 191 < (atL l i : Int)
      · rw [dT k2, cnd_t, if_pos (.inr k2)]
      rw [dF k2, cnd_f, cnd_t, if_neg (by omega), wr_m (z := c * 64) (by omega) (by omega), wr_m (z := ((atL l i : Nat) : Int)) (by omega) (by omega), wr_m (z := c * 64 + (atL l i : Int)) (by omega) (by omega), wr_m (z := c * 64 + (atL l i : Int) - 128) (by omega) (by omega), wr_m (z := (i : Int) + 1) (by omega) (by omega)]
      rfl
    have stop : ∀ (c : Int), F (c, (n : Int)) = some (.inr (.inl c)) := fun c => by
      subst hF
      try simp only
      rw [dF (show ¬ (n : Int) < (n : Int) by omega), cnd_f]
    have run : ∀ (k : Nat) (i : Nat) (c : Int) (m : Nat), i + k = n → k ≤ 3 → 0 ≤ c → (k = 3 → c ≤ 63) → (k = 2 → c ≤ 4095) → (k = 1 → c ≤ 262143) → loopN (m + k + 1) F (c, (i : Int)) = some (match refC l k i c with | none => .inr (-1, 1) | some v => .inl v) := fun k => by
      induction k with
      | zero =>
        intro i c m hi hk a b1 b2 b3
        have : i = n := by omega
        subst this
        rw [loop_inr (stop c)]
        rfl
      | succ k ih =>
        intro i c m hi hk a b1 b2 b3
        have hst := step i c (by omega) a (by omega)
        have hb := at_lt l i
        have er : refC l (k + 1) i c = if (atL l i : Int) < 128 ∨ 191 < (atL l i : Int) then none else refC l k (i + 1) (c * 64 + atL l i - 128) := rfl
        rw [er]
        by_cases w : (atL l i : Int) < 128 ∨ 191 < (atL l i : Int)
        · rw [if_pos w] at hst ⊢
          rw [loop_inr hst]
        · rw [if_neg w] at hst ⊢
          rw [show m + (k + 1) + 1 = (m + k + 1) + 1 by omega, loop_inl hst]
          exact ih (i + 1) _ m (by omega) (by omega) (by omega) (by omega) (by omega) (by omega)
    have r := run (n - 1) 1 c (M + 4 - n) (by omega) (by omega) hc0 (by omega) (by omega) (by omega)
    rw [show M + 4 - n + (n - 1) + 1 = M + 4 by omega] at r
    refine (congrArg (fun o => obind o _) r).trans ?_
    rw [obind_s]
    cases hr : refC l (n - 1) 1 c with
    | none => rfl
    | some v =>
      try simp only
      rw [selim_l]
      by_cases w1 : v < least
      · rw [dT w1, cnd_t, obind_s, cnd_t, if_pos (.inl w1)]
      rw [dF w1, cnd_f, obind_s]
      by_cases w2 : 1114111 < v
      · rw [dT w2, cnd_t, if_pos (.inr (.inl w2))]
      rw [dF w2, cnd_f]
      by_cases w3 : 55296 ≤ v
      · rw [dT w3, cnd_t]
        by_cases w4 : v ≤ 57343
        · rw [dT w4, cnd_t, if_pos (.inr (.inr ⟨w3, w4⟩))]
        · rw [dF w4, cnd_f, if_neg (by omega)]
      · rw [dF w3, cnd_f, if_neg (by omega)]
  have s2 : ∀ z : Int, 0 ≤ z → z ≤ 255 → wr .i64 z = z := fun z a b => wr_m (by omega) (by omega)
  by_cases d2 : 194 ≤ atL l 0 ∧ atL l 0 ≤ 223
  · rw [dT (show (194 : Int) ≤ (atL l 0 : Int) by omega), cnd_t, dT (show (atL l 0 : Int) ≤ 223 by omega), cnd_t, obind_s, selim_l, if_pos d2, s2 _ (by omega) (by omega)]
    exact key (atL l 0 - 192) 2 128 (by omega) (by omega) (by omega) (by omega)
  rw [if_neg d2]
  by_cases d3 : 224 ≤ atL l 0 ∧ atL l 0 ≤ 239
  · rw [dT (show (194 : Int) ≤ (atL l 0 : Int) by omega), cnd_t, dF (show ¬ (atL l 0 : Int) ≤ 223 by omega), cnd_f, dT (show (224 : Int) ≤ (atL l 0 : Int) by omega), cnd_t, dT (show (atL l 0 : Int) ≤ 239 by omega), cnd_t, obind_s, selim_l, if_pos d3, s2 _ (by omega) (by omega)]
    exact key (atL l 0 - 224) 3 2048 (by omega) (by omega) (by omega) (by omega)
  rw [if_neg d3]
  by_cases d4 : 240 ≤ atL l 0 ∧ atL l 0 ≤ 244
  · rw [dT (show (194 : Int) ≤ (atL l 0 : Int) by omega), cnd_t, dF (show ¬ (atL l 0 : Int) ≤ 223 by omega), cnd_f, dT (show (224 : Int) ≤ (atL l 0 : Int) by omega), cnd_t, dF (show ¬ (atL l 0 : Int) ≤ 239 by omega), cnd_f, dT (show (240 : Int) ≤ (atL l 0 : Int) by omega), cnd_t, dT (show (atL l 0 : Int) ≤ 244 by omega), cnd_t, obind_s, selim_l, if_pos d4, s2 _ (by omega) (by omega)]
    exact key (atL l 0 - 240) 4 65536 (by omega) (by omega) (by omega) (by omega)
  rw [if_neg d4]
  by_cases z1 : 194 ≤ atL l 0
  · rw [dT (show (194 : Int) ≤ (atL l 0 : Int) by omega), cnd_t, dF (show ¬ (atL l 0 : Int) ≤ 223 by omega), cnd_f, dT (show (224 : Int) ≤ (atL l 0 : Int) by omega), cnd_t, dF (show ¬ (atL l 0 : Int) ≤ 239 by omega), cnd_f, dT (show (240 : Int) ≤ (atL l 0 : Int) by omega), cnd_t, dF (show ¬ (atL l 0 : Int) ≤ 244 by omega), cnd_f, obind_s, selim_r]
  · rw [dF (show ¬ (194 : Int) ≤ (atL l 0 : Int) by omega), cnd_f, dF (show ¬ (224 : Int) ≤ (atL l 0 : Int) by omega), cnd_f, dF (show ¬ (240 : Int) ≤ (atL l 0 : Int) by omega), cnd_f, obind_s, selim_r]
theorem loop_post {σ ρ β : Type} {f : σ → Option (σ ⊕ ρ)} {k : ρ → Option β} {x : σ} {N : Nat} (Q : Option β → Prop) (I : σ → Prop) (m : σ → Nat) (J : ρ → Prop) (hx : I x) (hm : m x < N) (hk : ∀ r, J r → Q (k r))
    (hs : ∀ x, I x → (∃ y, f x = some (.inl y) ∧ I y ∧ m y < m x) ∨ ∃ r, f x = some (.inr r) ∧ J r) : Q (obind (loopN N f x) k) := by
  obtain ⟨r, h1, h2⟩ := loopN_run I m J hs N x hx hm
  rw [h1]; exact hk r h2
theorem LL_le (l : List UInt8) : (LL l).length ≤ l.length := by
  refine list_ind (p := fun l => (LL l).length ≤ l.length) (by simp [LL_nil]) ?_ l
  intro l hn ih
  have := drop_lt l hn
  rw [LL_cons l hn, List.length_cons]
  omega
theorem rLetters_eq (N : Nat) (hN : 2000 ≤ N) (x : List UInt8) (hx : x.length ≤ 1000) : W_ref1_Letters N x = some (LL x) := by
  unfold W_ref1_Letters V_ref1_Letters
  refine loop_post (σ := List UInt8 × List Int) (ρ := List Int) (β := List Int) (fun o => o = some (LL x)) (fun v => v.2 ++ LL v.1 = LL x ∧ v.1.length ≤ x.length) (fun v => v.1.length) (fun r => r = LL x) ⟨rfl, Nat.le_refl _⟩ (by simp only; omega) (fun r h => by rw [h]) ?_
  rintro ⟨s, acc⟩ ⟨h1, h2⟩
  simp only at h1 h2 ⊢
  by_cases c : (0 : Int) < s.length
  case neg =>
    right
    have : s = [] := List.eq_nil_of_length_eq_zero (by omega)
    subst this
    rw [dF c, cnd_f]
    rw [LL_nil, List.append_nil] at h1
    exact ⟨_, rfl, h1⟩
  left
  have hn : s ≠ [] := fun e => by rw [e] at c; simp at c
  have hw := dk_w s
  have hl := dk_len s hn
  have hlx := LL_le x
  have ha : acc.length ≤ x.length := by
    have := congrArg List.length h1
    rw [List.length_append] at this
    omega
  rw [dT c, cnd_t, rLetter_eq N (by omega) s hn (by omega), obind_s]
  try simp only
  rw [dT (show (acc.length + [vl s].length) * 8 ≤ 140737488355328 by rw [List.length_singleton]; omega), cnd_t, dT (show (0 : Int) ≤ ((dk s).2 : Int) by omega), dT (show ((dk s).2 : Int) ≤ s.length by omega), Bool.and_self, cnd_t, Int.toNat_natCast, List.take_length]
  refine ⟨_, rfl, ⟨?_, ?_⟩, ?_⟩
  · simp only
    rw [← h1, LL_cons s hn, List.append_assoc]; rfl
  · simp only [List.length_drop]; omega
  · simp only [List.length_drop]; omega
def okc (c : Int) : Prop := ¬ (c < 33 ∨ (127 ≤ c ∧ c ≤ 159))
open Classical in
noncomputable def nameM (L : List Int) : Bool := decide ((∀ c ∈ L, okc c) ∧ 1 ≤ L.length ∧ L.length ≤ 8)
open Classical in
theorem rName_eq (N : Nat) (hN : 2000 ≤ N) (x : List UInt8) (hx : x.length ≤ 1000) : W_ref1_Name N x = some (nameM (LL x)) := by
  have hlx := LL_le x
  unfold W_ref1_Name V_ref1_Name
  rw [rLetters_eq N hN x hx, obind_s]
  generalize LL x = L at hlx ⊢
  refine loop_post (σ := Int) (ρ := Unit ⊕ Bool) (β := Bool) (fun o => o = some (nameM L)) (fun v => ∃ i : Nat, v = i ∧ i ≤ L.length ∧ ∀ j, j < i → okc (L.getD j 0)) (fun v => L.length - v.toNat) (fun r => (r = .inl () ∧ ∀ c ∈ L, okc c) ∨ (r = .inr false ∧ ∃ c ∈ L, ¬ okc c)) ⟨0, rfl, by omega, fun j hj => by omega⟩ (by simp; omega) ?_ ?_
  · rintro r (⟨rfl, h⟩ | ⟨rfl, c, hc, h⟩)
    · rw [selim_l]
      unfold nameM
      by_cases c1 : 1 ≤ L.length
      · rw [dT (show (1 : Int) ≤ L.length by omega), cnd_t]
        by_cases c2 : L.length ≤ 8
        · rw [dT (show (L.length : Int) ≤ 8 by omega), decide_eq_true (show (∀ c ∈ L, okc c) ∧ 1 ≤ L.length ∧ L.length ≤ 8 from ⟨h, c1, c2⟩)]
        · rw [dF (show ¬ (L.length : Int) ≤ 8 by omega), decide_eq_false (fun q : (∀ c ∈ L, okc c) ∧ 1 ≤ L.length ∧ L.length ≤ 8 => c2 q.2.2)]
      · rw [dF (show ¬ (1 : Int) ≤ L.length by omega), cnd_f, decide_eq_false (fun q : (∀ c ∈ L, okc c) ∧ 1 ≤ L.length ∧ L.length ≤ 8 => c1 q.2.1)]
    · rw [selim_r]
      unfold nameM
      rw [decide_eq_false (fun q : (∀ c ∈ L, okc c) ∧ 1 ≤ L.length ∧ L.length ≤ 8 => h (q.1 c hc))]
  rintro v ⟨i, rfl, hi, ha⟩
  by_cases c : (i : Int) < L.length
  case neg =>
    right
    rw [dF c, cnd_f]
    refine ⟨_, rfl, .inl ⟨rfl, fun d hd => ?_⟩⟩
    obtain ⟨j, hj, e⟩ := List.getElem_of_mem hd
    have := ha j (by omega)
    rw [List.getD_eq_getElem?_getD, List.getElem?_eq_getElem hj] at this
    rw [← e]; exact this
  have hm : L.getD i 0 ∈ L := by
    rw [List.getD_eq_getElem?_getD, List.getElem?_eq_getElem (show i < L.length by omega)]; exact List.getElem_mem _
  have dc : (decide ((0 : Int) ≤ (i : Int)) && decide ((i : Int) < (L.length : Int))) = true := by rw [dT (show (0 : Int) ≤ (i : Int) by omega), dT c]; rfl
  simp only [dc, dT c, cnd_t, Int.toNat_natCast]
  by_cases k1 : L.getD i 0 < 33
  · right
    rw [dT k1, cnd_t]
    exact ⟨_, rfl, .inr ⟨rfl, _, hm, fun q => q (.inl k1)⟩⟩
  rw [dF k1, cnd_f]
  have go : okc (L.getD i 0) → ∀ j, j < i + 1 → okc (L.getD j 0) := fun q j hj => by
    by_cases e : j = i
    · subst e; exact q
    · exact ha j (by omega)
  by_cases k2 : 127 ≤ L.getD i 0
  · rw [dT k2, cnd_t]
    by_cases k3 : L.getD i 0 ≤ 159
    · right
      rw [dT k3, cnd_t]
      exact ⟨_, rfl, .inr ⟨rfl, _, hm, fun q => q (.inr ⟨k2, k3⟩)⟩⟩
    · left
      rw [dF k3, cnd_f, wr_m (by omega) (by omega)]
      exact ⟨_, rfl, ⟨i + 1, by omega, by omega, go fun q => by omega⟩, by omega⟩
  · left
    rw [dF k2, cnd_f, wr_m (by omega) (by omega)]
    exact ⟨_, rfl, ⟨i + 1, by omega, by omega, go fun q => by omega⟩, by omega⟩
open Classical in
theorem pName_eq (N : Nat) (hN : 2000 ≤ N) (x : List UInt8) (hx : x.length ≤ 1000) : W_text_Name N x = some (nameM (LL x)) := by
  have hlx := LL_le x
  unfold W_text_Name V_text_Name
  refine loop_post (σ := Int × List UInt8 × Int) (ρ := Int ⊕ Bool) (β := Bool) (fun o => o = some (nameM (LL x))) (fun v => ∃ (i : Nat) (pre : List Int), v = ((pre.length : Int), x, (i : Int)) ∧ i ≤ x.length ∧ pre ++ LL (x.drop i) = LL x ∧ ∀ c ∈ pre, okc c) (fun v => x.length - v.2.2.toNat) (fun r => (r = .inl ((LL x).length : Int) ∧ ∀ c ∈ LL x, okc c) ∨ (r = .inr false ∧ ∃ c ∈ LL x, ¬ okc c)) ⟨0, [], rfl, by omega, by rw [List.drop_zero]; rfl, fun c hc => by cases hc⟩ (by simp; omega) ?_ ?_
  · generalize LL x = L at hlx ⊢
    rintro r (⟨rfl, h⟩ | ⟨rfl, c, hc, h⟩)
    · rw [selim_l]
      unfold nameM
      by_cases c1 : 1 ≤ L.length
      · rw [dT (show (1 : Int) ≤ L.length by omega), cnd_t]
        by_cases c2 : L.length ≤ 8
        · rw [dT (show (L.length : Int) ≤ 8 by omega), decide_eq_true (show (∀ c ∈ L, okc c) ∧ 1 ≤ L.length ∧ L.length ≤ 8 from ⟨h, c1, c2⟩)]
        · rw [dF (show ¬ (L.length : Int) ≤ 8 by omega), decide_eq_false (fun q : (∀ c ∈ L, okc c) ∧ 1 ≤ L.length ∧ L.length ≤ 8 => c2 q.2.2)]
      · rw [dF (show ¬ (1 : Int) ≤ L.length by omega), cnd_f, decide_eq_false (fun q : (∀ c ∈ L, okc c) ∧ 1 ≤ L.length ∧ L.length ≤ 8 => c1 q.2.1)]
    · rw [selim_r]
      unfold nameM
      rw [decide_eq_false (fun q : (∀ c ∈ L, okc c) ∧ 1 ≤ L.length ∧ L.length ≤ 8 => h (q.1 c hc))]
  rintro v ⟨i, pre, rfl, hi, h1, h2⟩
  simp only [Int.toNat_natCast, decode_eq, List.take_length]
  by_cases c : i < x.length
  case neg =>
    right
    rw [dF c, cnd_f]
    rw [List.drop_eq_nil_of_le (by omega), LL_nil, List.append_nil] at h1
    exact ⟨_, rfl, .inl ⟨by rw [h1], by rw [← h1]; exact h2⟩⟩
  have hne : x.drop i ≠ [] := fun e => by
    have := congrArg List.length e
    rw [List.length_drop, List.length_nil] at this; omega
  have hw := dk_w (x.drop i)
  have hl := dk_len _ hne
  rw [List.length_drop] at hl
  have hpl : pre.length ≤ x.length := by
    have := congrArg List.length h1
    rw [List.length_append] at this
    omega
  rw [LL_cons _ hne] at h1
  have hm : vl (x.drop i) ∈ LL x := by rw [← h1]; simp
  rw [dT c, cnd_t, dT (show (0 : Int) ≤ (i : Int) by omega), dT (show (i : Int) ≤ (x.length : Int) by omega), Bool.and_self, cnd_t, letter_eq, obind_s]
  have go : okc (vl (x.drop i)) → ∃ y : Int × List UInt8 × Int, (some (.inl ((pre.length : Int) + 1, x, ((i + (dk (x.drop i)).2 : Nat) : Int))) : Option ((Int × List UInt8 × Int) ⊕ (Int ⊕ Bool))) = some (.inl y) ∧ (∃ (i : Nat) (pre : List Int), y = ((pre.length : Int), x, (i : Int)) ∧ i ≤ x.length ∧ pre ++ LL (x.drop i) = LL x ∧ ∀ c ∈ pre, okc c) ∧ x.length - y.2.2.toNat < x.length - i := fun q => by
    refine ⟨_, rfl, ⟨i + (dk (x.drop i)).2, pre ++ [vl (x.drop i)], by rw [List.length_append, List.length_singleton]; rfl, by omega, ?_, fun c hc => ?_⟩, by simp only; omega⟩
    · rw [← h1, List.drop_drop, List.append_assoc]; rfl
    · rw [List.mem_append, List.mem_singleton] at hc
      rcases hc with hc | hc
      · exact h2 c hc
      · rw [hc]; exact q
  rw [wr_m (z := (pre.length : Int) + 1) (by omega) (by omega)]
  by_cases k1 : vl (x.drop i) < 33
  · right
    rw [dT k1, cnd_t]
    exact ⟨_, rfl, .inr ⟨rfl, _, hm, fun q => q (.inl k1)⟩⟩
  rw [dF k1, cnd_f]
  by_cases k2 : 127 ≤ vl (x.drop i)
  · rw [dT k2, cnd_t]
    by_cases k3 : vl (x.drop i) ≤ 159
    · right
      rw [dT k3, cnd_t]
      exact ⟨_, rfl, .inr ⟨rfl, _, hm, fun q => q (.inr ⟨k2, k3⟩)⟩⟩
    · left
      rw [dF k3, cnd_f]
      exact go fun q => by omega
  · left
    rw [dF k2, cnd_f]
    exact go fun q => by omega
def hx (d : Nat) : UInt8 := if d < 10 then (48 + d).toUInt8 else (87 + d).toUInt8
def hexN : Nat → Nat → List UInt8
  | 0, _ => []
  | n + 1, v => hexN n (v / 16) ++ [hx (v % 16)]
theorem hexN_len : ∀ n v, (hexN n v).length = n
  | 0, _ => rfl
  | n + 1, v => by rw [hexN, List.length_append, hexN_len n]; rfl
theorem hx_row : ∀ d : Fin 16, List.drop d.val (List.take (d.val + 1) [(48 : UInt8), (49 : UInt8), (50 : UInt8), (51 : UInt8), (52 : UInt8), (53 : UInt8), (54 : UInt8), (55 : UInt8), (56 : UInt8), (57 : UInt8), (97 : UInt8), (98 : UInt8), (99 : UInt8), (100 : UInt8), (101 : UInt8), (102 : UInt8)]) = [hx d.val] := by decide
theorem digits_eq (N : Nat) (hN : 20 < N) (n v : Nat) (hn : n ≤ 8) (hv : v ≤ 1000000000000) : W_text_digits N ((v : Int), (n : Int)) = some (hexN n v) := by
  unfold W_text_digits V_text_digits
  refine loop_G (σ := Int × List UInt8 × Int) (ρ := List UInt8) (β := List UInt8) (· = some (hexN n v)) (fun k s => ∃ (u : Nat) (acc : List UInt8), s = ((u : Int), acc, (k : Int)) ∧ k ≤ n ∧ u ≤ 1000000000000 ∧ acc.length = k ∧ hexN (n - k) u ++ acc = hexN n v) n (fun r => r = hexN n v) ⟨v, [], rfl, by omega, hv, rfl, by simp⟩ (by omega) ?_ (fun k s h => by obtain ⟨_, _, _, h, _⟩ := h; exact h) ?_
  · rintro r rfl; rfl
  · rintro k s ⟨u, acc, rfl, hk, hu, hl, he⟩
    try simp only
    by_cases q : k < n
    · left
      have m1 : Int.tmod (u : Int) 16 = ((u % 16 : Nat) : Int) := by rw [Int.tmod_eq_emod_of_nonneg (by omega)]; rfl
      have m2 : Int.tdiv (u : Int) 16 = ((u / 16 : Nat) : Int) := by rw [Int.tdiv_eq_ediv_of_nonneg (by omega)]; rfl
      have m3 := Nat.mod_lt u (show 0 < 16 by omega)
      have hr := hx_row ⟨u % 16, m3⟩
      simp only at hr
      rw [cnd_T (show (k : Int) < (n : Int) by omega), m1, m2, wr_m (z := ((u % 16 : Nat) : Int) + 1) (by omega) (by omega), wr_m (z := ((u / 16 : Nat) : Int)) (by omega) (by omega), wr_m (z := (k : Int) + 1) (by omega) (by omega),
        dT (show (0 : Int) ≤ ((u % 16 : Nat) : Int) by omega), dT (show ((u % 16 : Nat) : Int) ≤ ((u % 16 : Nat) : Int) + 1 by omega), dT (show ((u % 16 : Nat) : Int) + 1 ≤ ((16 : Nat) : Int) by omega), Bool.and_self, Bool.and_self, cnd_t,
        show (((u % 16 : Nat) : Int) + 1).toNat = u % 16 + 1 from by omega, Int.toNat_natCast, hr, cnd_T (by simp only [List.length_cons, List.length_nil]; omega)]
      refine ⟨_, rfl, u / 16, [hx (u % 16)] ++ acc, rfl, by omega, by omega, by simp only [List.length_append, List.length_cons, List.length_nil]; omega, ?_⟩
      rw [← he, show n - k = n - (k + 1) + 1 from by omega, hexN, List.append_assoc]
    · right
      rw [cnd_F (show ¬ (k : Int) < (n : Int) by omega)]
      refine ⟨_, rfl, ?_⟩
      rw [show n - k = 0 from by omega] at he
      exact he
def sh1 (l : List UInt8) : List UInt8 :=
  if vl l = -1 then [92, 120] ++ hexN 2 (atL l 0)
  else if vl l = 34 ∨ vl l = 92 then [92, (vl l).toNat.toUInt8]
  else if 32 ≤ vl l ∧ vl l ≤ 126 then [(vl l).toNat.toUInt8]
  else if 65535 < vl l then [92, 85] ++ hexN 8 (vl l).toNat
  else [92, 117] ++ hexN 4 (vl l).toNat
def shN : Nat → List UInt8 → List UInt8
  | 0, _ => []
  | k + 1, l => if l = [] then [] else sh1 l ++ shN k (l.drop (dk l).2)
theorem shN_nil (k : Nat) : shN k [] = [] := by cases k <;> simp [shN]
theorem shN_fuel : ∀ (k k2 : Nat) (l : List UInt8), l.length ≤ k → l.length ≤ k2 → shN k l = shN k2 l
  | 0, k2, l, h1, h2 => by
    have : l = [] := List.eq_nil_of_length_eq_zero (by omega)
    subst this; rw [shN_nil, shN_nil]
  | k + 1, 0, l, h1, h2 => by
    have : l = [] := List.eq_nil_of_length_eq_zero (by omega)
    subst this; rw [shN_nil, shN_nil]
  | k + 1, k2 + 1, l, h1, h2 => by
    by_cases h : l = []
    · subst h; rw [shN_nil, shN_nil]
    · have := drop_lt l h
      rw [shN, shN, if_neg h, if_neg h, shN_fuel k k2 _ (by omega) (by omega)]
def SH (l : List UInt8) : List UInt8 := shN l.length l
theorem SH_nil : SH [] = [] := rfl
theorem SH_cons (l : List UInt8) (h : l ≠ []) : SH l = sh1 l ++ SH (l.drop (dk l).2) := by
  have h1 := drop_lt l h
  unfold SH
  obtain ⟨k, hk⟩ : ∃ k, l.length = k + 1 := ⟨l.length - 1, by have := List.length_pos_iff.2 h; omega⟩
  rw [hk, shN, if_neg h, shN_fuel k (l.drop (dk l).2).length _ (by omega) (Nat.le_refl _)]
theorem sh1_len (l : List UInt8) : 1 ≤ (sh1 l).length ∧ (sh1 l).length ≤ 10 := by
  unfold sh1
  split
  · simp [hexN_len]
  split
  · simp
  split
  · simp
  split
  · simp [hexN_len]
  · simp [hexN_len]
theorem SH_len (l : List UInt8) : (SH l).length ≤ 10 * l.length := by
  refine list_ind (p := fun l => (SH l).length ≤ 10 * l.length) (by simp [SH_nil]) (fun l h ih => ?_) l
  have h1 := drop_lt l h
  have := (sh1_len l).2
  rw [SH_cons l h, List.length_append]
  omega
theorem dkN_lt (b0 a1 a2 a3 : Nat) (c1 c2 c3 : Bool) (h0 : b0 < 256) : (dkN b0 a1 a2 a3 c1 c2 c3).1 < 2097152 := by
  unfold dkN
  have := Nat.mod_lt a1 (show 0 < 64 by omega)
  have := Nat.mod_lt a2 (show 0 < 64 by omega)
  have := Nat.mod_lt a3 (show 0 < 64 by omega)
  have := Nat.mod_lt b0 (show 0 < 32 by omega)
  have := Nat.mod_lt b0 (show 0 < 16 by omega)
  have := Nat.mod_lt b0 (show 0 < 8 by omega)
  repeat' split
  all_goals simp only
  all_goals omega
theorem atL_lt (l : List UInt8) (k : Nat) : atL l k < 256 := UInt8.toNat_lt _
theorem dk_lt (l : List UInt8) : (dk l).1 < 2097152 := dkN_lt _ _ _ _ _ _ _ (atL_lt l 0)
theorem vl_or (l : List UInt8) : vl l = -1 ∨ vl l = ((dk l).1 : Int) := by
  have := dk_lt l
  unfold vl
  split
  · split
    · right; exact wr_m (by omega) (by omega)
    · left; rfl
  · right; exact wr_m (by omega) (by omega)
theorem showT_eq (N : Nat) (hN : 20 < N) (s : List UInt8) (i : Nat) : showT (W_text_letter N) (W_text_digits N) s i ((dk (s.drop i)).1 : Nat) = some (sh1 (s.drop i)) := by
  have h0 : (s.getD i 0).toNat = atL (s.drop i) 0 := by rw [at_drop]; rfl
  unfold showT sh1
  rw [letter_eq, obind_s, h0]
  have hv := vl_or (s.drop i)
  have hd := dk_lt (s.drop i)
  have ha := atL_lt (s.drop i) 0
  generalize vl (s.drop i) = c at hv ⊢
  by_cases c1 : c = -1
  · rw [cnd_T c1, if_pos c1, show (2 : Int) = ((2 : Nat) : Int) from rfl, digits_eq N hN 2 _ (by omega) (by omega), obind_s]
  rw [cnd_F c1, if_neg c1]
  have hc : ((dk (s.drop i)).1 : Int) = c := by omega
  obtain ⟨n, hn⟩ : ∃ n : Nat, c = (n : Int) := ⟨(dk (s.drop i)).1, hc.symm⟩
  by_cases c2 : c = 34 ∨ c = 92
  · rw [if_pos c2, show (decide (c = 34) || decide (c = 92)) = true by simp [c2], cnd_t, cnd_T hc]
  rw [if_neg c2, show (decide (c = 34) || decide (c = 92)) = false by simpa using c2, cnd_f]
  by_cases c4 : 32 ≤ c ∧ c ≤ 126
  · rw [if_pos c4, dT c4.1, dT c4.2, Bool.and_self, cnd_t, cnd_T hc]
  rw [if_neg c4, show (decide (32 ≤ c) && decide (c ≤ 126)) = false by
    cases hq : (decide (32 ≤ c) && decide (c ≤ 126)) with
    | false => rfl
    | true => simp only [Bool.and_eq_true, decide_eq_true_eq] at hq; exact absurd hq c4, cnd_f]
  subst hn
  rw [Int.toNat_natCast]
  by_cases c5 : 65535 < (n : Int)
  · rw [if_pos c5, cnd_T c5, show (8 : Int) = ((8 : Nat) : Int) from rfl, digits_eq N hN 8 n (by omega) (by omega), obind_s]
  · rw [if_neg c5, cnd_F c5, show (4 : Int) = ((4 : Nat) : Int) from rfl, digits_eq N hN 4 n (by omega) (by omega), obind_s]
theorem Show_eq (N : Nat) (s : List UInt8) (hN : s.length + 20 < N) (hs : s.length ≤ 1000) : W_text_Show N s = some (SH s) := by
  unfold W_text_Show
  have h := loopG (f := showS (W_text_letter N) (W_text_digits N) s) (fun k (v : Nat × List UInt8) => k ≤ v.1 ∧ v.1 ≤ s.length ∧ v.2 ++ SH (s.drop v.1) = SH s) s.length (fun r => r = SH s) (fun k v h => by omega) (fun k v h => by
    obtain ⟨i, acc⟩ := v
    obtain ⟨h1, h2, h3⟩ := h
    simp only at h1 h2 h3
    unfold showS
    try simp only
    by_cases q : i < s.length
    · left
      have hne := drop_ne s i q
      have hl := dk_len _ hne
      have hw := (dk_w (s.drop i)).1
      rw [List.length_drop] at hl
      have hS := SH_len s
      rw [SH_cons _ hne, List.drop_drop, ← List.append_assoc] at h3
      have hle : (acc ++ sh1 (s.drop i)).length ≤ (SH s).length := by
        have := congrArg List.length h3
        simp only [List.length_append] at this ⊢
        omega
      rw [cnd_T q, decode_eq, showT_eq N (by omega), obind_s, cnd_T (by omega)]
      exact ⟨_, rfl, by show k + 1 ≤ i + _; omega, by show i + _ ≤ _; omega, h3⟩
    · right
      rw [cnd_F q]
      refine ⟨_, rfl, ?_⟩
      rw [show i = s.length from by omega, List.drop_length, SH_nil, List.append_nil] at h3
      exact h3) N 0 (0, []) ⟨Nat.le_refl _, Nat.zero_le _, rfl⟩ (by omega)
  obtain ⟨r, h1, rfl⟩ := h
  exact h1
theorem rhex_eq (N : Nat) (hN : 20 < N) (n v : Nat) (hn : n ≤ 8) (hv : v ≤ 1000000000000) : W_ref1_hex N ((v : Int), (n : Int)) = some (hexN n v) := digits_eq N hN n v hn hv
theorem pCut_eq (N : Nat) (s : List UInt8) (n : Int) (hN : s.length + 2 < N) : W_text_Cut N (s, n) = some (s.take (CC s n.toNat)) := by
  by_cases h : 0 ≤ n
  · have := Cut_eq N s n.toNat hN
    rw [Int.toNat_of_nonneg h] at this
    exact this
  · obtain ⟨M, rfl⟩ : ∃ M, N = M + 1 + 1 := ⟨N - 2, by omega⟩
    have hC : CC s n.toNat = 0 := by have := (CC_le s n.toNat).1; omega
    unfold W_text_Cut V_text_Cut
    try simp only
    rw [cnd_F (by omega), hC]
    by_cases q : 0 < s.length
    · simp only [loopN, Int.toNat_natCast]
      rw [cnd_T q, cnd_T (by omega), obind_s]
      rw [dT (Int.le_refl 0), dT (show (0 : Int) ≤ (s.length : Int) by omega)]
      rfl
    · simp only [loopN, Int.toNat_natCast]
      rw [cnd_F q, obind_s]
      rw [dT (Int.le_refl 0), dT (show (0 : Int) ≤ (s.length : Int) by omega)]
      rfl
theorem rCut_eq (N : Nat) (hN : 2000 ≤ N) (s : List UInt8) (n : Int) (hs : s.length ≤ 1000) : W_ref1_Cut N (s, n) = some (s.take (CC s n.toNat)) := by
  unfold W_ref1_Cut V_ref1_Cut
  try simp only
  refine loop_G (σ := Int) (ρ := Int) (β := List UInt8) (· = some (s.take (CC s n.toNat))) (fun k v => ∃ i : Nat, v = (i : Int) ∧ k ≤ i ∧ i ≤ s.length ∧ CC s n.toNat = i + CC (s.drop i) (n.toNat - i) ∧ (i : Int) ≤ max n 0) s.length (fun r => r = ((CC s n.toNat : Nat) : Int)) ⟨0, rfl, Nat.le_refl _, Nat.zero_le _, by simp, by omega⟩ (by omega) ?_ (fun k v h => by obtain ⟨i, _, h1, h2, _⟩ := h; omega) ?_
  · rintro r rfl
    have := (CC_le s n.toNat).2
    rw [dT (show (0 : Int) ≤ ((CC s n.toNat : Nat) : Int) by omega), dT (show ((CC s n.toNat : Nat) : Int) ≤ (s.length : Int) by omega), Bool.and_self, cnd_t, Int.toNat_natCast, List.drop_zero]
  · rintro k v ⟨i, rfl, h1, h2, h3, h4⟩
    by_cases q : i < s.length
    · have hne := drop_ne s i q
      have hl := dk_len _ hne
      have hw := (dk_w (s.drop i)).1
      rw [List.length_drop] at hl
      have hn0 : (s.drop i).length ≤ 1000 := by rw [List.length_drop]; omega
      rw [cnd_T (show (i : Int) < (s.length : Int) by omega), dT (show (0 : Int) ≤ (i : Int) by omega), dT (show (i : Int) ≤ (s.length : Int) by omega), Bool.and_self, cnd_t, List.take_length, Int.toNat_natCast, rLetter_eq N (by omega) _ hne hn0, obind_s]
      try simp only
      rw [wr_m (z := (i : Int) + ((dk (s.drop i)).2 : Int)) (by omega) (by omega)]
      rw [CC_cons _ _ hne] at h3
      by_cases c : n < (i : Int) + ((dk (s.drop i)).2 : Int)
      · right
        rw [cnd_T c]
        rw [if_neg (by omega)] at h3
        exact ⟨_, rfl, by rw [h3]; rfl⟩
      · left
        rw [cnd_F c]
        rw [if_pos (by omega), List.drop_drop, Nat.sub_sub, ← Nat.add_assoc] at h3
        exact ⟨_, rfl, i + (dk (s.drop i)).2, rfl, by omega, by omega, h3, by omega⟩
    · right
      rw [cnd_F (show ¬ (i : Int) < (s.length : Int) by omega)]
      have hi : i = s.length := by omega
      refine ⟨_, rfl, ?_⟩
      rw [h3, hi, List.drop_length, CC_nil]; rfl
theorem dkN_small (b0 a1 a2 a3 : Nat) (c1 c2 c3 : Bool) (h : (dkN b0 a1 a2 a3 c1 c2 c3).1 < 128) : (dkN b0 a1 a2 a3 c1 c2 c3) = (b0, 1) := by
  by_cases c : b0 < 128
  · unfold dkN; exact if_pos c
  · exfalso
    unfold dkN at h
    rw [if_neg c] at h
    repeat' split at h
    all_goals first | (revert h; decide) | (simp only [ge_iff_le, Bool.and_eq_true, decide_eq_true_eq] at *; omega)
theorem vl_small (l : List UInt8) (h0 : 0 ≤ vl l) (h : vl l < 128) : ((atL l 0 : Nat) : Int) = vl l := by
  have hc := (vl_or l).resolve_left (by omega)
  have := dkN_small (atL l 0) (atL l 1) (atL l 2) (atL l 3) (ctL l 1) (ctL l 2) (ctL l 3) (by show (dk l).1 < 128; omega)
  rw [hc]
  show _ = ((dkN _ _ _ _ _ _ _).1 : Int)
  rw [this]
theorem take1 (l : List UInt8) (hl : l ≠ []) (h0 : 0 ≤ vl l) (h : vl l < 128) : l.take 1 = [(vl l).toNat.toUInt8] := by
  have := vl_small l h0 h
  rw [← this, Int.toNat_natCast]
  cases l with
  | nil => exact absurd rfl hl
  | cons x r =>
    show [x] = [(x.toNat).toUInt8]
    simp
theorem rShow_eq (N : Nat) (hN : 2000 ≤ N) (x : List UInt8) (hx : x.length ≤ 1000) : W_ref1_Show N x = some (SH x) := by
  unfold W_ref1_Show V_ref1_Show
  refine loop_post (σ := List UInt8 × List UInt8) (ρ := List UInt8) (β := List UInt8) (fun o => o = some (SH x)) (fun v => v.2 ++ SH v.1 = SH x ∧ v.1.length ≤ x.length) (fun v => v.1.length) (fun r => r = SH x) ⟨rfl, Nat.le_refl _⟩ (by simp only; omega) (fun r h => by rw [h]) ?_
  rintro ⟨s, acc⟩ ⟨h1, h2⟩
  simp only at h1 h2 ⊢
  by_cases c : (0 : Int) < s.length
  case neg =>
    right
    have : s = [] := List.eq_nil_of_length_eq_zero (by omega)
    subst this
    rw [cnd_F c]
    rw [SH_nil, List.append_nil] at h1
    exact ⟨_, rfl, h1⟩
  left
  have hn : s ≠ [] := fun e => by rw [e] at c; simp at c
  have hw := dk_w s
  have hl := dk_len s hn
  have hSx := SH_len x
  have ha : acc.length ≤ 10000 := by
    have := congrArg List.length h1
    rw [List.length_append] at this
    omega
  have hal := atL_lt s 0
  have hlt := dk_lt s
  have hor := vl_or s
  have e0 : wr .i64 ((List.getD s 0 (0 : UInt8)).toNat : Int) = (atL s 0 : Int) := wr_m (by omega) (by have : (List.getD s 0 (0 : UInt8)).toNat = atL s 0 := rfl; omega)
  have fin : ∀ t, t = sh1 s → ∃ y : List UInt8 × List UInt8, (some (Sum.inl (s.drop (dk s).2, acc ++ t)) : Option ((List UInt8 × List UInt8) ⊕ List UInt8)) = some (.inl y) ∧ (y.2 ++ SH y.1 = SH x ∧ y.1.length ≤ x.length) ∧ y.1.length < s.length := by
    rintro t rfl
    refine ⟨_, rfl, ⟨?_, ?_⟩, ?_⟩
    · simp only
      rw [← h1, SH_cons s hn, List.append_assoc]
    · simp only [List.length_drop]; omega
    · simp only [List.length_drop]; omega
  have hb : (decide ((0 : Int) ≤ ((dk s).2 : Int)) && decide (((dk s).2 : Int) ≤ (s.length : Int))) = true := by rw [dT (by omega), dT (by omega)]; rfl
  have hb1 : (decide ((0 : Int) ≤ (1 : Int)) && decide ((1 : Int) ≤ (s.length : Int))) = true := by rw [dT (by omega), dT (by omega)]; rfl
  have ht1 : List.drop 0 (List.take (1 : Int).toNat s) = s.take 1 := rfl
  have l1 : (s.take 1).length ≤ 1 := by rw [List.length_take]; omega
  have hh : ∀ n v, (hexN n v).length = n := hexN_len
  rw [cnd_T c, rLetter_eq N (by omega) s hn (by omega), obind_s]
  try simp only
  rw [e0, hb, hb1, ht1, Int.toNat_natCast, List.take_length]
  simp only [cnd_t]
  unfold sh1 at fin
  by_cases v1 : vl s = -1
  · rw [cnd_T (by omega), cnd_T (by omega), dT (Int.le_refl 0), dT c, Bool.and_self, cnd_t, show (2 : Int) = ((2 : Nat) : Int) from rfl, rhex_eq N (by omega) 2 _ (by omega) (by omega), obind_s, cnd_T (by rw [List.length_append, hh]; simp only [List.length_cons, List.length_nil]; omega), List.append_assoc]
    exact fin _ (by rw [if_pos v1])
  rw [cnd_F (by omega)]
  rw [if_neg v1] at fin
  by_cases v2 : vl s = 34
  · rw [cnd_T v2, cnd_T (by omega), cnd_T (by rw [List.length_append]; simp only [List.length_cons, List.length_nil]; omega), List.append_assoc, take1 s hn (by omega) (by omega)]
    exact fin _ (by rw [if_pos (.inl v2)]; rfl)
  rw [cnd_F v2]
  by_cases v3 : vl s = 92
  · rw [cnd_T v3, cnd_T (by omega), cnd_T (by rw [List.length_append]; simp only [List.length_cons, List.length_nil]; omega), List.append_assoc, take1 s hn (by omega) (by omega)]
    exact fin _ (by rw [if_pos (.inr v3)]; rfl)
  rw [cnd_F v3]
  rw [if_neg (fun q => q.elim v2 v3)] at fin
  obtain ⟨n, hvn⟩ : ∃ n : Nat, vl s = (n : Int) := ⟨(dk s).1, hor.resolve_left v1⟩
  have big : ∀ k : Nat, k ≤ 8 → ∀ a : List UInt8, a.length = 2 → acc ++ a ++ hexN k n = acc ++ (a ++ hexN k n) := fun k _ a _ => List.append_assoc _ _ _
  have nb : n ≤ 1000000000000 := by omega
  have tail : ¬ (32 ≤ vl s ∧ vl s ≤ 126) → ∃ y : List UInt8 × List UInt8, cnd (decide ((65535 : Int) < vl s)) (cnd (decide (acc.length + 2 ≤ 9223372036854775807)) (obind (W_ref1_hex N (vl s, (8 : Int))) fun b_1 => cnd (decide ((acc ++ [(92 : UInt8), (85 : UInt8)]).length + b_1.length ≤ 9223372036854775807)) (some (Sum.inl (s.drop (dk s).2, acc ++ [(92 : UInt8), (85 : UInt8)] ++ b_1)) : Option ((List UInt8 × List UInt8) ⊕ List UInt8)) none) none)
      (cnd (decide (acc.length + 2 ≤ 9223372036854775807)) (obind (W_ref1_hex N (vl s, (4 : Int))) fun b_1 => cnd (decide ((acc ++ [(92 : UInt8), (117 : UInt8)]).length + b_1.length ≤ 9223372036854775807)) (some (Sum.inl (s.drop (dk s).2, acc ++ [(92 : UInt8), (117 : UInt8)] ++ b_1))) none) none) = some (.inl y) ∧ (y.2 ++ SH y.1 = SH x ∧ y.1.length ≤ x.length) ∧ y.1.length < s.length := by
    intro v4
    rw [if_neg v4] at fin
    rw [hvn, Int.toNat_natCast] at fin
    rw [hvn]
    by_cases v5 : (65535 : Int) < (n : Int)
    · rw [cnd_T v5, cnd_T (by omega), show (8 : Int) = ((8 : Nat) : Int) from rfl, rhex_eq N (by omega) 8 n (by omega) nb, obind_s, cnd_T (by rw [List.length_append, hh]; simp only [List.length_cons, List.length_nil]; omega), List.append_assoc]
      exact fin _ (by rw [if_pos v5])
    · rw [cnd_F v5, cnd_T (by omega), show (4 : Int) = ((4 : Nat) : Int) from rfl, rhex_eq N (by omega) 4 n (by omega) nb, obind_s, cnd_T (by rw [List.length_append, hh]; simp only [List.length_cons, List.length_nil]; omega), List.append_assoc]
      exact fin _ (by rw [if_neg v5])
  by_cases v4 : (32 : Int) ≤ vl s
  · rw [cnd_T v4]
    by_cases v5 : vl s < 127
    · rw [cnd_T v5, cnd_T (by omega), take1 s hn (by omega) (by omega)]
      exact fin _ (by rw [if_pos ⟨v4, by omega⟩])
    · rw [cnd_F v5]
      exact tail (by omega)
  · rw [cnd_F v4]
    exact tail (by omega)
def pcs : List (List UInt8) := [[(97 : UInt8)], [(195 : UInt8), (169 : UInt8)], [(230 : UInt8), (151 : UInt8), (165 : UInt8)], [(240 : UInt8), (159 : UInt8), (152 : UInt8), (128 : UInt8)], [(195 : UInt8)], [(230 : UInt8), (151 : UInt8)], [(240 : UInt8), (159 : UInt8), (152 : UInt8)], [(255 : UInt8)], [(237 : UInt8), (160 : UInt8), (128 : UInt8)], [(192 : UInt8), (128 : UInt8)], [(244 : UInt8), (144 : UInt8), (128 : UInt8), (128 : UInt8)], [(34 : UInt8)], [(92 : UInt8)], [(10 : UInt8)], [(32 : UInt8)], [(127 : UInt8)], [(194 : UInt8), (133 : UInt8)], [(239 : UInt8), (191 : UInt8), (189 : UInt8)], [(244 : UInt8), (143 : UInt8), (191 : UInt8), (191 : UInt8)]]
theorem pcs_len (j : Nat) : (pcs.getD j []).length ≤ 4 := by
  by_cases h : j < 19
  · exact (show ∀ j : Fin 19, (pcs.getD j.val []).length ≤ 4 from by decide) ⟨j, h⟩
  · rw [List.getD_eq_getElem?_getD, List.getElem?_eq_none (show pcs.length ≤ j by show 19 ≤ j; omega)]; simp
theorem one_eq (N : Nat) (hN : 2000 ≤ N) (s : List UInt8) (hs : s.length ≤ 100) (n k : Int) : (obind (W_ref1_Letters N s) fun b => obind (obind
  (W_text_Letters N s) fun b_1 => obind (W_ref1_SameInts N (b_1, b)) fun b_2 => cnd (!b_2) (some true) (obind (W_text_Count N s) fun b_3 => cnd
  (decide (b_3 ≠ (↑(List.length b) : Int))) (some true) (obind (W_text_Cut N (s, n)) fun b => obind (W_ref1_Cut N (s, n)) fun b_4 =>
  cnd (!b == b_4) (some true) (obind (W_text_Cut N (s, k)) fun b => obind (W_ref1_Cut N (s, k)) fun b_5 => cnd (!b == b_5) (some true) (obind (W_text_Name N s) fun b => obind (W_ref1_Name N s) fun b_6 => cnd (!b == b_6)
  (some true) (obind (W_text_Show N s) fun b => obind (W_ref1_Show N s) fun b_7 => some !b == b_7)))))) fun (b : Bool) => cnd b (some (Sum.inr
  false) : Option (PUnit ⊕ Bool)) (some (Sum.inl ()))) = some (Sum.inl ()) := by
  have ll := LL_len s
  rw [rLetters_eq N hN s (by omega), obind_s, Letters_eq N s (by omega) (by omega), obind_s, Same_self N _ (by omega) (by omega), obind_s, Bool.not_true, cnd_f, Count_eq N s (by omega) (by omega), obind_s, cnd_F (fun q => q rfl),
    pCut_eq N s n (by omega), obind_s, rCut_eq N hN s n (by omega), obind_s, beq_self_eq_true, Bool.not_true, cnd_f,
    pCut_eq N s k (by omega), obind_s, rCut_eq N hN s k (by omega), obind_s, beq_self_eq_true, Bool.not_true, cnd_f,
    pName_eq N hN s (by omega), obind_s, rName_eq N hN s (by omega), obind_s, beq_self_eq_true, Bool.not_true, cnd_f,
    Show_eq N s (by omega) (by omega), obind_s, rShow_eq N hN s (by omega), obind_s, beq_self_eq_true, Bool.not_true, obind_s, cnd_f]
theorem law_aux (N : Nat) (hN : 2000 ≤ N) (hbeg : W_law1_begun N () = some true) (s : List UInt8) (p : List Int) (hp : ∀ x ∈ p, 0 ≤ x ∧ x ≤ 255) (n k : Int) : W_law1_TextAll N (s, p, n, k) = some true := by
  unfold W_law1_TextAll V_law1_TextAll
  try simp only
  rw [hbeg, obind_s, Bool.not_true, cnd_f]
  by_cases c1 : (60 : Int) < s.length
  · rw [cnd_T c1]
  rw [cnd_F c1]
  by_cases c2 : (15 : Int) < p.length
  · rw [cnd_T c2]
  rw [cnd_F c2]
  refine loop_G (σ := List UInt8 × Int) (ρ := List UInt8) (β := Bool) (· = some true) (fun j v => ∃ t : List UInt8, v = (t, (j : Int)) ∧ j ≤ p.length ∧ t.length ≤ 4 * j) p.length (fun r => r.length ≤ 60) ⟨[], rfl, by omega, by simp⟩ (by omega) ?_ (fun j v h => by obtain ⟨_, _, h, _⟩ := h; exact h) ?_
  · intro t ht
    rw [one_eq N hN s (by omega) n _, obind_s]
    simp only [selim]
    rw [one_eq N hN t (by omega) n _, obind_s]
  · rintro j v ⟨t, rfl, h1, h2⟩
    try simp only
    by_cases q : j < p.length
    · left
      have hu := hp (p.getD j 0) (by rw [List.getD_eq_getElem?_getD, List.getElem?_eq_getElem q]; exact List.getElem_mem q)
      have m1 := Int.tmod_nonneg 19 hu.1
      have m2 := Int.tmod_lt_of_pos (p.getD j 0) (show (0 : Int) < 19 by omega)
      have hl := pcs_len (Int.tmod (p.getD j 0) 19).toNat
      rw [cnd_T (show (j : Int) < (p.length : Int) by omega), dT (show (0 : Int) ≤ (j : Int) by omega), dT (show (j : Int) < (p.length : Int) by omega), Bool.and_self, cnd_t, Int.toNat_natCast, wr_m (z := p.getD j 0) (by omega) (by omega), show ((19 : Nat) : Int) = 19 from rfl, dT m1, dT m2, Bool.and_self, cnd_t, wr_m (z := (j : Int) + 1) (by omega) (by omega)]
      unfold pcs at hl
      rw [cnd_T (by omega)]
      refine ⟨_, rfl, _, rfl, by omega, by rw [List.length_append]; omega⟩
    · right
      rw [cnd_F (show ¬ (j : Int) < (p.length : Int) by omega)]
      exact ⟨_, rfl, by omega⟩
def NN : Nat := 2000
theorem begun_ok : W_law1_begun NN () = some true := by decide +kernel
theorem law_true (y0 : List UInt8) (y1 : List Int) (y2 : Int) (y3 : Int) (h0 : Twf .str y0) (h1 : Twf (.list (.int .u8)) y1) (h2 : Twf (.int .i64) y2) (h3 : Twf (.int .u8) y3) : W_law1_TextAll NN (y0, y1, y2, y3) = some true :=
  law_aux NN (Nat.le_refl _) begun_ok y0 y1 (fun w hw => h1.2 w hw) y2 y3

theorem spec (y0 : List UInt8) (y1 : List Int) (y2 : Int) (y3 : Int) (h0 : Twf .str y0) (h1 : Twf (.list (.int .u8)) y1) (h2 : Twf (.int .i64) y2) (h3 : Twf (.int .u8) y3) : Spec2 P0 3 [valW .str y0, valW (.list (.int .u8)) y1, valW (.int .i64) y2, valW (.int .u8) y3] [] (.bs true) [] [] := (con_law1_TextAll_ok NN).2 (y0, y1, y2, y3) true (law_true y0 y1 y2 y3 h0 h1 h2 h3)
theorem lifted (os : Os) (started : os.Started) (H : Type) (enc : TypeId × Value → H) :
    ReturnsInHanded {} Try.checked os 3 .any (Rows.textAllSpec.pre6 enc Try.prog Try.f3 Rows.textAllRow.domain false) (Rows.textAllSpec.post enc Try.prog Try.f3 false true false false) := by
  refine returnsInHanded_of_change (C := Try.checked) own started (by kernel_rfl) Try.func3
    (ChangeSpec.witness6 (enc := enc) (C := Try.checked) false ⟨#[], #[.string ⟨#[]⟩, .slice none 0 0, .int .i64 0, .int .u8 0], []⟩ 8 (by kernel_rfl) (by kernel_rfl) (by kernel_rfl) (by kernel_rfl)) ?_
  intro W base args ds gs before hval0 hW hcnd _
  have hval : ∀ (j : Nat) t v, Try.f3.params[j]? = some t → args[j]? = some v → Value.okWide Try.prog W .any base t v := hval0
  have hW' := hW
  obtain ⟨p, q, hA0, hV, rfl, hfz, hnd⟩ := hW
  have hA : DataW.TrodAll enc Try.prog W 0 (fun _ => true) true Try.f3.params.toList args.toList ds p := hA0
  rw [Try.params3] at hA hval
  obtain ⟨v0, vs0, d0, ds0, p0, q0, hargs, rfl, rfl, h0, r0⟩ := trodAll_cons hA
  obtain ⟨v1, vs1, d1, ds1, p1, q1, rfl, rfl, rfl, h1, r1⟩ := trodAll_cons r0
  obtain ⟨v2, vs2, d2, ds2, p2, q2, rfl, rfl, rfl, h2, r2⟩ := trodAll_cons r1
  obtain ⟨v3, vs3, d3, ds3, p3, q3, rfl, rfl, rfl, h3, r3⟩ := trodAll_cons r2
  obtain ⟨rfl, rfl, rfl⟩ := trodAll_nil r3
  obtain rfl : args = #[v0, v1, v2, v3] := by cases args; simp_all
  obtain ⟨rfl, rfl⟩ := trodVars_none hV
  have k0 := h0
  have lt0 : ∀ x ∈ p0, x.block < W.heap.size := by obtain ⟨m, hm⟩ := k0; exact DataW.trod_lt m _ _ _ hm
  obtain ⟨y0, rp0, wf0⟩ := arg_ok (n := 12) (ty := .str) (by kernel_rfl) (hval 0 _ v0 rfl rfl) h0
  have k1 := h1
  have lt1 : ∀ x ∈ p1, x.block < W.heap.size := by obtain ⟨m, hm⟩ := k1; exact DataW.trod_lt m _ _ _ hm
  obtain ⟨y1, rp1, wf1⟩ := arg_ok (n := 12) (ty := (.list (.int .u8))) (by kernel_rfl) (hval 1 _ v1 rfl rfl) h1
  have k2 := h2
  have lt2 : ∀ x ∈ p2, x.block < W.heap.size := by obtain ⟨m, hm⟩ := k2; exact DataW.trod_lt m _ _ _ hm
  obtain ⟨y2, rp2, wf2⟩ := arg_ok (n := 12) (ty := (.int .i64)) (by kernel_rfl) (hval 2 _ v2 rfl rfl) h2
  have k3 := h3
  have lt3 : ∀ x ∈ p3, x.block < W.heap.size := by obtain ⟨m, hm⟩ := k3; exact DataW.trod_lt m _ _ _ hm
  obtain ⟨y3, rp3, wf3⟩ := arg_ok (n := 12) (ty := (.int .u8)) (by kernel_rfl) (hval 3 _ v3 rfl rfl) h3
  clear hA0 hval0
  refine (law_of2 (spec y0 y1 y2 y3 wf0 wf1 wf2 wf3) W #[v0, v1, v2, v3] (.cons rp0 (.cons rp1 (.cons rp2 (.cons rp3 .nil))))).mono fun e W' ⟨he, bel⟩ => ?_
  subst he
  exact ⟨_, rfl, _, _, _, [], _, [], hW', trodAll_mk1 (shut_bool Try.underlying4 _), (trodAll_cons_mk (Below.trod laidOut (by kernel_rfl) (of_decide_eq_true (by kernel_rfl)) k0 bel lt0) (trodAll_cons_mk (Below.trod laidOut (by kernel_rfl) (of_decide_eq_true (by kernel_rfl)) k1 bel lt1) (trodAll_cons_mk (Below.trod laidOut (by kernel_rfl) (of_decide_eq_true (by kernel_rfl)) k2 bel lt2) (trodAll_cons_mk (Below.trod laidOut (by kernel_rfl) (of_decide_eq_true (by kernel_rfl)) k3 bel lt3) trodAll_mk0)))), rfl, bel.frame _, fun h => by cases h⟩

theorem over : Rows.textAllRow.holds Try.pinned (OpenSpec.ofChange Rows.textAllSpec) :=
  OpenClaim.holds_of_wide 3 Try.f3 rfl rfl rfl rfl rfl rfl rfl ⟨rfl, rfl, rfl, rfl, rfl⟩ rfl rfl rfl rfl rfl (by kernel_rfl) Try.func3 (by kernel_rfl)
    (of_decide_eq_true (by kernel_rfl)) (by unfold Func.isWrapper; first | (rw [if_pos (by decide +kernel)]; kernel_rfl) | (rw [if_neg (by decide +kernel)]; exact ⟨rfl, rfl⟩))
    (fun os started H enc _ => lifted os started H enc)

theorem holds : Rows.TextAllSaid := over
end Go.Proofs.Ytbholnfijmjicaa.textAllX
