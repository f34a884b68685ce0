/- The statement HierMay where one distance is turned, by a walk. -/
import Derived.Test.YtpohfnebmmjpdaaProg
import Derived.Test.YtpohfnebmmjpdaaExtLn
import Derived.Laws.Slices
import Derived.WalkKit
import Derived.OwnWalk
import Derived.BigCall
import Derived.BigRegion
import Derived.BigQuiet
import Derived.Deep.QuietTactic
import Derived.Maps.AppendAt
import Derived.Laws.OwnMore
import Derived.Deep.AppendLies
import Derived.Deep.RegionLaw
import Derived.Deep.RegionWith
import Derived.Deep.CutRange
namespace Go.Abs
open Go.RowKit
set_option linter.unusedVariables false
/-- The numbers that choices are made of. -/
def NumsAt (B : Nat) (w : World) (v : Value) (l : List Int) : Prop := ∃ p c, v = .slice p l.length c ∧ ∀ j n, l[j]? = some n → 0 ≤ n ∧ n ≤ 255 ∧ ∃ ad : Addr, p = some ad ∧ ad.block < B ∧ w.cell? (ad.add j) = some (.int .u8 n)
set_option maxHeartbeats 6400000 in
set_option maxRecDepth 100000 in
theorem num_walk (B b : Nat) (pl : Value) (l : List Int) (n : Int) (w : World) (hb : w.heap[b]? = some (.cells #[pl, .int .i64 n] 48 (0, 0))) (hp : NumsAt B w pl l) (hB : B ≤ b) (hl : l.length ≤ 1000) (h0 : 0 ≤ n) (h1 : n ≤ l.length) :
    Calls Go.Proofs.Try.prog 22 #[.pointer (some ⟨b, 0, none⟩), .int .i64 9] w fun e w' => ∃ (v n' : Int), e = .returned (.int .i64 v) ∧ 0 ≤ v ∧ v < 9 ∧ 0 ≤ n' ∧ n' ≤ l.length ∧ w'.heap[b]? = some (.cells #[pl, .int .i64 n'] 48 (0, 0)) ∧ w.grownBy w' (some b) := by
  obtain ⟨p, c, rfl, hr⟩ := hp
  have c0 : w.cell? ⟨b, 0, none⟩ = some (.slice p l.length c) := by simp [World.cell?, hb]
  have c1 : w.cell? ⟨b, 1, none⟩ = some (.int .i64 n) := by simp [World.cell?, hb]
  have f1 : w.frozen? ⟨b, 1, none⟩ = false := by simp [World.frozen?, hb]
  have hl9 : (l.length : Int) ≤ 1000 := by omega
  by_cases hn : (l.length : Int) ≤ n
  · go_enter Go.Proofs.Try.func22, Go.Proofs.Try.ntmps22
    go_wp2
    go_quiet (fail)
    go_wp2
    go_ret
    exact ⟨0, n, rfl, by omega, by omega, h0, h1, hb, ⟨rfl, rfl, rfl, Nat.le_refl _, fun k _ _ => rfl⟩⟩
  · obtain ⟨N, rfl⟩ : ∃ N : Nat, n = N := ⟨n.toNat, by omega⟩
    have hN : N < l.length := by omega
    obtain ⟨x, hx⟩ : ∃ x, l[N]? = some x := ⟨_, List.getElem?_eq_getElem hN⟩
    obtain ⟨x0, x1, ad, rfl, hab, hcx⟩ := hr N x hx
    have hne : ad.block ≠ b := by omega
    have hne2 : (ad.add N).block ≠ b := by unfold Addr.add; split <;> exact hne
    have hN1 : (N : Int) < (l.length : Int) := by omega
    have hcx2 : ∀ nq v, ((w.drewN nq).setCell ⟨b, 1, none⟩ v).cell? (ad.add N) = some (.int .u8 x) := fun nq v => by
      rw [World.cell?_of_block (w := w) ?_]
      · exact hcx
      · rw [Below.heap_setCell _ _ _ _ hne2]; rfl
    have hm : (x : Int).tmod 9 = x % 9 := Int.tmod_eq_emod_of_nonneg x0
    have hw8 : wrap64 x = x := by unfold wrap64; omega
    clear hr hcx hx
    go_enter Go.Proofs.Try.func22, Go.Proofs.Try.ntmps22
    go_wp2
    go_quiet (fail)
    go_wp2
    go_quiet (fail)
    go_wp2
    go_ret
    refine ⟨x % 9, N + 1, rfl, by omega, by omega, by omega, by omega, ?_, ⟨rfl, rfl, rfl, by simp, fun k hk hkb => ?_⟩⟩
    · show ((w.drewN _).setCell _ _).heap[b]? = _
      rw [heap_setCell_same (w.drewN _) b 1 _ 48 _ hb]
      rfl
    · show ((w.drewN _).setCell _ _).heap[k]? = _
      rw [Below.heap_setCell _ _ _ _ (fun e => hkb (by rw [e]))]
      rfl
/-- A square of distances. -/
structure SqD (D : LL) : Prop where
  len : D.length = 8
  row : ∀ i, i < 8 → (D.getD i []).length = 8
  rng : ∀ i j, i < 8 → j < 8 → 0 ≤ (D.getD i []).getD j 0 ∧ (D.getD i []).getD j 0 ≤ 1000
  sym : ∀ i j, i < 8 → j < 8 → (D.getD i []).getD j 0 = (D.getD j []).getD i 0
  dia : ∀ i, i < 8 → (D.getD i []).getD i 0 = 0
theorem sq_zero : SqD (List.replicate 8 (List.replicate 8 0)) := by
  have e : ∀ i j, i < 8 → j < 8 → ((List.replicate 8 (List.replicate 8 (0 : Int))).getD i []).getD j 0 = 0 := fun i j hi hj => (show ∀ i, i < 8 → ∀ j, j < 8 → ((List.replicate 8 (List.replicate 8 (0 : Int))).getD i []).getD j 0 = 0 by decide) i hi j hj
  exact ⟨rfl, by decide, fun i j hi hj => by rw [e i j hi hj]; omega, fun i j hi hj => by rw [e i j hi hj, e j i hj hi], fun i hi => e i i hi hi⟩
theorem sq_row (D : LL) (A B : Nat) (v : Int) (i : Nat) (hi : i < D.length) (hAB : A ≠ B) : (set2 D A B v).getD i [] = if i = A then (D.getD i []).set B v else if i = B then (D.getD i []).set A v else D.getD i [] := by
  unfold set2
  rw [List.getD_eq_getElem?_getD, List.getElem?_modify, List.getElem?_modify, List.getD_eq_getElem?_getD, List.getElem?_eq_getElem hi]
  by_cases q : i = A
  · subst q
    simp [Ne.symm hAB]
  · by_cases q2 : i = B
    · subst q2
      simp [q, hAB]
    · simp [q, q2, Ne.symm q, Ne.symm q2]
theorem sq_set (l : List Int) (i j : Nat) (v : Int) (hi : i < l.length) : (l.set i v).getD j 0 = if j = i then v else l.getD j 0 := by
  rw [List.getD_eq_getElem?_getD, List.getElem?_set, List.getD_eq_getElem?_getD]
  by_cases q : j = i
  · subst q; simp [hi]
  · rw [if_neg q, if_neg (Ne.symm q)]
theorem sq_gd (D : LL) (h : SqD D) (A B : Nat) (v : Int) (hA : A < 8) (hB : B < 8) (hAB : A ≠ B) (i j : Nat) (hi : i < 8) : ((set2 D A B v).getD i []).getD j 0 = if i = A ∧ j = B ∨ i = B ∧ j = A then v else (D.getD i []).getD j 0 := by
  rw [sq_row D A B v i (by have := h.len; omega) hAB]
  have hr := h.row i hi
  by_cases q : i = A
  · subst q
    rw [if_pos rfl, sq_set _ _ _ _ (by omega)]
    by_cases q2 : j = B
    · rw [if_pos q2, if_pos (.inl ⟨rfl, q2⟩)]
    · rw [if_neg q2, if_neg (by rintro (⟨_, e⟩ | ⟨e, _⟩); exact q2 e; exact hAB e)]
  · rw [if_neg q]
    by_cases q2 : i = B
    · subst q2
      rw [if_pos rfl, sq_set _ _ _ _ (by omega)]
      by_cases q3 : j = A
      · rw [if_pos q3, if_pos (.inr ⟨rfl, q3⟩)]
      · rw [if_neg q3, if_neg (by rintro (⟨e, _⟩ | ⟨_, e⟩); exact q e; exact q3 e)]
    · rw [if_neg q2, if_neg (by rintro (⟨e, _⟩ | ⟨e, _⟩); exact q e; exact q2 e)]
theorem sq_set2 (D : LL) (h : SqD D) (A B : Nat) (v : Int) (hA : A < 8) (hB : B < 8) (hAB : A ≠ B) (h0 : 0 ≤ v) (h1 : v ≤ 1000) : SqD (set2 D A B v) := by
  refine ⟨?_, fun i hi => ?_, fun i j hi hj => ?_, fun i j hi hj => ?_, fun i hi => ?_⟩
  · unfold set2; rw [List.length_modify, List.length_modify]; exact h.len
  · rw [sq_row D A B v i (by have := h.len; omega) hAB]
    have := h.row i hi
    split
    · rw [List.length_set]; exact this
    · split
      · rw [List.length_set]; exact this
      · exact this
  · rw [sq_gd D h A B v hA hB hAB i j hi]
    split
    · exact ⟨h0, h1⟩
    · exact h.rng i j hi hj
  · rw [sq_gd D h A B v hA hB hAB i j hi, sq_gd D h A B v hA hB hAB j i hj]
    by_cases c : i = A ∧ j = B ∨ i = B ∧ j = A
    · rw [if_pos c, if_pos (by omega)]
    · rw [if_neg c, if_neg (by omega)]; exact h.sym i j hi hj
  · rw [sq_gd D h A B v hA hB hAB i i hi, if_neg (by omega)]; exact h.dia i hi
open Go.RowKit
set_option linter.unusedVariables false
theorem grownTrans {a b c : World} {r : Option Nat} (h : a.grownBy b r) (k : b.grownBy c r) : a.grownBy c r :=
  ⟨k.os.trans h.os, k.tape.trans h.tape, k.output.trans h.output, Nat.le_trans h.size k.size, fun i hi hn => (k.block i (Nat.lt_of_lt_of_le hi h.size) hn).trans (h.block i hi hn)⟩
theorem keptB {w w' : World} {B b e n : Nat} {v : Value} {xs : List Value} (h : w.ownsRow B e 1 v n xs) (g : w.grownBy w' (some b)) (hb : b < B) : w'.ownsRow B e 1 v n xs :=
  h.kept g (by
    cases hv : v.ownBlock with
    | none => exact .inl rfl
    | some k => exact .inr fun e => by have := (h.lt k hv).1; simp at e; omega)
theorem matB {B e1 e2 b : Nat} {w w' : World} {v : Value} {M : LL} {us : List Value} (h : Mat B e1 e2 w v M us) (g : w.grownBy w' (some b)) (hb : b < B) : Mat B e1 e2 w' v M us :=
  ⟨keptB h.out g hb, fun i l u hi hu => keptB (h.row i l u hi hu) g hb, h.inj, h.apart⟩
theorem nums_kept {B b : Nat} {w w' : World} {v : Value} {l : List Int} (h : NumsAt B w v l) (g : w.grownBy w' (some b)) (hb : B ≤ b) : NumsAt B w' v l := by
  obtain ⟨p, c, e, h⟩ := h
  refine ⟨p, c, e, fun j n hj => ?_⟩
  obtain ⟨a1, a2, ad, a3, a4, a5⟩ := h j n hj
  refine ⟨a1, a2, ad, a3, a4, g.cell a5 ?_⟩
  have : (ad.add j).block = ad.block := by unfold Addr.add; split <;> rfl
  rw [this]
  intro q; simp at q; omega
theorem belowB {w w' : World} {b : Nat} (h : Below w.heap.size w w') : w.grownBy w' (some b) := ⟨h.os, h.tape, h.output, h.size, fun k hk _ => h.block k hk⟩
theorem allocB {w : World} {b : Nat} (o : Obj) : w.grownBy (w.alloc o) (some b) := ⟨rfl, rfl, rfl, by simp, fun k hk _ => Below.heap_alloc w o k hk⟩
theorem setB {a w : World} {b : Nat} (h : a.grownBy w (some b)) {p : Addr} (hp : a.heap.size ≤ p.block) (v : Value) : a.grownBy (w.setCell p v) (some b) :=
  ⟨h.os, h.tape, h.output, by simpa using h.size, fun k hk hkb => by rw [Below.heap_setCell _ _ _ _ (by omega)]; exact h.block k hk hkb⟩
theorem drewB {a w : World} {b : Nat} (h : a.grownBy w (some b)) : a.grownBy w.drew (some b) := ⟨h.os, h.tape, h.output, h.size, h.block⟩
theorem lit9 (w : World) (V : Nat) (hV : V < 9) : ∃ x : Int, 0 ≤ x ∧ x ≤ 1000 ∧ (w.alloc (.cells #[.int .i64 1, .int .i64 2, .int .i64 3, .int .i64 5, .int .i64 9, .int .i64 9, .int .i64 20, .int .i64 1000, .int .i64 0] 3)).cell? ⟨w.heap.size, V, none⟩ = some (.int .i64 x) := by
  have hg := heap_alloc_new w (.cells #[.int .i64 1, .int .i64 2, .int .i64 3, .int .i64 5, .int .i64 9, .int .i64 9, .int .i64 20, .int .i64 1000, .int .i64 0] 3)
  have hc : ∀ x, #[Value.int .i64 1, .int .i64 2, .int .i64 3, .int .i64 5, .int .i64 9, .int .i64 9, .int .i64 20, .int .i64 1000, .int .i64 0][V]? = some x → (w.alloc (.cells #[.int .i64 1, .int .i64 2, .int .i64 3, .int .i64 5, .int .i64 9, .int .i64 9, .int .i64 20, .int .i64 1000, .int .i64 0] 3)).cell? ⟨w.heap.size, V, none⟩ = some x := fun x h => by
    rw [cell_of_row _ _ V _ _ (0, 0) hg]; exact h
  match V, hV with
  | 0, _ => exact ⟨1, by omega, by omega, hc _ rfl⟩
  | 1, _ => exact ⟨2, by omega, by omega, hc _ rfl⟩
  | 2, _ => exact ⟨3, by omega, by omega, hc _ rfl⟩
  | 3, _ => exact ⟨5, by omega, by omega, hc _ rfl⟩
  | 4, _ => exact ⟨9, by omega, by omega, hc _ rfl⟩
  | 5, _ => exact ⟨9, by omega, by omega, hc _ rfl⟩
  | 6, _ => exact ⟨20, by omega, by omega, hc _ rfl⟩
  | 7, _ => exact ⟨1000, by omega, by omega, hc _ rfl⟩
  | 8, _ => exact ⟨0, by omega, by omega, hc _ rfl⟩
theorem sq_get {D : LL} (h : SqD D) {i : Nat} (hi : i < 8) : ∃ r, D[i]? = some r ∧ r.length = 8 := by
  have := h.row i hi
  rw [List.getD_eq_getElem?_getD, List.getElem?_eq_getElem (by have := h.len; omega)] at this
  exact ⟨_, List.getElem?_eq_getElem (by have := h.len; omega), this⟩
set_option maxHeartbeats 6400000 in
set_option maxRecDepth 100000 in
theorem dist_walk (B b : Nat) (pl : Value) (l : List Int) (w : World) (hb : w.heap[b]? = some (.cells #[pl, .int .i64 0] 48 (0, 0))) (hp : NumsAt B w pl l) (hB : B ≤ b) (hl : l.length ≤ 1000) :
    Calls Go.Proofs.Try.prog 8 #[.pointer (some ⟨b, 0, none⟩)] w fun e w' => ∃ u us D, e = .returned u ∧ Mat w.heap.size 25 3 w' u D us ∧ SqD D ∧ w.grownBy w' (some b) := by
  obtain ⟨i25, hi25, hz25, hs25, hb25⟩ := info_parts (P := Go.Proofs.Try.prog) (e := 25) (z := .slice none 0 0) (size := 1) (bytes := 24) (by kernel_rfl)
  obtain ⟨i3, hi3, hz3, hs3, hb3⟩ := info_parts (P := Go.Proofs.Try.prog) (e := 3) (z := .int .i64 0) (size := 1) (bytes := 8) (by kernel_rfl)
  have hbl : b < w.heap.size := (Array.getElem?_eq_some_iff.1 hb).1
  have hp2 : Hid (NumsAt B w pl l) := hp
  clear hp
  go_enter Go.Proofs.Try.func8, Go.Proofs.Try.ntmps8
  go_wp2
  go_loopw [3, 4] (fun u3 u4 wr => ∃ (i : Nat) (us : List Value), u4 = .int .i64 (i : Int) ∧ i ≤ 8 ∧ Mat w.heap.size 25 3 wr u3 ((List.replicate 8 (List.replicate 8 (0 : Int))).take i) us ∧ Below w.heap.size w wr)
    (fun _ u4 wr => 8 - (intOf u4).toNat)
  case atStart => exact ⟨0, [], rfl, by omega, mat_nil _ _ _ _, Below.refl _ _⟩
  case round =>
    obtain ⟨i, us, rfl, hi, hm, hbw⟩ := hrel
    have hB2 := hbw.size
    have hm : Hid (Mat w.heap.size 25 3 wr u3 ((List.replicate 8 (List.replicate 8 (0 : Int))).take i) us) := hm
    by_cases hp : i < 8
    · have hlt : (i : Int) < 8 := by omega
      obtain ⟨w1, hmk, ho1, hg1⟩ := run_make_full (P := Go.Proofs.Try.prog) wr wr.heap.size 25 3 i3 (.int .i64 0) 1 Go.Proofs.Try.underlying25 hi3 hz3 hs3 .i64 .i64 8 (by rw [hb3]; decide) (by decide) (Nat.le_refl _)
      have hmk : (Instr.makeSlice 25 (.int .i64 8) (.int .i64 8)).run Go.Proofs.Try.prog wr = .ok (.slice (some ⟨wr.heap.size, 0, none⟩) 8 8) w1 := hmk
      have A1 : Hid (wr.grownBy w1 none) := hg1
      have A3 : Hid (w1.ownsRow wr.heap.size 3 1 (.slice (some ⟨wr.heap.size, 0, none⟩) 8 8) (List.replicate 8 (0 : Int)).length ((List.replicate 8 (0 : Int)).map fun n => Value.int .i64 n)) := by rw [show ((8 : Nat) * 1) = 8 from rfl, show (Value.int .i64 0).cells = #[.int .i64 0] from rfl, toList_madeCells_one] at ho1; exact ho1
      clear ho1 hg1
      go_wp2_with (first
        | (at_builtin; refine wpList_append_own_at _ rfl _ _ 23 rfl w.heap.size 25 i25 (.slice none 0 0) 1 24 Go.Proofs.Try.underlying23 hi25 hz25 hs25 hb25 rfl (by decide) _ _ _ rfl ((keptN hm.out.out A1.out).alloc _) ⟨w1.heap.size, 0, none⟩ 1 1 [.slice (some ⟨wr.heap.size, 0, none⟩) 8 8] rfl rfl (cell_one_new _ _ _) (fun y hy => by simp at hy; subst hy; rfl) (by rw [List.length_take, List.length_replicate]; unfold maxLen; omega) (by rw [List.length_take, List.length_replicate]; omega) (by have := A1.out.size; simp; omega) ?_; intro v' w3 hv hg3 hnil3 hat3
           have A4 := hm.out.round (i := i) (l := List.replicate 8 (0 : Int)) hB2 (by rw [List.getElem?_replicate, if_pos hp]) (by decide) A3.out (.inr rfl) A1.out hg3 hv hat3
           have A5 : Hid (Mat w.heap.size 25 3 w3 v' ((List.replicate 8 (List.replicate 8 (0 : Int))).take (i + 1)) (us ++ [.slice (some ⟨wr.heap.size, 0, none⟩) 8 8]) ∧ Below w.heap.size w w3) := ⟨A4.1, Below.grown ((Below.grown hbw A1.out hB2 (fun j hj => by cases hj)).alloc (by have := A1.out.size; omega) _) hg3 (by have := A1.out.size; simp; omega) (fun j hj => (hm.out.out.lt j hj).1)⟩
           clear hnil3 hat3 hv hg3 A4))
      refine ⟨⟨i + 1, _, by simp, by omega, A5.out.1, A5.out.2⟩, ?_⟩
      simp [intOf]; omega
    · have hi8 : i = 8 := by omega
      subst hi8
      rw [List.take_of_length_le (by decide)] at hm
      have hg0 : Hid (w.grownBy wr (some b)) := belowB hbw
      have hb0 := hbw.block b hbl
      rw [hb] at hb0
      have hbx : Hid _ := hb0
      clear hbw hp hi hi25 hz25 hs25 hb25 hi3 hz3 hs3 hb3 hb hb0
      go_wp2
      go_loopw [5] (fun u5 w2 => ∃ (I : Nat) (D : LL) (n : Int), u5 = .int .i64 (I : Int) ∧ I ≤ 8 ∧ Mat w.heap.size 25 3 w2 u3 D us ∧ SqD D ∧ w.grownBy w2 (some b) ∧ w2.heap[b]? = some (.cells #[pl, .int .i64 n] 48 (0, 0)) ∧ 0 ≤ n ∧ n ≤ l.length)
        (fun u5 w2 => 8 - (intOf u5).toNat)
      case atStart => exact ⟨0, _, 0, rfl, by omega, hm, sq_zero, hg0, hbx, by omega, by omega⟩
      case round =>
        obtain ⟨I, D, n, rfl, hI, hm0, hs0, hg0, hb0, hn0, hn1⟩ := hrel
        have hX : Hid (Mat w.heap.size 25 3 wr u3 D us ∧ SqD D ∧ w.grownBy wr (some b) ∧ wr.heap[b]? = some (.cells #[pl, .int .i64 n] 48 (0, 0)) ∧ 0 ≤ n ∧ n ≤ l.length) := ⟨hm0, hs0, hg0, hb0, hn0, hn1⟩
        clear hm0 hs0 hg0 hb0 hn0 hn1
        by_cases hI8 : I < 8
        · have hI9 : (I : Int) < 8 := by omega
          go_wp2
          go_loopw [6] (fun u6 w3 => ∃ (k : Nat) (D : LL) (n : Int), u6 = .int .i64 (k : Int) ∧ k ≤ I ∧ Mat w.heap.size 25 3 w3 u3 D us ∧ SqD D ∧ w.grownBy w3 (some b) ∧ w3.heap[b]? = some (.cells #[pl, .int .i64 n] 48 (0, 0)) ∧ 0 ≤ n ∧ n ≤ l.length)
            (fun u6 w3 => I - (intOf u6).toNat)
          case atStart => exact ⟨0, D, n, rfl, by omega, hX.out⟩
          case round =>
            clear hX
            obtain ⟨k, D, n, rfl, hk, hm0, hs0, hg0, hb0, hn0, hn1⟩ := hrel
            have hX : Hid (Mat w.heap.size 25 3 wr u3 D us ∧ SqD D ∧ w.grownBy wr (some b) ∧ wr.heap[b]? = some (.cells #[pl, .int .i64 n] 48 (0, 0)) ∧ 0 ≤ n ∧ n ≤ l.length) := ⟨hm0, hs0, hg0, hb0, hn0, hn1⟩
            by_cases hkI : k < I
            · have hk9 : (k : Int) < (I : Int) := by omega
              have hk8 : (k : Int) < 8 := by omega
              obtain ⟨la, hA, hla⟩ := sq_get hs0 hI8
              obtain ⟨lb, hB4, hlb⟩ := sq_get hs0 (show k < 8 by omega)
              obtain ⟨g, cap, ga, ca, rfl, hua, hga⟩ := hm0.at hA (by omega)
              obtain ⟨g', cap', gb, cb, e9, hub, hgb⟩ := hm0.at hB4 (by omega)
              cases e9
              rw [hs0.len] at *
              have hq : Hid (D[I]? = some la ∧ D[k]? = some lb ∧ us[I]? = some (Value.slice (some ⟨ga, 0, none⟩) la.length ca) ∧ us[k]? = some (Value.slice (some ⟨gb, 0, none⟩) lb.length cb)) := ⟨hA, hB4, hua, hub⟩
              have hz : w.heap.size ≤ wr.heap.size := hg0.size
              have hW1 : w.grownBy (wr.alloc (.cells #[.int .i64 1, .int .i64 2, .int .i64 3, .int .i64 5, .int .i64 9, .int .i64 9, .int .i64 20, .int .i64 1000, .int .i64 0] 3)) (some b) := grownTrans hg0 (allocB _)
              have hbW : (wr.alloc (.cells #[.int .i64 1, .int .i64 2, .int .i64 3, .int .i64 5, .int .i64 9, .int .i64 9, .int .i64 20, .int .i64 1000, .int .i64 0] 3)).heap[b]? = some (.cells #[pl, .int .i64 n] 48 (0, 0)) := by rw [Below.heap_alloc _ _ _ (by omega)]; exact hb0
              have hnum := num_walk B b pl l n _ hbW (nums_kept hp2.out hW1 hB) hB hl hn0 hn1
              have hW : Hid _ := hW1
              clear hm0 hs0 hg0 hb0 hn0 hn1 hA hB4 hua hub hW1 hbW
              go_wp2_with (first
                | (go_at_call 22; refine hnum.mono ?_; rintro e W2 ⟨v, n', rfl, hv0, hv9, hn0, hn1, hb2, hgw⟩
                   obtain ⟨V, rfl⟩ : ∃ V : Nat, v = V := ⟨v.toNat, by omega⟩
                   obtain ⟨x, hx0, hx1, hxc0⟩ := lit9 wr V (by omega)
                   have hxc : W2.cell? ⟨wr.heap.size, V, none⟩ = some (.int .i64 x) := hgw.cell hxc0 (by simp; omega)
                   have X2 : Hid (Mat w.heap.size 25 3 W2 (.slice (some ⟨g, 0, none⟩) 8 cap) D us ∧ w.grownBy W2 (some b) ∧ W2.heap[b]? = some (.cells #[pl, .int .i64 n'] 48 (0, 0)) ∧ 0 ≤ n' ∧ n' ≤ l.length) := ⟨matB (matB hX.out.1 (allocB _) hbl) hgw hbl, grownTrans hW.out hgw, hb2, hn0, hn1⟩
                   clear hxc0 hgw hb2 hn0 hn1 hnum))
              have ho := X2.out.1.out
              rw [hX.out.2.1.len] at ho
              have q5 : W2.cell? ⟨g, I, none⟩ = some (.slice (some ⟨ga, 0, none⟩) la.length ca) := by rw [ho.cellAt I (by omega)]; exact hq.out.2.2.1
              have q6 : W2.cell? ⟨g, k, none⟩ = some (.slice (some ⟨gb, 0, none⟩) lb.length cb) := by rw [ho.cellAt k (by omega)]; exact hq.out.2.2.2
              have rA := X2.out.1.row I _ _ hq.out.1 hq.out.2.2.1
              have rB := X2.out.1.row k _ _ hq.out.2.1 hq.out.2.2.2
              have fa := rA.frozenAt k
              have fb := rB.frozenAt I
              obtain ⟨xa, hxa⟩ : ∃ xa, W2.cell? ⟨ga, k, none⟩ = some xa := ⟨.int .i64 (la[k]'(show k < la.length by rw [hla]; omega)), by rw [rA.cellAt k (show k < la.length * 1 by rw [hla]; omega), List.getElem?_map, List.getElem?_eq_getElem (by rw [hla]; omega)]; rfl⟩
              obtain ⟨xb, hxb⟩ : ∃ xb, W2.cell? ⟨gb, I, none⟩ = some xb := ⟨.int .i64 (lb[I]'(show I < lb.length by rw [hlb]; omega)), by rw [rB.cellAt I (show I < lb.length * 1 by rw [hlb]; omega), List.getElem?_map, List.getElem?_eq_getElem (by rw [hlb]; omega)]; rfl⟩
              have hne : ga ≠ gb := fun e => by have := X2.out.1.inj I k _ _ ga hq.out.2.2.1 hq.out.2.2.2 rfl (by rw [e]; rfl); omega
              have zA := (rA.lt ga rfl).1
              have zB := (rB.lt gb rfl).1
              have L1 : (I : Int) < (lb.length : Int) := by omega
              have L2 : (k : Int) < (la.length : Int) := by omega
              clear rA rB hga hgb hxc ho
              go_region
              go_wp2
              go_roundw
              case rel =>
                have m5 := X2.out.1.store hq.out.1 (show k < la.length by rw [hla]; omega) hq.out.2.2.1 x
                have m6 := m5.store (i := k) (l := lb) (by rw [List.getElem?_modify]; simp [show I ≠ k by omega, hq.out.2.1]) (show I < lb.length by rw [hlb]; omega) hq.out.2.2.2 x
                have g6 := drewB (setB (setB X2.out.2.1 (p := ⟨ga, k, none⟩) zA (.int .i64 x)) (p := ⟨gb, I, none⟩) zB (.int .i64 x))
                have s6 := sq_set2 D hX.out.2.1 I k x hI8 (by omega) (by omega) hx0 hx1
                (repeat apply Exists.intro)
                refine ⟨⟨k + 1, set2 D I k x, n', ?_, by omega, m6.drew, s6, g6, ?_, X2.out.2.2.2.1, X2.out.2.2.2.2⟩, rfl⟩
                · simp
                · show (World.setCell _ _ _).heap[b]? = _
                  rw [Below.heap_setCell _ _ _ _ (by show b ≠ gb; omega), Below.heap_setCell _ _ _ _ (by show b ≠ ga; omega)]
                  exact X2.out.2.2.1
              case measure => simp [intOf]; omega
            · have : k = I := by omega
              subst this
              go_wp2
              refine ⟨⟨k + 1, D, n, by simp, by omega, hX.out⟩, ?_⟩
              simp [intOf]; omega
        · have : I = 8 := by omega
          subst this
          go_wp2
          go_ret
          exact ⟨_, us, D, rfl, hX.out.1, hX.out.2.1, hX.out.2.2.1⟩
open Go.RowKit
set_option linter.unusedVariables false
set_option linter.unusedSimpArgs false
abbrev tCl : Ty := .agg (.pair (.list (.int .i64)) (.int .i64))
abbrev Lv' : Type := List (List (List Int × Int))
abbrev Hr' : Type := Int × LL × Lv'
abbrev tHr : Ty := .agg (.pair (.int .i64) (.pair (.list (.list (.int .i64))) (.list (.list tCl))))
theorem hm_block {w : World} {a : Addr} {v : Value} (h : w.cell? a = some v) : a.block < w.heap.size := by
  unfold World.cell? at h
  cases hq : w.heap[a.block]? with
  | none => rw [hq] at h; cases h
  | some z => exact (Array.getElem?_eq_some_iff.1 hq).1
theorem cellBelow {B : Nat} {w w' : World} (h : Below B w w') {a : Addr} {v : Value} (hB : w.heap.size ≤ B) (c : w.cell? a = some v) : w'.cell? a = some v := by
  rw [h.cell (Nat.lt_of_lt_of_le (hm_block c) hB)]; exact c
theorem cellOld {W : World} {a : Addr} {v : Value} (o : Obj) (h : W.cell? a = some v) : (W.alloc o).cell? a = some v :=
  cellBelow ((Below.refl W.heap.size W).alloc (Nat.le_refl _) o) (Nat.le_refl _) h
theorem toHid' {p : Prop} (h : p) : Hid p := h
/-- What lies there. -/
def OldV (d : V) (w : World) (v : Value) : Prop := Rp (fun p => p.block < w.heap.size) w d v
theorem Rp.oldV {S : Addr → Prop} {w : World} {d : V} {v : Value} (h : Rp S w d v) : OldV d w v := by
  unfold OldV
  induction h with
  | bool b => exact .bool b
  | int k n => exact .int k n
  | str b s h => exact .str b s h
  | snil => exact .snil
  | sl hc hm hl h ih => exact .sl hc (fun i u hu => ⟨hm_block (hm i u hu).2, (hm i u hu).2⟩) hl ih
  | slz => exact .slz
  | sz => exact .sz
  | nl h ih => exact .nl ih
  | bs h ih => exact .bs ih
  | lst h ih => exact .lst ih
  | si h ih => exact .si ih
  | eref h ih => exact .eref ih
  | cref hm hl h ih => exact .cref (fun i u hu => ⟨hm_block (hm i u hu).2, (hm i u hu).2⟩) hl ih
  | pnil => exact .pnil
  | agg hl h ih => exact .agg hl ih
  | tup hl h ih => exact .tup hl ih
  | ifc h ih => exact .ifc ih
  | inil => exact .inil
  | fn hl h ih => exact .fn hl ih
  | fnil => exact .fnil
theorem OldV.up {d : V} {w w1 : World} {v : Value} (h : OldV d w v) (hb : Below w.heap.size w w1) : OldV d w1 v :=
  Rp.mono (fun p (hp : p.block < w.heap.size) => ⟨Nat.lt_of_lt_of_le hp hb.size, World.cell?_of_block (hb.block _ hp)⟩) h
theorem OldV.sl {L : TL} {w : World} {v : Value} (h : OldV (.lst L) w v) : ∃ p n c, v = .slice p n c := by
  cases h with
  | lst h => exact h.sl_form
/-- What lies there, and not in block B. -/
def OldX (B : Nat) (d : V) (w : World) (v : Value) : Prop := Rp (fun p => p.block < w.heap.size ∧ p.block ≠ B) w d v
theorem OldX.v {B : Nat} {d : V} {w : World} {v : Value} (h : OldX B d w v) : OldV d w v := Rp.oldV h
theorem OldV.x {B : Nat} {d : V} {w : World} {v : Value} (h : OldV d w v) (hB : w.heap.size ≤ B) : OldX B d w v := Rp.mono (fun p hp => ⟨⟨hp, Nat.ne_of_lt (Nat.lt_of_lt_of_le hp hB)⟩, rfl⟩) h
theorem OldX.up {B : Nat} {d : V} {w w1 : World} {v : Value} (h : OldX B d w v) (hs : w.heap.size ≤ w1.heap.size) (hb : ∀ k, k < w.heap.size → k ≠ B → w1.heap[k]? = w.heap[k]?) : OldX B d w1 v :=
  Rp.mono (fun p hp => ⟨⟨Nat.lt_of_lt_of_le hp.1 hs, hp.2⟩, World.cell?_of_block (hb _ hp.1 hp.2)⟩) h
abbrev rowsV (D : LL) : V := .lst ⟨.list (.int .i64), D⟩
abbrev lvsV (L : Lv') : V := .lst ⟨.list tCl, L⟩
/-- A hierarchy that lies there. -/
def HrAt (w : World) (v : Value) (h : Hr') : Prop := ∃ vd vl, v = .agg #[.int .i64 h.1, vd, vl] ∧ OldV (rowsV h.2.1) w vd ∧ OldV (lvsV h.2.2) w vl
theorem HrAt.up {w w1 : World} {v : Value} {h : Hr'} (H : HrAt w v h) (hb : Below w.heap.size w w1) : HrAt w1 v h := by
  obtain ⟨vd, vl, e, h1, h2⟩ := H
  exact ⟨vd, vl, e, h1.up hb, h2.up hb⟩
theorem HrAt.of {S : Addr → Prop} {w : World} {v : Value} {h : Hr'} (H : Rp S w (valW tHr h) v) : HrAt w v h := by
  replace H : Rp S w (.agg [.int .i64 h.1, rowsV h.2.1, lvsV h.2.2]) v := H
  cases H with
  | @agg _ vs hl H =>
    match vs, hl, H with
    | [u0, u1, u2], hl, H =>
      have h0 := H 0 _ _ rfl rfl
      have h1 := H 1 _ _ rfl rfl
      have h2 := H 2 _ _ rfl rfl
      cases h0
      exact ⟨u1, u2, rfl, h1.oldV, h2.oldV⟩
def HrX (B : Nat) (w : World) (v : Value) (h : Hr') : Prop := ∃ vd vl, v = .agg #[.int .i64 h.1, vd, vl] ∧ OldX B (rowsV h.2.1) w vd ∧ OldX B (lvsV h.2.2) w vl
theorem HrX.v {B : Nat} {w : World} {v : Value} {h : Hr'} (H : HrX B w v h) : HrAt w v h := by
  obtain ⟨vd, vl, e, h1, h2⟩ := H
  exact ⟨vd, vl, e, h1.v, h2.v⟩
theorem HrX.of {B : Nat} {w : World} {v : Value} {h : Hr'} (H : Rp (fun p => p.block < w.heap.size ∧ p.block ≠ B) w (valW tHr h) v) : HrX B w v h := by
  replace H : Rp (fun p => p.block < w.heap.size ∧ p.block ≠ B) w (.agg [.int .i64 h.1, rowsV h.2.1, lvsV h.2.2]) v := H
  cases H with
  | @agg _ vs hl H =>
    match vs, hl, H with
    | [u0, u1, u2], hl, H =>
      have h0 := H 0 _ _ rfl rfl
      have h1 := H 1 _ _ rfl rfl
      have h2 := H 2 _ _ rfl rfl
      cases h0
      exact ⟨u1, u2, rfl, h1, h2⟩
theorem HrX.rp {B : Nat} {w : World} {v : Value} {h : Hr'} (H : HrX B w v h) : Rp (fun p => p.block < w.heap.size ∧ p.block ≠ B) w (valW tHr h) v := by
  obtain ⟨vd, vl, rfl, h1, h2⟩ := H
  show Rp _ w (.agg [.int .i64 h.1, rowsV h.2.1, lvsV h.2.2]) _
  refine Rp.agg (vs := [_, _, _]) rfl fun i d u hd hu => ?_
  match i, hd, hu with
  | 0, hd, hu => cases hd; cases hu; exact .int _ _
  | 1, hd, hu => cases hd; cases hu; exact h1
  | 2, hd, hu => cases hd; cases hu; exact h2
theorem HrAt.rp {w : World} {v : Value} {h : Hr'} (H : HrAt w v h) : Rp (fun p => p.block < w.heap.size) w (valW tHr h) v := by
  obtain ⟨vd, vl, rfl, h1, h2⟩ := H
  show Rp _ w (.agg [.int .i64 h.1, rowsV h.2.1, lvsV h.2.2]) _
  refine Rp.agg (vs := [_, _, _]) rfl fun i d u hd hu => ?_
  match i, hd, hu with
  | 0, hd, hu => cases hd; cases hu; exact .int _ _
  | 1, hd, hu => cases hd; cases hu; exact h1
  | 2, hd, hu => cases hd; cases hu; exact h2
theorem stab {w : World} {d : V} {v : Value} (h : OldV d w v) : Rv (tabU [] []) (fun x => x) (Stable (fun p => p.block < w.heap.size) (tabU [] []) (fun x => x) w) w d v :=
  .pure (Rp.mono (fun p hp => ⟨⟨hp, hp, fun t ht => absurd ht (tab0_live t)⟩, rfl⟩) h)
/-- Calls for a walk. -/
def bNewH (P : Program) (f : Nat) (new : LL × Int → Option (Bool × Hr')) : Prop := ∀ D k r, new (D, k) = some r → ∀ w v, OldV (rowsV D) w v → Calls P f #[v, .int .i64 k] w fun e w' => (∃ hv, e = .returned (.tuple #[hv, .bool r.1]) ∧ HrAt w' hv r.2) ∧ Below w.heap.size w w'
def bJoinH (P : Program) (f : Nat) (join : Hr' × Int → Option Hr') : Prop := ∀ h i r, join (h, i) = some r → ∀ B w v, B < w.heap.size → HrX B w v h → Calls P f #[v, .int .i64 i] w fun e w' => (∃ rv, e = .returned rv ∧ HrX B w' rv r) ∧ Below w.heap.size w w'
def bMayH (P : Program) (f : Nat) (may : Hr' → Option Bool) : Prop := ∀ h b, may h = some b → ∀ w v, HrAt w v h → Calls P f #[v] w fun e w' => e = .returned (.bool b) ∧ Below w.heap.size w w'
def bTrueH (P : Program) (f : Nat) : Prop := ∀ w, Calls P f #[] w fun e w' => e = .returned (.bool true) ∧ Below w.heap.size w w'
theorem keptB0 {w w' : World} (hk : Kept (fun b => ∃ t, (tabU [] []).live t ∧ (fun x => x) t = b) w w') : Below w.heap.size w w' := (hk.mono (Y := fun _ => False) fun k _ hx => by obtain ⟨t, ht, _⟩ := hx; exact tab0_live t ht).below
theorem bNewH_of {P : Program} {f : Nat} {new : LL × Int → Option (Bool × Hr')} (h : ∀ x r, new x = some r → Spec2 P f [rowsV x.1, .int .i64 x.2] [] (.tup [valW tHr r.2, .bs r.1]) [] []) : bNewH P f new := by
  intro D k r hr w v hv
  refine (h (D, k) r hr w #[v, .int .i64 k] (fun x => x) (fun p => p.block < w.heap.size) (tr0 _ _ _) ?_).mono ?_
  · refine ⟨rfl, fun i d' u hd hu => ?_⟩
    match i, hd, hu with
    | 0, hd, hu => cases hd; cases hu; exact stab hv
    | 1, hd, hu => cases hd; cases hu; exact .pure (.int _ _)
  · rintro e w' ⟨v', β', rfl, hk, _, hr, _⟩
    have hr := hr.pure_ (by rfl)
    cases hr with
    | @tup _ vs hl H =>
      match vs, hl, H with
      | [u0, u1], hl, H =>
        have h0 := H 0 _ _ rfl rfl
        have h1 := H 1 _ _ rfl rfl
        cases h1 with
        | bs h1 =>
          cases h1
          exact ⟨⟨u0, rfl, .of h0⟩, keptB0 hk⟩
theorem bJoinH_of {P : Program} {f : Nat} {join : Hr' × Int → Option Hr'} (h : ∀ x r, join x = some r → Spec2 P f [valW tHr x.1, .int .i64 x.2] [] (valW tHr r) [] []) : bJoinH P f join := by
  intro x k r hr B w v hB hv
  refine (h (x, k) r hr w #[v, .int .i64 k] (fun x => x) (fun p => p.block < w.heap.size ∧ p.block ≠ B) (tr0 _ _ _) ?_).mono ?_
  · refine ⟨rfl, fun i d' u hd hu => ?_⟩
    match i, hd, hu with
    | 0, hd, hu => cases hd; cases hu; exact .pure (Rp.mono (fun p hp => ⟨⟨hp, hp.1, fun t ht => absurd ht (tab0_live t)⟩, rfl⟩) hv.rp)
    | 1, hd, hu => cases hd; cases hu; exact .pure (.int _ _)
  · rintro e w' ⟨v', β', rfl, hk, _, hr, _⟩
    refine ⟨⟨v', rfl, .of ((hr.pure_ (by rfl)).mono fun p hp => ⟨⟨hp.2.1, ?_⟩, rfl⟩)⟩, keptB0 hk⟩
    rcases hp.1 with q | q | ⟨j, q, _⟩
    · exact q.2
    · exact fun e => by rw [e] at q; exact Nat.lt_irrefl _ (Nat.lt_of_lt_of_le hB q)
    · simp at q
theorem bMayH_of {P : Program} {f : Nat} {may : Hr' → Option Bool} (h : ∀ x r, may x = some r → Spec2 P f [valW tHr x] [] (.bs r) [] []) : bMayH P f may := by
  intro x r hr w v hv
  refine (h x r hr w #[v] (fun x => x) (fun p => p.block < w.heap.size) (tr0 _ _ _) ?_).mono ?_
  · refine ⟨rfl, fun i d' u hd hu => ?_⟩
    match i, hd, hu with
    | 0, hd, hu => cases hd; cases hu; exact stab hv.rp
  · rintro e w' ⟨v', β', rfl, hk, _, hr, _⟩
    rw [hr.bs_]
    exact ⟨rfl, keptB0 hk⟩
theorem bTrueH_of {P : Program} {f : Nat} (h : Spec2 P f [] [] (.bs true) [] []) : bTrueH P f := by
  intro w
  refine (h w #[] (fun x => x) (fun p => p.block < w.heap.size) (tr0 _ _ _) ⟨rfl, fun i d u hd => by simp at hd⟩).mono ?_
  rintro e w' ⟨v', β', rfl, hk, _, hr, _⟩
  rw [hr.bs_]
  exact ⟨rfl, keptB0 hk⟩
/-! Rows of rows, taken apart and put together. -/
theorem cells_list {e : Ty} (l : List (List e.I)) (j : Nat) : (TL.cells ⟨.list e, l⟩)[j]? = l[j]?.map fun x => V.sl x.length (x.flatMap (cellsV e)) := by
  show (l.flatMap fun x => [V.sl x.length (x.flatMap (cellsV e))])[j]? = _
  rw [← List.map_eq_flatMap, List.getElem?_map]
theorem row_of {e : Ty} {w : World} {v : Value} {L : List (List e.I)} (h : OldV (.lst ⟨.list e, L⟩) w v) : ∃ (p : Option Addr) (c : Nat) (us : List Value), v = .slice p L.length c ∧ us.length = L.length ∧ (p = none → L.length = 0 ∧ c = 0) ∧ (∀ (j : Nat) (u : Value), us[j]? = some u → ∃ ad, p = some ad ∧ w.cell? (ad.add j) = some u) ∧
    (∀ (j : Nat) (u : Value) (x : List e.I), us[j]? = some u → L[j]? = some x → OldV (.sl x.length (x.flatMap (cellsV e))) w u) := by
  unfold OldV at h
  cases h with
  | lst h =>
    generalize hn : (TL.l ⟨.list e, L⟩).length = n at h
    have hn : L.length = n := hn
    generalize hK : TL.cells ⟨.list e, L⟩ = K at h
    cases h with
    | @sl _ _ a c vs hc hm hl h =>
      subst hn hK
      refine ⟨some a, c, vs, rfl, ?_, fun q => (by cases q), fun j u hu => ⟨a, rfl, (hm j u hu).2⟩, fun j u x hu hx => h j _ u ?_ hu⟩
      · rw [← hl, TL.cells_length]; show L.length * 1 = L.length; omega
      · rw [cells_list, hx]; rfl
    | slz =>
      have : L = [] := List.eq_nil_of_length_eq_zero hn
      subst this
      exact ⟨none, 0, [], rfl, rfl, fun _ => ⟨rfl, rfl⟩, fun j u hu => by simp at hu, fun j u x hu => by simp at hu⟩
theorem sl_one {S : Addr → Prop} {w : World} {n : Nat} {cs : List V} {u : Value} (h : Rp S w (.sl n cs) u) : u.oneCell' = true := by
  cases h <;> rfl
theorem ones_of {e : Ty} {w : World} {L : List (List e.I)} {us : List Value} (hl : us.length = L.length) (h : ∀ (j : Nat) (u : Value) (x : List e.I), us[j]? = some u → L[j]? = some x → OldV (.sl x.length (x.flatMap (cellsV e))) w u) : ∀ u ∈ us, u.oneCell' = true := fun u hu => by
  obtain ⟨j, hj⟩ := List.getElem?_of_mem hu
  have hjl : j < L.length := by have := (List.getElem?_eq_some_iff.1 hj).1; omega
  exact sl_one (h j u _ hj (List.getElem?_eq_getElem hjl))
/-- A row of one's own, of which each cell leads to a row. -/
theorem row_mk {e : Ty} {B t : Nat} {w : World} {v : Value} {L : List (List e.I)} {us : List Value} (h : w.ownsRow B t 1 v L.length us) (hu : ∀ (j : Nat) (u : Value) (x : List e.I), us[j]? = some u → L[j]? = some x → OldV (.sl x.length (x.flatMap (cellsV e))) w u) : OldV (.lst ⟨.list e, L⟩) w v := by
  unfold OldV
  refine .lst ?_
  have hl : us.length = L.length := by have := h.1; omega
  rcases h.2 with ⟨rfl, hn⟩ | ⟨g, cap, cur, rfl, _, hg, hc, _, _, ht⟩
  · have : L = [] := List.eq_nil_of_length_eq_zero hn
    subst this
    exact .slz
  · have hgl : g < w.heap.size := (Array.getElem?_eq_some_iff.1 hg).1
    refine .sl (vs := us) hc (fun j u hj => ⟨by show (Addr.add _ _).block < _; unfold Addr.add; split <;> exact hgl, ?_⟩) (by rw [TL.cells_length]; show L.length * 1 = _; omega) fun j d u hd hj => ?_
    · have hj2 : j < L.length := by rw [← hl]; exact (List.getElem?_eq_some_iff.1 hj).1
      have := World.ownsRow.cellAt h j (by omega)
      rw [hj] at this
      unfold Addr.add
      split
      · rename_i q; rw [q] at this; exact this
      · simpa using this
    · rw [cells_list] at hd
      cases hx : L[j]? with
      | none => rw [hx] at hd; cases hd
      | some x => rw [hx] at hd; cases hd; exact hu j u x hj hx
/-- A row of numbers of one's own. -/
theorem ints_mk {B t : Nat} {w : World} {v : Value} {l : List Int} (h : w.ownsRow B t 1 v l.length (l.map fun n => Value.int .i64 n)) : OldV (.sl l.length (l.flatMap (cellsV (.int .i64)))) w v := by
  have e : l.flatMap (cellsV (.int .i64)) = l.map fun n => V.int .i64 n := by rw [List.map_eq_flatMap]; rfl
  rw [e]
  unfold OldV
  rcases h.2 with ⟨rfl, hn⟩ | ⟨g, cap, cur, rfl, _, hg, hc, _, _, ht⟩
  · have : l = [] := List.eq_nil_of_length_eq_zero hn
    subst this
    exact .slz
  · have hgl : g < w.heap.size := (Array.getElem?_eq_some_iff.1 hg).1
    refine .sl (vs := l.map fun n => Value.int .i64 n) hc (fun j u hj => ⟨by show (Addr.add _ _).block < _; unfold Addr.add; split <;> exact hgl, ?_⟩) (by simp) fun j d u hd hj => ?_
    · have hj2 : j < l.length := by have := (List.getElem?_eq_some_iff.1 hj).1; simpa using this
      have := World.ownsRow.cellAt h j (by omega)
      rw [hj] at this
      unfold Addr.add
      split
      · rename_i q; rw [q] at this; exact this
      · simpa using this
    · rw [List.getElem?_map] at hj hd
      cases hx : l[j]? with
      | none => rw [hx] at hd; cases hd
      | some x => rw [hx] at hd hj; cases hd; cases hj; exact .int _ _
theorem ints_of {w : World} {u : Value} {l : List Int} (h : OldV (.sl l.length (l.flatMap (cellsV (.int .i64)))) w u) : ∃ p c, u = .slice p l.length c ∧ ∀ j n, l[j]? = some n → ∃ ad, p = some ad ∧ w.cell? (ad.add j) = some (.int .i64 n) := by
  have e : l.flatMap (cellsV (.int .i64)) = l.map fun n => V.int .i64 n := by rw [List.map_eq_flatMap]; rfl
  rw [e] at h
  exact intRow_of h
theorem own_slice {w : World} {B e n k k' : Nat} {v : Value} {xs : List Value} (h : w.ownsRow B e 1 v n xs) (ha : v.ownBlock = some k ∨ v.ownBlock = some k') : ∃ g cap, v = .slice (some ⟨g, 0, none⟩) n cap ∧ (g = k ∨ g = k') ∧ B ≤ g ∧ g < w.heap.size := by
  rcases h.2 with ⟨rfl, _⟩ | ⟨g, cap, cur, rfl, hg, hh, _⟩
  · rcases ha with q | q <;> cases q
  · exact ⟨g, cap, rfl, by simpa [Value.ownBlock] using ha, hg, (Array.getElem?_eq_some_iff.1 hh).1⟩
theorem own_empty (w : World) (t X : Nat) (hX : w.heap.size = X) : (w.alloc (.cells #[] t)).ownsRow X t 1 (.slice (some ⟨X, 0, none⟩) 0 0) 0 [] := by
  subst hX
  exact World.ownsRow_lit w #[] 0 (Nat.le_refl _) (by unfold maxLen; omega) rfl
/-- 'append(own, some...)', whether these lie somewhere or not. -/
theorem wpList_append_any {P : Program} {w : World} {ops : Array Oper} {rest : List Oper} {o : Oper} {a : Act} {Q : Exit → Act → World → Prop} (hgd : o.guard = none) (s x : Operand) (t : TypeId)
    (ho : o.op = .call { callee := .builtin .append, args := #[s, x], argTypes := #[t, t] })
    (base : Nat) (e : TypeId) (i : TypeInfo) (z : Value) (bytes : Nat) (ht : P.underlying t = some (.slice e)) (hi : P.info? e = some i) (hz : i.zero = some z)
    (hsize : i.size = 1) (hby : i.bytes = bytes) (hzs : z.cells.size = 1)
    (v : Value) (n : Nat) (xs : List Value) (hs : a.eval s = v) (hown : w.ownsRow base e 1 v n xs)
    (p : Option Addr) (m c : Nat) (news : List Value) (hx : a.eval x = .slice p m c) (hp : p = none → m = 0 ∧ c = 0) (hl : news.length = m) (hnews : ∀ j u, news[j]? = some u → ∃ ad, p = some ad ∧ w.cell? (ad.add j) = some u) (h1 : ∀ u ∈ news, u.oneCell' = true)
    (h63 : n + m ≤ maxLen) (hbytes : (n + m) * bytes ≤ 140737488355328) (hbase : base ≤ w.heap.size)
    (h : ∀ v' w', w'.ownsRow base e 1 v' (n + m) (xs ++ news) → w.grownBy w' v.ownBlock → (v'.ownBlock = v.ownBlock ∨ v'.ownBlock = some w.heap.size) → wpList P ops Q rest (a.put o.dst v') w') :
    wpList P ops Q (o :: rest) a w := by
  cases p with
  | some ad => exact wpList_append_own_at w hgd s x t ho base e i z 1 bytes ht hi hz hsize hby hzs (by decide) v n xs hs hown ad m c news hx (by omega) (fun j u hj => by obtain ⟨_, e, h⟩ := hnews j u hj; injection e with e; rw [e]; exact h) h1 h63 hbytes hbase fun v' w' q1 q2 _ q3 => h v' w' q1 q2 q3
  | none =>
    obtain ⟨rfl, rfl⟩ := hp rfl
    have : news = [] := List.eq_nil_of_length_eq_zero hl
    subst this
    refine wpList_plain hgd fun K hK => ?_
    have hr := run_append_owned_none (P := P) (w := w) base t o.type e i 1 ht hi v n xs hown
    unfold Oper.wp execOp
    simp only [ho, resolve, invoke, builtin, Sem.run_bind, Sem.run_pure, Result.andThen_ok, List.map_toArray, List.map_cons, List.map_nil, hs, hx, hr]
    exact hK _ _ (h v w (by simpa using hown) ⟨rfl, rfl, rfl, Nat.le_refl _, fun _ _ _ => rfl⟩ (.inl rfl))
/-- The turned hierarchy, and the old one, as they lie there at the end. -/
theorem hm_last {wr E4 : World} {h : Hr'} {tv : Int} {la : List Int} {usD usL : List Value} {vL : Value} {gD g12 kD k12 Y Z t5 t3 t4 x4 : Nat}
    (hb : Below wr.heap.size wr E4) (luD : usD.length = h.2.1.length) (luL : usL.length = h.2.2.length) (hla : h.2.1[0]? = some la) (hl8 : la.length = 8)
    (D1 : ∀ (j : Nat) (u : Value) (x : List Int), usD[j]? = some u → h.2.1[j]? = some x → OldV (.sl x.length (x.flatMap (cellsV (.int .i64)))) wr u)
    (D2 : ∀ (j : Nat) (u : Value) (x : List tCl.I), usL[j]? = some u → h.2.2[j]? = some x → OldV (.sl x.length (x.flatMap (cellsV tCl))) wr u)
    (d : E4.ownsRow Y t5 1 (.slice (some ⟨gD, 0, none⟩) h.2.1.length kD) h.2.1.length (usD.set 0 (.slice (some ⟨g12, 0, none⟩) 8 k12)))
    (v : E4.ownsRow Z t3 1 (.slice (some ⟨g12, 0, none⟩) 8 k12) 8 ((la.map fun n => Value.int .i64 n).set 1 (.int .i64 tv)))
    (l : E4.ownsRow x4 t4 1 vL h.2.2.length usL) :
    HrAt E4 (.agg #[.int .i64 h.1, .slice (some ⟨gD, 0, none⟩) h.2.1.length kD, vL]) (h.1, h.2.1.modify 0 (·.set 1 tv), h.2.2) := by
  refine ⟨_, _, rfl, row_mk (us := usD.set 0 (.slice (some ⟨g12, 0, none⟩) 8 k12)) (by rw [List.length_modify]; exact d) fun j u x hu hx => ?_, row_mk l fun j u x hu hx => (D2 j u x hu hx).up hb⟩
  cases j with
  | zero =>
    have hx : (h.2.1.modify 0 (·.set 1 tv))[0]? = some x := hx
    rw [List.getElem?_modify_eq, hla] at hx
    rw [List.getElem?_set_self (by
      have := (List.getElem?_eq_some_iff.1 hla).1
      omega)] at hu
    cases hu; cases hx
    have e : (la.set 1 tv).length = 8 := by rw [List.length_set]; exact hl8
    have v2 : E4.ownsRow Z t3 1 (.slice (some ⟨g12, 0, none⟩) 8 k12) (la.set 1 tv).length ((la.set 1 tv).map fun n => Value.int .i64 n) := by rw [e, List.map_set]; exact v
    exact ints_mk v2
  | succ j =>
    rw [List.getElem?_set_ne (by omega)] at hu
    have hx : (h.2.1.modify 0 (·.set 1 tv))[j + 1]? = some x := hx
    rw [List.getElem?_modify] at hx
    have hx : h.2.1[j + 1]? = some x := by simpa using hx
    exact (D1 _ u x hu hx).up hb
open Go.RowKit
set_option linter.unusedVariables false
theorem made_walk (p : Option Addr) (n c : Nat) (w : World) : Calls Go.Proofs.Try.prog 7 #[.slice p n c] w fun e w' => e = .returned (.pointer (some ⟨w.heap.size, 0, none⟩)) ∧ w' = w.alloc (.cells #[.slice p n c, .int .i64 0] 48) := by
  go_enter Go.Proofs.Try.func7, Go.Proofs.Try.ntmps7
  go_wp2
  go_ret
  exact ⟨rfl, rfl⟩
/-- What the statement asks of its parts. -/
def mod1 (D : LL) (v : Int) : LL := D.modify 0 (·.set 1 v)
def hmP (new : LL × Int → Option (Bool × Hr')) (join : Hr' × Int → Option Hr') (may mayR : Hr' → Option Bool) (md : LL → Option Bool) (k v : Int) : Prop :=
  ∀ D, SqD D → ∃ I : Hr' → Prop, (∃ r, new (D, k) = some r ∧ I r.2) ∧ (∀ h i, I h → 1 ≤ i → i ≤ 8 → ∃ r, join (h, i) = some r ∧ I r) ∧
    ∀ h, I h → h.1 = k ∧ SqD h.2.1 ∧ h.2.2.length ≤ 1000 ∧ may h = some true ∧ md h.2.1 = some true ∧ ∃ b, may (h.1, mod1 h.2.1 v, h.2.2) = some b ∧ mayR (h.1, mod1 h.2.1 v, h.2.2) = some b
set_option maxHeartbeats 6400000 in
set_option maxRecDepth 100000 in
theorem hm_walk {new : LL × Int → Option (Bool × Hr')} {join : Hr' × Int → Option Hr'} {may mayR : Hr' → Option Bool} {md : LL → Option Bool} (hbeg : bTrueH Go.Proofs.Try.prog 16) (hNew : bNewH Go.Proofs.Try.prog 17 new) (hJoin : bJoinH Go.Proofs.Try.prog 18 join) (hMay : bMayH Go.Proofs.Try.prog 19 may) (hMR : bMayH Go.Proofs.Try.prog 20 mayR) (hMD : bMay Go.Proofs.Try.prog 10 md)
    (l : List Int) (who least which tv : Int) (hw : 0 ≤ who ∧ who ≤ 255) (hl : 0 ≤ least ∧ least ≤ 255) (hx : 0 ≤ which ∧ which ≤ 255 ∧ which % 7 = 6) (hP : hmP new join may mayR md (1 + least % 3) tv) (pl : Value) (w : World) (hp : NumsAt w.heap.size w pl l) :
    Calls Go.Proofs.Try.prog 5 #[pl, .int .u8 who, .int .u8 least, .int .u8 which, .int .i64 tv] w fun e w' => e = .returned (.bool true) ∧ Below w.heap.size w w' := by
  obtain ⟨p0, c0, rfl, hp0⟩ := hp
  have hpx : Hid (NumsAt w.heap.size w (.slice p0 l.length c0) l) := ⟨p0, c0, rfl, hp0⟩
  clear hp0
  have hPx : Hid _ := hP
  clear hP
  by_cases z1 : 30 < l.length
  · have z1 : (30 : Int) < (l.length : Int) := by omega
    go_enter Go.Proofs.Try.func5, Go.Proofs.Try.ntmps5
    go_wp2_with (go_at_call 16; refine (hbeg w).mono ?_; rintro e w1 ⟨rfl, hb1⟩)
    go_ret
    exact ⟨rfl, hb1⟩
  have z1 : ¬ (30 : Int) < (l.length : Int) := by omega
  obtain ⟨i43, hi43, hz43, hs43, hb43⟩ := info_parts (P := Go.Proofs.Try.prog) (e := 43) (z := .slice none 0 0) (size := 1) (bytes := 24) (by kernel_rfl)
  obtain ⟨i25, hi25, hz25, hs25, hb25⟩ := info_parts (P := Go.Proofs.Try.prog) (e := 25) (z := .slice none 0 0) (size := 1) (bytes := 24) (by kernel_rfl)
  obtain ⟨i3', hi3, hz3, hs3, hb3⟩ := info_parts (P := Go.Proofs.Try.prog) (e := 3) (z := .int .i64 0) (size := 1) (bytes := 8) (by kernel_rfl)
  go_enter Go.Proofs.Try.func5, Go.Proofs.Try.ntmps5
  go_wp2_with (first
    | (go_at_call 16; refine (hbeg w).mono ?_; rintro e wr ⟨rfl, hb1⟩
       have hz : w.heap.size ≤ wr.heap.size := hb1.size
       have hbx : Hid (Below w.heap.size w wr) := hb1
       clear hb1)
    | (go_at_call 7; refine (made_walk p0 l.length c0 wr).mono ?_; rintro e W2 ⟨rfl, hW2⟩
       have x1 : Hid (W2.heap[wr.heap.size]? = some (.cells #[.slice p0 l.length c0, .int .i64 0] 48 (0, 0))) := by rw [hW2]; exact heap_alloc_new wr _
       have g1 : Hid (wr.grownBy W2 none ∧ wr.heap.size < W2.heap.size ∧ NumsAt w.heap.size W2 (.slice p0 l.length c0) l) := by
         subst hW2
         exact ⟨World.grownBy_alloc _ _ _, by simp, nums_kept hpx.out (grownTrans (belowB hbx.out) (allocB (b := wr.heap.size) _)) hz⟩
       have y1 : Hid (∀ W', W2.grownBy W' (some wr.heap.size) → Below w.heap.size w W') := fun W' h => by
         subst hW2
         exact Below.grown (Below.alloc hbx.out hz _) h (by simp; omega) (fun j hj => by cases hj; exact hz)
       clear hW2)
    | (go_at_call 8; refine (dist_walk w.heap.size wr.heap.size (.slice p0 l.length c0) l W2 x1.out g1.out.2.2 hz (by omega)).mono ?_; rintro e W3 ⟨ud, usd, D, rfl, m1, s1, h3⟩
       have b3 : Hid (Below w.heap.size w W3) := y1.out _ h3
       have m1x : Hid (OldV (rowsV D) W3 ud ∧ SqD D) := ⟨m1.rp fun p _ h2 => h2, s1⟩
       obtain ⟨I, ⟨r, hn, hI⟩, hj, hall⟩ := hPx.out D s1
       have i1 : Hid (new (D, 1 + least % 3) = some r ∧ I r.2) := ⟨hn, hI⟩
       have i2 : Hid (∀ h i, I h → 1 ≤ i → i ≤ 8 → ∃ r, join (h, i) = some r ∧ I r) := hj
       have i3 : Hid _ := hall
       clear m1 s1 h3 x1 g1 y1 hn hI hj hall hPx)
    | (go_at_call 17; refine (hNew _ _ _ i1.out.1 W3 ud m1x.out.1).mono ?_; rintro e W4 ⟨⟨hv, rfl, hH⟩, b4⟩
       obtain ⟨vd, vl, rfl, hH1, hH2⟩ := hH
       obtain ⟨pd, nd, cd, rfl⟩ := hH1.sl
       obtain ⟨ps, ns, cs, rfl⟩ := hH2.sl
       have j4 : Hid (OldV (rowsV r.2.2.1) W4 (.slice pd nd cd) ∧ OldV (lvsV r.2.2.2) W4 (.slice ps ns cs) ∧ I r.2 ∧ Below w.heap.size w W4) := ⟨hH1, hH2, i1.out.2, b3.out.trans (b4.mono b3.out.size)⟩
       clear hH1 hH2 b3 b4 m1x i1))
  obtain ⟨B, hB⟩ : ∃ B, W4.heap.size = B := ⟨_, rfl⟩
  rw [hB]
  go_loopw [13] (fun u13 wq => ∃ (i : Nat) (h : Hr') (pd : Option Addr) (nd cd : Nat) (ps : Option Addr) (ns cs : Nat), u13 = .int .i64 (i : Int) ∧ i ≤ 8 ∧ wq.heap[B]? = some (.cells #[.int .i64 h.1, .slice pd nd cd, .slice ps ns cs] 38 (0, 0)) ∧ OldX B (rowsV h.2.1) wq (.slice pd nd cd) ∧ OldX B (lvsV h.2.2) wq (.slice ps ns cs) ∧ I h ∧ Below w.heap.size w wq ∧ w.heap.size ≤ B)
    (fun u13 wq => 8 - (intOf u13).toNat)
  case atStart =>
    subst hB
    exact ⟨0, r.2, _, _, _, _, _, _, rfl, by omega, heap_alloc_new W4 _, (j4.out.1.x (Nat.le_refl _)).up (by simp) (fun k hk _ => Below.heap_alloc _ _ _ hk), (j4.out.2.1.x (Nat.le_refl _)).up (by simp) (fun k hk _ => Below.heap_alloc _ _ _ hk), j4.out.2.2.1, Below.alloc j4.out.2.2.2 j4.out.2.2.2.size _, j4.out.2.2.2.size⟩
  case round =>
    obtain ⟨i, h, qd, md', ed, qs, ms, es, rfl, hi, hbk, hd, hs, hI, hbw, hBz⟩ := hrel
    have X1 : Hid (OldX B (rowsV h.2.1) wr (.slice qd md' ed) ∧ OldX B (lvsV h.2.2) wr (.slice qs ms es) ∧ I h ∧ Below w.heap.size w wr ∧ w.heap.size ≤ B) := ⟨hd, hs, hI, hbw, hBz⟩
    clear hd hs hI hbw hBz j4
    by_cases hi8 : i < 8
    · have hi9 : (i : Int) < 8 := by omega
      have f0 : wr.cell? ⟨B, 0, none⟩ = some (.int .i64 h.1) := by simp [World.cell?, hbk]
      have f1 : wr.cell? ⟨B, 1, none⟩ = some (.slice qd md' ed) := by simp [World.cell?, hbk]
      have f2 : wr.cell? ⟨B, 2, none⟩ = some (.slice qs ms es) := by simp [World.cell?, hbk]
      obtain ⟨r', hj, hI'⟩ := i2.out h ((i : Int) + 1) X1.out.2.2.1 (by omega) (by omega)
      have hHr : Hid (HrX B wr (.agg #[.int .i64 h.1, .slice qd md' ed, .slice qs ms es]) h) := ⟨_, _, rfl, X1.out.1, X1.out.2.1⟩
      have hbq : Hid (wr.heap[B]? = some (.cells #[.int .i64 h.1, .slice qd md' ed, .slice qs ms es] 38 (0, 0))) := hbk
      have hBw : B < wr.heap.size := (Array.getElem?_eq_some_iff.1 hbk).1
      clear hbk
      go_wp2_with (go_at_call 18; refine (hJoin _ _ _ hj B wr _ hBw hHr.out).mono ?_; rintro e W5 ⟨⟨rv, rfl, hH⟩, b5⟩
                   obtain ⟨vd, vl, rfl, hH1, hH2⟩ := hH
                   obtain ⟨pd', nd', cd', rfl⟩ := hH1.v.sl
                   obtain ⟨ps', ns', cs', rfl⟩ := hH2.v.sl
                   have hb5 : W5.heap[B]? = some (.cells #[.int .i64 h.1, .slice qd md' ed, .slice qs ms es] 38 (0, 0)) := (b5.block B hBw).trans hbq.out
                   have e0 : W5.cell? ⟨B, 0, none⟩ = some (.int .i64 h.1) := by simp [World.cell?, hb5]
                   have e1 : W5.cell? ⟨B, 1, none⟩ = some (.slice qd md' ed) := by simp [World.cell?, hb5]
                   have e2 : W5.cell? ⟨B, 2, none⟩ = some (.slice qs ms es) := by simp [World.cell?, hb5]
                   have d0 : W5.frozen? ⟨B, 0, none⟩ = false := by simp [World.frozen?, hb5]
                   have d1 : W5.frozen? ⟨B, 1, none⟩ = false := by simp [World.frozen?, hb5]
                   have d2 : W5.frozen? ⟨B, 2, none⟩ = false := by simp [World.frozen?, hb5]
                   have hb6 : Hid _ := hb5
                   have hj6 : Hid (OldX B (rowsV r'.2.1) W5 (.slice pd' nd' cd') ∧ OldX B (lvsV r'.2.2) W5 (.slice ps' ns' cs') ∧ Below w.heap.size w W5) := ⟨hH1, hH2, X1.out.2.2.2.1.trans (b5.mono X1.out.2.2.2.1.size)⟩
                   clear hH1 hH2 b5 hb5)
      · have g5 : W5.grownBy (((W5.setCell ⟨B, 0, none⟩ (.int .i64 r'.1)).setCell ⟨B, 1, none⟩ (.slice pd' nd' cd')).setCell ⟨B, 2, none⟩ (.slice ps' ns' cs')) (some B) := (((grownSet B 0 _).trans (grownSet B 1 _)).trans (grownSet B 2 _))
        refine ⟨⟨i + 1, r', pd', nd', cd', ps', ns', cs', by simp, by omega, ?_, hj6.out.1.up g5.size (fun k hk hkB => g5.block k hk (fun e => hkB (Option.some.inj e))), hj6.out.2.1.up g5.size (fun k hk hkB => g5.block k hk (fun e => hkB (Option.some.inj e))), hI', Below.grown hj6.out.2.2 g5 hj6.out.2.2.size (fun j hj => by cases hj; exact X1.out.2.2.2.2), X1.out.2.2.2.2⟩, ?_⟩
        · exact heap_setCell_same _ B 2 _ 38 _ (heap_setCell_same _ B 1 _ 38 _ (heap_setCell_same _ B 0 _ 38 _ hb6.out))
        · simp [intOf]; omega
      · refine ⟨⟨i + 1, h, _, _, _, _, _, _, by simp, by omega, hbq.out, X1.out⟩, ?_⟩
        simp [intOf]; omega
    · obtain ⟨i3a, i3b, i3c, i3d, i3e, b', hmb, hmRb⟩ := i3.out h X1.out.2.2.1
      have i3x : Hid (h.1 = 1 + least % 3 ∧ SqD h.2.1 ∧ h.2.2.length ≤ 1000 ∧ md h.2.1 = some true) := ⟨i3a, i3b, i3c, i3e⟩
      clear i3a i3b i3c i3e i3
      obtain ⟨e1, e2, usD, eD, luD, nD, cD, dD⟩ := row_of X1.out.1.v
      cases eD
      obtain ⟨e1', e2', usL, eL, luL, nL, cL, dL⟩ := row_of X1.out.2.1.v
      cases eL
      obtain ⟨aD, rfl⟩ : ∃ aD, qd = some aD := by
        cases qd with
        | some a => exact ⟨a, rfl⟩
        | none => have := (nD rfl).1; have := i3x.out.2.1.len; omega
      have f0 : wr.cell? ⟨B, 0, none⟩ = some (.int .i64 h.1) := by simp [World.cell?, hbk]
      have f1 : wr.cell? ⟨B, 1, none⟩ = some (.slice (some aD) h.2.1.length ed) := by simp [World.cell?, hbk]
      have f2 : wr.cell? ⟨B, 2, none⟩ = some (.slice qs h.2.2.length es) := by simp [World.cell?, hbk]
      have hHr : Hid (HrX B wr (.agg #[.int .i64 h.1, .slice (some aD) h.2.1.length ed, .slice qs h.2.2.length es]) h) := ⟨_, _, rfl, X1.out.1, X1.out.2.1⟩
      have hBw : B < wr.heap.size := (Array.getElem?_eq_some_iff.1 hbk).1
      have hbq : Hid (wr.heap[B]? = some (.cells #[.int .i64 h.1, .slice (some aD) h.2.1.length ed, .slice qs h.2.2.length es] 38 (0, 0))) := hbk
      have hT : which.tmod 7 = 6 := by rw [Int.tmod_eq_emod_of_nonneg hx.1]; exact hx.2.2
      have hi9 : ¬ (i : Int) < 8 := by omega
      have hHv : Hid (HrAt wr (.agg #[.int .i64 h.1, .slice (some aD) h.2.1.length ed, .slice qs h.2.2.length es]) h) := hHr.out.v
      have D1 : Hid _ := dD
      have D2 : Hid _ := dL
      have C1 : Hid _ := cD
      have C2 : Hid _ := cL
      clear hbk hx i2 dD dL cD cL
      go_wp2_with (first
        | (go_at_call 19; refine (hMay _ _ i3d wr _ hHv.out).mono ?_; rintro e W6 ⟨rfl, b6⟩
           have hb6 : W6.heap[B]? = some (.cells #[.int .i64 h.1, .slice (some aD) h.2.1.length ed, .slice qs h.2.2.length es] 38 (0, 0)) := (b6.block B hBw).trans hbq.out
           obtain ⟨X, hX⟩ : ∃ X, W6.heap.size = X := ⟨_, rfl⟩
           have hBX : B < X := by have := b6.size; omega
           have g0 : W6.cell? ⟨B, 0, none⟩ = some (.int .i64 h.1) := by simp [World.cell?, hb6]
           have g1 : W6.cell? ⟨B, 1, none⟩ = some (.slice (some aD) h.2.1.length ed) := by simp [World.cell?, hb6]
           have g2 : W6.cell? ⟨B, 2, none⟩ = some (.slice qs h.2.2.length es) := by simp [World.cell?, hb6]
           have g2a : ∀ o1 o2, ((W6.alloc o1).alloc o2).cell? ⟨B, 2, none⟩ = some (.slice qs h.2.2.length es) := fun o1 o2 => cellOld _ (cellOld _ g2)
           have oY : ∀ o1, ((W6.alloc o1).alloc (.cells #[] 43)).ownsRow (X + 1) 43 1 (.slice (some ⟨X + 1, 0, none⟩) 0 0) 0 [] := fun o1 => own_empty _ 43 (X + 1) (by simp [hX])
           have hb7 : Hid _ := hb6
           have b7 : Hid (Below wr.heap.size wr W6) := b6
           clear hb6 b6 f0 f1 f2)
        | (at_builtin; refine wpList_append_any rfl _ _ 36 rfl (X + 1) 43 i43 (.slice none 0 0) 24 Go.Proofs.Try.underlying36 hi43 hz43 hs43 hb43 rfl _ _ _ rfl (oY _) qs h.2.2.length es usL rfl nL luL (fun j u hj => by
               obtain ⟨ad, q1, q2⟩ := C2.out j u hj
               exact ⟨ad, q1, cellOld _ (cellOld _ (cellBelow b7.out (Nat.le_refl _) q2))⟩) (ones_of luL D2.out) (by have := i3x.out.2.2.1; unfold maxLen; omega) (by have := i3x.out.2.2.1; omega) (by simp; omega) ?_
           intro v8 W8 hv8 hg8 ha8
           rw [Nat.zero_add, List.nil_append] at hv8
           have hg8 : World.grownBy ((W6.alloc (.cells #[.int .i64 h.1, .slice (some aD) h.2.1.length ed, .slice qs h.2.2.length es] 38)).alloc (.cells #[] 43)) W8 (some (X + 1)) := hg8
           obtain ⟨gL, kL, rfl, hgL, hgX, hgW⟩ := own_slice (k := X + 1) hv8 ha8
           have b8 : Hid (Below X W6 W8) := Below.grown (Below.alloc (Below.alloc (Below.refl X W6) (by omega) _) (by simp; omega) _) hg8 (by simp; omega) (fun j hj => by cases hj; omega)
           have x8 : W8.heap[X]? = some (.cells #[.int .i64 h.1, .slice (some aD) h.2.1.length ed, .slice qs h.2.2.length es] 38 (0, 0)) := by
             refine (hg8.block X (by simp; omega) (fun e => by have := Option.some.inj e; omega)).trans ((Below.heap_alloc _ _ _ (by simp; omega)).trans ?_)
             rw [← hX]; exact heap_alloc_new W6 _
           have y8 : W8.heap[B]? = some (.cells #[.int .i64 h.1, .slice (some aD) h.2.1.length ed, .slice qs h.2.2.length es] 38 (0, 0)) := (b8.out.block B hBX).trans hb7.out
           have hXB : X ≠ B := by omega
           have q1 : W8.cell? ⟨X, 2, none⟩ = some (.slice qs h.2.2.length es) := by simp [World.cell?, x8]
           have q2 : W8.frozen? ⟨X, 2, none⟩ = false := by simp [World.frozen?, x8]
           have x9 : Hid ((W8.setCell ⟨X, 2, none⟩ (.slice (some ⟨gL, 0, none⟩) h.2.2.length kL)).heap[X]? = some (.cells #[.int .i64 h.1, .slice (some aD) h.2.1.length ed, .slice (some ⟨gL, 0, none⟩) h.2.2.length kL] 38 (0, 0))) := heap_setCell_same W8 X 2 _ 38 _ x8
           have y9 : (W8.setCell ⟨X, 2, none⟩ (.slice (some ⟨gL, 0, none⟩) h.2.2.length kL)).heap[B]? = some (.cells #[.int .i64 h.1, .slice (some aD) h.2.1.length ed, .slice qs h.2.2.length es] 38 (0, 0)) := (heap_setCell_other W8 ⟨X, 2, none⟩ B _ (fun e => hXB e.symm)).trans y8
           have q3 : (W8.setCell ⟨X, 2, none⟩ (.slice (some ⟨gL, 0, none⟩) h.2.2.length kL)).cell? ⟨X, 2, none⟩ = some (.slice (some ⟨gL, 0, none⟩) h.2.2.length kL) := by simp [World.cell?, x9.out]
           have q4 : ∀ o, ((W8.setCell ⟨X, 2, none⟩ (.slice (some ⟨gL, 0, none⟩) h.2.2.length kL)).alloc o).cell? ⟨B, 1, none⟩ = some (.slice (some aD) h.2.1.length ed) := fun o => cellOld o (by simp [World.cell?, y9])
           have y9x : Hid _ := y9
           obtain ⟨Y, hY⟩ : ∃ Y, W8.heap.size = Y := ⟨_, rfl⟩
           have b9 : Hid (Below X W6 (W8.setCell ⟨X, 2, none⟩ (.slice (some ⟨gL, 0, none⟩) h.2.2.length kL))) := b8.out.setCell (Nat.le_refl X) _
           have hYY : (W8.setCell ⟨X, 2, none⟩ (.slice (some ⟨gL, 0, none⟩) h.2.2.length kL)).heap.size = Y := by simpa using hY
           have hXY : X < Y := by omega
           have hgY : Hid (X + 1 ≤ gL ∧ gL < Y) := ⟨hgX, by omega⟩
           have o8 : Hid (W8.ownsRow (X + 1) 43 1 (.slice (some ⟨gL, 0, none⟩) h.2.2.length kL) h.2.2.length usL) := hv8
           clear hv8 hg8 ha8 x8 y8 y9 hgL hgX hgW oY g2a)
        | (at_builtin; refine wpList_append_any rfl _ _ 23 rfl Y 25 i25 (.slice none 0 0) 24 Go.Proofs.Try.underlying23 hi25 hz25 hs25 hb25 rfl _ _ _ rfl (own_empty _ 25 Y hYY) (some aD) h.2.1.length ed usD rfl nD luD (fun j u hj => by
               obtain ⟨ad, q1, q2⟩ := C1.out j u hj
               exact ⟨ad, q1, cellOld _ (cellBelow b9.out (Nat.le_of_eq hX) (cellBelow b7.out (Nat.le_refl _) q2))⟩) (ones_of luD D1.out) (by have := i3x.out.2.1.len; unfold maxLen; omega) (by have := i3x.out.2.1.len; omega) (by simp; omega) ?_
           intro v10 W10 hv10 hg10 ha10
           rw [Nat.zero_add, List.nil_append] at hv10
           have hg10 : World.grownBy ((W8.setCell ⟨X, 2, none⟩ (.slice (some ⟨gL, 0, none⟩) h.2.2.length kL)).alloc (.cells #[] 25)) W10 (some Y) := hg10
           obtain ⟨gD, kD, rfl, hgD, hgY2, hgW2⟩ := own_slice (k := Y) hv10 ha10
           have b10 : Hid (Below X W6 W10) := Below.grown (Below.alloc b9.out (by omega) _) hg10 (by simp; omega) (fun j hj => by cases hj; omega)
           have z10 : ∀ k, k < Y → W10.heap[k]? = (W8.setCell ⟨X, 2, none⟩ (.slice (some ⟨gL, 0, none⟩) h.2.2.length kL)).heap[k]? := fun k hk => (hg10.block k (by simp; omega) (fun e => by have := Option.some.inj e; omega)).trans (Below.heap_alloc _ _ _ (by omega))
           have x10 := (z10 X hXY).trans x9.out
           have y10 := (z10 B (by omega)).trans y9x.out
           have l10 : W10.ownsRow (X + 1) 43 1 (.slice (some ⟨gL, 0, none⟩) h.2.2.length kL) h.2.2.length usL := by
             have o9 := o8.out.kept (grownSet X 2 (.slice (some ⟨gL, 0, none⟩) h.2.2.length kL)) (.inr fun e => by have : gL = X := Option.some.inj e; have := hgY.out.1; omega)
             exact (o9.alloc _).kept hg10 (.inr fun e => by have : gL = Y := Option.some.inj e; have := hgY.out.2; omega)
           have q5 : W10.cell? ⟨X, 1, none⟩ = some (.slice (some aD) h.2.1.length ed) := by simp [World.cell?, x10]
           have q6 : W10.frozen? ⟨X, 1, none⟩ = false := by simp [World.frozen?, x10]
           have x11 := heap_setCell_same W10 X 1 _ 38 (.slice (some ⟨gD, 0, none⟩) h.2.1.length kD) x10
           have y11 := (heap_setCell_other W10 ⟨X, 1, none⟩ B (.slice (some ⟨gD, 0, none⟩) h.2.1.length kD) (fun e => hXB e.symm)).trans y10
           have d11 := hv10.kept (grownSet X 1 (.slice (some ⟨gD, 0, none⟩) h.2.1.length kD)) (.inr fun e => by have : gD = X := Option.some.inj e; omega)
           have l11 := l10.kept (grownSet X 1 (.slice (some ⟨gD, 0, none⟩) h.2.1.length kD)) (.inr fun e => by have : gL = X := Option.some.inj e; have := hgY.out.1; omega)
           have b11 : Below X W6 (W10.setCell ⟨X, 1, none⟩ (.slice (some ⟨gD, 0, none⟩) h.2.1.length kD)) := b10.out.setCell (Nat.le_refl X) _
           obtain ⟨E, hE⟩ : ∃ E, W10.setCell ⟨X, 1, none⟩ (.slice (some ⟨gD, 0, none⟩) h.2.1.length kD) = E := ⟨_, rfl⟩
           have hEs : E.heap.size = W10.heap.size := by rw [← hE]; simp
           have hgE : gD < E.heap.size ∧ Y ≤ gD := ⟨by omega, hgY2⟩
           rw [hE] at x11 y11 d11 l11 b11
           have F11 : Hid _ := And.intro x11 (And.intro y11 (And.intro d11 (And.intro l11 b11)))
           clear hv10 hg10 ha10 z10 x10 y10 l10 x11 y11 d11 l11 b11 q1 q2 q3 q4 x9 y9x b9 b10 o8 hgW2 hgD))
      obtain ⟨x11, y11, d11, l11, b11⟩ := F11.out
      obtain ⟨la, hla, hl8⟩ := sq_get i3x.out.2.1 (show 0 < 8 by omega)
      obtain ⟨u0, hu0⟩ : ∃ u, usD[0]? = some u := ⟨_, List.getElem?_eq_getElem (by have := i3x.out.2.1.len; omega)⟩
      obtain ⟨p2, c2, rfl, hn⟩ := ints_of (D1.out 0 u0 la hu0 hla)
      obtain ⟨a2, rfl⟩ : ∃ a, p2 = some a := by
        obtain ⟨a, e, _⟩ := hn 0 _ (List.getElem?_eq_getElem (by omega))
        exact ⟨a, e⟩
      have hbE : Hid (Below wr.heap.size wr E) := b7.out.trans (b11.mono (by have := b7.out.size; omega))
      obtain ⟨ad', e', hrow⟩ := C1.out 0 _ hu0
      cases e'
      have hrow2 : E.cell? (aD.add 0) = some (.slice (some a2) la.length c2) := cellBelow hbE.out (Nat.le_refl _) hrow
      have hnum : Hid (∀ j u, (la.map fun n => Value.int .i64 n)[j]? = some u → E.cell? (a2.add j) = some u) := fun j u hu => by
        rw [List.getElem?_map] at hu
        cases hx : la[j]? with
        | none => rw [hx] at hu; cases hu
        | some x => rw [hx] at hu; cases hu; obtain ⟨_, e, h⟩ := hn j x hx; cases e; exact cellBelow hbE.out (Nat.le_refl _) h
      have hLD : 0 < h.2.1.length := by have := i3x.out.2.1.len; omega
      have hadd : aD.add 0 = aD := by unfold Addr.add; rfl
      rw [hadd] at hrow2
      obtain ⟨Z, hZ⟩ : ∃ Z, E.heap.size = Z := ⟨_, rfl⟩
      have r1 : E.drew.cell? ⟨X, 1, none⟩ = some (.slice (some ⟨gD, 0, none⟩) h.2.1.length kD) := by show E.cell? _ = _; simp [World.cell?, x11]
      have r2 : E.drew.cell? ⟨B, 1, none⟩ = some (.slice (some aD) h.2.1.length ed) := by show E.cell? _ = _; simp [World.cell?, y11]
      have r3 : E.drew.cell? aD = some (.slice (some a2) la.length c2) := hrow2
      have r1a : ∀ o, (E.alloc o).drew.cell? ⟨X, 1, none⟩ = some (.slice (some ⟨gD, 0, none⟩) h.2.1.length kD) := fun o => cellOld (W := E) o r1
      have r2a : ∀ o, (E.alloc o).drew.cell? ⟨B, 1, none⟩ = some (.slice (some aD) h.2.1.length ed) := fun o => cellOld (W := E) o r2
      have r3a : ∀ o, (E.alloc o).drew.cell? aD = some (.slice (some a2) la.length c2) := fun o => cellOld (W := E) o r3
      have hZd : E.drew.heap.size = Z := hZ
      have hla' : h.2.1[0]? = some la := hla
      have hlaH : Hid (h.2.1[0]? = some la) := hla
      clear hn hrow hrow2 x11 y11 d11 l11 b11 hla hla'
      go_cut [] from 66 to 74 (fun wq => ∃ g12 k12, Z ≤ g12 ∧ wq.heap[X]? = some (.cells #[.int .i64 h.1, .slice (some ⟨gD, 0, none⟩) h.2.1.length kD, .slice (some ⟨gL, 0, none⟩) h.2.2.length kL] 38 (0, 0)) ∧ wq.heap[B]? = some (.cells #[.int .i64 h.1, .slice (some aD) h.2.1.length ed, .slice qs h.2.2.length es] 38 (0, 0)) ∧
        wq.ownsRow Y 25 1 (.slice (some ⟨gD, 0, none⟩) h.2.1.length kD) h.2.1.length (usD.set 0 (.slice (some ⟨g12, 0, none⟩) 8 k12)) ∧ wq.ownsRow (X + 1) 43 1 (.slice (some ⟨gL, 0, none⟩) h.2.2.length kL) h.2.2.length usL ∧ wq.ownsRow Z 3 1 (.slice (some ⟨g12, 0, none⟩) 8 k12) 8 (la.map fun n => Value.int .i64 n) ∧ Below X W6 wq)
      case first =>
        go_region_law (
          refine step_append_lies _ rfl (.tmp 68) (.tmp 72) 25 rfl Z 3 i3' (.int .i64 0) 1 8 Go.Proofs.Try.underlying25 hi3 hz3 hs3 hb3 rfl (by decide) _ 0 [] (by simp [Act.eval, Act.put]) (own_empty E 3 Z hZ) a2 8 c2 (la.map fun n => Value.int .i64 n) (by simp [Act.eval, Act.put]) (by simp [hl8]) (fun j u hj => cellOld (W := E) _ (hnum.out j u hj)) (fun u hu => by obtain ⟨n, _, rfl⟩ := List.mem_map.1 hu; rfl) (by omega) (by unfold maxLen; omega) (by omega) (by simp; omega) (Z + 1) (by simp; omega) ?_
          intro g12 k12 W12 hv12 hg12 ha12 hlt12
          rw [Nat.zero_add, List.nil_append] at hv12
          have hg12 : World.grownBy (E.alloc (.cells #[] 3)).drew W12 (some Z) := hg12
          have hZg : Z ≤ g12 := by
            rcases ha12 with e | e
            · exact Nat.le_of_eq (Option.some.inj e)
            · omega
          obtain ⟨x11, y11, d11, l11, b11⟩ := F11.out
          have z12 : ∀ k, k < Z → W12.heap[k]? = E.heap[k]? := fun k hk => (hg12.block k (by show k < (World.alloc _ _).heap.size; simp; omega) (fun e => by have : k = Z := Option.some.inj e; omega)).trans (Below.heap_alloc _ _ _ (by omega))
          have b12 : Below X W6 W12 := Below.grown ((b11.alloc (by omega) _).drew) hg12 (by show _ ≤ (World.alloc _ _).heap.size; simp; omega) (fun j hj => by have : j = Z := (Option.some.inj hj).symm; omega)
          have gE : World.grownBy E (E.alloc (.cells #[] 3)).drew none := ⟨rfl, rfl, rfl, by show _ ≤ (World.alloc _ _).heap.size; simp, fun k hk _ => Below.heap_alloc _ _ _ hk⟩
          have d12 := (d11.kept gE (.inr fun e => by cases e)).kept hg12 (.inr fun e => by have : gD = Z := Option.some.inj e; omega)
          have l12 := (l11.kept gE (.inr fun e => by cases e)).kept hg12 (.inr fun e => by have : gL = Z := Option.some.inj e; have := hgY.out.2; omega)
          have x12 := (z12 X (by omega)).trans x11
          have y12 := (z12 B (by omega)).trans y11
          have s1 : W12.cell? ⟨X, 1, none⟩ = some (.slice (some ⟨gD, 0, none⟩) h.2.1.length kD) := by simp [World.cell?, x12]
          have s2 : W12.cell? ⟨gD, 0, none⟩ = some (.slice (some a2) la.length c2) := (d12.cellAt 0 (by omega)).trans hu0
          have s3 : W12.frozen? ⟨gD, 0, none⟩ = false := d12.frozenAt 0
          have n1 : gD ≠ X := by omega
          have n2 : gD ≠ B := by omega
          have n3 : g12 ≠ gD := by omega
          have n4 : g12 ≠ X := by omega
          have n5 : g12 ≠ B := by omega
          have n6 : gL ≠ g12 := by have := hgY.out.2; omega
          have n7 : gL ≠ gD := by have := hgY.out.2; omega
          have d13 := (d12.stored 0 (.slice (some ⟨g12, 0, none⟩) 8 k12)).1
          have v13 := hv12.kept (grownSet gD 0 (.slice (some ⟨g12, 0, none⟩) 8 k12)) (.inr fun e => n3 (Option.some.inj e))
          have l13 := l12.kept (grownSet gD 0 (.slice (some ⟨g12, 0, none⟩) 8 k12)) (.inr fun e => n7 (Option.some.inj e))
          have x13 := (heap_setCell_other W12 ⟨gD, 0, none⟩ X (.slice (some ⟨g12, 0, none⟩) 8 k12) n1.symm).trans x12
          have y13 := (heap_setCell_other W12 ⟨gD, 0, none⟩ B (.slice (some ⟨g12, 0, none⟩) 8 k12) n2.symm).trans y12
          have b13 : Below X W6 (W12.setCell ⟨gD, 0, none⟩ (.slice (some ⟨g12, 0, none⟩) 8 k12)) := b12.setCell (by show X ≤ gD; omega) _
          obtain ⟨E3, hE3⟩ : ∃ E3, W12.setCell ⟨gD, 0, none⟩ (.slice (some ⟨g12, 0, none⟩) 8 k12) = E3 := ⟨_, rfl⟩
          rw [hE3] at d13 v13 l13 x13 y13 b13
          have F13 : Hid _ := And.intro hZg (And.intro x13 (And.intro y13 (And.intro d13 (And.intro l13 (And.intro v13 b13)))))
          clear hv12 hg12 ha12 hlt12 x11 y11 d11 l11 b11 z12 b12 gE d12 l12 x12 y12 d13 v13 l13 x13 y13 b13)
        all_goals go_wp2
        all_goals go_meet
        all_goals (case rel => exact ⟨g12, k12, F13.out⟩)
      case rest =>
        obtain ⟨g12, k12, hZg, x13, y13, d13, l13, v13, b13⟩ := hcut
        have n3 : g12 ≠ gD := by omega
        have n4 : g12 ≠ X := by omega
        have n5 : g12 ≠ B := by omega
        have n6 : gL ≠ g12 := by have := hgY.out.2; omega
        have t1 : wc.cell? ⟨X, 1, none⟩ = some (.slice (some ⟨gD, 0, none⟩) h.2.1.length kD) := by simp [World.cell?, x13]
        have t2 : wc.cell? ⟨gD, 0, none⟩ = some (.slice (some ⟨g12, 0, none⟩) 8 k12) := by
          rw [d13.cellAt 0 (by omega), List.getElem?_set_self (by omega)]
        obtain ⟨xa, hxa⟩ : ∃ xa, wc.cell? ⟨g12, 1, none⟩ = some xa := ⟨_, (v13.cellAt 1 (by omega)).trans (List.getElem?_eq_getElem (by simp; omega))⟩
        have t3 : wc.frozen? ⟨g12, 1, none⟩ = false := v13.frozenAt 1
        have d14 := d13.kept (grownSet g12 1 (.int .i64 tv)) (.inr fun e => n3 (Option.some.inj e).symm)
        have v14 := (v13.stored 1 (.int .i64 tv)).1
        have l14 := l13.kept (grownSet g12 1 (.int .i64 tv)) (.inr fun e => n6 (Option.some.inj e))
        have x14 := (heap_setCell_other wc ⟨g12, 1, none⟩ X (.int .i64 tv) n4.symm).trans x13
        have y14 := (heap_setCell_other wc ⟨g12, 1, none⟩ B (.int .i64 tv) n5.symm).trans y13
        have b14 : Below X W6 (wc.setCell ⟨g12, 1, none⟩ (.int .i64 tv)) := b13.setCell (by show X ≤ g12; omega) _
        obtain ⟨E4, hE4⟩ : ∃ E4, wc.setCell ⟨g12, 1, none⟩ (.int .i64 tv) = E4 := ⟨_, rfl⟩
        rw [hE4] at d14 v14 l14 x14 y14 b14
        clear d13 v13 l13 x13 y13 b13
        go_wp2
        have hbE : Below wr.heap.size wr E4 := b7.out.trans (b14.mono (by have := b7.out.size; omega))
        have hA : Hid (HrAt E4.drew (.agg #[.int .i64 h.1, .slice (some ⟨gD, 0, none⟩) h.2.1.length kD, .slice (some ⟨gL, 0, none⟩) h.2.2.length kL]) (h.1, mod1 h.2.1 tv, h.2.2)) := (hm_last hbE luD luL hlaH.out hl8 D1.out D2.out d14 v14 l14).up (Below.refl E4.heap.size E4).drew
        have hB4 : Hid (OldV (rowsV h.2.1) E4.drew (.slice (some aD) h.2.1.length ed)) := (X1.out.1.v.up hbE).up (Below.refl E4.heap.size E4).drew
        have c0 : E4.drew.cell? ⟨X, 0, none⟩ = some (.int .i64 h.1) := by show E4.cell? _ = _; simp [World.cell?, x14]
        have c1 : E4.drew.cell? ⟨X, 1, none⟩ = some (.slice (some ⟨gD, 0, none⟩) h.2.1.length kD) := by show E4.cell? _ = _; simp [World.cell?, x14]
        have c2' : E4.drew.cell? ⟨X, 2, none⟩ = some (.slice (some ⟨gL, 0, none⟩) h.2.2.length kL) := by show E4.cell? _ = _; simp [World.cell?, x14]
        have c3 : E4.drew.cell? ⟨B, 1, none⟩ = some (.slice (some aD) h.2.1.length ed) := by show E4.cell? _ = _; simp [World.cell?, y14]
        have bW : Hid (Below w.heap.size w E4.drew) := ((X1.out.2.2.2.1).trans (hbE.mono X1.out.2.2.2.1.size)).drew
        clear x14 y14 d14 l14 v14 b14 hbE
        go_region_with (first
          | (go_at_call 19; refine (hMay _ _ hmb E4.drew _ hA.out).mono ?_; rintro e V1 ⟨rfl, k⟩
             have hA1 := toHid' (hA.out.up k)
             have hB1 := toHid' (hB4.out.up k)
             have bW1 : Hid (Below w.heap.size w V1) := bW.out.trans (k.mono bW.out.size)
             have e0 := cellBelow k (Nat.le_refl _) c0
             have e1 := cellBelow k (Nat.le_refl _) c1
             have e2 := cellBelow k (Nat.le_refl _) c2'
             have e3 := cellBelow k (Nat.le_refl _) c3
             clear k hA hB4 bW)
          | (go_at_call 20; refine (hMR _ _ hmRb V1 _ hA1.out).mono ?_; rintro e V2 ⟨rfl, k⟩
             have hB2 := toHid' (hB1.out.up k)
             have bW2 : Hid (Below w.heap.size w V2) := bW1.out.trans (k.mono bW1.out.size)
             have e4 := cellBelow k (Nat.le_refl _) e3
             clear k hA1 hB1 bW1)
          | (go_at_call 10; refine (hMD _ _ i3x.out.2.2.2 V2 V2 _ (Nat.le_refl _) hB2.out).mono ?_; rintro e V3 ⟨rfl, k⟩
             have bW3 : Hid (Below w.heap.size w V3) := bW2.out.trans (k.mono bW2.out.size)
             clear k hB2 bW2))
        all_goals go_wp2
        all_goals go_ret
        all_goals exact ⟨rfl, bW3.out⟩
open Go.RowKit
set_option linter.unusedVariables false
theorem cells_u8 (l : List Int) : TL.cells ⟨.int .u8, l⟩ = l.map fun n => V.int .u8 n := by
  show l.flatMap _ = _
  induction l with
  | nil => rfl
  | cons a r ih => rw [List.flatMap_cons, List.map_cons, ih]; rfl
theorem nums_of' {S : Addr → Prop} {w : World} {B : Nat} {l : List Int} {v : Value} (h : Rp S w (.lst ⟨.int .u8, l⟩) v) (hS : ∀ p, S p → p.block < B) (hU : ∀ n ∈ l, 0 ≤ n ∧ n ≤ 255) : NumsAt B w v l := by
  cases h with
  | lst h =>
    rw [cells_u8] at h
    generalize hK : (l.map fun n => V.int .u8 n) = K at h
    generalize hn : (TL.l ⟨.int .u8, l⟩).length = n at h
    have hn : l.length = n := hn
    cases h with
    | sl hc hm hl h =>
      subst hn
      refine ⟨_, _, rfl, fun j n hn => ?_⟩
      have hj : K[j]? = some (.int .u8 n) := by rw [← hK, List.getElem?_map, hn]; rfl
      obtain ⟨u, hu⟩ := getAt (n := 0) hl hj
      have h1 := hm j u hu
      have h2 := h j _ u hj hu
      cases h2
      refine ⟨(hU n (List.mem_of_getElem? hn)).1, (hU n (List.mem_of_getElem? hn)).2, _, rfl, ?_, h1.2⟩
      have := hS _ h1.1
      unfold Addr.add at this
      split at this <;> exact this
    | slz =>
      have : l = [] := List.eq_nil_of_length_eq_zero hn
      subst this
      exact ⟨none, 0, rfl, fun j n hn => by simp at hn⟩
theorem hm_spec {new : LL × Int → Option (Bool × Hr')} {join : Hr' × Int → Option Hr'} {may mayR : Hr' → Option Bool} {md : LL → Option Bool} (hbeg : bTrueH Go.Proofs.Try.prog 16) (hNew : bNewH Go.Proofs.Try.prog 17 new) (hJoin : bJoinH Go.Proofs.Try.prog 18 join) (hMay : bMayH Go.Proofs.Try.prog 19 may) (hMR : bMayH Go.Proofs.Try.prog 20 mayR) (hMD : bMay Go.Proofs.Try.prog 10 md)
    {l : List Int} {who least which tv : Int} (hU : ∀ n ∈ l, 0 ≤ n ∧ n ≤ 255) (hw : 0 ≤ who ∧ who ≤ 255) (hl : 0 ≤ least ∧ least ≤ 255) (hx : 0 ≤ which ∧ which ≤ 255 ∧ which % 7 = 6) (hP : hmP new join may mayR md (1 + least % 3) tv) :
    Spec2 Go.Proofs.Try.prog 5 [.lst ⟨.int .u8, l⟩, .int .u8 who, .int .u8 least, .int .u8 which, .int .i64 tv] [] (.bs true) [] [] := by
  intro w cargs β S htr hargs
  obtain ⟨ca⟩ := cargs
  obtain ⟨v0, l1, rfl, r0, hl'⟩ := LR.head (vs := ca) hargs
  obtain ⟨v1, l2, rfl, r1, hl'⟩ := LR.head hl'
  obtain ⟨v2, l3, rfl, r2, hl'⟩ := LR.head hl'
  obtain ⟨v3, l4, rfl, r3, hl'⟩ := LR.head hl'
  obtain ⟨v4, l5, rfl, r4, hl'⟩ := LR.head hl'
  have : l5 = [] := List.eq_nil_of_length_eq_zero hl'.1.symm
  subst this
  rw [r1.int_, r2.int_, r3.int_, r4.int_]
  refine (hm_walk hbeg hNew hJoin hMay hMR hMD l who least which tv hw hl hx hP v0 w ?_).mono ?_
  · cases r0 with
    | pure r0 => exact nums_of' r0 (fun p hp => hp.2.1) hU
  · rintro e w' ⟨rfl, hb⟩
    exact ⟨_, β, rfl, ⟨hb.os, hb.tape, hb.output, hb.size, fun k hk _ => hb.block k hk, fun k hk => .same (hb.block k hk)⟩, tr0 _ _ _, .pure (.bs (.bool true)), rfl, fun j hj => absurd hj (by simp), fun j hj => absurd hj (by simp)⟩
end Go.Abs
