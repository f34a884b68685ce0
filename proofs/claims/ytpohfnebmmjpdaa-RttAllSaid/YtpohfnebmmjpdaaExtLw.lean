/- The statement RttAll, and what it calls that writes into rows of rows, each by a walk. -/
import Derived.Test.YtpohfnebmmjpdaaProg
import Derived.Test.YtpohfnebmmjpdaaExtLn
import Derived.Laws.Slices
import Derived.WalkKit
import Derived.OwnWalk
import Derived.BigCall
import Derived.BigRegion
import Derived.BigQuiet
import Derived.Deep.QuietTactic
import Derived.Maps.AppendAt
namespace Go.Abs
open Go.RowKit
set_option linter.unusedVariables false
set_option linter.unusedSimpArgs false
set_option maxHeartbeats 6400000 in
set_option maxRecDepth 100000 in
theorem learn_walk {may : MayF} {nu : Int × Int → Option Bool} {sm : Int × Int → Option Int} (hMay : bMay Go.Proofs.Try.prog 9 may) (hNu : bNum Go.Proofs.Try.prog 27 nu) (hSm : bSm Go.Proofs.Try.prog 11 sm) (L : LL) (a b s : Int) (r : LL) (hr0 : learnT may nu sm L a b s = some r) (v : Value) (w : World) (hv : RowsOld w w v L) :
    Calls Go.Proofs.Try.prog 14 #[v, .int .i64 a, .int .i64 b, .int .i64 s] w fun e w' => (∃ u us, e = .returned u ∧ Mat w.heap.size 25 3 w' u r us) ∧ Below w.heap.size w w' := by
  obtain ⟨⟨hl1, hl2⟩, hcs0⟩ := learn_cases hr0
  have hcs : Hid _ := hcs0
  clear hcs0 hr0
  obtain ⟨i3, hi3, hz3, hs3, hb3⟩ := info_parts (P := Go.Proofs.Try.prog) (e := 3) (z := .int .i64 0) (size := 1) (bytes := 8) (by kernel_rfl)
  obtain ⟨i25, hi25, hz25, hs25, hb25⟩ := info_parts (P := Go.Proofs.Try.prog) (e := 25) (z := .slice none 0 0) (size := 1) (bytes := 24) (by kernel_rfl)
  obtain ⟨p, c, rfl, hr⟩ := hv.at
  have hrw : Hid (RowsOld w w (.slice p L.length c) L) := hv
  clear hr hv
  go_enter Go.Proofs.Try.func14, Go.Proofs.Try.ntmps14
  go_wp2
  go_loopw [9, 15] (fun u9 u15 wr => ∃ (i : Nat) (us : List Value), u15 = .int .i64 (i : Int) ∧ i ≤ L.length ∧ Mat w.heap.size 25 3 wr u9 (L.take i) us ∧ Below w.heap.size w wr)
    (fun _ u15 wr => L.length - (intOf u15).toNat)
  case atStart => exact ⟨0, [], rfl, Nat.zero_le _, mat_nil _ _ _ _, Below.refl _ _⟩
  case round =>
    obtain ⟨i, us, rfl, hi, hm, hbw⟩ := hrel
    by_cases hp : i < L.length
    · obtain ⟨l, hl⟩ : ∃ l, L[i]? = some l := ⟨_, List.getElem?_eq_getElem hp⟩
      obtain ⟨p0, c0, e0, hr⟩ := (hrw.out.kept (w' := wr) fun k hk => hbw.block k hk).at
      cases e0
      obtain ⟨ad, rfl, u, hu, p2, c2, rfl, hn⟩ := hr i l hl
      obtain ⟨hlp, hlm⟩ := hl2 l (List.mem_of_getElem? hl)
      obtain ⟨ad2, rfl⟩ : ∃ ad2, p2 = some ad2 := by
        obtain ⟨x, hx⟩ : ∃ x, l[0]? = some x := ⟨_, List.getElem?_eq_getElem hlp⟩
        obtain ⟨ad2, e, _⟩ := hn 0 x hx
        exact ⟨ad2, e⟩
      have hnews : Hid (∀ j u, (l.map fun n => Value.int .i64 n)[j]? = some u → wr.cell? (ad2.add j) = some u) := fun j u hu => by
        rw [List.getElem?_map] at hu
        cases hx : l[j]? with
        | none => rw [hx] at hu; cases hu
        | some x => rw [hx] at hu; cases hu; obtain ⟨_, e, h⟩ := hn j x hx; cases e; exact h
      have hB := hbw.size
      clear hn hr hrw hl2
      have hm : Hid (Mat w.heap.size 25 3 wr u9 (L.take i) us) := hm
      have hlt : (i : Int) < (L.length : Int) := by omega
      go_wp2_with (first
        | (at_builtin; refine wpList_append_own_at _ rfl _ _ 25 rfl wr.heap.size 3 i3 (.int .i64 0) 1 8 Go.Proofs.Try.underlying25 hi3 hz3 hs3 hb3 rfl (by decide) _ _ _ rfl (World.ownsRow_nil _ _ _ _) ad2 l.length c2 (l.map fun n => Value.int .i64 n) rfl (by simp) hnews.out (fun x hx => by simp at hx; obtain ⟨n, _, rfl⟩ := hx; rfl) (by unfold maxLen; omega) (by omega) (Nat.le_refl _) ?_; intro x w1 hx1 hg1 hnil1 hat1
           obtain ⟨g, cap, rfl⟩ := own_form hx1 (by omega)
           rw [Nat.zero_add] at hx1 hat1
           have A1 : Hid (wr.grownBy w1 none) := hg1
           have A2 : Hid (some g = none ∨ some g = some wr.heap.size) := hat1
           have A3 : Hid (w1.ownsRow wr.heap.size 3 1 (.slice (some ⟨g, 0, none⟩) l.length cap) l.length (l.map fun n => Value.int .i64 n)) := hx1
           clear hx1 hg1 hnil1 hat1)
        | (at_builtin; refine wpList_append_own_at _ rfl _ _ 23 rfl w.heap.size 25 i25 (.slice none 0 0) 1 24 Go.Proofs.Try.underlying23 hi25 hz25 hs25 hb25 rfl (by decide) _ _ _ rfl ((keptN hm.out.out A1.out).alloc _) ⟨w1.heap.size, 0, none⟩ 1 1 [.slice (some ⟨g, 0, none⟩) l.length cap] rfl rfl (cell_one_new _ _ _) (fun y hy => by simp at hy; subst hy; exact own_one A3.out) (by rw [List.length_take]; unfold maxLen; omega) (by rw [List.length_take]; omega) (by have := A1.out.size; simp; omega) ?_; intro v' w3 hv hg3 hnil3 hat3
           have A4 := hm.out.round (i := i) (l := l) hB hl hlp A3.out A2.out A1.out hg3 hv hat3
           have hB3 : w.heap.size ≤ w3.heap.size := by have := A1.out.size; have := hg3.size; simp at this; omega
           have A5 : Hid (Mat w.heap.size 25 3 w3 v' (L.take (i + 1)) (us ++ [.slice (some ⟨g, 0, none⟩) l.length cap]) ∧ Below w.heap.size w w3) := ⟨A4.1, Below.grown ((Below.grown hbw A1.out hB (fun j hj => by cases hj)).alloc (by have := A1.out.size; omega) _) hg3 (by have := A1.out.size; simp; omega) (fun j hj => (hm.out.out.lt j hj).1)⟩
           clear hnil3 hat3 hv hg3 A4))
      refine ⟨⟨i + 1, _, by simp, by omega, A5.out.1, A5.out.2⟩, ?_⟩
      simp [intOf]; omega
    · have hiL : i = L.length := by omega
      subst hiL
      rw [List.take_length] at hm
      have hB := hbw.size
      have hin : Hid (RowsOld w wr (.slice p L.length c) L) := hrw.out.kept fun k hk => hbw.block k hk
      have hmm : Hid (Mat w.heap.size 25 3 wr u9 L us) := hm
      have hbb : Hid (Below w.heap.size w wr) := hbw
      clear hm hbw hrw hl2 hi3 hi25 hz3 hs3 hb3 hz25 hs25 hb25 hi hp
      rcases hcs.out with ⟨hm1, rfl⟩ | ⟨hm1, hn1, rfl⟩ | ⟨hm1, hn1, A, B, la, lb, x, y, rfl, rfl, hAB, hA, hB2, hBl, hAl, hx, hy, rfl⟩
      · go_wp2_with (go_at_call 9; refine (hMay _ false hm1 w wr _ hB hin).mono ?_; rintro e W2 ⟨rfl, hb2⟩)
        go_ret
        exact ⟨⟨_, _, rfl, hmm.out.kept hb2⟩, upB hbb.out hB hb2⟩
      · go_wp2_with (first
          | (go_at_call 9; refine (hMay _ true hm1 w wr _ hB hin).mono ?_; rintro e W2 ⟨rfl, hb2⟩)
          | (go_at_call 27; refine (hNu _ _ false hn1 W2).mono ?_; rintro e W3 ⟨rfl, hb3⟩))
        go_ret
        exact ⟨⟨_, _, rfl, (hmm.out.kept hb2).kept hb3⟩, upB (upB hbb.out hB hb2) (Nat.le_trans hB hb2.size) hb3⟩
      · clear hcs
        obtain ⟨p0, c0, e0, hr⟩ := hin.out.at
        cases e0
        obtain ⟨ad, rfl, u, hu, p2, c2, rfl, hn⟩ := hr A la hA
        obtain ⟨ad2, rfl, hcx⟩ := hn B x hx
        have hl9 : (L.length : Int) ≤ 1000 := by omega
        have hAl2 : (A : Int) < (L.length : Int) := by have := (List.getElem?_eq_some_iff.1 hA).1; omega
        have hBl2 : (B : Int) < (L.length : Int) := by have := (List.getElem?_eq_some_iff.1 hB2).1; omega
        have hBl3 : (B : Int) < (la.length : Int) := by omega
        have hAl3 : (A : Int) < (lb.length : Int) := by omega
        obtain ⟨g, cap, ga, ca, rfl, hua, hga⟩ := hmm.out.at hA (by omega)
        obtain ⟨g', cap', gb, cb, e9, hub, hgb⟩ := hmm.out.at hB2 (by omega)
        cases e9
        have hAx : Hid (L[A]? = some la ∧ L[B]? = some lb) := ⟨hA, hB2⟩
        have hux : Hid (us[A]? = some (Value.slice (some ⟨ga, 0, none⟩) la.length ca) ∧ us[B]? = some (Value.slice (some ⟨gb, 0, none⟩) lb.length cb)) := ⟨hua, hub⟩
        clear hn hr hA hB2 hx hua hub
        go_wp2_with (first
          | (go_at_call 9; refine (hMay _ true hm1 w wr _ hB hin).mono ?_; rintro e W2 ⟨rfl, hb2⟩; have f1 := keepC hu hb2; have f2 := keepC hcx hb2; have q1 := keepC hga hb2; have q2 := keepC hgb hb2; have m2 : Hid (Mat _ 25 3 _ _ L us) := hmm.out.kept hb2; have b2 : Hid _ := upB hbb.out hB hb2; clear hga hgb hu hcx)
          | (go_at_call 27; refine (hNu _ _ true hn1 W2).mono ?_; rintro e W3 ⟨rfl, hb3⟩; have f3 := keepC f1 hb3; have f4 := keepC f2 hb3; have q3 := keepC q1 hb3; have q4 := keepC q2 hb3; have m3 : Hid (Mat _ 25 3 _ _ L us) := m2.out.kept hb3; have b3 : Hid _ := upB b2.out (Nat.le_trans hB hb2.size) hb3; clear f1 f2 q1 q2 m2 b2)
          | (go_at_call 11; refine (hSm _ _ _ hy W3).mono ?_; rintro e W4 ⟨rfl, hb4⟩; have q5 := keepC q3 hb4; have q6 := keepC q4 hb4; have m4 : Hid (Mat _ 25 3 _ _ L us) := m3.out.kept hb4; have b4 : Hid _ := upB b3.out (Nat.le_trans (Nat.le_trans hB hb2.size) hb3.size) hb4; clear q3 q4 m3 b3 f3 f4))
        have fa := (m4.out.row A _ _ hAx.out.1 hux.out.1).frozenAt B
        have fb := (m4.out.row B _ _ hAx.out.2 hux.out.2).frozenAt A
        obtain ⟨xa, hxa⟩ : ∃ xa, W4.cell? ⟨ga, B, none⟩ = some xa := ⟨.int .i64 (la[B]'hBl), by rw [(m4.out.row A _ _ hAx.out.1 hux.out.1).cellAt B (by omega), List.getElem?_map, List.getElem?_eq_getElem hBl]; rfl⟩
        obtain ⟨xb, hxb⟩ : ∃ xb, W4.cell? ⟨gb, A, none⟩ = some xb := ⟨.int .i64 (lb[A]'hAl), by rw [(m4.out.row B _ _ hAx.out.2 hux.out.2).cellAt A (by omega), List.getElem?_map, List.getElem?_eq_getElem hAl]; rfl⟩
        have hne : ga ≠ gb := fun e => hAB (m4.out.inj A B _ _ ga hux.out.1 hux.out.2 rfl (by rw [e]; rfl))
        clear hb2 hb3 hb4 hmm hbb hin hm1 hn1 hy
        go_region
        go_wp2
        go_ret
        have m5 := m4.out.store hAx.out.1 hBl hux.out.1 y
        have m6 := m5.store (i := B) (l := lb) (by rw [List.getElem?_modify]; simp [hAB, hAx.out.2]) hAl hux.out.2 y
        refine ⟨⟨_, us, rfl, ?_⟩, ?_⟩
        · exact m6.drew
        · exact ((b4.out.setCell ((m4.out.row A _ _ hAx.out.1 hux.out.1).lt ga rfl).1 _).setCell ((m4.out.row B _ _ hAx.out.2 hux.out.2).lt gb rfl).1 _).drew
/-- The numbers that choices are made of. -/
def NumsAt (B : Nat) (w : World) (v : Value) (l : List Int) : Prop := ∃ p c, v = .slice p l.length c ∧ ∀ j n, l[j]? = some n → 0 ≤ n ∧ n ≤ 255 ∧ ∃ ad : Addr, p = some ad ∧ ad.block < B ∧ w.cell? (ad.add j) = some (.int .u8 n)
set_option maxHeartbeats 6400000 in
set_option maxRecDepth 100000 in
theorem num_walk (B b : Nat) (pl : Value) (l : List Int) (n : Int) (w : World) (hb : w.heap[b]? = some (.cells #[pl, .int .i64 n] 48 (0, 0))) (hp : NumsAt B w pl l) (hB : B ≤ b) (hl : l.length ≤ 1000) (h0 : 0 ≤ n) (h1 : n ≤ l.length) :
    Calls Go.Proofs.Try.prog 22 #[.pointer (some ⟨b, 0, none⟩), .int .i64 9] w fun e w' => ∃ (v n' : Int), e = .returned (.int .i64 v) ∧ 0 ≤ v ∧ v < 9 ∧ 0 ≤ n' ∧ n' ≤ l.length ∧ w'.heap[b]? = some (.cells #[pl, .int .i64 n'] 48 (0, 0)) ∧ w.grownBy w' (some b) := by
  obtain ⟨p, c, rfl, hr⟩ := hp
  have c0 : w.cell? ⟨b, 0, none⟩ = some (.slice p l.length c) := by simp [World.cell?, hb]
  have c1 : w.cell? ⟨b, 1, none⟩ = some (.int .i64 n) := by simp [World.cell?, hb]
  have f1 : w.frozen? ⟨b, 1, none⟩ = false := by simp [World.frozen?, hb]
  have hl9 : (l.length : Int) ≤ 1000 := by omega
  by_cases hn : (l.length : Int) ≤ n
  · go_enter Go.Proofs.Try.func22, Go.Proofs.Try.ntmps22
    go_wp2
    go_quiet (fail)
    go_wp2
    go_ret
    exact ⟨0, n, rfl, by omega, by omega, h0, h1, hb, ⟨rfl, rfl, rfl, Nat.le_refl _, fun k _ _ => rfl⟩⟩
  · obtain ⟨N, rfl⟩ : ∃ N : Nat, n = N := ⟨n.toNat, by omega⟩
    have hN : N < l.length := by omega
    obtain ⟨x, hx⟩ : ∃ x, l[N]? = some x := ⟨_, List.getElem?_eq_getElem hN⟩
    obtain ⟨x0, x1, ad, rfl, hab, hcx⟩ := hr N x hx
    have hne : ad.block ≠ b := by omega
    have hne2 : (ad.add N).block ≠ b := by unfold Addr.add; split <;> exact hne
    have hN1 : (N : Int) < (l.length : Int) := by omega
    have hcx2 : ∀ nq v, ((w.drewN nq).setCell ⟨b, 1, none⟩ v).cell? (ad.add N) = some (.int .u8 x) := fun nq v => by
      rw [World.cell?_of_block (w := w) ?_]
      · exact hcx
      · rw [Below.heap_setCell _ _ _ _ hne2]; rfl
    have hm : (x : Int).tmod 9 = x % 9 := Int.tmod_eq_emod_of_nonneg x0
    have hw8 : wrap64 x = x := by unfold wrap64; omega
    clear hr hcx hx
    go_enter Go.Proofs.Try.func22, Go.Proofs.Try.ntmps22
    go_wp2
    go_quiet (fail)
    go_wp2
    go_quiet (fail)
    go_wp2
    go_ret
    refine ⟨x % 9, N + 1, rfl, by omega, by omega, by omega, by omega, ?_, ⟨rfl, rfl, rfl, by simp, fun k hk hkb => ?_⟩⟩
    · show ((w.drewN _).setCell _ _).heap[b]? = _
      rw [heap_setCell_same (w.drewN _) b 1 _ 48 _ hb]
      rfl
    · show ((w.drewN _).setCell _ _).heap[k]? = _
      rw [Below.heap_setCell _ _ _ _ (fun e => hkb (by rw [e]))]
      rfl
/-- A square of distances. -/
structure SqD (D : LL) : Prop where
  len : D.length = 8
  row : ∀ i, i < 8 → (D.getD i []).length = 8
  rng : ∀ i j, i < 8 → j < 8 → 0 ≤ (D.getD i []).getD j 0 ∧ (D.getD i []).getD j 0 ≤ 1000
  sym : ∀ i j, i < 8 → j < 8 → (D.getD i []).getD j 0 = (D.getD j []).getD i 0
  dia : ∀ i, i < 8 → (D.getD i []).getD i 0 = 0
theorem sq_zero : SqD (List.replicate 8 (List.replicate 8 0)) := by
  have e : ∀ i j, i < 8 → j < 8 → ((List.replicate 8 (List.replicate 8 (0 : Int))).getD i []).getD j 0 = 0 := fun i j hi hj => (show ∀ i, i < 8 → ∀ j, j < 8 → ((List.replicate 8 (List.replicate 8 (0 : Int))).getD i []).getD j 0 = 0 by decide) i hi j hj
  exact ⟨rfl, by decide, fun i j hi hj => by rw [e i j hi hj]; omega, fun i j hi hj => by rw [e i j hi hj, e j i hj hi], fun i hi => e i i hi hi⟩
theorem sq_row (D : LL) (A B : Nat) (v : Int) (i : Nat) (hi : i < D.length) (hAB : A ≠ B) : (set2 D A B v).getD i [] = if i = A then (D.getD i []).set B v else if i = B then (D.getD i []).set A v else D.getD i [] := by
  unfold set2
  rw [List.getD_eq_getElem?_getD, List.getElem?_modify, List.getElem?_modify, List.getD_eq_getElem?_getD, List.getElem?_eq_getElem hi]
  by_cases q : i = A
  · subst q
    simp [Ne.symm hAB]
  · by_cases q2 : i = B
    · subst q2
      simp [q, hAB]
    · simp [q, q2, Ne.symm q, Ne.symm q2]
theorem sq_set (l : List Int) (i j : Nat) (v : Int) (hi : i < l.length) : (l.set i v).getD j 0 = if j = i then v else l.getD j 0 := by
  rw [List.getD_eq_getElem?_getD, List.getElem?_set, List.getD_eq_getElem?_getD]
  by_cases q : j = i
  · subst q; simp [hi]
  · rw [if_neg q, if_neg (Ne.symm q)]
theorem sq_gd (D : LL) (h : SqD D) (A B : Nat) (v : Int) (hA : A < 8) (hB : B < 8) (hAB : A ≠ B) (i j : Nat) (hi : i < 8) : ((set2 D A B v).getD i []).getD j 0 = if i = A ∧ j = B ∨ i = B ∧ j = A then v else (D.getD i []).getD j 0 := by
  rw [sq_row D A B v i (by have := h.len; omega) hAB]
  have hr := h.row i hi
  by_cases q : i = A
  · subst q
    rw [if_pos rfl, sq_set _ _ _ _ (by omega)]
    by_cases q2 : j = B
    · rw [if_pos q2, if_pos (.inl ⟨rfl, q2⟩)]
    · rw [if_neg q2, if_neg (by rintro (⟨_, e⟩ | ⟨e, _⟩); exact q2 e; exact hAB e)]
  · rw [if_neg q]
    by_cases q2 : i = B
    · subst q2
      rw [if_pos rfl, sq_set _ _ _ _ (by omega)]
      by_cases q3 : j = A
      · rw [if_pos q3, if_pos (.inr ⟨rfl, q3⟩)]
      · rw [if_neg q3, if_neg (by rintro (⟨e, _⟩ | ⟨_, e⟩); exact q e; exact q3 e)]
    · rw [if_neg q2, if_neg (by rintro (⟨e, _⟩ | ⟨e, _⟩); exact q e; exact q2 e)]
theorem sq_set2 (D : LL) (h : SqD D) (A B : Nat) (v : Int) (hA : A < 8) (hB : B < 8) (hAB : A ≠ B) (h0 : 0 ≤ v) (h1 : v ≤ 1000) : SqD (set2 D A B v) := by
  refine ⟨?_, fun i hi => ?_, fun i j hi hj => ?_, fun i j hi hj => ?_, fun i hi => ?_⟩
  · unfold set2; rw [List.length_modify, List.length_modify]; exact h.len
  · rw [sq_row D A B v i (by have := h.len; omega) hAB]
    have := h.row i hi
    split
    · rw [List.length_set]; exact this
    · split
      · rw [List.length_set]; exact this
      · exact this
  · rw [sq_gd D h A B v hA hB hAB i j hi]
    split
    · exact ⟨h0, h1⟩
    · exact h.rng i j hi hj
  · rw [sq_gd D h A B v hA hB hAB i j hi, sq_gd D h A B v hA hB hAB j i hj]
    by_cases c : i = A ∧ j = B ∨ i = B ∧ j = A
    · rw [if_pos c, if_pos (by omega)]
    · rw [if_neg c, if_neg (by omega)]; exact h.sym i j hi hj
  · rw [sq_gd D h A B v hA hB hAB i i hi, if_neg (by omega)]; exact h.dia i hi
theorem grownTrans {a b c : World} {r : Option Nat} (h : a.grownBy b r) (k : b.grownBy c r) : a.grownBy c r :=
  ⟨k.os.trans h.os, k.tape.trans h.tape, k.output.trans h.output, Nat.le_trans h.size k.size, fun i hi hn => (k.block i (Nat.lt_of_lt_of_le hi h.size) hn).trans (h.block i hi hn)⟩
theorem keptB {w w' : World} {B b e n : Nat} {v : Value} {xs : List Value} (h : w.ownsRow B e 1 v n xs) (g : w.grownBy w' (some b)) (hb : b < B) : w'.ownsRow B e 1 v n xs :=
  h.kept g (by
    cases hv : v.ownBlock with
    | none => exact .inl rfl
    | some k => exact .inr fun e => by have := (h.lt k hv).1; simp at e; omega)
theorem matB {B e1 e2 b : Nat} {w w' : World} {v : Value} {M : LL} {us : List Value} (h : Mat B e1 e2 w v M us) (g : w.grownBy w' (some b)) (hb : b < B) : Mat B e1 e2 w' v M us :=
  ⟨keptB h.out g hb, fun i l u hi hu => keptB (h.row i l u hi hu) g hb, h.inj, h.apart⟩
theorem nums_kept {B b : Nat} {w w' : World} {v : Value} {l : List Int} (h : NumsAt B w v l) (g : w.grownBy w' (some b)) (hb : B ≤ b) : NumsAt B w' v l := by
  obtain ⟨p, c, e, h⟩ := h
  refine ⟨p, c, e, fun j n hj => ?_⟩
  obtain ⟨a1, a2, ad, a3, a4, a5⟩ := h j n hj
  refine ⟨a1, a2, ad, a3, a4, g.cell a5 ?_⟩
  have : (ad.add j).block = ad.block := by unfold Addr.add; split <;> rfl
  rw [this]
  intro q; simp at q; omega
theorem belowB {w w' : World} {b : Nat} (h : Below w.heap.size w w') : w.grownBy w' (some b) := ⟨h.os, h.tape, h.output, h.size, fun k hk _ => h.block k hk⟩
theorem allocB {w : World} {b : Nat} (o : Obj) : w.grownBy (w.alloc o) (some b) := ⟨rfl, rfl, rfl, by simp, fun k hk _ => Below.heap_alloc w o k hk⟩
theorem setB {a w : World} {b : Nat} (h : a.grownBy w (some b)) {p : Addr} (hp : a.heap.size ≤ p.block) (v : Value) : a.grownBy (w.setCell p v) (some b) :=
  ⟨h.os, h.tape, h.output, by simpa using h.size, fun k hk hkb => by rw [Below.heap_setCell _ _ _ _ (by omega)]; exact h.block k hk hkb⟩
theorem drewB {a w : World} {b : Nat} (h : a.grownBy w (some b)) : a.grownBy w.drew (some b) := ⟨h.os, h.tape, h.output, h.size, h.block⟩
theorem lit9 (w : World) (V : Nat) (hV : V < 9) : ∃ x : Int, 0 ≤ x ∧ x ≤ 1000 ∧ (w.alloc (.cells #[.int .i64 1, .int .i64 2, .int .i64 3, .int .i64 5, .int .i64 9, .int .i64 9, .int .i64 20, .int .i64 1000, .int .i64 0] 3)).cell? ⟨w.heap.size, V, none⟩ = some (.int .i64 x) := by
  have hg := heap_alloc_new w (.cells #[.int .i64 1, .int .i64 2, .int .i64 3, .int .i64 5, .int .i64 9, .int .i64 9, .int .i64 20, .int .i64 1000, .int .i64 0] 3)
  have hc : ∀ x, #[Value.int .i64 1, .int .i64 2, .int .i64 3, .int .i64 5, .int .i64 9, .int .i64 9, .int .i64 20, .int .i64 1000, .int .i64 0][V]? = some x → (w.alloc (.cells #[.int .i64 1, .int .i64 2, .int .i64 3, .int .i64 5, .int .i64 9, .int .i64 9, .int .i64 20, .int .i64 1000, .int .i64 0] 3)).cell? ⟨w.heap.size, V, none⟩ = some x := fun x h => by
    rw [cell_of_row _ _ V _ _ (0, 0) hg]; exact h
  match V, hV with
  | 0, _ => exact ⟨1, by omega, by omega, hc _ rfl⟩
  | 1, _ => exact ⟨2, by omega, by omega, hc _ rfl⟩
  | 2, _ => exact ⟨3, by omega, by omega, hc _ rfl⟩
  | 3, _ => exact ⟨5, by omega, by omega, hc _ rfl⟩
  | 4, _ => exact ⟨9, by omega, by omega, hc _ rfl⟩
  | 5, _ => exact ⟨9, by omega, by omega, hc _ rfl⟩
  | 6, _ => exact ⟨20, by omega, by omega, hc _ rfl⟩
  | 7, _ => exact ⟨1000, by omega, by omega, hc _ rfl⟩
  | 8, _ => exact ⟨0, by omega, by omega, hc _ rfl⟩
theorem sq_get {D : LL} (h : SqD D) {i : Nat} (hi : i < 8) : ∃ r, D[i]? = some r ∧ r.length = 8 := by
  have := h.row i hi
  rw [List.getD_eq_getElem?_getD, List.getElem?_eq_getElem (by have := h.len; omega)] at this
  exact ⟨_, List.getElem?_eq_getElem (by have := h.len; omega), this⟩
set_option maxHeartbeats 6400000 in
set_option maxRecDepth 100000 in
theorem dist_walk (B b : Nat) (pl : Value) (l : List Int) (w : World) (hb : w.heap[b]? = some (.cells #[pl, .int .i64 0] 48 (0, 0))) (hp : NumsAt B w pl l) (hB : B ≤ b) (hl : l.length ≤ 1000) :
    Calls Go.Proofs.Try.prog 8 #[.pointer (some ⟨b, 0, none⟩)] w fun e w' => ∃ u us D, e = .returned u ∧ Mat w.heap.size 25 3 w' u D us ∧ SqD D ∧ w.grownBy w' (some b) := by
  obtain ⟨i25, hi25, hz25, hs25, hb25⟩ := info_parts (P := Go.Proofs.Try.prog) (e := 25) (z := .slice none 0 0) (size := 1) (bytes := 24) (by kernel_rfl)
  obtain ⟨i3, hi3, hz3, hs3, hb3⟩ := info_parts (P := Go.Proofs.Try.prog) (e := 3) (z := .int .i64 0) (size := 1) (bytes := 8) (by kernel_rfl)
  have hbl : b < w.heap.size := (Array.getElem?_eq_some_iff.1 hb).1
  have hp2 : Hid (NumsAt B w pl l) := hp
  clear hp
  go_enter Go.Proofs.Try.func8, Go.Proofs.Try.ntmps8
  go_wp2
  go_loopw [3, 4] (fun u3 u4 wr => ∃ (i : Nat) (us : List Value), u4 = .int .i64 (i : Int) ∧ i ≤ 8 ∧ Mat w.heap.size 25 3 wr u3 ((List.replicate 8 (List.replicate 8 (0 : Int))).take i) us ∧ Below w.heap.size w wr)
    (fun _ u4 wr => 8 - (intOf u4).toNat)
  case atStart => exact ⟨0, [], rfl, by omega, mat_nil _ _ _ _, Below.refl _ _⟩
  case round =>
    obtain ⟨i, us, rfl, hi, hm, hbw⟩ := hrel
    have hB2 := hbw.size
    have hm : Hid (Mat w.heap.size 25 3 wr u3 ((List.replicate 8 (List.replicate 8 (0 : Int))).take i) us) := hm
    by_cases hp : i < 8
    · have hlt : (i : Int) < 8 := by omega
      obtain ⟨w1, hmk, ho1, hg1⟩ := run_make_full (P := Go.Proofs.Try.prog) wr wr.heap.size 25 3 i3 (.int .i64 0) 1 Go.Proofs.Try.underlying25 hi3 hz3 hs3 .i64 .i64 8 (by rw [hb3]; decide) (by decide) (Nat.le_refl _)
      have hmk : (Instr.makeSlice 25 (.int .i64 8) (.int .i64 8)).run Go.Proofs.Try.prog wr = .ok (.slice (some ⟨wr.heap.size, 0, none⟩) 8 8) w1 := hmk
      have A1 : Hid (wr.grownBy w1 none) := hg1
      have A3 : Hid (w1.ownsRow wr.heap.size 3 1 (.slice (some ⟨wr.heap.size, 0, none⟩) 8 8) (List.replicate 8 (0 : Int)).length ((List.replicate 8 (0 : Int)).map fun n => Value.int .i64 n)) := by rw [show ((8 : Nat) * 1) = 8 from rfl, show (Value.int .i64 0).cells = #[.int .i64 0] from rfl, toList_madeCells_one] at ho1; exact ho1
      clear ho1 hg1
      go_wp2_with (first
        | (at_builtin; refine wpList_append_own_at _ rfl _ _ 23 rfl w.heap.size 25 i25 (.slice none 0 0) 1 24 Go.Proofs.Try.underlying23 hi25 hz25 hs25 hb25 rfl (by decide) _ _ _ rfl ((keptN hm.out.out A1.out).alloc _) ⟨w1.heap.size, 0, none⟩ 1 1 [.slice (some ⟨wr.heap.size, 0, none⟩) 8 8] rfl rfl (cell_one_new _ _ _) (fun y hy => by simp at hy; subst hy; rfl) (by rw [List.length_take, List.length_replicate]; unfold maxLen; omega) (by rw [List.length_take, List.length_replicate]; omega) (by have := A1.out.size; simp; omega) ?_; intro v' w3 hv hg3 hnil3 hat3
           have A4 := hm.out.round (i := i) (l := List.replicate 8 (0 : Int)) hB2 (by rw [List.getElem?_replicate, if_pos hp]) (by decide) A3.out (.inr rfl) A1.out hg3 hv hat3
           have A5 : Hid (Mat w.heap.size 25 3 w3 v' ((List.replicate 8 (List.replicate 8 (0 : Int))).take (i + 1)) (us ++ [.slice (some ⟨wr.heap.size, 0, none⟩) 8 8]) ∧ Below w.heap.size w w3) := ⟨A4.1, Below.grown ((Below.grown hbw A1.out hB2 (fun j hj => by cases hj)).alloc (by have := A1.out.size; omega) _) hg3 (by have := A1.out.size; simp; omega) (fun j hj => (hm.out.out.lt j hj).1)⟩
           clear hnil3 hat3 hv hg3 A4))
      refine ⟨⟨i + 1, _, by simp, by omega, A5.out.1, A5.out.2⟩, ?_⟩
      simp [intOf]; omega
    · have hi8 : i = 8 := by omega
      subst hi8
      rw [List.take_of_length_le (by decide)] at hm
      have hg0 : Hid (w.grownBy wr (some b)) := belowB hbw
      have hb0 := hbw.block b hbl
      rw [hb] at hb0
      have hbx : Hid _ := hb0
      clear hbw hp hi hi25 hz25 hs25 hb25 hi3 hz3 hs3 hb3 hb hb0
      go_wp2
      go_loopw [5] (fun u5 w2 => ∃ (I : Nat) (D : LL) (n : Int), u5 = .int .i64 (I : Int) ∧ I ≤ 8 ∧ Mat w.heap.size 25 3 w2 u3 D us ∧ SqD D ∧ w.grownBy w2 (some b) ∧ w2.heap[b]? = some (.cells #[pl, .int .i64 n] 48 (0, 0)) ∧ 0 ≤ n ∧ n ≤ l.length)
        (fun u5 w2 => 8 - (intOf u5).toNat)
      case atStart => exact ⟨0, _, 0, rfl, by omega, hm, sq_zero, hg0, hbx, by omega, by omega⟩
      case round =>
        obtain ⟨I, D, n, rfl, hI, hm0, hs0, hg0, hb0, hn0, hn1⟩ := hrel
        have hX : Hid (Mat w.heap.size 25 3 wr u3 D us ∧ SqD D ∧ w.grownBy wr (some b) ∧ wr.heap[b]? = some (.cells #[pl, .int .i64 n] 48 (0, 0)) ∧ 0 ≤ n ∧ n ≤ l.length) := ⟨hm0, hs0, hg0, hb0, hn0, hn1⟩
        clear hm0 hs0 hg0 hb0 hn0 hn1
        by_cases hI8 : I < 8
        · have hI9 : (I : Int) < 8 := by omega
          go_wp2
          go_loopw [6] (fun u6 w3 => ∃ (k : Nat) (D : LL) (n : Int), u6 = .int .i64 (k : Int) ∧ k ≤ I ∧ Mat w.heap.size 25 3 w3 u3 D us ∧ SqD D ∧ w.grownBy w3 (some b) ∧ w3.heap[b]? = some (.cells #[pl, .int .i64 n] 48 (0, 0)) ∧ 0 ≤ n ∧ n ≤ l.length)
            (fun u6 w3 => I - (intOf u6).toNat)
          case atStart => exact ⟨0, D, n, rfl, by omega, hX.out⟩
          case round =>
            clear hX
            obtain ⟨k, D, n, rfl, hk, hm0, hs0, hg0, hb0, hn0, hn1⟩ := hrel
            have hX : Hid (Mat w.heap.size 25 3 wr u3 D us ∧ SqD D ∧ w.grownBy wr (some b) ∧ wr.heap[b]? = some (.cells #[pl, .int .i64 n] 48 (0, 0)) ∧ 0 ≤ n ∧ n ≤ l.length) := ⟨hm0, hs0, hg0, hb0, hn0, hn1⟩
            by_cases hkI : k < I
            · have hk9 : (k : Int) < (I : Int) := by omega
              have hk8 : (k : Int) < 8 := by omega
              obtain ⟨la, hA, hla⟩ := sq_get hs0 hI8
              obtain ⟨lb, hB4, hlb⟩ := sq_get hs0 (show k < 8 by omega)
              obtain ⟨g, cap, ga, ca, rfl, hua, hga⟩ := hm0.at hA (by omega)
              obtain ⟨g', cap', gb, cb, e9, hub, hgb⟩ := hm0.at hB4 (by omega)
              cases e9
              rw [hs0.len] at *
              have hq : Hid (D[I]? = some la ∧ D[k]? = some lb ∧ us[I]? = some (Value.slice (some ⟨ga, 0, none⟩) la.length ca) ∧ us[k]? = some (Value.slice (some ⟨gb, 0, none⟩) lb.length cb)) := ⟨hA, hB4, hua, hub⟩
              have hz : w.heap.size ≤ wr.heap.size := hg0.size
              have hW1 : w.grownBy (wr.alloc (.cells #[.int .i64 1, .int .i64 2, .int .i64 3, .int .i64 5, .int .i64 9, .int .i64 9, .int .i64 20, .int .i64 1000, .int .i64 0] 3)) (some b) := grownTrans hg0 (allocB _)
              have hbW : (wr.alloc (.cells #[.int .i64 1, .int .i64 2, .int .i64 3, .int .i64 5, .int .i64 9, .int .i64 9, .int .i64 20, .int .i64 1000, .int .i64 0] 3)).heap[b]? = some (.cells #[pl, .int .i64 n] 48 (0, 0)) := by rw [Below.heap_alloc _ _ _ (by omega)]; exact hb0
              have hnum := num_walk B b pl l n _ hbW (nums_kept hp2.out hW1 hB) hB hl hn0 hn1
              have hW : Hid _ := hW1
              clear hm0 hs0 hg0 hb0 hn0 hn1 hA hB4 hua hub hW1 hbW
              go_wp2_with (first
                | (go_at_call 22; refine hnum.mono ?_; rintro e W2 ⟨v, n', rfl, hv0, hv9, hn0, hn1, hb2, hgw⟩
                   obtain ⟨V, rfl⟩ : ∃ V : Nat, v = V := ⟨v.toNat, by omega⟩
                   obtain ⟨x, hx0, hx1, hxc0⟩ := lit9 wr V (by omega)
                   have hxc : W2.cell? ⟨wr.heap.size, V, none⟩ = some (.int .i64 x) := hgw.cell hxc0 (by simp; omega)
                   have X2 : Hid (Mat w.heap.size 25 3 W2 (.slice (some ⟨g, 0, none⟩) 8 cap) D us ∧ w.grownBy W2 (some b) ∧ W2.heap[b]? = some (.cells #[pl, .int .i64 n'] 48 (0, 0)) ∧ 0 ≤ n' ∧ n' ≤ l.length) := ⟨matB (matB hX.out.1 (allocB _) hbl) hgw hbl, grownTrans hW.out hgw, hb2, hn0, hn1⟩
                   clear hxc0 hgw hb2 hn0 hn1 hnum))
              have ho := X2.out.1.out
              rw [hX.out.2.1.len] at ho
              have q5 : W2.cell? ⟨g, I, none⟩ = some (.slice (some ⟨ga, 0, none⟩) la.length ca) := by rw [ho.cellAt I (by omega)]; exact hq.out.2.2.1
              have q6 : W2.cell? ⟨g, k, none⟩ = some (.slice (some ⟨gb, 0, none⟩) lb.length cb) := by rw [ho.cellAt k (by omega)]; exact hq.out.2.2.2
              have rA := X2.out.1.row I _ _ hq.out.1 hq.out.2.2.1
              have rB := X2.out.1.row k _ _ hq.out.2.1 hq.out.2.2.2
              have fa := rA.frozenAt k
              have fb := rB.frozenAt I
              obtain ⟨xa, hxa⟩ : ∃ xa, W2.cell? ⟨ga, k, none⟩ = some xa := ⟨.int .i64 (la[k]'(show k < la.length by rw [hla]; omega)), by rw [rA.cellAt k (show k < la.length * 1 by rw [hla]; omega), List.getElem?_map, List.getElem?_eq_getElem (by rw [hla]; omega)]; rfl⟩
              obtain ⟨xb, hxb⟩ : ∃ xb, W2.cell? ⟨gb, I, none⟩ = some xb := ⟨.int .i64 (lb[I]'(show I < lb.length by rw [hlb]; omega)), by rw [rB.cellAt I (show I < lb.length * 1 by rw [hlb]; omega), List.getElem?_map, List.getElem?_eq_getElem (by rw [hlb]; omega)]; rfl⟩
              have hne : ga ≠ gb := fun e => by have := X2.out.1.inj I k _ _ ga hq.out.2.2.1 hq.out.2.2.2 rfl (by rw [e]; rfl); omega
              have zA := (rA.lt ga rfl).1
              have zB := (rB.lt gb rfl).1
              have L1 : (I : Int) < (lb.length : Int) := by omega
              have L2 : (k : Int) < (la.length : Int) := by omega
              clear rA rB hga hgb hxc ho
              go_region
              go_wp2
              go_roundw
              case rel =>
                have m5 := X2.out.1.store hq.out.1 (show k < la.length by rw [hla]; omega) hq.out.2.2.1 x
                have m6 := m5.store (i := k) (l := lb) (by rw [List.getElem?_modify]; simp [show I ≠ k by omega, hq.out.2.1]) (show I < lb.length by rw [hlb]; omega) hq.out.2.2.2 x
                have g6 := drewB (setB (setB X2.out.2.1 (p := ⟨ga, k, none⟩) zA (.int .i64 x)) (p := ⟨gb, I, none⟩) zB (.int .i64 x))
                have s6 := sq_set2 D hX.out.2.1 I k x hI8 (by omega) (by omega) hx0 hx1
                (repeat apply Exists.intro)
                refine ⟨⟨k + 1, set2 D I k x, n', ?_, by omega, m6.drew, s6, g6, ?_, X2.out.2.2.2.1, X2.out.2.2.2.2⟩, rfl⟩
                · simp
                · show (World.setCell _ _ _).heap[b]? = _
                  rw [Below.heap_setCell _ _ _ _ (by show b ≠ gb; omega), Below.heap_setCell _ _ _ _ (by show b ≠ ga; omega)]
                  exact X2.out.2.2.1
              case measure => simp [intOf]; omega
            · have : k = I := by omega
              subst this
              go_wp2
              refine ⟨⟨k + 1, D, n, by simp, by omega, hX.out⟩, ?_⟩
              simp [intOf]; omega
        · have : I = 8 := by omega
          subst this
          go_wp2
          go_ret
          exact ⟨_, us, D, rfl, hX.out.1, hX.out.2.1, hX.out.2.2.1⟩
/-- One row more. -/
theorem Mat.push2 {B e1 e2 : Nat} {w w1 w2 w3 : World} {v v' x : Value} {M : LL} {us : List Value} {l : List Int} (h : Mat B e1 e2 w v M us) (hB : B ≤ w.heap.size)
    (hx : w1.ownsRow w.heap.size e2 1 x l.length (l.map fun n => Value.int .i64 n))
    (g1 : w.grownBy w1 none) (g2 : w1.grownBy w2 none) (hs1 : w.heap.size < w1.heap.size) (hs2 : w1.heap.size < w2.heap.size) (g3 : w2.grownBy w3 v.ownBlock) (hv : w3.ownsRow B e1 1 v' (M.length + 1) (us ++ [x]))
    (hva : v'.ownBlock = v.ownBlock ∨ v'.ownBlock = some w2.heap.size) : Mat B e1 e2 w3 v' (M ++ [l]) (us ++ [x]) := by
  have hl := h.len
  have lt : ∀ (i : Nat) (a : Value) (k : Nat), us[i]? = some a → a.ownBlock = some k → k < w.heap.size := fun i a k hi hk => by
    have hil : i < M.length := by rw [← hl]; exact (List.getElem?_eq_some_iff.1 hi).1
    exact ((h.row i _ a (List.getElem?_eq_getElem hil) hi).lt k hk).2
  have vlt : ∀ k, v.ownBlock = some k → k < w.heap.size := fun k hk => (h.out.lt k hk).2
  have split : ∀ i a, (us ++ [x])[i]? = some a → us[i]? = some a ∨ (i = us.length ∧ a = x) := fun i a hi => by
    by_cases q : i < us.length
    · rw [List.getElem?_append_left q] at hi; exact .inl hi
    · rw [List.getElem?_append_right (by omega)] at hi
      have hz : i - us.length = 0 := by
        have := (List.getElem?_eq_some_iff.1 hi).1; simp at this; omega
      rw [hz] at hi; cases hi
      exact .inr ⟨by omega, rfl⟩
  refine ⟨by rw [List.length_append]; exact hv, fun i l' u hi hu => ?_, fun i j a b k hi hj ha hb => ?_, fun i a k hi ha => ?_⟩
  · rcases split i u hu with hu | ⟨rfl, rfl⟩
    · have hil : i < M.length := by rw [← hl]; exact (List.getElem?_eq_some_iff.1 hu).1
      rw [List.getElem?_append_left hil] at hi
      have h2 := keptN (keptN (h.row i l' u hi hu) g1) g2
      refine h2.kept g3 ?_
      cases hk : u.ownBlock with
      | none => exact .inl rfl
      | some k => exact .inr fun e => h.apart i u k hu hk e.symm
    · rw [hl, List.getElem?_append_right (Nat.le_refl _), Nat.sub_self] at hi
      cases hi
      have h2 := keptN hx g2
      have h3 := h2.kept g3 (by
        cases hk : u.ownBlock with
        | none => exact .inl rfl
        | some k => exact .inr fun e => by have := vlt _ e.symm; have := (hx.lt k hk).1; omega)
      refine ⟨h3.1, ?_⟩
      rcases h3.2 with q | ⟨g, cap, cur, e, a1, a2⟩
      · exact .inl q
      · exact .inr ⟨g, cap, cur, e, Nat.le_trans hB a1, a2⟩
  · rcases split i a hi with hi2 | ⟨e1, e2⟩ <;> rcases split j b hj with hj2 | ⟨e3, e4⟩
    · exact h.inj i j a b k hi2 hj2 ha hb
    · have := lt i a k hi2 ha
      have := (hx.lt k (by rw [← e4]; exact hb)).1; omega
    · have := lt j b k hj2 hb
      have := (hx.lt k (by rw [← e2]; exact ha)).1; omega
    · omega
  · intro e
    have s1 := g1.size
    rcases split i a hi with hi2 | ⟨e1, e2⟩
    · have := lt i a k hi2 ha
      rcases hva with q | q
      · exact h.apart i a k hi2 ha (by rw [← q]; exact e)
      · rw [q] at e; simp at e; omega
    · have hxl := hx.lt k (by rw [← e2]; exact ha)
      rcases hva with q2 | q2
      · have := vlt _ (by rw [← q2]; exact e); omega
      · rw [q2] at e; simp at e; omega
/-- What a round of copying comes to. -/
theorem Mat.round2 {B e1 e2 : Nat} {w w1 w3 : World} {v v' x : Value} {L : LL} {us : List Value} {i : Nat} {l : List Int} {o : Obj} (h : Mat B e1 e2 w v (L.take i) us) (hB : B ≤ w.heap.size) (hl : L[i]? = some l) (hlp : 0 < l.length)
    (hx : w1.ownsRow w.heap.size e2 1 x l.length (l.map fun n => Value.int .i64 n))
    (g1 : w.grownBy w1 none) (g3 : (w1.alloc o).grownBy w3 v.ownBlock) (hv : w3.ownsRow B e1 1 v' ((L.take i).length + 1) (us ++ [x]))
    (hva : v'.ownBlock = v.ownBlock ∨ v'.ownBlock = some (w1.alloc o).heap.size) : Mat B e1 e2 w3 v' (L.take (i + 1)) (us ++ [x]) ∧ ∀ k, k < B → w3.heap[k]? = w.heap[k]? := by
  have hs1 : w.heap.size < w1.heap.size := by
    obtain ⟨g, cap, e⟩ := own_form hx hlp
    have := hx.lt g (by rw [e]; rfl)
    omega
  have e : L.take (i + 1) = L.take i ++ [l] := by
    rw [List.take_add_one, hl]; rfl
  rw [e]
  refine ⟨h.push2 hB hx g1 (grownAlloc o) hs1 (by simp) g3 hv hva, fun k hk => ?_⟩
  · have s1 := g1.size
    rw [g3.block k (by simp; omega) (fun q => by have := (h.out.lt k q.symm).1; omega), (grownAlloc o).block k (by omega) (fun q => by cases q), g1.block k (by omega) (fun q => by cases q)]
def refT (sm : Int × Int → Option Int) (d : LL) (a b s : Int) : Option LL :=
  cnd (sized d) (cnd (decide (1 ≤ a ∧ a ≤ 8 ∧ 1 ≤ b ∧ b ≤ 8 ∧ a ≠ b))
    (cnd (decide (b.toNat ≤ (d.getD (a.toNat - 1) []).length ∧ a.toNat ≤ (d.getD (b.toNat - 1) []).length))
      (obind (sm ((d.getD (a.toNat - 1) []).getD (b.toNat - 1) 0, s)) fun v => some (set2 d (a.toNat - 1) (b.toNat - 1) v)) none)
    (some d)) none
theorem grownFresh {w w1 : World} {o : Obj} (h : (w.alloc o).grownBy w1 (some w.heap.size)) : w.grownBy w1 none :=
  ⟨h.os, h.tape, h.output, by have := h.size; simp at this; omega, fun k hk _ => by rw [h.block k (by simp; omega) (fun e => by injection e with e; omega), Below.heap_alloc _ _ _ hk]⟩
theorem ref_cases {sm : Int × Int → Option Int} {L r : LL} {a b s : Int} (h : refT sm L a b s = some r) :
    (L.length ≤ 1000 ∧ ∀ l ∈ L, 0 < l.length ∧ l.length ≤ 1000) ∧ ((¬ (1 ≤ a ∧ a ≤ 8 ∧ 1 ≤ b ∧ b ≤ 8 ∧ a ≠ b) ∧ r = L) ∨
      (∃ (A B : Nat) (la lb : List Int) (x y : Int), a = (A : Int) + 1 ∧ b = (B : Int) + 1 ∧ A ≠ B ∧ A < 8 ∧ B < 8 ∧ L[A]? = some la ∧ L[B]? = some lb ∧ B < la.length ∧ A < lb.length ∧ la[B]? = some x ∧
        sm (x, s) = some y ∧ r = set2 L A B y)) := by
  unfold refT at h
  cases h0 : sized L with
  | false => rw [h0] at h; cases h
  | true =>
    rw [h0, fl_t] at h
    refine ⟨?_, ?_⟩
    · simp only [sized, Bool.and_eq_true, decide_eq_true_eq, List.all_eq_true] at h0
      exact h0
    · by_cases hg : 1 ≤ a ∧ a ≤ 8 ∧ 1 ≤ b ∧ b ≤ 8 ∧ a ≠ b
      · rw [decide_eq_true hg, fl_t] at h
        obtain ⟨c1, c6, c2, c7, c3⟩ := hg
        refine .inr ?_
        by_cases hc : b.toNat ≤ (L.getD (a.toNat - 1) []).length ∧ a.toNat ≤ (L.getD (b.toNat - 1) []).length
        · rw [decide_eq_true hc, fl_t] at h
          obtain ⟨c4, c5⟩ := hc
          cases h3 : sm ((L.getD (a.toNat - 1) []).getD (b.toNat - 1) 0, s) with
          | none => rw [h3] at h; cases h
          | some y =>
            rw [h3, fl_ob] at h
            injection h with h
            have gx : ∀ (q : List Int) (k : Nat), k < q.length → q[k]? = some (q.getD k 0) := fun q k hk => by rw [List.getD_eq_getElem?_getD, List.getElem?_eq_getElem hk]; rfl
            have gd : ∀ (k : Nat), 0 < (L.getD k []).length → L[k]? = some (L.getD k []) := fun k hk => by
              rw [List.getD_eq_getElem?_getD] at hk ⊢
              cases hq : L[k]? with
              | none => rw [hq] at hk; simp at hk
              | some l => rfl
            exact ⟨a.toNat - 1, b.toNat - 1, _, _, _, y, by omega, by omega, by omega, by omega, by omega, gd _ (by omega), gd _ (by omega), by omega, by omega, gx _ _ (by omega), h3, h.symm⟩
        · rw [decide_eq_false hc, fl_f] at h; cases h
      · rw [decide_eq_false hg, fl_f] at h
        injection h with h
        exact .inl ⟨hg, h.symm⟩
set_option maxHeartbeats 6400000 in
set_option maxRecDepth 100000 in
theorem ref_walk {sm : Int × Int → Option Int} (hSm : bSm Go.Proofs.Try.prog 12 sm) (L : LL) (a b s : Int) (r : LL) (hr0 : refT sm L a b s = some r) (v : Value) (w : World) (hv : RowsOld w w v L) :
    Calls Go.Proofs.Try.prog 15 #[v, .int .i64 a, .int .i64 b, .int .i64 s] w fun e w' => (∃ u us, e = .returned u ∧ Mat w.heap.size 25 3 w' u r us) ∧ Below w.heap.size w w' := by
  obtain ⟨⟨hl1, hl2⟩, hcs0⟩ := ref_cases hr0
  have hcs : Hid _ := hcs0
  clear hcs0 hr0
  obtain ⟨i3, hi3, hz3, hs3, hb3⟩ := info_parts (P := Go.Proofs.Try.prog) (e := 3) (z := .int .i64 0) (size := 1) (bytes := 8) (by kernel_rfl)
  obtain ⟨i25, hi25, hz25, hs25, hb25⟩ := info_parts (P := Go.Proofs.Try.prog) (e := 25) (z := .slice none 0 0) (size := 1) (bytes := 24) (by kernel_rfl)
  obtain ⟨p, c, rfl, hr⟩ := hv.at
  have hrw : Hid (RowsOld w w (.slice p L.length c) L) := hv
  clear hr hv
  go_enter Go.Proofs.Try.func15, Go.Proofs.Try.ntmps15
  go_wp2
  go_loopw [9, 10] (fun u9 u10 wr => ∃ (i : Nat) (us : List Value), u10 = .int .i64 (i : Int) ∧ i ≤ L.length ∧ Mat w.heap.size 25 3 wr u9 (L.take i) us ∧ Below w.heap.size w wr)
    (fun _ u10 wr => L.length - (intOf u10).toNat)
  case atStart => exact ⟨0, [], rfl, Nat.zero_le _, mat_nil _ _ _ _, Below.refl _ _⟩
  case round =>
    obtain ⟨i, us, rfl, hi, hm, hbw⟩ := hrel
    by_cases hp : i < L.length
    · obtain ⟨l, hl⟩ : ∃ l, L[i]? = some l := ⟨_, List.getElem?_eq_getElem hp⟩
      obtain ⟨p0, c0, e0, hr⟩ := (hrw.out.kept (w' := wr) fun k hk => hbw.block k hk).at
      cases e0
      obtain ⟨ad, rfl, u, hu, p2, c2, rfl, hn⟩ := hr i l hl
      obtain ⟨hlp, hlm⟩ := hl2 l (List.mem_of_getElem? hl)
      obtain ⟨ad2, rfl⟩ : ∃ ad2, p2 = some ad2 := by
        obtain ⟨x, hx⟩ : ∃ x, l[0]? = some x := ⟨_, List.getElem?_eq_getElem hlp⟩
        obtain ⟨ad2, e, _⟩ := hn 0 x hx
        exact ⟨ad2, e⟩
      have hnews : Hid (∀ j u, (l.map fun n => Value.int .i64 n)[j]? = some u → wr.cell? (ad2.add j) = some u) := fun j u hu => by
        rw [List.getElem?_map] at hu
        cases hx : l[j]? with
        | none => rw [hx] at hu; cases hu
        | some x => rw [hx] at hu; cases hu; obtain ⟨_, e, h⟩ := hn j x hx; cases e; exact h
      have hB := hbw.size
      have hu2 : (wr.alloc (.cells #[] 3)).cell? (ad.add i) = _ := (grownAlloc (w := wr) _).cell hu (by simp)
      clear hn hr hrw hl2 hu
      have hm : Hid (Mat w.heap.size 25 3 wr u9 (L.take i) us) := hm
      have hlt : (i : Int) < (L.length : Int) := by omega
      go_wp2_with (first
        | (at_builtin; refine wpList_append_own_at _ rfl _ _ 25 rfl wr.heap.size 3 i3 (.int .i64 0) 1 8 Go.Proofs.Try.underlying25 hi3 hz3 hs3 hb3 rfl (by decide) _ _ _ rfl (World.ownsRow_made wr #[] 0 (Nat.le_refl _) (by decide) rfl) ad2 l.length c2 (l.map fun n => Value.int .i64 n) rfl (by simp) (fun j u h => (grownAlloc _).cell (hnews.out j u h) (by simp)) (fun x hx => by simp at hx; obtain ⟨n, _, rfl⟩ := hx; rfl) (by unfold maxLen; omega) (by omega) (by simp) ?_; intro x w1 hx1 hg1 hnil1 hat1
           obtain ⟨g, cap, rfl⟩ := own_form hx1 (by omega)
           rw [Nat.zero_add] at hx1 hat1
           have A1 : Hid (wr.grownBy w1 none) := grownFresh hg1
           have A3 : Hid (w1.ownsRow wr.heap.size 3 1 (.slice (some ⟨g, 0, none⟩) l.length cap) l.length (l.map fun n => Value.int .i64 n)) := hx1
           clear hx1 hg1 hnil1 hat1)
        | (at_builtin; refine wpList_append_own_at _ rfl _ _ 23 rfl w.heap.size 25 i25 (.slice none 0 0) 1 24 Go.Proofs.Try.underlying23 hi25 hz25 hs25 hb25 rfl (by decide) _ _ _ rfl ((keptN hm.out.out A1.out).alloc _) ⟨w1.heap.size, 0, none⟩ 1 1 [.slice (some ⟨g, 0, none⟩) l.length cap] rfl rfl (cell_one_new _ _ _) (fun y hy => by simp at hy; subst hy; exact own_one A3.out) (by rw [List.length_take]; unfold maxLen; omega) (by rw [List.length_take]; omega) (by have := A1.out.size; simp; omega) ?_; intro v' w3 hv hg3 hnil3 hat3
           have A4 := hm.out.round2 (i := i) (l := l) hB hl hlp A3.out A1.out hg3 hv hat3
           have hB3 : w.heap.size ≤ w3.heap.size := by have := A1.out.size; have := hg3.size; simp at this; omega
           have A5 : Hid (Mat w.heap.size 25 3 w3 v' (L.take (i + 1)) (us ++ [.slice (some ⟨g, 0, none⟩) l.length cap]) ∧ Below w.heap.size w w3) := ⟨A4.1, Below.grown ((Below.grown hbw A1.out hB (fun j hj => by cases hj)).alloc (by have := A1.out.size; omega) _) hg3 (by have := A1.out.size; simp; omega) (fun j hj => (hm.out.out.lt j hj).1)⟩
           clear hnil3 hat3 hv hg3 A4))
      refine ⟨⟨i + 1, _, by simp, by omega, A5.out.1, A5.out.2⟩, ?_⟩
      simp [intOf]; omega
    · have hiL : i = L.length := by omega
      subst hiL
      rw [List.take_length] at hm
      have hB := hbw.size
      have hin : Hid (RowsOld w wr (.slice p L.length c) L) := hrw.out.kept fun k hk => hbw.block k hk
      have hmm : Hid (Mat w.heap.size 25 3 wr u9 L us) := hm
      have hbb : Hid (Below w.heap.size w wr) := hbw
      clear hm hbw hrw hl2 hi3 hi25 hz3 hs3 hb3 hz25 hs25 hb25 hi hp
      rcases hcs.out with ⟨hbad, rfl⟩ | ⟨A, B, la, lb, x, y, rfl, rfl, hAB, hA8, hB8, hA, hB2, hBl, hAl, hx, hy, rfl⟩
      · clear hcs
        have w64 : a < 1 ∨ (¬ a < 1 ∧ 8 < a) ∨ (¬ a < 1 ∧ ¬ 8 < a ∧ b < 1) ∨ (¬ a < 1 ∧ ¬ 8 < a ∧ ¬ b < 1 ∧ 8 < b) ∨ (¬ a < 1 ∧ ¬ 8 < a ∧ ¬ b < 1 ∧ ¬ 8 < b ∧ a = b) := by omega
        rcases w64 with q1 | ⟨q1, q2⟩ | ⟨q1, q2, q3⟩ | ⟨q1, q2, q3, q4⟩ | ⟨q1, q2, q3, q4, rfl⟩
        all_goals (go_wp2; go_ret; first | exact ⟨⟨_, _, rfl, hmm.out⟩, hbb.out⟩ | exact ⟨⟨_, rfl, _, hmm.out⟩, hbb.out⟩)
      · clear hcs
        obtain ⟨p0, c0, e0, hr⟩ := hin.out.at
        cases e0
        obtain ⟨ad, rfl, u, hu, p2, c2, rfl, hn⟩ := hr A la hA
        obtain ⟨ad2, rfl, hcx⟩ := hn B x hx
        have hl9 : (L.length : Int) ≤ 1000 := by omega
        have hAl2 : (A : Int) < (L.length : Int) := by have := (List.getElem?_eq_some_iff.1 hA).1; omega
        have hBl2 : (B : Int) < (L.length : Int) := by have := (List.getElem?_eq_some_iff.1 hB2).1; omega
        have hBl3 : (B : Int) < (la.length : Int) := by omega
        have hAl3 : (A : Int) < (lb.length : Int) := by omega
        have hA9 : (A : Int) < 8 := by omega
        have hB9 : (B : Int) < 8 := by omega
        obtain ⟨g, cap, ga, ca, rfl, hua, hga⟩ := hmm.out.at hA (by omega)
        obtain ⟨g', cap', gb, cb, e9, hub, hgb⟩ := hmm.out.at hB2 (by omega)
        cases e9
        have hAx : Hid (L[A]? = some la ∧ L[B]? = some lb) := ⟨hA, hB2⟩
        have hux : Hid (us[A]? = some (Value.slice (some ⟨ga, 0, none⟩) la.length ca) ∧ us[B]? = some (Value.slice (some ⟨gb, 0, none⟩) lb.length cb)) := ⟨hua, hub⟩
        clear hn hr hA hB2 hx hua hub
        have d1 : decide ((A : Int) + 1 < 1) = false := decide_eq_false (by omega)
        have d2 : decide ((B : Int) + 1 < 1) = false := decide_eq_false (by omega)
        have d3 : decide (8 < (A : Int) + 1) = false := decide_eq_false (by omega)
        have d4 : decide (8 < (B : Int) + 1) = false := decide_eq_false (by omega)
        have d5 : ((A : Int) + 1 == (B : Int) + 1) = false := by rw [beq_eq_false_iff_ne]; omega
        go_wp2_with (go_at_call 12; refine (hSm _ _ _ hy wr).mono ?_; rintro e W4 ⟨rfl, hb4⟩; have q5 := keepC hga hb4; have q6 := keepC hgb hb4; have m4 : Hid (Mat _ 25 3 _ _ L us) := hmm.out.kept hb4; have b4 : Hid _ := upB hbb.out hB hb4)
        have fa := (m4.out.row A _ _ hAx.out.1 hux.out.1).frozenAt B
        have fb := (m4.out.row B _ _ hAx.out.2 hux.out.2).frozenAt A
        obtain ⟨xa, hxa⟩ : ∃ xa, W4.cell? ⟨ga, B, none⟩ = some xa := ⟨.int .i64 (la[B]'hBl), by rw [(m4.out.row A _ _ hAx.out.1 hux.out.1).cellAt B (by omega), List.getElem?_map, List.getElem?_eq_getElem hBl]; rfl⟩
        obtain ⟨xb, hxb⟩ : ∃ xb, W4.cell? ⟨gb, A, none⟩ = some xb := ⟨.int .i64 (lb[A]'hAl), by rw [(m4.out.row B _ _ hAx.out.2 hux.out.2).cellAt A (by omega), List.getElem?_map, List.getElem?_eq_getElem hAl]; rfl⟩
        have hne : ga ≠ gb := fun e => hAB (m4.out.inj A B _ _ ga hux.out.1 hux.out.2 rfl (by rw [e]; rfl))
        clear hb4 hmm hbb hin hy hga hgb hu hcx
        go_region
        go_wp2
        go_ret
        have m5 := m4.out.store hAx.out.1 hBl hux.out.1 y
        have m6 := m5.store (i := B) (l := lb) (by rw [List.getElem?_modify]; simp [hAB, hAx.out.2]) hAl hux.out.2 y
        refine ⟨⟨_, us, rfl, ?_⟩, ?_⟩
        · exact m6.drew
        · exact ((b4.out.setCell ((m4.out.row A _ _ hAx.out.1 hux.out.1).lt ga rfl).1 _).setCell ((m4.out.row B _ _ hAx.out.2 hux.out.2).lt gb rfl).1 _).drew
def bSame (P : Program) (f : Nat) (same : LL × LL → Option Bool) : Prop := ∀ L M r, same (L, M) = some r → ∀ w v u, RowsOld w w v L → RowsOld w w u M → Calls P f #[v, u] w fun e w' => e = .returned (.bool r) ∧ Below w.heap.size w w'
def bTrue (P : Program) (f : Nat) : Prop := ∀ w, Calls P f #[] w fun e w' => e = .returned (.bool true) ∧ Below w.heap.size w w'
/-- What the statement asks of its parts. -/
def allP (may mayR : MayF) (nu : Int × Int → Option Bool) (sm smR : Int × Int → Option Int) (same : LL × LL → Option Bool) (s old v : Int) (W : LL) : Prop :=
  (∀ D, SqD D → may D = some true ∧ (∀ i j, i < 8 → j < 8 → ∃ r, may (D.modify i (·.set j v)) = some r ∧ mayR (D.modify i (·.set j v)) = some r) ∧
    ∀ a b, ∃ R, learnT may nu sm D a b s = some R ∧ refT smR D a b s = some R ∧ same (R, R) = some true) ∧
  (∃ r, may W = some r ∧ mayR W = some r) ∧ ∃ r, sm (old, s) = some r ∧ smR (old, s) = some r
theorem matOld {B e1 e2 : Nat} {w : World} {v : Value} {M : LL} {us : List Value} (h : Mat B e1 e2 w v M us) : RowsOld w w v M := h.rp fun p _ h2 => h2
theorem oldUp {w w1 : World} {v : Value} {M : LL} (h : RowsOld w w v M) (hb : Below w.heap.size w w1) : RowsOld w1 w1 v M :=
  Rp.mono (fun p (hp : p.block < w.heap.size) => ⟨Nat.lt_of_lt_of_le hp hb.size, World.cell?_of_block (hb.block _ hp)⟩) h
theorem oldG {w w1 : World} {v : Value} {M : LL} (h : RowsOld w w v M) (hb : w.grownBy w1 none) : RowsOld w1 w1 v M :=
  oldUp h ⟨hb.os, hb.tape, hb.output, hb.size, fun k hk => hb.block k hk (fun e => by cases e)⟩
theorem matG {B e1 e2 : Nat} {w w' : World} {v : Value} {M : LL} {us : List Value} (h : Mat B e1 e2 w v M us) (g : w.grownBy w' none) : Mat B e1 e2 w' v M us :=
  ⟨keptN h.out g, fun i l u hi hu => keptN (h.row i l u hi hu) g, h.inj, h.apart⟩
theorem made_walk (p : Option Addr) (n c : Nat) (w : World) : Calls Go.Proofs.Try.prog 7 #[.slice p n c] w fun e w' => e = .returned (.pointer (some ⟨w.heap.size, 0, none⟩)) ∧ w' = w.alloc (.cells #[.slice p n c, .int .i64 0] 48) := by
  go_enter Go.Proofs.Try.func7, Go.Proofs.Try.ntmps7
  go_wp2
  go_ret
  exact ⟨rfl, rfl⟩
theorem setN {a w : World} (h : a.grownBy w none) {p : Addr} (hp : a.heap.size ≤ p.block) (v : Value) : a.grownBy (w.setCell p v) none :=
  ⟨h.os, h.tape, h.output, by simpa using h.size, fun k hk hkb => by rw [Below.heap_setCell _ _ _ _ (by omega)]; exact h.block k hk hkb⟩
/-- What is carried from call to call. -/
structure Bd (w W : World) (ud ux wl : Value) (D X M : LL) : Prop where
  d : RowsOld W W ud D
  x : RowsOld W W ux X
  l : RowsOld W W wl M
  b : Below w.heap.size w W
theorem Bd.next {w W W' : World} {ud ux wl : Value} {D X M : LL} (h : Bd w W ud ux wl D X M) (hb : Below W.heap.size W W') : Bd w W' ud ux wl D X M :=
  ⟨oldUp h.d hb, oldUp h.x hb, oldUp h.l hb, upB h.b h.b.size hb⟩
set_option maxHeartbeats 6400000 in
set_option maxRecDepth 100000 in
theorem all_walk {may mayR : MayF} {nu : Int × Int → Option Bool} {sm smR : Int × Int → Option Int} {same : LL × LL → Option Bool} (hbeg : bTrue Go.Proofs.Try.prog 6) (hMay : bMay Go.Proofs.Try.prog 9 may) (hMR : bMay Go.Proofs.Try.prog 10 mayR) (hNu : bNum Go.Proofs.Try.prog 27 nu) (hSm : bSm Go.Proofs.Try.prog 11 sm) (hSR : bSm Go.Proofs.Try.prog 12 smR) (hSame : bSame Go.Proofs.Try.prog 13 same)
    (l : List Int) (a b s old : Int) (W : LL) (T v : Int) (hT0 : 0 ≤ T) (hT1 : T ≤ 255) (hP : allP may mayR nu sm smR same s old v W) (pl wl : Value) (w : World) (hp : NumsAt w.heap.size w pl l) (hw : RowsOld w w wl W) :
    Calls Go.Proofs.Try.prog 3 #[pl, .int .i64 a, .int .i64 b, .int .i64 s, .int .i64 old, wl, .int .u8 T, .int .i64 v] w fun e w' => e = .returned (.bool true) ∧ Below w.heap.size w w' := by
  obtain ⟨p0, c0, rfl, hp0⟩ := hp
  have hpx : Hid (NumsAt w.heap.size w (.slice p0 l.length c0) l) := ⟨p0, c0, rfl, hp0⟩
  clear hp0
  obtain ⟨p, c, rfl, hr⟩ := hw.at
  have hwx : Hid (RowsOld w w (.slice p W.length c) W) := hw
  have hPx : Hid _ := hP
  clear hP hw hr
  by_cases z1 : 30 < l.length
  · have z1 : (30 : Int) < (l.length : Int) := by omega
    go_enter Go.Proofs.Try.func3, Go.Proofs.Try.ntmps3
    go_wp2_with (go_at_call 6; refine (hbeg w).mono ?_; rintro e w1 ⟨rfl, hb1⟩)
    go_ret
    exact ⟨rfl, hb1⟩
  by_cases z2 : 10 < W.length
  · have z1 : ¬ (30 : Int) < (l.length : Int) := by omega
    have z2 : (10 : Int) < (W.length : Int) := by omega
    go_enter Go.Proofs.Try.func3, Go.Proofs.Try.ntmps3
    go_wp2_with (go_at_call 6; refine (hbeg w).mono ?_; rintro e w1 ⟨rfl, hb1⟩)
    go_ret
    exact ⟨rfl, hb1⟩
  have z1 : ¬ (30 : Int) < (l.length : Int) := by omega
  have z2 : ¬ (10 : Int) < (W.length : Int) := by omega
  go_enter Go.Proofs.Try.func3, Go.Proofs.Try.ntmps3
  go_wp2_with (go_at_call 6; refine (hbeg w).mono ?_; rintro e w1 ⟨rfl, hb1⟩)
  have hwy : Hid (RowsOld w1 w1 (.slice p W.length c) W) := oldUp hwx.out hb1
  go_loopw [17] (fun u17 wr => ∃ i : Nat, u17 = .int .i64 (i : Int) ∧ i ≤ W.length ∧ wr = w1) (fun u17 wr => W.length - (intOf u17).toNat)
  case atStart => exact ⟨0, rfl, by omega, rfl⟩
  case round =>
    obtain ⟨i, rfl, hi, rfl⟩ := hrel
    by_cases hi2 : i < W.length
    · have hi3 : (i : Int) < (W.length : Int) := by omega
      obtain ⟨r, hrow⟩ : ∃ r, W[i]? = some r := ⟨_, List.getElem?_eq_getElem hi2⟩
      obtain ⟨p0', c0', e0, hr⟩ := hwy.out.at
      cases e0
      obtain ⟨ad, rfl, u, hu, p2, c2, rfl, hn⟩ := hr i r hrow
      clear hn hr hrow
      by_cases hr9 : (10 : Int) < (r.length : Int)
      · go_wp2
        go_ret
        exact ⟨rfl, hb1⟩
      · go_wp2
        refine ⟨⟨i + 1, by simp, by omega, trivial⟩, ?_⟩
        simp [intOf]; omega
    · have : i = W.length := by omega
      subst this
      have hz := hb1.size
      have hbx : Hid (Below w.heap.size w wr) := hb1
      clear hb1 hwx hi hi2
      obtain ⟨t, rfl⟩ : ∃ t : Nat, T = t := ⟨T.toNat, by omega⟩
      obtain ⟨I, hI⟩ : ∃ I : Nat, (t : Int) % 8 = (I : Int) := ⟨t % 8, by omega⟩
      obtain ⟨J, hJ⟩ : ∃ J : Nat, (t : Int) / 8 % 8 = (J : Int) := ⟨t / 8 % 8, by omega⟩
      have hI8 : (I : Int) < 8 := by omega
      have hJ8 : (J : Int) < 8 := by omega
      obtain ⟨⟨rW, hW1, hW2'⟩, rS, hS1, hS2⟩ := hPx.out.2
      have hPy := hPx.out.1
      have hPz : Hid _ := hPy
      clear hPy hPx hT0 hT1
      go_wp2_with (first
        | (go_at_call 7; refine (made_walk p0 l.length c0 wr).mono ?_; rintro e W2 ⟨rfl, hW2⟩
           have x1 : Hid (W2.heap[wr.heap.size]? = some (.cells #[.slice p0 l.length c0, .int .i64 0] 48 (0, 0))) := by rw [hW2]; exact heap_alloc_new wr _
           have g1 : Hid (wr.grownBy W2 none ∧ wr.heap.size < W2.heap.size ∧ NumsAt w.heap.size W2 (.slice p0 l.length c0) l) := by
             subst hW2
             exact ⟨grownAlloc _, by simp, nums_kept hpx.out (grownTrans (belowB hbx.out) (allocB (b := wr.heap.size) _)) hz⟩
           have y1 : Hid (∀ W', W2.grownBy W' (some wr.heap.size) → wr.grownBy W' none) := fun W' h => by subst hW2; exact grownFresh h
           clear hW2)
        | (go_at_call 8; refine (dist_walk w.heap.size wr.heap.size (.slice p0 l.length c0) l W2 x1.out g1.out.2.2 hz (by omega)).mono ?_; rintro e W3 ⟨ud, usd, D, rfl, m1, s1, h3⟩
           have m1x : Hid (Mat W2.heap.size 25 3 W3 ud D usd ∧ SqD D ∧ wr.grownBy W3 none) := ⟨m1, s1, y1.out _ h3⟩
           have n1x : Hid (NumsAt w.heap.size W3 (.slice p0 l.length c0) l ∧ w.heap.size ≤ W3.heap.size) := ⟨nums_kept g1.out.2.2 h3 hz, by have := (y1.out _ h3).size; omega⟩
           clear m1 s1 h3 x1 g1 y1)
        | (go_at_call 7; refine (made_walk p0 l.length c0 W3).mono ?_; rintro e W4 ⟨rfl, hW4⟩
           have x3 : Hid (W4.heap[W3.heap.size]? = some (.cells #[.slice p0 l.length c0, .int .i64 0] 48 (0, 0))) := by rw [hW4]; exact heap_alloc_new W3 _
           have g3 : Hid (NumsAt w.heap.size W4 (.slice p0 l.length c0) l) := by
             subst hW4
             exact nums_kept n1x.out.1 (allocB (b := W3.heap.size) _) n1x.out.2
           have z34 : Hid (W3.heap.size ≤ W4.heap.size) := by subst hW4; show W3.heap.size ≤ (World.alloc _ _).heap.size; simp
           have y3 : Hid (∀ W', W4.grownBy W' (some W3.heap.size) → W3.grownBy W' none) := fun W' h => by subst hW4; exact grownFresh h
           clear hW4)
        | (go_at_call 8; refine (dist_walk w.heap.size W3.heap.size (.slice p0 l.length c0) l W4 x3.out g3.out n1x.out.2 (by omega)).mono ?_; rintro e W5 ⟨ux, us2, D2, rfl, m2, s2, h5⟩
           obtain ⟨la, hA, hla⟩ := sq_get s2 (show I < 8 by omega)
           obtain ⟨g, cap, ga, ca, rfl, hua, hga⟩ := m2.at hA (by omega)
           have rA := m2.row I _ _ hA hua
           have fa := rA.frozenAt J
           obtain ⟨xa, hxa⟩ : ∃ xa, W5.cell? ⟨ga, J, none⟩ = some xa := ⟨.int .i64 (la[J]'(show J < la.length by rw [hla]; omega)), by rw [rA.cellAt J (show J < la.length * 1 by rw [hla]; omega), List.getElem?_map, List.getElem?_eq_getElem (by rw [hla]; omega)]; rfl⟩
           have m6 := m2.store hA (show J < la.length by rw [hla]; omega) hua v
           have zA := (rA.lt ga rfl).1
           have hL2 : D2.length = 8 := s2.len
           have hL3 : (J : Int) < (la.length : Int) := by omega
           have g35 := y3.out _ h5
           have g46 : W4.heap.size ≤ ga := zA
           have g34 : W3.heap.size ≤ W4.heap.size := z34.out
           have g36 := setN g35 (p := ⟨ga, J, none⟩) (by show W3.heap.size ≤ ga; omega) (.int .i64 v)
           have gw6 : wr.grownBy (W5.setCell ⟨ga, J, none⟩ (.int .i64 v)) none := ⟨g36.os.trans m1x.out.2.2.os, g36.tape.trans m1x.out.2.2.tape, g36.output.trans m1x.out.2.2.output, Nat.le_trans m1x.out.2.2.size g36.size, fun k hk hn => (g36.block k (Nat.lt_of_lt_of_le hk m1x.out.2.2.size) hn).trans (m1x.out.2.2.block k hk hn)⟩
           have B0 : Hid (Bd w (W5.setCell ⟨ga, J, none⟩ (.int .i64 v)) ud (.slice (some ⟨g, 0, none⟩) D2.length cap) (.slice p W.length c) D (D2.modify I (·.set J v)) W) :=
             ⟨oldG (matOld m1x.out.1) g36, matOld m6, oldG hwy.out gw6, Below.grown hbx.out gw6 hz (fun j hj => by cases hj)⟩
           rw [hL2] at B0
           obtain ⟨hD1, _, hDL⟩ := hPz.out D m1x.out.2.1
           obtain ⟨_, hDX, _⟩ := hPz.out D2 s2
           obtain ⟨rX, hX1, hX2⟩ := hDX I J (by omega) (by omega)
           obtain ⟨R1, hl1, hr1, hs1⟩ := hDL a b
           obtain ⟨R2, hl2, hr2, hs2⟩ := hDL (1 + (I : Int)) (1 + (J : Int))
           have Q1 : Hid (may D = some true) := hD1
           have Q2 : Hid (may (D2.modify I (·.set J v)) = some rX ∧ mayR (D2.modify I (·.set J v)) = some rX) := ⟨hX1, hX2⟩
           have Q3 : Hid (learnT may nu sm D a b s = some R1 ∧ refT smR D a b s = some R1 ∧ same (R1, R1) = some true) := ⟨hl1, hr1, hs1⟩
           have Q4 : Hid (learnT may nu sm D (1 + (I : Int)) (1 + (J : Int)) s = some R2 ∧ refT smR D (1 + (I : Int)) (1 + (J : Int)) s = some R2 ∧ same (R2, R2) = some true) := ⟨hl2, hr2, hs2⟩
           clear m2 s2 h5 x3 g3 y3 hDL hDX hX1 hX2 hl1 hr1 hs1 hl2 hr2 hs2 hD1 m6 g35 g46 g34 g36 gw6 m1x n1x rA zA hA hua hla)
        | (go_at_call 9; refine (hMay D true Q1.out _ _ _ (Nat.le_refl _) B0.out.d).mono ?_; rintro e U1 ⟨rfl, k⟩; have B1 : Hid _ := B0.out.next k; clear B0 k)
        | (go_at_call 9; refine (hMay _ rX Q2.out.1 _ _ _ (Nat.le_refl _) B1.out.x).mono ?_; rintro e U2 ⟨rfl, k⟩; have B2 : Hid _ := B1.out.next k; clear B1 k)
        | (go_at_call 10; refine (hMR _ rX Q2.out.2 _ _ _ (Nat.le_refl _) B2.out.x).mono ?_; rintro e U3 ⟨rfl, k⟩; have B3 : Hid _ := B2.out.next k; clear B2 k)
        | (go_at_call 9; refine (hMay _ rW hW1 _ _ _ (Nat.le_refl _) B3.out.l).mono ?_; rintro e U4 ⟨rfl, k⟩; have B4 : Hid _ := B3.out.next k; clear B3 k)
        | (go_at_call 10; refine (hMR _ rW hW2' _ _ _ (Nat.le_refl _) B4.out.l).mono ?_; rintro e U5 ⟨rfl, k⟩; have B5 : Hid _ := B4.out.next k; clear B4 k)
        | (go_at_call 11; refine (hSm _ _ rS hS1 _).mono ?_; rintro e U6 ⟨rfl, k⟩; have B6 : Hid _ := B5.out.next k; clear B5 k)
        | (go_at_call 12; refine (hSR _ _ rS hS2 _).mono ?_; rintro e U7 ⟨rfl, k⟩; have B7 : Hid _ := B6.out.next k; clear B6 k)
        | (go_at_call 14; refine (learn_walk hMay hNu hSm D _ _ _ R1 Q3.out.1 _ _ B7.out.d).mono ?_; rintro e U8 ⟨⟨u1, us1, rfl, m⟩, k⟩; have B8 : Hid _ := B7.out.next k; have C8 : Hid _ := matOld m; clear B7 k m)
        | (go_at_call 15; refine (ref_walk hSR D _ _ _ R1 Q3.out.2.1 _ _ B8.out.d).mono ?_; rintro e U9 ⟨⟨u2, us2', rfl, m⟩, k⟩; have B9 : Hid _ := B8.out.next k; have C9 : Hid _ := matOld m; have E9 : Hid _ := oldUp C8.out k; clear B8 C8 k m)
        | (go_at_call 13; refine (hSame R1 R1 true Q3.out.2.2 _ _ _ E9.out C9.out).mono ?_; rintro e V1 ⟨rfl, k⟩; have G1 : Hid _ := B9.out.next k; clear B9 C9 E9 k)
        | (go_at_call 14; refine (learn_walk hMay hNu hSm D _ _ _ R2 Q4.out.1 _ _ G1.out.d).mono ?_; rintro e V2 ⟨⟨u3, us3, rfl, m⟩, k⟩; have G2 : Hid _ := G1.out.next k; have F2 : Hid _ := matOld m; clear G1 k m)
        | (go_at_call 15; refine (ref_walk hSR D _ _ _ R2 Q4.out.2.1 _ _ G2.out.d).mono ?_; rintro e V3 ⟨⟨u4, us4, rfl, m⟩, k⟩; have G3 : Hid _ := G2.out.next k; have F3 : Hid _ := matOld m; have E3 : Hid _ := oldUp F2.out k; clear G2 F2 k m)
        | (go_at_call 13; refine (hSame R2 R2 true Q4.out.2.2 _ _ _ E3.out F3.out).mono ?_; rintro e V4 ⟨rfl, k⟩; have G4 : Hid _ := G3.out.next k; clear G3 F3 E3 k))
      go_ret
      exact ⟨rfl, G4.out.b⟩

theorem bTrue_of {P : Program} {f : Nat} (h : Spec2 P f [] [] (.bs true) [] []) : bTrue P f := by
  intro w
  refine (call_flat h (cargs := #[]) (w := w) fun T β S => ⟨rfl, fun i d u hd hu => by simp at hd⟩).mono ?_
  rintro e w' ⟨⟨v, rfl, T, β, S, hv⟩, hb⟩
  rw [hv.bs_]
  exact ⟨rfl, hb⟩
theorem bSame_of {P : Program} {f : Nat} {same : LL × LL → Option Bool} (h : ∀ x r, same x = some r → Spec2 P f [.lst ⟨.list (.int .i64), x.1⟩, .lst ⟨.list (.int .i64), x.2⟩] [] (.bs r) [] []) : bSame P f same := by
  intro L M r hr w v u hv hu
  have one : ∀ {v : Value} {L : LL}, RowsOld w w v L → Rv (tabU [] []) (fun x => x) (Stable (fun p => p.block < w.heap.size) (tabU [] []) (fun x => x) w) w (.lst ⟨.list (.int .i64), L⟩) v := fun hv =>
    .pure (Rp.mono (fun p hp => ⟨⟨hp, hp, fun t ht => absurd ht (tab0_live t)⟩, rfl⟩) hv)
  refine (h (L, M) r hr w #[v, u] (fun x => x) (fun p => p.block < w.heap.size) (tr0 _ _ _) (lr2 (one hv) (one hu))).mono ?_
  rintro e w' ⟨v, β', rfl, hk, _, hr, _⟩
  refine ⟨?_, (hk.mono (Y := fun _ => False) fun k _ hx => by obtain ⟨t, ht, _⟩ := hx; exact tab0_live t ht).below⟩
  rw [hr.bs_]
theorem cells_u8 (l : List Int) : TL.cells ⟨.int .u8, l⟩ = l.map fun n => V.int .u8 n := by
  show l.flatMap _ = _
  induction l with
  | nil => rfl
  | cons a r ih => rw [List.flatMap_cons, List.map_cons, ih]; rfl
theorem nums_of {S : Addr → Prop} {w : World} {B : Nat} {l : List Int} {v : Value} (h : Rp S w (.lst ⟨.int .u8, l⟩) v) (hS : ∀ p, S p → p.block < B) (hU : ∀ n ∈ l, 0 ≤ n ∧ n ≤ 255) : NumsAt B w v l := by
  cases h with
  | lst h =>
    rw [cells_u8] at h
    generalize hK : (l.map fun n => V.int .u8 n) = K at h
    generalize hn : (TL.l ⟨.int .u8, l⟩).length = n at h
    have hn : l.length = n := hn
    cases h with
    | sl hc hm hl h =>
      subst hn
      refine ⟨_, _, rfl, fun j n hn => ?_⟩
      have hj : K[j]? = some (.int .u8 n) := by rw [← hK, List.getElem?_map, hn]; rfl
      obtain ⟨u, hu⟩ := getAt (n := 0) hl hj
      have h1 := hm j u hu
      have h2 := h j _ u hj hu
      cases h2
      refine ⟨(hU n (List.mem_of_getElem? hn)).1, (hU n (List.mem_of_getElem? hn)).2, _, rfl, ?_, h1.2⟩
      have := hS _ h1.1
      unfold Addr.add at this
      split at this <;> exact this
    | slz =>
      have : l = [] := List.eq_nil_of_length_eq_zero hn
      subst this
      exact ⟨none, 0, rfl, fun j n hn => by simp at hn⟩
theorem all_spec {may mayR : MayF} {nu : Int × Int → Option Bool} {sm smR : Int × Int → Option Int} {same : LL × LL → Option Bool} (hMay : bMay Go.Proofs.Try.prog 9 may) (hMR : bMay Go.Proofs.Try.prog 10 mayR) (hNu : bNum Go.Proofs.Try.prog 27 nu) (hSm : bSm Go.Proofs.Try.prog 11 sm) (hSR : bSm Go.Proofs.Try.prog 12 smR) (hSame : bSame Go.Proofs.Try.prog 13 same)
    {l : List Int} {a b s old : Int} {W : LL} {T v : Int} (hbeg : bTrue Go.Proofs.Try.prog 6) (hU : ∀ n ∈ l, 0 ≤ n ∧ n ≤ 255) (hT0 : 0 ≤ T) (hT1 : T ≤ 255) (hP : allP may mayR nu sm smR same s old v W) :
    Spec2 Go.Proofs.Try.prog 3 [.lst ⟨.int .u8, l⟩, .int .i64 a, .int .i64 b, .int .i64 s, .int .i64 old, .lst ⟨.list (.int .i64), W⟩, .int .u8 T, .int .i64 v] [] (.bs true) [] [] := by
  intro w cargs β S htr hargs
  obtain ⟨ca⟩ := cargs
  obtain ⟨v0, l1, rfl, r0, hl⟩ := LR.head (vs := ca) hargs
  obtain ⟨v1, l2, rfl, r1, hl⟩ := LR.head hl
  obtain ⟨v2, l3, rfl, r2, hl⟩ := LR.head hl
  obtain ⟨v3, l4, rfl, r3, hl⟩ := LR.head hl
  obtain ⟨v4, l5, rfl, r4, hl⟩ := LR.head hl
  obtain ⟨v5, l6, rfl, r5, hl⟩ := LR.head hl
  obtain ⟨v6, l7, rfl, r6, hl⟩ := LR.head hl
  obtain ⟨v7, l8, rfl, r7, hl⟩ := LR.head hl
  have : l8 = [] := List.eq_nil_of_length_eq_zero hl.1.symm
  subst this
  rw [r1.int_, r2.int_, r3.int_, r4.int_, r6.int_, r7.int_]
  refine (all_walk hbeg hMay hMR hNu hSm hSR hSame l a b s old W T v hT0 hT1 hP v0 v5 w ?_ ?_).mono ?_
  · cases r0 with
    | pure r0 => exact nums_of r0 (fun p hp => hp.2.1) hU
  · cases r5 with
    | pure r5 => exact Rp.mono (fun p hp => ⟨hp.2.1, rfl⟩) r5
  · rintro e w' ⟨rfl, hb⟩
    exact ⟨_, β, rfl, ⟨hb.os, hb.tape, hb.output, hb.size, fun k hk _ => hb.block k hk, fun k hk => .same (hb.block k hk)⟩, tr0 _ _ _, .pure (.bs (.bool true)), rfl, fun j hj => absurd hj (by simp), fun j hj => absurd hj (by simp)⟩
end Go.Abs
