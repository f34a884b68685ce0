/- RttLearn: for all arguments the call returns true. The law is brought to a function of Lean's own (W_..) by the machine of the texts beside it, and that is reckoned; no condition. -/
import Derived.Test.YtpohfnebmmjpdaaExtLn
import Derived.Test.YtpohfnebmmjpdaaExtCm
import Derived.Test.YtpohfnebmmjpdaaRows
import Derived.WalkKit
import Derived.ProofKit
import Derived.OpenShut
import Derived.ShutString
import Derived.ChangeOld
import Derived.Below
import Derived.Laws.Slices
import Derived.OwnWalk
import Derived.BigCall
import Derived.BigRegion
namespace Go.Proofs.Ytpohfnebmmjpdaa.rttLearnX
open Go.Abs Go.RowKit Go.ChangeShapes Go.WideShapes Go.ChangeAt
set_option maxRecDepth 100000
set_option linter.unusedVariables false
set_option linter.unusedSimpArgs false
noncomputable abbrev P0 : Program := Try.prog
noncomputable def bodyOf (fn : Func) : Code := fn.body.getD .skip
def L0 : Lend := fun f => aget [] [(57, [0]), (82, [0]), (87, [0]), (91, [0]), (92, [0]), (93, [0]), (95, [0]), (96, [0]), (98, [0]), (99, [0]), (106, [0])] f
def kpL (l : List Bool) : Nat → Bool := fun j => l.getD j true
theorem own : ownKnob Try.prog.godebug = none := by kernel_rfl
theorem laidOut : laidOutB Try.prog = true := by kernel_rfl
theorem mixed : P0.follows .mixedOrders = true := by decide +kernel
theorem progOk_ : progOk P0 = true := by decide +kernel
set_option maxHeartbeats 6400000 in
set_option maxRecDepth 100000 in
theorem learn_walk {may : MayF} {nu : Int × Int → Option Bool} {sm : Int × Int → Option Int} (hMay : bMay Try.prog 9 may) (hNu : bNum Try.prog 27 nu) (hSm : bSm Try.prog 11 sm) (L : LL) (a b s : Int) (r : LL) (hr0 : learnT may nu sm L a b s = some r) (v : Value) (w : World) (hv : RowsOld w w v L) :
    Calls Try.prog 14 #[v, .int .i64 a, .int .i64 b, .int .i64 s] w fun e w' => (∃ u us, e = .returned u ∧ Mat w.heap.size 25 3 w' u r us) ∧ Below w.heap.size w w' := by
  obtain ⟨⟨hl1, hl2⟩, hcs0⟩ := learn_cases hr0
  have hcs : Hid _ := hcs0
  clear hcs0 hr0
  obtain ⟨i3, hi3, hz3, hs3, hb3⟩ := info_parts (P := Try.prog) (e := 3) (z := .int .i64 0) (size := 1) (bytes := 8) (by kernel_rfl)
  obtain ⟨i25, hi25, hz25, hs25, hb25⟩ := info_parts (P := Try.prog) (e := 25) (z := .slice none 0 0) (size := 1) (bytes := 24) (by kernel_rfl)
  obtain ⟨p, c, rfl, hr⟩ := hv.at
  have hrw : Hid (RowsOld w w (.slice p L.length c) L) := hv
  clear hr hv
  go_enter Try.func14, Try.ntmps14
  go_wp2
  go_loopw [9, 15] (fun u9 u15 wr => ∃ (i : Nat) (us : List Value), u15 = .int .i64 (i : Int) ∧ i ≤ L.length ∧ Mat w.heap.size 25 3 wr u9 (L.take i) us ∧ Below w.heap.size w wr)
    (fun _ u15 wr => L.length - (intOf u15).toNat)
  case atStart => exact ⟨0, [], rfl, Nat.zero_le _, mat_nil _ _ _ _, Below.refl _ _⟩
  case round =>
    obtain ⟨i, us, rfl, hi, hm, hbw⟩ := hrel
    by_cases hp : i < L.length
    · obtain ⟨l, hl⟩ : ∃ l, L[i]? = some l := ⟨_, List.getElem?_eq_getElem hp⟩
      obtain ⟨p0, c0, e0, hr⟩ := (hrw.out.kept (w' := wr) fun k hk => hbw.block k hk).at
      cases e0
      obtain ⟨ad, rfl, u, hu, p2, c2, rfl, hn⟩ := hr i l hl
      obtain ⟨hlp, hlm⟩ := hl2 l (List.mem_of_getElem? hl)
      obtain ⟨ad2, rfl⟩ : ∃ ad2, p2 = some ad2 := by
        obtain ⟨x, hx⟩ : ∃ x, l[0]? = some x := ⟨_, List.getElem?_eq_getElem hlp⟩
        obtain ⟨ad2, e, _⟩ := hn 0 x hx
        exact ⟨ad2, e⟩
      have hnews : Hid (∀ j u, (l.map fun n => Value.int .i64 n)[j]? = some u → wr.cell? (ad2.add j) = some u) := fun j u hu => by
        rw [List.getElem?_map] at hu
        cases hx : l[j]? with
        | none => rw [hx] at hu; cases hu
        | some x => rw [hx] at hu; cases hu; obtain ⟨_, e, h⟩ := hn j x hx; cases e; exact h
      have hB := hbw.size
      clear hn hr hrw hl2
      have hm : Hid (Mat w.heap.size 25 3 wr u9 (L.take i) us) := hm
      have hlt : (i : Int) < (L.length : Int) := by omega
      go_wp2_with (first
        | (at_builtin; refine wpList_append_own_at _ rfl _ _ 25 rfl wr.heap.size 3 i3 (.int .i64 0) 1 8 Try.underlying25 hi3 hz3 hs3 hb3 rfl (by decide) _ _ _ rfl (World.ownsRow_nil _ _ _ _) ad2 l.length c2 (l.map fun n => Value.int .i64 n) rfl (by simp) hnews.out (fun x hx => by simp at hx; obtain ⟨n, _, rfl⟩ := hx; rfl) (by unfold maxLen; omega) (by omega) (Nat.le_refl _) ?_; intro x w1 hx1 hg1 hnil1 hat1
           obtain ⟨g, cap, rfl⟩ := own_form hx1 (by omega)
           rw [Nat.zero_add] at hx1 hat1
           have A1 : Hid (wr.grownBy w1 none) := hg1
           have A2 : Hid (some g = none ∨ some g = some wr.heap.size) := hat1
           have A3 : Hid (w1.ownsRow wr.heap.size 3 1 (.slice (some ⟨g, 0, none⟩) l.length cap) l.length (l.map fun n => Value.int .i64 n)) := hx1
           clear hx1 hg1 hnil1 hat1)
        | (at_builtin; refine wpList_append_own_at _ rfl _ _ 23 rfl w.heap.size 25 i25 (.slice none 0 0) 1 24 Try.underlying23 hi25 hz25 hs25 hb25 rfl (by decide) _ _ _ rfl ((keptN hm.out.out A1.out).alloc _) ⟨w1.heap.size, 0, none⟩ 1 1 [.slice (some ⟨g, 0, none⟩) l.length cap] rfl rfl (cell_one_new _ _ _) (fun y hy => by simp at hy; subst hy; exact own_one A3.out) (by rw [List.length_take]; unfold maxLen; omega) (by rw [List.length_take]; omega) (by have := A1.out.size; simp; omega) ?_; intro v' w3 hv hg3 hnil3 hat3
           have A4 := hm.out.round (i := i) (l := l) hB hl hlp A3.out A2.out A1.out hg3 hv hat3
           have hB3 : w.heap.size ≤ w3.heap.size := by have := A1.out.size; have := hg3.size; simp at this; omega
           have A5 : Hid (Mat w.heap.size 25 3 w3 v' (L.take (i + 1)) (us ++ [.slice (some ⟨g, 0, none⟩) l.length cap]) ∧ Below w.heap.size w w3) := ⟨A4.1, Below.grown ((Below.grown hbw A1.out hB (fun j hj => by cases hj)).alloc (by have := A1.out.size; omega) _) hg3 (by have := A1.out.size; simp; omega) (fun j hj => (hm.out.out.lt j hj).1)⟩
           clear hnil3 hat3 hv hg3 A4))
      refine ⟨⟨i + 1, _, by simp, by omega, A5.out.1, A5.out.2⟩, ?_⟩
      simp [intOf]; omega
    · have hiL : i = L.length := by omega
      subst hiL
      rw [List.take_length] at hm
      have hB := hbw.size
      have hin : Hid (RowsOld w wr (.slice p L.length c) L) := hrw.out.kept fun k hk => hbw.block k hk
      have hmm : Hid (Mat w.heap.size 25 3 wr u9 L us) := hm
      have hbb : Hid (Below w.heap.size w wr) := hbw
      clear hm hbw hrw hl2 hi3 hi25 hz3 hs3 hb3 hz25 hs25 hb25 hi hp
      rcases hcs.out with ⟨hm1, rfl⟩ | ⟨hm1, hn1, rfl⟩ | ⟨hm1, hn1, A, B, la, lb, x, y, rfl, rfl, hAB, hA, hB2, hBl, hAl, hx, hy, rfl⟩
      · go_wp2_with (go_at_call 9; refine (hMay _ false hm1 w wr _ hB hin).mono ?_; rintro e W2 ⟨rfl, hb2⟩)
        go_ret
        exact ⟨⟨_, _, rfl, hmm.out.kept hb2⟩, upB hbb.out hB hb2⟩
      · go_wp2_with (first
          | (go_at_call 9; refine (hMay _ true hm1 w wr _ hB hin).mono ?_; rintro e W2 ⟨rfl, hb2⟩)
          | (go_at_call 27; refine (hNu _ _ false hn1 W2).mono ?_; rintro e W3 ⟨rfl, hb3⟩))
        go_ret
        exact ⟨⟨_, _, rfl, (hmm.out.kept hb2).kept hb3⟩, upB (upB hbb.out hB hb2) (Nat.le_trans hB hb2.size) hb3⟩
      · clear hcs
        obtain ⟨p0, c0, e0, hr⟩ := hin.out.at
        cases e0
        obtain ⟨ad, rfl, u, hu, p2, c2, rfl, hn⟩ := hr A la hA
        obtain ⟨ad2, rfl, hcx⟩ := hn B x hx
        have hl9 : (L.length : Int) ≤ 1000 := by omega
        have hAl2 : (A : Int) < (L.length : Int) := by have := (List.getElem?_eq_some_iff.1 hA).1; omega
        have hBl2 : (B : Int) < (L.length : Int) := by have := (List.getElem?_eq_some_iff.1 hB2).1; omega
        have hBl3 : (B : Int) < (la.length : Int) := by omega
        have hAl3 : (A : Int) < (lb.length : Int) := by omega
        obtain ⟨g, cap, ga, ca, rfl, hua, hga⟩ := hmm.out.at hA (by omega)
        obtain ⟨g', cap', gb, cb, e9, hub, hgb⟩ := hmm.out.at hB2 (by omega)
        cases e9
        have hAx : Hid (L[A]? = some la ∧ L[B]? = some lb) := ⟨hA, hB2⟩
        have hux : Hid (us[A]? = some (Value.slice (some ⟨ga, 0, none⟩) la.length ca) ∧ us[B]? = some (Value.slice (some ⟨gb, 0, none⟩) lb.length cb)) := ⟨hua, hub⟩
        clear hn hr hA hB2 hx hua hub
        go_wp2_with (first
          | (go_at_call 9; refine (hMay _ true hm1 w wr _ hB hin).mono ?_; rintro e W2 ⟨rfl, hb2⟩; have f1 := keepC hu hb2; have f2 := keepC hcx hb2; have q1 := keepC hga hb2; have q2 := keepC hgb hb2; have m2 : Hid (Mat _ 25 3 _ _ L us) := hmm.out.kept hb2; have b2 : Hid _ := upB hbb.out hB hb2; clear hga hgb hu hcx)
          | (go_at_call 27; refine (hNu _ _ true hn1 W2).mono ?_; rintro e W3 ⟨rfl, hb3⟩; have f3 := keepC f1 hb3; have f4 := keepC f2 hb3; have q3 := keepC q1 hb3; have q4 := keepC q2 hb3; have m3 : Hid (Mat _ 25 3 _ _ L us) := m2.out.kept hb3; have b3 : Hid _ := upB b2.out (Nat.le_trans hB hb2.size) hb3; clear f1 f2 q1 q2 m2 b2)
          | (go_at_call 11; refine (hSm _ _ _ hy W3).mono ?_; rintro e W4 ⟨rfl, hb4⟩; have q5 := keepC q3 hb4; have q6 := keepC q4 hb4; have m4 : Hid (Mat _ 25 3 _ _ L us) := m3.out.kept hb4; have b4 : Hid _ := upB b3.out (Nat.le_trans (Nat.le_trans hB hb2.size) hb3.size) hb4; clear q3 q4 m3 b3 f3 f4))
        have fa := (m4.out.row A _ _ hAx.out.1 hux.out.1).frozenAt B
        have fb := (m4.out.row B _ _ hAx.out.2 hux.out.2).frozenAt A
        obtain ⟨xa, hxa⟩ : ∃ xa, W4.cell? ⟨ga, B, none⟩ = some xa := ⟨.int .i64 (la[B]'hBl), by rw [(m4.out.row A _ _ hAx.out.1 hux.out.1).cellAt B (by omega), List.getElem?_map, List.getElem?_eq_getElem hBl]; rfl⟩
        obtain ⟨xb, hxb⟩ : ∃ xb, W4.cell? ⟨gb, A, none⟩ = some xb := ⟨.int .i64 (lb[A]'hAl), by rw [(m4.out.row B _ _ hAx.out.2 hux.out.2).cellAt A (by omega), List.getElem?_map, List.getElem?_eq_getElem hAl]; rfl⟩
        have hne : ga ≠ gb := fun e => hAB (m4.out.inj A B _ _ ga hux.out.1 hux.out.2 rfl (by rw [e]; rfl))
        clear hb2 hb3 hb4 hmm hbb hin hm1 hn1 hy
        go_region
        go_wp2
        go_ret
        have m5 := m4.out.store hAx.out.1 hBl hux.out.1 y
        have m6 := m5.store (i := B) (l := lb) (by rw [List.getElem?_modify]; simp [hAB, hAx.out.2]) hAl hux.out.2 y
        refine ⟨⟨_, us, rfl, ?_⟩, ?_⟩
        · exact m6.drew
        · exact ((b4.out.setCell ((m4.out.row A _ _ hAx.out.1 hux.out.1).lt ga rfl).1 _).setCell ((m4.out.row B _ _ hAx.out.2 hux.out.2).lt gb rfl).1 _).drew
noncomputable def u_law5_zeros : Uf := ⟨21, 12, Try.f21, [], [],
⟨[(0, .val (.list (.list (.int .i64))))], []⟩, [],
[(3, .unroll 9)],
[], fun y => (valW (.list (.list (.int .i64))) y, [], [])⟩
noncomputable def V_law5_zeros (N : Nat) (x : Unit) : Option (List (List Int)) :=
  some [List.replicate (8:Nat) (0:Int), List.replicate (8:Nat) (0:Int), List.replicate (8:Nat) (0:Int), List.replicate (8:Nat) (0:Int), List.replicate (8:Nat) (0:Int), List.replicate (8:Nat) (0:Int), List.replicate (8:Nat) (0:Int), List.replicate (8:Nat) (0:Int)]
theorem q_law5_zeros : ∀ N x, u_law5_zeros.F L0 P0 (orcOf []) N x = V_law5_zeros N x := by intros; kernel_rfl
noncomputable def W_law5_zeros (N : Nat) := V_law5_zeros N
theorem con_law5_zeros_ok (N : Nat) : (u_law5_zeros.con (W_law5_zeros N)).ok P0 := Uf.ok mixed (q_law5_zeros N) trivial Try.func21 (by kernel_rfl) fun x y => by kernel_rfl
noncomputable def u_rtt_within : Uf := ⟨23, 6, Try.f23, [.val (.int .i64)], [],
⟨[(2, .val (.int .i64))], []⟩, [],
[],
[], fun y => (valW (.int .i64) y, [], [])⟩
noncomputable def V_rtt_within (N : Nat) (x : Int) : Option (Int) :=
  some (min (max x (0:Int)) (1000:Int))
theorem q_rtt_within : ∀ N x, u_rtt_within.F L0 P0 (orcOf []) N x = V_rtt_within N x := by intros; kernel_rfl
noncomputable def W_rtt_within (N : Nat) := V_rtt_within N
theorem con_rtt_within_ok (N : Nat) : (u_rtt_within.con (W_rtt_within N)).ok P0 := Uf.ok mixed (q_rtt_within N) trivial Try.func23 (by kernel_rfl) fun x y => by kernel_rfl
noncomputable def u_rtt_May : Uf := ⟨9, 62, Try.f9, [.val (.list (.list (.int .i64)))], [],
⟨[(2, .val .bool)], []⟩, [],
[(4, .loop [12] ⟨[(14, .val (.int .i64))], []⟩ [(.exit 0, ⟨[], []⟩), (.ret, ⟨[(2, .val .bool)], []⟩)]),
(13, .loop [22, 29] ⟨[(31, .val (.int .i64))], []⟩ [(.exit 4, ⟨[], []⟩), (.ret, ⟨[(2, .val .bool)], []⟩)]),
(10, .loop [22] ⟨[(24, .val (.int .i64))], []⟩ [(.exit 2, ⟨[], []⟩), (.ret, ⟨[(2, .val .bool)], []⟩)])],
[(1000015, .reg [(15, [22, 29], ⟨[(50, .val .bool)], []⟩)])], fun y => (valW .bool y, [], [])⟩
noncomputable def V_rtt_May (w_rtt_within : Int → Option (Int)) (N : Nat) (x : List (List Int)) : Option (Bool) :=
  cnd (decide ((↑(List.length x) : Int) ≠ (8:Int))) (some false) (obind (loopN N (fun (v : Int) => cnd (decide (v < (↑(List.length x) : Int))) (cnd
    (decide ((0:Int) ≤ v) && decide (v < (↑(List.length x) : Int))) (cnd (decide ((↑(List.length (List.getD x (Int.toNat v) [])) : Int) ≠ (8:Int)))
    (some (Sum.inr (Sum.inr false))) (some (Sum.inl (wr .i64 (v + (1:Int)))))) none) (some (Sum.inr (Sum.inl ())))) (Int.ofNat (0:Nat))) fun (b : PUnit
    ⊕ Bool) => selim (fun (b : PUnit) => obind (loopN N (fun (v : Int) => cnd (decide (v < (↑(List.length x) : Int))) (cnd (decide ((0:Int) ≤ v) &&
    decide (v < (↑(List.length x) : Int))) (obind (loopN N (fun (v_1 : Int) => cnd (decide (v_1 < (↑(List.length (List.getD x (Int.toNat v) [])) :
    Int))) (cnd (decide ((0:Int) ≤ v_1) && decide (v_1 < (↑(List.length (List.getD x (Int.toNat v) [])) : Int))) (obind (obind (w_rtt_within
    (List.getD (List.getD x (Int.toNat v) []) (Int.toNat v_1) (0:Int))) fun b => cnd (decide (List.getD (List.getD x (Int.toNat v) []) (Int.toNat v_1)
    (0:Int) ≠ b)) (some true) (cnd (decide ((0:Int) ≤ v_1) && decide (v_1 < (↑(List.length x) : Int))) (cnd (decide ((0:Int) ≤ v) && decide (v <
    (↑(List.length (List.getD x (Int.toNat v_1) [])) : Int))) (some (decide (List.getD (List.getD x (Int.toNat v) []) (Int.toNat v_1) (0:Int) ≠
    List.getD (List.getD x (Int.toNat v_1) []) (Int.toNat v) (0:Int)))) none) none)) fun (b : Bool) => cnd b (some (Sum.inr (Sum.inr false))) (cnd
    (decide (v = v_1)) (cnd (decide (List.getD (List.getD x (Int.toNat v) []) (Int.toNat v_1) (0:Int) ≠ (0:Int))) (some (Sum.inr (Sum.inr false))) (some
    (Sum.inl (wr .i64 (v_1 + (1:Int)))))) (some (Sum.inl (wr .i64 (v_1 + (1:Int))))))) none) (some (Sum.inr (Sum.inl ())))) (Int.ofNat (0:Nat))) fun (b
    : PUnit ⊕ Bool) => selim (fun (b : PUnit) => some (Sum.inl (wr .i64 (v + (1:Int))))) (fun (c : Bool) => some (Sum.inr (Sum.inr c))) b) none) (some
    (Sum.inr (Sum.inl ())))) (Int.ofNat (0:Nat))) fun (b : PUnit ⊕ Bool) => selim (fun (b : PUnit) => some true) (fun (c : Bool) => some c) b) (fun (c :
    Bool) => some c) b)
theorem q_rtt_May : ∀ w_rtt_within N x, u_rtt_May.F L0 P0 (orcOf [u_rtt_within.con w_rtt_within]) N x = V_rtt_May w_rtt_within N x := by intros; kernel_rfl
noncomputable def W_rtt_May (N : Nat) := V_rtt_May (W_rtt_within N) N
theorem con_rtt_May_ok (N : Nat) : (u_rtt_May.con (W_rtt_May N)).ok P0 := Uf.ok mixed (q_rtt_May (W_rtt_within N) N) ⟨con_rtt_within_ok N, trivial⟩ Try.func9 (by kernel_rfl) fun x y => by kernel_rfl
noncomputable def u_rtt_numbers : Uf := ⟨27, 20, Try.f27, [.val (.int .i64), .val (.int .i64)], [],
⟨[(4, .val .bool)], []⟩, [],
[],
[(1000001, .reg [(9, [], ⟨[(13, .val .bool)], []⟩)])], fun y => (valW .bool y, [], [])⟩
noncomputable def V_rtt_numbers (N : Nat) (x : Int × Int) : Option (Bool) :=
  obind (cnd (decide (x.1 ≠ x.2)) (some (decide ((1:Int) ≤ min x.1 x.2))) (some false)) fun (b : Bool) => cnd b (some (decide (max x.1 x.2 ≤ (8:Int)))) (some false)
theorem q_rtt_numbers : ∀ N x, u_rtt_numbers.F L0 P0 (orcOf []) N x = V_rtt_numbers N x := by intros; kernel_rfl
noncomputable def W_rtt_numbers (N : Nat) := V_rtt_numbers N
theorem con_rtt_numbers_ok (N : Nat) : (u_rtt_numbers.con (W_rtt_numbers N)).ok P0 := Uf.ok mixed (q_rtt_numbers N) trivial Try.func27 (by kernel_rfl) fun x y => by kernel_rfl
noncomputable def u_rtt_before : Uf := ⟨24, 10, Try.f24, [.val (.int .i64)], [],
⟨[(2, .val (.alt 50 (.int .i64) (.alt1 68 (.agg .unit))))], []⟩, [],
[],
[], fun y => (valW (.alt 50 (.int .i64) (.alt1 68 (.agg .unit))) y, [], [])⟩
noncomputable def V_rtt_before (w_rtt_within : Int → Option (Int)) (N : Nat) (x : Int) : Option (Int ⊕ Unit) :=
  cnd (decide (x ≤ (0:Int))) (some (Sum.inr ())) (obind (w_rtt_within x) fun b => some (Sum.inl b))
theorem q_rtt_before : ∀ w_rtt_within N x, u_rtt_before.F L0 P0 (orcOf [u_rtt_within.con w_rtt_within]) N x = V_rtt_before w_rtt_within N x := by intros; kernel_rfl
noncomputable def W_rtt_before (N : Nat) := V_rtt_before (W_rtt_within N) N
theorem con_rtt_before_ok (N : Nat) : (u_rtt_before.con (W_rtt_before N)).ok P0 := Uf.ok mixed (q_rtt_before (W_rtt_within N) N) ⟨con_rtt_within_ok N, trivial⟩ Try.func24 (by kernel_rfl) fun x y => by kernel_rfl
noncomputable def u_rtt_Smooth : Uf := ⟨11, 23, Try.f11, [.val (.int .i64), .val (.int .i64)], [],
⟨[(4, .val (.int .i64))], []⟩, [],
[],
[], fun y => (valW (.int .i64) y, [], [])⟩
noncomputable def V_rtt_Smooth (w_rtt_before : Int → Option (Int ⊕ Unit)) (w_rtt_within : Int → Option (Int)) (N : Nat) (x : Int × Int) : Option (Int) :=
  obind (w_rtt_before x.1) fun b => selim (fun (b : Int) => obind (w_rtt_within x.2) fun b_1 => some (wr .i64 (Int.tdiv (wr .i64 (wr .i64 ((7:Int) * b) + b_1)) (8:Int)))) (fun (c : PUnit) => obind (w_rtt_within x.2) fun b => some b) b
theorem q_rtt_Smooth : ∀ w_rtt_before w_rtt_within N x, u_rtt_Smooth.F L0 P0 (orcOf [u_rtt_before.con w_rtt_before, u_rtt_within.con w_rtt_within]) N x = V_rtt_Smooth w_rtt_before w_rtt_within N x := by intros; kernel_rfl
noncomputable def W_rtt_Smooth (N : Nat) := V_rtt_Smooth (W_rtt_before N) (W_rtt_within N) N
theorem con_rtt_Smooth_ok (N : Nat) : (u_rtt_Smooth.con (W_rtt_Smooth N)).ok P0 := Uf.ok mixed (q_rtt_Smooth (W_rtt_before N) (W_rtt_within N) N) ⟨con_rtt_before_ok N, con_rtt_within_ok N, trivial⟩ Try.func11 (by kernel_rfl) fun x y => by kernel_rfl
def as_rtt_Learn : List AS := [.val (.list (.list (.int .i64))), .val (.int .i64), .val (.int .i64), .val (.int .i64)]
def bs_rtt_Learn : List BS := []
def out_rtt_Learn (y : List (List Int)) : V × List OK × List OK := (.lst ⟨.list (.int .i64), y⟩, [], [])
noncomputable def W_rtt_Learn (N : Nat) (x : (List (List Int)) × Int × Int × Int) : Option (List (List Int)) :=
  learnT (W_rtt_May N) (W_rtt_numbers N) (W_rtt_Smooth N) x.1 x.2.1 x.2.2.1 x.2.2.2
noncomputable def conw_rtt_Learn (w : (List (List Int)) × Int × Int × Int → Option (List (List Int))) : Con := ⟨14, as_rtt_Learn, bs_rtt_Learn, List (List Int), w, out_rtt_Learn⟩
noncomputable def con_rtt_Learn (N : Nat) : Con := conw_rtt_Learn (W_rtt_Learn N)
theorem con_rtt_Learn_ok (N : Nat) : Con.ok P0 (con_rtt_Learn N) := ⟨⟨Try.f14, Try.func14, by kernel_rfl, by kernel_rfl⟩, fun (x : (List (List Int)) × Int × Int × Int) (r : List (List Int)) (hr : W_rtt_Learn N x = some r) => learn_spec (learn_walk (bMay_of fun x r h => (con_rtt_May_ok N).2 x r h) (bNum_of fun x r h => (con_rtt_numbers_ok N).2 x r h) (bSm_of fun x r h => (con_rtt_Smooth_ok N).2 x r h)) hr⟩
noncomputable def u_law5_begun : Uf := ⟨6, 38, Try.f6, [], [],
⟨[(0, .val .bool)], []⟩, [],
[],
[(1000002, .reg [(6, [1], ⟨[(9, .val .bool)], []⟩), (4, [1], ⟨[(13, .val .bool)], []⟩), (4, [1], ⟨[(17, .val .bool)], []⟩), (5, [1], ⟨[(22, .val .bool)], []⟩), (7, [1], ⟨[(29, .val .bool)], []⟩)])], fun y => (valW .bool y, [], [])⟩
noncomputable def V_law5_begun (w_law5_zeros : Unit → Option (List (List Int))) (w_rtt_Learn : (List (List Int)) × Int × Int × Int → Option (List (List Int))) (w_rtt_May : List (List Int) → Option (Bool)) (w_rtt_Smooth : Int × Int → Option (Int)) (N : Nat) (x : Unit) : Option (Bool) :=
  obind (w_law5_zeros ()) fun b => obind (w_rtt_Learn (b, (1:Int), (2:Int), (80:Int))) fun b => obind (obind (w_law5_zeros ()) fun b => obind
    (w_rtt_May b) fun b => cnd b (obind (w_rtt_May []) fun b => some !b) (some false)) fun (b_1 : Bool) => obind (cnd b_1 (obind (w_rtt_Smooth
    ((80:Int), (0:Int))) fun b => some (decide (b = (70:Int)))) (some false)) fun (b_2 : Bool) => obind (cnd b_2 (obind (w_rtt_Smooth ((0:Int),
    (9:Int))) fun b => some (decide (b = (9:Int)))) (some false)) fun (b_3 : Bool) => obind (cnd b_3 (some (decide ((↑(List.length b) : Int) =
    (8:Int)))) (some false)) fun (b_4 : Bool) => obind (cnd b_4 (cnd (decide ((0:Int) ≤ (1:Int)) && decide ((1:Int) < (↑(List.length b) : Int))) (some
    (decide ((↑(List.length (List.getD b (1:Nat) [])) : Int) = (8:Int)))) none) (some false)) fun (b_5 : Bool) => cnd b_5 (cnd (decide ((0:Int) ≤
    (1:Int)) && decide ((1:Int) < (↑(List.length b) : Int))) (cnd (decide ((0:Int) ≤ (0:Int)) && decide ((0:Int) < (↑(List.length (List.getD b (1:Nat)
    [])) : Int))) (some (decide (List.getD (List.getD b (1:Nat) []) (0:Nat) (0:Int) = (80:Int)))) none) none) (some false)
theorem q_law5_begun : ∀ w_law5_zeros w_rtt_Learn w_rtt_May w_rtt_Smooth N x, u_law5_begun.F L0 P0 (orcOf [u_law5_zeros.con w_law5_zeros, conw_rtt_Learn w_rtt_Learn, u_rtt_May.con w_rtt_May, u_rtt_Smooth.con w_rtt_Smooth]) N x = V_law5_begun w_law5_zeros w_rtt_Learn w_rtt_May w_rtt_Smooth N x := by intros; kernel_rfl
noncomputable def W_law5_begun (N : Nat) := V_law5_begun (W_law5_zeros N) (W_rtt_Learn N) (W_rtt_May N) (W_rtt_Smooth N) N
theorem con_law5_begun_ok (N : Nat) : (u_law5_begun.con (W_law5_begun N)).ok P0 := Uf.ok mixed (q_law5_begun (W_law5_zeros N) (W_rtt_Learn N) (W_rtt_May N) (W_rtt_Smooth N) N) ⟨con_law5_zeros_ok N, con_rtt_Learn_ok N, con_rtt_May_ok N, con_rtt_Smooth_ok N, trivial⟩ Try.func6 (by kernel_rfl) fun x y => by kernel_rfl
noncomputable def u_Made : Uf := ⟨7, 6, Try.f7, [.val (.list (.int .u8))], [],
⟨[(2, .ptr 600005 0)], [(600005, .box 48 (.val (.pair (.list (.int .u8)) (.int .i64))))]⟩, [],
[],
[], fun y => (.ptr 2000000 0 0, [], [.box 48 (cellsW (.pair (.list (.int .u8)) (.int .i64)) y)])⟩
noncomputable def V_Made (N : Nat) (x : List Int) : Option ((List Int) × Int) :=
  some (x, (0:Int))
theorem q_Made : ∀ N x, u_Made.F L0 P0 (orcOf []) N x = V_Made N x := by intros; kernel_rfl
noncomputable def W_Made (N : Nat) := V_Made N
theorem con_Made_ok (N : Nat) : (u_Made.con (W_Made N)).ok P0 := Uf.ok mixed (q_Made N) trivial Try.func7 (by kernel_rfl) fun x y => by kernel_rfl
noncomputable def u_Picks_Num : Uf := ⟨22, 40, Try.f22, [.ptr 0 0, .val (.int .i64)], [.box 48 (.pair (.list (.int .u8)) (.int .i64))],
⟨[(0, .ptr 1000000 0), (4, .val (.int .i64))], [(1000000, .box 48 (.val (.pair (.list (.int .u8)) (.int .i64))))]⟩, [true],
[],
[], fun y => (valW (.int .i64) y.1, [.box 48 (cellsW (.pair (.list (.int .u8)) (.int .i64)) y.2)], [])⟩
noncomputable def V_Picks_Num (N : Nat) (x : Int × (List Int) × Int) : Option (Int × (List Int) × Int) :=
  cnd (decide ((↑(List.length x.2.1) : Int) ≤ x.2.2)) (some ((0:Int), x.2)) (cnd (decide (x.1 < (1:Int))) (some ((0:Int), x.2)) (cnd (decide ((0:Int) ≤
    wr .i64 (wr .i64 (x.2.2 + (1:Int)) - (1:Int))) && decide (wr .i64 (wr .i64 (x.2.2 + (1:Int)) - (1:Int)) < (↑(List.length x.2.1) : Int))) (cnd
    (!decide (x.1 = (0:Int))) (some (Int.tmod (wr .i64 (List.getD x.2.1 (Int.toNat (wr .i64 (wr .i64 (x.2.2 + (1:Int)) - (1:Int)))) (0:Int))) x.1,
    x.2.1, wr .i64 (x.2.2 + (1:Int)))) none) none))
theorem q_Picks_Num : ∀ N x, u_Picks_Num.F L0 P0 (orcOf []) N x = V_Picks_Num N x := by intros; kernel_rfl
noncomputable def W_Picks_Num (N : Nat) := V_Picks_Num N
theorem con_Picks_Num_ok (N : Nat) : (u_Picks_Num.con (W_Picks_Num N)).ok P0 := Uf.ok mixed (q_Picks_Num N) trivial Try.func22 (by kernel_rfl) fun x y => by kernel_rfl
noncomputable def u_Picks_Dist : Uf := ⟨8, 45, Try.f8, [.ptr 0 0], [.box 48 (.pair (.list (.int .u8)) (.int .i64))],
⟨[(0, .ptr 1000000 0), (2, .val (.list (.list (.int .i64))))], [(1000000, .box 48 (.val (.pair (.list (.int .u8)) (.int .i64))))]⟩, [true],
[(3, .unroll 9),
(10, .unroll 9),
(7, .unroll 9)],
[], fun y => (valW (.list (.list (.int .i64))) y.1, [.box 48 (cellsW (.pair (.list (.int .u8)) (.int .i64)) y.2)], [])⟩
noncomputable def V_Picks_Dist (w_Picks_Num : Int × (List Int) × Int → Option (Int × (List Int) × Int)) (N : Nat) (x : (List Int) × Int) : Option ((List (List Int)) × (List Int) × Int) :=
  obind (w_Picks_Num ((9:Int), x)) fun b0 => cnd (decide ((0:Int) ≤ b0.1)) (cnd (decide (b0.1 < ((↑(9:Nat) : Int) : Int))) (obind (w_Picks_Num
    ((9:Int), b0.2)) fun b1 => cnd (decide ((0:Int) ≤ b1.1)) (cnd (decide (b1.1 < ((↑(9:Nat) : Int) : Int))) (obind (w_Picks_Num ((9:Int), b1.2)) fun
    b2 => cnd (decide ((0:Int) ≤ b2.1)) (cnd (decide (b2.1 < ((↑(9:Nat) : Int) : Int))) (obind (w_Picks_Num ((9:Int), b2.2)) fun b3 => cnd (decide
    ((0:Int) ≤ b3.1)) (cnd (decide (b3.1 < ((↑(9:Nat) : Int) : Int))) (obind (w_Picks_Num ((9:Int), b3.2)) fun b4 => cnd (decide ((0:Int) ≤ b4.1))
    (cnd (decide (b4.1 < ((↑(9:Nat) : Int) : Int))) (obind (w_Picks_Num ((9:Int), b4.2)) fun b5 => cnd (decide ((0:Int) ≤ b5.1)) (cnd (decide (b5.1 <
    ((↑(9:Nat) : Int) : Int))) (obind (w_Picks_Num ((9:Int), b5.2)) fun b6 => cnd (decide ((0:Int) ≤ b6.1)) (cnd (decide (b6.1 < ((↑(9:Nat) : Int) :
    Int))) (obind (w_Picks_Num ((9:Int), b6.2)) fun b7 => cnd (decide ((0:Int) ≤ b7.1)) (cnd (decide (b7.1 < ((↑(9:Nat) : Int) : Int))) (obind
    (w_Picks_Num ((9:Int), b7.2)) fun b8 => cnd (decide ((0:Int) ≤ b8.1)) (cnd (decide (b8.1 < ((↑(9:Nat) : Int) : Int))) (obind (w_Picks_Num
    ((9:Int), b8.2)) fun b9 => cnd (decide ((0:Int) ≤ b9.1)) (cnd (decide (b9.1 < ((↑(9:Nat) : Int) : Int))) (obind (w_Picks_Num ((9:Int), b9.2)) fun
    b10 => cnd (decide ((0:Int) ≤ b10.1)) (cnd (decide (b10.1 < ((↑(9:Nat) : Int) : Int))) (obind (w_Picks_Num ((9:Int), b10.2)) fun b11 => cnd
    (decide ((0:Int) ≤ b11.1)) (cnd (decide (b11.1 < ((↑(9:Nat) : Int) : Int))) (obind (w_Picks_Num ((9:Int), b11.2)) fun b12 => cnd (decide ((0:Int)
    ≤ b12.1)) (cnd (decide (b12.1 < ((↑(9:Nat) : Int) : Int))) (obind (w_Picks_Num ((9:Int), b12.2)) fun b13 => cnd (decide ((0:Int) ≤ b13.1)) (cnd
    (decide (b13.1 < ((↑(9:Nat) : Int) : Int))) (obind (w_Picks_Num ((9:Int), b13.2)) fun b14 => cnd (decide ((0:Int) ≤ b14.1)) (cnd (decide (b14.1 <
    ((↑(9:Nat) : Int) : Int))) (obind (w_Picks_Num ((9:Int), b14.2)) fun b15 => cnd (decide ((0:Int) ≤ b15.1)) (cnd (decide (b15.1 < ((↑(9:Nat) : Int)
    : Int))) (obind (w_Picks_Num ((9:Int), b15.2)) fun b16 => cnd (decide ((0:Int) ≤ b16.1)) (cnd (decide (b16.1 < ((↑(9:Nat) : Int) : Int))) (obind
    (w_Picks_Num ((9:Int), b16.2)) fun b17 => cnd (decide ((0:Int) ≤ b17.1)) (cnd (decide (b17.1 < ((↑(9:Nat) : Int) : Int))) (obind (w_Picks_Num
    ((9:Int), b17.2)) fun b18 => cnd (decide ((0:Int) ≤ b18.1)) (cnd (decide (b18.1 < ((↑(9:Nat) : Int) : Int))) (obind (w_Picks_Num ((9:Int), b18.2))
    fun b19 => cnd (decide ((0:Int) ≤ b19.1)) (cnd (decide (b19.1 < ((↑(9:Nat) : Int) : Int))) (obind (w_Picks_Num ((9:Int), b19.2)) fun b20 => cnd
    (decide ((0:Int) ≤ b20.1)) (cnd (decide (b20.1 < ((↑(9:Nat) : Int) : Int))) (obind (w_Picks_Num ((9:Int), b20.2)) fun b21 => cnd (decide ((0:Int)
    ≤ b21.1)) (cnd (decide (b21.1 < ((↑(9:Nat) : Int) : Int))) (obind (w_Picks_Num ((9:Int), b21.2)) fun b22 => cnd (decide ((0:Int) ≤ b22.1)) (cnd
    (decide (b22.1 < ((↑(9:Nat) : Int) : Int))) (obind (w_Picks_Num ((9:Int), b22.2)) fun b23 => cnd (decide ((0:Int) ≤ b23.1)) (cnd (decide (b23.1 <
    ((↑(9:Nat) : Int) : Int))) (obind (w_Picks_Num ((9:Int), b23.2)) fun b24 => cnd (decide ((0:Int) ≤ b24.1)) (cnd (decide (b24.1 < ((↑(9:Nat) : Int)
    : Int))) (obind (w_Picks_Num ((9:Int), b24.2)) fun b25 => cnd (decide ((0:Int) ≤ b25.1)) (cnd (decide (b25.1 < ((↑(9:Nat) : Int) : Int))) (obind
    (w_Picks_Num ((9:Int), b25.2)) fun b26 => cnd (decide ((0:Int) ≤ b26.1)) (cnd (decide (b26.1 < ((↑(9:Nat) : Int) : Int))) (obind (w_Picks_Num
    ((9:Int), b26.2)) fun b27 => cnd (decide ((0:Int) ≤ b27.1)) (cnd (decide (b27.1 < ((↑(9:Nat) : Int) : Int))) (some ([[(0:Int), List.getD [(1:Int),
    (2:Int), (3:Int), (5:Int), (9:Int), (9:Int), (20:Int), (1000:Int), (0:Int)] (Int.toNat b0.1) (0:Int), List.getD [(1:Int), (2:Int), (3:Int), (5:Int),
    (9:Int), (9:Int), (20:Int), (1000:Int), (0:Int)] (Int.toNat b1.1) (0:Int), List.getD [(1:Int), (2:Int), (3:Int), (5:Int), (9:Int), (9:Int),
    (20:Int), (1000:Int), (0:Int)] (Int.toNat b3.1) (0:Int), List.getD [(1:Int), (2:Int), (3:Int), (5:Int), (9:Int), (9:Int), (20:Int), (1000:Int),
    (0:Int)] (Int.toNat b6.1) (0:Int), List.getD [(1:Int), (2:Int), (3:Int), (5:Int), (9:Int), (9:Int), (20:Int), (1000:Int), (0:Int)] (Int.toNat b10.1)
    (0:Int), List.getD [(1:Int), (2:Int), (3:Int), (5:Int), (9:Int), (9:Int), (20:Int), (1000:Int), (0:Int)] (Int.toNat b15.1) (0:Int), List.getD
    [(1:Int), (2:Int), (3:Int), (5:Int), (9:Int), (9:Int), (20:Int), (1000:Int), (0:Int)] (Int.toNat b21.1) (0:Int)], [List.getD [(1:Int), (2:Int),
    (3:Int), (5:Int), (9:Int), (9:Int), (20:Int), (1000:Int), (0:Int)] (Int.toNat b0.1) (0:Int), (0:Int), List.getD [(1:Int), (2:Int), (3:Int), (5:Int),
    (9:Int), (9:Int), (20:Int), (1000:Int), (0:Int)] (Int.toNat b2.1) (0:Int), List.getD [(1:Int), (2:Int), (3:Int), (5:Int), (9:Int), (9:Int),
    (20:Int), (1000:Int), (0:Int)] (Int.toNat b4.1) (0:Int), List.getD [(1:Int), (2:Int), (3:Int), (5:Int), (9:Int), (9:Int), (20:Int), (1000:Int),
    (0:Int)] (Int.toNat b7.1) (0:Int), List.getD [(1:Int), (2:Int), (3:Int), (5:Int), (9:Int), (9:Int), (20:Int), (1000:Int), (0:Int)] (Int.toNat b11.1)
    (0:Int), List.getD [(1:Int), (2:Int), (3:Int), (5:Int), (9:Int), (9:Int), (20:Int), (1000:Int), (0:Int)] (Int.toNat b16.1) (0:Int), List.getD
    [(1:Int), (2:Int), (3:Int), (5:Int), (9:Int), (9:Int), (20:Int), (1000:Int), (0:Int)] (Int.toNat b22.1) (0:Int)], [List.getD [(1:Int), (2:Int),
    (3:Int), (5:Int), (9:Int), (9:Int), (20:Int), (1000:Int), (0:Int)] (Int.toNat b1.1) (0:Int), List.getD [(1:Int), (2:Int), (3:Int), (5:Int), (9:Int),
    (9:Int), (20:Int), (1000:Int), (0:Int)] (Int.toNat b2.1) (0:Int), (0:Int), List.getD [(1:Int), (2:Int), (3:Int), (5:Int), (9:Int), (9:Int),
    (20:Int), (1000:Int), (0:Int)] (Int.toNat b5.1) (0:Int), List.getD [(1:Int), (2:Int), (3:Int), (5:Int), (9:Int), (9:Int), (20:Int), (1000:Int),
    (0:Int)] (Int.toNat b8.1) (0:Int), List.getD [(1:Int), (2:Int), (3:Int), (5:Int), (9:Int), (9:Int), (20:Int), (1000:Int), (0:Int)] (Int.toNat b12.1)
    (0:Int), List.getD [(1:Int), (2:Int), (3:Int), (5:Int), (9:Int), (9:Int), (20:Int), (1000:Int), (0:Int)] (Int.toNat b17.1) (0:Int), List.getD
    [(1:Int), (2:Int), (3:Int), (5:Int), (9:Int), (9:Int), (20:Int), (1000:Int), (0:Int)] (Int.toNat b23.1) (0:Int)], [List.getD [(1:Int), (2:Int),
    (3:Int), (5:Int), (9:Int), (9:Int), (20:Int), (1000:Int), (0:Int)] (Int.toNat b3.1) (0:Int), List.getD [(1:Int), (2:Int), (3:Int), (5:Int), (9:Int),
    (9:Int), (20:Int), (1000:Int), (0:Int)] (Int.toNat b4.1) (0:Int), List.getD [(1:Int), (2:Int), (3:Int), (5:Int), (9:Int), (9:Int), (20:Int),
    (1000:Int), (0:Int)] (Int.toNat b5.1) (0:Int), (0:Int), List.getD [(1:Int), (2:Int), (3:Int), (5:Int), (9:Int), (9:Int), (20:Int), (1000:Int),
    (0:Int)] (Int.toNat b9.1) (0:Int), List.getD [(1:Int), (2:Int), (3:Int), (5:Int), (9:Int), (9:Int), (20:Int), (1000:Int), (0:Int)] (Int.toNat b13.1)
    (0:Int), List.getD [(1:Int), (2:Int), (3:Int), (5:Int), (9:Int), (9:Int), (20:Int), (1000:Int), (0:Int)] (Int.toNat b18.1) (0:Int), List.getD
    [(1:Int), (2:Int), (3:Int), (5:Int), (9:Int), (9:Int), (20:Int), (1000:Int), (0:Int)] (Int.toNat b24.1) (0:Int)], [List.getD [(1:Int), (2:Int),
    (3:Int), (5:Int), (9:Int), (9:Int), (20:Int), (1000:Int), (0:Int)] (Int.toNat b6.1) (0:Int), List.getD [(1:Int), (2:Int), (3:Int), (5:Int), (9:Int),
    (9:Int), (20:Int), (1000:Int), (0:Int)] (Int.toNat b7.1) (0:Int), List.getD [(1:Int), (2:Int), (3:Int), (5:Int), (9:Int), (9:Int), (20:Int),
    (1000:Int), (0:Int)] (Int.toNat b8.1) (0:Int), List.getD [(1:Int), (2:Int), (3:Int), (5:Int), (9:Int), (9:Int), (20:Int), (1000:Int), (0:Int)]
    (Int.toNat b9.1) (0:Int), (0:Int), List.getD [(1:Int), (2:Int), (3:Int), (5:Int), (9:Int), (9:Int), (20:Int), (1000:Int), (0:Int)] (Int.toNat b14.1)
    (0:Int), List.getD [(1:Int), (2:Int), (3:Int), (5:Int), (9:Int), (9:Int), (20:Int), (1000:Int), (0:Int)] (Int.toNat b19.1) (0:Int), List.getD
    [(1:Int), (2:Int), (3:Int), (5:Int), (9:Int), (9:Int), (20:Int), (1000:Int), (0:Int)] (Int.toNat b25.1) (0:Int)], [List.getD [(1:Int), (2:Int),
    (3:Int), (5:Int), (9:Int), (9:Int), (20:Int), (1000:Int), (0:Int)] (Int.toNat b10.1) (0:Int), List.getD [(1:Int), (2:Int), (3:Int), (5:Int),
    (9:Int), (9:Int), (20:Int), (1000:Int), (0:Int)] (Int.toNat b11.1) (0:Int), List.getD [(1:Int), (2:Int), (3:Int), (5:Int), (9:Int), (9:Int),
    (20:Int), (1000:Int), (0:Int)] (Int.toNat b12.1) (0:Int), List.getD [(1:Int), (2:Int), (3:Int), (5:Int), (9:Int), (9:Int), (20:Int), (1000:Int),
    (0:Int)] (Int.toNat b13.1) (0:Int), List.getD [(1:Int), (2:Int), (3:Int), (5:Int), (9:Int), (9:Int), (20:Int), (1000:Int), (0:Int)] (Int.toNat
    b14.1) (0:Int), (0:Int), List.getD [(1:Int), (2:Int), (3:Int), (5:Int), (9:Int), (9:Int), (20:Int), (1000:Int), (0:Int)] (Int.toNat b20.1) (0:Int),
    List.getD [(1:Int), (2:Int), (3:Int), (5:Int), (9:Int), (9:Int), (20:Int), (1000:Int), (0:Int)] (Int.toNat b26.1) (0:Int)], [List.getD [(1:Int),
    (2:Int), (3:Int), (5:Int), (9:Int), (9:Int), (20:Int), (1000:Int), (0:Int)] (Int.toNat b15.1) (0:Int), List.getD [(1:Int), (2:Int), (3:Int),
    (5:Int), (9:Int), (9:Int), (20:Int), (1000:Int), (0:Int)] (Int.toNat b16.1) (0:Int), List.getD [(1:Int), (2:Int), (3:Int), (5:Int), (9:Int),
    (9:Int), (20:Int), (1000:Int), (0:Int)] (Int.toNat b17.1) (0:Int), List.getD [(1:Int), (2:Int), (3:Int), (5:Int), (9:Int), (9:Int), (20:Int),
    (1000:Int), (0:Int)] (Int.toNat b18.1) (0:Int), List.getD [(1:Int), (2:Int), (3:Int), (5:Int), (9:Int), (9:Int), (20:Int), (1000:Int), (0:Int)]
    (Int.toNat b19.1) (0:Int), List.getD [(1:Int), (2:Int), (3:Int), (5:Int), (9:Int), (9:Int), (20:Int), (1000:Int), (0:Int)] (Int.toNat b20.1)
    (0:Int), (0:Int), List.getD [(1:Int), (2:Int), (3:Int), (5:Int), (9:Int), (9:Int), (20:Int), (1000:Int), (0:Int)] (Int.toNat b27.1) (0:Int)],
    [List.getD [(1:Int), (2:Int), (3:Int), (5:Int), (9:Int), (9:Int), (20:Int), (1000:Int), (0:Int)] (Int.toNat b21.1) (0:Int), List.getD [(1:Int),
    (2:Int), (3:Int), (5:Int), (9:Int), (9:Int), (20:Int), (1000:Int), (0:Int)] (Int.toNat b22.1) (0:Int), List.getD [(1:Int), (2:Int), (3:Int),
    (5:Int), (9:Int), (9:Int), (20:Int), (1000:Int), (0:Int)] (Int.toNat b23.1) (0:Int), List.getD [(1:Int), (2:Int), (3:Int), (5:Int), (9:Int),
    (9:Int), (20:Int), (1000:Int), (0:Int)] (Int.toNat b24.1) (0:Int), List.getD [(1:Int), (2:Int), (3:Int), (5:Int), (9:Int), (9:Int), (20:Int),
    (1000:Int), (0:Int)] (Int.toNat b25.1) (0:Int), List.getD [(1:Int), (2:Int), (3:Int), (5:Int), (9:Int), (9:Int), (20:Int), (1000:Int), (0:Int)]
    (Int.toNat b26.1) (0:Int), List.getD [(1:Int), (2:Int), (3:Int), (5:Int), (9:Int), (9:Int), (20:Int), (1000:Int), (0:Int)] (Int.toNat b27.1)
    (0:Int), (0:Int)]], b27.2)) none) none) none) none) none) none) none) none) none) none) none) none) none) none) none) none) none) none) none) none)
    none) none) none) none) none) none) none) none) none) none) none) none) none) none) none) none) none) none) none) none) none) none) none) none)
    none) none) none) none) none) none) none) none) none) none) none) none
theorem q_Picks_Dist : ∀ w_Picks_Num N x, u_Picks_Dist.F L0 P0 (orcOf [u_Picks_Num.con w_Picks_Num]) N x = V_Picks_Dist w_Picks_Num N x := by intros; kernel_rfl
noncomputable def W_Picks_Dist (N : Nat) := V_Picks_Dist (W_Picks_Num N) N
theorem con_Picks_Dist_ok (N : Nat) : (u_Picks_Dist.con (W_Picks_Dist N)).ok P0 := Uf.ok mixed (q_Picks_Dist (W_Picks_Num N) N) ⟨con_Picks_Num_ok N, trivial⟩ Try.func8 (by kernel_rfl) fun x y => by kernel_rfl
noncomputable def u_law5_RttLearn : Uf := ⟨4, 103, Try.f4, [.val (.list (.int .u8)), .val (.int .u8), .val (.int .u8), .val (.int .u16)], [],
⟨[(8, .val .bool)], []⟩, [],
[(14, .loop [9, 12] ⟨[(14, .val (.int .i64))], []⟩ [(.exit 2, ⟨[], []⟩), (.ret, ⟨[(8, .val .bool)], []⟩)]),
(11, .loop [9, 12] ⟨[(13, .val (.int .i64))], []⟩ [(.exit 0, ⟨[], []⟩), (.ret, ⟨[(8, .val .bool)], []⟩)])],
[(1000016, .reg [(8, [9, 12], ⟨[(62, .val .bool)], []⟩)]),
(20, .cut [9, 12] [(.normal, ⟨[(16, .val (.int .i64))], []⟩)])], fun y => (valW .bool y, [], [])⟩
noncomputable def V_law5_RttLearn (w_law5_begun : Unit → Option (Bool)) (w_Made : List Int → Option ((List Int) × Int)) (w_Picks_Dist : (List Int) × Int → Option ((List (List Int)) × (List Int) × Int)) (w_rtt_Learn : (List (List Int)) × Int × Int × Int → Option (List (List Int))) (w_rtt_May : List (List Int) → Option (Bool)) (w_rtt_Smooth : Int × Int → Option (Int)) (N : Nat) (x : (List Int) × Int × Int × Int) : Option (Bool) :=
  obind (w_law5_begun ()) fun b => cnd (!b) (some false) (cnd (decide ((30:Int) < (↑(List.length x.1) : Int))) (some true) (obind (w_Made x.1) fun b
    => obind (w_Picks_Dist b) fun b => obind (w_rtt_Learn (b.1, wr .i64 ((1:Int) + wr .i64 (Int.tmod x.2.1 (8:Int))), wr .i64 ((1:Int) + wr .i64
    (Int.tmod x.2.2.1 (8:Int))), wr .i64 x.2.2.2)) fun b_1 => obind (w_rtt_May b_1) fun b_2 => cnd (!b_2) (some false) (cnd (decide ((↑(List.length
    b_1) : Int) ≠ (8:Int))) (some false) (obind (loopN N (fun (v : Int) => cnd (decide (v ≤ (8:Int))) (obind (loopN N (fun (v_1 : Int) => cnd (decide
    (v_1 ≤ (8:Int))) (obind (cnd (decide (v = wr .i64 ((1:Int) + wr .i64 (Int.tmod x.2.1 (8:Int))))) (some (decide (v_1 = wr .i64 ((1:Int) + wr .i64
    (Int.tmod x.2.2.1 (8:Int)))))) (some false)) fun (b_3 : Bool) => cnd b_3 (cnd (decide ((0:Int) ≤ wr .i64 (v - (1:Int))) && decide (wr .i64 (v -
    (1:Int)) < (↑(List.length b.1) : Int))) (cnd (decide ((0:Int) ≤ wr .i64 (v_1 - (1:Int))) && decide (wr .i64 (v_1 - (1:Int)) < (↑(List.length
    (List.getD b.1 (Int.toNat (wr .i64 (v - (1:Int)))) [])) : Int))) (obind (cnd (decide (wr .i64 ((1:Int) + wr .i64 (Int.tmod x.2.1 (8:Int))) ≠ wr .i64
    ((1:Int) + wr .i64 (Int.tmod x.2.2.1 (8:Int))))) (obind (w_rtt_Smooth (List.getD (List.getD b.1 (Int.toNat (wr .i64 (v - (1:Int)))) []) (Int.toNat
    (wr .i64 (v_1 - (1:Int)))) (0:Int), wr .i64 x.2.2.2)) fun b => some b) (some (List.getD (List.getD b.1 (Int.toNat (wr .i64 (v - (1:Int)))) [])
    (Int.toNat (wr .i64 (v_1 - (1:Int)))) (0:Int)))) fun (b : Int) => cnd (decide ((0:Int) ≤ wr .i64 (v - (1:Int))) && decide (wr .i64 (v - (1:Int)) <
    (↑(List.length b_1) : Int))) (cnd (decide ((0:Int) ≤ wr .i64 (v_1 - (1:Int))) && decide (wr .i64 (v_1 - (1:Int)) < (↑(List.length (List.getD b_1
    (Int.toNat (wr .i64 (v - (1:Int)))) [])) : Int))) (cnd (decide (List.getD (List.getD b_1 (Int.toNat (wr .i64 (v - (1:Int)))) []) (Int.toNat (wr .i64
    (v_1 - (1:Int)))) (0:Int) ≠ b)) (some (Sum.inr (Sum.inr false))) (some (Sum.inl (wr .i64 (v_1 + (1:Int)))))) none) none) none) none) (cnd (decide (v
    = wr .i64 ((1:Int) + wr .i64 (Int.tmod x.2.2.1 (8:Int))))) (cnd (decide ((0:Int) ≤ wr .i64 (v - (1:Int))) && decide (wr .i64 (v - (1:Int)) <
    (↑(List.length b.1) : Int))) (cnd (decide ((0:Int) ≤ wr .i64 (v_1 - (1:Int))) && decide (wr .i64 (v_1 - (1:Int)) < (↑(List.length (List.getD b.1
    (Int.toNat (wr .i64 (v - (1:Int)))) [])) : Int))) (obind (cnd (decide (v_1 = wr .i64 ((1:Int) + wr .i64 (Int.tmod x.2.1 (8:Int))))) (cnd (decide (wr
    .i64 ((1:Int) + wr .i64 (Int.tmod x.2.1 (8:Int))) ≠ wr .i64 ((1:Int) + wr .i64 (Int.tmod x.2.2.1 (8:Int))))) (obind (w_rtt_Smooth (List.getD
    (List.getD b.1 (Int.toNat (wr .i64 (v - (1:Int)))) []) (Int.toNat (wr .i64 (v_1 - (1:Int)))) (0:Int), wr .i64 x.2.2.2)) fun b => some b) (some
    (List.getD (List.getD b.1 (Int.toNat (wr .i64 (v - (1:Int)))) []) (Int.toNat (wr .i64 (v_1 - (1:Int)))) (0:Int)))) (some (List.getD (List.getD b.1
    (Int.toNat (wr .i64 (v - (1:Int)))) []) (Int.toNat (wr .i64 (v_1 - (1:Int)))) (0:Int)))) fun (b : Int) => cnd (decide ((0:Int) ≤ wr .i64 (v -
    (1:Int))) && decide (wr .i64 (v - (1:Int)) < (↑(List.length b_1) : Int))) (cnd (decide ((0:Int) ≤ wr .i64 (v_1 - (1:Int))) && decide (wr .i64 (v_1 -
    (1:Int)) < (↑(List.length (List.getD b_1 (Int.toNat (wr .i64 (v - (1:Int)))) [])) : Int))) (cnd (decide (List.getD (List.getD b_1 (Int.toNat (wr
    .i64 (v - (1:Int)))) []) (Int.toNat (wr .i64 (v_1 - (1:Int)))) (0:Int) ≠ b)) (some (Sum.inr (Sum.inr false))) (some (Sum.inl (wr .i64 (v_1 +
    (1:Int)))))) none) none) none) none) (cnd (decide ((0:Int) ≤ wr .i64 (v - (1:Int))) && decide (wr .i64 (v - (1:Int)) < (↑(List.length b.1) : Int)))
    (cnd (decide ((0:Int) ≤ wr .i64 (v_1 - (1:Int))) && decide (wr .i64 (v_1 - (1:Int)) < (↑(List.length (List.getD b.1 (Int.toNat (wr .i64 (v -
    (1:Int)))) [])) : Int))) (cnd (decide ((0:Int) ≤ wr .i64 (v - (1:Int))) && decide (wr .i64 (v - (1:Int)) < (↑(List.length b_1) : Int))) (cnd (decide
    ((0:Int) ≤ wr .i64 (v_1 - (1:Int))) && decide (wr .i64 (v_1 - (1:Int)) < (↑(List.length (List.getD b_1 (Int.toNat (wr .i64 (v - (1:Int)))) [])) :
    Int))) (cnd (decide (List.getD (List.getD b_1 (Int.toNat (wr .i64 (v - (1:Int)))) []) (Int.toNat (wr .i64 (v_1 - (1:Int)))) (0:Int) ≠ List.getD
    (List.getD b.1 (Int.toNat (wr .i64 (v - (1:Int)))) []) (Int.toNat (wr .i64 (v_1 - (1:Int)))) (0:Int))) (some (Sum.inr (Sum.inr false))) (some
    (Sum.inl (wr .i64 (v_1 + (1:Int)))))) none) none) none) none))) (some (Sum.inr (Sum.inl ())))) (Int.ofNat (1:Nat))) fun (b : PUnit ⊕ Bool) => selim
    (fun (b : PUnit) => some (Sum.inl (wr .i64 (v + (1:Int))))) (fun (c : Bool) => some (Sum.inr (Sum.inr c))) b) (some (Sum.inr (Sum.inl ()))))
    (Int.ofNat (1:Nat))) fun (b : PUnit ⊕ Bool) => selim (fun (b : PUnit) => some true) (fun (c : Bool) => some c) b))))
theorem q_law5_RttLearn : ∀ w_law5_begun w_Made w_Picks_Dist w_rtt_Learn w_rtt_May w_rtt_Smooth N x, u_law5_RttLearn.F L0 P0 (orcOf [u_law5_begun.con w_law5_begun, u_Made.con w_Made, u_Picks_Dist.con w_Picks_Dist, conw_rtt_Learn w_rtt_Learn, u_rtt_May.con w_rtt_May, u_rtt_Smooth.con w_rtt_Smooth]) N x = V_law5_RttLearn w_law5_begun w_Made w_Picks_Dist w_rtt_Learn w_rtt_May w_rtt_Smooth N x := by intros; kernel_rfl
noncomputable def W_law5_RttLearn (N : Nat) := V_law5_RttLearn (W_law5_begun N) (W_Made N) (W_Picks_Dist N) (W_rtt_Learn N) (W_rtt_May N) (W_rtt_Smooth N) N
theorem con_law5_RttLearn_ok (N : Nat) : (u_law5_RttLearn.con (W_law5_RttLearn N)).ok P0 := Uf.ok mixed (q_law5_RttLearn (W_law5_begun N) (W_Made N) (W_Picks_Dist N) (W_rtt_Learn N) (W_rtt_May N) (W_rtt_Smooth N) N) ⟨con_law5_begun_ok N, con_Made_ok N, con_Picks_Dist_ok N, con_rtt_Learn_ok N, con_rtt_May_ok N, con_rtt_Smooth_ok N, trivial⟩ Try.func4 (by kernel_rfl) fun x y => by kernel_rfl
/-! What is reckoned. -/
-- PURE
theorem loopG {σ ρ : Type} {f : σ → Option (σ ⊕ ρ)} (I : Nat → σ → Prop) (B : Nat) (J : ρ → Prop) (hb : ∀ k x, I k x → k ≤ B) (hs : ∀ k x, I k x → (∃ y, f x = some (.inl y) ∧ I (k + 1) y) ∨ ∃ r, f x = some (.inr r) ∧ J r) :
    ∀ (M k : Nat) (x : σ), I k x → B < M + k → ∃ r, loopN M f x = some r ∧ J r
  | 0, k, x, h, hm => by have := hb k x h; omega
  | M + 1, k, x, h, hm => by
    rcases hs k x h with ⟨y, h1, h2⟩ | ⟨r, h1, h2⟩
    · obtain ⟨r, h4, h5⟩ := loopG I B J hb hs M (k + 1) y h2 (by omega)
      exact ⟨r, by simp only [loopN, h1]; exact h4, h5⟩
    · exact ⟨r, by simp only [loopN, h1], h2⟩
theorem loop_G {σ ρ β : Type} {f : σ → Option (σ ⊕ ρ)} {g : ρ → Option β} {x : σ} {N : Nat} (Q : Option β → Prop) (I : Nat → σ → Prop) (B : Nat) (J : ρ → Prop) (hx : I 0 x) (hm : B < N) (hk : ∀ r, J r → Q (g r)) (hb : ∀ k x, I k x → k ≤ B)
    (hs : ∀ k x, I k x → (∃ y, f x = some (.inl y) ∧ I (k + 1) y) ∨ ∃ r, f x = some (.inr r) ∧ J r) : Q (obind (loopN N f x) g) := by
  obtain ⟨r, h1, h2⟩ := loopG I B J hb hs N 0 x hx (by omega)
  rw [h1]; exact hk r h2
theorem wr_m {z : Int} (h : -140737488355328 ≤ z) (h2 : z ≤ 140737488355328) : wr .i64 z = z := wr_i64 (by omega) (by omega)
theorem cnd_T {α : Type} {p : Prop} {i : Decidable p} {x y : α} (h : p) : cnd (@decide p i) x y = x := by rw [decide_eq_true h]; rfl
theorem cnd_F {α : Type} {p : Prop} {i : Decidable p} {x y : α} (h : ¬ p) : cnd (@decide p i) x y = y := by rw [decide_eq_false h]; rfl
def U8 (l : List Int) : Prop := ∀ n ∈ l, 0 ≤ n ∧ n ≤ 255
theorem U8_get {a : List Int} (ha : U8 a) (j : Nat) (hj : j < a.length) : 0 ≤ a.getD j 0 ∧ a.getD j 0 ≤ 255 := by
  rw [List.getD_eq_getElem?_getD, List.getElem?_eq_getElem hj]
  exact ha _ (List.getElem_mem hj)
def dv (k : Int) : Int := List.getD [(1 : Int), (2 : Int), (3 : Int), (5 : Int), (9 : Int), (9 : Int), (20 : Int), (1000 : Int), (0 : Int)] (Int.toNat k) (0 : Int)
theorem dv_rng (k : Int) : 0 ≤ dv k ∧ dv k ≤ 1000 := by
  unfold dv
  generalize k.toNat = j
  match j with
  | 0 | 1 | 2 | 3 | 4 | 5 | 6 | 7 | 8 => decide
  | j + 9 => simp [List.getD_eq_getElem?_getD]
/-- A square of distances. -/
def gd (D : List (List Int)) (i j : Nat) : Int := (D.getD i []).getD j 0
structure GD (D : List (List Int)) : Prop where
  len : D.length = 8
  row : ∀ i, i < 8 → (D.getD i []).length = 8
  rng : ∀ i j, i < 8 → j < 8 → 0 ≤ gd D i j ∧ gd D i j ≤ 1000
  sym : ∀ i j, i < 8 → j < 8 → gd D i j = gd D j i
theorem lt8 {P : Nat → Prop} (h0 : P 0) (h1 : P 1) (h2 : P 2) (h3 : P 3) (h4 : P 4) (h5 : P 5) (h6 : P 6) (h7 : P 7) : ∀ i, i < 8 → P i
  | 0, _ => h0 | 1, _ => h1 | 2, _ => h2 | 3, _ => h3 | 4, _ => h4 | 5, _ => h5 | 6, _ => h6 | 7, _ => h7
  | n + 8, h => by omega
theorem Num_spec (N : Nat) (m : Int) (l : List Int) (n : Int) (hU : U8 l) (hl : l.length ≤ 1000) (h0 : 0 ≤ n) (h1 : n ≤ l.length) (hm : 1 ≤ m) (hm2 : m ≤ 255) : ∃ v n', W_Picks_Num N (m, l, n) = some (v, l, n') ∧ 0 ≤ v ∧ v < m ∧ 0 ≤ n' ∧ n' ≤ l.length := by
  unfold W_Picks_Num V_Picks_Num
  try simp only
  by_cases hn : (l.length : Int) ≤ n
  · rw [dT hn, cnd_t]; exact ⟨_, _, rfl, by omega, by omega, h0, h1⟩
  have w : wr .i64 (wr .i64 (n + 1) - 1) = n := by rw [wr_m (z := n + 1) (by omega) (by omega), wr_m (z := n + 1 - 1) (by omega) (by omega)]; omega
  have g := U8_get hU n.toNat (by omega)
  rw [w, wr_m (z := n + 1) (by omega) (by omega)]
  clear w
  rw [dF hn, cnd_f, dF (show ¬ m < 1 by omega), cnd_f, dT h0, dT (show n < l.length by omega), Bool.and_self, cnd_t, dF (show ¬ m = 0 by omega), Bool.not_false, cnd_t, wr_m (by omega) (by omega)]
  exact ⟨_, _, rfl, Int.tmod_nonneg _ g.1, Int.tmod_lt_of_pos _ (by omega), by omega, by omega⟩
def Z0 (D : List (List Int)) : Prop := ∀ i, i < 8 → gd D i i = 0
theorem Dist_spec1 (N : Nat) (l : List Int) (n : Int) (hU : U8 l) (hl : l.length ≤ 1000) (h0 : 0 ≤ n) (h1 : n ≤ l.length) : ∃ D n', W_Picks_Dist N (l, n) = some (D, l, n') ∧ GD D ∧ Z0 D ∧ 0 ≤ n' ∧ n' ≤ l.length := by
  unfold W_Picks_Dist V_Picks_Dist
  try simp only
  obtain ⟨v0, n0, e0, p0, q0, r0, s0⟩ := Num_spec N 9 l n hU hl h0 h1 (by omega) (by omega)
  rw [e0, obind_s, dT p0, cnd_t, dT (show v0 < ((9 : Nat) : Int) from q0), cnd_t]
  obtain ⟨v1, n1, e1, p1, q1, r1, s1⟩ := Num_spec N 9 l n0 hU hl r0 s0 (by omega) (by omega)
  rw [e1, obind_s, dT p1, cnd_t, dT (show v1 < ((9 : Nat) : Int) from q1), cnd_t]
  obtain ⟨v2, n2, e2, p2, q2, r2, s2⟩ := Num_spec N 9 l n1 hU hl r1 s1 (by omega) (by omega)
  rw [e2, obind_s, dT p2, cnd_t, dT (show v2 < ((9 : Nat) : Int) from q2), cnd_t]
  obtain ⟨v3, n3, e3, p3, q3, r3, s3⟩ := Num_spec N 9 l n2 hU hl r2 s2 (by omega) (by omega)
  rw [e3, obind_s, dT p3, cnd_t, dT (show v3 < ((9 : Nat) : Int) from q3), cnd_t]
  obtain ⟨v4, n4, e4, p4, q4, r4, s4⟩ := Num_spec N 9 l n3 hU hl r3 s3 (by omega) (by omega)
  rw [e4, obind_s, dT p4, cnd_t, dT (show v4 < ((9 : Nat) : Int) from q4), cnd_t]
  obtain ⟨v5, n5, e5, p5, q5, r5, s5⟩ := Num_spec N 9 l n4 hU hl r4 s4 (by omega) (by omega)
  rw [e5, obind_s, dT p5, cnd_t, dT (show v5 < ((9 : Nat) : Int) from q5), cnd_t]
  obtain ⟨v6, n6, e6, p6, q6, r6, s6⟩ := Num_spec N 9 l n5 hU hl r5 s5 (by omega) (by omega)
  rw [e6, obind_s, dT p6, cnd_t, dT (show v6 < ((9 : Nat) : Int) from q6), cnd_t]
  obtain ⟨v7, n7, e7, p7, q7, r7, s7⟩ := Num_spec N 9 l n6 hU hl r6 s6 (by omega) (by omega)
  rw [e7, obind_s, dT p7, cnd_t, dT (show v7 < ((9 : Nat) : Int) from q7), cnd_t]
  obtain ⟨v8, n8, e8, p8, q8, r8, s8⟩ := Num_spec N 9 l n7 hU hl r7 s7 (by omega) (by omega)
  rw [e8, obind_s, dT p8, cnd_t, dT (show v8 < ((9 : Nat) : Int) from q8), cnd_t]
  obtain ⟨v9, n9, e9, p9, q9, r9, s9⟩ := Num_spec N 9 l n8 hU hl r8 s8 (by omega) (by omega)
  rw [e9, obind_s, dT p9, cnd_t, dT (show v9 < ((9 : Nat) : Int) from q9), cnd_t]
  obtain ⟨v10, n10, e10, p10, q10, r10, s10⟩ := Num_spec N 9 l n9 hU hl r9 s9 (by omega) (by omega)
  rw [e10, obind_s, dT p10, cnd_t, dT (show v10 < ((9 : Nat) : Int) from q10), cnd_t]
  obtain ⟨v11, n11, e11, p11, q11, r11, s11⟩ := Num_spec N 9 l n10 hU hl r10 s10 (by omega) (by omega)
  rw [e11, obind_s, dT p11, cnd_t, dT (show v11 < ((9 : Nat) : Int) from q11), cnd_t]
  obtain ⟨v12, n12, e12, p12, q12, r12, s12⟩ := Num_spec N 9 l n11 hU hl r11 s11 (by omega) (by omega)
  rw [e12, obind_s, dT p12, cnd_t, dT (show v12 < ((9 : Nat) : Int) from q12), cnd_t]
  obtain ⟨v13, n13, e13, p13, q13, r13, s13⟩ := Num_spec N 9 l n12 hU hl r12 s12 (by omega) (by omega)
  rw [e13, obind_s, dT p13, cnd_t, dT (show v13 < ((9 : Nat) : Int) from q13), cnd_t]
  obtain ⟨v14, n14, e14, p14, q14, r14, s14⟩ := Num_spec N 9 l n13 hU hl r13 s13 (by omega) (by omega)
  rw [e14, obind_s, dT p14, cnd_t, dT (show v14 < ((9 : Nat) : Int) from q14), cnd_t]
  obtain ⟨v15, n15, e15, p15, q15, r15, s15⟩ := Num_spec N 9 l n14 hU hl r14 s14 (by omega) (by omega)
  rw [e15, obind_s, dT p15, cnd_t, dT (show v15 < ((9 : Nat) : Int) from q15), cnd_t]
  obtain ⟨v16, n16, e16, p16, q16, r16, s16⟩ := Num_spec N 9 l n15 hU hl r15 s15 (by omega) (by omega)
  rw [e16, obind_s, dT p16, cnd_t, dT (show v16 < ((9 : Nat) : Int) from q16), cnd_t]
  obtain ⟨v17, n17, e17, p17, q17, r17, s17⟩ := Num_spec N 9 l n16 hU hl r16 s16 (by omega) (by omega)
  rw [e17, obind_s, dT p17, cnd_t, dT (show v17 < ((9 : Nat) : Int) from q17), cnd_t]
  obtain ⟨v18, n18, e18, p18, q18, r18, s18⟩ := Num_spec N 9 l n17 hU hl r17 s17 (by omega) (by omega)
  rw [e18, obind_s, dT p18, cnd_t, dT (show v18 < ((9 : Nat) : Int) from q18), cnd_t]
  obtain ⟨v19, n19, e19, p19, q19, r19, s19⟩ := Num_spec N 9 l n18 hU hl r18 s18 (by omega) (by omega)
  rw [e19, obind_s, dT p19, cnd_t, dT (show v19 < ((9 : Nat) : Int) from q19), cnd_t]
  obtain ⟨v20, n20, e20, p20, q20, r20, s20⟩ := Num_spec N 9 l n19 hU hl r19 s19 (by omega) (by omega)
  rw [e20, obind_s, dT p20, cnd_t, dT (show v20 < ((9 : Nat) : Int) from q20), cnd_t]
  obtain ⟨v21, n21, e21, p21, q21, r21, s21⟩ := Num_spec N 9 l n20 hU hl r20 s20 (by omega) (by omega)
  rw [e21, obind_s, dT p21, cnd_t, dT (show v21 < ((9 : Nat) : Int) from q21), cnd_t]
  obtain ⟨v22, n22, e22, p22, q22, r22, s22⟩ := Num_spec N 9 l n21 hU hl r21 s21 (by omega) (by omega)
  rw [e22, obind_s, dT p22, cnd_t, dT (show v22 < ((9 : Nat) : Int) from q22), cnd_t]
  obtain ⟨v23, n23, e23, p23, q23, r23, s23⟩ := Num_spec N 9 l n22 hU hl r22 s22 (by omega) (by omega)
  rw [e23, obind_s, dT p23, cnd_t, dT (show v23 < ((9 : Nat) : Int) from q23), cnd_t]
  obtain ⟨v24, n24, e24, p24, q24, r24, s24⟩ := Num_spec N 9 l n23 hU hl r23 s23 (by omega) (by omega)
  rw [e24, obind_s, dT p24, cnd_t, dT (show v24 < ((9 : Nat) : Int) from q24), cnd_t]
  obtain ⟨v25, n25, e25, p25, q25, r25, s25⟩ := Num_spec N 9 l n24 hU hl r24 s24 (by omega) (by omega)
  rw [e25, obind_s, dT p25, cnd_t, dT (show v25 < ((9 : Nat) : Int) from q25), cnd_t]
  obtain ⟨v26, n26, e26, p26, q26, r26, s26⟩ := Num_spec N 9 l n25 hU hl r25 s25 (by omega) (by omega)
  rw [e26, obind_s, dT p26, cnd_t, dT (show v26 < ((9 : Nat) : Int) from q26), cnd_t]
  obtain ⟨v27, n27, e27, p27, q27, r27, s27⟩ := Num_spec N 9 l n26 hU hl r26 s26 (by omega) (by omega)
  rw [e27, obind_s, dT p27, cnd_t, dT (show v27 < ((9 : Nat) : Int) from q27), cnd_t]
  refine ⟨[[(0 : Int), dv v0, dv v1, dv v3, dv v6, dv v10, dv v15, dv v21], [dv v0, (0 : Int), dv v2, dv v4, dv v7, dv v11, dv v16, dv v22], [dv v1, dv v2, (0 : Int), dv v5, dv v8, dv v12, dv v17, dv v23], [dv v3, dv v4, dv v5, (0 : Int), dv v9, dv v13, dv v18, dv v24], [dv v6, dv v7, dv v8, dv v9, (0 : Int), dv v14, dv v19, dv v25], [dv v10, dv v11, dv v12, dv v13, dv v14, (0 : Int), dv v20, dv v26], [dv v15, dv v16, dv v17, dv v18, dv v19, dv v20, (0 : Int), dv v27], [dv v21, dv v22, dv v23, dv v24, dv v25, dv v26, dv v27, (0 : Int)]], n27, rfl, ?_, lt8 rfl rfl rfl rfl rfl rfl rfl rfl, r27, s27⟩
  have d0 := dv_rng v0
  have d1 := dv_rng v1
  have d2 := dv_rng v2
  have d3 := dv_rng v3
  have d4 := dv_rng v4
  have d5 := dv_rng v5
  have d6 := dv_rng v6
  have d7 := dv_rng v7
  have d8 := dv_rng v8
  have d9 := dv_rng v9
  have d10 := dv_rng v10
  have d11 := dv_rng v11
  have d12 := dv_rng v12
  have d13 := dv_rng v13
  have d14 := dv_rng v14
  have d15 := dv_rng v15
  have d16 := dv_rng v16
  have d17 := dv_rng v17
  have d18 := dv_rng v18
  have d19 := dv_rng v19
  have d20 := dv_rng v20
  have d21 := dv_rng v21
  have d22 := dv_rng v22
  have d23 := dv_rng v23
  have d24 := dv_rng v24
  have d25 := dv_rng v25
  have d26 := dv_rng v26
  have d27 := dv_rng v27
  generalize dv v0 = w0 at *
  generalize dv v1 = w1 at *
  generalize dv v2 = w2 at *
  generalize dv v3 = w3 at *
  generalize dv v4 = w4 at *
  generalize dv v5 = w5 at *
  generalize dv v6 = w6 at *
  generalize dv v7 = w7 at *
  generalize dv v8 = w8 at *
  generalize dv v9 = w9 at *
  generalize dv v10 = w10 at *
  generalize dv v11 = w11 at *
  generalize dv v12 = w12 at *
  generalize dv v13 = w13 at *
  generalize dv v14 = w14 at *
  generalize dv v15 = w15 at *
  generalize dv v16 = w16 at *
  generalize dv v17 = w17 at *
  generalize dv v18 = w18 at *
  generalize dv v19 = w19 at *
  generalize dv v20 = w20 at *
  generalize dv v21 = w21 at *
  generalize dv v22 = w22 at *
  generalize dv v23 = w23 at *
  generalize dv v24 = w24 at *
  generalize dv v25 = w25 at *
  generalize dv v26 = w26 at *
  generalize dv v27 = w27 at *
  refine ⟨rfl, lt8 rfl rfl rfl rfl rfl rfl rfl rfl, ?_, fun i j hi hj => lt8 (P := fun i => ∀ j, j < 8 → gd [[(0 : Int), w0, w1, w3, w6, w10, w15, w21], [w0, (0 : Int), w2, w4, w7, w11, w16, w22], [w1, w2, (0 : Int), w5, w8, w12, w17, w23], [w3, w4, w5, (0 : Int), w9, w13, w18, w24], [w6, w7, w8, w9, (0 : Int), w14, w19, w25], [w10, w11, w12, w13, w14, (0 : Int), w20, w26], [w15, w16, w17, w18, w19, w20, (0 : Int), w27], [w21, w22, w23, w24, w25, w26, w27, (0 : Int)]] i j = gd [[(0 : Int), w0, w1, w3, w6, w10, w15, w21], [w0, (0 : Int), w2, w4, w7, w11, w16, w22], [w1, w2, (0 : Int), w5, w8, w12, w17, w23], [w3, w4, w5, (0 : Int), w9, w13, w18, w24], [w6, w7, w8, w9, (0 : Int), w14, w19, w25], [w10, w11, w12, w13, w14, (0 : Int), w20, w26], [w15, w16, w17, w18, w19, w20, (0 : Int), w27], [w21, w22, w23, w24, w25, w26, w27, (0 : Int)]] j i) (lt8 rfl rfl rfl rfl rfl rfl rfl rfl) (lt8 rfl rfl rfl rfl rfl rfl rfl rfl) (lt8 rfl rfl rfl rfl rfl rfl rfl rfl) (lt8 rfl rfl rfl rfl rfl rfl rfl rfl) (lt8 rfl rfl rfl rfl rfl rfl rfl rfl) (lt8 rfl rfl rfl rfl rfl rfl rfl rfl) (lt8 rfl rfl rfl rfl rfl rfl rfl rfl) (lt8 rfl rfl rfl rfl rfl rfl rfl rfl) i hi j hj⟩
  have z : (0 : Int) ≤ 0 ∧ (0 : Int) ≤ 1000 := ⟨by omega, by omega⟩
  refine fun i j hi hj => lt8 (P := fun i => ∀ j, j < 8 → 0 ≤ gd [[(0 : Int), w0, w1, w3, w6, w10, w15, w21], [w0, (0 : Int), w2, w4, w7, w11, w16, w22], [w1, w2, (0 : Int), w5, w8, w12, w17, w23], [w3, w4, w5, (0 : Int), w9, w13, w18, w24], [w6, w7, w8, w9, (0 : Int), w14, w19, w25], [w10, w11, w12, w13, w14, (0 : Int), w20, w26], [w15, w16, w17, w18, w19, w20, (0 : Int), w27], [w21, w22, w23, w24, w25, w26, w27, (0 : Int)]] i j ∧ gd [[(0 : Int), w0, w1, w3, w6, w10, w15, w21], [w0, (0 : Int), w2, w4, w7, w11, w16, w22], [w1, w2, (0 : Int), w5, w8, w12, w17, w23], [w3, w4, w5, (0 : Int), w9, w13, w18, w24], [w6, w7, w8, w9, (0 : Int), w14, w19, w25], [w10, w11, w12, w13, w14, (0 : Int), w20, w26], [w15, w16, w17, w18, w19, w20, (0 : Int), w27], [w21, w22, w23, w24, w25, w26, w27, (0 : Int)]] i j ≤ 1000) ?_ ?_ ?_ ?_ ?_ ?_ ?_ ?_ i hi j hj
  · exact lt8 z d0 d1 d3 d6 d10 d15 d21
  · exact lt8 d0 z d2 d4 d7 d11 d16 d22
  · exact lt8 d1 d2 z d5 d8 d12 d17 d23
  · exact lt8 d3 d4 d5 z d9 d13 d18 d24
  · exact lt8 d6 d7 d8 d9 z d14 d19 d25
  · exact lt8 d10 d11 d12 d13 d14 z d20 d26
  · exact lt8 d15 d16 d17 d18 d19 d20 z d27
  · exact lt8 d21 d22 d23 d24 d25 d26 d27 z

def NN : Nat := 1000
theorem within_p (N : Nat) (v : Int) : W_rtt_within N v = some (min (max v 0) 1000) := rfl
theorem May_yes (N : Nat) (hN : 1000 ≤ N) (D : List (List Int)) (h : GD D) (hz : Z0 D) : W_rtt_May N D = some true := by
  have hl := h.len
  have bb : ∀ k : Nat, k < 8 → (decide ((0 : Int) ≤ (k : Int)) && decide ((k : Int) < ((8 : Nat) : Int))) = true := fun k h => by rw [dT (by omega), dT (by omega)]; rfl
  unfold W_rtt_May V_rtt_May
  rw [cnd_F (show ¬ (D.length : Int) ≠ 8 by omega)]
  refine loop_G (σ := Int) (ρ := PUnit ⊕ Bool) (β := Bool) (fun o => o = some true) (fun k v => v = (k : Int) ∧ k ≤ 8) 8 (fun r => r = .inl ()) ⟨rfl, by omega⟩ (by omega) ?_ (fun k v h => h.2) ?_
  · rintro r rfl
    rw [selim_l]
    refine loop_G (σ := Int) (ρ := PUnit ⊕ Bool) (β := Bool) (fun o => o = some true) (fun k v => v = (k : Int) ∧ k ≤ 8) 8 (fun r => r = .inl ()) ⟨rfl, by omega⟩ (by omega) ?_ (fun k v h => h.2) ?_
    · rintro r rfl; rfl
    · rintro k v ⟨rfl, hk⟩
      by_cases c : k < 8
      case neg => right; rw [cnd_F (by omega)]; exact ⟨_, rfl, rfl⟩
      left
      have hrk := h.row k c
      rw [cnd_T (by omega)]
      simp only [hl, bb k c, cnd_t, Int.toNat_natCast]
      refine loop_G (σ := Int) (ρ := PUnit ⊕ Bool) (β := Int ⊕ (PUnit ⊕ Bool)) (fun o => ∃ y, o = some (.inl y) ∧ y = ((k + 1 : Nat) : Int) ∧ k + 1 ≤ 8) (fun j v => v = (j : Int) ∧ j ≤ 8) 8 (fun r => r = .inl ()) ⟨rfl, by omega⟩ (by omega) ?_ (fun k v h => h.2) ?_
      · rintro r rfl
        exact ⟨_, rfl, by rw [wr_m (by omega) (by omega)]; omega, by omega⟩
      · rintro j v ⟨rfl, hj⟩
        by_cases d : j < 8
        case neg => right; rw [cnd_F (by omega)]; exact ⟨_, rfl, rfl⟩
        left
        have hrj := h.row j d
        rw [cnd_T (by omega)]
        have ekj : (D.getD k []).getD j 0 = gd D k j := rfl
        have ejk : (D.getD j []).getD k 0 = gd D j k := rfl
        have hg := h.rng k j c d
        have hs := h.sym k j c d
        simp only [hl, hrk, hrj, bb j d, bb k c, cnd_t, Int.toNat_natCast, ekj, ejk, within_p, obind_s]
        rw [cnd_F (show ¬ gd D k j ≠ min (max (gd D k j) 0) 1000 by omega), dF (show ¬ gd D k j ≠ gd D j k by omega), obind_s, cnd_f]
        by_cases q : (k : Int) = j
        · rw [cnd_T q]
          have q2 : k = j := by omega
          subst q2
          rw [cnd_F (show ¬ gd D k k ≠ 0 by have := hz k c; omega)]
          exact ⟨_, rfl, by rw [wr_m (by omega) (by omega)]; omega, by omega⟩
        · rw [cnd_F q]
          exact ⟨_, rfl, by rw [wr_m (by omega) (by omega)]; omega, by omega⟩
  · rintro k v ⟨rfl, hk⟩
    by_cases c : k < 8
    case neg => right; rw [cnd_F (by omega)]; exact ⟨_, rfl, rfl⟩
    left
    rw [cnd_T (by omega)]
    simp only [hl, bb k c, cnd_t, Int.toNat_natCast, h.row k c]
    exact ⟨_, rfl, by rw [wr_m (by omega) (by omega)]; omega, by omega⟩
theorem Smooth_p (N : Nat) (x s : Int) (h0 : 0 ≤ x) (h1 : x ≤ 1000) : ∃ v, W_rtt_Smooth N (x, s) = some v ∧ 0 ≤ v ∧ v ≤ 1000 := by
  unfold W_rtt_Smooth V_rtt_Smooth W_rtt_before V_rtt_before
  simp only [within_p, obind_s]
  by_cases c : x ≤ 0
  · rw [cnd_T c, obind_s, selim_r]
    exact ⟨_, rfl, by omega, by omega⟩
  · rw [cnd_F c, obind_s, selim_l, wr_m (z := 7 * min (max x 0) 1000) (by omega) (by omega), wr_m (z := 7 * min (max x 0) 1000 + min (max s 0) 1000) (by omega) (by omega)]
    have e : Int.tdiv (7 * min (max x 0) 1000 + min (max s 0) 1000) 8 = (7 * min (max x 0) 1000 + min (max s 0) 1000) / 8 := Int.tdiv_eq_ediv_of_nonneg (by omega)
    rw [e, wr_m (by omega) (by omega)]
    exact ⟨_, rfl, by omega, by omega⟩
theorem numbers_p (N A B : Nat) (hA : A < 8) (hB : B < 8) : W_rtt_numbers N ((A : Int) + 1, (B : Int) + 1) = some (decide (A ≠ B)) := by
  unfold W_rtt_numbers V_rtt_numbers
  by_cases c : A = B
  · subst c
    rw [cnd_F (by simp), obind_s, cnd_f, dF (by simp)]
  · rw [cnd_T (show (A : Int) + 1 ≠ (B : Int) + 1 by omega), obind_s, dT (show (1 : Int) ≤ min ((A : Int) + 1) ((B : Int) + 1) by omega), cnd_t, dT (show max ((A : Int) + 1) ((B : Int) + 1) ≤ 8 by omega), dT c]
theorem GD_sized (D : List (List Int)) (h : GD D) : sized D = true := by
  unfold sized
  rw [dT (show D.length ≤ 1000 by have := h.len; omega), Bool.true_and, List.all_eq_true]
  intro l hl
  obtain ⟨i, hi, rfl⟩ := List.mem_iff_getElem.1 hl
  have := h.row i (by have := h.len; omega)
  rw [List.getD_eq_getElem?_getD, List.getElem?_eq_getElem hi] at this
  have : (D[i]).length = 8 := this
  rw [this]; rfl
theorem set2_row (D : List (List Int)) (A B : Nat) (v : Int) (i : Nat) (hi : i < D.length) (hAB : A ≠ B) : (set2 D A B v).getD i [] = if i = A then (D.getD i []).set B v else if i = B then (D.getD i []).set A v else D.getD i [] := by
  unfold set2
  rw [List.getD_eq_getElem?_getD, List.getElem?_modify, List.getElem?_modify, List.getD_eq_getElem?_getD, List.getElem?_eq_getElem hi]
  by_cases q : i = A
  · subst q
    simp [Ne.symm hAB]
  · by_cases q2 : i = B
    · subst q2
      simp [q, hAB]
    · simp [q, q2, Ne.symm q, Ne.symm q2]
theorem getD_set8 (l : List Int) (i j : Nat) (v : Int) (hi : i < l.length) : (l.set i v).getD j 0 = if j = i then v else l.getD j 0 := by
  rw [List.getD_eq_getElem?_getD, List.getElem?_set, List.getD_eq_getElem?_getD]
  by_cases q : j = i
  · subst q; simp [hi]
  · rw [if_neg q, if_neg (Ne.symm q)]
theorem set2_gd (D : List (List Int)) (h : GD D) (A B : Nat) (v : Int) (hA : A < 8) (hB : B < 8) (hAB : A ≠ B) (i j : Nat) (hi : i < 8) : gd (set2 D A B v) i j = if i = A ∧ j = B ∨ i = B ∧ j = A then v else gd D i j := by
  unfold gd
  rw [set2_row D A B v i (by have := h.len; omega) hAB]
  have hr := h.row i hi
  by_cases q : i = A
  · subst q
    rw [if_pos rfl, getD_set8 _ _ _ _ (by omega)]
    by_cases q2 : j = B
    · rw [if_pos q2, if_pos (.inl ⟨rfl, q2⟩)]
    · rw [if_neg q2, if_neg (by rintro (⟨_, e⟩ | ⟨e, _⟩); exact q2 e; exact hAB e)]
  · rw [if_neg q]
    by_cases q2 : i = B
    · subst q2
      rw [if_pos rfl, getD_set8 _ _ _ _ (by omega)]
      by_cases q3 : j = A
      · rw [if_pos q3, if_pos (.inr ⟨rfl, q3⟩)]
      · rw [if_neg q3, if_neg (by rintro (⟨e, _⟩ | ⟨_, e⟩); exact q e; exact q3 e)]
    · rw [if_neg q2, if_neg (by rintro (⟨e, _⟩ | ⟨e, _⟩); exact q e; exact q2 e)]
theorem set2_GD (D : List (List Int)) (h : GD D) (hz : Z0 D) (A B : Nat) (v : Int) (hA : A < 8) (hB : B < 8) (hAB : A ≠ B) (h0 : 0 ≤ v) (h1 : v ≤ 1000) : GD (set2 D A B v) ∧ Z0 (set2 D A B v) := by
  refine ⟨⟨?_, fun i hi => ?_, fun i j hi hj => ?_, fun i j hi hj => ?_⟩, fun i hi => ?_⟩
  · unfold set2; rw [List.length_modify, List.length_modify]; exact h.len
  · rw [set2_row D A B v i (by have := h.len; omega) hAB]
    have := h.row i hi
    split
    · rw [List.length_set]; exact this
    · split
      · rw [List.length_set]; exact this
      · exact this
  · rw [set2_gd D h A B v hA hB hAB i j hi]
    split
    · exact ⟨h0, h1⟩
    · exact h.rng i j hi hj
  · rw [set2_gd D h A B v hA hB hAB i j hi, set2_gd D h A B v hA hB hAB j i hj]
    by_cases c : i = A ∧ j = B ∨ i = B ∧ j = A
    · rw [if_pos c, if_pos (by omega)]
    · rw [if_neg c, if_neg (by omega)]; exact h.sym i j hi hj
  · rw [set2_gd D h A B v hA hB hAB i i hi, if_neg (by omega)]; exact hz i hi
theorem Learn_p (N : Nat) (hN : 1000 ≤ N) (D : List (List Int)) (h : GD D) (hz : Z0 D) (A B : Nat) (hA : A < 8) (hB : B < 8) (s : Int) : ∃ R, W_rtt_Learn N (D, (A : Int) + 1, (B : Int) + 1, s) = some R ∧ GD R ∧ Z0 R ∧
    ((A = B ∧ R = D) ∨ (A ≠ B ∧ ∃ v, W_rtt_Smooth N (gd D A B, s) = some v ∧ ∀ i j, i < 8 → gd R i j = if i = A ∧ j = B ∨ i = B ∧ j = A then v else gd D i j)) := by
  unfold W_rtt_Learn learnT
  simp only []
  rw [GD_sized D h, cnd_t, May_yes N hN D h hz, obind_s, cnd_t, numbers_p N A B hA hB, obind_s]
  by_cases c : A = B
  · rw [dF (by simpa using c), cnd_f]
    exact ⟨_, rfl, h, hz, .inl ⟨c, rfl⟩⟩
  · have eA : ((A : Int) + 1).toNat - 1 = A := by omega
    have eB : ((B : Int) + 1).toNat - 1 = B := by omega
    have rA := h.row A hA
    have rB := h.row B hB
    have eg : (D.getD A []).getD B 0 = gd D A B := rfl
    obtain ⟨v, hv, v0, v1⟩ := Smooth_p N (gd D A B) s (h.rng A B hA hB).1 (h.rng A B hA hB).2
    obtain ⟨g1, g2⟩ := set2_GD D h hz A B v hA hB c v0 v1
    rw [dT c, cnd_t, eA, eB, eg, hv, obind_s, cnd_T ⟨by omega, by omega, by omega, by omega, by omega⟩]
    exact ⟨_, rfl, g1, g2, .inr ⟨c, v, rfl, fun i j hi => set2_gd D h A B v hA hB c i j hi⟩⟩
theorem ix (N : Nat) (y : Int) (h0 : 0 ≤ y) (h1 : y ≤ 255) : ∃ A : Nat, A < 8 ∧ wr .i64 ((1 : Int) + wr .i64 (Int.tmod y (8 : Int))) = (A : Int) + 1 := by
  refine ⟨(y % 8).toNat, by omega, ?_⟩
  rw [Int.tmod_eq_emod_of_nonneg h0, wr_m (z := y % 8) (by omega) (by omega), wr_m (by omega) (by omega)]
  omega
theorem fin_p (j : Nat) (cj : j < 8) (X : Option (Int ⊕ (PUnit ⊕ Bool))) (h : X = some (.inl (((j + 1 : Nat) : Int) + 1))) : ∃ y, X = some (.inl y) ∧ y = ((j + 1 : Nat) : Int) + 1 ∧ j + 1 ≤ 8 := ⟨_, h, rfl, by omega⟩
theorem d1_p (a b : Nat) : decide ((a : Int) + 1 = (b : Int) + 1) = decide (a = b) := by
  by_cases q : a = b
  · rw [dT (by omega), dT q]
  · rw [dF (by omega), dF q]
theorem d2_p (a b : Nat) : decide ((a : Int) + 1 ≠ (b : Int) + 1) = decide (a ≠ b) := by
  by_cases q : a = b
  · rw [dF (by omega), dF (by omega)]
  · rw [dT (by omega), dT q]
theorem begun_rtt : W_law5_begun NN () = some true := by decide +kernel
theorem law_aux (N : Nat) (hN : 1000 ≤ N) (hb : W_law5_begun N () = some true) (y0 : List Int) (y1 y2 y3 : Int) (hU : U8 y0) (h1 : 0 ≤ y1 ∧ y1 ≤ 255) (h2 : 0 ≤ y2 ∧ y2 ≤ 255) (h3 : 0 ≤ y3 ∧ y3 ≤ 65535) : W_law5_RttLearn N (y0, y1, y2, y3) = some true := by
  unfold W_law5_RttLearn V_law5_RttLearn
  rw [hb, obind_s, Bool.not_true, cnd_f]
  simp only []
  by_cases c : (30 : Int) < (y0.length : Int)
  · rw [cnd_T c]
  rw [cnd_F c]
  obtain ⟨D, n', e, hD, hz, _⟩ := Dist_spec1 N y0 0 hU (by omega) (by omega) (by omega)
  rw [show W_Made N y0 = some (y0, 0) from rfl, obind_s, e, obind_s]
  obtain ⟨A, hA, eA⟩ := ix N y1 h1.1 h1.2
  obtain ⟨B, hB, eB⟩ := ix N y2 h2.1 h2.2
  simp only [eA, eB, wr_m (z := y3) (by omega) (by omega)]
  obtain ⟨R, eR, hR, hRz, hc⟩ := Learn_p N hN D hD hz A B hA hB y3
  have hDl := hD.len
  have hRl := hR.len
  rw [eR, obind_s, May_yes N hN R hR hRz, obind_s, Bool.not_true, cnd_f, cnd_F (show ¬ (R.length : Int) ≠ 8 by omega)]
  have bb : ∀ k : Nat, k < 8 → (decide ((0 : Int) ≤ (k : Int)) && decide ((k : Int) < ((8 : Nat) : Int))) = true := fun k h => by rw [dT (by omega), dT (by omega)]; rfl
  refine loop_G (σ := Int) (ρ := PUnit ⊕ Bool) (β := Bool) (fun o => o = some true) (fun k v => v = (k : Int) + 1 ∧ k ≤ 8) 8 (fun r => r = .inl ()) ⟨rfl, by omega⟩ (by omega) ?_ (fun k v h => h.2) ?_
  · rintro r rfl; rfl
  rintro k v ⟨rfl, hk⟩
  by_cases ck : k < 8
  case neg => right; rw [cnd_F (by omega)]; exact ⟨_, rfl, rfl⟩
  left
  rw [cnd_T (by omega)]
  refine loop_G (σ := Int) (ρ := PUnit ⊕ Bool) (β := Int ⊕ (PUnit ⊕ Bool)) (fun o => ∃ y, o = some (.inl y) ∧ y = ((k + 1 : Nat) : Int) + 1 ∧ k + 1 ≤ 8) (fun j v => v = (j : Int) + 1 ∧ j ≤ 8) 8 (fun r => r = .inl ()) ⟨rfl, by omega⟩ (by omega) ?_ (fun k v h => h.2) ?_
  · rintro r rfl
    exact ⟨_, rfl, by rw [wr_m (by omega) (by omega)]; omega, by omega⟩
  rintro j v ⟨rfl, hj⟩
  by_cases cj : j < 8
  case neg => right; rw [cnd_F (by omega)]; exact ⟨_, rfl, rfl⟩
  left
  rw [cnd_T (by omega)]
  have w1 : wr .i64 ((k : Int) + 1 - 1) = (k : Int) := by rw [wr_m (by omega) (by omega)]; omega
  have w2 : wr .i64 ((j : Int) + 1 - 1) = (j : Int) := by rw [wr_m (by omega) (by omega)]; omega
  have w3 : wr .i64 ((j : Int) + 1 + 1) = ((j + 1 : Nat) : Int) + 1 := by rw [wr_m (by omega) (by omega)]; omega
  have q1 : (D.getD k []).getD j 0 = gd D k j := rfl
  have q2 : (R.getD k []).getD j 0 = gd R k j := rfl
  refine fin_p j cj _ ?_
  simp only [w1, w2, w3, hDl, hRl, hD.row k ck, hR.row k ck, bb k ck, bb j cj, cnd_t, Int.toNat_natCast, q1, q2, d1_p, d2_p]
  rcases hc with ⟨rfl, rfl⟩ | ⟨hAB, v, hv, hg⟩
  · by_cases a1 : k = A <;> by_cases a2 : j = A <;> simp [a1, a2, cnd, obind, selim]
  · have hgk := hg k j ck
    by_cases a1 : k = A
    · subst a1
      rw [dT rfl, cnd_t, obind_s]
      by_cases a2 : j = B
      · subst a2
        rw [dT rfl, cnd_t, dT hAB, cnd_t, hv, obind_s, obind_s, cnd_F (by rw [hgk, if_pos (.inl ⟨rfl, rfl⟩)]; exact fun h => h rfl)]
      · rw [dF a2, cnd_f, dF hAB, cnd_f, cnd_F (by rw [hgk, if_neg (by rintro (⟨_, h⟩ | ⟨h, _⟩); exact a2 h; exact hAB h)]; exact fun h => h rfl)]
    · rw [dF a1, cnd_f, obind_s, cnd_f]
      by_cases a3 : k = B
      · subst a3
        rw [dT rfl, cnd_t]
        by_cases a4 : j = A
        · subst a4
          rw [dT rfl, cnd_t, dT hAB, cnd_t, hD.sym k j ck cj, hv, obind_s, obind_s, cnd_F (by rw [hgk, if_pos (.inr ⟨rfl, rfl⟩)]; exact fun h => h rfl)]
        · rw [dF a4, cnd_f, obind_s, cnd_F (by rw [hgk, if_neg (by rintro (⟨h, _⟩ | ⟨_, h⟩); exact a1 h; exact a4 h)]; exact fun h => h rfl)]
      · rw [dF a3, cnd_f, cnd_F (by rw [hgk, if_neg (by rintro (⟨h, _⟩ | ⟨h, _⟩); exact a1 h; exact a3 h)]; exact fun h => h rfl)]
theorem law_true (y0 : List Int) (y1 : Int) (y2 : Int) (y3 : Int) (h0 : Twf (.list (.int .u8)) y0) (h1 : Twf (.int .u8) y1) (h2 : Twf (.int .u8) y2) (h3 : Twf (.int .u16) y3) : W_law5_RttLearn NN (y0, y1, y2, y3) = some true :=
  law_aux NN (Nat.le_refl _) begun_rtt y0 y1 y2 y3 h0.2 h1 h2 h3

theorem spec (y0 : List Int) (y1 : Int) (y2 : Int) (y3 : Int) (h0 : Twf (.list (.int .u8)) y0) (h1 : Twf (.int .u8) y1) (h2 : Twf (.int .u8) y2) (h3 : Twf (.int .u16) y3) : Spec2 P0 4 [valW (.list (.int .u8)) y0, valW (.int .u8) y1, valW (.int .u8) y2, valW (.int .u16) y3] [] (.bs true) [] [] := (con_law5_RttLearn_ok NN).2 (y0, y1, y2, y3) true (law_true y0 y1 y2 y3 h0 h1 h2 h3)
theorem lifted (os : Os) (started : os.Started) (H : Type) (enc : TypeId × Value → H) :
    ReturnsInHanded {} Try.checked os 4 .any (Rows.rttLearnSpec.pre6 enc Try.prog Try.f4 Rows.rttLearnRow.domain false) (Rows.rttLearnSpec.post enc Try.prog Try.f4 false true false false) := by
  refine returnsInHanded_of_change (C := Try.checked) own started (by kernel_rfl) Try.func4
    (ChangeSpec.witness6 (enc := enc) (C := Try.checked) false ⟨#[], #[.slice none 0 0, .int .u8 0, .int .u8 0, .int .u16 0], []⟩ 8 (by kernel_rfl) (by kernel_rfl) (by kernel_rfl) (by kernel_rfl)) ?_
  intro W base args ds gs before hval0 hW hcnd _
  have hval : ∀ (j : Nat) t v, Try.f4.params[j]? = some t → args[j]? = some v → Value.okWide Try.prog W .any base t v := hval0
  have hW' := hW
  obtain ⟨p, q, hA0, hV, rfl, hfz, hnd⟩ := hW
  have hA : DataW.TrodAll enc Try.prog W 0 (fun _ => true) true Try.f4.params.toList args.toList ds p := hA0
  rw [Try.params4] at hA hval
  obtain ⟨v0, vs0, d0, ds0, p0, q0, hargs, rfl, rfl, h0, r0⟩ := trodAll_cons hA
  obtain ⟨v1, vs1, d1, ds1, p1, q1, rfl, rfl, rfl, h1, r1⟩ := trodAll_cons r0
  obtain ⟨v2, vs2, d2, ds2, p2, q2, rfl, rfl, rfl, h2, r2⟩ := trodAll_cons r1
  obtain ⟨v3, vs3, d3, ds3, p3, q3, rfl, rfl, rfl, h3, r3⟩ := trodAll_cons r2
  obtain ⟨rfl, rfl, rfl⟩ := trodAll_nil r3
  obtain rfl : args = #[v0, v1, v2, v3] := by cases args; simp_all
  obtain ⟨rfl, rfl⟩ := trodVars_none hV
  have k0 := h0
  have lt0 : ∀ x ∈ p0, x.block < W.heap.size := by obtain ⟨m, hm⟩ := k0; exact DataW.trod_lt m _ _ _ hm
  obtain ⟨y0, rp0, wf0⟩ := arg_ok (n := 12) (ty := (.list (.int .u8))) (by kernel_rfl) (hval 0 _ v0 rfl rfl) h0
  have k1 := h1
  have lt1 : ∀ x ∈ p1, x.block < W.heap.size := by obtain ⟨m, hm⟩ := k1; exact DataW.trod_lt m _ _ _ hm
  obtain ⟨y1, rp1, wf1⟩ := arg_ok (n := 12) (ty := (.int .u8)) (by kernel_rfl) (hval 1 _ v1 rfl rfl) h1
  have k2 := h2
  have lt2 : ∀ x ∈ p2, x.block < W.heap.size := by obtain ⟨m, hm⟩ := k2; exact DataW.trod_lt m _ _ _ hm
  obtain ⟨y2, rp2, wf2⟩ := arg_ok (n := 12) (ty := (.int .u8)) (by kernel_rfl) (hval 2 _ v2 rfl rfl) h2
  have k3 := h3
  have lt3 : ∀ x ∈ p3, x.block < W.heap.size := by obtain ⟨m, hm⟩ := k3; exact DataW.trod_lt m _ _ _ hm
  obtain ⟨y3, rp3, wf3⟩ := arg_ok (n := 12) (ty := (.int .u16)) (by kernel_rfl) (hval 3 _ v3 rfl rfl) h3
  clear hA0 hval0
  refine (law_of2 (spec y0 y1 y2 y3 wf0 wf1 wf2 wf3) W #[v0, v1, v2, v3] (.cons rp0 (.cons rp1 (.cons rp2 (.cons rp3 .nil))))).mono fun e W' ⟨he, bel⟩ => ?_
  subst he
  exact ⟨_, rfl, _, _, _, [], _, [], hW', trodAll_mk1 (shut_bool Try.underlying4 _), (trodAll_cons_mk (Below.trod laidOut (by kernel_rfl) (of_decide_eq_true (by kernel_rfl)) k0 bel lt0) (trodAll_cons_mk (Below.trod laidOut (by kernel_rfl) (of_decide_eq_true (by kernel_rfl)) k1 bel lt1) (trodAll_cons_mk (Below.trod laidOut (by kernel_rfl) (of_decide_eq_true (by kernel_rfl)) k2 bel lt2) (trodAll_cons_mk (Below.trod laidOut (by kernel_rfl) (of_decide_eq_true (by kernel_rfl)) k3 bel lt3) trodAll_mk0)))), rfl, bel.frame _, fun h => by cases h⟩

theorem over : Rows.rttLearnRow.holds Try.pinned (OpenSpec.ofChange Rows.rttLearnSpec) :=
  OpenClaim.holds_of_wide 4 Try.f4 rfl rfl rfl rfl rfl rfl rfl ⟨rfl, rfl, rfl, rfl, rfl⟩ rfl rfl rfl rfl rfl (by kernel_rfl) Try.func4 (by kernel_rfl)
    (of_decide_eq_true (by kernel_rfl)) (by unfold Func.isWrapper; first | (rw [if_pos (by decide +kernel)]; kernel_rfl) | (rw [if_neg (by decide +kernel)]; exact ⟨rfl, rfl⟩))
    (fun os started H enc _ => lifted os started H enc)

theorem holds : Rows.RttLearnSaid := over
end Go.Proofs.Ytpohfnebmmjpdaa.rttLearnX
