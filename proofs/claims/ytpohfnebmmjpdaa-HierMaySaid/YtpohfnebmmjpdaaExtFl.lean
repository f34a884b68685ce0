/- Flat calls: the machine's words and a walk's. -/
import Derived.Test.YtpohfnebmmjpdaaExtL
import Derived.Below
namespace Go.Abs
open Go.RowKit
set_option linter.unusedVariables false
set_option linter.unusedSimpArgs false
theorem tab0_dead (t : Nat) : ((tabU [] []).get t).k = .dead := by
  rw [get_tabU]
  simp
theorem tab0_live (t : Nat) : ¬ (tabU [] []).live t := by
  simp only [Tab.live, tab0_dead, OK.live]
  exact id
theorem tr0 (D : Addr → Prop) (β : Nat → Nat) (w : World) : TR D (tabU [] []) β w := ⟨fun t => by rw [tab0_dead]; trivial, fun t u h => absurd h (tab0_live t), fun t h => absurd h (tab0_live t)⟩
/-- A flat call of the machine's, in memory. -/
theorem call_flat {P : Program} {f : FuncId} {args : List V} {res : V} (h : Spec2 P f args [] res [] []) {cargs : Array Value} {w : World} (ha : ∀ T β S, LR (Rv T β S w) args cargs.toList) :
    Calls P f cargs w fun e w' => (∃ v, e = .returned v ∧ ∃ T β S, Rv T β S w' res v) ∧ Below w.heap.size w w' := by
  refine (h w cargs (fun x => x) (fun _ => False) (tr0 _ _ _) (ha _ _ _)).mono ?_
  rintro e w' ⟨v, β', rfl, hk, _, hr, _⟩
  exact ⟨⟨v, rfl, _, _, _, hr⟩, (hk.mono (Y := fun _ => False) fun k _ hx => by obtain ⟨t, ht, _⟩ := hx; exact tab0_live t ht).below⟩
theorem spec_flat {P : Program} {f : FuncId} {args : List V} {res : V} (h : ∀ (cargs : Array Value) (w : World), (∃ T β S, LR (Rv T β S w) args cargs.toList) → Calls P f cargs w fun e w' => (∃ v, e = .returned v ∧ ∀ T β S, Rv T β S w' res v) ∧ Below w.heap.size w w') : Spec2 P f args [] res [] [] := by
  intro w cargs β S htr hargs
  refine (h cargs w ⟨_, _, _, hargs⟩).mono ?_
  rintro e w' ⟨⟨v, rfl, hr⟩, hb⟩
  exact ⟨v, β, rfl, ⟨hb.os, hb.tape, hb.output, hb.size, fun k hk _ => hb.block k hk, fun k hk => .same (hb.block k hk)⟩, tr0 _ _ _, hr _ _ _, rfl, fun j hj => absurd hj (by simp), fun j hj => absurd hj (by simp)⟩
/-- What text.Show does, letter by letter. -/
def showT (le : List UInt8 × Int → Option Int) (di : Int × Int → Option (List UInt8)) (s : List UInt8) (i : Nat) (r : Int) : Option (List UInt8) :=
  obind (le (s.drop i, r)) fun c =>
    cnd (decide (c = -1)) (obind (di (((s.getD i 0).toNat : Int), 2)) fun t => some ([92, 120] ++ t))
    (cnd (decide (c = 34) || decide (c = 92)) (cnd (decide (r = c)) (some [92, c.toNat.toUInt8]) none)
    (cnd (decide (32 ≤ c) && decide (c ≤ 126)) (cnd (decide (r = c)) (some [c.toNat.toUInt8]) none)
    (cnd (decide (65535 < c)) (obind (di (c, 8)) fun t => some ([92, 85] ++ t))
    (obind (di (c, 4)) fun t => some ([92, 117] ++ t)))))
def showS (le : List UInt8 × Int → Option Int) (di : Int × Int → Option (List UInt8)) (s : List UInt8) (v : Nat × List UInt8) : Option ((Nat × List UInt8) ⊕ List UInt8) :=
  cnd (decide (v.1 < s.length))
    (obind (showT le di s v.1 ((Utf8.decode ⟨⟨s⟩⟩ v.1).1 : Nat)) fun t => cnd (decide ((v.2 ++ t).length ≤ 70368744177664)) (some (.inl (v.1 + (Utf8.decode ⟨⟨s⟩⟩ v.1).2, v.2 ++ t))) none)
    (some (.inr v.2))
theorem fl_ob {α β : Type} {a : α} {f : α → Option β} : obind (some a) f = f a := rfl
theorem fl_t {α : Type} {a b : α} : cnd true a b = a := rfl
theorem fl_f {α : Type} {a b : α} : cnd false a b = b := rfl
theorem show_round {le : List UInt8 × Int → Option Int} {di : Int × Int → Option (List UInt8)} {l : List UInt8} {M pos : Nat} {acc r : List UInt8} (h : loopN M (showS le di l) (pos, acc) = some r) (hp : pos < l.length) :
    ∃ M' t, showT le di l pos ((Utf8.decode ⟨⟨l⟩⟩ pos).1 : Nat) = some t ∧ (acc ++ t).length ≤ 70368744177664 ∧ loopN M' (showS le di l) (pos + (Utf8.decode ⟨⟨l⟩⟩ pos).2, acc ++ t) = some r := by
  cases M with
  | zero => cases h
  | succ M =>
    rw [loopN] at h
    have e : showS le di l (pos, acc) = obind (showT le di l pos ((Utf8.decode ⟨⟨l⟩⟩ pos).1 : Nat)) fun t => cnd (decide ((acc ++ t).length ≤ 70368744177664)) (some (.inl (pos + (Utf8.decode ⟨⟨l⟩⟩ pos).2, acc ++ t))) none := by
      unfold showS
      rw [decide_eq_true hp]; rfl
    rw [e] at h
    cases ht : showT le di l pos ((Utf8.decode ⟨⟨l⟩⟩ pos).1 : Nat) with
    | none => rw [ht] at h; cases h
    | some t =>
      rw [ht] at h
      by_cases q : (acc ++ t).length ≤ 70368744177664
      · refine ⟨M, t, rfl, q, ?_⟩
        rw [fl_ob, decide_eq_true q, fl_t] at h
        exact h
      · rw [fl_ob, decide_eq_false q, fl_f] at h
        cases h
theorem show_end {le : List UInt8 × Int → Option Int} {di : Int × Int → Option (List UInt8)} {l : List UInt8} {M pos : Nat} {acc r : List UInt8} (h : loopN M (showS le di l) (pos, acc) = some r) (hp : ¬ pos < l.length) : r = acc := by
  cases M with
  | zero => cases h
  | succ M =>
    rw [loopN] at h
    have e : showS le di l (pos, acc) = some (.inr acc) := by
      unfold showS
      rw [decide_eq_false hp]; rfl
    rw [e] at h
    injection h with h; exact h.symm
theorem showT_cases {le : List UInt8 × Int → Option Int} {di : Int × Int → Option (List UInt8)} {l : List UInt8} {pos : Nat} {R : Int} {t : List UInt8} (h : showT le di l pos R = some t) :
    ∃ c, le (l.drop pos, R) = some c ∧ ((c = -1 ∧ ∃ u, di (((l.getD pos 0).toNat : Int), 2) = some u ∧ t = [92, 120] ++ u) ∨ (c ≠ -1 ∧ (c = 34 ∨ c = 92) ∧ R = c ∧ t = [92, c.toNat.toUInt8]) ∨
      (c ≠ -1 ∧ c ≠ 34 ∧ c ≠ 92 ∧ (32 ≤ c ∧ c ≤ 126) ∧ R = c ∧ t = [c.toNat.toUInt8]) ∨ (c ≠ -1 ∧ c ≠ 34 ∧ c ≠ 92 ∧ ¬ (32 ≤ c ∧ c ≤ 126) ∧ 65535 < c ∧ ∃ u, di (c, 8) = some u ∧ t = [92, 85] ++ u) ∨
      (c ≠ -1 ∧ c ≠ 34 ∧ c ≠ 92 ∧ ¬ (32 ≤ c ∧ c ≤ 126) ∧ ¬ 65535 < c ∧ ∃ u, di (c, 4) = some u ∧ t = [92, 117] ++ u)) := by
  have ex : ∀ (o : Option (List UInt8)) (p : List UInt8), (obind o fun u => some (p ++ u)) = some t → ∃ u, o = some u ∧ t = p ++ u := by
    intro o p h
    cases o with
    | none => cases h
    | some u => injection h with h; exact ⟨u, rfl, h.symm⟩
  unfold showT at h
  cases hc : le (l.drop pos, R) with
  | none => rw [hc] at h; cases h
  | some c =>
    rw [hc] at h
    refine ⟨c, rfl, ?_⟩
    rw [fl_ob] at h
    by_cases c1 : c = -1
    · rw [decide_eq_true c1, fl_t] at h
      exact .inl ⟨c1, ex _ _ h⟩
    rw [decide_eq_false c1, fl_f] at h
    by_cases c2 : c = 34 ∨ c = 92
    · rw [show (decide (c = 34) || decide (c = 92)) = true by simp [c2], fl_t] at h
      by_cases c3 : R = c
      · rw [decide_eq_true c3, fl_t] at h
        injection h with h
        exact .inr (.inl ⟨c1, c2, c3, h.symm⟩)
      · rw [decide_eq_false c3, fl_f] at h
        cases h
    rw [show (decide (c = 34) || decide (c = 92)) = false by simpa using c2, fl_f] at h
    have c2a : c ≠ 34 := fun q => c2 (.inl q)
    have c2b : c ≠ 92 := fun q => c2 (.inr q)
    by_cases c4 : 32 ≤ c ∧ c ≤ 126
    · rw [show (decide (32 ≤ c) && decide (c ≤ 126)) = true by simp [c4], fl_t] at h
      by_cases c3 : R = c
      · rw [decide_eq_true c3, fl_t] at h
        injection h with h
        exact .inr (.inr (.inl ⟨c1, c2a, c2b, c4, c3, h.symm⟩))
      · rw [decide_eq_false c3, fl_f] at h
        cases h
    rw [show (decide (32 ≤ c) && decide (c ≤ 126)) = false by
      cases hq : (decide (32 ≤ c) && decide (c ≤ 126)) with
      | false => rfl
      | true => simp only [Bool.and_eq_true, decide_eq_true_eq] at hq; exact absurd hq c4, fl_f] at h
    by_cases c5 : 65535 < c
    · rw [decide_eq_true c5, fl_t] at h
      exact .inr (.inr (.inr (.inl ⟨c1, c2a, c2b, c4, c5, ex _ _ h⟩)))
    · rw [decide_eq_false c5, fl_f] at h
      exact .inr (.inr (.inr (.inr ⟨c1, c2a, c2b, c4, c5, ex _ _ h⟩)))
/-- What text.letter and text.digits come to, for a walk. -/
def bLe (P : Program) (f : Nat) (le : List UInt8 × Int → Option Int) : Prop := ∀ (b : ByteArray) (r c : Int), le (b.data.toList, r) = some c → ∀ w, Calls P f #[.string b, .int .i32 r] w fun e w' => e = .returned (.int .i64 c) ∧ Below w.heap.size w w'
def bDi (P : Program) (f : Nat) (di : Int × Int → Option (List UInt8)) : Prop := ∀ (v n : Int) (t : List UInt8), di (v, n) = some t → ∀ w, Calls P f #[.int .i64 v, .int .i64 n] w fun e w' => (∃ b : ByteArray, e = .returned (.string b) ∧ b.data.toList = t) ∧ Below w.heap.size w w'
theorem lr2 {R : V → Value → Prop} {a b : V} {x y : Value} (h1 : R a x) (h2 : R b y) : LR R [a, b] #[x, y].toList := by
  refine ⟨rfl, fun i d u hd hu => ?_⟩
  match i, hd, hu with
  | 0, hd, hu => cases hd; cases hu; exact h1
  | 1, hd, hu => cases hd; cases hu; exact h2
theorem bLe_of {P : Program} {f : Nat} {le : List UInt8 × Int → Option Int} (h : ∀ x r, le x = some r → Spec2 P f [.str x.1, .int .i32 x.2] [] (.int .i64 r) [] []) : bLe P f le := by
  intro b r c hc w
  refine (call_flat (h _ c hc) (cargs := #[.string b, .int .i32 r]) (w := w) fun T β S => lr2 (.pure (.str b _ rfl)) (.pure (.int _ _))).mono ?_
  rintro e w' ⟨⟨v, rfl, T, β, S, hv⟩, hb⟩
  rw [hv.int_]
  exact ⟨rfl, hb⟩
theorem bDi_of {P : Program} {f : Nat} {di : Int × Int → Option (List UInt8)} (h : ∀ x r, di x = some r → Spec2 P f [.int .i64 x.1, .int .i64 x.2] [] (.str r) [] []) : bDi P f di := by
  intro v n t ht w
  refine (call_flat (h _ t ht) (cargs := #[.int .i64 v, .int .i64 n]) (w := w) fun T β S => lr2 (.pure (.int _ _)) (.pure (.int _ _))).mono ?_
  rintro e w' ⟨⟨v, rfl, T, β, S, hv⟩, hb⟩
  obtain ⟨b, rfl, hb2⟩ := hv.str_
  exact ⟨⟨b, rfl, hb2⟩, hb⟩
theorem show_spec {P : Program} {f : Nat} {le : List UInt8 × Int → Option Int} {di : Int × Int → Option (List UInt8)} {N : Nat}
    (hw : ∀ (s : ByteArray) (r : List UInt8), loopN N (showS le di s.data.toList) (0, []) = some r → ∀ w, Calls P f #[.string s] w fun e w' => (∃ b : ByteArray, e = .returned (.string b) ∧ b.data.toList = r) ∧ Below w.heap.size w w')
    {x r : List UInt8} (h : loopN N (showS le di x) ((0 : Nat), ([] : List UInt8)) = some r) : Spec2 P f [.str x] [] (.str r) [] [] := by
  refine spec_flat fun cargs w ⟨T, β, S, hl⟩ => ?_
  obtain ⟨ca⟩ := cargs
  obtain ⟨v0, l1, rfl, r0, hl⟩ := LR.head (vs := ca) hl
  have : l1 = [] := List.eq_nil_of_length_eq_zero hl.1.symm
  subst this
  obtain ⟨b, rfl, hb⟩ := r0.str_
  subst hb
  refine (hw b r h w).mono ?_
  rintro e w' ⟨⟨y, rfl, hy⟩, hb⟩
  exact ⟨⟨_, rfl, fun T β S => .pure (.str y _ hy)⟩, hb⟩
end Go.Abs
