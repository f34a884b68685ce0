/- The same machine, in few and small steps: lookups from the front, what is known of types asked once, values as they are. -/
import Derived.Test.YtiaoojocpcldmaaGreatExtZ
namespace Go.Abs
open Go.RowKit
set_option linter.unusedVariables false
set_option linter.unusedSimpArgs false
noncomputable section

/-! States that look alike. -/
section
variable {κ : Cx} {ι : Nat → Nat} {st st' : St} {a : Act} {w : World}
theorem RelI.congr (h : RelI κ ι st a w) (hn : st'.n = st.n) (hg : st'.g = st.g) (ht : ∀ t, st'.get t = st.get t) (ho : ∀ s, st'.o.get s = st.o.get s) : RelI κ ι st' a w := by
  have hl : ∀ t, st'.o.live t ↔ st.o.live t := fun t => by simp only [Tab.live, ho]
  have hS : Stable κ.D st'.o ι w = Stable κ.D st.o ι w := by
    funext p
    simp only [Stable, hl, ho]
  have H : Goes κ.D st.o ι w st'.o ι w := by
    refine ⟨fun p hp => ⟨hS ▸ hp, rfl⟩, fun t => by rw [ho]; exact Nat.le_refl _, fun t hlt _ => ⟨(hl t).1 hlt, rfl⟩, fun t g ty sz fz cs e _ => ?_, fun t g ty fz nl L e _ => ?_⟩
    · rw [ho] at e
      exact ⟨⟨_, _, _, e⟩, fun arr ty1 fz1 hh => ⟨arr, ty1, fz1, hh, rfl⟩⟩
    · rw [ho] at e
      exact ⟨⟨_, _, _, _, e, rfl, rfl, rfl⟩, fun _ arr ty1 fz1 hh => ⟨arr, ty1, fz1, hh, rfl⟩⟩
  refine ⟨h.dfr, by rw [hn]; exact h.sz, fun t => by rw [ht]; exact (h.tm t).mono H, ⟨fun t => ?_, fun t u h1 h2 => h.tr.inj t u ((hl t).1 h1) ((hl u).1 h2), fun t h1 => h.tr.lt t ((hl t).1 h1)⟩,
    fun t h1 => h.my t ((hl t).1 h1), h.kept, fun t b hp h0 h1 => h.pin t b hp (by rw [ho] at h0; exact h0) ((hl t).1 h1), by rw [hg]; exact h.gh.mono fun d u hd => hd.mono H⟩
  rw [ho]
  exact (h.tr.ob t).mono H rfl
theorem Rel.congr (h : Rel κ st a w) (hn : st'.n = st.n) (hg : st'.g = st.g) (ht : ∀ t, st'.get t = st.get t) (ho : ∀ s, st'.o.get s = st.o.get s) : Rel κ st' a w := by
  obtain ⟨ι, h⟩ := h
  exact ⟨ι, h.congr hn hg ht ho⟩
end

/-! Lists looked through. -/
section
variable {α : Type _} {β : Type _} {γ : Type _}
def qN (n : Nat) (k : Nat → α) : α := Nat.rec (motive := fun _ => α) (k 0) (fun j _ => k (Nat.succ j)) n
theorem qN_eq (n : Nat) (k : Nat → α) : qN n k = k n := by cases n <;> rfl
theorem blt_lt {a b : Nat} (h : Nat.blt a b = true) : a < b := Nat.le_of_ble_eq_true h
theorem blt_no {a b : Nat} (h : Nat.blt a b = false) : ¬ a < b := fun hc => by
  have : Nat.blt a b = true := Nat.ble_eq_true_of_le hc
  rw [this] at h; cases h
theorem beq_no {a b : Nat} (h : Nat.beq a b = false) : a ≠ b := fun e => by
  subst e; rw [Nat.beq_refl] at h; cases h
def qAt (d : γ) (l : List (Nat × γ)) (t : Nat) (k : γ → α) : α :=
  List.rec (motive := fun _ => α) (k d) (fun p _ ih => Bool.rec (motive := fun _ => α) ih (Prod.rec (motive := fun _ => α) (fun _ x => k x) p) (Nat.beq p.1 t)) l
theorem beq_ne {a b : Nat} (h : a ≠ b) : Nat.beq a b = false := by
  cases hb : Nat.beq a b with
  | false => rfl
  | true => exact absurd (Nat.eq_of_beq_eq_true hb) h
theorem qAt_eq (d : γ) (t : Nat) (k : γ → α) : ∀ l : List (Nat × γ), qAt d l t k = k (aget d l t)
  | [] => rfl
  | (a, x) :: r => by
    have ih := qAt_eq d t k r
    simp only [qAt] at ih ⊢
    by_cases h : a = t
    · subst h
      simp only [aget, if_true, Nat.beq_refl]
    · simp only [aget, if_neg h, beq_ne h]
      exact ih
def qObj (s : Nat) (T : Tab) (k : Nat → OK → α) : α := qAt ⟨0, .dead⟩ T s fun ob => Ob.rec (motive := fun _ => α) (fun g o => k g o) ob
theorem qObj_eq (s : Nat) (T : Tab) (k : Nat → OK → α) : qObj s T k = k (T.get s).gen (T.get s).k := by
  simp only [qObj, qAt_eq, Tab.get]
/-- The first n of a list that has so many. -/
def qTk (n : Nat) (l : List γ) (k : List γ → Option β) : Option β :=
  Nat.rec (motive := fun _ => List γ → (List γ → Option β) → Option β) (fun _ k => k []) (fun _ ih l k => List.casesOn l none fun x t => ih t fun r => k (x :: r)) n l k
theorem qTk_ok {r : β} : ∀ (n : Nat) (l : List γ) (k : List γ → Option β), qTk n l k = some r → n ≤ l.length ∧ k (l.take n) = some r
  | 0, l, k, h => ⟨Nat.zero_le _, h⟩
  | n + 1, [], k, h => by cases h
  | n + 1, x :: l, k, h => by
    have h' : qTk n l (fun r => k (x :: r)) = some r := h
    obtain ⟨h1, h2⟩ := qTk_ok n l _ h'
    exact ⟨by simp; exact h1, by simpa using h2⟩
def qDr (n : Nat) (l : List γ) (k : List γ → Option β) : Option β :=
  Nat.rec (motive := fun _ => List γ → Option β) (fun l => k l) (fun _ ih l => List.casesOn l none fun _ t => ih t) n l
theorem qDr_ok {r : β} (k : List γ → Option β) : ∀ (n : Nat) (l : List γ), qDr n l k = some r → n ≤ l.length ∧ k (l.drop n) = some r
  | 0, l, h => ⟨Nat.zero_le _, h⟩
  | n + 1, [], h => by cases h
  | n + 1, x :: l, h => by
    have h' : qDr n l k = some r := h
    obtain ⟨h1, h2⟩ := qDr_ok k n l h'
    exact ⟨by simp; exact h1, by simpa using h2⟩
def qLen (l : List γ) : Nat := List.rec (motive := fun _ => Nat) 0 (fun _ _ ih => Nat.succ ih) l
theorem qLen_eq : ∀ l : List γ, qLen l = l.length
  | [] => rfl
  | _ :: l => by
    have := qLen_eq l
    simp only [qLen] at this ⊢
    simp only [List.length_cons, this]
def qOver (vs l : List γ) (k : List γ → Option β) : Option β :=
  List.rec (motive := fun _ => List γ → (List γ → Option β) → Option β) (fun l k => k l) (fun v _ ih l k => List.casesOn l none fun _ t => ih t fun r => k (v :: r)) vs l k
theorem qOver_ok {r : β} : ∀ (vs l : List γ) (k : List γ → Option β), qOver vs l k = some r → vs.length ≤ l.length ∧ k (vs ++ l.drop vs.length) = some r
  | [], l, k, h => ⟨Nat.zero_le _, h⟩
  | v :: vs, [], k, h => by cases h
  | v :: vs, x :: l, k, h => by
    have h' : qOver vs l (fun r => k (v :: r)) = some r := h
    obtain ⟨h1, h2⟩ := qOver_ok vs l _ h'
    exact ⟨by simp; exact h1, by simpa using h2⟩
def qSpl (off : Nat) (vs l : List γ) (k : List γ → Option β) : Option β :=
  Nat.rec (motive := fun _ => List γ → (List γ → Option β) → Option β) (fun l k => qOver vs l k) (fun _ ih l k => List.casesOn l none fun x t => ih t fun r => k (x :: r)) off l k
theorem qSpl_ok {r : β} {vs : List γ} : ∀ (off : Nat) (l : List γ) (k : List γ → Option β), qSpl off vs l k = some r → off + vs.length ≤ l.length ∧ k (l.take off ++ (vs ++ l.drop (off + vs.length))) = some r
  | 0, l, k, h => by
    obtain ⟨h1, h2⟩ := qOver_ok vs l k h
    exact ⟨by omega, by simpa using h2⟩
  | n + 1, [], k, h => by cases h
  | n + 1, x :: l, k, h => by
    have h' : qSpl n vs l (fun r => k (x :: r)) = some r := h
    obtain ⟨h1, h2⟩ := qSpl_ok n l _ h'
    refine ⟨by simp; omega, ?_⟩
    rw [show n + 1 + vs.length = (n + vs.length) + 1 from by omega]
    simpa using h2
def qNth (i : Nat) (l : List γ) (k : γ → Option β) : Option β :=
  Nat.rec (motive := fun _ => List γ → Option β) (fun l => List.casesOn l none fun x _ => k x) (fun _ ih l => List.casesOn l none fun _ t => ih t) i l
theorem qNth_ok {r : β} (k : γ → Option β) : ∀ (i : Nat) (l : List γ), qNth i l k = some r → ∃ x, l[i]? = some x ∧ k x = some r
  | 0, [], h => by cases h
  | 0, x :: l, h => ⟨x, by simp, h⟩
  | n + 1, [], h => by cases h
  | n + 1, x :: l, h => by
    have h' : qNth n l k = some r := h
    obtain ⟨y, h1, h2⟩ := qNth_ok k n l h'
    exact ⟨y, by simpa using h1, h2⟩
def qAll (f : γ → Bool) (l : List γ) : Bool := List.rec (motive := fun _ => Bool) true (fun x _ ih => Bool.rec false ih (f x)) l
theorem qAll_eq (f : γ → Bool) : ∀ l : List γ, qAll f l = l.all f
  | [] => rfl
  | x :: l => by
    have ih := qAll_eq f l
    simp only [qAll] at ih ⊢
    cases hx : f x <;> simp [hx, ih]
end

/-! Values. -/
def qPure (v : V) : Bool :=
  V.rec (motive_1 := fun _ => Bool) (motive_2 := fun _ => Bool) false (fun _ => true) (fun _ _ => true) (fun _ => true) true (fun _ _ _ => true) (fun _ _ => true) (fun _ _ _ _ => false) (fun _ _ _ => false) true
    (fun _ b => b) (fun _ b => b) (fun _ _ b => b) true (fun _ _ b => b) true (fun _ => true) (fun _ _ => true) (fun _ _ _ _ _ => false) (fun _ _ => false) (fun _ => true) true (fun _ => true) (fun _ => true) (fun _ _ _ _ => false) (fun _ _ => false)
    true (fun _ _ a b => Bool.rec false b a) v
def qPureL (l : List V) : Bool := List.rec (motive := fun _ => Bool) true (fun v _ ih => Bool.rec false ih (qPure v)) l
def qPureR (l : List V) : Bool :=
  V.rec_1 (motive_1 := fun _ => Bool) (motive_2 := fun _ => Bool) false (fun _ => true) (fun _ _ => true) (fun _ => true) true (fun _ _ _ => true) (fun _ _ => true) (fun _ _ _ _ => false) (fun _ _ _ => false) true
    (fun _ b => b) (fun _ b => b) (fun _ _ b => b) true (fun _ _ b => b) true (fun _ => true) (fun _ _ => true) (fun _ _ _ _ _ => false) (fun _ _ => false) (fun _ => true) true (fun _ => true) (fun _ => true) (fun _ _ _ _ => false) (fun _ _ => false)
    true (fun _ _ a b => Bool.rec false b a) l
mutual
theorem qPure_eq : ∀ v : V, qPure v = v.pure
  | .agg cs => by
    have := qPureR_eq cs
    simp only [V.pure, ← this]; rfl
  | .tup cs => by
    have := qPureR_eq cs
    simp only [V.pure, ← this]; rfl
  | .ifc _ v => by
    have := qPure_eq v
    simp only [V.pure, ← this]; rfl
  | .fn _ cs => by
    have := qPureR_eq cs
    simp only [V.pure, ← this]; rfl
  | .undef | .bool _ | .int _ _ | .str _ | .snil | .sl _ _ | .cref _ | .own _ _ _ _ | .ptr _ _ _ | .pnil | .inil | .fnil | .lst _ | .eref _ _ | .eptr _ _ _ _ _ | .acc _ _ | .bs _ | .sz | .nl _ | .si _ | .nwin _ _ _ _ | .mp _ _ => rfl
theorem qPureR_eq : ∀ l : List V, qPureR l = pureL l
  | [] => rfl
  | v :: l => by
    have h1 := qPure_eq v
    have h2 := qPureR_eq l
    simp only [pureL, ← h1, ← h2]
    show (Bool.rec (motive := fun _ => Bool) false (qPureR l) (qPure v)) = _
    cases qPure v <;> rfl
end
theorem qPureL_eq : ∀ l : List V, qPureL l = pureL l
  | [] => rfl
  | v :: l => by
    have ih := qPureL_eq l
    simp only [qPureL] at ih ⊢
    simp only [pureL, ← qPure_eq, ← ih]
    cases qPure v <;> rfl

section
variable {β : Type _}
def qConst (v : Value) (k : V → β) : β := match v with
  | .bool b => k (.bool b)
  | .int i n => zI n fun n => k (.int i n)
  | v => zV 4 ((ofVal v).getD .undef) k
theorem qConst_eq (v : Value) (k : V → β) : qConst v k = k ((ofVal v).getD .undef) := by
  cases v <;> simp only [qConst, zV_eq, zI_eq] <;> rfl
def qEval (st : St) (x : Operand) (k : V → β) : β := match x with
  | .tmp t => qAt .undef st.t t k
  | .const v => qConst v k
  | .global _ => k .undef
  | .func f => k (.fn f [])
theorem qEval_eq (st : St) (x : Operand) (k : V → β) : qEval st x k = k (st.eval x) := by
  cases x <;> simp only [qEval, qAt_eq, qConst_eq] <;> rfl
def qEvalL (st : St) (l : List Operand) (k : List V → β) : β :=
  List.rec (motive := fun _ => (List V → β) → β) (fun k => k []) (fun x _ ih k => qEval st x fun v => ih fun vs => k (v :: vs)) l k
theorem qEvalL_eq (st : St) : ∀ (l : List Operand) (k : List V → β), qEvalL st l k = k (l.map st.eval)
  | [], k => rfl
  | x :: l, k => by
    show (qEval st x fun v => qEvalL st l fun vs => k (v :: vs)) = _
    rw [qEval_eq, qEvalL_eq st l]
    rfl
end

/-! What an operation leaves. -/
section
variable {β : Type _}
abbrev YK (β : Type _) := St → Nat → Option β
def yPure (st : St) (c : Nat) (d : Option Nat) (k : YK β) (v : V) : Option β :=
  St.rec (motive := fun _ => Option β) (fun n t o g => Option.rec (motive := fun _ => Option β) (k ⟨n, t, o, g⟩ c) (fun d => Bool.rec (motive := fun _ => Option β) none (k ⟨n, (d, v) :: t, o, g⟩ c) (Nat.blt d n)) d) st
def yWr (st : St) (c : Nat) (d : Option Nat) (k : YK β) (v : V) (s : Nat) (ob : Ob) : Option β :=
  St.rec (motive := fun _ => Option β) (fun n t o g => Option.rec (motive := fun _ => Option β) (k ⟨n, t, (s, ob) :: o, g⟩ c) (fun d => Bool.rec (motive := fun _ => Option β) none (k ⟨n, (d, v) :: t, (s, ob) :: o, g⟩ c) (Nat.blt d n)) d) st
/-- What comes behind: slot d is v, object wr is turned. -/
def After (st : St) (d : Option Nat) (v : V) (wr : Wr) (k : YK β) (r : β) : Prop :=
  ∃ st' c', k st' c' = some r ∧ st'.n = st.n ∧ st'.g = st.g ∧ (∀ e, d = some e → e < st.n) ∧ (∀ t, st'.get t = if d = some t then v else st.get t) ∧ ∀ s, st'.o.get s = (wrT st.o wr).get s
theorem yPure_after {st : St} {c : Nat} {d : Option Nat} {k : YK β} {v : V} {r : β} (h : yPure st c d k v = some r) : After st d v none k r := by
  obtain ⟨n, t, o, g⟩ := st
  cases d with
  | none => exact ⟨_, _, h, rfl, rfl, by simp, fun t => by simp, fun s => rfl⟩
  | some d =>
    simp only [yPure] at h
    cases hb : Nat.blt d n with
    | false => rw [hb] at h; cases h
    | true =>
      rw [hb] at h
      refine ⟨_, _, h, rfl, rfl, fun e he => ?_, fun u => ?_, fun s => rfl⟩
      · injection he with he; subst he
        exact blt_lt hb
      · simp only [St.get, aget, Option.some.injEq]
theorem get_cons (s s' : Nat) (ob : Ob) (T : Tab) : Tab.get ((s, ob) :: T) s' = (T.put s ob).get s' := by
  rw [Tab.get_put]; rfl
theorem yWr_after {st : St} {c : Nat} {d : Option Nat} {k : YK β} {v : V} {s : Nat} {ob : Ob} {r : β} (h : yWr st c d k v s ob = some r) : After st d v (some (s, ob)) k r := by
  obtain ⟨n, t, o, g⟩ := st
  cases d with
  | none => exact ⟨_, _, h, rfl, rfl, by simp, fun t => by simp; rfl, fun s' => get_cons _ _ _ _⟩
  | some d =>
    simp only [yWr] at h
    cases hb : Nat.blt d n with
    | false => rw [hb] at h; cases h
    | true =>
      rw [hb] at h
      refine ⟨_, _, h, rfl, rfl, fun e he => ?_, fun u => ?_, fun s' => get_cons _ _ _ _⟩
      · injection he with he; subst he
        exact blt_lt hb
      · simp only [St.get, aget, Option.some.injEq]

/-! Operations. K: what becomes of a value; they say that the slow reckoning says so. -/
def ldK (P : Program) (t : Nat) : Option (Option Nat) := match P.underlying t, P.info? t with
  | some d, some i => if isAggD d then some (some i.size) else some none
  | _, _ => none
def yLd (P : Program) (t : Nat) (cs : List V) (K : V → Option β) : Option β := match ldK P t with
  | some (some n) => qTk n cs fun cs => K (.agg cs)
  | some none => List.casesOn cs none fun x _ => K x
  | none => none
theorem yLd_ok {P : Program} {t : Nat} {cs : List V} {K : V → Option β} {r : β} (h : yLd P t cs K = some r) : ∃ v, loadV P t cs = some v ∧ K v = some r := by
  unfold yLd at h
  split at h
  · rename_i n hk
    obtain ⟨h1, h2⟩ := qTk_ok _ _ _ h
    unfold ldK at hk
    split at hk
    · rename_i d i hd hi
      split at hk
      · rename_i ha
        injection hk with hk; injection hk with hk; subst hk
        exact ⟨_, by simp only [loadV, hd, hi, ha, if_true, if_pos h1], h2⟩
      · injection hk with hk; cases hk
    · cases hk
  · rename_i hk
    unfold ldK at hk
    split at hk
    · rename_i d i hd hi
      split at hk
      · injection hk with hk; cases hk
      · rename_i ha
        cases cs with
        | nil => cases h
        | cons x l => exact ⟨x, by simp only [loadV, hd, hi, ha, if_false]; rfl, h⟩
    · cases hk
  · cases h
def yLoad (P : Program) (T : Tab) (t : Nat) (x : V) (K : V → Option β) : Option β := match x with
  | .ptr s g off => qObj s T fun g' o => Bool.rec (motive := fun _ => Option β) none (match o with
    | .box _ cs => qDr off cs fun cs => yLd P t cs K
    | .row _ _ _ cs => qDr off cs fun cs => yLd P t cs K
    | _ => none) (Nat.beq g' g)
  | .cref cs => yLd P t cs K
  | x => match aLoad P T t x with
    | some (v, none) => zV 12 v K
    | _ => none
theorem brec_some {b : Bool} {x : Option β} {r : β} (h : Bool.rec (motive := fun _ => Option β) none x b = some r) : b = true ∧ x = some r := by
  cases b with
  | false => cases h
  | true => exact ⟨rfl, h⟩
theorem yLoad_ok {P : Program} {T : Tab} {t : Nat} {x : V} {K : V → Option β} {r : β} (h : yLoad P T t x K = some r) : ∃ v, aLoad P T t x = some (v, none) ∧ K v = some r := by
  unfold yLoad at h
  split at h
  · rename_i s g off
    rw [qObj_eq] at h
    obtain ⟨hg, h⟩ := brec_some h
    have hg := Nat.eq_of_beq_eq_true hg
    split at h
    · rename_i ty cs hk
      obtain ⟨h1, h2⟩ := qDr_ok _ _ _ h
      obtain ⟨v, h3, h4⟩ := yLd_ok h2
      exact ⟨v, by simp only [aLoad, aCells, hg, if_true, hk, if_pos h1, h3, Option.map_some], h4⟩
    · rename_i ty sz fz cs hk
      obtain ⟨h1, h2⟩ := qDr_ok _ _ _ h
      obtain ⟨v, h3, h4⟩ := yLd_ok h2
      exact ⟨v, by simp only [aLoad, aCells, hg, if_true, hk, if_pos h1, h3, Option.map_some], h4⟩
    · cases h
  · rename_i cs
    obtain ⟨v, h3, h4⟩ := yLd_ok h
    exact ⟨v, by simp only [aLoad, aCells, h3, Option.map_some], h4⟩
  · split at h
    · rename_i v hv
      rw [zV_eq] at h
      exact ⟨v, hv, h⟩
    · cases h
def stK (P : Program) (t : Nat) : Option Nat := (P.info? t).map (·.size)
def yStN (T : Tab) (n s g off : Nat) (vs : List V) (K : Nat → Ob → Option β) : Option β :=
  Bool.rec (motive := fun _ => Option β) none (Bool.rec (motive := fun _ => Option β) none (qObj s T fun g' o => Bool.rec (motive := fun _ => Option β) none (match o with
    | .box ty cs => qSpl off vs cs fun cs => K s ⟨g, .box ty cs⟩
    | .row ty sz false cs => qSpl off vs cs fun cs => K s ⟨g, .row ty sz false cs⟩
    | _ => none) (Nat.beq g' g)) (qAll V.cellOk vs)) (Nat.beq (qLen vs) n)
def yStore (P : Program) (T : Tab) (t : Nat) (x v : V) (K : Nat → Ob → Option β) : Option β := match x with
  | .ptr s g off => match stK P t with
    | some n => match v with
      | .undef => none
      | .agg vs => yStN T n s g off vs K
      | v => yStN T n s g off [v] K
    | none => none
  | _ => none
theorem yStN_ok {T : Tab} {n s g off : Nat} {vs : List V} {K : Nat → Ob → Option β} {r : β} (h : yStN T n s g off vs K = some r) : vs.length = n ∧ vs.all V.cellOk = true ∧ (T.get s).gen = g ∧
    ((∃ ty cs, (T.get s).k = .box ty cs ∧ off + n ≤ cs.length ∧ K s ⟨g, .box ty (splice cs off vs)⟩ = some r) ∨ (∃ ty sz cs, (T.get s).k = .row ty sz false cs ∧ off + n ≤ cs.length ∧ K s ⟨g, .row ty sz false (splice cs off vs)⟩ = some r)) := by
  unfold yStN at h
  obtain ⟨h1, h⟩ := brec_some h
  obtain ⟨h2, h⟩ := brec_some h
  rw [qObj_eq] at h
  obtain ⟨h3, h⟩ := brec_some h
  have h1 := Nat.eq_of_beq_eq_true h1
  rw [qLen_eq] at h1
  rw [qAll_eq] at h2
  refine ⟨h1, h2, Nat.eq_of_beq_eq_true h3, ?_⟩
  split at h
  · rename_i ty cs hk
    obtain ⟨a1, a2⟩ := qSpl_ok _ _ _ h
    exact .inl ⟨ty, cs, hk, by omega, a2⟩
  · rename_i ty sz cs hk
    obtain ⟨a1, a2⟩ := qSpl_ok _ _ _ h
    exact .inr ⟨ty, sz, cs, hk, by omega, a2⟩
  · cases h
theorem yStore_ok {P : Program} {T : Tab} {t : Nat} {x v : V} {K : Nat → Ob → Option β} {r : β} (h : yStore P T t x v K = some r) : ∃ s ob, aStore P T t x v = some (some (s, ob)) ∧ K s ob = some r := by
  unfold yStore at h
  split at h
  · rename_i s g off
    split at h
    · rename_i n hn
      unfold stK at hn
      cases hi : P.info? t with
      | none => rw [hi] at hn; cases hn
      | some i =>
        rw [hi] at hn
        simp only [Option.map_some, Option.some.injEq] at hn
        have key : ∀ vs, v.isU = false → v.cells = vs → yStN T n s g off vs K = some r → ∃ s' ob, aStore P T t (.ptr s g off) v = some (some (s', ob)) ∧ K s' ob = some r := by
          intro vs hu hc hh
          obtain ⟨h1, h2, h3, h4⟩ := yStN_ok hh
          rcases h4 with ⟨ty, cs, hk, hle, hK⟩ | ⟨ty, sz, cs, hk, hle, hK⟩
          · exact ⟨_, _, by simp only [aStore, hi, hu, h3, hc, h1, hn, h2, and_self, if_true, hk, if_pos hle], hK⟩
          · exact ⟨_, _, by simp only [aStore, hi, hu, h3, hc, h1, hn, h2, and_self, if_true, hk, if_pos hle], hK⟩
        split at h
        · cases h
        · exact key _ rfl rfl h
        · rename_i hne hna
          refine key _ ?_ ?_ h
          · cases v <;> first | rfl | exact absurd rfl hne
          · cases v <;> first | rfl | exact absurd rfl (hna _)
    · cases h
  · cases h
/-! Numbers. -/
def hiN : IntKind → Nat
  | .i8 => 127 | .i16 => 32767 | .i32 => 2147483647 | .i64 => 9223372036854775807
  | .u8 => 255 | .u16 => 65535 | .u32 => 4294967295 | .u64 => 18446744073709551615
theorem wr_nat {k : IntKind} {n : Nat} (h : n ≤ hiN k) : wr k (n : Int) = n := by
  unfold wr
  rw [if_pos]
  constructor
  · cases k <;> simp only [lo] <;> omega
  · cases k <;> simp only [hi, hiN] at h ⊢ <;> omega
def qFit (k : IntKind) (n : Nat) (K : V → Option β) (F : Option β) : Option β := Bool.rec (motive := fun _ => Option β) F (qN n fun n => K (.int k (.ofNat n))) (Nat.ble n (hiN k))
def qBool (b : Bool) (K : V → Option β) : Option β := Bool.rec (motive := fun _ => Option β) (K (.bool false)) (K (.bool true)) b
def qNat (op : BinOp) (k : IntKind) (a b : Nat) (K : V → Option β) (F : Option β) : Option β := match op with
  | .add => qFit k (Nat.add a b) K F
  | .sub => Bool.rec (motive := fun _ => Option β) F (qFit k (Nat.sub a b) K F) (Nat.ble b a)
  | .mul => qFit k (Nat.mul a b) K F
  | .quo => Bool.rec (motive := fun _ => Option β) (qFit k (Nat.div a b) K F) F (Nat.beq b 0)
  | .rem => Bool.rec (motive := fun _ => Option β) (qFit k (Nat.mod a b) K F) F (Nat.beq b 0)
  | .eql => qBool (Nat.beq a b) K
  | .neq => qBool (Bool.rec true false (Nat.beq a b)) K
  | .lss => qBool (Nat.blt a b) K
  | .leq => qBool (Nat.ble a b) K
  | .gtr => qBool (Nat.blt b a) K
  | .geq => qBool (Nat.ble b a) K
  | _ => F
theorem qFit_ok {k : IntKind} {n : Nat} {K : V → Option β} {F : Option β} {r : β} (h : qFit k n K F = some r) : F = some r ∨ (n ≤ hiN k ∧ K (.int k n) = some r) := by
  unfold qFit at h
  cases hb : Nat.ble n (hiN k) with
  | false => rw [hb] at h; exact .inl h
  | true => rw [hb] at h; rw [qN_eq] at h; exact .inr ⟨Nat.le_of_ble_eq_true hb, h⟩
theorem qBool_ok {b : Bool} {K : V → Option β} {r : β} (h : qBool b K = some r) : K (.bool b) = some r := by cases b <;> exact h
theorem ble_false {a b : Nat} (h : Nat.ble a b = false) : ¬ a ≤ b := fun hc => by rw [Nat.ble_eq_true_of_le hc] at h; cases h
theorem qNat_ok {op : BinOp} {k : IntKind} {a b : Nat} {K : V → Option β} {F : Option β} {r : β} (h : qNat op k a b K F = some r) : F = some r ∨ ∃ v, intBin op k a b = some v ∧ K v = some r := by
  cases op <;> simp only [qNat] at h <;> (try exact .inl h)
  case add =>
    rcases qFit_ok h with h | ⟨h1, h2⟩
    · exact .inl h
    · refine .inr ⟨_, ?_, h2⟩
      have := wr_nat h1
      simp only [intBin]
      rw [show (a : Int) + b = ((Nat.add a b : Nat) : Int) from by simp, this]
  case sub =>
    cases hb : Nat.ble b a with
    | false => rw [hb] at h; exact .inl h
    | true =>
      rw [hb] at h
      have hle := Nat.le_of_ble_eq_true hb
      rcases qFit_ok h with h | ⟨h1, h2⟩
      · exact .inl h
      · refine .inr ⟨_, ?_, h2⟩
        have := wr_nat h1
        simp only [intBin]
        rw [show (a : Int) - b = ((Nat.sub a b : Nat) : Int) from by simp; omega, this]
  case mul =>
    rcases qFit_ok h with h | ⟨h1, h2⟩
    · exact .inl h
    · refine .inr ⟨_, ?_, h2⟩
      have := wr_nat h1
      simp only [intBin]
      rw [show (a : Int) * b = ((Nat.mul a b : Nat) : Int) from by simp, this]
  case quo =>
    cases hb : Nat.beq b 0 with
    | true => rw [hb] at h; exact .inl h
    | false =>
      rw [hb] at h
      have hne : ¬ (b : Int) = 0 := by have := beq_no hb; omega
      rcases qFit_ok h with h | ⟨h1, h2⟩
      · exact .inl h
      · refine .inr ⟨_, ?_, h2⟩
        have := wr_nat h1
        simp only [intBin, if_neg hne]
        rw [show (a : Int).tdiv b = ((Nat.div a b : Nat) : Int) from rfl, this]
  case rem =>
    cases hb : Nat.beq b 0 with
    | true => rw [hb] at h; exact .inl h
    | false =>
      rw [hb] at h
      have hne : ¬ (b : Int) = 0 := by have := beq_no hb; omega
      rcases qFit_ok h with h | ⟨h1, h2⟩
      · exact .inl h
      · refine .inr ⟨_, ?_, h2⟩
        simp only [intBin, if_neg hne]
        rw [show (a : Int).tmod b = ((Nat.mod a b : Nat) : Int) from rfl]
  case eql =>
    refine .inr ⟨_, ?_, qBool_ok h⟩
    simp only [intBin, Option.some.injEq, V.bool.injEq]
    cases hb : Nat.beq a b with
    | true => have := Nat.eq_of_beq_eq_true hb; subst this; simp
    | false => have := beq_no hb; exact decide_eq_false (by omega)
  case neq =>
    refine .inr ⟨_, ?_, qBool_ok h⟩
    simp only [intBin, Option.some.injEq, V.bool.injEq]
    cases hb : Nat.beq a b with
    | true => have := Nat.eq_of_beq_eq_true hb; subst this; simp
    | false => have := beq_no hb; exact decide_eq_true (by omega)
  case lss =>
    refine .inr ⟨_, ?_, qBool_ok h⟩
    simp only [intBin, Option.some.injEq, V.bool.injEq]
    cases hb : Nat.blt a b with
    | true => have : a < b := blt_lt hb; exact decide_eq_true (by omega)
    | false => have : ¬ a < b := fun e => by exact blt_no hb e
               exact decide_eq_false (by omega)
  case leq =>
    refine .inr ⟨_, ?_, qBool_ok h⟩
    simp only [intBin, Option.some.injEq, V.bool.injEq]
    cases hb : Nat.ble a b with
    | true => have := Nat.le_of_ble_eq_true hb; exact decide_eq_true (by omega)
    | false => have := ble_false hb; exact decide_eq_false (by omega)
  case gtr =>
    refine .inr ⟨_, ?_, qBool_ok h⟩
    simp only [intBin, Option.some.injEq, V.bool.injEq]
    cases hb : Nat.blt b a with
    | true => have : b < a := blt_lt hb; exact decide_eq_true (by omega)
    | false => have : ¬ b < a := fun e => by exact blt_no hb e
               exact decide_eq_false (by omega)
  case geq =>
    refine .inr ⟨_, ?_, qBool_ok h⟩
    simp only [intBin, Option.some.injEq, V.bool.injEq]
    cases hb : Nat.ble b a with
    | true => have := Nat.le_of_ble_eq_true hb; exact decide_eq_true (by omega)
    | false => have := ble_false hb; exact decide_eq_false (by omega)
def slowBin (P : Program) (op : BinOp) (t : Nat) (ox oy : Operand) (x y : V) (K : V → Option β) : Option β :=
  match aBin P op t ox oy (conB x) (conB y) with
  | some v => zV 12 v K
  | none => none
def shOp : BinOp → Bool
  | .shl | .shr => true
  | _ => false
def yBin (P : Program) (op : BinOp) (t : Nat) (ox oy : Operand) (x y : V) (K : V → Option β) : Option β := match x with
  | .int k m => match y with
    | .int k' n => match m with
      | .ofNat a => match n with
        | .ofNat b => Bool.rec (motive := fun _ => Option β) (qNat op k a b K (slowBin P op t ox oy (.int k (.ofNat a)) (.int k' (.ofNat b)) K)) (slowBin P op t ox oy (.int k (.ofNat a)) (.int k' (.ofNat b)) K) (Bool.rec (!(decide (k = k'))) true (shOp op))
        | n => slowBin P op t ox oy (.int k m) (.int k' n) K
      | m => slowBin P op t ox oy (.int k m) (.int k' n) K
    | y => slowBin P op t ox oy (.int k m) y K
  | x => slowBin P op t ox oy x y K
theorem slowBin_ok {P : Program} {op : BinOp} {t : Nat} {ox oy : Operand} {x y : V} {K : V → Option β} {r : β} (h : slowBin P op t ox oy x y K = some r) : ∃ v, aBin P op t ox oy (conB x) (conB y) = some v ∧ K v = some r := by
  unfold slowBin at h
  split at h
  · rename_i v hv
    rw [zV_eq] at h
    exact ⟨v, hv, h⟩
  · cases h
theorem yBin_ok {P : Program} {op : BinOp} {t : Nat} {ox oy : Operand} {x y : V} {K : V → Option β} {r : β} (h : yBin P op t ox oy x y K = some r) : ∃ v, aBin P op t ox oy (conB x) (conB y) = some v ∧ K v = some r := by
  unfold yBin at h
  split at h
  · rename_i k m
    split at h
    · rename_i k' n
      split at h
      · rename_i a
        split at h
        · rename_i b
          cases hs : (Bool.rec (!(decide (k = k'))) true (shOp op) : Bool) with
          | true => rw [hs] at h; exact slowBin_ok h
          | false =>
            rw [hs] at h
            rcases qNat_ok h with h | ⟨v, h1, h2⟩
            · exact slowBin_ok h
            · refine ⟨v, ?_, h2⟩
              cases hq : shOp op with
              | true => rw [hq] at hs; cases hs
              | false =>
                rw [hq] at hs
                have hk : k = k' := by simpa using hs
                subst hk
                simp only [Abs.conB, aBin]
                cases op <;> first | (simp [shOp] at hq; done) | (simp only [if_true]; exact h1)
        · exact slowBin_ok h
      · exact slowBin_ok h
    · exact slowBin_ok h
  · exact slowBin_ok h
end
end
end Go.Abs
