/- Trees of what an operation comes to, by conditions; they stand for the machine's own reckoning. -/
import Derived.Test.YtiaoojocpcldmaaGreatExtR
namespace Go.Abs
open Go.RowKit
set_option linter.unusedVariables false
set_option linter.unusedSimpArgs false

-- OPEN
def selim {α β γ : Type} (f : α → γ) (g : β → γ) (r : α ⊕ β) : γ := match r with
  | .inl a => f a
  | .inr b => g b
def cnd {α : Type} (b : Bool) (x y : α) : α := bif b then x else y
def obind {α β : Type} (m : Option α) (f : α → Option β) : Option β := m.bind f
def omap {α β : Type} (f : α → β) (m : Option α) : Option β := m.map f
def loopN {σ ρ : Type} : Nat → (σ → Option (σ ⊕ ρ)) → σ → Option ρ
  | 0, _, _ => none
  | n + 1, f, x => match f x with
    | some (.inl y) => loopN n f y
    | some (.inr r) => some r
    | none => none
-- SHUT

inductive Tr (α : Type) : Type 1 where
  | ret (a : α)
  | fail
  | ite (b : Bool) (x y : Tr α)
  | ob {β : Type} (m : Option β) (f : β → Tr α)
  | sm {β γ : Type} (s : β ⊕ γ) (f : β → Tr α) (g : γ → Tr α)
def Tr.bind {α β : Type} (f : α → Tr β) : Tr α → Tr β
  | .ret a => f a
  | .fail => .fail
  | .ite b x y => .ite b (x.bind f) (y.bind f)
  | .ob m g => .ob m fun b => (g b).bind f
  | .sm s g h => .sm s (fun b => (g b).bind f) fun c => (h c).bind f
def Tr.run {α : Type} : Tr α → Option α
  | .ret a => some a
  | .fail => none
  | .ite b x y => bif b then x.run else y.run
  | .ob m g => m.bind fun b => (g b).run
  | .sm s g h => match s with
    | .inl b => (g b).run
    | .inr c => (h c).run
def Tr.elim {α R : Type} (k : α → Option R) : Tr α → Option R
  | .ret a => k a
  | .fail => none
  | .ite b x y => cnd b (x.elim k) (y.elim k)
  | .ob m g => obind m fun b => (g b).elim k
  | .sm s g h => selim (fun b => (g b).elim k) (fun c => (h c).elim k) s
def Tr.of {α : Type} : Option α → Tr α
  | some a => .ret a
  | none => .fail
def Tr.need {α : Type} (b : Bool) (x : Tr α) : Tr α := .ite b x .fail
def Tr.needs {α : Type} : List Bool → Tr α → Tr α
  | [], x => x
  | b :: r, x => .need b (Tr.needs r x)

theorem Tr.run_bind {α β : Type} (f : α → Tr β) : ∀ x : Tr α, (x.bind f).run = x.run.bind fun a => (f a).run
  | .ret a => rfl
  | .fail => rfl
  | .ite b x y => by cases b <;> simp [Tr.bind, Tr.run, run_bind f x, run_bind f y]
  | .ob m g => by
    cases m with
    | none => rfl
    | some b => simp only [Tr.bind, Tr.run, Option.bind_some]; exact run_bind f (g b)
  | .sm s g h => by
    cases s with
    | inl b => simp only [Tr.bind, Tr.run]; exact run_bind f (g b)
    | inr c => simp only [Tr.bind, Tr.run]; exact run_bind f (h c)
theorem Tr.run_of {α : Type} (o : Option α) : (Tr.of o).run = o := by cases o <;> rfl
theorem Tr.run_need {α : Type} (b : Bool) (x : Tr α) : (Tr.need b x).run = if b = true then x.run else none := by cases b <;> rfl
theorem Tr.run_needs {α : Type} {r : α} {x : Tr α} : ∀ {l : List Bool}, (Tr.needs l x).run = some r → l.all id = true ∧ x.run = some r
  | [], h => ⟨rfl, h⟩
  | b :: l, h => by
    simp only [Tr.needs, Tr.run_need] at h
    split at h
    · rename_i hb
      obtain ⟨h1, h2⟩ := run_needs h
      exact ⟨by simp only [List.all_cons, Bool.and_eq_true]; exact ⟨hb, h1⟩, h2⟩
    · cases h
theorem Tr.elim_run {α R : Type} (k : α → Option R) {r : R} : ∀ x : Tr α, x.elim k = some r → ∃ a, x.run = some a ∧ k a = some r
  | .ret a, h => ⟨a, rfl, h⟩
  | .fail, h => by cases h
  | .ite b x y, h => by
    cases b
    · simp only [Tr.elim, cnd, cond] at h; exact elim_run k y h
    · simp only [Tr.elim, cnd, cond] at h; exact elim_run k x h
  | .ob m g, h => by
    cases m with
    | none => cases h
    | some b => simp only [Tr.elim, obind, Option.bind_some] at h; simp only [Tr.run, Option.bind_some]; exact elim_run k (g b) h
  | .sm s g f, h => by
    cases s with
    | inl b => simp only [Tr.elim, selim] at h; simp only [Tr.run]; exact elim_run k (g b) h
    | inr c => simp only [Tr.elim, selim] at h; simp only [Tr.run]; exact elim_run k (f c) h

abbrev Wr := Option (Nat × Ob)
/-- What must hold that a cut may be made. -/
def cutOk (l h : Option Int) (len : Nat) : Bool :=
  match l, h with
  | none, none => true
  | none, some h => decide (0 ≤ h) && decide (h ≤ (len : Int))
  | some l, none => decide (0 ≤ l) && decide (l ≤ (len : Int))
  | some l, some h => decide (0 ≤ l) && decide (l ≤ h) && decide (h ≤ (len : Int))
theorem cutOk_ok {l h : Option Int} {len : Nat} (hc : cutOk l h len = true) : loOk l = true ∧ loOk h = true ∧ loOf 0 l ≤ loOf len h ∧ loOf len h ≤ len := by
  unfold cutOk at hc
  split at hc <;> simp [loOk, loOf] at hc ⊢ <;> omega

/-- Two structs' likeness, whole. -/
def eqFieldsB (P : Program) : List Field → List V → List V → Option Bool
  | [], [], [] => some true
  | [f], [x], [y] => eqCell P f.type x y
  | f :: fs, x :: xs, y :: ys => match eqCell P f.type x y, eqFieldsB P fs xs ys with
    | some a, some b => some (a && b)
    | _, _ => none
  | _, _, _ => none
theorem eqFieldsB_ok {P : Program} : ∀ {l : List Field} {xs ys : List V} {r : Bool}, eqFieldsB P l xs ys = some r → eqFields P l xs ys = some r
  | [], [], [], r, h => h
  | [f], [x], [y], r, h => by
    simp only [eqFieldsB] at h
    simp only [eqFields, h]
    cases r <;> rfl
  | f :: g :: fs, x :: xs, y :: ys, r, h => by
    simp only [eqFieldsB] at h
    split at h
    · rename_i a b h1 h2
      injection h with h; subst h
      rw [eqFields]
      simp only [h1, eqFieldsB_ok h2]
      cases a <;> rfl
    · cases h
  | [f], x :: x' :: xs, y :: ys, r, h => by
    simp only [eqFieldsB] at h
    split at h
    · rename_i a b h1 h2
      cases ys <;> cases h2
    · cases h
  | [f], [x], y :: y' :: ys, r, h => by
    simp only [eqFieldsB] at h
    split at h
    · rename_i a b h1 h2
      cases h2
    · cases h
  | [], _ :: _, _, r, h => by cases h
  | [], [], _ :: _, r, h => by cases h
  | _ :: _, [], _, r, h => by simp [eqFieldsB] at h
  | _ :: _, _ :: _, [], r, h => by simp [eqFieldsB] at h
def eqAgg (P : Program) (t : Nat) (a b : List V) : Option Bool :=
  match P.underlying t with
  | some (.struct fs) => if flatFields P fs.toList 0 = true ∧ P.stoodInHeld t = false ∧ P.eqGuardType P.depth t = false then eqFieldsB P fs.toList a b else none
  | _ => none
theorem eqAgg_ok {P : Program} {t : Nat} {c : Bool} {a b : List V} {r : Bool} (h : eqAgg P t a b = some r) : eqNil P t c (.agg a) (.agg b) = some r := by
  unfold eqAgg at h
  split at h
  · rename_i fs hu
    split at h
    · rename_i hc
      simp only [eqNil, hu, eqStruct, if_pos hc]
      exact eqFieldsB_ok h
    · cases h
  · cases h

/-- Bytes as numbers of which nothing is known. -/
def intsOf : List V → Option (List Int)
  | [] => some []
  | .int .u8 n :: r => match intsOf r with
    | some l => some (n :: l)
    | none => none
  | _ => none
def bytesI (l : List Int) : List UInt8 := l.map fun n => UInt8.ofNat n.toNat
theorem intsOf_ok : ∀ (xs : List V) (l : List Int), intsOf xs = some l → l.all (fun n => decide (0 ≤ n) && decide (n < 256)) = true → toBytes xs = some (bytesI l)
  | [], l, h, _ => by simp [intsOf] at h; subst h; rfl
  | x :: r, l, h, ha => by
    unfold intsOf at h
    split at h
    · rename_i e; cases e
    · rename_i n r' e
      injection e with e1 e2; subst e1 e2
      split at h
      · rename_i l' hl'
        injection h with h; subst h
        simp only [List.all_cons, Bool.and_eq_true, decide_eq_true_eq] at ha
        rw [toBytes, if_pos ha.1, intsOf_ok r l' hl' ha.2]
        rfl
      · cases h
    · cases h
def u8T (L : TL) : Option (List Int) := match L with
  | ⟨.int .u8, l⟩ => some l
  | _ => none
theorem u8T_ok {L : TL} {l : List Int} (h : u8T L = some l) : L = ⟨.int .u8, l⟩ := by
  unfold u8T at h
  split at h
  · injection h with h; subst h; rfl
  · cases h
theorem intsOf_lst : ∀ l : List Int, intsOf ((⟨.int .u8, l⟩ : TL).cells) = some l
  | [] => rfl
  | x :: r => by
    have e : (⟨.int .u8, x :: r⟩ : TL).cells = .int .u8 x :: (⟨.int .u8, r⟩ : TL).cells := rfl
    rw [e]
    simp only [intsOf, intsOf_lst r]
def convB (P : Program) (st : St) (src dst : Nat) (x : V) : Option (List Int) := match x with
  | .own s g off n => match P.underlying src with
    | some (.slice e) => match P.underlying dst with
      | some .string => if (P.underlying e).any (fun d => d matches .int .u8) = true then (match aSrc st.o 1 (.own s g off n) with
        | some (_, xs) => intsOf xs
        | none => none) else none
      | _ => none
    | _ => none
  | .lst L => match P.underlying src with
    | some (.slice e) => match P.underlying dst with
      | some .string => if (P.underlying e).any (fun d => d matches .int .u8) = true then u8T L else none
      | _ => none
    | _ => none
  | .acc s g => match P.underlying src with
    | some (.slice e) => match P.underlying dst with
      | some .string => if (P.underlying e).any (fun d => d matches .int .u8) = true then (if (st.o.get s).gen = g then (match (st.o.get s).k with
          | .nrow _ _ _ L => u8T L
          | _ => none) else none) else none
      | _ => none
    | _ => none
  | _ => none
def siT : (t : Ty) → t.I → Tr V
  | .alt t a r, x => .sm x (fun y => .ret (.ifc t (vOf a (cellsW a y)))) fun z => siT r z
  | .alt1 t a, x => .ret (.ifc t (vOf a (cellsW a x)))
  | .inil, _ => .ret .inil
  | _, _ => .ret .undef
theorem siT_run : ∀ (t : Ty) (x : t.I), (siT t x).run = some (siOf t x)
  | .alt t a r, .inl y => rfl
  | .alt t a r, .inr z => siT_run r z
  | .alt1 _ _, _ | .inil, _ | .int _, _ | .bool, _ | .str, _ | .list _, _ | .unit, _ | .pair _ _, _ | .agg _, _ => rfl
/-- An operation, its conditions as they are. -/
def aopT (P : Program) (st : St) (o : Oper) : Tr (V × Wr) :=
  match o.op with
  | .pick c a b => match st.eval c with
    | .bs t => .ite t (.ret (st.eval a, none)) (.ret (st.eval b, none))
    | _ => .of (aop P st o)
  | .binOp op t x y _ => match op, conB (st.eval x), conB (st.eval y) with
    | .quo, .int k m, .int k' n => if k = k' then .need (!decide (n = 0)) (.ret (.int k (wr k (m.tdiv n)), none)) else .fail
    | .rem, .int k m, .int k' n => if k = k' then .need (!decide (n = 0)) (.ret (.int k (m.tmod n), none)) else .fail
    | .shl, .int k m, .int k' n => .need (!decide (n < 0)) (.ret (.int k (wr k (m * 2 ^ (min n.toNat k.bits))), none))
    | .shr, .int k m, .int k' n => .need (!decide (n < 0)) (.ret (.int k (m.fdiv (2 ^ (min n.toNat k.bits))), none))
    | .add, .str a, .str b => .need (decide (a.length + b.length ≤ 9223372036854775807)) (.ret (.str (a ++ b), none))
    | .eql, .agg a, .agg b => match eqAgg P t a b with | some r => .ret (.bs r, none) | none => .fail
    | .neq, .agg a, .agg b => match eqAgg P t a b with | some r => .ret (.bs (!r), none) | none => .fail
    | _, _, _ => .of (aop P st o)
  | .indexAddr t x ix => match st.eval x, st.eval ix with
    | .lst L, .int _ i => match P.underlying t with
      | some (.slice e) => match P.info? e with
        | some inf => if L.e.size = inf.size then .need (decide (0 ≤ i) && decide (i < L.l.length)) (.ret (.eref ⟨L.e, L.l.getD i.toNat L.e.dflt⟩ 0, none)) else .fail
        | none => .fail
      | _ => .fail
    | .acc s g, .int _ i => match P.underlying t with
      | some (.slice e) => match P.info? e with
        | some inf => if (st.o.get s).gen = g then (match (st.o.get s).k with
          | .nrow _ _ _ L => if L.e.size = inf.size then .need (decide (0 ≤ i) && decide (i < L.l.length)) (.ret (.eptr s g inf.size i.toNat 0, none)) else .fail
          | _ => .fail) else .fail
        | none => .fail
      | _ => .fail
    | .eptr s g sz 0 0, .int _ i => match P.underlying t with
      | some (.array len e) => match P.info? e with
        | some inf => if isArr (.eptr s g sz 0 0) inf.size len = true then (if (st.o.get s).gen = g then (match (st.o.get s).k with
          | .nrow _ _ _ L => if L.e.size = inf.size then .need (decide (0 ≤ i) && decide (i < L.l.length) && decide (i < len)) (.ret (.eptr s g inf.size i.toNat 0, none)) else .fail
          | _ => .fail) else .fail) else .of (aop P st o)
        | none => .of (aop P st o)
      | _ => .of (aop P st o)
    | _, _ => .of (aop P st o)
  | .index t x ix => match st.eval x, st.eval ix with
    | .str s, .int k i => match P.underlying t with
      | some .string => .need (decide (0 ≤ i) && decide (i < s.length)) (.ret (.int .u8 (s.getD i.toNat 0).toNat, none))
      | _ => .fail
    | _, _ => .of (aop P st o)
  | .slice t x lo hi none => match bndT (lo.map st.eval), bndT (hi.map st.eval) with
    | some l, some h => match st.eval x with
      | .str s => match P.underlying t with
        | some .string => .need (cutOk l h s.length) (.ret (.str ((s.take (loOf s.length h)).drop (loOf 0 l)), none))
        | _ => .fail
      | .lst L => match P.underlying t with
        | some (.slice e) => match P.info? e with
          | some inf => if L.e.size = inf.size then .need (cutOk l h L.l.length) (.ret (.lst ⟨L.e, (L.l.take (loOf L.l.length h)).drop (loOf 0 l)⟩, none)) else .fail
          | none => .fail
        | _ => .fail
      | x => match wSlice P st.o t x (lo.map st.eval) (hi.map st.eval) with
        | some r => .needs r.1 (.ret (r.2, none))
        | none => .of (aop P st o)
    | _, _ => .fail
  | .next it true => match st.eval it with
    | .ptr s g 0 => if (st.o.get s).gen = g then (match (st.o.get s).k with
      | .iter l pos => .ite (decide (pos < l.length))
          (.ret (.tup [.bool true, .int .i64 pos, .int .i32 (Utf8.decode ⟨⟨l⟩⟩ pos).1], some (s, ⟨g, .iter l (pos + (Utf8.decode ⟨⟨l⟩⟩ pos).2)⟩)))
          (.ret (.tup [.bool false], none))
      | _ => .fail) else .fail
    | _ => .fail
  | .call ⟨.builtin .append, args, ats⟩ => match args.toList, ats.toList, o.dst with
    | [s, x], [t, tx], some d => if isSym (st.eval s) (unNl (st.eval x)) = true then (match P.underlying t, P.underlying tx with
      | some (.slice et), some dx => match zeroC P et, P.info? et with
        | some _, some i => if isSrcD dx = true ∧ 0 < i.size ∧ 0 < i.bytes then
            match st.eval s with
            | .acc q g => if (st.o.get q).gen = g then (match (st.o.get q).k with
              | .nrow ty fz nl L => if ty = et ∧ L.e.size = i.size then (match symSrc st.o L.e (unNl (st.eval x)) with
                | some l => .need (decide ((L.l.length + l.length) * i.bytes ≤ 140737488355328)) (.ret (.acc q (g + 1), some (q, ⟨g + 1, .nrow ty fz nl ⟨L.e, L.l ++ l⟩⟩)))
                | none => .fail) else .fail
              | _ => .fail) else .fail
            | .snil | .sz => match srcTL st.o (unNl (st.eval x)) with
              | some L => if L.e.size = i.size then .need (decide (L.l.length * i.bytes ≤ 140737488355328)) (.ret (.acc d ((st.o.get d).gen + 1), some (d, ⟨(st.o.get d).gen + 1, .nrow et false true L⟩))) else .fail
              | _ => .fail
            | _ => .fail
          else .fail
        | _, _ => .fail
      | _, _ => .fail) else if isOwn (st.eval s) (unNl (st.eval x)) = true then (match oPre P st.o t tx (st.eval s) (unNl (st.eval x)) with
        | some r => .need (decide (r.2.2.2.2.2.l.length * r.2.2.2.1 ≤ 140737488355328)) (.ret (.acc r.1 (r.2.1 + 2), some (r.1, ⟨r.2.1 + 2, .nrow r.2.2.1 false false r.2.2.2.2.2⟩)))
        | none => .fail) else if isCut (st.eval s) = true then (match cPre P st.o t tx (st.eval s) (unNl (st.eval x)) with
        | some r => .need (decide (r.2.2.2.2.1 ≤ r.2.2.2.2.2.1.l.length)) (.ret (.nwin r.1 (r.2.1 + 1) 0 r.2.2.2.2.1, some (r.1, ⟨r.2.1 + 1, .nrow r.2.2.1.1 false r.2.2.1.2 r.2.2.2.2.2.2⟩)))
        | none => .fail) else .of (aop P st o)
    | _, _, _ => .of (aop P st o)
  | .typeAssert x xt asserted ok => match st.eval x with
    | .si X => (siT X.e X.x).bind fun v => .of ((aAssert P asserted ok v).map fun v => (v, none))
    | _ => .of (aop P st o)
  | .convert src dst x => match o.dst with
    | some d => match convB P st src dst (st.eval x) with
      | some l => .need (l.all fun n => decide (0 ≤ n) && decide (n < 256)) (.ret (.str (bytesI l), none))
      | none => .of (aop P st o)
    | none => .of (aop P st o)
  | _ => .of (aop P st o)

theorem ite_some {α : Type} {b : Bool} {x : Tr α} {r : α} (h : (Tr.need b x).run = some r) : b = true ∧ x.run = some r := by
  rw [Tr.run_need] at h
  split at h
  · rename_i hb; exact ⟨hb, h⟩
  · cases h

theorem aopT_run {P : Program} {st : St} {o : Oper} {r : V × Wr} (h : (aopT P st o).run = some r) : aop P st o = some r := by
  obtain ⟨dst, op, type, pos, after, guard⟩ := o
  unfold aopT at h
  simp only at h
  split at h
  · -- pick
    rename_i c a b
    split at h
    · rename_i t ht
      simp only [aop, ht]
      cases t <;> exact h
    · rwa [Tr.run_of] at h
  · -- binOp
    rename_i bo t x y yt
    split at h
    · rename_i k m k' n hx hy
      split at h
      · rename_i hk
        obtain ⟨hb, h⟩ := ite_some h
        subst hk
        simp only [Bool.not_eq_true', decide_eq_false_iff_not] at hb
        simp only [aop, hx, hy, aBin, intBin, if_true, if_neg hb]
        exact h
      · cases h
    · rename_i k m k' n hx hy
      split at h
      · rename_i hk
        obtain ⟨hb, h⟩ := ite_some h
        subst hk
        simp only [Bool.not_eq_true', decide_eq_false_iff_not] at hb
        simp only [aop, hx, hy, aBin, intBin, if_true, if_neg hb]
        exact h
      · cases h
    · rename_i k m k' n hx hy
      obtain ⟨hb, h⟩ := ite_some h
      simp only [Bool.not_eq_true', decide_eq_false_iff_not] at hb
      simp only [aop, hx, hy, aBin, if_neg hb]
      exact h
    · rename_i k m k' n hx hy
      obtain ⟨hb, h⟩ := ite_some h
      simp only [Bool.not_eq_true', decide_eq_false_iff_not] at hb
      simp only [aop, hx, hy, aBin, if_neg hb]
      exact h
    · rename_i a b hx hy
      obtain ⟨hb, h⟩ := ite_some h
      simp only [decide_eq_true_eq] at hb
      simp only [aop, hx, hy, aBin, strBin, if_pos hb]
      exact h
    · rename_i a b hx hy
      split at h
      · rename_i r hr
        simp only [aop, hx, hy, aBin, eqAgg_ok hr]
        exact h
      · cases h
    · rename_i a b hx hy
      split at h
      · rename_i r hr
        simp only [aop, hx, hy, aBin, eqAgg_ok hr]
        exact h
      · cases h
    · rwa [Tr.run_of] at h
  · -- indexAddr
    rename_i t x ix
    split at h
    · rename_i L k i hx hi
      split at h
      · rename_i e ht
        split at h
        · rename_i inf hinf
          split at h
          · rename_i hs
            obtain ⟨hb, h⟩ := ite_some h
            simp only [Bool.and_eq_true, decide_eq_true_eq] at hb
            simp only [aop, hx, hi, aIndexAddr, ht, hinf, if_pos hs, if_pos hb]
            exact h
          · cases h
        · cases h
      · cases h
    · rename_i s g k i hx hi
      split at h
      · rename_i e ht
        split at h
        · rename_i inf hinf
          split at h
          · rename_i hg
            split at h
            · rename_i ty fz nl L hk
              split at h
              · rename_i hs
                obtain ⟨hb, h⟩ := ite_some h
                simp only [Bool.and_eq_true, decide_eq_true_eq] at hb
                simp only [aop, hx, hi, aIndexAddr, ht, hinf, if_pos hg, hk, if_pos hs, if_pos hb]
                exact h
              · cases h
            · cases h
          · cases h
        · cases h
      · cases h
    · rename_i s g sz k i hx hi
      split at h
      · rename_i len e ht
        split at h
        · rename_i inf hinf
          split at h
          · rename_i hA
            split at h
            · rename_i hg
              split at h
              · rename_i ty fz nl L hk
                split at h
                · rename_i hs
                  obtain ⟨hb, h⟩ := ite_some h
                  simp only [Bool.and_eq_true, decide_eq_true_eq] at hb
                  simp only [aop, hx, hi, aIndexAddr, ht, hinf, if_pos hA, aArrIx, if_pos hg, hk, if_pos (⟨hs, hb.1.1, hb.1.2, hb.2⟩ : L.e.size = inf.size ∧ 0 ≤ i ∧ i < L.l.length ∧ i < len)]
                  exact h
                · cases h
              · cases h
            · cases h
          · rwa [Tr.run_of] at h
        · rwa [Tr.run_of] at h
      · rwa [Tr.run_of] at h
    · rwa [Tr.run_of] at h
  · -- index
    rename_i t x ix
    split at h
    · rename_i s k i hx hi
      split at h
      · rename_i ht
        obtain ⟨hb, h⟩ := ite_some h
        simp only [Bool.and_eq_true, decide_eq_true_eq] at hb
        have hlt : i.toNat < s.length := by omega
        simp only [aop, hx, hi, aIndex, ht, if_pos hb.1, List.getElem?_eq_getElem hlt]
        have e : s.getD i.toNat 0 = s[i.toNat] := by simp [hlt]
        rw [e] at h
        exact h
      · cases h
    · rwa [Tr.run_of] at h
  · -- slice
    rename_i t x lo hi
    split at h
    · rename_i l hh hl hhh
      split at h
      · rename_i s hx
        split at h
        · rename_i ht
          obtain ⟨hb, h⟩ := ite_some h
          obtain ⟨b1, b2, b3, b4⟩ := cutOk_ok hb
          have e0 : (if (lo.isNone && hi.isNone) = true then aArr P st.o t (V.str s) else none) = none := by
            split
            · unfold aArr; rw [ht]
            · rfl
          simp only [aop, hx, e0, aSlice, ht, bndT_ok hl b1 (d := 0), bndT_ok hhh b2 (d := s.length), if_pos (And.intro b3 b4)]
          exact h
        · cases h
      · rename_i L hx
        split at h
        · rename_i e ht
          split at h
          · rename_i inf hinf
            split at h
            · rename_i hs
              obtain ⟨hb, h⟩ := ite_some h
              obtain ⟨b1, b2, b3, b4⟩ := cutOk_ok hb
              have e0 : (if (lo.isNone && hi.isNone) = true then aArr P st.o t (V.lst L) else none) = none := by
                split
                · unfold aArr; rw [ht]
                · rfl
              simp only [aop, hx, e0, aSlice, ht, hinf, if_pos hs, bndT_ok hl b1 (d := 0), bndT_ok hhh b2 (d := L.l.length), if_pos (And.intro b3 b4)]
              exact h
            · cases h
          · cases h
        · cases h
      · split at h
        · rename_i r hw
          obtain ⟨hb, h⟩ := Tr.run_needs h
          obtain ⟨e, ht⟩ := wSlice_t hw
          have e0 : (if (lo.isNone && hi.isNone) = true then aArr P st.o t (st.eval x) else none) = none := by
            split
            · unfold aArr; rw [ht]
            · rfl
          simp only [aop, e0, aSlice_w hw hb]
          exact h
        · rwa [Tr.run_of] at h
    · cases h
  · -- next
    rename_i it
    split at h
    · rename_i s g hx
      split at h
      · rename_i hg
        split at h
        · rename_i l p hk
          simp only [aop, hx, aNext, if_pos hg, hk]
          by_cases hp : p < l.length
          · simp only [Tr.run, hp, decide_true, cond] at h
            rw [if_pos hp]; exact h
          · simp only [Tr.run, hp, decide_false, cond] at h
            rw [if_neg hp]; exact h
        · cases h
      · cases h
    · cases h
  · -- append
    rename_i args ats
    split at h
    · rename_i s x t tx d ea et
      split at h
      · rename_i hsym
        simp only [aop, ea, et, if_pos hsym, sAppend]
        split at h
        · rename_i et' dx ht htx
          split at h
          · rename_i zs i hz hi
            split at h
            · rename_i hc
              simp only [ht, htx, hz, hi, if_pos hc]
              split at h
              · rename_i q g hq
                simp only [hq]
                split at h
                · rename_i hg
                  split at h
                  · rename_i ty fz nl L hk
                    split at h
                    · rename_i hs
                      split at h
                      · rename_i l hl
                        obtain ⟨hb, h⟩ := ite_some h
                        simp only [decide_eq_true_eq] at hb
                        simp only [if_pos hg, hk, if_pos hs, hl, if_pos hb]
                        exact h
                      · cases h
                    · cases h
                  · cases h
                · cases h
              · rename_i hq
                simp only [hq]
                split at h
                · rename_i L hx
                  split at h
                  · rename_i hs
                    obtain ⟨hb, h⟩ := ite_some h
                    simp only [decide_eq_true_eq] at hb
                    simp only [hx, if_pos hs, if_pos hb]
                    exact h
                  · cases h
                · cases h
              · rename_i hq
                simp only [hq]
                split at h
                · rename_i L hx
                  split at h
                  · rename_i hs
                    obtain ⟨hb, h⟩ := ite_some h
                    simp only [decide_eq_true_eq] at hb
                    simp only [hx, if_pos hs, if_pos hb]
                    exact h
                  · cases h
                · cases h
              · cases h
            · cases h
          · cases h
        · cases h
      · rename_i hsym
        split at h
        · rename_i hown
          simp only [aop, ea, et, if_neg hsym, if_pos hown, oAppend]
          split at h
          · rename_i r hr
            obtain ⟨hb, h⟩ := ite_some h
            simp only [decide_eq_true_eq] at hb
            rw [hr]
            simp only [if_pos hb]
            exact h
          · cases h
        · rename_i hown
          split at h
          · rename_i hcut
            simp only [aop, ea, et, if_neg hsym, if_neg hown, if_pos hcut, cAppend]
            split at h
            · rename_i r hr
              obtain ⟨hb, h⟩ := ite_some h
              simp only [decide_eq_true_eq] at hb
              rw [hr]
              simp only [if_pos hb]
              exact h
            · cases h
          · rwa [Tr.run_of] at h
    · rwa [Tr.run_of] at h
  · -- an interface value of Lean's own
    rename_i x xt asserted ok
    split at h
    · rename_i X hX
      rw [Tr.run_bind, siT_run] at h
      have h2 : (Tr.of ((aAssert P asserted ok (siOf X.e X.x)).map fun v => (v, none))).run = some r := h
      rw [Tr.run_of] at h2
      have e : aAssert P asserted ok (.si X) = none := by unfold aAssert; split <;> simp_all
      simp only [aop, hX, e, unS]
      exact h2
    · rwa [Tr.run_of] at h
  · -- bytes to a string
    rename_i src dst' x
    split at h
    · rename_i d
      split at h
      · rename_i l hl
        obtain ⟨hb, h⟩ := ite_some h
        have h : some (V.str (bytesI l), none) = some r := h
        injection h with h
        subst h
        unfold convB at hl
        split at hl
        · rename_i s g off n hx
          split at hl
          case h_2 => cases hl
          rename_i e hs
          split at hl
          case h_2 => cases hl
          rename_i hd
          split at hl
          case isFalse => cases hl
          rename_i hu
          split at hl
          case h_2 => cases hl
          rename_i m xs hsrc
          have hby := intsOf_ok xs l hl hb
          simp only [aop, aConvert, hs, hd, hx, hsrc, hby, Option.map_some]
          exact if_pos ⟨hu, rfl⟩
        · rename_i L hx
          split at hl
          case h_2 => cases hl
          rename_i e hs
          split at hl
          case h_2 => cases hl
          rename_i hd
          split at hl
          case isFalse => cases hl
          rename_i hu
          have hL := u8T_ok hl
          subst hL
          have hsrc : aSrc st.o 1 (.lst ⟨.int .u8, l⟩) = some (l.length, (⟨.int .u8, l⟩ : TL).cells) := by simp only [aSrc]; exact if_pos rfl
          have hby := intsOf_ok _ l (intsOf_lst l) hb
          simp only [aop, aConvert, hs, hd, hx, hsrc, hby, Option.map_some]
          exact if_pos ⟨hu, rfl⟩
        · rename_i s g hx
          split at hl
          case h_2 => cases hl
          rename_i e hs
          split at hl
          case h_2 => cases hl
          rename_i hd
          split at hl
          case isFalse => cases hl
          rename_i hu
          split at hl
          case isFalse => cases hl
          rename_i hg
          split at hl
          case h_2 => cases hl
          rename_i z1 z2 z3 L hk
          have hL := u8T_ok hl
          subst hL
          have hsrc : aSrc st.o 1 (.acc s g) = some (l.length, (⟨.int .u8, l⟩ : TL).cells) := by simp only [aSrc]; rw [if_pos hg, hk]; exact if_pos rfl
          have hby := intsOf_ok _ l (intsOf_lst l) hb
          simp only [aop, aConvert, hs, hd, hx, hsrc, hby, Option.map_some]
          exact if_pos ⟨hu, rfl⟩
        · cases hl
      · rwa [Tr.run_of] at h
    · rwa [Tr.run_of] at h
  · rwa [Tr.run_of] at h


end Go.Abs
