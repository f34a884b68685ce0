/- A region that draws its order. -/
import Derived.Test.YtiaoojocpcldmaaGreatAbsR
namespace Go.Abs
open Go.RowKit
set_option linter.unusedVariables false
set_option linter.unusedSimpArgs false

/-! The last one of those that L lists that says something. -/
def lastOf {α : Type} (L : Nat → Bool) (f : Nat → Option α) (x : α) : Nat → α
  | 0 => x
  | n + 1 => if L n = true then (f n).getD (lastOf L f x n) else lastOf L f x n

section
variable {α : Type}
theorem lastOf_congr {L L' : Nat → Bool} {f : Nat → Option α} {x : α} : ∀ (n : Nat), (∀ j, j < n → f j ≠ none → (L j = L' j)) → lastOf L f x n = lastOf L' f x n
  | 0, _ => rfl
  | n + 1, h => by
    have ih := lastOf_congr (x := x) n fun j hj => h j (by omega)
    simp only [lastOf, ih]
    cases hf : f n with
    | none => simp
    | some y => rw [h n (by omega) (by simp [hf])]
theorem lastOf_agree {L : Nat → Bool} {f : Nat → Option α} {x : α} {i : Nat} : ∀ (n : Nat), i ≤ n → (∀ j, j < n → f j ≠ none → (L j = true ↔ j < i)) → lastOf L f x n = lastOf (fun _ => true) f x i
  | 0, hi, _ => by have : i = 0 := by omega
                   subst this; rfl
  | n + 1, hi, h => by
    by_cases hn : i = n + 1
    · subst hn
      exact lastOf_congr _ fun j hj hf => by rw [(h j hj hf).2 hj]
    · have ih := lastOf_agree (x := x) n (by omega) fun j hj => h j (by omega)
      rw [← ih]
      simp only [lastOf]
      cases hf : f n with
      | none => simp
      | some y =>
        have : ¬ L n = true := fun hl => by have := (h n (by omega) (by simp [hf])).1 hl; omega
        rw [if_neg this]
theorem lastOf_upd {L L' : Nat → Bool} {f : Nat → Option α} {x : α} {i : Nat} (hL : ∀ j, L' j = (L j || j == i)) (hi : L i = false) : ∀ (n : Nat), i < n → (∀ j, j < n → i < j → f j ≠ none → L j = false) →
    lastOf L' f x n = (f i).getD (lastOf L f x n)
  | 0, h, _ => by omega
  | n + 1, h, hf => by
    by_cases hn : i = n
    · subst hn
      have e : lastOf L' f x i = lastOf L f x i := lastOf_congr i fun j hj _ => by
        rw [hL]
        have : (j == i) = false := by rw [beq_eq_false_iff_ne]; omega
        rw [this]; simp
      simp only [lastOf, hL, hi, beq_self_eq_true, Bool.or_true, if_true, e, Bool.false_eq_true, if_false]
    · have ih := lastOf_upd (x := x) hL hi n (by omega) fun j hj => hf j (by omega)
      have hni : (n == i) = false := by rw [beq_eq_false_iff_ne]; omega
      simp only [lastOf, hL, hni, Bool.or_false, ih]
      cases hfn : f n with
      | none => simp
      | some y =>
        rw [hf n (by omega) (by omega) (by simp [hfn])]
        simp
theorem lastOf_shift {f : Nat → Option α} {x : α} : ∀ (i : Nat), lastOf (fun _ => true) f x (i + 1) = lastOf (fun _ => true) (fun j => f (j + 1)) ((f 0).getD x) i
  | 0 => by simp [lastOf]
  | i + 1 => by
    rw [lastOf, lastOf_shift i]
    simp [lastOf]
theorem lastOf_ext {f g : Nat → Option α} {x : α} : ∀ (i : Nat), (∀ j, j < i → f j = g j) → lastOf (fun _ => true) f x i = lastOf (fun _ => true) g x i
  | 0, _ => rfl
  | i + 1, h => by simp only [lastOf, lastOf_ext i fun j hj => h j (by omega), h i (by omega)]
end

/-! What a step of the text's order did. -/
structure Rec where
  v : V
  F : List Nat
  W : List (Nat × Ob)

def look : List (Nat × Ob) → Nat → Option Ob
  | [], _ => none
  | (k, o) :: r, t => if k = t then some o else look r t
def overlay : List (Nat × Ob) → Tab → Tab
  | [], T => T
  | (k, o) :: r, T => (overlay r T).put k o
theorem get_overlay : ∀ (W : List (Nat × Ob)) (T : Tab) (s : Nat), (overlay W T).get s = (look W s).getD (T.get s)
  | [], T, s => rfl
  | (k, o) :: r, T, s => by
    simp only [overlay, Tab.get_put, look]
    split
    · rfl
    · exact get_overlay r T s
def restrict (F : List Nat) (T : Tab) : Tab := F.map fun s => (s, T.get s)
theorem get_restrict (T : Tab) (s : Nat) : ∀ F : List Nat, (restrict F T).get s = if s ∈ F then T.get s else ⟨0, .dead⟩
  | [] => by simp [restrict, Tab.get, aget]
  | k :: F => by
    have := get_restrict T s F
    simp only [restrict, Tab.get, List.map_cons, aget] at this ⊢
    by_cases h : k = s
    · subst h; simp
    · rw [if_neg h, this]; simp [Ne.symm h]

def refs1 : V → List Nat
  | .own s _ _ _ => [s]
  | .ptr s _ _ => [s]
  | .acc s _ => [s]
  | .eptr s _ _ _ _ => [s]
  | .nwin s _ _ _ => [s]
  | .mp s _ => [s]
  | _ => []
def refsN : Nat → Tab → V → List Nat
  | 0, _, _ => []
  | n + 1, T, v => match v with
    | .own s _ _ _ => s :: (match (T.get s).k with | .row _ _ _ cs => cs.flatMap (refsN n T) | _ => [])
    | .ptr s _ _ => s :: (match (T.get s).k with | .box _ cs => cs.flatMap (refsN n T) | _ => [])
    | .acc s _ => [s]
    | .eptr s _ _ _ _ => [s]
    | .nwin s _ _ _ => [s]
    | .mp s _ => [s]
    | .agg cs => cs.flatMap (refsN n T)
    | .fn _ cs => cs.flatMap (refsN n T)
    | .ifc _ u => refsN n T u
    | _ => []
/-- Which operations look at no object, whatever they are handed. -/
def quietOp : Op → Bool
  | .move _ | .assign _ | .pick _ _ _ | .nilCheck _ | .fieldAddr _ _ _ | .extract _ _ | .unOp _ _ _ | .makeInterface _ _ | .typeAssert _ _ _ _ => true
  | _ => false
/-- Which objects a step may look at. -/
def foot (st : St) (o : Oper) : List Nat :=
  ((List.range 4).map (fsite (o.dst.getD 99999))) ++
  match o.op with
  | .call ⟨.value f, args, _⟩ => (refsN depth st.o (st.eval f)) ++ args.toList.flatMap fun x => refsN depth st.o (st.eval x)
  | op => if quietOp op = true then [] else op.operands.toList.flatMap fun x => refs1 (st.eval x)

def drun (Γ : Orc) (P : Program) (opl : List Oper) : List Oper → St → Option (List Rec × St)
  | [], st => some ([], st)
  | o :: r, st => match aguard opl st o with
    | some false => match st.set o.dst (.tup []) with
      | some st' => match drun Γ P opl r st' with
        | some (rs, s) => some (⟨.tup [], [], []⟩ :: rs, s)
        | none => none
      | none => none
    | some true =>
      let F := foot st o
      let R : St := { st with o := restrict F st.o }
      match estep Γ P R o with
      | some (v, T) =>
        let W := (wsites P R o).map fun s => (s, T.get s)
        if (wsites P R o).all (F.contains ·) = true then
          match ({ st with o := overlay W st.o } : St).set o.dst (norm opl o v) with
          | some st' => match drun Γ P opl r st' with
            | some (rs, s) => some (⟨norm opl o v, F, W⟩ :: rs, s)
            | none => none
          | none => none
        else none
      | none => none
    | none => none

/-- One step of the text's order, as it was. -/
def One (Γ : Orc) (P : Program) (opl : List Oper) (st : St) (o : Oper) (r : Rec) : Prop :=
  (∀ d, o.dst = some d → d < st.n) ∧
  ((aguard opl st o = some false ∧ r = ⟨.tup [], [], []⟩) ∨
   (aguard opl st o = some true ∧ ∃ T v0, estep Γ P { st with o := restrict r.F st.o } o = some (v0, T) ∧ r.v = norm opl o v0 ∧ r.F = foot st o ∧
      r.W = (wsites P { st with o := restrict r.F st.o } o).map (fun s => (s, T.get s)) ∧ ∀ s ∈ wsites P { st with o := restrict r.F st.o } o, s ∈ r.F))

def valF (l : List Oper) (rs : List Rec) (t j : Nat) : Option V := (l[j]?).bind fun o => if o.dst = some t then (rs[j]?).map (·.v) else none
def objF (rs : List Rec) (s j : Nat) : Option Ob := (rs[j]?).bind fun r => look r.W s

theorem set_get {st st' : St} {d : Option Nat} {v : V} (h : st.set d v = some st') : st'.n = st.n ∧ st'.o = st.o ∧ (∀ e, d = some e → e < st.n) ∧ ∀ t, st'.get t = if d = some t then v else st.get t := by
  unfold St.set at h
  split at h
  · injection h with h; subst h; simp
  · split at h
    · rename_i e he
      injection h with h; subst h
      refine ⟨rfl, rfl, fun e' he' => by injection he' with he'; subst he'; exact he, fun t => ?_⟩
      simp only [St.get, aget_aput, Option.some.injEq]
    · cases h

theorem drun_ok {Γ : Orc} {P : Program} {opl : List Oper} : ∀ (l : List Oper) (st stn : St) (rs : List Rec), drun Γ P opl l st = some (rs, stn) →
    rs.length = l.length ∧ stn.n = st.n ∧ (∀ t, stn.get t = lastOf (fun _ => true) (valF l rs t) (st.get t) l.length) ∧ (∀ s, stn.o.get s = lastOf (fun _ => true) (objF rs s) (st.o.get s) l.length) ∧
    ∀ (i : Nat) (o : Oper) (r : Rec), l[i]? = some o → rs[i]? = some r → ∃ sti : St, sti.n = st.n ∧ (∀ t, sti.get t = lastOf (fun _ => true) (valF l rs t) (st.get t) i) ∧
      (∀ s, sti.o.get s = lastOf (fun _ => true) (objF rs s) (st.o.get s) i) ∧ One Γ P opl sti o r
  | [], st, stn, rs, h => by
    simp [drun] at h
    obtain ⟨rfl, rfl⟩ := h
    simp [lastOf]
  | o :: l, st, stn, rs, h => by
    have key : ∃ (r : Rec) (rs' : List Rec) (st1 : St), rs = r :: rs' ∧ drun Γ P opl l st1 = some (rs', stn) ∧ st1.n = st.n ∧ One Γ P opl st o r ∧ (∀ t, st1.get t = if o.dst = some t then r.v else st.get t) ∧
        ∀ s, st1.o.get s = (look r.W s).getD (st.o.get s) := by
      simp only [drun] at h
      split at h
      · rename_i hg
        split at h
        · rename_i st1 hs
          split at h
          · rename_i rs' s hd
            simp at h
            obtain ⟨rfl, rfl⟩ := h
            obtain ⟨a1, a2, a3, a4⟩ := set_get hs
            exact ⟨_, rs', st1, rfl, hd, a1, ⟨a3, .inl ⟨hg, rfl⟩⟩, a4, fun s => by rw [a2]; rfl⟩
          · cases h
        · cases h
      · rename_i hg
        split at h
        · rename_i v T he
          split at h
          · rename_i hw
            split at h
            · rename_i st1 hs
              split at h
              · rename_i rs' s hd
                simp at h
                obtain ⟨rfl, rfl⟩ := h
                obtain ⟨a1, a2, a3, a4⟩ := set_get hs
                refine ⟨_, rs', st1, rfl, hd, a1, ⟨a3, .inr ⟨hg, T, v, he, rfl, rfl, rfl, fun s hs' => ?_⟩⟩, a4, fun s => by rw [a2]; exact get_overlay _ _ _⟩
                have := List.all_eq_true.1 hw s hs'
                simpa using this
              · cases h
            · cases h
          · cases h
        · cases h
      · cases h
    obtain ⟨r, rs', st1, rfl, hd, hn, hone, hget, hobj⟩ := key
    obtain ⟨b1, b2, b3, b4, b5⟩ := drun_ok l st1 stn rs' hd
    have hval : ∀ t i, lastOf (fun _ => true) (valF (o :: l) (r :: rs') t) (st.get t) (i + 1) = lastOf (fun _ => true) (valF l rs' t) (st1.get t) i := by
      intro t i
      rw [lastOf_shift]
      have e0 : (valF (o :: l) (r :: rs') t 0).getD (st.get t) = st1.get t := by
        rw [hget]
        simp only [valF, List.getElem?_cons_zero, Option.bind_some]
        split <;> simp
      rw [e0]
      exact lastOf_ext i fun j _ => by simp [valF]
    have hob : ∀ s i, lastOf (fun _ => true) (objF (r :: rs') s) (st.o.get s) (i + 1) = lastOf (fun _ => true) (objF rs' s) (st1.o.get s) i := by
      intro s i
      rw [lastOf_shift]
      have e0 : (objF (r :: rs') s 0).getD (st.o.get s) = st1.o.get s := by rw [hobj]; simp [objF]
      rw [e0]
      exact lastOf_ext i fun j _ => by simp [objF]
    refine ⟨by simp [b1], by omega, fun t => ?_, fun s => ?_, fun i o' r' ho hr => ?_⟩
    · rw [List.length_cons, hval, b3]
    · rw [List.length_cons, hob, b4]
    · cases i with
      | zero =>
        simp at ho hr
        subst ho hr
        exact ⟨st, rfl, fun t => rfl, fun s => rfl, hone⟩
      | succ i =>
        simp at ho hr
        obtain ⟨sti, c1, c2, c3, c4⟩ := b5 i o' r' ho hr
        exact ⟨sti, by omega, fun t => by rw [hval, c2], fun s => by rw [hob, c3], c4⟩

/-! What stands ahead of what. -/
def maskStep (acc : List Nat) (o : Oper) : List Nat :=
  acc ++ [o.after.toList.foldl (fun s e => if Region.binds .any e then s ||| (2 ^ e.on ||| acc.getD e.on 0) else s) 0]
def masks (opl : List Oper) : List Nat := opl.foldl maskStep []
def ordered (m : List Nat) (i j : Nat) : Bool := (m.getD j 0).testBit i

/-- Sites of a list of pairs. -/
def keys (W : List (Nat × Ob)) : List Nat := W.map (·.1)
theorem look_keys {W : List (Nat × Ob)} {s : Nat} (h : look W s ≠ none) : s ∈ keys W := by
  induction W with
  | nil => simp [look] at h
  | cons p W ih =>
    obtain ⟨k, o⟩ := p
    simp only [look] at h
    simp only [keys, List.map_cons, List.mem_cons]
    by_cases e : k = s
    · exact .inl e.symm
    · rw [if_neg e] at h; exact .inr (ih h)

def meets (a b : List Nat) : Bool := a.any (b.contains ·)

/-- Whoever turns what another one looks at stands before it or behind it. -/
def objsOk (opl : List Oper) (rs : List Rec) : Bool :=
  rs.zipIdx.all fun (ri, i) => ri.W.isEmpty || rs.zipIdx.all fun (rj, j) => i == j || !meets (keys ri.W) rj.F || ordered (masks opl) (min i j) (max i j)

def looksL (opl : List Oper) (o : Oper) : List Nat :=
  (o.op.operands.toList.filterMap fun | .tmp t => some t | _ => none) ++
  (match o.guard with
   | some (g, _) => ((opl[g]?).bind (·.dst)).toList
   | none => [])
/-- Each slot's writer stands before or behind whoever reads or writes it; nobody waits for a later one. -/
def tmpsOk (opl : List Oper) : Bool :=
  let m := masks opl
  opl.zipIdx.all fun (oi, i) =>
    (oi.after.all fun e => !Region.binds .any e || e.on < i) &&
    match oi.dst with
    | none => true
    | some d => opl.zipIdx.all fun (oj, j) => i == j || !((looksL opl oj).contains d || oj.dst == some d) || ordered m (min i j) (max i j)

def execDraw (Γ : Orc) (P : Program) (opl : List Oper) (st : St) : Option St :=
  match steps Γ P opl opl st with
  | some st1 =>
    let Z := (st.o.map (·.1)).filter fun s => !frozenB st.o s && frozenB st1.o s
    let st0 : St := { st with o := st.o.freezes Z }
    match drun Γ P opl opl st0 with
    | some (rs, stn) => if objsOk opl rs = true then some stn else none
    | none => none
  | none => none

end Go.Abs
