/- The form of a state: which slots, which objects; a state brought to a form. -/
import Derived.Test.YtiaoojocpcldmaaGreatExtC
namespace Go.Abs
open Go.RowKit
set_option linter.unusedVariables false
set_option linter.unusedSimpArgs false

/-! What is given back, or looked at, as pure values. -/
/-- A value read as one of a type. -/
def impV (t : Ty) (v : V) : Option t.I := impOne t (impC t) v
theorem valW_vOf {S : Addr → Prop} {w : World} {t : Ty} {x : t.I} {u : Value} (h : Rp S w (vOf t (cellsV t x)) u) (ho : isOneT t = true ∨ isAggT t = true) : Rp S w (valW t x) u := by
  cases t with
  | int k => exact h
  | bool => exact .bs h
  | str => exact h
  | list e => exact .lst h
  | unit => simp [isOneT, isAggT] at ho
  | pair a b => simp [isOneT, isAggT] at ho
  | agg t =>
    cases h with
    | agg h1 h2 =>
      have := cellsW_rp t x _ ⟨h1, h2⟩
      exact .agg this.1 this.2
  | alt t a r =>
    refine .si ?_
    have e : vOf (.alt t a r) (cellsV (.alt t a r) x) = (cellsV (.alt t a r) x).headD .pnil := rfl
    rw [e] at h
    exact h
  | alt1 t a =>
    cases h with
    | ifc h => exact .ifc (vOf_rp (by rw [cellsV_length, cellsW_length]) (cellsW_pt a x) h)
  | inil => exact h
theorem impOne_one {α : Type} {a : Ty} {f : List V → Option (α × List V)} {v : V} {y : α} (h : impOne a f v = some y) : isOneT a = true ∨ isAggT a = true := by
  unfold impOne at h
  split at h
  · rename_i hc
    simp only [Bool.or_eq_true, Bool.and_eq_true] at hc
    rcases hc with hc | hc
    · exact .inr hc.1
    · exact .inl hc.1
  · cases h
theorem impV_rv {T : Tab} {ι : Nat → Nat} {S : Addr → Prop} {w : World} {t : Ty} {x : t.I} {v : V} {u : Value} (hx : impV t v = some x) (hv : Rv T ι S w v u) : Rp S w (valW t x) u :=
  valW_vOf ((impOne_rv (impC_rv t) hx hv).pure_ (vOf_pure (leaf_cellsV t x))) (impOne_one hx)

/-! Values side by side. -/
def tsI : List Ty → Type
  | [] => Unit
  | [t] => t.I
  | t :: u :: r => t.I × tsI (u :: r)
def packTs : (ts : List Ty) → List TX → Option (tsI ts)
  | [], l => match l with
    | [] => some ()
    | _ => none
  | [t], l => match l with
    | [X] => if h : X.e = t then some (castX h X.x) else none
    | _ => none
  | t :: u :: r, l => match l with
    | X :: l' => if h : X.e = t then (match packTs (u :: r) l' with
      | some y => some (castX h X.x, y)
      | none => none) else none
    | [] => none
def unpackTs : (ts : List Ty) → tsI ts → List TX
  | [], _ => []
  | [t], x => [⟨t, x⟩]
  | t :: u :: r, x => ⟨t, x.1⟩ :: unpackTs (u :: r) x.2
theorem unpack_pack : ∀ (ts : List Ty) (l : List TX) (x : tsI ts), packTs ts l = some x → unpackTs ts x = l
  | [], l, x, h => by
    cases l with
    | nil => rfl
    | cons _ _ => cases h
  | [t], l, x, h => by
    cases l with
    | nil => cases h
    | cons X l =>
      cases l with
      | nil =>
        simp only [packTs] at h
        split at h
        · rename_i he
          obtain ⟨e, y⟩ := X
          simp only at he; subst he
          injection h with h; subst h; rfl
        · cases h
      | cons _ _ => cases h
  | t :: u :: r, l, x, h => by
    cases l with
    | nil => cases h
    | cons X l =>
      simp only [packTs] at h
      split at h
      · rename_i he
        split at h
        · rename_i y hy
          obtain ⟨e, z⟩ := X
          simp only at he; subst he
          injection h with h; subst h
          show _ :: unpackTs (u :: r) y = _
          rw [unpack_pack (u :: r) l y hy]; rfl
        · cases h
      · cases h

/-! The form. -/
inductive SS where
  | val (t : Ty)
  | ptr (s off : Nat)
  | acc (s : Nat)
  | arr (s sz : Nat)
  | fn (f : Nat) (ss : List Nat)
  | mp (s : Nat)
inductive CS where
  | val (t : Ty)
  | acc (s : Nat)
  | pair (a b : CS)
inductive OS where
  | box (ty : Nat) (c : CS)
  | nrow (ty : Nat) (e : Ty) (fz nl : Bool)
  | iter
  | mp (e : Ty)
structure Pat where
  sl : List (Nat × SS)
  ob : List (Nat × OS) := []

def gen0 (s : Nat) : Nat := if 1000000 ≤ s then 0 else 1
abbrev Lk := List (Nat × Nat)
def lookN : Lk → Nat → Option Nat
  | [], _ => none
  | (k, v) :: r, s => if k = s then some v else lookN r s
def accLink (s : Nat) : V → Lk
  | .acc q _ => [(s, q)]
  | .own q _ _ _ => [(s, q)]
  | _ => []
def ptrLink (s : Nat) : V → Lk
  | .ptr q _ _ => [(s, q)]
  | _ => []
def arrLink (s : Nat) : V → Lk
  | .eptr q _ _ _ _ => [(s, q)]
  | _ => []
def mpLink (s : Nat) : V → Lk
  | .mp q _ => [(s, q)]
  | _ => []
def zipLink : List Nat → List V → Lk
  | s :: ss, v :: vs => ptrLink s v ++ zipLink ss vs
  | _, _ => []
def SS.link (v : V) : SS → Lk
  | .ptr s _ => ptrLink s v
  | .acc s => accLink s v
  | .arr s _ => arrLink s v
  | .mp s => mpLink s v
  | .fn _ ss => match v with
    | .fn _ caps => zipLink ss caps
    | _ => []
  | _ => []
def CS.link : CS → List V → Lk × List V
  | .val t, cs => ([], cs.drop t.size)
  | .acc s, cs => match cs with
    | v :: r => (accLink s v, r)
    | [] => ([], [])
  | .pair a b, cs => ((a.link cs).1 ++ (b.link (a.link cs).2).1, (b.link (a.link cs).2).2)
def slotLinks (st : St) : List (Nat × SS) → Lk
  | [] => []
  | e :: r => e.2.link (st.get e.1) ++ slotLinks st r
def boxLinks (T : Tab) : List (Nat × OS) → Lk → Lk
  | [], L => L
  | (s, .box _ c) :: r, L => match lookN L s with
    | some q => match (T.get q).k with
      | .box _ cs => boxLinks T r (L ++ (c.link cs).1)
      | _ => boxLinks T r L
    | none => boxLinks T r L
  | _ :: r, L => boxLinks T r L
def linksOf (st : St) (p : Pat) : Lk := boxLinks st.o p.ob (slotLinks st p.sl)
def lkOk (T : Tab) (L : Lk) : Bool :=
  L.all (fun a => L.all (fun b => (a.1 == b.1) == (a.2 == b.2))) && L.all (fun a => if 1000000 ≤ a.1 ∨ 1000000 ≤ a.2 then a.1 == a.2 && (T.get a.2).gen == 0 else true)

def accOk (L : Lk) (T : Tab) (s : Nat) (v : V) : Bool :=
  match v with
  | .acc q g => lookN L s == some q && (T.get q).gen == g && (match (T.get q).k with | .nrow _ _ _ _ => true | _ => false)
  | .own q g off n => lookN L s == some q && (T.get q).gen == g && off == 0 && (match (T.get q).k with | .row _ sz _ cs => n * sz == cs.length && decide (0 < n) && decide (0 < sz) | _ => false)
  | .snil | .sz => (lookN L s).isNone
  | _ => false
def ptrOk (L : Lk) (T : Tab) (s off : Nat) (v : V) : Bool :=
  match v with
  | .ptr q g off' => lookN L s == some q && (T.get q).gen == g && off == off' && (match (T.get q).k with | .box _ _ | .iter _ _ => true | _ => false)
  | _ => false
def arrOk (L : Lk) (T : Tab) (s sz : Nat) (v : V) : Bool :=
  match v with
  | .eptr q g sz' 0 0 => lookN L s == some q && (T.get q).gen == g && sz == sz' && (match (T.get q).k with | .nrow _ _ _ _ => true | _ => false)
  | _ => false
def mpOk (L : Lk) (T : Tab) (s : Nat) (v : V) : Bool :=
  match v with
  | .mp q g => lookN L s == some q && (T.get q).gen == g && (match (T.get q).k with | .mp _ => true | _ => false)
  | _ => false
def capsOk (L : Lk) (T : Tab) : List Nat → List V → Bool
  | [], [] => true
  | s :: ss, v :: vs => ptrOk L T s 0 v && capsOk L T ss vs
  | _, _ => false
def decS (L : Lk) (T : Tab) (v : V) : SS → Option (List TX)
  | .val t => match impV t v with
    | some x => some [⟨t, x⟩]
    | none => none
  | .ptr s off => if ptrOk L T s off v = true then some [] else none
  | .acc s => if accOk L T s v = true then some [] else none
  | .arr s sz => if arrOk L T s sz v = true then some [] else none
  | .mp s => if mpOk L T s v = true then some [] else none
  | .fn f ss => match v with
    | .fn f' caps => if f = f' ∧ capsOk L T ss caps = true then some [] else none
    | _ => none
def decC (L : Lk) (T : Tab) : CS → List V → Option (List TX × List V)
  | .val t, cs => match impC t cs with
    | some (x, r) => some ([⟨t, x⟩], r)
    | none => none
  | .acc s, cs => match cs with
    | v :: r => if accOk L T s v = true then some ([], r) else none
    | [] => none
  | .pair a b, cs => match decC L T a cs with
    | some (l1, r1) => match decC L T b r1 with
      | some (l2, r2) => some (l1 ++ l2, r2)
      | none => none
    | none => none
def castM {e e' : Ty} (h : e = e') (l : List (Int × e.I)) : (Ty.list (.pair (.int .i64) e')).I := h ▸ l
def decO (L : Lk) (T : Tab) (s : Nat) : OS → Option (List TX)
  | .box ty c => match lookN L s with
    | some q => match (T.get q).k with
      | .box ty' cs => if ty = ty' then (match decC L T c cs with
        | some (l, []) => some l
        | _ => none) else none
      | _ => none
    | none => none
  | .nrow ty e fz nl => match lookN L s with
    | some q => match (T.get q).k with
      | .nrow ty' fz' nl' M => if ty = ty' ∧ nl = nl' ∧ (!fz' || fz) = true then (if h : M.e = e then some [⟨.list e, castL h M.l⟩] else none) else none
      | .row ty' sz fz' cs => if ty = ty' ∧ sz = e.size ∧ (!fz' || fz) = true ∧ cs.length ≠ 0 then (match impN (impC e) (cs.length / sz) cs with
        | some (l, []) => some [⟨.list e, l⟩]
        | _ => none) else none
      | _ => none
    | none => if nl = true then some [⟨.list e, []⟩] else none
  | .iter => match lookN L s with
    | some q => match (T.get q).k with
      | .iter l pos => some [⟨.str, l⟩, ⟨.int .i64, (pos : Int)⟩]
      | _ => none
    | none => none
  | .mp e => match lookN L s with
    | some q => match (T.get q).k with
      | .mp M => if h : M.e = e then some [⟨.list (.pair (.int .i64) e), castM h M.l⟩] else none
      | _ => none
    | none => none
def decSL (L : Lk) (st : St) : List (Nat × SS) → Option (List TX)
  | [] => some []
  | e :: r => match decS L st.o (st.get e.1) e.2, decSL L st r with
    | some l, some l' => some (l ++ l')
    | _, _ => none
def decOL (L : Lk) (T : Tab) : List (Nat × OS) → Option (List TX)
  | [] => some []
  | e :: r => match decO L T e.1 e.2, decOL L T r with
    | some l, some l' => some (l ++ l')
    | _, _ => none
def patOk (st : St) (p : Pat) : Bool := decide (p.ob.map (·.1)).Nodup && st.g.isEmpty && lkOk st.o (linksOf st p) && (linksOf st p).all (fun a => (p.ob.map (·.1)).contains a.1)
def dec1 (st : St) (p : Pat) : Option (List TX) :=
  if patOk st p = true then
    match decSL (linksOf st p) st p.sl, decOL (linksOf st p) st.o p.ob with
    | some l, some l' => some (l ++ l')
    | _, _ => none
  else none

def encS : SS → List TX → V × List TX
  | .val _, l => match l with
    | X :: r => (valW X.e X.x, r)
    | [] => (.undef, [])
  | .ptr s off, l => (.ptr s (gen0 s) off, l)
  | .acc s, l => (.acc s (gen0 s), l)
  | .arr s sz, l => (.eptr s (gen0 s) sz 0 0, l)
  | .mp s, l => (.mp s (gen0 s), l)
  | .fn f ss, l => (.fn f (ss.map fun s => .ptr s (gen0 s) 0), l)
def encC : CS → List TX → List V × List TX
  | .val _, l => match l with
    | X :: r => (cellsW X.e X.x, r)
    | [] => ([], [])
  | .acc s, l => ([.acc s (gen0 s)], l)
  | .pair a b, l => ((encC a l).1 ++ (encC b (encC a l).2).1, (encC b (encC a l).2).2)
def tlOf (e : Ty) (X : TX) : TL := match X with
  | ⟨.list e', l⟩ => ⟨e', l⟩
  | _ => ⟨e, []⟩
def tmOf (e : Ty) (X : TX) : TM := match X with
  | ⟨.list (.pair (.int _) e'), l⟩ => ⟨e', l⟩
  | _ => ⟨e, []⟩
def posOf (X : TX) : Nat := match X with
  | ⟨.int _, n⟩ => Int.toNat n
  | _ => 0
def strOf (X : TX) : List UInt8 := match X with
  | ⟨.str, l⟩ => l
  | _ => []
def encO : OS → List TX → OK × List TX
  | .box ty c, l => (.box ty (encC c l).1, (encC c l).2)
  | .nrow ty e fz nl, l => match l with
    | X :: r => (.nrow ty fz nl (tlOf e X), r)
    | [] => (.dead, [])
  | .iter, l => match l with
    | X :: Y :: r => (.iter (strOf X) (posOf Y), r)
    | _ => (.dead, [])
  | .mp e, l => match l with
    | X :: r => (.mp (tmOf e X), r)
    | [] => (.dead, [])
def encSL : List (Nat × SS) → List TX → List (Nat × V) × List TX
  | [], l => ([], l)
  | e :: r, l => ((e.1, (encS e.2 l).1) :: (encSL r (encS e.2 l).2).1, (encSL r (encS e.2 l).2).2)
def encOL : List (Nat × OS) → List TX → Tab
  | [], _ => []
  | e :: r, l => (e.1, ⟨gen0 e.1, (encO e.2 l).1⟩) :: encOL r (encO e.2 l).2
def patS1 (base : St) (p : Pat) (l : List TX) : St := ⟨base.n, (encSL p.sl l).1 ++ base.t, encOL p.ob (encSL p.sl l).2, []⟩
def SS.tys : SS → List Ty
  | .val t => [t]
  | _ => []
def CS.tys : CS → List Ty
  | .val t => [t]
  | .acc _ => []
  | .pair a b => a.tys ++ b.tys
def OS.tys : OS → List Ty
  | .box _ c => c.tys
  | .nrow _ e _ _ => [.list e]
  | .iter => [.str, .int .i64]
  | .mp e => [.list (.pair (.int .i64) e)]
def Pat.ts (p : Pat) : List Ty := p.sl.flatMap (fun e => e.2.tys) ++ p.ob.flatMap (fun e => e.2.tys)
abbrev Pat.I (p : Pat) : Type := tsI p.ts
def decP0 (st : St) (p : Pat) : Option p.I := match dec1 st p with
  | some l => packTs p.ts l
  | none => none
def patS (base : St) (p : Pat) (x : p.I) : St := patS1 base p (unpackTs p.ts x)

mutual
def V.still : V → Bool
  | .undef | .own _ _ _ _ | .ptr _ _ _ | .acc _ _ | .eptr _ _ _ _ _ | .nwin _ _ _ _ | .mp _ _ => false
  | .agg cs => stillL cs
  | .tup cs => stillL cs
  | .ifc _ v => v.still
  | .fn _ cs => stillL cs
  | _ => true
def stillL : List V → Bool
  | [] => true
  | v :: r => v.still && stillL r
end
mutual
theorem V.still_pure : ∀ v : V, v.still = true → v.pure = true
  | .agg cs, h => by simp only [V.still] at h; simp only [V.pure]; exact stillL_pure cs h
  | .tup cs, h => by simp only [V.still] at h; simp only [V.pure]; exact stillL_pure cs h
  | .ifc _ v, h => by simp only [V.still] at h; simp only [V.pure]; exact V.still_pure v h
  | .fn _ cs, h => by simp only [V.still] at h; simp only [V.pure]; exact stillL_pure cs h
  | .undef, h | .own _ _ _ _, h | .ptr _ _ _, h | .acc _ _, h | .eptr _ _ _ _ _, h | .nwin _ _ _ _, h | .mp _ _, h => by simp [V.still] at h
  | .bool _, _ | .int _ _, _ | .str _, _ | .snil, _ | .sl _ _, _ | .cref _, _ | .pnil, _ | .inil, _ | .fnil, _ | .lst _, _ | .eref _ _, _ | .bs _, _ | .sz, _ | .nl _, _ | .si _, _ => rfl
theorem stillL_pure : ∀ l : List V, stillL l = true → pureL l = true
  | [], _ => rfl
  | v :: r, h => by
    simp only [stillL, Bool.and_eq_true] at h
    simp only [pureL, Bool.and_eq_true]
    exact ⟨V.still_pure v h.1, stillL_pure r h.2⟩
end

theorem lookN_mem : ∀ {L : Lk} {s q : Nat}, lookN L s = some q → (s, q) ∈ L
  | [], s, q, h => by cases h
  | (k, v) :: r, s, q, h => by
    simp only [lookN] at h
    split at h
    · rename_i e; injection h with h; subst e h; simp
    · exact List.mem_cons_of_mem _ (lookN_mem h)
theorem lkOk_fun {T : Tab} {L : Lk} (h : lkOk T L = true) {s q s' q' : Nat} (h1 : (s, q) ∈ L) (h2 : (s', q') ∈ L) : s = s' ↔ q = q' := by
  simp only [lkOk, Bool.and_eq_true] at h
  have := List.all_eq_true.1 (List.all_eq_true.1 h.1 _ h1) _ h2
  simp only [beq_iff_eq] at this
  by_cases e1 : s = s' <;> by_cases e2 : q = q' <;> simp_all
theorem lkOk_pin {T : Tab} {L : Lk} (h : lkOk T L = true) {s q : Nat} (h1 : (s, q) ∈ L) (h2 : 1000000 ≤ s ∨ 1000000 ≤ q) : s = q ∧ (T.get q).gen = 0 := by
  simp only [lkOk, Bool.and_eq_true] at h
  have := List.all_eq_true.1 h.2 _ h1
  simp only [h2, if_true, Bool.and_eq_true, beq_iff_eq] at this
  exact this

/-- The world of a form: where its objects stand (M: which of the state's). -/
structure Fm (κ : Cx) (ι : Nat → Nat) (T : Tab) (w : World) (L : Lk) (T' : Tab) (ι' : Nat → Nat) (S' : Addr → Prop) : Prop where
  st : ∀ p, Stable κ.D T ι w p → S' p
  io : ∀ s q, lookN L s = some q → ι' s = ι q
  ge : ∀ s q, lookN L s = some q → (T'.get s).gen = gen0 s

section
variable {κ : Cx} {ι : Nat → Nat} {st : St} {a : Act} {w : World}

/-- What is asked of the form's row s: it is the state's. -/
def RowAt (T T' : Tab) (L : Lk) (s : Nat) : Prop :=
  match lookN L s with
  | some q => (∀ ty fz nl M, (T.get q).k = .nrow ty fz nl M → ∃ ty' fz', (T'.get s).k = .nrow ty' fz' nl M) ∧
      (∀ ty sz fz cs, (T.get q).k = .row ty sz fz cs → ∃ ty' fz' nl M, (T'.get s).k = .nrow ty' fz' nl M ∧ M.e.size = sz ∧ M.l.length = cs.length / sz)
  | none => ∃ ty' fz' M, (T'.get s) = ⟨gen0 s, .nrow ty' fz' true M⟩ ∧ M.l = []
theorem accOk_rv {L : Lk} {T' : Tab} {ι' : Nat → Nat} {S' : Addr → Prop} (F : Fm κ ι st.o w L T' ι' S') {s : Nat} {v : V} {u : Value} (h : accOk L st.o s v = true) (hrow : RowAt st.o T' L s)
    (hv : Rv st.o ι (Stable κ.D st.o ι w) w v u) : Rv T' ι' S' w (.acc s (gen0 s)) u := by
  unfold accOk at h
  split at h
  · rename_i q g
    simp only [Bool.and_eq_true, beq_iff_eq] at h
    obtain ⟨⟨h1, h2⟩, h3⟩ := h
    unfold RowAt at hrow
    rw [h1] at hrow
    split at h3
    · rename_i ty fz nl M hk
      obtain ⟨ty', fz', e⟩ := hrow.1 _ _ _ _ hk
      have hT : st.o.get q = ⟨g, .nrow ty fz nl M⟩ := by cases hq : st.o.get q; rw [hq] at hk h2; simp at hk h2; subst hk h2; rfl
      have hT' : T'.get s = ⟨gen0 s, .nrow ty' fz' nl M⟩ := by have := F.ge s q h1; cases hq : T'.get s; rw [hq] at e this; simp at e this; subst e this; rfl
      refine .acc hv.acc_form (by rw [hT']; exact Nat.le_refl _) fun ty2 fz2 nl2 L2 e2 => ?_
      rw [hT'] at e2
      simp at e2
      obtain ⟨rfl, rfl, rfl, rfl⟩ := e2
      rw [F.io s q h1]
      exact hv.acc_ hT
    · cases h3
  · rename_i q g off n
    simp only [Bool.and_eq_true, beq_iff_eq] at h
    obtain ⟨⟨⟨h1, h2⟩, h0⟩, h3⟩ := h
    subst h0
    unfold RowAt at hrow
    rw [h1] at hrow
    split at h3
    · rename_i ty sz fz cs hk
      simp only [Bool.and_eq_true, beq_iff_eq, decide_eq_true_eq] at h3
      obtain ⟨⟨h4, h5⟩, h6⟩ := h3
      obtain ⟨ty', fz', nl, M, e, e1, e2⟩ := hrow.2 _ _ _ _ hk
      have hT : st.o.get q = ⟨g, .row ty sz fz cs⟩ := by cases hq : st.o.get q; rw [hq] at hk h2; simp at hk h2; subst hk h2; rfl
      have hT' : T'.get s = ⟨gen0 s, .nrow ty' fz' nl M⟩ := by have := F.ge s q h1; cases hq : T'.get s; rw [hq] at e this; simp at e this; subst e this; rfl
      have hlen : M.l.length = n := by rw [e2, ← h4, Nat.mul_div_cancel _ h6]
      obtain ⟨ad, c, cap', arr', ty1, fz2, rfl, o1, o2, o3, o4, o5, o6⟩ := hv.own_ hT
      refine .acc ⟨_, _, _, rfl⟩ (by rw [hT']; exact Nat.le_refl _) fun ty2 fz3 nl2 L2 e3 => ?_
      rw [hT'] at e3
      simp at e3
      obtain ⟨rfl, rfl, rfl, rfl⟩ := e3
      refine .inr ⟨fun e => by rw [e.2] at hlen; simp at hlen; omega, ad, c, cap', arr', ty1, fz2, by rw [hlen], ?_, ?_, by rw [e1]; exact o3, by rw [hlen]; exact o4, o5, by rw [F.io s q h1, e1]; exact o6⟩
      · rw [F.io s q h1]; exact o1
      · rw [F.io s q h1]; exact o2
    · cases h3
  · have hn : lookN L s = none := by simpa using h
    unfold RowAt at hrow
    rw [hn] at hrow
    obtain ⟨ty', fz', M, e, e1⟩ := hrow
    have := hv.snil_; subst this
    refine .acc ⟨_, _, _, rfl⟩ (by rw [e]; exact Nat.le_refl _) fun ty2 fz2 nl2 L2 e2 => ?_
    rw [e] at e2
    simp at e2
    obtain ⟨rfl, rfl, rfl, rfl⟩ := e2
    exact .inl ⟨rfl, e1, none, rfl⟩
  · have hn : lookN L s = none := by simpa using h
    unfold RowAt at hrow
    rw [hn] at hrow
    obtain ⟨ty', fz', M, e, e1⟩ := hrow
    obtain ⟨p, rfl⟩ := hv.sz_
    refine .acc ⟨_, _, _, rfl⟩ (by rw [e]; exact Nat.le_refl _) fun ty2 fz2 nl2 L2 e2 => ?_
    rw [e] at e2
    simp at e2
    obtain ⟨rfl, rfl, rfl, rfl⟩ := e2
    exact .inl ⟨rfl, e1, p, rfl⟩
  · cases h
theorem ptrOk_rv {L : Lk} {T' : Tab} {ι' : Nat → Nat} {S' : Addr → Prop} (F : Fm κ ι st.o w L T' ι' S') {s off : Nat} {v : V} {u : Value} (h : ptrOk L st.o s off v = true)
    (hv : Rv st.o ι (Stable κ.D st.o ι w) w v u) : Rv T' ι' S' w (.ptr s (gen0 s) off) u := by
  unfold ptrOk at h
  split at h
  · rename_i q g off'
    simp only [Bool.and_eq_true, beq_iff_eq] at h
    obtain ⟨⟨⟨h1, h2⟩, h0⟩, h3⟩ := h
    subst h0
    have hl : st.o.live q := by
      split at h3
      · rename_i hk; simp [Tab.live, hk, OK.live]
      · rename_i hk; simp [Tab.live, hk, OK.live]
      · cases h3
    have := hv.ptr_ h2 hl
    subst this
    refine .ptr ⟨_, rfl⟩ (by rw [F.ge s q h1]; exact Nat.le_refl _) fun _ _ => by rw [F.io s q h1]
  · cases h
theorem arrOk_rv {L : Lk} {T' : Tab} {ι' : Nat → Nat} {S' : Addr → Prop} (F : Fm κ ι st.o w L T' ι' S') {s sz : Nat} {v : V} {u : Value} (h : arrOk L st.o s sz v = true) (hrow : RowAt st.o T' L s)
    (hv : Rv st.o ι (Stable κ.D st.o ι w) w v u) : Rv T' ι' S' w (.eptr s (gen0 s) sz 0 0) u := by
  unfold arrOk at h
  split at h
  · rename_i q g sz'
    simp only [Bool.and_eq_true, beq_iff_eq] at h
    obtain ⟨⟨⟨h1, h2⟩, h0⟩, h3⟩ := h
    subst h0
    split at h3
    · rename_i ty fz nl M hk
      have hT : st.o.get q = ⟨g, .nrow ty fz nl M⟩ := by cases hTs : st.o.get q; rw [hTs] at hk h2; simp at hk h2; subst hk h2; rfl
      obtain ⟨e1, e2, e3⟩ := hv.eptr_ hT
      unfold RowAt at hrow
      rw [h1] at hrow
      obtain ⟨ty', fz', e4⟩ := hrow.1 ty fz nl M hk
      refine .eptr ⟨_, e3⟩ (by rw [F.ge s q h1]; exact Nat.le_refl _) fun ty2 fz2 nl2 L2 e5 => ?_
      rw [e5] at e4
      simp at e4
      obtain ⟨_, _, _, rfl⟩ := e4
      exact ⟨e1, e2, by rw [e3, F.io s q h1]⟩
    · cases h3
  · cases h
theorem mpOk_rv {L : Lk} {T' : Tab} {ι' : Nat → Nat} {S' : Addr → Prop} (F : Fm κ ι st.o w L T' ι' S') {s : Nat} {v : V} {u : Value} (h : mpOk L st.o s v = true)
    (hv : Rv st.o ι (Stable κ.D st.o ι w) w v u) : Rv T' ι' S' w (.mp s (gen0 s)) u := by
  unfold mpOk at h
  split at h
  · rename_i q g
    simp only [Bool.and_eq_true, beq_iff_eq] at h
    obtain ⟨⟨h1, h2⟩, h3⟩ := h
    have hl : st.o.live q := by
      split at h3
      · rename_i hk; simp [Tab.live, hk, OK.live]
      · cases h3
    have := hv.mp_ h2 hl
    subst this
    refine .mp ⟨_, rfl⟩ (by rw [F.ge s q h1]; exact Nat.le_refl _) fun _ _ => by rw [F.io s q h1]
  · cases h
theorem capsOk_rv {L : Lk} {T' : Tab} {ι' : Nat → Nat} {S' : Addr → Prop} (F : Fm κ ι st.o w L T' ι' S') : ∀ (ss : List Nat) (vs : List V) (us : List Value), capsOk L st.o ss vs = true →
    LR (Rv st.o ι (Stable κ.D st.o ι w) w) vs us → LR (Rv T' ι' S' w) (ss.map fun s => .ptr s (gen0 s) 0) us
  | [], [], us, _, h => by
    have : us = [] := List.eq_nil_of_length_eq_zero (by simpa using h.1.symm)
    subst this; exact .nil
  | s :: ss, v :: vs, us, hc, h => by
    simp only [capsOk, Bool.and_eq_true] at hc
    obtain ⟨u, us', rfl, hu, hr⟩ := h.head
    exact .cons (ptrOk_rv F hc.1 hu) (capsOk_rv F ss vs us' hc.2 hr)
  | [], _ :: _, us, hc, _ => by cases hc
  | _ :: _, [], us, hc, _ => by cases hc
def SS.rows : SS → List Nat
  | .acc s => [s]
  | .arr s _ => [s]
  | _ => []
def CS.rows : CS → List Nat
  | .val _ => []
  | .acc s => [s]
  | .pair a b => a.rows ++ b.rows
theorem decS_rv {L : Lk} {T' : Tab} {ι' : Nat → Nat} {S' : Addr → Prop} (F : Fm κ ι st.o w L T' ι' S') {v : V} {u : Value} (hv : Rv st.o ι (Stable κ.D st.o ι w) w v u) :
    ∀ (k : SS) (l r : List TX), decS L st.o v k = some l → (∀ s ∈ k.rows, RowAt st.o T' L s) → Rv T' ι' S' w (encS k (l ++ r)).1 u ∧ (encS k (l ++ r)).2 = r
  | .val t, l, r, h, _ => by
    simp only [decS] at h
    split at h
    · rename_i x hx
      injection h with h; subst h
      exact ⟨.pure ((impV_rv hx hv).mono fun p hp => ⟨F.st p hp, rfl⟩), rfl⟩
    · cases h
  | .ptr s off, l, r, h, _ => by
    simp only [decS] at h
    split at h
    · rename_i hc
      injection h with h; subst h
      exact ⟨ptrOk_rv F hc hv, rfl⟩
    · cases h
  | .acc s, l, r, h, hrow => by
    simp only [decS] at h
    split at h
    · rename_i hc
      injection h with h; subst h
      exact ⟨accOk_rv F hc (hrow s (by simp [SS.rows])) hv, rfl⟩
    · cases h
  | .arr s sz, l, r, h, hrow => by
    simp only [decS] at h
    split at h
    · rename_i hc
      injection h with h; subst h
      exact ⟨arrOk_rv F hc (hrow s (by simp [SS.rows])) hv, rfl⟩
    · cases h
  | .mp s, l, r, h, _ => by
    simp only [decS] at h
    split at h
    · rename_i hc
      injection h with h; subst h
      exact ⟨mpOk_rv F hc hv, rfl⟩
    · cases h
  | .fn f ss, l, r, h, _ => by
    simp only [decS] at h
    split at h
    · rename_i f' caps
      split at h
      · rename_i hc
        obtain ⟨rfl, hc⟩ := hc
        injection h with h; subst h
        obtain ⟨us, rfl, hl, hh⟩ := hv.fn_
        have := capsOk_rv F ss caps us hc ⟨hl, hh⟩
        exact ⟨.fn this.1 this.2, rfl⟩
      · cases h
    · cases h
theorem decC_rv {L : Lk} {T' : Tab} {ι' : Nat → Nat} {S' : Addr → Prop} (F : Fm κ ι st.o w L T' ι' S') :
    ∀ (k : CS) (cs cr : List V) (l r : List TX) (us : List Value), decC L st.o k cs = some (l, cr) → (∀ s ∈ k.rows, RowAt st.o T' L s) → LR (Rv st.o ι (Stable κ.D st.o ι w) w) cs us →
      LR (Rv T' ι' S' w) (encC k (l ++ r)).1 (us.take (encC k (l ++ r)).1.length) ∧ LR (Rv st.o ι (Stable κ.D st.o ι w) w) cr (us.drop (encC k (l ++ r)).1.length) ∧ (encC k (l ++ r)).2 = r
  | .val t, cs, cr, l, r, us, h, _, hr => by
    simp only [decC] at h
    split at h
    · rename_i x r1 hx
      injection h with h; injection h with h1 h2; subst h1 h2
      have := impC_rv t cs r1 x us hx hr
      have e1 : (encC (.val t) ([⟨t, x⟩] ++ r)).1 = cellsW t x := rfl
      rw [e1]
      have hl : (cellsW t x).length = (cellsV t x).length := by rw [cellsW_length, cellsV_length]
      have ha := this.take (cellsV t x).length
      have hb := this.drop (cellsV t x).length
      rw [List.take_left] at ha
      rw [List.drop_left] at hb
      rw [hl]
      have hp : LR (Rp (Stable κ.D st.o ι w) w) (cellsV t x) (us.take (cellsV t x).length) := lr_pure (fun d hd => pure_cellsV t x d hd) ha
      exact ⟨(cellsW_rp t x _ hp).mono fun d u hd => .pure (hd.mono fun p hp => ⟨F.st p hp, rfl⟩), hb, rfl⟩
    · cases h
  | .acc s, cs, cr, l, r, us, h, hrow, hr => by
    simp only [decC] at h
    split at h
    · rename_i v r1
      split at h
      · rename_i hc
        injection h with h; injection h with h1 h2; subst h1 h2
        obtain ⟨u, us', rfl, hu, hr'⟩ := hr.head
        exact ⟨.cons (accOk_rv F hc (hrow s (by simp [CS.rows])) hu) .nil, hr', rfl⟩
      · cases h
    · cases h
  | .pair a b, cs, cr, l, r, us, h, hrow, hr => by
    simp only [decC] at h
    split at h
    · rename_i l1 r1 h1
      split at h
      · rename_i l2 r2 h2
        injection h with h; injection h with e1 e2; subst e1 e2
        obtain ⟨a1, a2, a3⟩ := decC_rv F a cs r1 l1 (l2 ++ r) us h1 (fun s hs => hrow s (by simp [CS.rows, hs])) hr
        obtain ⟨b1, b2, b3⟩ := decC_rv F b r1 r2 l2 r _ h2 (fun s hs => hrow s (by simp [CS.rows, hs])) a2
        have e : (encC (.pair a b) (l1 ++ l2 ++ r)) = ((encC a (l1 ++ (l2 ++ r))).1 ++ (encC b (l2 ++ r)).1, (encC b (l2 ++ r)).2) := by
          simp only [encC, List.append_assoc]
          rw [a3]
        rw [e]
        simp only [List.length_append]
        refine ⟨?_, ?_, b3⟩
        · rw [List.take_add]
          exact a1.append b1
        · rw [← List.drop_drop]; exact b2
      · cases h
    · cases h
end
end Go.Abs
