/- The form of a state: which slots, which rows; a state brought to a form. -/
import Derived.Test.YtelhmjkiajbobabSymB
namespace Go.Abs
open Go.RowKit
set_option linter.unusedVariables false
set_option linter.unusedSimpArgs false

inductive Sk where
  | val (t : Ty)
  | acc (s ty : Nat) (e : Ty)
  | box (s ty : Nat) (t : Ty)
  | iter (s : Nat)
def Sk.I : Sk → Type
  | .val t => t.I
  | .acc _ _ e => List e.I
  | .box _ _ t => t.I
  | .iter _ => List UInt8 × Nat
abbrev Pat := List (Nat × Sk)
def skI : Pat → Type
  | [] => Unit
  | [p] => p.2.I
  | p :: q :: r => p.2.I × skI (q :: r)

def isAggT : Ty → Bool
  | .agg _ => true
  | _ => false
def isAggV : V → Bool
  | .agg _ => true
  | _ => false
def isOneT : Ty → Bool
  | .int _ | .bool | .str | .list _ => true
  | _ => false
/-- A value read as one of a type. -/
def impV (t : Ty) (v : V) : Option t.I :=
  if (isAggT t && isAggV v) || (isOneT t && !isAggV v) then
    match impC t v.cells with
    | some (x, []) => some x
    | _ => none
  else none

def Sk.dec (st : St) (v : V) : (k : Sk) → Option k.I
  | .val t => impV t v
  | .acc _ ty e => match v with
    | .acc q g => if (st.o.get q).gen = g then (match (st.o.get q).k with
      | .nrow ty' _ true L => if ty' = ty then (if h : L.e = e then some (castL h L.l) else none) else none
      | _ => none) else none
    | .own q g 0 n => if (st.o.get q).gen = g then (match (st.o.get q).k with
      | .row ty' sz _ cs => if ty' = ty ∧ sz = e.size ∧ 0 < n then (match impN (impC e) n cs with
        | some (l, []) => some l
        | _ => none) else none
      | _ => none) else none
    | .snil => some []
    | .sz => some []
    | _ => none
  | .box _ ty t => match v with
    | .ptr q g 0 => if (st.o.get q).gen = g then (match (st.o.get q).k with
      | .box ty' cs => if ty' = ty then (match impC t cs with
        | some (x, []) => some x
        | _ => none) else none
      | _ => none) else none
    | _ => none
  | .iter _ => match v with
    | .ptr q g 0 => if (st.o.get q).gen = g then (match (st.o.get q).k with
      | .iter l p => some (l, p)
      | _ => none) else none
    | _ => none
/-- Where a slot's object stands, and where it is to stand. -/
def Sk.src (v : V) : Sk → List (Nat × Nat)
  | .val _ => []
  | .acc s _ _ => match v with
    | .acc q _ => [(s, q)]
    | .own q _ _ _ => [(s, q)]
    | _ => []
  | .box s _ _ => match v with
    | .ptr q _ _ => [(s, q)]
    | _ => []
  | .iter s => match v with
    | .ptr q _ _ => [(s, q)]
    | _ => []
def Sk.site : Sk → List Nat
  | .val _ => []
  | .acc s _ _ | .box s _ _ | .iter s => [s]
def Sk.slot : (k : Sk) → k.I → V
  | .val t, x => valW t x
  | .acc s _ _, _ => .acc s 1
  | .box s _ _, _ => .ptr s 1 0
  | .iter s, _ => .ptr s 1 0
def Sk.obj : (k : Sk) → k.I → List (Nat × Ob)
  | .val _, _ => []
  | .acc s ty e, x => [(s, ⟨1, .nrow ty true true ⟨e, x⟩⟩)]
  | .box s ty t, x => [(s, ⟨1, .box ty (cellsW t x)⟩)]
  | .iter s, x => [(s, ⟨1, .iter x.1 x.2⟩)]

def decSl (st : St) : (l : Pat) → Option (skI l)
  | [] => some ()
  | [p] => p.2.dec st (st.get p.1)
  | p :: q :: r => match p.2.dec st (st.get p.1), decSl st (q :: r) with
    | some x, some y => some (x, y)
    | _, _ => none
def slotsOf : (l : Pat) → skI l → List (Nat × V)
  | [], _ => []
  | [p], x => [(p.1, p.2.slot x)]
  | p :: q :: r, x => (p.1, p.2.slot x.1) :: slotsOf (q :: r) x.2
def objsOf : (l : Pat) → skI l → List (Nat × Ob)
  | [], _ => []
  | [p], x => p.2.obj x
  | p :: q :: r, x => p.2.obj x.1 ++ objsOf (q :: r) x.2
def srcsOf (st : St) (l : Pat) : List (Nat × Nat) := l.flatMap fun p => p.2.src (st.get p.1)
def sitesOf (l : Pat) : List Nat := l.flatMap fun p => p.2.site
/-- What must hold of a state and a form, that can be seen from their text. -/
def patOk (st : St) (l : Pat) : Bool :=
  decide ((srcsOf st l).map (·.2)).Nodup && decide (sitesOf l).Nodup && (sitesOf l).all (fun s => decide (s < 1000000)) && st.g.isEmpty
def decP (st : St) (l : Pat) : Option (skI l) := if patOk st l = true then decSl st l else none
def patS (base : St) (l : Pat) (x : skI l) : St := ⟨base.n, slotsOf l x ++ base.t, objsOf l x, []⟩

mutual
def V.still : V → Bool
  | .undef | .own _ _ _ _ | .ptr _ _ _ | .acc _ _ | .eptr _ _ _ _ _ => false
  | .agg cs => stillL cs
  | .tup cs => stillL cs
  | .ifc _ v => v.still
  | .fn _ cs => stillL cs
  | _ => true
def stillL : List V → Bool
  | [] => true
  | v :: r => v.still && stillL r
end
mutual
theorem V.still_pure : ∀ v : V, v.still = true → v.pure = true
  | .agg cs, h => by simp only [V.still] at h; simp only [V.pure]; exact stillL_pure cs h
  | .tup cs, h => by simp only [V.still] at h; simp only [V.pure]; exact stillL_pure cs h
  | .ifc _ v, h => by simp only [V.still] at h; simp only [V.pure]; exact V.still_pure v h
  | .fn _ cs, h => by simp only [V.still] at h; simp only [V.pure]; exact stillL_pure cs h
  | .undef, h | .own _ _ _ _, h | .ptr _ _ _, h | .acc _ _, h | .eptr _ _ _ _ _, h => by simp [V.still] at h
  | .bool _, _ | .int _ _, _ | .str _, _ | .snil, _ | .sl _ _, _ | .cref _, _ | .pnil, _ | .inil, _ | .fnil, _ | .lst _, _ | .eref _ _, _ | .bs _, _ | .sz, _ => rfl
theorem stillL_pure : ∀ l : List V, stillL l = true → pureL l = true
  | [], _ => rfl
  | v :: r, h => by
    simp only [stillL, Bool.and_eq_true] at h
    simp only [pureL, Bool.and_eq_true]
    exact ⟨V.still_pure v h.1, stillL_pure r h.2⟩
end

/-- What is read stands as it was. -/
theorem impV_rv {T : Tab} {ι : Nat → Nat} {S : Addr → Prop} {w : World} {t : Ty} {x : t.I} {v : V} {u : Value} (hx : impV t v = some x) (hv : Rv T ι S w v u) : Rp S w (valW t x) u := by
  have hx' := hx
  unfold impV at hx
  split at hx
  · rename_i hc
    split at hx
    · rename_i y hy
      injection hx with hx; subst hx
      have key : ∀ us, LR (Rv T ι S w) v.cells us → LR (Rp S w) (cellsV t y) us := fun us h => by
        have := impC_rv t v.cells [] y us hy h
        rw [List.append_nil] at this
        exact lr_pure (fun d hd => pure_cellsV t y d hd) this
      cases t with
      | agg t' =>
        cases v with
        | agg cs =>
          obtain ⟨vs, rfl, hl, hh⟩ := hv.agg_
          have h2 := cellsW_rp (.agg t') _ _ (key _ ⟨hl, hh⟩)
          exact .agg h2.1 h2.2
        | _ => simp [isAggT, isAggV, isOneT] at hc
      | unit => simp [isAggT, isOneT] at hc
      | pair a b => simp [isAggT, isOneT] at hc
      | int k =>
        have hcell : v.cells = [v] := by cases v <;> first | rfl | simp [isAggT, isAggV] at hc
        rw [hcell] at key
        exact (key [u] (.cons hv .nil)).2 0 _ u rfl rfl
      | bool =>
        have hcell : v.cells = [v] := by cases v <;> first | rfl | simp [isAggT, isAggV] at hc
        rw [hcell] at key
        exact .bs ((key [u] (.cons hv .nil)).2 0 _ u rfl rfl)
      | str =>
        have hcell : v.cells = [v] := by cases v <;> first | rfl | simp [isAggT, isAggV] at hc
        rw [hcell] at key
        exact (key [u] (.cons hv .nil)).2 0 _ u rfl rfl
      | list e =>
        have hcell : v.cells = [v] := by cases v <;> first | rfl | simp [isAggT, isAggV] at hc
        rw [hcell] at key
        exact .lst ((key [u] (.cons hv .nil)).2 0 _ u rfl rfl)
    · cases hx
  · cases hx

/-- What is known of a state in its form: S: the cells that stay; m: where its objects stand. -/
structure Obk (T : Tab) (ι : Nat → Nat) (S : Addr → Prop) (w : World) (u : Nat) (b : Nat) (k : OK) : Prop where
  live : k.live → T.live u ∧ b = ι u
  ob : ∀ (T' : Tab) (ι' : Nat → Nat) (S' : Addr → Prop), (∀ p, S p → S' p) → ObRel T' ι' S' w b k
  fz : ∀ o, k.live → (T.get u).k.fzAt o → k.fzAt o

section
variable {κ : Cx} {ι : Nat → Nat} {st : St} {a : Act} {w : World}

/-- One entry of a form. -/
theorem Sk.dec_ok (h : RelI κ ι st a w) {v : V} {cv : Value} (hv : Rv st.o ι (Stable κ.D st.o ι w) w v cv) : ∀ (k : Sk) (x : k.I), k.dec st v = some x →
    (∀ (T' : Tab) (ι' : Nat → Nat) (S' : Addr → Prop), (∀ p, Stable κ.D st.o ι w p → S' p) → (∀ q ob, (q, ob) ∈ k.obj x → T'.get q = ob) → (∀ q u, (q, u) ∈ k.src v → ι' q = ι u) → Rv T' ι' S' w (k.slot x) cv) ∧
    (∀ q ob, (q, ob) ∈ k.obj x → q ∈ k.site ∧ ob.gen = 1 ∧ ∀ b, (∀ u, (q, u) ∈ k.src v → b = ι u) → ∃ u, ((q, u) ∈ k.src v ∨ ¬ ob.k.live) ∧ Obk st.o ι (Stable κ.D st.o ι w) w u b ob.k)
  | .val t, x, hx => ⟨fun T' ι' S' hS _ _ => .pure ((impV_rv hx hv).mono fun p hp => ⟨hS p hp, rfl⟩), fun q ob hq => by simp [Sk.obj] at hq⟩
  | .acc s ty e, x, hx => by
    simp only [Sk.dec] at hx
    split at hx
    · rename_i q g
      split at hx
      · rename_i hg
        split at hx
        · rename_i ty' fz L hk
          split at hx
          · rename_i hty
            subst hty
            split at hx
            · rename_i he
              obtain ⟨e', l⟩ := L
              simp only at he
              subst he
              injection hx with hx
              replace hx : l = x := hx
              subst hx
              have hT : st.o.get q = ⟨g, .nrow ty' fz true ⟨e', l⟩⟩ := by cases hTs : st.o.get q; rw [hTs] at hk hg; simp at hk hg; subst hk hg; rfl
              refine ⟨fun T' ι' S' hS hobj hsrc => ?_, fun q' ob hq => ?_⟩
              · have hT' := hobj s _ (by simp [Sk.obj]; rfl)
                have hι' := hsrc s q (by simp [Sk.src])
                refine .acc hv.acc_form (by rw [hT']; exact Nat.le_refl _) fun ty2 fz2 nl2 L2 e2 => ?_
                rw [hT'] at e2
                simp at e2
                obtain ⟨rfl, rfl, rfl, rfl⟩ := e2
                rw [hι']
                exact hv.acc_ hT
              · simp only [Sk.obj, List.mem_singleton, Prod.mk.injEq] at hq
                obtain ⟨rfl, rfl⟩ := hq
                refine ⟨by simp [Sk.site], rfl, fun b hb => ⟨q, .inl (by simp [Sk.src]), ?_⟩⟩
                have hbq := hb q (by simp [Sk.src])
                subst hbq
                refine ⟨fun hl => ⟨by simpa [Tab.live, hT, OK.live] using hl, rfl⟩, fun T' ι' S' hS => ?_, fun o hl ho => ?_⟩
                · have hob := h.tr.ob q
                  rw [hT] at hob
                  rcases hob with hb | ⟨arr, fz1, cap, b1, b2, b3, b4, b5, b6⟩
                  · exact .inl hb
                  · exact .inr ⟨arr, fz1, cap, b1, b2, b3, b4, b5, fun i d u hd hu => .pure (((b6 i d u hd hu).pure_ (TL.pure_cells hd)).mono fun p hp => ⟨hS p hp, rfl⟩)⟩
                · rw [hT] at ho
                  cases fz with
                  | false => simp [OK.fzAt] at ho
                  | true => exact ho
            · cases hx
          · cases hx
        · cases hx
      · cases hx
    · rename_i q g n
      split at hx
      · rename_i hg
        split at hx
        · rename_i ty' sz fz cs hk
          split at hx
          · rename_i hc
            obtain ⟨rfl, rfl, hn⟩ := hc
            split at hx
            · rename_i l hl
              injection hx with hx; subst hx
              have hT : st.o.get q = ⟨g, .row ty' e.size fz cs⟩ := by cases hTs : st.o.get q; rw [hTs] at hk hg; simp at hk hg; subst hk hg; rfl
              have hlv : st.o.live q := by simp [Tab.live, hT, OK.live]
              have hob := h.tr.ob q
              rw [hT] at hob
              obtain ⟨arr, fz1, cap, b1, b2, b3, b4, b5, b6⟩ := hob
              have hlr : LR (Rv st.o ι (Stable κ.D st.o ι w) w) cs (arr.toList.take cs.length) := ⟨by simp; omega, fun i d u hd hu => by
                rw [List.getElem?_take] at hu
                split at hu
                · exact b6 i d u hd hu
                · cases hu⟩
              obtain ⟨h5, h6⟩ := impN_rv (impC_rv e) n cs [] l _ hl hlr
              rw [List.append_nil] at h6
              have hlen : cs.length = (⟨e, l⟩ : TL).cells.length := by
                have := h6.1
                rw [← hlr.1] at this
                exact this.symm
              have hne : l ≠ [] := by rintro rfl; simp at h5; omega
              refine ⟨fun T' ι' S' hS hobj hsrc => ?_, fun q' ob hq => ?_⟩
              · have hT' := hobj s _ (by simp [Sk.obj]; rfl)
                have hι' := hsrc s q (by simp [Sk.src])
                obtain ⟨ad, c, cap', arr', ty1, fz2, rfl, o1, o2, o3, o4, o5, o6⟩ := hv.own_ hT
                refine .acc ⟨_, _, _, rfl⟩ (by rw [hT']; exact Nat.le_refl _) fun ty2 fz3 nl2 L2 e2 => ?_
                rw [hT'] at e2
                simp at e2
                obtain ⟨rfl, rfl, rfl, rfl⟩ := e2
                refine .inr ⟨fun e => hne e.2, ad, c, cap', arr', ty1, fz2, by rw [h5], ?_, ?_, o3, by rw [h5]; exact o4, o5, by rw [hι']; exact o6⟩
                · rw [hι']; exact o1
                · rw [hι']; exact o2
              · simp only [Sk.obj, List.mem_singleton, Prod.mk.injEq] at hq
                obtain ⟨rfl, rfl⟩ := hq
                refine ⟨by simp [Sk.site], rfl, fun b hb => ⟨q, .inl (by simp [Sk.src]), ?_⟩⟩
                have hbq := hb q (by simp [Sk.src])
                subst hbq
                refine ⟨fun hl => ⟨hlv, rfl⟩, fun T' ι' S' hS => ?_, fun o hl' ho => ?_⟩
                · refine .inr ⟨arr, fz1, cap, b1, b2, b3, b4, by rw [← hlen]; exact b5, fun i d u hd hu => ?_⟩
                  have hi : i < cs.length := by rw [hlen]; exact (List.getElem?_eq_some_iff.1 hd).1
                  have := h6.2 i d u hd (by rw [List.getElem?_take, if_pos hi]; exact hu)
                  exact .pure ((this.pure_ (TL.pure_cells hd)).mono fun p hp => ⟨hS p hp, rfl⟩)
                · rw [hT] at ho
                  cases fz with
                  | false => simp [OK.fzAt] at ho
                  | true =>
                    have ho' : o < cs.length := ho
                    show o < l.length * e.size
                    have := TL.cells_length ⟨e, l⟩
                    simp only at this
                    omega
            · cases hx
          · cases hx
        · cases hx
      · cases hx
    · injection hx with hx; subst hx
      have := hv.snil_; subst this
      refine ⟨fun T' ι' S' hS hobj hsrc => ?_, fun q' ob hq => ?_⟩
      · have hT' := hobj s _ (by simp [Sk.obj]; rfl)
        refine .acc ⟨_, _, _, rfl⟩ (by rw [hT']; exact Nat.le_refl _) fun ty2 fz2 nl2 L2 e2 => ?_
        rw [hT'] at e2
        simp at e2
        obtain ⟨rfl, rfl, rfl, rfl⟩ := e2
        exact .inl ⟨rfl, rfl, none, rfl⟩
      · simp only [Sk.obj, List.mem_singleton, Prod.mk.injEq] at hq
        obtain ⟨rfl, rfl⟩ := hq
        exact ⟨by simp [Sk.site], rfl, fun b hb => ⟨0, .inr (by simp [OK.live]), fun hl => absurd ⟨rfl, rfl⟩ hl, fun T' ι' S' hS => .inl ⟨rfl, rfl⟩, fun o hl => absurd ⟨rfl, rfl⟩ hl⟩⟩
    · injection hx with hx; subst hx
      obtain ⟨p, rfl⟩ := hv.sz_
      refine ⟨fun T' ι' S' hS hobj hsrc => ?_, fun q' ob hq => ?_⟩
      · have hT' := hobj s _ (by simp [Sk.obj]; rfl)
        refine .acc ⟨_, _, _, rfl⟩ (by rw [hT']; exact Nat.le_refl _) fun ty2 fz2 nl2 L2 e2 => ?_
        rw [hT'] at e2
        simp at e2
        obtain ⟨rfl, rfl, rfl, rfl⟩ := e2
        exact .inl ⟨rfl, rfl, p, rfl⟩
      · simp only [Sk.obj, List.mem_singleton, Prod.mk.injEq] at hq
        obtain ⟨rfl, rfl⟩ := hq
        exact ⟨by simp [Sk.site], rfl, fun b hb => ⟨0, .inr (by simp [OK.live]), fun hl => absurd ⟨rfl, rfl⟩ hl, fun T' ι' S' hS => .inl ⟨rfl, rfl⟩, fun o hl => absurd ⟨rfl, rfl⟩ hl⟩⟩
    · cases hx
  | .box s ty t, x, hx => by
    simp only [Sk.dec] at hx
    split at hx
    · rename_i q g
      split at hx
      · rename_i hg
        split at hx
        · rename_i ty' cs hk
          split at hx
          · rename_i hty
            subst hty
            split at hx
            · rename_i y hy
              injection hx with hx; subst hx
              have hlv : st.o.live q := by simp [Tab.live, hk, OK.live]
              have hob := h.tr.ob q
              rw [hk] at hob
              obtain ⟨arr, fz, b1, b2, b3, b4⟩ := hob
              have h1 := impC_rv t cs [] y arr.toList hy ⟨by simpa using b3.symm, b4⟩
              rw [List.append_nil] at h1
              have h2 := cellsW_rp t y _ (lr_pure (fun d hd => pure_cellsV t y d hd) h1)
              refine ⟨fun T' ι' S' hS hobj hsrc => ?_, fun q' ob hq => ?_⟩
              · have hT' := hobj s _ (by simp [Sk.obj]; rfl)
                have hι' := hsrc s q (by simp [Sk.src])
                have := hv.ptr_ hg hlv
                subst this
                refine .ptr ⟨_, rfl⟩ (by rw [hT']; exact Nat.le_refl _) fun _ _ => by rw [hι']
              · simp only [Sk.obj, List.mem_singleton, Prod.mk.injEq] at hq
                obtain ⟨rfl, rfl⟩ := hq
                refine ⟨by simp [Sk.site], rfl, fun b hb => ⟨q, .inl (by simp [Sk.src]), ?_⟩⟩
                have hbq := hb q (by simp [Sk.src])
                subst hbq
                refine ⟨fun _ => ⟨hlv, rfl⟩, fun T' ι' S' hS => ⟨arr, fz, b1, b2, by rw [h2.1]; simp, fun i d u hd hu => .pure ((h2.2 i d u hd hu).mono fun p hp => ⟨hS p hp, rfl⟩)⟩, fun o _ ho => ?_⟩
                rw [hk] at ho
                exact ho.elim
            · cases hx
          · cases hx
        · cases hx
      · cases hx
    · cases hx
  | .iter s, x, hx => by
    simp only [Sk.dec] at hx
    split at hx
    · rename_i q g
      split at hx
      · rename_i hg
        split at hx
        · rename_i l p hk
          injection hx with hx; subst hx
          have hlv : st.o.live q := by simp [Tab.live, hk, OK.live]
          have hob := h.tr.ob q
          rw [hk] at hob
          refine ⟨fun T' ι' S' hS hobj hsrc => ?_, fun q' ob hq => ?_⟩
          · have hT' := hobj s _ (by simp [Sk.obj]; rfl)
            have hι' := hsrc s q (by simp [Sk.src])
            have := hv.ptr_ hg hlv
            subst this
            refine .ptr ⟨_, rfl⟩ (by rw [hT']; exact Nat.le_refl _) fun _ _ => by rw [hι']
          · simp only [Sk.obj, List.mem_singleton, Prod.mk.injEq] at hq
            obtain ⟨rfl, rfl⟩ := hq
            refine ⟨by simp [Sk.site], rfl, fun b hb => ⟨q, .inl (by simp [Sk.src]), ?_⟩⟩
            have hbq := hb q (by simp [Sk.src])
            subst hbq
            refine ⟨fun _ => ⟨hlv, rfl⟩, fun T' ι' S' hS => hob, fun o _ ho => ?_⟩
            rw [hk] at ho
            exact ho.elim
        · cases hx
      · cases hx
    · cases hx

theorem mem_srcsOf {l : Pat} {q u : Nat} : (q, u) ∈ srcsOf st l ↔ ∃ p ∈ l, (q, u) ∈ p.2.src (st.get p.1) := by
  simp [srcsOf, List.mem_flatMap]

theorem Sk.src_site {k : Sk} {v : V} {q u : Nat} (h : (q, u) ∈ k.src v) : q ∈ k.site := by
  cases k with
  | val t => simp [Sk.src] at h
  | acc s ty e =>
    simp only [Sk.src] at h
    split at h <;> simp at h <;> simp [Sk.site, h]
  | box s ty t =>
    simp only [Sk.src] at h
    split at h <;> simp at h <;> simp [Sk.site, h]
  | iter s =>
    simp only [Sk.src] at h
    split at h <;> simp at h <;> simp [Sk.site, h]

/-- The whole of a form. -/
theorem decSl_ok (h : RelI κ ι st a w) : ∀ (l : Pat) (x : skI l), decSl st l = some x →
    (∀ (T' : Tab) (ι' : Nat → Nat) (S' : Addr → Prop), (∀ p, Stable κ.D st.o ι w p → S' p) → (∀ q ob, (q, ob) ∈ objsOf l x → T'.get q = ob) → (∀ q u, (q, u) ∈ srcsOf st l → ι' q = ι u) →
      ∀ t v, (t, v) ∈ slotsOf l x → Rv T' ι' S' w v (a.tmps.getD t undef)) ∧
    (∀ q ob, (q, ob) ∈ objsOf l x → ob.gen = 1 ∧ ∃ p ∈ l, q ∈ p.2.site ∧ ∀ b, (∀ u, (q, u) ∈ srcsOf st l → b = ι u) →
      ∃ u, ((q, u) ∈ srcsOf st l ∨ ¬ ob.k.live) ∧ Obk st.o ι (Stable κ.D st.o ι w) w u b ob.k)
  | [], x, hx => ⟨fun _ _ _ _ _ _ t v ht => by simp [slotsOf] at ht, fun q ob hq => by simp [objsOf] at hq⟩
  | [p], x, hx => by
    have hx' : p.2.dec st (st.get p.1) = some x := hx
    obtain ⟨h1, h2⟩ := Sk.dec_ok h (h.tm p.1) p.2 x hx'
    have hs : ∀ q u, (q, u) ∈ p.2.src (st.get p.1) → (q, u) ∈ srcsOf st [p] := fun q u hq => mem_srcsOf.2 ⟨p, by simp, hq⟩
    refine ⟨fun T' ι' S' hS hobj hsrc t v ht => ?_, fun q ob hq => ?_⟩
    · simp only [slotsOf, List.mem_singleton, Prod.mk.injEq] at ht
      obtain ⟨rfl, rfl⟩ := ht
      exact h1 T' ι' S' hS hobj fun q u hq => hsrc q u (hs q u hq)
    · obtain ⟨a1, a2, a3⟩ := h2 q ob hq
      refine ⟨a2, p, by simp, a1, fun b hb => ?_⟩
      obtain ⟨u, hu, ho⟩ := a3 b fun u hu => hb u (hs q u hu)
      exact ⟨u, hu.imp_left (hs q u), ho⟩
  | p :: q :: r, x, hx => by
    simp only [decSl] at hx
    split at hx
    · rename_i x1 x2 e1 e2
      injection hx with hx; subst hx
      obtain ⟨h1, h2⟩ := Sk.dec_ok h (h.tm p.1) p.2 x1 e1
      obtain ⟨h3, h4⟩ := decSl_ok h (q :: r) x2 e2
      have hs : ∀ q' u, (q', u) ∈ p.2.src (st.get p.1) → (q', u) ∈ srcsOf st (p :: q :: r) := fun q' u hq => mem_srcsOf.2 ⟨p, by simp, hq⟩
      have hs2 : ∀ q' u, (q', u) ∈ srcsOf st (q :: r) → (q', u) ∈ srcsOf st (p :: q :: r) := fun q' u hq => by
        obtain ⟨p', hp', hq'⟩ := mem_srcsOf.1 hq
        exact mem_srcsOf.2 ⟨p', List.mem_cons_of_mem _ hp', hq'⟩
      refine ⟨fun T' ι' S' hS hobj hsrc t v ht => ?_, fun q' ob hq => ?_⟩
      · simp only [slotsOf, List.mem_cons, Prod.mk.injEq] at ht
        rcases ht with ⟨rfl, rfl⟩ | ht
        · exact h1 T' ι' S' hS (fun q' ob hq => hobj q' ob (List.mem_append_left _ hq)) fun q' u hq => hsrc q' u (hs q' u hq)
        · exact h3 T' ι' S' hS (fun q' ob hq => hobj q' ob (List.mem_append_right _ hq)) (fun q' u hq => hsrc q' u (hs2 q' u hq)) t v ht
      · simp only [objsOf] at hq
        rcases List.mem_append.1 hq with hq | hq
        · obtain ⟨a1, a2, a3⟩ := h2 q' ob hq
          refine ⟨a2, p, by simp, a1, fun b hb => ?_⟩
          obtain ⟨u, hu, ho⟩ := a3 b fun u hu => hb u (hs q' u hu)
          exact ⟨u, hu.imp_left (hs q' u), ho⟩
        · obtain ⟨a2, p', hp', a1, a3⟩ := h4 q' ob hq
          refine ⟨a2, p', List.mem_cons_of_mem _ hp', a1, fun b hb => ?_⟩
          obtain ⟨u, hu, ho⟩ := a3 b fun u hu => hb u (hs2 q' u hu)
          exact ⟨u, hu.imp_left (hs2 q' u), ho⟩
    · cases hx

theorem objsOf_keys : ∀ (l : Pat) (x : skI l), (objsOf l x).map (·.1) = sitesOf l
  | [], x => rfl
  | [p], x => by
    obtain ⟨t, k⟩ := p
    cases k <;> simp [objsOf, Sk.obj, sitesOf, Sk.site]
  | p :: q :: r, x => by
    have := objsOf_keys (q :: r) x.2
    obtain ⟨t, k⟩ := p
    cases k <;> simp [objsOf, Sk.obj, sitesOf, Sk.site] at this ⊢ <;> exact this

theorem aget_mem {α : Type} {d v : α} : ∀ {l : List (Nat × α)} {q : Nat}, (l.map (·.1)).Nodup → (q, v) ∈ l → aget d l q = v
  | [], q, _, h => by simp at h
  | (k, x) :: r, q, hn, h => by
    simp only [List.map_cons, List.nodup_cons] at hn
    simp only [aget]
    rcases List.mem_cons.1 h with h | h
    · injection h with e1 e2; subst e1 e2; simp
    · rw [if_neg, aget_mem hn.2 h]
      rintro rfl
      exact hn.1 (List.mem_map.2 ⟨_, h, rfl⟩)
theorem aget_cases {α : Type} {d : α} : ∀ (l : List (Nat × α)) (q : Nat), aget d l q = d ∨ ∃ v, (q, v) ∈ l ∧ aget d l q = v
  | [], q => .inl rfl
  | (k, x) :: r, q => by
    simp only [aget]
    by_cases h : k = q
    · subst h; simp
    · rw [if_neg h]
      rcases aget_cases r q with h1 | ⟨v, h1, h2⟩
      · exact .inl h1
      · exact .inr ⟨v, by simp [h1], h2⟩

/-- A STATE BROUGHT TO A FORM. What of it stays as it is: base. -/
theorem canon {base : St} {l : Pat} {x : skI l} (hgv : κ.gv = []) (hn : base.n = st.n) (hb : ∀ t, base.get t = .undef ∨ (base.get t = st.get t ∧ (base.get t).still = true)) (hx : decP st l = some x) (hr : Rel κ st a w) : Rel κ (patS base l x) a w := by
  obtain ⟨ι, h⟩ := hr
  unfold decP at hx
  split at hx
  case isFalse => cases hx
  rename_i hok
  simp only [patOk, Bool.and_eq_true, decide_eq_true_eq] at hok
  obtain ⟨⟨⟨hnd, hns⟩, hlt⟩, hg0⟩ := hok
  obtain ⟨h1, h2⟩ := decSl_ok h l x hx
  -- where the objects stand
  let ι' : Nat → Nat := fun q => ι (aget 0 (srcsOf st l) q)
  have hsn : ((srcsOf st l).map (·.1)).Nodup := by
    -- each entry has one source at most, under its own site
    have sub : ∀ (l : Pat), ((srcsOf st l).map (·.1)).Sublist (sitesOf l) := by
      intro l
      induction l with
      | nil => exact List.Sublist.refl _
      | cons p r ih =>
        simp only [srcsOf, sitesOf, List.flatMap_cons, List.map_append] at ih ⊢
        refine List.Sublist.append ?_ ih
        obtain ⟨t, k⟩ := p
        cases k with
        | val t => simp [Sk.src, Sk.site]
        | acc s ty e => simp only [Sk.src, Sk.site]; split <;> simp
        | box s ty t => simp only [Sk.src, Sk.site]; split <;> simp
        | iter s => simp only [Sk.src, Sk.site]; split <;> simp
    exact (sub l).nodup hns
  have hsrc : ∀ q u, (q, u) ∈ srcsOf st l → ι' q = ι u := fun q u hq => by
    show ι (aget 0 (srcsOf st l) q) = ι u
    rw [aget_mem hsn hq]
  have hobjn : ((objsOf l x).map (·.1)).Nodup := by rw [objsOf_keys]; exact hns
  have hobj : ∀ q ob, (q, ob) ∈ objsOf l x → (patS base l x).o.get q = ob := fun q ob hq => aget_mem hobjn hq
  have hget : ∀ q, (patS base l x).o.get q = ⟨0, .dead⟩ ∨ (q, (patS base l x).o.get q) ∈ objsOf l x := fun q => by
    rcases aget_cases (d := (⟨0, .dead⟩ : Ob)) (objsOf l x) q with e | ⟨v, e1, e2⟩
    · exact .inl e
    · right
      have : (patS base l x).o.get q = v := e2
      rw [this]; exact e1
  -- what is known of each object that is there
  have hobk : ∀ q, (patS base l x).o.get q = ⟨0, .dead⟩ ∨ ((∃ p ∈ l, q ∈ p.2.site) ∧ ∃ u, ((q, u) ∈ srcsOf st l ∨ ¬ ((patS base l x).o.get q).k.live) ∧ Obk st.o ι (Stable κ.D st.o ι w) w u (ι' q) ((patS base l x).o.get q).k) := fun q => by
    rcases hget q with e | e
    · exact .inl e
    · obtain ⟨a1, p, hp, a2, a3⟩ := h2 q _ e
      exact .inr ⟨⟨p, hp, a2⟩, a3 (ι' q) fun u hu => hsrc q u hu⟩
  have hdead : ∀ q, (patS base l x).o.get q = ⟨0, .dead⟩ → ¬ (patS base l x).o.live q := fun q e => by simp [Tab.live, e, OK.live]
  have hlive : ∀ q, (patS base l x).o.live q → ∃ u, (q, u) ∈ srcsOf st l ∧ st.o.live u ∧ ι' q = ι u ∧ Obk st.o ι (Stable κ.D st.o ι w) w u (ι' q) ((patS base l x).o.get q).k := fun q hq => by
    rcases hobk q with e | ⟨_, u, hu, ho⟩
    · exact absurd hq (hdead q e)
    · rcases hu with hu | hu
      · obtain ⟨b1, b2⟩ := ho.live hq
        exact ⟨u, hu, b1, b2, ho⟩
      · exact absurd hq hu
  have hS : ∀ p, Stable κ.D st.o ι w p → Stable κ.D (patS base l x).o ι' w p := fun p hp => by
    refine ⟨hp.1, hp.2.1, fun q hq e => ?_⟩
    obtain ⟨u, _, hu, hι, ho⟩ := hlive q hq
    exact ho.fz _ hq (hp.2.2 u hu (by rw [← hι]; exact e))
  refine ⟨ι', h.dfr, h.sz.trans hn.symm, fun t => ?_, ⟨fun q => ?_, fun q q' hq hq' e => ?_, fun q hq => ?_⟩, fun q hq => ?_, h.kept, fun q b hp _ hq => ?_, ?_⟩
  · -- slots
    show Rv _ ι' _ w (aget .undef (slotsOf l x ++ base.t) t) _
    have key : ∀ (m : List (Nat × V)), (∀ t v, (t, v) ∈ m → Rv (patS base l x).o ι' (Stable κ.D (patS base l x).o ι' w) w v (a.tmps.getD t undef)) →
        Rv (patS base l x).o ι' (Stable κ.D (patS base l x).o ι' w) w (aget .undef (m ++ base.t) t) (a.tmps.getD t undef) := by
      intro m
      induction m with
      | nil =>
        intro _
        have e0 : aget V.undef ([] ++ base.t) t = base.get t := rfl
        rw [e0]
        rcases hb t with e | ⟨e, hs⟩
        · rw [e]; exact .undef _
        · have := h.tm t
          rw [← e] at this
          exact .pure ((this.pure_ (V.still_pure _ hs)).mono fun p hp => ⟨hS p hp, rfl⟩)
      | cons p r ih =>
        intro hm
        obtain ⟨k, v⟩ := p
        simp only [List.cons_append, aget]
        split
        · rename_i e; subst e; exact hm k v (by simp)
        · exact ih fun t v hv => hm t v (by simp [hv])
    exact key _ fun t v hv => h1 _ ι' _ hS hobj hsrc t v hv
  · rcases hobk q with e | ⟨_, u, _, ho⟩
    · rw [e]; trivial
    · exact ho.ob _ _ _ hS
  · obtain ⟨u, hu, lu, eu, _⟩ := hlive q hq
    obtain ⟨u', hu', lu', eu', _⟩ := hlive q' hq'
    have huu : u = u' := h.tr.inj u u' lu lu' (by rw [← eu, ← eu', e])
    subst huu
    -- one source, one site
    have : ∀ (m : List (Nat × Nat)), (m.map (·.2)).Nodup → (q, u) ∈ m → (q', u) ∈ m → q = q' := by
      intro m
      induction m with
      | nil => intro _ h; simp at h
      | cons p r ih =>
        intro hn ha hb
        obtain ⟨k, v⟩ := p
        simp only [List.map_cons, List.nodup_cons] at hn
        rcases List.mem_cons.1 ha with h5 | h5 <;> rcases List.mem_cons.1 hb with h6 | h6
        · injection h5 with a1 a2; injection h6 with b1 b2; rw [a1, b1]
        · injection h5 with a1 a2; exact (hn.1 (List.mem_map.2 ⟨(q', u), h6, a2⟩)).elim
        · injection h6 with b1 b2; exact (hn.1 (List.mem_map.2 ⟨(q, u), h5, b2⟩)).elim
        · exact ih hn.2 h5 h6
    exact this _ hnd hu hu'
  · obtain ⟨u, _, lu, eu, _⟩ := hlive q hq
    rw [eu]; exact h.tr.lt u lu
  · obtain ⟨u, _, lu, eu, _⟩ := hlive q hq
    rw [eu]; exact h.my u lu
  · exfalso
    rcases hobk q with e | ⟨⟨p, hp1, hp2⟩, _⟩
    · exact hdead q e hq
    · have h3 := List.all_eq_true.1 hlt q (List.mem_flatMap.2 ⟨p, hp1, hp2⟩)
      simp only [decide_eq_true_eq] at h3
      have := κ.hpin q b hp
      omega
  · rw [hgv]; exact .nil
end
end Go.Abs
