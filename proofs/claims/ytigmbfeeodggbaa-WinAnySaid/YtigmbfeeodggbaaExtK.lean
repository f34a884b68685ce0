/- Contracts of functions, in Lean's own values. -/
import Derived.Test.YtigmbfeeodggbaaExtE
namespace Go.Abs
open Go.RowKit
set_option linter.unusedVariables false
set_option linter.unusedSimpArgs false

/-- How an argument is handed in: a value, a pointer to a box that is lent, a row that is lent, a function with boxes. -/
inductive AS where
  | val (t : Ty)
  | ptr (j off : Nat)
  | acc (j : Nat)
  | fn (f : Nat) (js : List Nat)
/-- What is lent. -/
inductive BS where
  | box (ty : Nat) (t : Ty)
  | abox (ty : Nat) (j : Nat)
  | nrow (ty : Nat) (e : Ty) (nl : Bool)
def AS.tys : AS → List Ty
  | .val t => [t]
  | _ => []
def BS.tys : BS → List Ty
  | .box _ t => [t]
  | .abox _ _ => []
  | .nrow _ e _ => [.list e]
def inTs (as : List AS) (bs : List BS) : List Ty := as.flatMap AS.tys ++ bs.flatMap BS.tys
def capV : List Nat → List V
  | [] => []
  | j :: r => .ptr (1000000 + j) 0 0 :: capV r
def encA : AS → List TX → V × List TX
  | .val _, l => match l with
    | X :: r => (valW X.e X.x, r)
    | [] => (.undef, [])
  | .ptr j off, l => (.ptr (1000000 + j) 0 off, l)
  | .acc j, l => (.acc (1000000 + j) 0, l)
  | .fn f js, l => (.fn f (capV js), l)
def encB : BS → List TX → OK × List TX
  | .box ty _, l => match l with
    | X :: r => (.box ty (cellsW X.e X.x), r)
    | [] => (.dead, [])
  | .abox ty j, l => (.box ty [.acc (1000000 + j) 0], l)
  | .nrow ty e nl, l => match l with
    | X :: r => (.nrow ty false nl (tlOf e X), r)
    | [] => (.dead, [])
def encAL : List AS → List TX → List V × List TX
  | [], l => ([], l)
  | k :: r, l => ((encA k l).1 :: (encAL r (encA k l).2).1, (encAL r (encA k l).2).2)
def encBL : List BS → List TX → List OK
  | [], _ => []
  | k :: r, l => (encB k l).1 :: encBL r (encB k l).2
def argsOf (as : List AS) (bs : List BS) (x : tsI (inTs as bs)) : List V := (encAL as (unpackTs (inTs as bs) x)).1
def lbOf (as : List AS) (bs : List BS) (x : tsI (inTs as bs)) : List OK := encBL bs (encAL as (unpackTs (inTs as bs) x)).2

def capsEq : List Nat → List V → Bool
  | [], [] => true
  | j :: js, .ptr q 0 0 :: vs => q == 1000000 + j && capsEq js vs
  | _, _ => false
def decA (v : V) : AS → Option (List TX)
  | .val t => match impV t v with
    | some x => some [⟨t, x⟩]
    | none => none
  | .ptr j off => match v with
    | .ptr q g off' => if q = 1000000 + j ∧ g = 0 ∧ off' = off then some [] else none
    | _ => none
  | .acc j => match v with
    | .acc q g => if q = 1000000 + j ∧ g = 0 then some [] else none
    | _ => none
  | .fn f js => match v with
    | .fn f' vs => if f' = f ∧ capsEq js vs = true then some [] else none
    | _ => none
def decB (k : OK) : BS → Option (List TX)
  | .box ty t => match k with
    | .box ty' cs => if ty' = ty then (match impC t cs with
      | some (x, []) => some [⟨t, x⟩]
      | _ => none) else none
    | _ => none
  | .abox ty j => match k with
    | .box ty' [.acc q 0] => if ty' = ty ∧ q = 1000000 + j then some [] else none
    | _ => none
  | .nrow ty e nl => match k with
    | .nrow ty' false nl' M => if ty' = ty ∧ nl' = nl then (if h : M.e = e then some [⟨.list e, castL h M.l⟩] else none) else none
    | _ => none
def decAL : List AS → List V → Option (List TX)
  | [], [] => some []
  | k :: r, v :: vs => match decA v k, decAL r vs with
    | some l, some l' => some (l ++ l')
    | _, _ => none
  | _, _ => none
def decBL : List BS → List OK → Option (List TX)
  | [], [] => some []
  | k :: r, b :: bs => match decB b k, decBL r bs with
    | some l, some l' => some (l ++ l')
    | _, _ => none
  | _, _ => none
def decIn (as : List AS) (bs : List BS) (xs : List V) (lb : List OK) : Option (tsI (inTs as bs)) :=
  match decAL as xs, decBL bs lb with
  | some l, some l' => packTs (inTs as bs) (l ++ l')
  | _, _ => none

theorem Rv.retab {T T' : Tab} {ι : Nat → Nat} {S : Addr → Prop} {w : World} {d : V} {u : Value} (hg : ∀ t, (T'.get t).gen = (T.get t).gen) (hl : ∀ t, T'.live t → T.live t)
    (hn : ∀ t ty fz nl M, (T'.get t).k = .nrow ty fz nl M → (T.get t).k = .nrow ty fz nl M) (hr : ∀ t ty sz fz cs, (T'.get t).k ≠ .row ty sz fz cs) (h : Rv T ι S w d u) : Rv T' ι S w d u := by
  have key : ∀ t g ty fz nl M, T'.get t = ⟨g, .nrow ty fz nl M⟩ → T.get t = ⟨g, .nrow ty fz nl M⟩ := fun t g ty fz nl M e => by
    have e1 := hn t ty fz nl M (by rw [e])
    have e2 := hg t
    rw [e] at e2
    cases hq : T.get t; rw [hq] at e1 e2; simp at e1 e2; subst e1 e2; rfl
  induction h with
  | pure h => exact .pure h
  | undef v => exact .undef v
  | own hv hg' h => exact .own hv (by rw [hg]; exact hg') fun ty sz fz cs e => absurd (by rw [e]) (hr _ ty sz fz cs)
  | ptr hv hg' h => exact .ptr hv (by rw [hg]; exact hg') fun h1 h2 => h (by rw [← hg]; exact h1) (hl _ h2)
  | acc hv hg' h => exact .acc hv (by rw [hg]; exact hg') fun ty fz nl L e => h ty fz nl L (key _ _ _ _ _ _ e)
  | eptr hv hg' h => exact .eptr hv (by rw [hg]; exact hg') fun ty fz nl L e => h ty fz nl L (key _ _ _ _ _ _ e)
  | nwin hv hg' h => exact .nwin hv (by rw [hg]; exact hg') fun ty fz nl L e => h ty fz nl L (key _ _ _ _ _ _ e)
  | agg hl' h ih => exact .agg hl' ih
  | tup hl' h ih => exact .tup hl' ih
  | ifc h ih => exact .ifc ih
  | fn hl' h ih => exact .fn hl' ih
/-- A table that says no more of rows. -/
def RtB (T T' : Tab) : Prop := (∀ t, (T'.get t).gen = (T.get t).gen) ∧ (∀ t, T'.live t → T.live t) ∧ (∀ t ty fz nl M, (T'.get t).k = .nrow ty fz nl M → (T.get t).k = .nrow ty fz nl M) ∧ ∀ t ty sz fz cs, (T'.get t).k ≠ .row ty sz fz cs
section
variable {T : Tab} {ι : Nat → Nat} {S : Addr → Prop} {w : World}
theorem capsEq_ok : ∀ (js : List Nat) (vs : List V), capsEq js vs = true → vs = capV js := by
  intro js
  induction js with
  | nil =>
    intro vs h
    cases vs with
    | nil => rfl
    | cons v vs => simp [capsEq] at h
  | cons j js ih =>
    intro vs h
    cases vs with
    | nil => simp [capsEq] at h
    | cons v vs =>
      unfold capsEq at h
      split at h
      · rename_i e _; cases e
      · rename_i e1 e2
        injection e1 with e1 e3
        injection e2 with e2 e4
        subst e1 e3 e2 e4
        simp only [Bool.and_eq_true, beq_iff_eq] at h
        rw [h.1, ih _ h.2]; rfl
      · cases h
theorem decA_ok {v : V} {u : Value} (hv : Rv T ι S w v u) : ∀ (k : AS) (l r : List TX), decA v k = some l → Rv T ι S w (encA k (l ++ r)).1 u ∧ (encA k (l ++ r)).2 = r
  | .val t, l, r, h => by
    simp only [decA] at h
    split at h
    · rename_i x hx
      injection h with h; subst h
      exact ⟨.pure (impV_rv hx hv), rfl⟩
    · cases h
  | .ptr j off, l, r, h => by
    simp only [decA] at h
    split at h
    · split at h
      · rename_i hc
        obtain ⟨rfl, rfl, rfl⟩ := hc
        injection h with h; subst h
        exact ⟨hv, rfl⟩
      · cases h
    · cases h
  | .acc j, l, r, h => by
    simp only [decA] at h
    split at h
    · split at h
      · rename_i hc
        obtain ⟨rfl, rfl⟩ := hc
        injection h with h; subst h
        exact ⟨hv, rfl⟩
      · cases h
    · cases h
  | .fn f js, l, r, h => by
    simp only [decA] at h
    split at h
    · split at h
      · rename_i hc
        obtain ⟨rfl, hc⟩ := hc
        injection h with h; subst h
        rw [capsEq_ok _ _ hc] at hv
        exact ⟨hv, rfl⟩
      · cases h
    · cases h
theorem decAL_ok : ∀ (as : List AS) (vs : List V) (us : List Value) (l r : List TX), decAL as vs = some l → LR (Rv T ι S w) vs us → LR (Rv T ι S w) (encAL as (l ++ r)).1 us ∧ (encAL as (l ++ r)).2 = r
  | [], [], us, l, r, h, hr => by
    simp only [decAL] at h
    injection h with h; subst h
    exact ⟨hr, rfl⟩
  | k :: as, v :: vs, us, l, r, h, hr => by
    simp only [decAL] at h
    split at h
    · rename_i l1 l2 h1 h2
      injection h with h; subst h
      obtain ⟨u, us', rfl, hu, hr'⟩ := hr.head
      obtain ⟨a1, a2⟩ := decA_ok hu k l1 (l2 ++ r) h1
      obtain ⟨b1, b2⟩ := decAL_ok as vs us' l2 r h2 hr'
      simp only [encAL, List.append_assoc]
      rw [a2]
      exact ⟨.cons a1 b1, b2⟩
    · cases h
  | [], _ :: _, us, l, r, h, _ => by simp [decAL] at h
  | _ :: _, [], us, l, r, h, _ => by simp [decAL] at h
theorem decB_rest {k : OK} : ∀ (b : BS) (l r : List TX), decB k b = some l → (encB b (l ++ r)).2 = r
  | .box ty t, l, r, h => by
    simp only [decB] at h
    split at h
    · split at h
      · split at h
        · injection h with h; subst h; rfl
        · cases h
      · cases h
    · cases h
  | .abox ty j, l, r, h => by
    simp only [decB] at h
    split at h
    · split at h
      · injection h with h; subst h; rfl
      · cases h
    · cases h
  | .nrow ty e nl, l, r, h => by
    simp only [decB] at h
    split at h
    · split at h
      · split at h
        · injection h with h; subst h; rfl
        · cases h
      · cases h
    · cases h
theorem decB_ok {k : OK} : ∀ (b : BS) (l r : List TX), decB k b = some l → ((encB b (l ++ r)).1.live ↔ k.live) ∧ (∀ o, (encB b (l ++ r)).1.fzAt o ↔ k.fzAt o) ∧ (∀ ty fz nl M, (encB b (l ++ r)).1 = .nrow ty fz nl M → k = .nrow ty fz nl M) ∧ (∀ ty sz fz cs, (encB b (l ++ r)).1 ≠ .row ty sz fz cs) ∧
    ∀ (T' : Tab) (n : Nat), RtB T T' → ObRel T ι S w n k → ObRel T' ι S w n (encB b (l ++ r)).1
  | .box ty t, l, r, h => by
    simp only [decB] at h
    split at h
    · rename_i ty' cs
      split at h
      · rename_i hty
        subst hty
        split at h
        · rename_i x hx
          injection h with h; subst h
          refine ⟨Iff.rfl, fun o => Iff.rfl, fun _ _ _ _ e => (by cases e), fun _ _ _ _ e => (by cases e), fun T' n hrt hob => ?_⟩
          obtain ⟨arr, fz, b1, b2, b3, b4⟩ := hob
          have h1 := impC_rv t cs [] x arr.toList hx ⟨by simpa using b3.symm, b4⟩
          rw [List.append_nil] at h1
          have h2 := cellsW_rp t x _ (lr_pure (fun d hd => pure_cellsV t x d hd) h1)
          exact ⟨arr, fz, b1, b2, by rw [h2.1]; simp, fun i d u hd hu => .pure (h2.2 i d u hd hu)⟩
        · cases h
      · cases h
    · cases h
  | .abox ty j, l, r, h => by
    simp only [decB] at h
    split at h
    · rename_i ty' q
      split at h
      · rename_i hc
        obtain ⟨rfl, rfl⟩ := hc
        injection h with h; subst h
        refine ⟨Iff.rfl, fun o => Iff.rfl, fun _ _ _ _ e => (by cases e), fun _ _ _ _ e => (by cases e), fun T' n hrt hob => ?_⟩
        obtain ⟨arr, fz, b1, b2, b3, b4⟩ := hob
        exact ⟨arr, fz, b1, b2, b3, fun i d u hd hu => (b4 i d u hd hu).retab hrt.1 hrt.2.1 hrt.2.2.1 hrt.2.2.2⟩
      · cases h
    · cases h
  | .nrow ty e nl, l, r, h => by
    simp only [decB] at h
    split at h
    · rename_i ty' nl' M
      split at h
      · rename_i hc
        obtain ⟨rfl, rfl⟩ := hc
        split at h
        · rename_i he
          obtain ⟨e', m⟩ := M
          simp only at he; subst he
          injection h with h; subst h
          refine ⟨Iff.rfl, fun o => Iff.rfl, fun _ _ _ _ e => e, fun _ _ _ _ e => (by cases e), fun T' n hrt hob => ?_⟩
          rcases hob with hb | ⟨arr, fz, cap, b1, b2, b3, b4, b5, b6⟩
          · exact .inl hb
          · exact .inr ⟨arr, fz, cap, b1, b2, b3, b4, b5, fun i d u hd hu => .pure ((b6 i d u hd hu).pure_ (TL.pure_cells hd))⟩
        · cases h
      · cases h
    · cases h
theorem decBL_ok : ∀ (bs : List BS) (lb : List OK) (l : List TX), decBL bs lb = some l → (encBL bs l).length = lb.length ∧
    ∀ (j : Nat) (k : OK), lb[j]? = some k → ∃ k', (encBL bs l)[j]? = some k' ∧ (k'.live ↔ k.live) ∧ (∀ o, k'.fzAt o ↔ k.fzAt o) ∧ (∀ ty fz nl M, k' = .nrow ty fz nl M → k = .nrow ty fz nl M) ∧ (∀ ty sz fz cs, k' ≠ .row ty sz fz cs) ∧
      ∀ (T T' : Tab) (ι : Nat → Nat) (S : Addr → Prop) (w : World) (n : Nat), RtB T T' → ObRel T ι S w n k → ObRel T' ι S w n k'
  | [], [], l, h => ⟨rfl, fun j k hj => by simp at hj⟩
  | b :: bs, k :: lb, l, h => by
    simp only [decBL] at h
    split at h
    · rename_i l1 l2 h1 h2
      injection h with h; subst h
      obtain ⟨a1, a2⟩ := decBL_ok bs lb l2 h2
      simp only [encBL]
      rw [decB_rest b l1 l2 h1]
      refine ⟨by simp [a1], fun j k' hj => ?_⟩
      cases j with
      | zero =>
        simp at hj; subst hj
        have q := decB_ok (T := []) (ι := fun _ => 0) (S := fun _ => False) (w := default) b l1 l2 h1
        exact ⟨_, rfl, q.1, q.2.1, q.2.2.1, q.2.2.2.1, fun T T' ι S w n => (decB_ok b l1 l2 h1).2.2.2.2 T' n⟩
      | succ j => simpa using a2 j k' (by simpa using hj)
    · cases h
  | [], _ :: _, l, h => by simp [decBL] at h
  | _ :: _, [], l, h => by simp [decBL] at h
end

/-- What is handed in says more than what a contract asks. -/
theorem Spec2.weaken {P : Program} {f : FuncId} {as : List AS} {bs : List BS} {xs : List V} {lb : List OK} {x : tsI (inTs as bs)} {res : V} {lb' lf : List OK} (hx : decIn as bs xs lb = some x)
    (h : Spec2 P f (argsOf as bs x) (lbOf as bs x) res lb' lf) : Spec2 P f xs lb res lb' lf := by
  unfold decIn at hx
  split at hx
  case h_2 => cases hx
  rename_i l l' h1 h2
  have hp := unpack_pack _ _ _ hx
  intro w cargs β S htr hargs
  have e2 : (encAL as (unpackTs (inTs as bs) x)).2 = l' := by
    rw [hp]
    exact (decAL_ok (T := tabU lb []) (ι := β) (S := Stable S (tabU lb []) β w) (w := w) as xs cargs.toList l l' h1 hargs).2
  have hlb : lbOf as bs x = encBL bs l' := by unfold lbOf; rw [e2]
  obtain ⟨q1, q2⟩ := decBL_ok bs lb l' h2
  rw [← hlb] at q1 q2
  generalize lbOf as bs x = lb2 at *
  -- the tables side by side
  have tget : ∀ t, ((tabU lb2 []).live t ↔ (tabU lb []).live t) ∧ (∀ o, ((tabU lb2 []).get t).k.fzAt o ↔ ((tabU lb []).get t).k.fzAt o) ∧ ((tabU lb2 []).get t).gen = ((tabU lb []).get t).gen ∧ (∀ ty fz nl M, ((tabU lb2 []).get t).k = .nrow ty fz nl M → ((tabU lb []).get t).k = .nrow ty fz nl M) ∧ (∀ ty sz fz cs, ((tabU lb2 []).get t).k ≠ .row ty sz fz cs) ∧
      (∀ (T T' : Tab) (ι : Nat → Nat) (S : Addr → Prop) (w : World) (n : Nat), RtB T T' → ObRel T ι S w n ((tabU lb []).get t).k → ObRel T' ι S w n ((tabU lb2 []).get t).k) := by
    intro t
    by_cases ht : 1000000 ≤ t ∧ t - 1000000 < lb.length
    · have hk := List.getElem?_eq_getElem ht.2
      obtain ⟨k', a1, a2, a3, a4, a5, a6⟩ := q2 _ _ hk
      have g1 : (tabU lb []).get t = ⟨0, lb[t - 1000000]⟩ := by rw [get_tabU, if_pos ht.1, hk]
      have g2 : (tabU lb2 []).get t = ⟨0, k'⟩ := by rw [get_tabU, if_pos ht.1, a1]
      simp only [Tab.live, g1, g2]
      exact ⟨a2, a3, trivial, a4, a5, a6⟩
    · have n1 : (if 1000000 ≤ t then lb[t - 1000000]? else none) = none := by
        split
        · exact List.getElem?_eq_none (by omega)
        · rfl
      have n2 : (if 1000000 ≤ t then lb2[t - 1000000]? else none) = none := by
        split
        · exact List.getElem?_eq_none (by omega)
        · rfl
      have g1 : (tabU lb []).get t = ⟨0, .dead⟩ := by rw [get_tabU, n1]; simp
      have g2 : (tabU lb2 []).get t = ⟨0, .dead⟩ := by rw [get_tabU, n2]; simp
      simp only [Tab.live, g1, g2]
      refine ⟨trivial, fun _ => trivial, trivial, fun _ _ _ _ e => (by cases e), fun _ _ _ _ e => (by cases e), fun _ _ _ _ _ _ _ _ => trivial⟩
  have hS : ∀ p, Stable S (tabU lb []) β w p → Stable S (tabU lb2 []) β w p := fun p hp => ⟨hp.1, hp.2.1, fun t ht e => ((tget t).2.1 _).2 (hp.2.2 t ((tget t).1.1 ht) e)⟩
  have hS' : ∀ p, Stable S (tabU lb2 []) β w p → Stable S (tabU lb []) β w p := fun p hp => ⟨hp.1, hp.2.1, fun t ht e => ((tget t).2.1 _).1 (hp.2.2 t ((tget t).1.2 ht) e)⟩
  have hSS : Stable S (tabU lb2 []) β w = Stable S (tabU lb []) β w := funext fun p => propext ⟨hS' p, hS p⟩
  have hRt : RtB (tabU lb []) (tabU lb2 []) := ⟨fun t => (tget t).2.2.1, fun t => (tget t).1.1, fun t => (tget t).2.2.2.1, fun t => (tget t).2.2.2.2.1⟩
  have htr2 : TR S (tabU lb2 []) β w := ⟨fun t => by rw [hSS]; exact (tget t).2.2.2.2.2 _ _ _ _ _ _ hRt (htr.ob t), fun t u ht hu => htr.inj t u ((tget t).1.1 ht) ((tget u).1.1 hu), fun t ht => htr.lt t ((tget t).1.1 ht)⟩
  have hargs1 := (decAL_ok as xs cargs.toList l l' h1 hargs).1
  have hargs2 : LR (Rv (tabU lb2 []) β (Stable S (tabU lb2 []) β w) w) (argsOf as bs x) cargs.toList := by
    have e3 : argsOf as bs x = (encAL as (l ++ l')).1 := by unfold argsOf; rw [hp]
    rw [e3, hSS]
    exact hargs1.mono fun d u hd => hd.retab (fun t => (tget t).2.2.1) (fun t => (tget t).1.1) (fun t => (tget t).2.2.2.1) (fun t => (tget t).2.2.2.2.1)
  refine (h w cargs β S htr2 hargs2).mono fun e w' => ?_
  rintro ⟨v, β', rfl, hk, htr', hv, hl, hb1, hb2⟩
  have hD : ∀ p, Dn S w.heap.size β lb2 lb' p → Dn S w.heap.size β lb lb' p := fun p hp => by
    rcases hp with q | q | ⟨j, a1, a2, a3⟩
    · exact .inl q
    · exact .inr (.inl q)
    · exact .inr (.inr ⟨j, a1, (tget _).1.1 a2, a3⟩)
  have hD' : ∀ p, Dn S w.heap.size β lb lb' p → Dn S w.heap.size β lb2 lb' p := fun p hp => by
    rcases hp with q | q | ⟨j, a1, a2, a3⟩
    · exact .inl q
    · exact .inr (.inl q)
    · exact .inr (.inr ⟨j, a1, (tget _).1.2 a2, a3⟩)
  have hDD : Dn S w.heap.size β lb2 lb' = Dn S w.heap.size β lb lb' := funext fun p => propext ⟨hD p, hD' p⟩
  rw [hDD] at htr' hv
  refine ⟨v, β', rfl, hk.mono fun b _ ⟨t, ht, e⟩ => ⟨t, (tget t).1.1 ht, e⟩, htr', hv, by omega, fun j hj => hb1 j (by omega), fun j hj hlv => ?_⟩
  rcases hb2 j hj hlv with q | ⟨i, a1, a2, a3⟩
  · exact .inl q
  · exact .inr ⟨i, a1, (tget _).1.1 a2, a3⟩

/-! Contracts. -/
structure Con where
  f : Nat
  as : List AS
  bs : List BS
  R : Type
  W : tsI (inTs as bs) → Option R
  out : R → V × List OK × List OK
def Con.ok (P : Program) (c : Con) : Prop := (∃ fn, P.funcs[c.f]? = some fn ∧ (fn.name == "runtime.NumGoroutine") = false ∧ fn.body.isNone = false) ∧
  ∀ x r, c.W x = some r → Spec2 P c.f (argsOf c.as c.bs x) (lbOf c.as c.bs x) (c.out r).1 (c.out r).2.1 (c.out r).2.2
def orcOf : List Con → OrcT
  | [], _, _, _ => .fail
  | c :: r, f, xs, lb => if c.f = f then (match decIn c.as c.bs xs lb with
    | some x => .ob (c.W x) fun y => .ret (c.out y)
    | none => orcOf r f xs lb) else orcOf r f xs lb
theorem orcOf_ok {P : Program} : ∀ (l : List Con), (∀ c ∈ l, c.ok P) → GammaOk2 P (orcOf l).orc
  | [], _, f, xs, lb, res, lb', lf, h => by simp [OrcT.orc, orcOf, Tr.run] at h
  | c :: r, hl, f, xs, lb, res, lb', lf, h => by
    have ih := orcOf_ok r (fun c hc => hl c (by simp [hc])) f xs lb res lb' lf
    simp only [OrcT.orc, orcOf] at h
    split at h
    · rename_i e; subst e
      split at h
      · rename_i x hx
        obtain ⟨y, h1, h2⟩ := ob_run h
        have := ret_run h2
        obtain ⟨a1, a2⟩ := hl c (by simp)
        have := a2 x y h1
        rw [ret_run h2] at this
        exact ⟨Spec2.weaken hx this, a1⟩
      · exact ih h
    · exact ih h

/-- What a body gives back. -/
def needO {R : Type} : List Bool → Option R → Option R
  | [], r => r
  | b :: l, r => cnd b (needO l r) none
def kRet (nt : Nat) (pout : Pat) (kp : Nat → Bool) (lb : List OK) : Ex × St → Option pout.I := fun q =>
  match q.1 with
  | .exit _ => none
  | _ => match decP q.2 pout with
    | some y => needO (rlens (patS ⟨nt, [], [], []⟩ pout y).o kp 0 lb) (some y)
    | none => none
theorem needO_ok {R : Type} {r : R} {x : Option R} : ∀ {l : List Bool}, needO l x = some r → l.all id = true ∧ x = some r
  | [], h => ⟨rfl, h⟩
  | b :: l, h => by
    cases b with
    | false => cases h
    | true =>
      have h' : needO l x = some r := h
      obtain ⟨h1, h2⟩ := needO_ok h'
      exact ⟨by simp only [List.all_cons, id, Bool.true_and]; exact h1, h2⟩
theorem spec2_evT {P : Program} {Γ : OrcT} {Λ : Lend} (hm : P.follows .mixedOrders = true) (hΓ : GammaOk2 P Γ.orc) {f : FuncId} {fn : Func} {c : Code} (hf : P.funcs[f]? = some fn) (hb : fn.body = some c) (hc : codeOk c = true)
    {args : List V} {lb : List OK} (hn : args.length ≤ fn.ntmps) {pout : Pat} {kp : Nat → Bool} {HL HC : List (Nat × Hint)} {N n : Nat} {y : pout.I} {res : V} {lb' lf : List OK}
    (h : (evT Γ Λ P HL HC N n c ⟨fn.ntmps, slots 0 args, tabU lb [], []⟩).elim (kRet fn.ntmps pout kp lb) = some y)
    (hout : retOf2 P fn kp lb (patS ⟨fn.ntmps, [], [], []⟩ pout y) = some (res, lb', lf)) : Spec2 P f args lb res lb' lf := by
  obtain ⟨⟨ex, s⟩, h1, h2⟩ := Tr.elim_run _ _ h
  unfold kRet at h2
  have fin : (ex = .normal ∨ ex = .ret) ∧ decP s pout = some y ∧ (rlens (patS ⟨fn.ntmps, [], [], []⟩ pout y).o kp 0 lb).all id = true := by
    cases ex with
    | exit i => cases h2
    | normal =>
      simp only at h2
      split at h2
      · rename_i y' hy
        obtain ⟨a1, a2⟩ := needO_ok h2
        injection a2 with a2; subst a2
        exact ⟨.inl rfl, hy, a1⟩
      · cases h2
    | ret =>
      simp only at h2
      split at h2
      · rename_i y' hy
        obtain ⟨a1, a2⟩ := needO_ok h2
        injection a2 with a2; subst a2
        exact ⟨.inr rfl, hy, a1⟩
      · cases h2
  obtain ⟨hex, hd, hlen⟩ := fin
  have hG := spec2_ofG (kp := kp) (G := fun r l1 l2 => r = res ∧ l1 = lb' ∧ l2 = lf) (lb := lb) (args := args) hf hb hn fun κ hκ hgv => by
    subst hκ
    obtain ⟨a1, a2⟩ := evT_ok hΓ hm hgv n c _ _ hc rfl h1
    intro a w hr
    refine wp_mono (a1 a w hr) fun e a' w' => ?_
    rintro ⟨s', ⟨e1, e2⟩, hr'⟩
    simp only at e1 e2; subst e1 e2
    refine ⟨patS ⟨fn.ntmps, [], [], []⟩ pout y, ⟨?_, hlen, res, lb', lf, hout, rfl, rfl, rfl⟩, canon hgv (base := ⟨fn.ntmps, [], [], []⟩) a2.1.symm (fun t => .inl rfl) hd hr'⟩
    rcases hex with rfl | rfl
    · exact .inl rfl
    · exact .inr rfl
  intro w cargs β S htr hargs
  refine (hG w cargs β S htr hargs).mono fun e w' => ?_
  rintro ⟨_, _, _, ⟨rfl, rfl, rfl⟩, hh⟩
  exact hh
end Go.Abs
