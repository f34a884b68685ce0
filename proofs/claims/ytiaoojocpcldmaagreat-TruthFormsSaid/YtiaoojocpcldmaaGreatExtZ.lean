/- A machine for calls of which all is known: its values brought to their forms at each step. -/
import Derived.Test.YtiaoojocpcldmaaGreatExtWC
import Derived.Test.YtiaoojocpcldmaaGreatAbsY
namespace Go.Abs
open Go.RowKit
set_option linter.unusedVariables false
set_option linter.unusedSimpArgs false

/-! Values brought to their forms. -/
def zN {α : Sort _} (n : Nat) (k : Nat → α) : α := Nat.casesOn n (k 0) fun j => k (j + 1)
theorem zN_eq {α : Sort _} (n : Nat) (k : Nat → α) : zN n k = k n := by cases n <;> rfl
def zI {α : Sort _} (n : Int) (k : Int → α) : α := match n with
  | .ofNat m => zN m fun m => k (.ofNat m)
  | .negSucc m => zN m fun m => k (.negSucc m)
theorem zI_eq {α : Sort _} (n : Int) (k : Int → α) : zI n k = k n := by
  cases n <;> simp only [zI, zN_eq]
def zB {α : Sort _} (b : Bool) (k : Bool → α) : α := match b with
  | true => k true
  | false => k false
theorem zB_eq {α : Sort _} (b : Bool) (k : Bool → α) : zB b k = k b := by cases b <;> rfl
def zList {α : Sort _} {β : Type _} (f : β → (β → α) → α) : List β → (List β → α) → α
  | [], k => k []
  | x :: r, k => f x fun x => zList f r fun r => k (x :: r)
theorem zList_eq {α : Sort _} {β : Type _} {f : β → (β → α) → α} (hf : ∀ x k, f x k = k x) : ∀ (l : List β) (k : List β → α), zList f l k = k l
  | [], k => rfl
  | x :: r, k => by simp only [zList, hf, zList_eq hf r]
def zU8 {α : Sort _} (b : UInt8) (k : UInt8 → α) : α := zN b.toNat fun n => k (UInt8.ofNat n)
theorem zU8_eq {α : Sort _} (b : UInt8) (k : UInt8 → α) : zU8 b k = k b := by simp [zU8, zN_eq]
def zV {α : Sort _} : Nat → V → (V → α) → α
  | 0, v, k => k v
  | n + 1, v, k => match v with
    | .undef => k .undef
    | .bool b => zB b fun b => k (.bool b)
    | .int i m => zI m fun m => k (.int i m)
    | .str s => zList zU8 s fun s => k (.str s)
    | .snil => k .snil
    | .sl m cs => zN m fun m => zList (zV n) cs fun cs => k (.sl m cs)
    | .cref cs => zList (zV n) cs fun cs => k (.cref cs)
    | .own t g off m => zN t fun t => zN g fun g => zN off fun off => zN m fun m => k (.own t g off m)
    | .ptr t g off => zN t fun t => zN g fun g => zN off fun off => k (.ptr t g off)
    | .pnil => k .pnil
    | .agg cs => zList (zV n) cs fun cs => k (.agg cs)
    | .tup cs => zList (zV n) cs fun cs => k (.tup cs)
    | .ifc t v => zV n v fun v => k (.ifc t v)
    | .inil => k .inil
    | .fn f cs => zList (zV n) cs fun cs => k (.fn f cs)
    | .fnil => k .fnil
    | .bs b => zB b fun b => k (.bs b)
    | .sz => k .sz
    | .acc t g => zN t fun t => zN g fun g => k (.acc t g)
    | v => k v
theorem zV_eq {α : Sort _} : ∀ (n : Nat) (v : V) (k : V → α), zV n v k = k v
  | 0, v, k => rfl
  | n + 1, v, k => by
    have ih : ∀ (v : V) (k : V → α), zV n v k = k v := zV_eq n
    have ihl := zList_eq (f := zV (α := α) n) ih
    cases v <;> simp only [zV, zB_eq, zN_eq, zI_eq, ihl, ih, zList_eq zU8_eq]
def zOK {α : Sort _} (o : OK) (k : OK → α) : α := match o with
  | .dead => k .dead
  | .box ty cs => zList (zV 12) cs fun cs => k (.box ty cs)
  | .row ty sz fz cs => zB fz fun fz => zList (zV 12) cs fun cs => k (.row ty sz fz cs)
  | .iter s p => zN p fun p => k (.iter s p)
  | .mp M => k (.mp M)
  | .nrow ty fz nl L => zB fz fun fz => k (.nrow ty fz nl L)
theorem zOK_eq {α : Sort _} (o : OK) (k : OK → α) : zOK o k = k o := by
  cases o <;> simp only [zOK, zN_eq, zB_eq, zList_eq (zV_eq 12)]
/-- The head alone. -/
def zHd {α : Sort _} (o : OK) (k : OK → α) : α := match o with
  | .dead => k .dead
  | .box ty cs => k (.box ty cs)
  | .row ty sz fz cs => zB fz fun fz => k (.row ty sz fz cs)
  | .iter s p => k (.iter s p)
  | .mp M => k (.mp M)
  | .nrow ty fz nl L => zB fz fun fz => k (.nrow ty fz nl L)
theorem zHd_eq {α : Sort _} (o : OK) (k : OK → α) : zHd o k = k o := by
  cases o <;> simp only [zHd, zB_eq]
def zEnt {α : Sort _} (f : OK → (OK → α) → α) (p : Nat × Ob) (k : Nat × Ob → α) : α := match p with
  | (s, ⟨g, o⟩) => zN s fun s => zN g fun g => f o fun o => k (s, ⟨g, o⟩)
theorem zEnt_eq {α : Sort _} {f : OK → (OK → α) → α} (hf : ∀ o k, f o k = k o) (p : Nat × Ob) (k : Nat × Ob → α) : zEnt f p k = k p := by
  obtain ⟨s, g, o⟩ := p
  simp only [zEnt, zN_eq, hf]
def zTab {α : Sort _} (T : Tab) (k : Tab → α) : α := zList (zEnt zHd) T k
theorem zTab_eq {α : Sort _} (T : Tab) (k : Tab → α) : zTab T k = k T := zList_eq (zEnt_eq zHd_eq) T k
def zTabD {α : Sort _} (T : Tab) (k : Tab → α) : α := zList (zEnt zOK) T k
theorem zTabD_eq {α : Sort _} (T : Tab) (k : Tab → α) : zTabD T k = k T := zList_eq (zEnt_eq zOK_eq) T k
def zPut {α : Sort _} {β : Type _} (t : Nat) (v : β) : List (Nat × β) → (List (Nat × β) → α) → α
  | [], k => k [(t, v)]
  | (a, x) :: r, k => match Nat.beq a t with
    | true => k ((t, v) :: r)
    | false => zPut t v r fun r => k ((a, x) :: r)
theorem zPut_eq {α : Sort _} {β : Type _} (t : Nat) (v : β) : ∀ (l : List (Nat × β)) (k : List (Nat × β) → α), zPut t v l k = k (aput t v l)
  | [], k => rfl
  | (a, x) :: r, k => by
    simp only [zPut, aput]
    by_cases h : a = t
    · subst h
      rw [show Nat.beq a a = true from Nat.beq_refl a]
      simp
    · have : Nat.beq a t = false := by
        cases hb : Nat.beq a t with
        | false => rfl
        | true => exact absurd (Nat.eq_of_beq_eq_true hb) h
      rw [this]
      simp only [zPut_eq t v r, if_neg h]
def zSet {β : Type _} (st : St) (T : Tab) (d : Option Nat) (v : V) (k : St → Option β) : Option β := match st with
  | ⟨n, t, _, g⟩ => match d with
    | none => k ⟨n, t, T, g⟩
    | some d => if d < n then zPut d v t fun t => k ⟨n, t, T, g⟩ else none
theorem zSet_eq {β : Type _} (st : St) (T : Tab) (d : Option Nat) (v : V) (k : St → Option β) : zSet st T d v k = (({ st with o := T } : St).set d v).bind k := by
  obtain ⟨n, t, o, g⟩ := st
  cases d with
  | none => rfl
  | some d =>
    simp only [zSet, St.set, zPut_eq]
    split <;> rfl

/-! Steps. -/
def aCallZ (Γ : Orc) (Λ : Lend) (T : Tab) (f : Nat) (args : List V) (d : Nat) : Option (V × Tab) :=
  match viewArgs depth T (Λ f) 0 [] args with
  | some (xs, l, bs) =>
    if bs.Nodup ∧ bs.length < 1000000 then
      match boxes2 depth T bs with
      | some (lb, l2) => zList (zV 12) xs fun xs => zList zOK lb fun lb =>
        match Γ f xs lb with
        | some (res, lb', lf) => fin2 T (l ++ l2) bs d res lb' lf
        | none => none
      | none => none
    else none
  | none => none
theorem aCallZ_eq : aCallZ = aCall2 := by
  funext Γ Λ T f args d
  simp only [aCallZ, aCall2, zList_eq (zV_eq 12), zList_eq zOK_eq]
  rfl
/-- What an operation comes to, by whichever reckoning knows it. -/
def opZ (P : Program) (st : St) (o : Oper) : Option (V × Wr) :=
  match aop P st o with
  | some r => some r
  | none => match aopC P st o with
    | some r => some r
    | none => match aopN P st o with
      | some tr => tr.run
      | none => (aopT P st o).run
def stepZ {β : Type _} (Γ : Orc) (In : InOrc) (Λ : Lend) (P : Program) (opl : List Oper) (st : St) (o : Oper) (k : St → Option β) : Option β :=
  match aguard opl st o with
  | some false => zSet st st.o o.dst (.tup []) k
  | some true => match o.op with
    | .call ⟨.value f, args, _⟩ => match st.eval f with
      | .fn g caps => match callIn In st g (args.toList.map st.eval ++ caps) o.dst with
        | some st' => k st'
        | none => match aCallZ Γ Λ st.o g (args.toList.map st.eval ++ caps) (o.dst.getD 99999) with
          | some (v, T) => zV 12 (norm opl o v) fun v => zTab T fun T => zSet st T o.dst v k
          | none => none
      | _ => none
    | _ => match opZ P st o with
      | some (v, none) => zV 12 (conB v) fun v => zSet st st.o o.dst v k
      | some (v, some (s, ob)) => zV 12 (conB v) fun v => zEnt zOK (s, ob) fun p => zPut p.1 p.2 st.o fun T => zSet st T o.dst v k
      | none => none
  | none => none
def stepsZ {β : Type _} (Γ : Orc) (In : InOrc) (Λ : Lend) (P : Program) (opl : List Oper) : List Oper → St → (St → Option β) → Option β
  | [], st, k => k st
  | o :: r, st, k => stepZ Γ In Λ P opl st o fun st => stepsZ Γ In Λ P opl r st k
section
variable {κ : Cx} {ι : Nat → Nat} {st : St} {a : Act} {w : World}
theorem opZ_ok (h : RelI κ ι st a w) {o : Oper} {v : V} {wr : Wr} (hx : opZ κ.P st o = some (v, wr)) : OpRes κ ι st.o a w o v (wrT st.o wr) := by
  unfold opZ at hx
  split at hx
  · rename_i r hr
    injection hx with hx; subst hx
    exact aop_ok h hr
  split at hx
  · rename_i r hr
    injection hx with hx; subst hx
    exact aopC_ok h hr
  · split at hx
    · rename_i tr htr
      exact aopN_ok h htr hx
    · exact aop_ok h (aopT_run hx)
theorem set_bind {β : Type _} {s : Option St} {k : St → Option β} {r : β} (h : s.bind k = some r) : ∃ st', s = some st' ∧ k st' = some r := by
  cases s with
  | none => cases h
  | some x => exact ⟨x, rfl, h⟩
theorem stepZ_ok {β : Type _} {Γ : Orc} {In : InOrc} {Λ : Lend} (hΓ : GammaOk2 κ.P Γ) (hI : InOk κ.P In) (hrel : Rel κ st a w) {ops : Array Oper} {o : Oper} {k : St → Option β} {r : β} (hx : stepZ Γ In Λ κ.P ops.toList st o k = some r) {K : Act → World → Prop} {Q : Exit → Act → World → Prop}
    (hK : ∀ st' a' w', k st' = some r → Rel κ st' a' w' → K a' w') : if Region.wanted o (yielded ops a.tmps) then o.wp κ.P a w K Q else K (a.put o.dst undef) w := by
  obtain ⟨ι, h⟩ := hrel
  unfold stepZ at hx
  split at hx
  · rename_i hg
    rw [aguard_ok h hg]
    simp only [Bool.false_eq_true, if_false]
    rw [zSet_eq] at hx
    obtain ⟨st', h1, h2⟩ := set_bind hx
    exact hK _ _ _ h2 ⟨ι, h.set (To.refl h) h1 (.pure (.tup (vs := []) rfl (by simp)))⟩
  · rename_i hg
    rw [aguard_ok h hg]
    simp only [if_true]
    split at hx
    · rename_i f args ts ho
      split at hx
      · rename_i g caps hf
        split at hx
        · rename_i st' hin
          exact callIn_ok hI h ho hf hin fun a' w' hr' => hK _ _ _ hx hr'
        · split at hx
          · rename_i v T hc
            rw [aCallZ_eq] at hc
            simp only [zV_eq, zTab_eq, zSet_eq] at hx
            obtain ⟨st', h1, h2⟩ := set_bind hx
            have hfv := h.eval f
            rw [hf] at hfv
            obtain ⟨us, hfu, hl, hh⟩ := hfv.fn_
            have hcall := hc
            unfold aCall2 at hcall
            have hent : ∃ fn, κ.P.funcs[g]? = some fn ∧ (fn.name == "runtime.NumGoroutine") = false ∧ fn.body.isNone = false := by
              split at hcall
              · split at hcall
                · split at hcall
                  · split at hcall
                    · rename_i hg
                      exact (hΓ _ _ _ _ _ _ hg).2
                    · cases hcall
                  · cases hcall
                · cases hcall
              · cases hcall
            obtain ⟨fn, e1, e2, e3⟩ := hent
            unfold Oper.wp
            rw [exec_call ho hfu e1 e2 e3]
            have hargs : LR (Rv st.o ι (Stable κ.D st.o ι w) w) (args.toList.map st.eval ++ caps) (args.map a.eval ++ ⟨us⟩).toList := by
              have := LR.map st.eval a.eval args.toList (R := Rv st.o ι (Stable κ.D st.o ι w) w) fun x _ => h.eval x
              simpa using this.append ⟨hl, hh⟩
            refine (aCall2_ok (fun f xs lb res lb' lf hg => (hΓ f xs lb res lb' lf hg).1) h hc hargs).mono fun e w' => ?_
            rintro ⟨cv, ι', rfl, hto, hv⟩
            exact hK _ _ _ h2 ⟨ι', h.set hto h1 hv.norm⟩
          · cases hx
      · cases hx
    · have fin : ∀ (v : V) (wr : Wr), OpRes κ ι st.o a w o v (wrT st.o wr) → (({ st with o := wrT st.o wr } : St).set o.dst (conB v)).bind k = some r → o.wp κ.P a w K Q := fun v wr hop e => by
        obtain ⟨st', h1, h2⟩ := set_bind e
        obtain ⟨cv, w', ι', hrun, hto, hv⟩ := hop
        unfold Oper.wp
        rcases hrun with hrun | ⟨hrun, rfl⟩
        · rw [hrun]; exact hK _ _ _ h2 ⟨ι', h.set hto h1 hv.conB⟩
        · rw [hrun]; exact hK _ _ _ h2 ⟨ι', h.set hto h1 hv.conB⟩
      split at hx
      · rename_i v hop
        simp only [zV_eq, zSet_eq] at hx
        exact fin v none (opZ_ok h hop) hx
      · rename_i v s ob hop
        simp only [zV_eq, zEnt_eq zOK_eq, zPut_eq, zSet_eq] at hx
        exact fin v (some (s, ob)) (opZ_ok h hop) hx
      · cases hx
  · cases hx
theorem stepsZ_ok {β : Type _} {Γ : Orc} {In : InOrc} {Λ : Lend} (hΓ : GammaOk2 κ.P Γ) (hI : InOk κ.P In) {ops : Array Oper} {Q : Exit → Act → World → Prop} {k : St → Option β} {r : β} : ∀ (l : List Oper) (st : St) (a : Act) (w : World), stepsZ Γ In Λ κ.P ops.toList l st k = some r → Rel κ st a w →
    (∀ st' a' w', k st' = some r → Rel κ st' a' w' → Q .normal a' w') → wpList κ.P ops Q l a w
  | [], st, a, w, hx, hr, hQ => wpList_nil (hQ st a w hx hr)
  | o :: l, st, a, w, hx, hr, hQ => by
    exact wpList_step fun K hK => stepZ_ok hΓ hI hr hx fun st' a' w' hx' hr' => hK _ _ (stepsZ_ok hΓ hI l st' a' w' hx' hr' hQ)
end

/-! A region that draws its order. -/
def orcZ (Γ : Orc) : Orc := fun f xs lb =>
  if lb.all okBox = true then (match Γ f xs lb with
    | some (res, lb', lf) => if (lb'.all okBox && lf.all okFresh) = true then some (res, lb', lf) else none
    | none => none) else none
theorem orcZ_ok {P : Program} {Γ : Orc} (hΓ : GammaOk2 P Γ) : GammaOk P (orcZ Γ) := by
  intro f xs lb res lb' lf h
  unfold orcZ at h
  split at h
  · split at h
    · rename_i r l1 l2 h1
      split at h
      · rename_i hc
        injection h with h
        injection h with e1 h; injection h with e2 e3
        subst e1 e2 e3
        simp only [Bool.and_eq_true] at hc
        obtain ⟨a1, a2⟩ := hΓ f xs lb _ _ _ h1
        exact ⟨spec_of2 a1 hc.1 hc.2, a2⟩
      · cases h
    · cases h
  · cases h
def aCall0 (Γ : Orc) (T : Tab) (f : Nat) (args : List V) (d : Nat) : Option (V × Tab) :=
  match viewL (viewA depth T) [] args with
  | some (xs, l, bs) =>
    if bs.Nodup ∧ bs.length < 1000000 then
      match boxesOf depth T bs with
      | some (lb, l2) => zList (zV 12) xs fun xs => zList zOK lb fun lb =>
        match Γ f xs lb with
        | some (res, lb', lf) =>
          if lf.length ≤ 4 then
            match revive (T.freezes (zs res bs lf (l ++ l2))) bs lb' with
            | some T2 => match fresh bs d T2 0 lf with
              | some T3 => (ren T3 bs d lf.length res).map fun v => (v, T3)
              | none => none
            | none => none
          else none
        | none => none
      | none => none
    else none
  | none => none
theorem aCall0_eq : aCall0 = aCall := by
  funext Γ T f args d
  simp only [aCall0, aCall, zList_eq (zV_eq 12), zList_eq zOK_eq]
  rfl
def estep0 (Γ : Orc) (P : Program) (st : St) (o : Oper) : Option (V × Tab) :=
  match o.op with
  | .call ⟨.value f, args, _⟩ => match st.eval f with
    | .fn k caps => aCall0 Γ st.o k (args.toList.map st.eval ++ caps) (o.dst.getD 99999)
    | _ => none
  | _ => match aop P st o with
    | some (v, wr) => some (v, wrT st.o wr)
    | none => none
theorem estep0_eq : estep0 = estep := by
  funext Γ P st o
  unfold estep0 estep
  rw [aCall0_eq]
  rfl
def drunZ (Γ : Orc) (P : Program) (opl : List Oper) : List Oper → St → Option (List Rec × St)
  | [], st => some ([], st)
  | o :: r, st => match aguard opl st o with
    | some false => zSet st st.o o.dst (.tup []) fun st' => match drunZ Γ P opl r st' with
        | some (rs, s) => some (⟨.tup [], [], []⟩ :: rs, s)
        | none => none
    | some true => zList zN (foot st o) fun F => zTab (restrict F st.o) fun RT =>
      match estep0 Γ P { st with o := RT } o with
      | some (v, T) => zList zN (wsites P { st with o := RT } o) fun ws =>
        if ws.all (F.contains ·) = true then zTabD (ws.map fun s => (s, T.get s)) fun W => zV 12 (norm opl o v) fun v => zTab (overlay W st.o) fun T' =>
          zSet st T' o.dst v fun st' => match drunZ Γ P opl r st' with
            | some (rs, s) => some (⟨v, F, W⟩ :: rs, s)
            | none => none
        else none
      | none => none
    | none => none
theorem drunZ_eq (Γ : Orc) (P : Program) (opl : List Oper) : ∀ (l : List Oper) (st : St), drunZ Γ P opl l st = drun Γ P opl l st
  | [], st => rfl
  | o :: r, st => by
    have ih := fun s => drunZ_eq Γ P opl r s
    simp only [drunZ, drun, zSet_eq, zList_eq zN_eq, zTab_eq, zTabD_eq, zV_eq, ih, estep0_eq]
    cases aguard opl st o with
    | none => rfl
    | some b => cases b with
      | false =>
        have e : ({ n := st.n, t := st.t, o := st.o, g := st.g } : St) = st := rfl
        simp only [e]
        cases st.set o.dst (.tup []) <;> rfl
      | true =>
        simp only
        cases estep Γ P { st with o := restrict (foot st o) st.o } o with
        | none => rfl
        | some q =>
          obtain ⟨v, T⟩ := q
          simp only
          split
          · cases ({ st with o := overlay ((wsites P { st with o := restrict (foot st o) st.o } o).map fun s => (s, T.get s)) st.o } : St).set o.dst (norm opl o v) <;> rfl
          · rfl
/-- Rows that are handed on in a region. -/
def newZ (st s1 : St) : List Nat := (st.o.map (·.1)).filter fun s => !frozenB st.o s && frozenB s1.o s
def drawZ {β : Type _} (Γ : Orc) (P : Program) (opl : List Oper) (st : St) (k : St → Option β) : Option β :=
  match drunZ (orcZ Γ) P opl opl st with
  | some (rs, s1) => match newZ st s1 with
    | [] => if objsOk opl rs = true then k s1 else none
    | z :: Z => zTab (st.o.freezes (z :: Z)) fun T => match drunZ (orcZ Γ) P opl opl { st with o := T } with
      | some (rs, s2) => if objsOk opl rs = true then k s2 else none
      | none => none
  | none => none
def regZ {β : Type _} (Γ : Orc) (In : InOrc) (Λ : Lend) (P : Program) (ops : Array Oper) (draw : Bool) (st : St) (k : St → Option β) : Option β :=
  match draw with
  | true => drawZ Γ P ops.toList st k
  | false => match spill st ops.toList with
    | ⟨n, t, o, g⟩ => stepsZ Γ In Λ P ops.toList ops.toList ⟨n, t, o, g⟩ k
section
variable {κ : Cx}
theorem HT.regZ {β : Type _} {Γ : Orc} {In : InOrc} {Λ : Lend} (hΓ : GammaOk2 κ.P Γ) (hI : InOk κ.P In) (hm : κ.P.follows .mixedOrders = true) {id : Nat} {ops : Array Oper} {draw : Bool} (htmp : (!draw || tmpsOk ops.toList) = true) {Q : Exit → St → Prop} {st : St} {k : St → Option β} {r : β}
    (hx : Abs.regZ Γ In Λ κ.P ops draw st k = some r) (h : ∀ st', k st' = some r → Q .normal st') : HT κ (.region id ops draw) Q st := fun a w hr => by
  unfold Abs.regZ at hx
  cases draw with
  | true =>
    simp only [drawZ, drunZ_eq, zTab_eq] at hx
    split at hx
    · rename_i rs s1 hd
      split at hx
      · split at hx
        · rename_i hobj
          have e : ({ st with o := st.o.freezes [] } : St) = st := rfl
          exact draw_okZ (orcZ_ok hΓ) hm (by simpa using htmp) [] (e ▸ hd) hobj hr fun a' w' hr' => ⟨_, h _ hx, hr'⟩
        · cases hx
      · split at hx
        · rename_i rs2 s2 hd2
          split at hx
          · rename_i hobj
            exact draw_okZ (orcZ_ok hΓ) hm (by simpa using htmp) _ hd2 hobj hr fun a' w' hr' => ⟨_, h _ hx, hr'⟩
          · cases hx
        · cases hx
    · cases hx
  | false =>
    simp only at hx
    exact wp_region_list (stepsZ_ok hΓ hI ops.toList (spill st ops.toList) a w hx (hr.spill ops.toList) fun st' a' w' hk hr' => ⟨st', h st' hk, hr'⟩)
end

/-! Code. -/
def evZ {β : Type _} (Γ : Orc) (In : InOrc) (Λ : Lend) (P : Program) : Nat → Code → St → (Ex → St → Option β) → Option β
  | 0, _, _, _ => none
  | n + 1, c, st, k => match c with
    | .skip => k .normal st
    | .label _ => k .normal st
    | .exit id => k (.exit id) st
    | .ret => k .ret st
    | .region _ ops draw => regZ Γ In Λ P ops draw st fun st => k .normal st
    | .seq x y => evZ Γ In Λ P n x st fun e s => match e with
      | .normal => evZ Γ In Λ P n y s k
      | e => k e s
    | .cond c x y => match st.eval c with
      | .bool true => evZ Γ In Λ P n x st k
      | .bool false => evZ Γ In Λ P n y st k
      | .bs true => evZ Γ In Λ P n x st k
      | .bs false => evZ Γ In Λ P n y st k
      | _ => none
    | .block id c => evZ Γ In Λ P n c st fun e s => match e with
      | .exit i => match Nat.beq i id with
        | true => k .normal s
        | false => k (.exit i) s
      | e => k e s
    | .loop c => evZ Γ In Λ P n c st fun e s => match e with
      | .normal => evZ Γ In Λ P n (.loop c) s k
      | e => k e s
    | _ => none
def kQ {β : Type _} (k : Ex → St → Option β) (r : β) : Exit → St → Prop := fun e s => ∃ x, e = x.to ∧ k x s = some r
theorem evZ_both {β : Type _} {κ : Cx} {Γ : Orc} {In : InOrc} {Λ : Lend} (hΓ : GammaOk2 κ.P Γ) (hI : InOk κ.P In) (hm : κ.P.follows .mixedOrders = true) : ∀ (n : Nat) (c : Code) (st : St) (k : Ex → St → Option β) (r : β), codeOk c = true → evZ Γ In Λ κ.P n c st k = some r →
    (HT κ c (kQ k r) st ∧ ∀ c', c = .loop c' → ∀ a w, Rel κ st a w → Code.rounds κ.P c' (fun e a' w' => ∃ st', kQ k r e st' ∧ Rel κ st' a' w') n a w)
  | 0, c, st, k, r, _, h => by simp [evZ] at h
  | n + 1, c, st, k, r, hc, h => by
    have ih := evZ_both (β := β) hΓ hI hm (Λ := Λ) n
    cases c with
    | skip => simp [evZ] at h; exact ⟨HT.skip ⟨.normal, rfl, h⟩, fun _ e => by cases e⟩
    | label l => simp [evZ] at h; exact ⟨HT.label ⟨.normal, rfl, h⟩, fun _ e => by cases e⟩
    | exit id => simp [evZ] at h; exact ⟨HT.exit ⟨.exit id, rfl, h⟩, fun _ e => by cases e⟩
    | ret => simp [evZ] at h; exact ⟨HT.ret ⟨.ret, rfl, h⟩, fun _ e => by cases e⟩
    | region id ops draw =>
      simp only [evZ] at h
      exact ⟨HT.regZ hΓ hI hm (by simpa [codeOk] using hc) h fun st' hk => ⟨.normal, rfl, hk⟩, fun _ e => by cases e⟩
    | seq x y =>
      simp only [codeOk, Bool.and_eq_true] at hc
      simp only [evZ] at h
      refine ⟨?_, fun _ e => by cases e⟩
      refine HT.seq (((ih x st _ r hc.1 h).1).mono fun e s hq => ?_)
      obtain ⟨ex, rfl, hk⟩ := hq
      cases ex with
      | normal => exact (ih y s k r hc.2 hk).1
      | exit i => exact ⟨.exit i, rfl, hk⟩
      | ret => exact ⟨.ret, rfl, hk⟩
    | cond o x y =>
      simp only [codeOk, Bool.and_eq_true] at hc
      simp only [evZ] at h
      refine ⟨?_, fun _ e => by cases e⟩
      split at h
      · rename_i ho; exact HT.cond ho ((ih x st k r hc.1 h).1)
      · rename_i ho; exact HT.cond ho ((ih y st k r hc.2 h).1)
      · rename_i ho; exact HT.condS ho ((ih x st k r hc.1 h).1)
      · rename_i ho; exact HT.condS ho ((ih y st k r hc.2 h).1)
      · cases h
    | block id c =>
      simp only [codeOk] at hc
      simp only [evZ] at h
      refine ⟨?_, fun _ e => by cases e⟩
      refine HT.block (((ih c st _ r hc h).1).mono fun e s hq => ?_)
      obtain ⟨ex, rfl, hk⟩ := hq
      cases ex with
      | normal => exact ⟨.normal, rfl, hk⟩
      | ret => exact ⟨.ret, rfl, hk⟩
      | exit i =>
        simp only at hk
        show if i = id then kQ k r .normal s else kQ k r (.exit i) s
        by_cases hi : i = id
        · subst hi
          rw [Nat.beq_refl] at hk
          simp only [if_true]
          exact ⟨.normal, rfl, hk⟩
        · rw [if_neg hi]
          have : Nat.beq i id = false := by
            cases hb : Nat.beq i id with
            | false => rfl
            | true => exact absurd (Nat.eq_of_beq_eq_true hb) hi
          rw [this] at hk
          exact ⟨.exit i, rfl, hk⟩
    | loop c =>
      have hc' : codeOk c = true := by simpa [codeOk] using hc
      simp only [evZ] at h
      have key : ∀ a w, Rel κ st a w → Code.rounds κ.P c (fun e a' w' => ∃ st', kQ k r e st' ∧ Rel κ st' a' w') (n + 1) a w := by
        intro a w hr
        refine wp_mono (((ih c st _ r hc' h).1) a w hr) fun e a' w' ⟨s', hq, hr'⟩ => ?_
        obtain ⟨ex, rfl, hk⟩ := hq
        cases ex with
        | normal => exact (ih (.loop c) s' k r (by simpa [codeOk] using hc') hk).2 c rfl a' w' hr'
        | exit i => exact ⟨s', ⟨.exit i, rfl, hk⟩, hr'⟩
        | ret => exact ⟨s', ⟨.ret, rfl, hk⟩, hr'⟩
      refine ⟨fun a w hr => wp_loop_rounds (n + 1) (key a w hr), fun c' e => ?_⟩
      cases e
      exact key
    | _ => simp [evZ] at h

/-! Calls. -/
def Rt := V × List OK × List OK
def kAll : Nat → Bool := fun _ => true
def retZ (P : Program) (fn : Func) (lb : List OK) (e : Ex) (st : St) : Option (V × List OK × List OK) :=
  match e with
  | .exit _ => none
  | _ => if (rlens st.o kAll 0 lb).all id = true then
      match retOf2 P fn kAll lb st with
      | some (res, lb', lf) => zV 12 res fun res => zList zOK lb' fun lb' => zList zOK lf fun lf => some (res, lb', lf)
      | none => none
    else none
def bodyZ (Γ : Orc) (In : InOrc) (Λ : Lend) (P : Program) (breath : Nat) (fn : Func) (args : List V) (lb : List OK) : Option (V × List OK × List OK) :=
  match fn.body with
  | none => none
  | some c => if args.length ≤ fn.ntmps then evZ Γ In Λ P breath c ⟨fn.ntmps, slots 0 args, tabU lb [], []⟩ (retZ P fn lb) else none
theorem bodyZ_ok {P : Program} {Γ : Orc} {In : InOrc} {Λ : Lend} (hΓ : GammaOk2 P Γ) (hI : InOk P In) (hm : P.follows .mixedOrders = true) (hP : progOk P = true) {breath f : Nat} {fn : Func} (hf : P.funcs[f]? = some fn) {args : List V} {lb : List OK} {res : V} {lb' lf : List OK}
    (h : bodyZ Γ In Λ P breath fn args lb = some (res, lb', lf)) : Spec2 P f args lb res lb' lf ∧ ∃ fn, P.funcs[f]? = some fn ∧ (fn.name == "runtime.NumGoroutine") = false ∧ fn.body.isNone = false := by
  unfold bodyZ at h
  split at h
  · cases h
  · rename_i c hc
    split at h
    · rename_i hn
      have hcode := (progOk_get hP hf).2 c hc
      refine ⟨?_, fn, hf, (progOk_get hP hf).1, by simp [hc]⟩
      have hG := spec2_ofG (kp := kAll) (G := fun r l1 l2 => r = res ∧ l1 = lb' ∧ l2 = lf) (lb := lb) (args := args) hf hc hn fun κ hκ hgv => by
        subst hκ
        refine ((evZ_both hΓ hI hm breath c _ _ _ hcode h).1).mono fun e s hq => ?_
        obtain ⟨x, rfl, hk⟩ := hq
        unfold retZ at hk
        have fin : ∀ (hx : x = .normal ∨ x = .ret), (if (rlens s.o kAll 0 lb).all id = true then
            match retOf2 κ.P fn kAll lb s with
            | some (res, lb', lf) => zV 12 res fun res => zList zOK lb' fun lb' => zList zOK lf fun lf => some (res, lb', lf)
            | none => none
          else none) = some (res, lb', lf) → (x.to = .normal ∨ x.to = .ret) ∧ (rlens s.o kAll 0 lb).all id = true ∧ ∃ r l1 l2, retOf2 κ.P fn kAll lb s = some (r, l1, l2) ∧ r = res ∧ l1 = lb' ∧ l2 = lf := by
          intro hx hk
          split at hk
          · rename_i hl
            split at hk
            · rename_i r l1 l2 hr
              simp only [zV_eq, zList_eq zOK_eq] at hk
              injection hk with hk
              injection hk with e1 hk; injection hk with e2 e3
              refine ⟨?_, hl, r, l1, l2, hr, e1, e2, e3⟩
              rcases hx with rfl | rfl
              · exact .inl rfl
              · exact .inr rfl
            · cases hk
          · cases hk
        cases x with
        | exit i => cases hk
        | normal => exact fin (.inl rfl) hk
        | ret => exact fin (.inr rfl) hk
      intro w cargs β S htr hargs
      refine (hG w cargs β S htr hargs).mono fun e w' => ?_
      rintro ⟨_, _, _, ⟨rfl, rfl, rfl⟩, hh⟩
      exact hh
    · cases h
def inZ (Γ : Orc) (In : InOrc) (Λ : Lend) (P : Program) (breath : Nat) (fn : Func) (args : List V) (T : Tab) (g : List V) : Option (V × Tab × List V) :=
  match fn.body with
  | none => none
  | some c => if args.length ≤ fn.ntmps then evZ Γ In Λ P breath c ⟨fn.ntmps, slots 0 args, T, g⟩ fun e st => match e with
      | .exit _ => none
      | _ => match resL P st fn.results.toList with
        | some vs => zV 12 (packV vs) fun v => zTab st.o fun T => zList (zV 12) st.g fun g => some (v, T, g)
        | none => none
    else none
theorem inZ_ok {P : Program} {Γ : Orc} {In : InOrc} {Λ : Lend} (hΓ : GammaOk2 P Γ) (hI : InOk P In) (hm : P.follows .mixedOrders = true) (hP : progOk P = true) {breath f : Nat} {fn : Func} (hf : P.funcs[f]? = some fn) {args : List V} {T T' : Tab} {g g' : List V} {res : V}
    (h : inZ Γ In Λ P breath fn args T g = some (res, T', g')) : SpecI P f args T g res T' g' ∧ ∃ fn, P.funcs[f]? = some fn ∧ (fn.name == "runtime.NumGoroutine") = false ∧ fn.body.isNone = false := by
  unfold inZ at h
  split at h
  · cases h
  · rename_i c hc
    split at h
    · rename_i hn
      have hcode := (progOk_get hP hf).2 c hc
      refine ⟨specI_of hf hc hn fun κ hκ => ?_, fn, hf, (progOk_get hP hf).1, by simp [hc]⟩
      subst hκ
      refine ((evZ_both hΓ hI hm breath c _ _ _ hcode h).1).mono fun e s hq => ?_
      obtain ⟨x, rfl, hk⟩ := hq
      have fin : ∀ (hx : x = .normal ∨ x = .ret), (match resL κ.P s fn.results.toList with
          | some vs => zV 12 (packV vs) fun v => zTab s.o fun T => zList (zV 12) s.g fun g => some (v, T, g)
          | none => none) = some (res, T', g') → (x.to = .normal ∨ x.to = .ret) ∧ ∃ vs, resL κ.P s fn.results.toList = some vs ∧ packV vs = res ∧ s.o = T' ∧ s.g = g' := by
        intro hx hk
        split at hk
        · rename_i vs hvs
          simp only [zV_eq, zTab_eq, zList_eq (zV_eq 12)] at hk
          injection hk with hk
          injection hk with e1 hk; injection hk with e2 e3
          refine ⟨?_, vs, hvs, e1, e2, e3⟩
          rcases hx with rfl | rfl
          · exact .inl rfl
          · exact .inr rfl
        · cases hk
      cases x with
      | exit i => cases hk
      | normal => exact fin (.inl rfl) hk
      | ret => exact fin (.inr rfl) hk
    · cases h
/-- Calls, so deep. Ξ: what is told of some. inl: which are run in the caller's own memory. -/
def evOZ (Ξ : Orc) (inl : List Nat) (Λ : Lend) (P : Program) (breath : Nat) : Nat → Orc × InOrc
  | 0 => (Ξ, fun _ _ _ _ => none)
  | n + 1 => (fun f args lb => match Ξ f args lb with
    | some r => some r
    | none => match P.funcs[f]? with
      | some fn => bodyZ (evOZ Ξ inl Λ P breath n).1 (evOZ Ξ inl Λ P breath n).2 Λ P breath fn args lb
      | none => none,
    fun f args T g => match inl.contains f with
      | true => match P.funcs[f]? with
        | some fn => inZ (evOZ Ξ inl Λ P breath n).1 (evOZ Ξ inl Λ P breath n).2 Λ P breath fn args T g
        | none => none
      | false => none)
theorem evOZ_ok {P : Program} {Ξ : Orc} {inl : List Nat} {Λ : Lend} (hΞ : GammaOk2 P Ξ) (hm : P.follows .mixedOrders = true) (hP : progOk P = true) {breath : Nat} : ∀ n, GammaOk2 P (evOZ Ξ inl Λ P breath n).1 ∧ InOk P (evOZ Ξ inl Λ P breath n).2
  | 0 => ⟨hΞ, fun _ _ _ _ _ _ _ h => by cases h⟩
  | n + 1 => by
    obtain ⟨ih1, ih2⟩ := evOZ_ok (inl := inl) (Λ := Λ) hΞ hm hP (breath := breath) n
    refine ⟨fun f xs lb res lb' lf h => ?_, fun f xs T g res T' g' h => ?_⟩
    · simp only [evOZ] at h
      split at h
      · rename_i r hr
        injection h with h; subst h
        exact hΞ f xs lb res lb' lf hr
      · split at h
        · rename_i fn hf
          exact bodyZ_ok ih1 ih2 hm hP hf h
        · cases h
    · simp only [evOZ] at h
      split at h
      · split at h
        · rename_i fn hf
          exact inZ_ok ih1 ih2 hm hP hf h
        · cases h
      · cases h
theorem noneΞ_ok2 (P : Program) : GammaOk2 P noneΞ := fun _ _ _ _ _ _ h => by cases h
theorem closedZ {P : Program} (hm : P.follows .mixedOrders = true) (hP : progOk P = true) {Ξ : Orc} (hΞ : GammaOk2 P Ξ) {inl : List Nat} {Λ : Lend} {breath n f : Nat} (h : isTrue ((evOZ Ξ inl Λ P breath n).1 f [] []) = true) (w : World) :
    Calls P f #[] w fun e w' => e = .returned (.bool true) ∧ Below w.heap.size w w' := by
  have key : ∀ r, (evOZ Ξ inl Λ P breath n).1 f [] [] = some r → r = (.bool true, [], []) ∨ r = (.bs true, [], []) := by
    intro r hr
    rw [hr] at h
    unfold isTrue at h
    split at h
    · rename_i e; injection e with e; exact .inl e
    · rename_i e; injection e with e; exact .inr e
    · cases h
  cases hr : (evOZ Ξ inl Λ P breath n).1 f [] [] with
  | none => rw [hr] at h; cases h
  | some r =>
    have hs := ((evOZ_ok hΞ hm hP n).1 f [] [] r.1 r.2.1 r.2.2 hr).1
    have htr : TR (fun _ => False) (tabU [] []) (fun _ => 0) w := by
      refine ⟨fun t => ?_, fun t u ht => ?_, fun t ht => ?_⟩
      · have : (tabU [] []).get t = ⟨0, .dead⟩ := rfl
        rw [this]; trivial
      · exact ht.elim
      · exact ht.elim
    rcases key r hr with rfl | rfl
    all_goals
      refine (hs w #[] (fun _ => 0) (fun _ => False) htr .nil).mono fun e w' => ?_
      rintro ⟨v, β', rfl, hk, _, hv, _⟩
      refine ⟨?_, (hk.mono (Y := fun _ => False) fun k _ ⟨t, ht, _⟩ => ht).below⟩
      first | rw [hv.bool_] | rw [hv.bs_]
end Go.Abs
