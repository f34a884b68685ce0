/- A region that draws its order, whole. -/
import Derived.Test.YtiaoojocpcldmaaGreatAbsT
namespace Go.Abs
open Go.RowKit
set_option linter.unusedVariables false
set_option linter.unusedSimpArgs false

/-- The state in which just those of L have been run. -/
def Corr (st0 : St) (opl : List Oper) (rs : List Rec) (L : Nat → Bool) (c : St) : Prop :=
  c.n = st0.n ∧ (∀ t, c.get t = lastOf L (valF opl rs t) (st0.get t) opl.length) ∧ (∀ s, c.o.get s = lastOf L (objF rs s) (st0.o.get s) opl.length) ∧ c.g = st0.g

theorem set_g {st st' : St} {d : Option Nat} {v : V} (h : st.set d v = some st') : st'.g = st.g := by
  unfold St.set at h
  split at h
  · injection h with h; subst h; rfl
  · split at h
    · injection h with h; subst h; rfl
    · cases h
theorem step_g {Γ : Orc} {P : Program} {opl : List Oper} {st st' : St} {o : Oper} (h : step Γ P opl st o = some st') : st'.g = st.g := by
  unfold step at h
  split at h
  · exact set_g h
  · split at h
    · have := set_g h; exact this
    · cases h
  · cases h
theorem drun_g {Γ : Orc} {P : Program} {opl : List Oper} : ∀ (l : List Oper) (st : St) (rs : List Rec) (st' : St), drun Γ P opl l st = some (rs, st') → st'.g = st.g
  | [], st, rs, st', h => by simp [drun] at h; rw [h.2]
  | o :: r, st, rs, st', h => by
    simp only [drun] at h
    split at h
    · split at h
      · rename_i st1 h1
        split at h
        · rename_i rs' s hd
          simp only [Option.some.injEq, Prod.mk.injEq] at h
          obtain ⟨_, rfl⟩ := h
          rw [drun_g r st1 rs' _ hd, set_g h1]
        · cases h
      · cases h
    · split at h
      · split at h
        · split at h
          · rename_i st1 h1
            split at h
            · rename_i rs' s hd
              simp only [Option.some.injEq, Prod.mk.injEq] at h
              obtain ⟨_, rfl⟩ := h
              rw [drun_g r st1 rs' _ hd]
              have := set_g h1; exact this
            · cases h
          · cases h
        · cases h
      · cases h
    · cases h

def DC (opl : List Oper) (L : Nat → Bool) : Prop := ∀ (j : Nat) (o : Oper), L j = true → opl[j]? = some o → ∀ e ∈ o.after.toList, Region.binds .any e = true → L e.on = true

theorem zipIdx_mem {α : Type} {l : List α} {i : Nat} {x : α} (h : l[i]? = some x) : (x, i) ∈ l.zipIdx := by
  rw [List.mem_iff_getElem?]
  exact ⟨i, by simp [h]⟩

theorem tmpsOk_edge {opl : List Oper} (h : tmpsOk opl = true) {i : Nat} {o : Oper} (ho : opl[i]? = some o) : ∀ e ∈ o.after.toList, Region.binds .any e = true → e.on < i := by
  intro e he hb
  unfold tmpsOk at h
  have := List.all_eq_true.1 h (o, i) (zipIdx_mem ho)
  simp only [Bool.and_eq_true] at this
  have h1 := Array.all_eq_true_iff_forall_mem.1 this.1 e (by simpa using he)
  simpa [hb] using h1

theorem tmpsOk_dst {opl : List Oper} (h : tmpsOk opl = true) {i j d : Nat} {oi oj : Oper} (hi : opl[i]? = some oi) (hj : opl[j]? = some oj) (hne : i ≠ j) (hd : oi.dst = some d)
    (hl : d ∈ looksL opl oj ∨ oj.dst = some d) : ordered (masks opl) (min i j) (max i j) = true := by
  unfold tmpsOk at h
  have := List.all_eq_true.1 h (oi, i) (zipIdx_mem hi)
  simp only [Bool.and_eq_true, hd] at this
  have h2 := List.all_eq_true.1 this.2 (oj, j) (zipIdx_mem hj)
  simp only [Bool.or_eq_true, Bool.not_eq_true', beq_iff_eq] at h2
  rcases h2 with (h2 | h2) | h2
  · exact absurd h2 hne
  · exfalso
    rcases hl with hl | hl
    · have : (looksL opl oj).contains d = true := by simpa using hl
      simp only [this, Bool.true_or] at h2
      cases h2
    · simp [hl] at h2
  · exact h2

theorem meets_of {a b : List Nat} {s : Nat} (ha : s ∈ a) (hb : s ∈ b) : meets a b = true := by
  unfold meets
  exact List.any_eq_true.2 ⟨s, ha, by simpa using hb⟩

theorem objsOk_of {opl : List Oper} {rs : List Rec} (h : objsOk opl rs = true) {i j s : Nat} {ri rj : Rec} (hi : rs[i]? = some ri) (hj : rs[j]? = some rj) (hne : i ≠ j) (hw : s ∈ keys ri.W) (hf : s ∈ rj.F) :
    ordered (masks opl) (min i j) (max i j) = true := by
  unfold objsOk at h
  have := List.all_eq_true.1 h (ri, i) (zipIdx_mem hi)
  simp only [Bool.or_eq_true] at this
  rcases this with h1 | h1
  · have : ri.W = [] := by simpa using h1
    rw [this] at hw; simp [keys] at hw
  · have h2 := List.all_eq_true.1 h1 (rj, j) (zipIdx_mem hj)
    simp only [Bool.or_eq_true, beq_iff_eq, Bool.not_eq_true', meets_of hw hf] at h2
    rcases h2 with (h2 | h2) | h2
    · exact absurd h2 hne
    · cases h2
    · exact h2

section
variable {κ : Cx} {Γ : Orc} {ops : Array Oper} {st0 stn : St} {rs : List Rec}

/-- Who is ready steps as in the text's order. -/
theorem corr_step (hrun : drun Γ κ.P ops.toList ops.toList st0 = some (rs, stn)) (hobj : objsOk ops.toList rs = true) (htmp : tmpsOk ops.toList = true)
    {L L' : Nat → Bool} {c : St} (hc : Corr st0 ops.toList rs L c) (hdc : DC ops.toList L) {i : Nat} {o : Oper} (ho : ops.toList[i]? = some o) (hi : L i = false)
    (hpre : ∀ e ∈ o.after.toList, Region.binds .any e = true → L e.on = true) (hL' : ∀ j, L' j = (L j || j == i)) :
    ∃ c', step Γ κ.P ops.toList c o = some c' ∧ Corr st0 ops.toList rs L' c' := by
  generalize ops.toList = opl at *
  obtain ⟨hlen, hn, _, _, hone⟩ := drun_ok opl st0 stn rs hrun
  have hil : i < opl.length := (List.getElem?_eq_some_iff.1 ho).1
  have hri : rs[i]? = some rs[i] := List.getElem?_eq_getElem (by omega)
  generalize rs[i] = r at hri
  obtain ⟨sti, hni, hget, hobjs, hdst, hcase⟩ := hone i o r ho hri
  -- whoever stands before or behind i as ordered is in L, or not
  have before : ∀ j, j < opl.length → j ≠ i → ordered (masks opl) (min j i) (max j i) = true → (L j = true ↔ j < i) := by
    intro j hj hne hord
    constructor
    · intro hLj
      rcases Nat.lt_or_ge j i with h | h
      · exact h
      · exfalso
        rw [show min j i = i from by omega, show max j i = j from by omega] at hord
        have := ordered_in hdc j i opl[j] (List.getElem?_eq_getElem hj) hord (hdc j opl[j] hLj (List.getElem?_eq_getElem hj))
        rw [hi] at this; cases this
    · intro hlt
      rw [show min j i = j from by omega, show max j i = i from by omega] at hord
      exact ordered_in hdc i j o ho hord hpre
  have hW : ∀ (j : Nat) (o' : Oper) (r' : Rec), opl[j]? = some o' → rs[j]? = some r' → ∀ s ∈ keys r'.W, s ∈ r'.F := by
    intro j o' r' ho' hr' s hs
    obtain ⟨_, _, _, _, _, hcase'⟩ := hone j o' r' ho' hr'
    rcases hcase' with ⟨_, rfl⟩ | ⟨_, T, _, _, _, _, hw, hsub⟩
    · simp [keys] at hs
    · rw [hw] at hs
      simp only [keys, List.map_map, List.mem_map, Function.comp] at hs
      obtain ⟨s', hs', rfl⟩ := hs
      exact hsub s' hs'
  -- what i looks at is as it was
  have tmp_eq : ∀ t, t ∈ looksL opl o → c.get t = sti.get t := by
    intro t ht
    rw [hc.2.1, hget]
    refine lastOf_agree _ (by omega) fun j hj hf => ?_
    by_cases hji : j = i
    · subst hji; rw [hi]; simp
    · have hoj := List.getElem?_eq_getElem hj
      have hd : opl[j].dst = some t := by
        simp only [valF, hoj, Option.bind_some] at hf
        by_cases hd : opl[j].dst = some t
        · exact hd
        · rw [if_neg hd] at hf; exact absurd rfl hf
      exact before j hj hji (tmpsOk_dst htmp hoj ho hji hd (.inl ht))
  have tab_eq : ∀ s, s ∈ r.F → c.o.get s = sti.o.get s := by
    intro s hs
    rw [hc.2.2.1, hobjs]
    refine lastOf_agree _ (by omega) fun j hj hf => ?_
    by_cases hji : j = i
    · subst hji; rw [hi]; simp
    · have hrj : rs[j]? = some rs[j] := List.getElem?_eq_getElem (by omega)
      have hk : s ∈ keys rs[j].W := by
        simp only [objF, hrj, Option.bind_some] at hf
        exact look_keys hf
      exact before j hj hji (objsOk_of hobj hrj hri hji hk hs)
  have hguard : aguard opl c o = aguard opl sti o := by
    unfold aguard
    cases hg : o.guard with
    | none => rfl
    | some p =>
      obtain ⟨g, want⟩ := p
      simp only
      cases hd : (opl[g]?).bind (·.dst) with
      | none => rfl
      | some t =>
        simp only
        rw [tmp_eq t (by unfold looksL; rw [hg]; simp [hd])]
  have heval : ∀ x ∈ o.op.operands, c.eval x = sti.eval x := by
    intro x hx
    cases x with
    | tmp t => exact tmp_eq t (by unfold looksL; exact List.mem_append_left _ (List.mem_filterMap.2 ⟨.tmp t, by simpa using hx, rfl⟩))
    | _ => rfl
  -- the values that are written
  have hval : ∀ t, valF opl rs t i = if o.dst = some t then some r.v else none := by
    intro t
    simp only [valF, ho, Option.bind_some, hri, Option.map_some]
  have hob : ∀ s, objF rs s i = look r.W s := by
    intro s
    simp only [objF, hri, Option.bind_some]
  have later : ∀ j, j < opl.length → i < j → ordered (masks opl) (min j i) (max j i) = true → L j = false := by
    intro j hj hij hord
    have := before j hj (by omega) hord
    cases hLj : L j with
    | false => rfl
    | true => have := this.1 hLj; omega
  have updT : ∀ t, lastOf L' (valF opl rs t) (st0.get t) opl.length = if o.dst = some t then r.v else c.get t := by
    intro t
    by_cases hd : o.dst = some t
    · rw [lastOf_upd hL' hi _ hil fun j hj hij hf => ?_, hval, if_pos hd, if_pos hd]
      · rfl
      · have hoj := List.getElem?_eq_getElem hj
        have hdj : opl[j].dst = some t := by
          simp only [valF, hoj, Option.bind_some] at hf
          by_cases hd : opl[j].dst = some t
          · exact hd
          · rw [if_neg hd] at hf; exact absurd rfl hf
        exact later j hj hij (tmpsOk_dst htmp hoj ho (by omega) hdj (.inr hd))
    · rw [if_neg hd, hc.2.1]
      refine lastOf_congr _ fun j hj hf => ?_
      rw [hL']
      by_cases hji : j = i
      · subst hji; rw [hval, if_neg hd] at hf; exact absurd rfl hf
      · have : (j == i) = false := by rw [beq_eq_false_iff_ne]; exact hji
        rw [this]; simp
  have updO : ∀ s, lastOf L' (objF rs s) (st0.o.get s) opl.length = (look r.W s).getD (c.o.get s) := by
    intro s
    by_cases hl : look r.W s = none
    · rw [hl, hc.2.2.1]
      refine lastOf_congr _ fun j hj hf => ?_
      rw [hL']
      by_cases hji : j = i
      · subst hji; rw [hob] at hf; exact absurd hl hf
      · have : (j == i) = false := by rw [beq_eq_false_iff_ne]; exact hji
        rw [this]; simp
    · rw [lastOf_upd hL' hi _ hil fun j hj hij hf => ?_, hob, ← hc.2.2.1]
      have hrj : rs[j]? = some rs[j] := List.getElem?_eq_getElem (by omega)
      have hk : s ∈ keys rs[j].W := by
        simp only [objF, hrj, Option.bind_some] at hf
        exact look_keys hf
      exact later j hj hij (objsOk_of hobj hrj hri (by omega) hk (hW i o r ho hri s (look_keys hl)))
  have setOk : ∀ (x : St) (v : V), x.n = st0.n → ∃ c', x.set o.dst v = some c' ∧ c'.n = x.n ∧ c'.o = x.o ∧ ∀ t, c'.get t = if o.dst = some t then v else x.get t := by
    intro x v hx
    have hs : ∃ c', x.set o.dst v = some c' := by
      unfold St.set
      cases hd : o.dst with
      | none => exact ⟨_, rfl⟩
      | some d => simp only; rw [if_pos (by rw [hx, ← hni]; exact hdst d hd)]; exact ⟨_, rfl⟩
    obtain ⟨c', hs⟩ := hs
    obtain ⟨a1, a2, _, a4⟩ := set_get hs
    exact ⟨c', hs, a1, a2, a4⟩
  rcases hcase with ⟨hg, hr⟩ | ⟨hg, T, v0, he, hv0, hF, hWr, hsub⟩
  · obtain ⟨c', hs, a1, a2, a3⟩ := setOk c (.tup []) hc.1
    refine ⟨c', by simp only [step, hguard, hg]; exact hs, by rw [a1, hc.1], fun t => ?_, fun s => ?_, (set_g hs).trans hc.2.2.2⟩
    · rw [updT, a3, hr]
    · rw [updO, a2, hr]; rfl
  · -- the same reckoning over what i leads to
    have hrest : restrict r.F c.o = restrict r.F sti.o := by
      unfold restrict
      exact List.map_congr_left fun s hs => by rw [tab_eq s hs]
    have hcong : estep Γ κ.P { c with o := restrict r.F c.o } o = some (v0, T) := by
      rw [← he]
      refine estep_congr hrest fun x hx => ?_
      rw [eval_o, eval_o]
      exact heval x hx
    have hle : Le (fun s => s ∈ r.F) ({ c with o := restrict r.F c.o } : St).o c.o := by
      intro s hs
      show c.o.get s = (restrict r.F c.o).get s
      rw [get_restrict]
      by_cases hm : s ∈ r.F
      · rw [if_pos hm]
      · rw [if_neg hm]
        rcases hs with hs | hs
        · have : (restrict r.F c.o).there s := hs
          simp only [Tab.there, get_restrict, if_neg hm] at this
          exact this.elim
        · exact absurd hs hm
    have hfs : ∀ j, j < 4 → fsite (o.dst.getD 99999) j ∈ r.F := by
      intro j hj
      rw [hF]
      unfold foot
      exact List.mem_append_left _ (List.mem_map.2 ⟨j, by simpa using hj, rfl⟩)
    obtain ⟨T1, hT1, hext⟩ := estep_mono (st := { c with o := restrict r.F c.o }) (T' := c.o) (E := fun s => s ∈ r.F) hle
      (fun d hd => by have := hfs 0 (by omega); rw [hd] at this; simpa [fsite] using this) hfs hcong
    obtain ⟨c', hs, a1, a2, a3⟩ := setOk { c with o := T1 } r.v hc.1
    refine ⟨c', by simp only [step, hguard, hg]; rw [show estep Γ κ.P c o = some (v0, T1) from hT1]; simp only; rw [← hv0]; exact hs, by rw [a1]; exact hc.1, fun t => ?_, fun s => ?_, (set_g (st := { c with o := T1 }) hs).trans hc.2.2.2⟩
    · rw [updT, a3]; rfl
    · rw [updO, a2]
      show T1.get s = _
      by_cases hm : s ∈ wsites κ.P { sti with o := restrict r.F sti.o } o
      · have hlk : look r.W s = some (T.get s) := by
          rw [hWr]
          generalize wsites κ.P { sti with o := restrict r.F sti.o } o = ws at hm
          induction ws with
          | nil => cases hm
          | cons x ws ih =>
            simp only [List.map_cons, look]
            by_cases hx : x = s
            · rw [if_pos hx, hx]
            · rw [if_neg hx]
              exact ih (by rcases List.mem_cons.1 hm with h | h; exact absurd h.symm hx; exact h)
        rw [hlk]
        exact (hext s).1 (.inr (hsub s hm))
      · have hlk : look r.W s = none := by
          cases hl : look r.W s with
          | none => rfl
          | some ob =>
            have := look_keys (W := r.W) (s := s) (by rw [hl]; simp)
            rw [hWr] at this
            simp only [keys, List.map_map, List.mem_map, Function.comp] at this
            obtain ⟨s', hs', rfl⟩ := this
            exact absurd hs' hm
        rw [hlk]
        have hun := estep_unchanged he (s := s) hm
        by_cases hF' : s ∈ r.F
        · rw [(hext s).1 (.inr hF'), hun]
          show (restrict r.F sti.o).get s = c.o.get s
          rw [get_restrict, if_pos hF', tab_eq s hF']
        · refine ((hext s).2 fun h => ?_).1
          rcases h with h | h
          · have : (restrict r.F c.o).there s := h
            simp only [Tab.there, get_restrict, if_neg hF'] at this
            exact this.elim
          · exact hF' h

theorem wpOp_of_step {κ : Cx} {Γ : Orc} (hΓ : GammaOk κ.P Γ) {ops : Array Oper} {Q : Exit → Act → World → Prop} {i : Nat} {o : Oper} (ho : ops[i]? = some o) {c c' : St} {a : Act} {w : World} (h : Rel κ c a w)
    (hs : step Γ κ.P ops.toList c o = some c') {K : Act → World → Prop} (hK : ∀ a' w', Rel κ c' a' w' → K a' w') : wpOp κ.P ops Q i K a w := by
  obtain ⟨ι, h⟩ := h
  have := step_ok (Q := Q) hΓ h hs hK
  unfold wpOp
  simp only [ho]
  split
  · rename_i hw; rw [if_pos hw] at this; exact .inl this
  · rename_i hw; rw [if_neg hw] at this; exact this

/-- How many are not listed yet. -/
def unl (L : Nat → Bool) : Nat → Nat
  | 0 => 0
  | n + 1 => unl L n + if L n = true then 0 else 1
theorem unl_upd {L L' : Nat → Bool} {i : Nat} (hL : ∀ j, L' j = (L j || j == i)) (hi : L i = false) : ∀ n, i < n → unl L n = unl L' n + 1
  | 0, h => by omega
  | n + 1, h => by
    by_cases hn : i = n
    · subst hn
      have e : unl L i = unl L' i := by
        have : ∀ m, m ≤ i → unl L m = unl L' m := by
          intro m
          induction m with
          | zero => intro _; rfl
          | succ m ih =>
            intro hm
            have : (m == i) = false := by rw [beq_eq_false_iff_ne]; omega
            simp only [unl, ih (by omega), hL, this, Bool.or_false]
        exact this i (Nat.le_refl _)
      simp [unl, hL, hi, e]
    · have ih := unl_upd hL hi n (by omega)
      have : (n == i) = false := by rw [beq_eq_false_iff_ne]; omega
      simp only [unl, hL, this, Bool.or_false, ih]
      omega
theorem unl_zero {L : Nat → Bool} : ∀ n, unl L n = 0 → ∀ j, j < n → L j = true
  | 0, _, j, h => by omega
  | n + 1, hu, j, h => by
    simp only [unl] at hu
    have h0 : unl L n = 0 := by omega
    by_cases hj : j = n
    · subst hj
      cases hl : L j with
      | true => rfl
      | false => simp [hl] at hu
    · exact unl_zero n h0 j (by omega)
theorem unl_least {L : Nat → Bool} : ∀ n, unl L n ≠ 0 → ∃ j, j < n ∧ L j = false ∧ ∀ k, k < j → L k = true
  | 0, h => absurd rfl h
  | n + 1, h => by
    by_cases h0 : unl L n = 0
    · refine ⟨n, by omega, ?_, unl_zero n h0⟩
      cases hl : L n with
      | false => rfl
      | true => simp [unl, h0, hl] at h
    · obtain ⟨j, h1, h2, h3⟩ := unl_least n h0
      exact ⟨j, by omega, h2, h3⟩

theorem any_ok (hΓ : GammaOk κ.P Γ) (hrun : drun Γ κ.P ops.toList ops.toList st0 = some (rs, stn)) (hobj : objsOk ops.toList rs = true) (htmp : tmpsOk ops.toList = true)
    {Q : Exit → Act → World → Prop} (hQ : ∀ a w, Rel κ stn a w → Q .normal a w) : ∀ (fuel : Nat) (listed : Array Bool) (c : St) (a : Act) (w : World), listed.size = ops.size →
      unl (fun j => listed.getD j false) ops.size ≤ fuel → Corr st0 ops.toList rs (fun j => listed.getD j false) c → DC ops.toList (fun j => listed.getD j false) → Rel κ c a w →
      wpAny κ.P .any ops Q fuel listed a w := by
  obtain ⟨_, hn, hgetn, hobjn, _⟩ := drun_ok ops.toList st0 stn rs hrun
  -- all are listed: the text's own end
  have fin : ∀ (listed : Array Bool) (c : St) (a : Act) (w : World), unl (fun j => listed.getD j false) ops.size = 0 → Corr st0 ops.toList rs (fun j => listed.getD j false) c → Rel κ c a w → Q .normal a w := by
    intro listed c a w hu hc hr
    have hall := unl_zero _ hu
    refine hQ a w (hr.ext (by rw [hn, hc.1]) (fun t => ?_) (fun s => ?_) (by rw [drun_g _ _ _ _ hrun, hc.2.2.2]))
    · rw [hgetn, hc.2.1]; exact (lastOf_congr _ fun j hj _ => hall j (by simpa using hj)).symm
    · rw [hobjn, hc.2.2.1]; exact (lastOf_congr _ fun j hj _ => hall j (by simpa using hj)).symm
  -- somebody is not: somebody is ready
  have rdy : ∀ (listed : Array Bool), listed.size = ops.size → unl (fun j => listed.getD j false) ops.size ≠ 0 → Region.ready .any ops listed ≠ [] := by
    intro listed hsz hu he
    obtain ⟨j, h1, h2, h3⟩ := unl_least _ hu
    have hm : j ∈ Region.ready .any ops listed := by
      rw [mem_ready]
      refine ⟨?_, ops[j], Array.getElem?_eq_getElem h1, fun e he hb => h3 e.on ?_⟩
      · have : j < listed.size := by omega
        simp only [Array.getD_eq_getD_getElem?, Array.getElem?_eq_getElem this, Option.getD_some] at h2 ⊢
        exact h2
      · exact tmpsOk_edge htmp (i := j) (o := ops[j]) (by simp [h1]) e (by simpa using he) hb
    rw [he] at hm
    cases hm
  intro fuel
  induction fuel with
  | zero =>
    intro listed c a w hsz hu hc hdc hr
    have h0 : unl (fun j => listed.getD j false) ops.size = 0 := by omega
    refine ⟨?_, fin listed c a w h0 hc hr⟩
    cases hre : Region.ready .any ops listed with
    | nil => rfl
    | cons i l =>
      exfalso
      have hm : i ∈ Region.ready .any ops listed := by rw [hre]; simp
      rw [mem_ready] at hm
      obtain ⟨h1, o, ho, _⟩ := hm
      have hi : i < ops.size := (Array.getElem?_eq_some_iff.1 ho).1
      have h2 := unl_zero _ h0 i hi
      have : i < listed.size := by omega
      simp only [Array.getD_eq_getD_getElem?, Array.getElem?_eq_getElem this, Option.getD_some] at h1 h2
      rw [h1] at h2; cases h2
  | succ fuel ih =>
    intro listed c a w hsz hu hc hdc hr
    refine ⟨fun hre => ?_, fun i hm => ?_⟩
    · by_cases h0 : unl (fun j => listed.getD j false) ops.size = 0
      · exact fin listed c a w h0 hc hr
      · exact absurd hre (rdy listed hsz h0)
    · rw [mem_ready] at hm
      obtain ⟨h1, o, ho, hp⟩ := hm
      have hi : i < ops.size := (Array.getElem?_eq_some_iff.1 ho).1
      have hil : i < listed.size := by omega
      have hLi : listed.getD i false = false := by
        simp only [Array.getD_eq_getD_getElem?, Array.getElem?_eq_getElem hil, Option.getD_some] at h1 ⊢
        exact h1
      have hol : ops.toList[i]? = some o := by simpa using ho
      have hL' : ∀ j, (listed.setIfInBounds i true).getD j false = (listed.getD j false || j == i) := by
        intro j
        by_cases hji : j = i
        · subst hji; simp [hil]
        · have : (j == i) = false := by rw [beq_eq_false_iff_ne]; exact hji
          rw [this, Bool.or_false, getD_set_ne false (Ne.symm hji)]
      obtain ⟨c', hstep, hc'⟩ := corr_step hrun hobj htmp (L := fun j => listed.getD j false) (L' := fun j => (listed.setIfInBounds i true).getD j false) hc hdc hol hLi (fun e he hb => hp e (by simpa using he) hb) hL'
      refine wpOp_of_step hΓ ho hr hstep fun a' w' hr' => ih _ c' a' w' (by simpa using hsz) ?_ hc' ?_ hr'
      · have := unl_upd (L := fun j => listed.getD j false) (L' := fun j => (listed.setIfInBounds i true).getD j false) hL' hLi ops.size hi
        omega
      · intro j o' hj ho' e he hb
        have hj' : (listed.setIfInBounds i true).getD j false = true := hj
        show (listed.setIfInBounds i true).getD e.on false = true
        rw [hL'] at hj' ⊢
        simp only [Bool.or_eq_true, beq_iff_eq] at hj' ⊢
        rcases hj' with hj | rfl
        · exact .inl (hdc j o' hj ho' e he hb)
        · rw [hol] at ho'; injection ho' with ho'; subst ho'
          exact .inl (hp e (by simpa using he) hb)

/-- THE RULE FOR A REGION THAT DRAWS ITS ORDER. -/
theorem draw_ok (hΓ : GammaOk κ.P Γ) (hm : κ.P.follows .mixedOrders = true) (htmp : tmpsOk ops.toList = true) {st st' : St} {id : Nat} {a : Act} {w : World} {Q : Exit → Act → World → Prop}
    (hx : execDraw Γ κ.P ops.toList st = some st') (h : Rel κ st a w) (hQ : ∀ a w, Rel κ st' a w → Q .normal a w) : (Code.region id ops true).wp κ.P Q a w := by
  unfold execDraw at hx
  split at hx
  · rename_i st1 h1
    simp only at hx
    split at hx
    · rename_i rs stn hd
      split at hx
      · rename_i hobj
        injection hx with hx; subst hx
        obtain ⟨ι, h⟩ := h
        have h0 := To.rel h (To.freezes h ((st.o.map (·.1)).filter fun s => !frozenB st.o s && frozenB st1.o s))
        refine wp_region_any hm ?_
        refine any_ok hΓ hd hobj htmp hQ ops.size _ _ a _ (by simp) ?_ ⟨rfl, fun t => ?_, fun s => ?_, rfl⟩ ?_ ⟨ι, ?_⟩
        · have : ∀ (L : Nat → Bool) n, unl L n ≤ n := by
            intro L n
            induction n with
            | zero => exact Nat.le_refl _
            | succ n ih => simp only [unl]; split <;> omega
          exact this _ _
        · have e : ∀ (f : Nat → Option V) x n, lastOf (fun j => (Array.replicate ops.size false).getD j false) f x n = x := by
            intro f x n
            induction n with
            | zero => rfl
            | succ n ih =>
              have : (Array.replicate ops.size false).getD n false = false := by simp [Array.getElem?_replicate]; split <;> rfl
              simp only [lastOf, this, Bool.false_eq_true, if_false, ih]
          exact (e _ _ _).symm
        · have e : ∀ (f : Nat → Option Ob) x n, lastOf (fun j => (Array.replicate ops.size false).getD j false) f x n = x := by
            intro f x n
            induction n with
            | zero => rfl
            | succ n ih =>
              have : (Array.replicate ops.size false).getD n false = false := by simp [Array.getElem?_replicate]; split <;> rfl
              simp only [lastOf, this, Bool.false_eq_true, if_false, ih]
          exact (e _ _ _).symm
        · intro j o hj
          have : (Array.replicate ops.size false).getD j false = false := by simp [Array.getElem?_replicate]; split <;> rfl
          have hj' : (Array.replicate ops.size false).getD j false = true := hj
          rw [this] at hj'; cases hj'
        · have hd := To.drew h0 (w' := { w with drawn := w.drawn + 1 }) rfl rfl rfl rfl
          have := h0.set (dst := none) (v := .undef) (cv := undef) hd rfl (.undef _)
          simpa [Act.put] using this
      · cases hx
    · cases hx
  · cases hx

/-- The same, some rows being handed on ahead of it. -/
theorem draw_okZ (hΓ : GammaOk κ.P Γ) (hm : κ.P.follows .mixedOrders = true) (htmp : tmpsOk ops.toList = true) {st st' : St} {id : Nat} {a : Act} {w : World} {Q : Exit → Act → World → Prop} (Z : List Nat) {rs : List Rec}
    (hd : drun Γ κ.P ops.toList ops.toList { st with o := st.o.freezes Z } = some (rs, st')) (hobj : objsOk ops.toList rs = true) (h : Rel κ st a w) (hQ : ∀ a w, Rel κ st' a w → Q .normal a w) : (Code.region id ops true).wp κ.P Q a w := by
  obtain ⟨ι, h⟩ := h
  have h0 := To.rel h (To.freezes h Z)
  refine wp_region_any hm ?_
  refine any_ok hΓ hd hobj htmp hQ ops.size _ _ a _ (by simp) ?_ ⟨rfl, fun t => ?_, fun s => ?_, rfl⟩ ?_ ⟨ι, ?_⟩
  · have : ∀ (L : Nat → Bool) n, unl L n ≤ n := by
      intro L n
      induction n with
      | zero => exact Nat.le_refl _
      | succ n ih => simp only [unl]; split <;> omega
    exact this _ _
  · have e : ∀ (f : Nat → Option V) x n, lastOf (fun j => (Array.replicate ops.size false).getD j false) f x n = x := by
      intro f x n
      induction n with
      | zero => rfl
      | succ n ih =>
        have : (Array.replicate ops.size false).getD n false = false := by simp [Array.getElem?_replicate]; split <;> rfl
        simp only [lastOf, this, Bool.false_eq_true, if_false, ih]
    exact (e _ _ _).symm
  · have e : ∀ (f : Nat → Option Ob) x n, lastOf (fun j => (Array.replicate ops.size false).getD j false) f x n = x := by
      intro f x n
      induction n with
      | zero => rfl
      | succ n ih =>
        have : (Array.replicate ops.size false).getD n false = false := by simp [Array.getElem?_replicate]; split <;> rfl
        simp only [lastOf, this, Bool.false_eq_true, if_false, ih]
    exact (e _ _ _).symm
  · intro j o hj
    have : (Array.replicate ops.size false).getD j false = false := by simp [Array.getElem?_replicate]; split <;> rfl
    have hj' : (Array.replicate ops.size false).getD j false = true := hj
    rw [this] at hj'; cases hj'
  · have hd := To.drew h0 (w' := { w with drawn := w.drawn + 1 }) rfl rfl rfl rfl
    have := h0.set (dst := none) (v := .undef) (cv := undef) hd rfl (.undef _)
    simpa [Act.put] using this

end
end Go.Abs
