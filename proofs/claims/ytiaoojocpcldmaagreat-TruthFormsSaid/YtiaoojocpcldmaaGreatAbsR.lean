/- A region that draws its order: whatever the order, it comes to what the text's order comes to. -/
import Derived.Test.YtiaoojocpcldmaaGreatAbsQ
namespace Go.Abs
open Go.RowKit
set_option linter.unusedVariables false
set_option linter.unusedSimpArgs false

theorem eval_o (st : St) (T' : Tab) (x : Operand) : ({ st with o := T' } : St).eval x = st.eval x := by cases x <;> rfl
theorem eval_o' (st : St) (T' : Tab) : ({ st with o := T' } : St).eval = st.eval := funext (eval_o st T')
theorem parts_o (st : St) (T' : Tab) (ps : List (Nat × Operand)) : ({ st with o := T' } : St).parts ps = st.parts ps := by simp [St.parts, eval_o]

section
variable {E : Nat → Prop} {st : St} {T' : Tab} {P : Program} {Γ : Orc}

theorem map_none_wr {r : Option V} {v : V} {wr : Option (Nat × Ob)} (h : (r.map fun v => (v, (none : Option (Nat × Ob)))) = some (v, wr)) : ∀ s ob, wr = some (s, ob) → False := by
  intro s ob e; subst e; cases r <;> simp at h

theorem nStore_mono (hle : Le E st.o T') {t : Nat} {x v : V} {r : Option (Nat × Ob)} (h : nStore P st.o t x v = some r) : nStore P T' t x v = some r ∧ ∀ s o, r = some (s, o) → st.o.there s := by
  unfold nStore at h ⊢
  split at h
  · rename_i s g sz i off
    by_cases hl : st.o.there s
    · simp only [hle s (.inl hl)]
      refine ⟨h, fun s' o e => ?_⟩
      subst e
      split at h
      · split at h
        · split at h
          · split at h
            · split at h
              · simp at h; rw [← h.1]; exact hl
              · cases h
            · cases h
          · cases h
        · cases h
      · cases h
    · simp [dead_of hl] at h
      split at h <;> first | cases h | (split at h <;> cases h)
  · cases h
theorem aStoreN_mono (hle : Le E st.o T') {t : Nat} {x v : V} {r : Option (Nat × Ob)} (h : aStoreN P st.o t x v = some r) : aStoreN P T' t x v = some r ∧ ∀ s o, r = some (s, o) → st.o.there s := by
  cases x <;> simp only [aStoreN] at h ⊢ <;> first | exact nStore_mono hle h | exact aStore_mono hle h
theorem aArr_mono (hle : Le E st.o T') {t : Nat} {x v : V} {r : Option (Nat × Ob)} (h : aArr P st.o t x = some (v, r)) : aArr P T' t x = some (v, r) ∧ ∀ s o, r = some (s, o) → st.o.there s := by
  unfold aArr at h ⊢
  split at h
  · rename_i n e ht
    split at h
    · rename_i i hi
      split at h
      · rename_i s g
        by_cases hl : st.o.there s
        · simp only [hle s (.inl hl)]
          refine ⟨h, fun s' o e => ?_⟩
          subst e
          split at h
          · split at h
            · split at h
              · simp at h; rw [← h.2.1]; exact hl
              · cases h
            · cases h
          · cases h
        · simp only [dead_of hl] at h
          split at h <;> cases h
      · cases h
    · cases h
  · cases h
theorem aArr_slice {T T' : Tab} {t : Nat} {x y v : V} {lo hi : Option V} (h : aSlice P T t x lo hi = some v) : aArr P T' t y = none := by
  unfold aSlice at h
  unfold aArr
  split at h
  · rename_i e; rw [e]
  · rename_i e; rw [e]
  · cases h
theorem aop_mono (hle : Le E st.o T') {o : Oper} (hd : ∀ d, o.dst = some d → E d) {v : V} {wr : Option (Nat × Ob)} (h : aop P st o = some (v, wr)) :
    aop P { st with o := T' } o = some (v, wr) ∧ ∀ s ob, wr = some (s, ob) → st.o.there s ∨ E s := by
  obtain ⟨dst, op, type, pos, after, guard⟩ := o
  simp only at hd
  unfold aop at h ⊢
  simp only [eval_o, eval_o', parts_o]
  cases op <;> simp only at h ⊢
  case move x => exact ⟨h, fun s ob e => by subst e; simp at h⟩
  case assign x => exact ⟨h, fun s ob e => by subst e; simp at h⟩
  case pick c a b => refine ⟨h, fun s ob e => ?_⟩; subst e; split at h <;> simp at h
  case alloc e =>
    cases dst with
    | none => cases h
    | some d =>
      simp only [aAlloc] at h ⊢
      rw [hle d (.inr (hd d rfl))]
      refine ⟨h, fun s ob e' => ?_⟩
      subst e'
      cases hz : zeroC P e <;> simp [hz] at h
      rw [← h.2.1]; exact .inr (hd d rfl)
  case box e x =>
    cases dst with
    | none => cases h
    | some d =>
      simp only [aBox] at h ⊢
      rw [hle d (.inr (hd d rfl))]
      refine ⟨h, fun s ob e' => ?_⟩
      subst e'
      split at h
      · cases h
      · simp at h; rw [← h.2.1]; exact .inr (hd d rfl)
  case build t ps => exact ⟨h, fun s ob e => (map_none_wr h s ob e).elim⟩
  case buildSlice t len ps =>
    cases dst with
    | none => cases h
    | some d =>
      have old : ∀ {ps' : List (Nat × V)} {v : V} {wr : Option (Nat × Ob)}, aBuildSlice P st.o t len ps' d = some (v, wr) → aBuildSlice P T' t len ps' d = some (v, wr) ∧ ∀ s ob, wr = some (s, ob) → st.o.there s ∨ E s := by
        intro ps' v wr h
        simp only [aBuildSlice] at h ⊢
        rw [hle d (.inr (hd d rfl))]
        refine ⟨h, fun s ob e' => ?_⟩
        subst e'
        split at h
        · split at h
          · split at h
            · split at h
              · simp at h
                rw [← h.2.1]; exact .inr (hd d rfl)
              · cases h
            split at h
            · rename_i zs _ _ _
              cases hf : aFill (fun j => some (j * zs.length, zs.length)) (repl zs len) ps' <;> simp [hf] at h
              rw [← h.2.1]; exact .inr (hd d rfl)
            · cases h
          · cases h
        · cases h
      simp only at h ⊢
      generalize st.parts ps.toList = pp at h ⊢
      unfold aBuildN at h ⊢
      split at h
      · rename_i j s g
        try simp only
        by_cases hl : st.o.there s
        · simp only [hle s (.inl hl)]
          refine ⟨h, fun s' ob e' => ?_⟩
          subst e'
          split at h
          · split at h
            · rename_i ty fz nl L _
              cases hf : fillLst P t len [(j, .lst L)] (.list L.e) <;> simp [hf] at h
              rw [← h.2.1]; exact .inl hl
            · cases h
          · cases h
        · simp [dead_of hl] at h
      · rename_i j b r
        try simp only
        cases hf : fillLst P t len ((j, .str b) :: r) .str with
        | some v' =>
          simp only [hf] at h ⊢
          exact ⟨h, fun s ob e => by subst e; simp at h⟩
        | none =>
          simp only [hf] at h ⊢
          exact old h
      · rename_i h1 h2
        exact old h
  case load t x =>
    refine ⟨aLoad_mono hle h, fun s ob e => ?_⟩
    subst e
    unfold aLoad at h
    split at h
    · rename_i cs _
      cases hl : loadV P t cs <;> simp [hl] at h
    · cases h
  case store t x y =>
    cases hs : aStoreN P st.o t (st.eval x) (st.eval y) with
    | none => simp [hs] at h
    | some r =>
      simp [hs] at h
      obtain ⟨rfl, rfl⟩ := h
      obtain ⟨h1, h2⟩ := aStoreN_mono hle hs
      rw [h1]
      exact ⟨rfl, fun s ob e => .inl (h2 s ob e)⟩
  case nilCheck x => refine ⟨h, fun s ob e => ?_⟩; subst e; split at h <;> simp at h
  case binOp op t x y yt => exact ⟨h, fun s ob e => (map_none_wr h s ob e).elim⟩
  case unOp op t x => exact ⟨h, fun s ob e => (map_none_wr h s ob e).elim⟩
  case convert src dst' x =>
    cases dst with
    | none => cases h
    | some d => exact aConvert_mono hle (hd d rfl) h
  case makeInterface t x => exact ⟨h, fun s ob e => (map_none_wr h s ob e).elim⟩
  case makeFunc fn first caps =>
    cases fn with
    | func f =>
      simp only at h ⊢
      refine ⟨h, fun s ob e => ?_⟩
      subst e
      split at h <;> simp at h
    | _ => simp at h
  case makeSlice t l c =>
    cases dst with
    | none => cases h
    | some d =>
      simp only [aMake] at h ⊢
      rw [hle d (.inr (hd d rfl))]
      refine ⟨h, fun s ob e' => ?_⟩
      subst e'
      split at h
      · split at h
        · split at h
          · split at h
            · simp at h; rw [← h.2.1]; exact .inr (hd d rfl)
            · cases h
          · cases h
        · cases h
      · cases h
  case slice t x lo hi mx =>
    cases mx with
    | some m => cases h
    | none =>
      simp only at h ⊢
      cases hq : (if (lo.isNone && hi.isNone) = true then aArr P st.o t (st.eval x) else none) with
      | some r =>
        rw [hq] at h
        injection h with h; subst h
        split at hq
        · rename_i hn
          obtain ⟨h1, h2⟩ := aArr_mono hle hq
          rw [if_pos hn, h1]
          exact ⟨rfl, fun s ob e => .inl (h2 s ob e)⟩
        · cases hq
      | none =>
        rw [hq] at h
        obtain ⟨h1, rfl⟩ := one_eq h
        have e0 : (if (lo.isNone && hi.isNone) = true then aArr P T' t (st.eval x) else none) = none := by
          split
          · exact aArr_slice h1
          · rfl
        rw [e0, aSlice_mono hle h1]
        exact ⟨rfl, fun s ob e => by cases e⟩
  case fieldAddr s x f => exact ⟨h, fun s ob e => (map_none_wr h s ob e).elim⟩
  case field t x f => exact ⟨h, fun s ob e => (map_none_wr h s ob e).elim⟩
  case indexAddr t x ix =>
    obtain ⟨h1, rfl⟩ := one_eq h
    rw [aIndexAddr_mono hle h1]
    exact ⟨rfl, fun s ob e => by cases e⟩
  case index t x ix => exact ⟨h, fun s ob e => (map_none_wr h s ob e).elim⟩
  case range t x =>
    cases dst with
    | none => cases h
    | some d =>
      simp only [aRange] at h ⊢
      rw [hle d (.inr (hd d rfl))]
      refine ⟨h, fun s ob e' => ?_⟩
      subst e'
      split at h
      · simp at h; rw [← h.2.1]; exact .inr (hd d rfl)
      · cases h
  case next it isS =>
    obtain ⟨h1, h2⟩ := aNext_mono hle h
    exact ⟨h1, fun s ob e => .inl (h2 s ob e)⟩
  case typeAssert x xt asserted ok =>
    refine ⟨h, fun s ob e => ?_⟩
    split at h
    · injection h with h
      simp only [Prod.mk.injEq] at h
      rw [← h.2] at e; cases e
    · exact (map_none_wr h s ob e).elim
  case extract x i => exact ⟨h, fun s ob e => (map_none_wr h s ob e).elim⟩
  case call c =>
    obtain ⟨callee, args, ats⟩ := c
    cases callee with
    | builtin b =>
      simp only at h ⊢
      split at h
      · refine ⟨?_, fun s ob e => (map_none_wr h s ob e).elim⟩
        rename_i x t _ _
        cases hl : aLen P st.o t (st.eval x) with
        | none => simp [hl] at h
        | some u => rw [aLen_mono hle hl]; rw [hl] at h; exact h
      · cases dst with
        | none => cases h
        | some d =>
          simp only at h ⊢
          split at h
          · rename_i hs
            rw [if_pos hs]
            exact sAppend_mono hle (hd d rfl) h
          · rename_i hs
            rw [if_neg hs]
            split at h
            · rename_i ho
              rw [if_pos ho]
              exact oAppend_mono hle h
            · rename_i ho
              rw [if_neg ho]
              split at h
              · rename_i hc
                rw [if_pos hc]
                exact cAppend_mono hle h
              · rename_i hc
                rw [if_neg hc]
                exact aAppO_mono hle (hd d rfl) h
      · obtain ⟨h1, h2⟩ := aCopy_mono hle h
        exact ⟨h1, fun s ob e => .inl (h2 s ob e)⟩
      · exact ⟨h, fun s ob e => (map_none_wr h s ob e).elim⟩
      · exact ⟨h, fun s ob e => (map_none_wr h s ob e).elim⟩
      · cases h
    | _ => cases h
  all_goals cases h

theorem estep_mono (hle : Le E st.o T') {o : Oper} (hd : ∀ d, o.dst = some d → E d) (he : ∀ j, j < 4 → E (fsite (o.dst.getD 99999) j)) {v : V} {T1 : Tab} (h : estep Γ P st o = some (v, T1)) :
    ∃ T1', estep Γ P { st with o := T' } o = some (v, T1') ∧ Ext E st.o T' T1 T1' := by
  unfold estep at h ⊢
  simp only [eval_o, eval_o']
  split at h
  · rename_i f args ts ho
    split at h
    · exact aCall_mono hle he h
    · cases h
  · split at h
    · rename_i v' wr hop
      simp at h; obtain ⟨rfl, rfl⟩ := h
      obtain ⟨h1, h2⟩ := aop_mono hle hd hop
      rw [h1]
      refine ⟨_, rfl, ?_⟩
      cases wr with
      | none => exact Ext.refl hle
      | some p => exact (Ext.refl hle).put (h2 p.1 p.2 rfl) p.2
    · cases h

def frozenB (T : Tab) (s : Nat) : Bool := match (T.get s).k with
  | .row _ _ true _ => true
  | _ => false
/-- Which sites a step may turn. -/
def wsites (P : Program) (st : St) (o : Oper) : List Nat :=
  match o.op with
  | .call ⟨.value f, args, _⟩ => match st.eval f with
    | .fn _ caps => match viewL (viewA depth st.o) [] (args.toList.map st.eval ++ caps) with
      | some (_, l, bs) => match boxesOf depth st.o bs with
        | some (_, l2) => ((l ++ l2).filter fun s => !frozenB st.o s) ++ (bs ++ (List.range 4).map (fsite (o.dst.getD 99999)))
        | none => []
      | none => []
    | _ => []
  | _ => match aop P st o with
    | some (_, some (s, _)) => [s]
    | _ => []

theorem aCall_unchanged {T : Tab} {f d : Nat} {args : List V} {v : V} {T1 : Tab} (h : aCall Γ T f args d = some (v, T1)) {xs : List V} {l bs : List Nat} (hv : viewL (viewA depth T) [] args = some (xs, l, bs))
    {lb : List OK} {l2 : List Nat} (hb : boxesOf depth T bs = some (lb, l2)) {s : Nat} (h1 : ∀ x ∈ l ++ l2, x = s → frozenB T s = true) (h2 : s ∉ bs) (h3 : ∀ j, j < 4 → s ≠ fsite d j) : T1.get s = T.get s := by
  unfold aCall at h
  rw [hv] at h
  simp only at h
  split at h
  · rename_i hc
    rw [hb] at h
    simp only at h
    split at h
    · rename_i res lb' lf hg
      split at h
      · rename_i h4
        split at h
        · rename_i T2 hr
          split at h
          · rename_i T3 hf
            cases hq : ren T3 bs d lf.length res with
            | none => simp [hq] at h
            | some y =>
              simp [hq] at h
              obtain ⟨_, rfl⟩ := h
              obtain ⟨_, hr1, _⟩ := revive_ok bs lb' _ T2 hc.1 hr
              obtain ⟨hf1, _⟩ := fresh_ok bs d lf 0 T2 T3 hf
              rw [hf1 s fun j hj => by rw [Nat.zero_add]; exact h3 j (by omega), hr1 s h2, Tab.get_freezes]
              split
              · rename_i hm
                have hfz := h1 s (zs_mem hm) rfl
                unfold frozenB at hfz
                cases hT : T.get s with
                | mk g k =>
                  rw [hT] at hfz
                  cases k with
                  | row ty sz fz cs => cases fz <;> first | rfl | cases hfz
                  | _ => cases hfz
              · rfl
          · cases h
        · cases h
      · cases h
    · cases h
  · cases h

theorem estep_unchanged {o : Oper} {v : V} {T1 : Tab} (h : estep Γ P st o = some (v, T1)) {s : Nat} (hs : s ∉ wsites P st o) : T1.get s = st.o.get s := by
  unfold estep at h
  unfold wsites at hs
  split at h
  · rename_i f args ts ho
    rw [ho] at hs
    simp only at hs
    split at h
    · rename_i k caps hf
      rw [hf] at hs
      simp only at hs
      have h' := h
      unfold aCall at h'
      split at h'
      · rename_i xs l bs hv
        rw [hv] at hs
        simp only at hs
        split at h'
        · split at h'
          · rename_i lb l2 hb
            rw [hb] at hs
            simp only [List.mem_append, not_or, List.mem_map, List.mem_range, not_exists, not_and, List.mem_filter] at hs
            refine aCall_unchanged h hv hb (fun x hx e => ?_) hs.2.1 (fun j hj e => hs.2.2 j hj e.symm)
            subst e
            by_cases hfz : frozenB st.o x = true
            · exact hfz
            · exact absurd (by simpa using hfz) (hs.1 (by simpa using hx))
          · cases h'
        · cases h'
      · cases h'
    · cases h
  · rename_i hno
    split at h
    · rename_i v' wr hop
      simp at h; obtain ⟨rfl, rfl⟩ := h
      cases wr with
      | none => rfl
      | some p =>
        obtain ⟨s', ob⟩ := p
        simp only [wrT, Tab.get_put]
        split
        · rename_i e
          subst e
          exfalso
          apply hs
          split
          · rename_i f args ts ho; exact absurd ho (hno f args ts)
          · rw [hop]; simp
        · rfl
    · cases h

end
end Go.Abs
