/- A region that draws its order comes to what the text's order comes to. -/
import Derived.Test.YtiaoojocpcldmaaGreatAbsS
namespace Go.Abs
open Go.RowKit
set_option linter.unusedVariables false
set_option linter.unusedSimpArgs false

theorem fold_bit {g : Edge → Nat} {b : Edge → Bool} {i : Nat} : ∀ (l : List Edge) (s0 : Nat), (l.foldl (fun s e => if b e then s ||| (2 ^ e.on ||| g e) else s) s0).testBit i = true →
    s0.testBit i = true ∨ ∃ e ∈ l, b e = true ∧ (i = e.on ∨ (g e).testBit i = true)
  | [], s0, h => .inl h
  | e :: l, s0, h => by
    simp only [List.foldl_cons] at h
    rcases fold_bit l _ h with h | ⟨e', he', h1, h2⟩
    · split at h
      · rename_i hb
        simp only [Nat.testBit_or, Bool.or_eq_true, Nat.testBit_two_pow, decide_eq_true_eq] at h
        rcases h with h | h | h
        · exact .inl h
        · exact .inr ⟨e, by simp, hb, .inl h.symm⟩
        · exact .inr ⟨e, by simp, hb, .inr h⟩
      · exact .inl h
    · exact .inr ⟨e', by simp [he'], h1, h2⟩

theorem masks_spec : ∀ (l : List Oper) (acc : List Nat), (l.foldl maskStep acc).length = acc.length + l.length ∧ (∀ i, i < acc.length → (l.foldl maskStep acc).getD i 0 = acc.getD i 0) ∧
    ∀ (j : Nat) (o : Oper), l[j]? = some o → ∀ i, ((l.foldl maskStep acc).getD (acc.length + j) 0).testBit i = true →
      ∃ e ∈ o.after.toList, Region.binds .any e = true ∧ (i = e.on ∨ (e.on < acc.length + j ∧ ((l.foldl maskStep acc).getD e.on 0).testBit i = true))
  | [], acc => by simp
  | o :: l, acc => by
    have hl : (maskStep acc o).length = acc.length + 1 := by simp [maskStep]
    obtain ⟨h1, h2, h3⟩ := masks_spec l (maskStep acc o)
    simp only [List.foldl_cons]
    refine ⟨by rw [h1, hl]; simp; omega, fun i hi => ?_, fun j o' ho i hb => ?_⟩
    · rw [h2 i (by omega)]
      simp [maskStep, List.getElem?_append_left hi]
    · cases j with
      | zero =>
        simp at ho; subst ho
        rw [Nat.add_zero, h2 acc.length (by omega)] at hb
        have hv : (maskStep acc o).getD acc.length 0 = o.after.toList.foldl (fun s e => if Region.binds .any e then s ||| (2 ^ e.on ||| acc.getD e.on 0) else s) 0 := by simp [maskStep]
        rw [hv] at hb
        rcases fold_bit o.after.toList 0 hb with h | ⟨e, he, hbe, h⟩
        · simp at h
        · refine ⟨e, he, hbe, ?_⟩
          rcases h with h | h
          · exact .inl h
          · have hlt : e.on < acc.length := by
              rcases Nat.lt_or_ge e.on acc.length with h' | h'
              · exact h'
              · simp [List.getElem?_eq_none h'] at h
            refine .inr ⟨by omega, ?_⟩
            rw [h2 e.on (by omega)]
            have : (maskStep acc o).getD e.on 0 = acc.getD e.on 0 := by simp [maskStep, List.getElem?_append_left hlt]
            rw [this]; exact h
      | succ j =>
        simp at ho
        rw [show acc.length + (j + 1) = (maskStep acc o).length + j from by omega] at hb ⊢
        exact h3 j o' ho i hb

/-- A set of places that holds what its members wait for holds whatever stands before them. -/
theorem ordered_in {opl : List Oper} {L : Nat → Bool} (hdc : ∀ (j : Nat) (o : Oper), L j = true → opl[j]? = some o → ∀ e ∈ o.after.toList, Region.binds .any e = true → L e.on = true) :
    ∀ (j i : Nat) (o : Oper), opl[j]? = some o → ordered (masks opl) i j = true → (∀ e ∈ o.after.toList, Region.binds .any e = true → L e.on = true) → L i = true := by
  intro j
  induction j using Nat.strongRecOn with
  | _ j ih =>
    intro i o ho hord hL
    obtain ⟨_, _, h3⟩ := masks_spec opl []
    have := h3 j o ho i (by simpa [ordered, masks] using hord)
    obtain ⟨e, he, hb, h⟩ := this
    rcases h with rfl | ⟨hlt, h⟩
    · exact hL e he hb
    · simp only [List.length_nil, Nat.zero_add] at hlt
      have hjl : j < opl.length := (List.getElem?_eq_some_iff.1 ho).1
      have hel : e.on < opl.length := by omega
      exact ih e.on hlt i opl[e.on] (List.getElem?_eq_getElem hel) (by simpa [ordered, masks] using h) (hdc e.on _ (hL e he hb) (List.getElem?_eq_getElem hel))

section
variable {κ : Cx} {ι : Nat → Nat} {st : St} {a : Act} {w : World}

theorem To.ext (h : RelI κ ι st a w) {T' : Tab} (hget : ∀ s, T'.get s = st.o.get s) : To κ st.o ι w T' ι w := by
  have hlive : ∀ t, T'.live t ↔ st.o.live t := fun t => by simp [Tab.live, hget]
  have H : Goes κ.D st.o ι w T' ι w := by
    refine ⟨fun p hp => ⟨⟨hp.1, hp.2.1, fun t hl => by rw [hget]; exact hp.2.2 t ((hlive t).1 hl)⟩, rfl⟩, fun t => by rw [hget]; exact Nat.le_refl _, fun t hl _ => ⟨(hlive t).1 hl, rfl⟩, fun t g ty sz fz' cs' hT _ => ?_, fun t g ty fz nl L hT _ => ?_⟩
    · rw [hget] at hT
      exact ⟨⟨ty, fz', cs', hT⟩, fun arr ty1 fz h => ⟨arr, ty1, fz, h, rfl⟩⟩
    · rw [hget] at hT
      exact ⟨⟨ty, fz, nl, L, hT, rfl, rfl, rfl⟩, fun _ arr ty1 fz h => ⟨arr, ty1, fz, h, rfl⟩⟩
  exact ⟨H, ⟨fun t => by rw [hget]; exact (h.tr.ob t).mono H rfl, fun t u ht hu => h.tr.inj t u ((hlive t).1 ht) ((hlive u).1 hu), fun t ht => h.tr.lt t ((hlive t).1 ht)⟩,
    fun t hl => h.my t ((hlive t).1 hl), h.kept⟩
theorem Rel.ext {st' : St} (h : Rel κ st a w) (hn : st'.n = st.n) (ht : ∀ t, st'.get t = st.get t) (ho : ∀ s, st'.o.get s = st.o.get s) (hg : st'.g = st.g := by rfl) : Rel κ st' a w := by
  obtain ⟨ι, h⟩ := h
  have h1 := To.rel h (To.ext h ho)
  exact ⟨ι, h1.dfr, by rw [hn]; exact h1.sz, fun t => by rw [ht]; exact h1.tm t, h1.tr, h1.my, h1.kept, h1.pin, by rw [hg]; exact h1.gh⟩

theorem estep_congr {Γ : Orc} {P : Program} {st st2 : St} {o : Oper} (ho : st.o = st2.o) (he : ∀ x ∈ o.op.operands, st.eval x = st2.eval x) : estep Γ P st o = estep Γ P st2 o := by
  have lst : ∀ (l : Array Operand), (∀ x ∈ l, st.eval x = st2.eval x) → l.toList.map st.eval = l.toList.map st2.eval := fun l h => List.map_congr_left fun x hx => h x (by simpa using hx)
  have prt : ∀ ps : Array (Nat × Operand), (∀ x ∈ (ps.toList.map (·.2)).toArray, st.eval x = st2.eval x) → st.parts ps.toList = st2.parts ps.toList := fun ps h => by
    simp only [St.parts]
    refine List.map_congr_left fun p hp => ?_
    rw [h p.2 (by simp; exact ⟨p.1, by simpa using hp⟩)]
  obtain ⟨dst, op, type, pos, after, guard⟩ := o
  simp only at he
  have hop : (∀ c, op ≠ .call c) → aop P st ⟨dst, op, type, pos, after, guard⟩ = aop P st2 ⟨dst, op, type, pos, after, guard⟩ := by
    intro hnc
    unfold aop
    cases op <;> simp only [Op.operands] at he <;> simp only [ho] <;> first
      | rfl
      | (exact absurd rfl (hnc _))
      | skip
    case move x => rw [he x (by simp)]
    case assign x => rw [he x (by simp)]
    case pick c a b => rw [he c (by simp), he a (by simp), he b (by simp)]
    case box e x => rw [he x (by simp)]
    case build t ps => rw [prt ps he]
    case buildSlice t l ps => rw [prt ps he]
    case load t x => rw [he x (by simp)]
    case store t x y => rw [he x (by simp), he y (by simp)]
    case nilCheck x => rw [he x (by simp)]
    case binOp op t x y yt => rw [he x (by simp), he y (by simp)]
    case unOp op t x => rw [he x (by simp)]
    case convert src dst x => rw [he x (by simp)]
    case makeInterface t x => rw [he x (by simp)]
    case makeFunc fn first caps =>
      cases fn with
      | func f => simp only; rw [lst caps fun x hx => he x (by simp [hx])]
      | _ => rfl
    case makeSlice t l c => rw [he l (by simp), he c (by simp)]
    case slice t x lo hi mx =>
      cases mx with
      | some m => rfl
      | none =>
        have e1 : lo.map st.eval = lo.map st2.eval := by cases lo with | none => rfl | some y => simp only [Option.map_some]; rw [he y (by simp)]
        have e2 : hi.map st.eval = hi.map st2.eval := by cases hi with | none => rfl | some y => simp only [Option.map_some]; rw [he y (by simp)]
        simp only [e1, e2]; rw [he x (by simp)]
    case fieldAddr s x f => rw [he x (by simp)]
    case field t x f => rw [he x (by simp)]
    case indexAddr t x ix => rw [he x (by simp), he ix (by simp)]
    case index t x ix => rw [he x (by simp), he ix (by simp)]
    case range t x => rw [he x (by simp)]
    case next it isS => rw [he it (by simp)]
    case typeAssert x xt asserted ok => rw [he x (by simp)]
    case extract x i => rw [he x (by simp)]
  unfold estep
  cases op with
  | call c =>
    obtain ⟨callee, args, ats⟩ := c
    simp only [Op.operands, Call.operands] at he
    cases callee with
    | value f =>
      simp only [ho]
      rw [he f (by simp), lst args fun x hx => he x (by simp [hx])]
    | invoke r m => simp only [aop]
    | builtin b =>
      have hl := lst args fun x hx => he x (by simp [hx])
      obtain ⟨al⟩ := args
      have hx : ∀ x ∈ al, st.eval x = st2.eval x := fun x hx => he x (by simp [hx])
      simp only at hl
      have : aop P st ⟨dst, .call ⟨.builtin b, ⟨al⟩, ats⟩, type, pos, after, guard⟩ = aop P st2 ⟨dst, .call ⟨.builtin b, ⟨al⟩, ats⟩, type, pos, after, guard⟩ := by
        unfold aop
        simp only [ho, hl]
        split
        · rename_i x t e; rw [hx x (by simp_all)]
        · rename_i s x t tx e; rw [hx x (by simp_all), hx s (by simp_all)]
        · rename_i s x t r e; rw [hx x (by simp_all), hx s (by simp_all)]
        · rw [hl]
        · rw [hl]
        · rfl
      simp only [this, ho]
  | _ =>
    simp only
    rw [hop fun c => by simp]
    simp only [ho]

end
end Go.Abs
