/- Steps: the new operations, calls with rows lent; regions. -/
import Derived.Test.YtiaoojocpcldmaaGreatExtMp
namespace Go.Abs
open Go.RowKit
set_option linter.unusedVariables false
set_option linter.unusedSimpArgs false

section
variable {κ : Cx} {ι : Nat → Nat} {st : St} {a : Act} {w : World}
/-! A row of bytes, said to be bytes: it is one that nobody writes from there on. -/
def cvSame (P : Program) (T : Tab) (src dst : Nat) (x : V) : Option (V × Wr) :=
  if src = dst then (match P.underlying src with
    | some (.slice e) => match P.underlying e with
      | some (.int .u8) => match x with
        | .own s g off n => if (T.get s).gen = g then (match (T.get s).k with
          | .row ty sz false cs => if cs.all (fun d => d.pure && d.flat) = true ∧ (off + n) * sz ≤ cs.length ∧ sz = 1 then some (.sl n ((cs.take ((off + n) * sz)).drop (off * sz)), some (s, ⟨g + 1, .dead⟩)) else none
          | _ => none) else none
        | _ => none
      | _ => none
    | _ => none) else none
theorem cvSame_ok (h : RelI κ ι st a w) {src dst : Nat} {x v : V} {cx : Value} {wr : Wr} (hr : Rv st.o ι (Stable κ.D st.o ι w) w x cx) (hx : cvSame κ.P st.o src dst x = some (v, wr)) : SemOk κ ι st.o w (convert src dst cx) v wr := by
  unfold cvSame at hx
  split at hx
  case isFalse => cases hx
  rename_i hsd
  subst hsd
  split at hx
  case h_2 => cases hx
  rename_i e he
  split at hx
  case h_2 => cases hx
  rename_i hu
  split at hx
  case h_2 => cases hx
  rename_i s g off n
  split at hx
  case isFalse => cases hx
  rename_i hg
  split at hx
  case h_2 => cases hx
  rename_i ty sz cs hk
  split at hx
  case isFalse => cases hx
  rename_i hcc
  obtain ⟨hall, hle, hsz1⟩ := hcc
  simp only [Option.some.injEq, Prod.mk.injEq] at hx
  obtain ⟨rfl, rfl⟩ := hx
  have hT : st.o.get s = ⟨g, .row ty sz false cs⟩ := by cases hTs : st.o.get s; rw [hTs] at hk hg; simp at hk hg; subst hk hg; rfl
  have hl : st.o.live s := by simp [Tab.live, hT, OK.live]
  obtain ⟨ad, c, cap, arr, ty2, fz, rfl, hbk, hmem, has, hn, hcap, hpl⟩ := hr.own_ hT
  have hob := h.tr.ob s
  rw [hT] at hob
  obtain ⟨arr2, fz2, cap2, hh2, hf2, has2, h0, hle2, hc2⟩ := hob
  rw [hmem] at hh2
  injection hh2 with hh2; injection hh2 with e1 e2 e3; subst e1
  let fz' : Nat × Nat := if fz.1 == fz.2 then (arr.size, arr.size + 1) else (min fz.1 arr.size, max fz.2 (arr.size + 1))
  let w' : World := w.freeze ⟨ι s, arr.size, none⟩ 1
  have hnew : w'.heap[ι s]? = some (.cells arr ty2 fz') := by
    show (w.freeze ⟨ι s, arr.size, none⟩ 1).heap[ι s]? = _
    simp only [World.freeze, show ¬ (1 = 0) from by omega, if_false, Array.getElem?_modify, if_true, hmem, Option.map_some]
    rfl
  have hoth : ∀ j, j ≠ ι s → w'.heap[j]? = w.heap[j]? := by
    intro j hj
    show (w.freeze ⟨ι s, arr.size, none⟩ 1).heap[j]? = _
    simp only [World.freeze, show ¬ (1 = 0) from by omega, if_false, Array.getElem?_modify, if_neg (Ne.symm hj)]
  have hsize : w'.heap.size = w.heap.size := by show (w.freeze ⟨ι s, arr.size, none⟩ 1).heap.size = _; simp [World.freeze]
  have hto : To κ st.o ι w (st.o.put s ⟨g + 1, .dead⟩) ι w' :=
    To.turn (w' := w') h s hl ⟨g + 1, .dead⟩ rfl rfl rfl hsize hoth (by simp [hT]) (fun p hp hf => by simp [hT, OK.fzAt] at hf) (fun ty' sz' fz1 cs' e _ => by simp at e) (fun _ _ _ => trivial) (hsh := Shape.of hmem hnew rfl)
  refine ⟨.slice (some ad) n c, w', ι, ?_, hto, ?_⟩
  · have hsh : w.shape? (ι s) = some (ty2, arr.size) := by simp only [World.shape?, hmem]
    simp [convert, run_underlying he, run_underlying hu, markStringish, shape, freeze, Sem.run, hsh, hbk]
    rfl
  · have hml : (off + n) * sz ≤ arr.size := by rw [has]; exact Nat.mul_le_mul_right _ hn
    have hmul : (off + n) * sz = off * sz + n * sz := Nat.add_mul _ _ _
    refine .pure (.sl (vs := (arr.toList.take ((off + n) * sz)).drop (off * sz)) (by omega) (fun i u hu => ?_) (by simp; omega) fun i d u hd hu => ?_)
    · rw [List.getElem?_drop, List.getElem?_take] at hu
      split at hu
      · rename_i hi
        have hk0 : n ≠ 0 := by rintro rfl; omega
        have := hpl (by omega); subst this
        have hadd : (⟨ι s, off * sz, none⟩ : Addr).add i = ⟨ι s, off * sz + i, none⟩ := by unfold Addr.add; split <;> simp_all
        rw [hadd]
        refine ⟨⟨?_, by rw [hsize]; exact h.tr.lt s hl, fun t ht e => ?_⟩, ?_⟩
        · rcases h.my s hl with h1 | h1
          · exact .inr (.inl h1)
          · exact .inr (.inr h1)
        · simp only [wrT, Tab.live, Tab.get_put] at ht
          by_cases hst : s = t
          · subst hst; simp [OK.live] at ht
          · rw [if_neg hst] at ht
            exact absurd (h.tr.inj t s ht hl e).symm hst
        · simp only [World.cell?, hnew]
          simpa using hu
      · cases hu
    · rw [List.getElem?_drop, List.getElem?_take] at hd hu
      split at hd
      · rename_i hi
        rw [if_pos hi] at hu
        have hm := List.all_eq_true.1 hall d (List.mem_of_getElem? hd)
        simp only [Bool.and_eq_true] at hm
        exact flat_rp ((hc2 _ d u hd hu).pure_ hm.1) hm.2
      · cases hd

end
def isSi : V → Bool
  | .si _ => true
  | _ => false
/-- New operations. -/
def aopN (P : Program) (st : St) (o : Oper) : Option (Tr (V × Wr)) :=
  match o.op with
  | .store t x y => (nStore P st.o t (st.eval x) (st.eval y)).map fun wr => .ret (.tup [], wr)
  | .typeAssert x _ asserted ok => match st.eval x with
    | .si X => some ((siT X.e X.x).bind fun v => .of ((aAssert P asserted ok v).map fun v => (v, none)))
    | _ => none
  | .binOp op t x y _ => if (isSi (st.eval x) || isSi (st.eval y)) = true then
      some ((unST (st.eval x)).bind fun vx => (unST (st.eval y)).bind fun vy => .of (((aBin P op t x y (conB vx) (conB vy)).map symB).map fun v => (v, none))) else none
  | .slice t x lo hi none => (wSlice P st.o t (st.eval x) (lo.map st.eval) (hi.map st.eval)).map fun r => .needs r.1 (.ret (r.2, none))
  | .indexAddr t x ix => (wIndex P st.o t (st.eval x) (st.eval ix)).map fun r => .needs r.1 (.ret (r.2, none))
  | .convert src dst x => match nText P st.o src dst (st.eval x) with
    | some r => some (.needs r.1 (.ret (r.2, none)))
    | none => (cvSame P st.o src dst (st.eval x)).map .ret
  | .makeSlice t l c => match o.dst with
    | some d => (nMake P st.o t (st.eval l) (st.eval c) d).map fun r => .needs r.1 (.ret r.2)
    | none => none
  | .alloc e => match o.dst with
    | some d => (nAlloc P st.o e d).map .ret
    | none => none
  | .call ⟨.builtin .len, args, ats⟩ => match args.toList, ats.toList with
    | [x], [t] => match mLen P st.o t (st.eval x) with
      | some v => some (.ret (v, none))
      | none => (wLen P st.o t (st.eval x)).map fun v => .ret (v, none)
    | _, _ => none
  | .call ⟨.builtin .clear, args, ats⟩ => match args.toList, ats.toList with
    | [x], [t] => (wClear P st.o t (st.eval x)).map fun wr => .ret (.tup [], wr)
    | _, _ => none
  | .buildSlice t n ps => match o.dst with
    | some d => (aBuildSlice P st.o t n (st.parts ps.toList) d).map .ret
    | none => none
  | .makeMap t none => match o.dst with
    | some d => (nMap P st.o t d).map .ret
    | none => none
  | .lookup t x k ok => (nLook P st.o t (st.eval x) (st.eval k) ok).map fun v => .ret (v, none)
  | .mapUpdate t x k v => (nUpd P st.o t (st.eval x) (st.eval k) (st.eval v)).map fun wr => .ret (.tup [], wr)
  | _ => none

section
variable {κ : Cx} {ι : Nat → Nat} {st : St} {a : Act} {w : World}
theorem of_run {α : Type} {x : Option α} {r : α} (h : (Tr.of x).run = some r) : x = some r := by rwa [Tr.run_of] at h
theorem ret_run {α : Type} {x r : α} (h : (Tr.ret x).run = some r) : x = r := by injection h
theorem bind_run {α β : Type} {x : Tr α} {f : α → Tr β} {r : β} (h : (x.bind f).run = some r) : ∃ a, x.run = some a ∧ (f a).run = some r := by
  rw [Tr.run_bind] at h
  cases hx : x.run with
  | none => rw [hx] at h; cases h
  | some a => rw [hx] at h; exact ⟨a, rfl, h⟩
theorem aopN_ok (h : RelI κ ι st a w) {o : Oper} {tr : Tr (V × Wr)} {v : V} {wr : Wr} (hx : aopN κ.P st o = some tr) (hr : tr.run = some (v, wr)) : OpRes κ ι st.o a w o v (wrT st.o wr) := by
  obtain ⟨dst, op, type, pos, after, guard⟩ := o
  unfold aopN at hx
  simp only at hx
  split at hx
  · -- store
    rename_i t x y
    cases hs : nStore κ.P st.o t (st.eval x) (st.eval y) with
    | none => rw [hs] at hx; cases hx
    | some wr' =>
      rw [hs] at hx
      simp only [Option.map_some, Option.some.injEq] at hx
      subst hx
      have := ret_run hr
      simp only [Prod.mk.injEq] at this
      obtain ⟨rfl, rfl⟩ := this
      obtain ⟨w', ι', hrun, ht⟩ := nStore_ok h (h.eval x) (h.eval y) hs
      exact ⟨undef, w', ι', .inr ⟨by simp [execOp, hrun], rfl⟩, ht, .pure (.tup (vs := []) rfl (by simp))⟩
  · rename_i x xt asserted ok
    split at hx
    · rename_i X hX
      injection hx with hx; subst hx
      obtain ⟨v', h1, h2⟩ := bind_run hr
      rw [siT_run] at h1
      injection h1 with h1; subst h1
      obtain ⟨hq, rfl⟩ := one_eq (of_run h2)
      have hxx := h.eval x
      rw [hX] at hxx
      exact OpRes.of rfl (aAssert_ok h (siOf_rv _ _ _ hxx.si_) hq)
    · cases hx
  · rename_i op' t x y yt
    split at hx
    · injection hx with hx; subst hx
      obtain ⟨vx, h1, h2⟩ := bind_run hr
      obtain ⟨vy, h3, h4⟩ := bind_run h2
      rw [unST_run] at h1 h3
      injection h1 with h1; subst h1
      injection h3 with h3; subst h3
      obtain ⟨hq, rfl⟩ := one_eq (of_run h4)
      cases hb : aBin κ.P op' t x y (conB (unS (st.eval x))) (conB (unS (st.eval y))) with
      | none => simp [hb] at hq
      | some u =>
        simp [hb] at hq; subst hq
        exact OpRes.of rfl (aBin_ok h (h.eval x).unS.conB (h.eval y).unS.conB hb).symB
    · cases hx
  · rename_i t x lo hi
    cases hs : wSlice κ.P st.o t (st.eval x) (lo.map st.eval) (hi.map st.eval) with
    | none => rw [hs] at hx; cases hx
    | some r =>
      rw [hs] at hx
      simp only [Option.map_some, Option.some.injEq] at hx
      subst hx
      obtain ⟨hb, hr⟩ := Tr.run_needs hr
      have := ret_run hr
      simp only [Prod.mk.injEq] at this
      obtain ⟨rfl, rfl⟩ := this
      have ro : ∀ o : Option Operand, RO st.o ι (Stable κ.D st.o ι w) w (o.map st.eval) (o.map a.eval) := fun o => by
        cases o with
        | none => trivial
        | some y => exact h.eval y
      exact OpRes.of rfl (wSlice_ok h (h.eval x) (ro lo) (ro hi) (bs := r.1) hs hb)
  · rename_i t x ix
    cases hs : wIndex κ.P st.o t (st.eval x) (st.eval ix) with
    | none => rw [hs] at hx; cases hx
    | some r =>
      rw [hs] at hx
      simp only [Option.map_some, Option.some.injEq] at hx
      subst hx
      obtain ⟨hb, hr⟩ := Tr.run_needs hr
      have := ret_run hr
      simp only [Prod.mk.injEq] at this
      obtain ⟨rfl, rfl⟩ := this
      exact OpRes.of rfl (wIndex_ok h (h.eval x) (h.eval ix) (bs := r.1) hs hb)
  · rename_i src dst' x
    split at hx
    · rename_i r hs
      injection hx with hx; subst hx
      obtain ⟨hb, hr⟩ := Tr.run_needs hr
      have := ret_run hr
      simp only [Prod.mk.injEq] at this
      obtain ⟨rfl, rfl⟩ := this
      exact OpRes.of rfl (aConvert_ok h (h.eval x) (nText_eq (κ := κ) (d := 0) (bs := r.1) hs hb))
    · cases hc : cvSame κ.P st.o src dst' (st.eval x) with
      | none => rw [hc] at hx; cases hx
      | some r =>
        rw [hc] at hx
        simp only [Option.map_some, Option.some.injEq] at hx
        subst hx
        have := ret_run hr
        subst this
        exact OpRes.of rfl (cvSame_ok h (h.eval x) hc)
  · rename_i t l c
    split at hx
    · rename_i d
      cases hs : nMake κ.P st.o t (st.eval l) (st.eval c) d with
      | none => rw [hs] at hx; cases hx
      | some r =>
        obtain ⟨bs, v', wr'⟩ := r
        rw [hs] at hx
        simp only [Option.map_some, Option.some.injEq] at hx
        subst hx
        obtain ⟨hb, hr⟩ := Tr.run_needs hr
        have := ret_run hr
        simp only [Prod.mk.injEq] at this
        obtain ⟨rfl, rfl⟩ := this
        exact OpRes.of rfl (nMake_ok h (h.eval l) (h.eval c) hs hb)
    · cases hx
  · rename_i e
    split at hx
    · rename_i d
      cases hs : nAlloc κ.P st.o e d with
      | none => rw [hs] at hx; cases hx
      | some r =>
        rw [hs] at hx
        simp only [Option.map_some, Option.some.injEq] at hx
        subst hx
        have := ret_run hr
        subst this
        exact OpRes.of rfl (nAlloc_ok h hs)
    · cases hx
  · rename_i args ats
    split at hx
    · rename_i x t ea et
      obtain ⟨l1⟩ := args; obtain ⟨l2⟩ := ats
      simp at ea et; subst ea et
      cases hm : mLen κ.P st.o t (st.eval x) with
      | some v' =>
        rw [hm] at hx
        simp only [Option.some.injEq] at hx
        subst hx
        have := ret_run hr
        simp only [Prod.mk.injEq] at this
        obtain ⟨rfl, rfl⟩ := this
        refine OpRes.of (s := Builtin.len_ #[t] type #[a.eval x]) ?_ (mLen_ok h rfl (h.eval x) hm)
        simp [execOp, resolve, invoke, builtin]
      | none =>
      rw [hm] at hx
      simp only at hx
      cases hs : wLen κ.P st.o t (st.eval x) with
      | none => rw [hs] at hx; cases hx
      | some v' =>
        rw [hs] at hx
        simp only [Option.map_some, Option.some.injEq] at hx
        subst hx
        have := ret_run hr
        simp only [Prod.mk.injEq] at this
        obtain ⟨rfl, rfl⟩ := this
        refine OpRes.of (s := Builtin.len_ #[t] type #[a.eval x]) ?_ (wLen_ok h rfl (h.eval x) hs)
        simp [execOp, resolve, invoke, builtin]
    · cases hx
  · rename_i args ats
    split at hx
    · rename_i x t ea et
      obtain ⟨l1⟩ := args; obtain ⟨l2⟩ := ats
      simp at ea et; subst ea et
      cases hs : wClear κ.P st.o t (st.eval x) with
      | none => rw [hs] at hx; cases hx
      | some wr' =>
        rw [hs] at hx
        simp only [Option.map_some, Option.some.injEq] at hx
        subst hx
        have := ret_run hr
        simp only [Prod.mk.injEq] at this
        obtain ⟨rfl, rfl⟩ := this
        refine OpRes.of (s := Builtin.clear_ #[t] type #[a.eval x]) ?_ (wClear_ok h rfl (h.eval x) hs)
        simp [execOp, resolve, invoke, builtin]
    · cases hx
  · rename_i t n ps
    split at hx
    · rename_i d
      cases hs : aBuildSlice κ.P st.o t n (st.parts ps.toList) d with
      | none => rw [hs] at hx; cases hx
      | some r =>
        rw [hs] at hx
        simp only [Option.map_some, Option.some.injEq] at hx
        subst hx
        have := ret_run hr
        subst this
        exact OpRes.of rfl (aBuildSlice_ok h hs)
    · cases hx
  · rename_i t
    split at hx
    · rename_i d
      cases hs : nMap κ.P st.o t d with
      | none => rw [hs] at hx; cases hx
      | some r =>
        rw [hs] at hx
        simp only [Option.map_some, Option.some.injEq] at hx
        subst hx
        have := ret_run hr
        subst this
        exact OpRes.of rfl (nMap_ok h hs)
    · cases hx
  · rename_i t x k ok
    cases hs : nLook κ.P st.o t (st.eval x) (st.eval k) ok with
    | none => rw [hs] at hx; cases hx
    | some r =>
      rw [hs] at hx
      simp only [Option.map_some, Option.some.injEq] at hx
      subst hx
      have := ret_run hr
      simp only [Prod.mk.injEq] at this
      obtain ⟨rfl, rfl⟩ := this
      exact OpRes.of rfl (nLook_ok h (h.eval x) (h.eval k) hs)
  · rename_i t x k v
    cases hs : nUpd κ.P st.o t (st.eval x) (st.eval k) (st.eval v) with
    | none => rw [hs] at hx; cases hx
    | some wr' =>
      rw [hs] at hx
      simp only [Option.map_some, Option.some.injEq] at hx
      subst hx
      have := ret_run hr
      simp only [Prod.mk.injEq] at this
      obtain ⟨rfl, rfl⟩ := this
      obtain ⟨w', ι', hrun, ht⟩ := nUpd_ok h (h.eval x) (h.eval k) (h.eval v) hs
      exact ⟨undef, w', ι', .inr ⟨by simp [execOp, hrun], rfl⟩, ht, .pure (.tup (vs := []) rfl (by simp))⟩
  · cases hx
end

/-! Calls. -/
def aCallT2 (Γ : OrcT) (Λ : Lend) (T : Tab) (f : Nat) (args : List V) (d : Nat) : Tr (V × Tab) :=
  match viewArgs depth T (Λ f) 0 [] args with
  | some (xs, l, bs) =>
    if bs.Nodup ∧ bs.length < 1000000 then
      match boxes2 depth T bs with
      | some (lb, l2) => (Γ f xs lb).bind fun r => .needs (lens2 T bs r.2.1) (.of (fin3 T (l ++ l2) bs d r.1 r.2.1 r.2.2))
      | none => .fail
    else .fail
  | none => .fail
where fin3 (T : Tab) (l bs : List Nat) (d : Nat) (res : V) (lb' lf : List OK) : Option (V × Tab) :=
  if lf.length ≤ 4 ∧ bs.all (fun s => !l.contains s) = true then
    match revive2 (if flatAll res lb' lf = true then T else T.freezes l) bs lb' with
    | some T2 => match fresh2 bs d T2 0 lf with
      | some T3 => (ren T3 bs d lf.length res).map fun v => (v, T3)
      | none => none
    | none => none
  else none
theorem aCallT2_run {Γ : OrcT} {Λ : Lend} {T : Tab} {f : Nat} {args : List V} {d : Nat} {r : V × Tab} (h : (aCallT2 Γ Λ T f args d).run = some r) : aCall2 Γ.orc Λ T f args d = some r := by
  unfold aCallT2 at h
  unfold aCall2
  split at h
  · rename_i xs l bs hv
    rw [hv]
    split at h
    · rename_i hc
      simp only [if_pos hc]
      split at h
      · rename_i lb l2 hb
        rw [hb]
        obtain ⟨q, hq, h2⟩ := bind_run h
        obtain ⟨h3, h4⟩ := Tr.run_needs h2
        have h5 := of_run h4
        simp only [OrcT.orc, hq]
        obtain ⟨res, lb', lf⟩ := q
        simp only at h3 h5 ⊢
        unfold aCallT2.fin3 at h5
        unfold fin2
        split at h5
        · rename_i hc2
          rw [if_pos ⟨hc2.1, hc2.2, h3⟩]
          exact h5
        · cases h5
      · cases h
    · cases h
  · cases h

/-- What the machine is told of calls is so. -/
def GammaOk2 (P : Program) (Γ : Orc) : Prop := ∀ f xs lb res lb' lf, Γ f xs lb = some (res, lb', lf) →
  Spec2 P f xs lb res lb' lf ∧ ∃ fn, P.funcs[f]? = some fn ∧ (fn.name == "runtime.NumGoroutine") = false ∧ fn.body.isNone = false

section
variable {κ : Cx} {ι : Nat → Nat} {st : St} {a : Act} {w : World}
def bsZero (P : Program) (T : Tab) (t d : Nat) : Option (V × Wr) := match P.underlying t with
  | some (.slice e) => match P.info? e with
    | some i => some (.sz, some (d, ⟨(T.get d).gen + 1, .dead⟩))
    | none => none
  | _ => none
theorem bsZero_ok (h : RelI κ ι st a w) {t d : Nat} {v : V} {wr : Wr} (hx : bsZero κ.P st.o t d = some (v, wr)) : SemOk κ ι st.o w (Instr.buildSlice t 0 #[]) v wr := by
  unfold bsZero at hx
  split at hx
  case h_2 => cases hx
  rename_i e ht
  split at hx
  case h_2 => cases hx
  rename_i i hi
  simp only [Option.some.injEq, Prod.mk.injEq] at hx
  obtain ⟨rfl, rfl⟩ := hx
  refine ⟨.slice (some ⟨w.heap.size, 0, none⟩) 0 0, w.alloc (.cells #[] e), _, ?_, To.new h (w1 := w) rfl rfl rfl rfl d (.cells #[] e) .dead (fun _ _ _ _ _ => trivial), .pure .sz⟩
  have hr0 : (Array.range 0) = (#[] : Array Nat) := by simp
  simp [Instr.buildSlice, run_underlying ht, run_size hi, Instr.fill, newRow, hr0]
/-- A slice of nothing. -/
def aopE (P : Program) (st : St) (o : Oper) : Option (V × Wr) := match o.op with
  | .buildSlice t n ps => match n with
    | 0 => match ps.toList with
      | [] => match o.dst with
        | some d => bsZero P st.o t d
        | none => none
      | _ => none
    | _ => none
  | _ => none
theorem aopE_ok (h : RelI κ ι st a w) {o : Oper} {v : V} {wr : Wr} (hx : aopE κ.P st o = some (v, wr)) : OpRes κ ι st.o a w o v (wrT st.o wr) := by
  obtain ⟨dst, op, type, pos, after, guard⟩ := o
  unfold aopE at hx
  split at hx
  · rename_i t n ps ho
    simp only at ho; subst ho
    split at hx
    · split at hx
      · rename_i hps
        obtain ⟨l⟩ := ps
        simp at hps; subst hps
        split at hx
        · refine OpRes.of (s := Instr.buildSlice t 0 #[]) ?_ (bsZero_ok h hx)
          simp [execOp]
        · cases hx
      · cases hx
    · cases hx
  · cases hx
end
def estep2 (Γ : OrcT) (Λ : Lend) (P : Program) (st : St) (o : Oper) : Tr (V × Tab) :=
  match o.op with
  | .call ⟨.value f, args, _⟩ => match st.eval f with
    | .fn k caps => aCallT2 Γ Λ st.o k (args.toList.map st.eval ++ caps) (o.dst.getD 99999)
    | _ => .fail
  | _ => match aopE P st o with
    | some r => .ret (r.1, wrT st.o r.2)
    | none => match aopN P st o with
      | some tr => tr.bind fun r => .ret (r.1, wrT st.o r.2)
      | none => (aopT P st o).bind fun r => .ret (r.1, wrT st.o r.2)

section
variable {κ : Cx} {ι : Nat → Nat} {st : St} {a : Act} {w : World}
theorem estep2_ok {Γ : OrcT} {Λ : Lend} (hΓ : GammaOk2 κ.P Γ.orc) (h : RelI κ ι st a w) {o : Oper} {v : V} {T' : Tab} (hx : (estep2 Γ Λ κ.P st o).run = some (v, T')) {K : Act → World → Prop} {Q : Exit → Act → World → Prop}
    (hK : ∀ cv w' ι', To κ st.o ι w T' ι' w' → Rv T' ι' (Stable κ.D T' ι' w') w' v cv → K (a.put o.dst cv) w') : o.wp κ.P a w K Q := by
  unfold estep2 at hx
  split at hx
  · rename_i f args ts ho
    split at hx
    · rename_i k caps hf
      have hfv := h.eval f
      rw [hf] at hfv
      obtain ⟨us, hfu, hl, hh⟩ := hfv.fn_
      have hx' := aCallT2_run hx
      have hcall := hx'
      unfold aCall2 at hcall
      have hent : ∃ fn, κ.P.funcs[k]? = some fn ∧ (fn.name == "runtime.NumGoroutine") = false ∧ fn.body.isNone = false := by
        split at hcall
        · split at hcall
          · split at hcall
            · split at hcall
              · rename_i hg
                exact (hΓ _ _ _ _ _ _ hg).2
              · cases hcall
            · cases hcall
          · cases hcall
        · cases hcall
      obtain ⟨fn, h1, h2, h3⟩ := hent
      unfold Oper.wp
      rw [exec_call ho hfu h1 h2 h3]
      have hargs : LR (Rv st.o ι (Stable κ.D st.o ι w) w) (args.toList.map st.eval ++ caps) (args.map a.eval ++ ⟨us⟩).toList := by
        have := LR.map st.eval a.eval args.toList (R := Rv st.o ι (Stable κ.D st.o ι w) w) fun x _ => h.eval x
        simpa using this.append ⟨hl, hh⟩
      refine (aCall2_ok (fun f xs lb res lb' lf hg => (hΓ f xs lb res lb' lf hg).1) h hx' hargs).mono fun e w' => ?_
      rintro ⟨cv, ι', rfl, hto, hv⟩
      exact hK cv w' ι' hto hv
    · cases hx
  · have fin : ∀ (wr : Wr), OpRes κ ι st.o a w o v (wrT st.o wr) → T' = wrT st.o wr → o.wp κ.P a w K Q := fun wr hop e => by
      subst e
      obtain ⟨cv, w', ι', hrun, hto, hv⟩ := hop
      unfold Oper.wp
      rcases hrun with hrun | ⟨hrun, rfl⟩
      · rw [hrun]; exact hK cv w' ι' hto hv
      · rw [hrun]; exact hK undef w' ι' hto hv
    split at hx
    · rename_i r hr
      obtain ⟨v', wr⟩ := r
      have := ret_run hx
      simp only [Prod.mk.injEq] at this
      obtain ⟨rfl, e⟩ := this
      exact fin wr (aopE_ok h hr) e.symm
    split at hx
    · rename_i tr htr
      obtain ⟨⟨v', wr⟩, h1, h2⟩ := bind_run hx
      have := ret_run h2
      simp only [Prod.mk.injEq] at this
      obtain ⟨rfl, e⟩ := this
      exact fin wr (aopN_ok h htr h1) e.symm
    · obtain ⟨⟨v', wr⟩, h1, h2⟩ := bind_run hx
      have := ret_run h2
      simp only [Prod.mk.injEq] at this
      obtain ⟨rfl, e⟩ := this
      exact fin wr (aop_ok h (aopT_run h1)) e.symm
end

/-! A literal row, made to be looked up in. -/
/-- Is slot a that of a row written out in this region, used but once? -/
def litOf (opl : List Oper) (a : Nat) : Bool :=
  (opl.any fun o => o.dst == some a && (match o.op with | .buildSlice _ _ _ => true | _ => false)) &&
  (opl.filter fun o => (o.op.operands.toList.any fun | .tmp t => t == a | _ => false)).length == 1
def nLit (P : Program) (T : Tab) (t : Nat) (x ix : V) : Option (List Bool × V × Wr) :=
  match P.underlying t, x, ix with
  | some (.slice e), .own s g 0 n, .int _ i => match P.info? e, tyOf P 8 e with
    | some inf, some te => if (T.get s).gen = g ∧ te.size = inf.size ∧ te.flatT = true then (match (T.get s).k with
      | .row ty sz false cs => if sz = te.size ∧ 0 < te.size then (match impN (impC te) n cs with
        | some (l, []) => some ([decide (0 ≤ i), decide (i < (n : Int))], .eptr s (g + 1) te.size i.toNat 0, some (s, ⟨g + 1, .nrow ty false false ⟨te, l⟩⟩))
        | _ => none) else none
      | _ => none) else none
    | _, _ => none
  | _, _, _ => none
def aLit (P : Program) (opl : List Oper) (st : St) (o : Oper) : Option (List Bool × V × Wr) := match o.op with
  | .indexAddr t (.tmp a) ix => if litOf opl a = true then nLit P st.o t (st.get a) (st.eval ix) else none
  | _ => none
section
variable {κ : Cx} {ι : Nat → Nat} {st : St} {a : Act} {w : World}
theorem nLit_ok (h : RelI κ ι st a w) {t : Nat} {x ix v : V} {cx ci : Value} {bs : List Bool} {wr : Wr} (hr : Rv st.o ι (Stable κ.D st.o ι w) w x cx) (hi : Rv st.o ι (Stable κ.D st.o ι w) w ix ci)
    (hx : nLit κ.P st.o t x ix = some (bs, v, wr)) (hbs : bs.all id = true) : SemOk κ ι st.o w (Instr.indexAt t cx ci) v wr := by
  unfold nLit at hx
  split at hx
  case h_2 => cases hx
  rename_i e s g n k i ht
  split at hx
  case h_2 => cases hx
  rename_i inf te hinf hte
  split at hx
  case isFalse => cases hx
  rename_i hc
  obtain ⟨hg, hsz, hfl⟩ := hc
  split at hx
  case h_2 => cases hx
  rename_i ty sz cs hk
  split at hx
  case isFalse => cases hx
  rename_i hc2
  obtain ⟨rfl, h0⟩ := hc2
  split at hx
  case h_2 => cases hx
  rename_i l himp
  injection hx with hx
  simp only [Prod.mk.injEq] at hx
  obtain ⟨rfl, rfl, rfl⟩ := hx
  simp only [List.all_cons, List.all_nil, Bool.and_eq_true, id, decide_eq_true_eq, Bool.and_true] at hbs
  obtain ⟨hi0, hi1⟩ := hbs
  have := hi.int_; subst this
  have hT : st.o.get s = ⟨g, .row ty te.size false cs⟩ := by cases hTs : st.o.get s; rw [hTs] at hk hg; simp at hk hg; subst hk hg; rfl
  have hl : st.o.live s := by simp [Tab.live, hk, OK.live]
  obtain ⟨ad, c, cap, arr, tb, fz, rfl, hbk, hmem, has, hn, hcap, hpl⟩ := hr.own_ hT
  have hob := h.tr.ob s
  rw [hk] at hob
  obtain ⟨arr2, fz2, cap2, b1, b2, b3, b4, b5, b6⟩ := hob
  rw [hmem] at b1
  injection b1 with b1; injection b1 with q1 q2 q3; subst q1 q2 q3
  have := hpl (by omega); subst this
  have hal : arr.toList.length = arr.size := Array.length_toList
  have hlr : LR (Rv st.o ι (Stable κ.D st.o ι w) w) cs (arr.toList.take cs.length) := by
    refine ⟨by rw [List.length_take, hal]; omega, fun j d u hd hu => ?_⟩
    rw [List.getElem?_take] at hu
    split at hu
    · exact b6 j d u hd hu
    · cases hu
  obtain ⟨hll, hlr2⟩ := impN_rv (impC_rv te) n cs [] l _ himp hlr
  rw [List.append_nil] at hlr2
  have hcl : (⟨te, l⟩ : TL).cells.length = l.length * te.size := TL.cells_length _
  have hcl2 : (⟨te, l⟩ : TL).cells.length = min cs.length arr.size := by rw [← hal, ← List.length_take]; exact hlr2.1
  have hto : To κ st.o ι w (st.o.put s ⟨g + 1, .nrow tb false false ⟨te, l⟩⟩) ι w := by
    refine To.turn h s hl ⟨g + 1, .nrow tb false false ⟨te, l⟩⟩ rfl rfl rfl rfl (fun _ _ => rfl) (by rw [hg]; exact Nat.le_succ _) (fun p _ hp => by simp [hk, OK.fzAt] at hp) (fun ty' sz' fz' cs' e => by cases e) (fun T' ι' H => ?_) (fun ty' fz' nl' L' e hge => by simp only at hge; omega) (hsh := .same rfl)
    refine .inr ⟨arr, fz, cap2, hmem, fun j hj => b2 j hj, b3, h0, by rw [hcl2]; exact Nat.min_le_right _ _, fun j d u hd hu => ?_⟩
    have hj : j < cs.length := by have := (List.getElem?_eq_some_iff.1 hd).1; omega
    exact (hlr2.2 j d u hd (by rw [List.getElem?_take, if_pos hj]; exact hu)).mono H
  refine ⟨.pointer (some ((⟨ι s, 0 * te.size, none⟩ : Addr).add (i.toNat * inf.size))), w, ι, ?_, hto, ?_⟩
  · simp [Instr.indexAt, asIntOf, run_underlying ht, hi0, hi1, run_size hinf]
  · refine .eptr ⟨_, rfl⟩ (by simp [wrT, Tab.get_put]) fun ty2 fz2 nl2 L2 e2 => ?_
    simp [wrT, Tab.get_put] at e2
    obtain ⟨rfl, rfl, rfl, rfl⟩ := e2
    refine ⟨rfl, by simp only; omega, ?_⟩
    congr 2
    unfold Addr.add
    split
    · rename_i e0; rw [hsz, e0]; simp
    · simp only [Addr.mk.injEq, true_and]; rw [hsz]; simp
end
def estepL (Γ : OrcT) (Λ : Lend) (P : Program) (opl : List Oper) (st : St) (o : Oper) : Tr (V × Tab) := match aLit P opl st o with
  | some r => Tr.needs r.1 (.ret (r.2.1, wrT st.o r.2.2))
  | none => estep2 Γ Λ P st o
def step2 (Γ : OrcT) (Λ : Lend) (P : Program) (opl : List Oper) (st : St) (o : Oper) : Tr St :=
  match guardT opl st o with
  | some false => .of (st.set o.dst (.tup []))
  | some true => (estepL Γ Λ P opl st o).bind fun r => (normT opl o r.1).bind fun v => .of (({ st with o := r.2 } : St).set o.dst v)
  | none => .fail
def steps2 (Γ : OrcT) (Λ : Lend) (P : Program) (opl : List Oper) : List Oper → St → Tr St
  | [], st => .ret st
  | o :: r, st => (step2 Γ Λ P opl st o).bind (steps2 Γ Λ P opl r)
section
variable {κ : Cx} {st : St} {a : Act} {w : World}
theorem step2_ok {Γ : OrcT} {Λ : Lend} (hΓ : GammaOk2 κ.P Γ.orc) (hrel : Rel κ st a w) {ops : Array Oper} {o : Oper} {st' : St} (hx : (step2 Γ Λ κ.P ops.toList st o).run = some st') {K : Act → World → Prop} {Q : Exit → Act → World → Prop}
    (hK : ∀ a' w', Rel κ st' a' w' → K a' w') : if Region.wanted o (yielded ops a.tmps) then o.wp κ.P a w K Q else K (a.put o.dst undef) w := by
  obtain ⟨ι, h⟩ := hrel
  unfold step2 at hx
  split at hx
  · rename_i hg
    rw [aguard_ok h (guardT_ok hg)]
    simp only [Bool.false_eq_true, if_false]
    exact hK _ _ ⟨ι, h.set (To.refl h) (by simpa using of_run hx) (.pure (.tup (vs := []) rfl (by simp)))⟩
  · rename_i hg
    rw [aguard_ok h (guardT_ok hg)]
    simp only [if_true]
    obtain ⟨⟨v, T'⟩, h1, h2⟩ := bind_run hx
    obtain ⟨v', h3, h4⟩ := bind_run h2
    have hn := normT_run h3
    try simp only at hn
    unfold estepL at h1
    split at h1
    · rename_i r hl
      obtain ⟨hb, h1⟩ := Tr.run_needs h1
      have := ret_run h1
      injection this with e1 e2
      subst e1 e2
      obtain ⟨dst, op, type, pos, after, guard⟩ := o
      unfold aLit at hl
      simp only at hl
      split at hl
      case h_2 => cases hl
      rename_i t sa ix
      split at hl
      case isFalse => cases hl
      obtain ⟨bs, v1, wr1⟩ := r
      obtain ⟨cv, w', ι', hrun, hto, hv⟩ : OpRes κ ι st.o a w ⟨dst, .indexAddr t (.tmp sa) ix, type, pos, after, guard⟩ v1 (wrT st.o wr1) := OpRes.of rfl (nLit_ok h (h.eval (.tmp sa)) (h.eval ix) hl hb)
      have fin : ∀ cv w' ι', To κ st.o ι w (wrT st.o wr1) ι' w' → Rv (wrT st.o wr1) ι' (Stable κ.D (wrT st.o wr1) ι' w') w' v1 cv → K (a.put dst cv) w' := fun cv w' ι' hto hv => hK _ _ ⟨ι', h.set hto (of_run h4) (hn ▸ hv.norm)⟩
      unfold Oper.wp
      rcases hrun with hrun | ⟨hrun, rfl⟩
      · rw [hrun]; exact fin cv w' ι' hto hv
      · rw [hrun]; exact fin undef w' ι' hto hv
    · exact estep2_ok hΓ h h1 fun cv w' ι' hto hv => hK _ _ ⟨ι', h.set hto (of_run h4) (hn ▸ hv.norm)⟩
  · cases hx
theorem steps2_ok {Γ : OrcT} {Λ : Lend} (hΓ : GammaOk2 κ.P Γ.orc) {ops : Array Oper} {Q : Exit → Act → World → Prop} : ∀ (l : List Oper) (st st' : St) (a : Act) (w : World), (steps2 Γ Λ κ.P ops.toList l st).run = some st' → Rel κ st a w →
    (∀ a' w', Rel κ st' a' w' → Q .normal a' w') → wpList κ.P ops Q l a w
  | [], st, st', a, w, hx, hr, hQ => by
    have := ret_run hx
    subst this
    exact wpList_nil (hQ a w hr)
  | o :: r, st, st', a, w, hx, hr, hQ => by
    obtain ⟨s1, h1, h2⟩ := bind_run hx
    exact wpList_step fun K hK => step2_ok hΓ hr h1 fun a' w' hr' => hK _ _ (steps2_ok hΓ r s1 st' a' w' h2 hr' hQ)
end

/-! A region that draws its order: calls as before. -/
def okBox : OK → Bool
  | .box _ _ => true
  | _ => false
/-- A row that a call gives back for its own is as good as a list. -/
def listed (r : V × List OK × List OK) : V × List OK × List OK := match r with
  | (.acc s g, lb', [.nrow ty false true L]) => if s = 2000000 ∧ g = 0 ∧ lb'.length ≤ 1000 then (.lst L, lb', []) else (.acc s g, lb', [.nrow ty false true L])
  | r => r
theorem spec2_listed {P : Program} {f : FuncId} {args : List V} {lb lb' : List OK} {ty : Nat} {fz nl : Bool} {L : TL} (h : Spec2 P f args lb (.acc 2000000 0) lb' [.nrow ty fz nl L]) (hl : lb'.length ≤ 1000) : Spec2 P f args lb (.lst L) lb' [] := by
  intro w cargs β S htr hargs
  refine (h w cargs β S htr hargs).mono fun e w' => ?_
  rintro ⟨v, β', rfl, hk, htr', hv, hl2, hb1, hb2⟩
  have hg : ∀ t, t ≠ 2000000 → (tabU lb' []).get t = (tabU lb' [.nrow ty fz nl L]).get t := fun t ht => by
    rw [get_tabU, get_tabU]
    have : ∀ h : 2000000 ≤ t, ([.nrow ty fz nl L] : List OK)[t - 2000000]? = none := fun h => List.getElem?_eq_none (by simp only [List.length_singleton]; omega)
    by_cases h : 2000000 ≤ t
    · simp only [if_pos h, this h, List.getElem?_nil]
    · simp only [if_neg h]
  have hn : lb'[2000000 - 1000000]? = none := List.getElem?_eq_none (by omega)
  have hg1 : (tabU lb' [.nrow ty fz nl L]).get 2000000 = ⟨0, .nrow ty fz nl L⟩ := by rw [get_tabU, if_pos (by omega), hn]; rfl
  have hg2 : (tabU lb' []).get 2000000 = ⟨0, .dead⟩ := by rw [get_tabU, if_pos (by omega), hn]; rfl
  have hne : ∀ t, (tabU lb' []).live t → t ≠ 2000000 := fun t ht e => by subst e; simp only [Tab.live, hg2, OK.live] at ht
  have hlv : ∀ t, (tabU lb' []).live t → (tabU lb' [.nrow ty fz nl L]).live t := fun t ht => by
    have h1 := hne t ht
    simp only [Tab.live, hg t h1] at ht
    exact ht
  generalize hT1 : tabU lb' [.nrow ty fz nl L] = T1 at *
  generalize hT2 : tabU lb' [] = T2 at *
  generalize hD : Dn S w.heap.size β lb lb' = D at *
  have hgen : ∀ t, (T1.get t).gen = (T2.get t).gen := fun t => by
    by_cases h : t = 2000000
    · rw [h, hg1, hg2]
    · rw [hg t h]
  have hnd : ∀ t g k, T2.get t = ⟨g, k⟩ → k ≠ .dead → t ≠ 2000000 := fun t g k hq hk e => by
    subst e
    rw [hg2] at hq
    injection hq with _ hq
    exact hk hq.symm
  have H : Goes D T1 β' w' T2 β' w' := ⟨fun p hp => ⟨⟨hp.1, hp.2.1, fun t ht he => by rw [hg t (hne t ht)]; exact hp.2.2 t (hlv t ht) he⟩, rfl⟩, fun t => by rw [hgen]; exact Nat.le_refl _, fun t ht _ => ⟨hlv t ht, rfl⟩,
    fun t g' ty sz fz' cs' hq _ => by rw [hg t (hnd t _ _ hq (by simp))] at hq; exact ⟨⟨_, _, _, hq⟩, fun arr ty1 fz hh => ⟨arr, ty1, fz, hh, rfl⟩⟩,
    fun t g' ty fz nl L hq _ => by rw [hg t (hnd t _ _ hq (by simp))] at hq; exact ⟨⟨_, _, _, _, hq, rfl, rfl, rfl⟩, fun _ arr ty1 fz hh => ⟨arr, ty1, fz, hh, rfl⟩⟩⟩
  refine ⟨v, β', rfl, hk, ⟨fun t => ?_, fun t u ht hu he => htr'.inj t u (hlv t ht) (hlv u hu) he, fun t ht => htr'.lt t (hlv t ht)⟩, .pure (.lst ?_), hl2, fun j hj hlj => hb1 j hj (hlv _ hlj), fun j hj => by simp at hj⟩
  · by_cases ht : t = 2000000
    · subst ht; rw [hg2]; trivial
    · rw [hg t ht]; exact (htr'.ob t).mono H rfl
  · cases hv with
    | pure h => cases h
    | acc hv hgg hh =>
      obtain ⟨e, l⟩ := L
      rcases hh ty fz nl _ hg1 with ⟨hnl, hnil, p, rfl⟩ | ⟨hnn, ad, c, cap, arr, tb, fz1, rfl, hbk, hmem, has, hn1, hcap, hpl⟩
      · simp only at hnil
        subst hnil
        cases p with
        | none => exact .slz
        | some a => exact .sl (vs := []) (Nat.le_refl _) (fun i u hi => by simp at hi) rfl (fun i d u hd => by simp [TL.cells] at hd)
      · have hlive : T1.live 2000000 := by simp only [Tab.live, hg1]; exact hnn
        have hob := htr'.ob 2000000
        rw [hg1] at hob
        obtain ⟨arr', fz', cap', b1, b2, b3, b4, b5, b6⟩ := hob.resolve_left hnn
        rw [hmem] at b1
        injection b1 with b1; injection b1 with q1 q2 q3; subst q1 q2 q3
        have hcl := TL.cells_length ⟨e, l⟩
        have hsl : arr.toList.length = arr.size := Array.length_toList
        simp only at hcl hn1 has b4
        have hle : l.length * e.size ≤ arr.size := by rw [← hcl]; exact b5
        refine .sl (vs := arr.toList.take (l.length * e.size)) (by simp only; omega) (fun i u hi => ?_) (by rw [List.length_take, hcl]; omega) (fun i d u hd hu => ?_)
        · rw [List.getElem?_take] at hi
          split at hi
          case isFalse => cases hi
          rename_i hi1
          have hl0 : 0 < l.length := Nat.pos_of_ne_zero fun h => by rw [h] at hi1; simp at hi1
          have := hpl (by omega); subst this
          have hadd : (⟨β' 2000000, 0 * e.size, none⟩ : Addr).add i = ⟨β' 2000000, i, none⟩ := by unfold Addr.add; split <;> simp_all
          rw [hadd]
          refine ⟨⟨?_, htr'.lt _ hlive, fun t ht he => absurd (htr'.inj t 2000000 (hlv t ht) hlive he) (hne t ht)⟩, ?_⟩
          · rw [← hD]
            rcases hb2 0 (by simp) hlive with q | ⟨j, a1, a2, a3⟩
            · exact .inr (.inl q)
            · exact .inr (.inr ⟨j, a1, a2, a3⟩)
          · simp only [World.cell?, hmem]
            simpa using hi
        · rw [List.getElem?_take] at hu
          split at hu
          case isFalse => cases hu
          have hm := List.mem_of_getElem? hd
          obtain ⟨x, _, hx⟩ := List.mem_flatMap.1 hm
          exact ((b6 i d u hd hu).pure_ (pure_cellsV _ _ _ hx)).mono H.st
def orc1 (Γ : OrcT) : OrcT := fun f xs lb =>
  if lb.all okBox = true then (Γ f xs lb).bind fun r => if ((listed r).2.1.all okBox && (listed r).2.2.all okFresh) = true then .ret (listed r) else .fail else .fail
theorem listed_ok {P : Program} {f : FuncId} {args : List V} {lb : List OK} {r : V × List OK × List OK} (h : Spec2 P f args lb r.1 r.2.1 r.2.2) : Spec2 P f args lb (listed r).1 (listed r).2.1 (listed r).2.2 := by
  unfold listed
  split
  · split
    · rename_i hc
      obtain ⟨rfl, rfl, hc⟩ := hc
      exact spec2_listed h hc
    · exact h
  · exact h
theorem spec_of2 {P : Program} {f : FuncId} {args : List V} {lb lb' lf : List OK} {res : V} (h : Spec2 P f args lb res lb' lf) (h1 : lb'.all okBox = true) (h2 : lf.all okFresh = true) : Spec P f args lb res lb' lf := by
  intro w cargs β S htr hargs
  refine (h w cargs β S htr hargs).mono fun e w' => ?_
  rintro ⟨v, β', rfl, hk, htr', hv, hl, hb1, hb2⟩
  have hbox : ∀ (j : Nat) (k : OK), lb'[j]? = some k → okBox k = true := fun j k hj => List.all_eq_true.1 h1 k (List.mem_of_getElem? hj)
  have hnd : ∀ (j : Nat), lb'[j]? ≠ some .dead := fun j hj => by have := hbox j _ hj; cases this
  have eD : Dn S w.heap.size β lb lb' = fun p => S p ∨ w.heap.size ≤ p.block := by
    funext p
    apply propext
    constructor
    · rintro (q | q | ⟨j, q, _⟩)
      · exact .inl q
      · exact .inr q
      · exact absurd q (hnd j)
    · rintro (q | q)
      · exact .inl q
      · exact .inr (.inl q)
  rw [eD] at htr' hv
  have lb_live : ∀ j, j < lb.length → (tabU lb' lf).live (1000000 + j) := fun j hj => by
    have hj' : j < lb'.length := by omega
    have hkj := List.getElem?_eq_getElem hj'
    simp only [Tab.live, get_tabU, show 1000000 ≤ 1000000 + j from by omega, show 1000000 + j - 1000000 = j from by omega, if_true, hkj]
    have := hbox j _ hkj
    revert this
    cases lb'[j] <;> simp [okBox, OK.live]
  generalize hT : tabU lb' lf = T at *
  generalize hD : (fun p : Addr => S p ∨ w.heap.size ≤ p.block) = D at *
  open Classical in
  obtain ⟨β2, hβ, hβ2⟩ : ∃ β2 : Nat → Nat, (∀ t, T.live t → β2 t = β' t) ∧ ∀ t, ¬ T.live t → β2 t = w.heap.size := ⟨fun t => if T.live t then β' t else w.heap.size, fun t h => if_pos h, fun t h => if_neg h⟩
  have H : Goes D T β' w' T β2 w' := ⟨fun p hp => ⟨⟨hp.1, hp.2.1, fun t ht he => hp.2.2 t ht (by rw [← hβ t ht]; exact he)⟩, rfl⟩, fun t => Nat.le_refl _, fun t ht _ => ⟨ht, hβ t ht⟩,
    fun t g' ty sz fz' cs' hq _ => ⟨⟨_, _, _, hq⟩, fun arr ty1 fz hh => ⟨arr, ty1, fz, by have e := hβ t (by simp only [Tab.live, hq, OK.live]); first | exact hh | (rw [e]; exact hh) | (rw [e] at hh; exact hh), rfl⟩⟩,
    fun t g' ty fz nl L hq _ => ⟨⟨_, _, _, _, hq, rfl, rfl, rfl⟩, fun hn arr ty1 fz hh => ⟨arr, ty1, fz, by have e := hβ t (by simp only [Tab.live, hq, OK.live]; exact hn); first | exact hh | (rw [e]; exact hh) | (rw [e] at hh; exact hh), rfl⟩⟩⟩
  refine ⟨v, β2, rfl, hk, ⟨fun t => ?_, fun t u ht hu he => htr'.inj t u ht hu (by rw [← hβ t ht, ← hβ u hu]; exact he), fun t ht => by rw [hβ t ht]; exact htr'.lt t ht⟩, hv.mono H, hl, fun j hj => by rw [hβ _ (lb_live j hj)]; exact hb1 j hj (lb_live j hj), fun j hj => ?_⟩
  · by_cases hlv : T.live t
    · rw [hβ t hlv]; exact (htr'.ob t).mono H rfl
    · cases hkk : (T.get t).k with
      | dead => trivial
      | nrow ty fz nl L =>
        left
        by_cases hn : nl = true ∧ L.l = []
        · exact hn
        · exact absurd (by simp only [Tab.live, hkk, OK.live]; exact hn) hlv
      | _ => exact absurd (by simp [Tab.live, hkk, OK.live]) hlv
  · by_cases hlive : T.live (2000000 + j)
    · rw [hβ _ hlive]
      rcases hb2 j hj hlive with q | ⟨i, q, _⟩
      · exact q
      · exact absurd q (hnd i)
    · rw [hβ2 _ hlive]; exact Nat.le_refl _
theorem orc1_ok {P : Program} {Γ : OrcT} (hΓ : GammaOk2 P Γ.orc) : GammaOk P (orc1 Γ).orc := by
  intro f xs lb res lb' lf h
  simp only [OrcT.orc, orc1] at h
  split at h
  · obtain ⟨q, h1, h2⟩ := bind_run h
    split at h2
    · rename_i hc
      have := ret_run h2
      simp only [Bool.and_eq_true] at hc
      obtain ⟨a1, a2⟩ := hΓ f xs lb _ _ _ h1
      have a3 := listed_ok a1
      rw [this] at hc a3
      exact ⟨spec_of2 a3 hc.1 hc.2, a2⟩
    · cases h2
  · cases h

/-! Sites that are to be used again are cleared first. -/
mutual
theorem V.sw_still (x y : Nat) : ∀ v : V, v.still = true → v.sw x y = v
  | .agg cs, h => by simp only [V.still] at h; simp only [V.sw, swL_still x y cs h]
  | .tup cs, h => by simp only [V.still] at h; simp only [V.sw, swL_still x y cs h]
  | .ifc _ v, h => by simp only [V.still] at h; simp only [V.sw, V.sw_still x y v h]
  | .fn _ cs, h => by simp only [V.still] at h; simp only [V.sw, swL_still x y cs h]
  | .undef, _ | .own _ _ _ _, h | .ptr _ _ _, h | .acc _ _, h | .eptr _ _ _ _ _, h | .nwin _ _ _ _, h | .mp _ _, h => by first | rfl | simp [V.still] at h
  | .bool _, _ | .int _ _, _ | .str _, _ | .snil, _ | .sl _ _, _ | .cref _, _ | .pnil, _ | .inil, _ | .fnil, _ | .lst _, _ | .eref _ _, _ | .bs _, _ | .sz, _ | .nl _, _ | .si _, _ => rfl
theorem swL_still (x y : Nat) : ∀ l : List V, stillL l = true → swL x y l = l
  | [], _ => rfl
  | v :: r, h => by
    simp only [stillL, Bool.and_eq_true] at h
    simp only [swL, V.sw_still x y v h.1, swL_still x y r h.2]
end
theorem spill1_get {st : St} {d t : Nat} (h : (st.get t).still = true) : (spill1 st d).get t = st.get t := by
  unfold spill1
  split
  · rw [St.get_sw]; exact V.sw_still _ _ _ h
  · rfl
theorem spill1_n {st : St} {d : Nat} : (spill1 st d).n = st.n ∧ (st.g = [] → (spill1 st d).g = []) := by
  unfold spill1
  split
  · exact ⟨rfl, fun h => by simp [St.sw, h, swL]⟩
  · exact ⟨rfl, id⟩
theorem spillL_get : ∀ (l : List Nat) (st : St), (l.foldl spill1 st).n = st.n ∧ (st.g = [] → (l.foldl spill1 st).g = []) ∧ ∀ t, (st.get t).still = true → (l.foldl spill1 st).get t = st.get t
  | [], st => ⟨rfl, id, fun _ _ => rfl⟩
  | d :: r, st => by
    obtain ⟨h1, h2, h3⟩ := spillL_get r (spill1 st d)
    have h0 := spill1_n (st := st) (d := d)
    simp only [List.foldl_cons]
    exact ⟨h1.trans h0.1, fun h => h2 (h0.2 h), fun t ht => by rw [h3 t (by rw [spill1_get ht]; exact ht), spill1_get ht]⟩
theorem spill_get : ∀ (ops : List Oper) (st : St), (spill st ops).n = st.n ∧ (st.g = [] → (spill st ops).g = []) ∧ ∀ t, (st.get t).still = true → (spill st ops).get t = st.get t
  | [], st => ⟨rfl, id, fun _ _ => rfl⟩
  | o :: r, st => by
    have e : spill st (o :: r) = spill ((makes o).foldl spill1 st) r := rfl
    obtain ⟨a1, a2, a3⟩ := spillL_get (makes o) st
    obtain ⟨h1, h2, h3⟩ := spill_get r ((makes o).foldl spill1 st)
    rw [e]
    exact ⟨h1.trans a1, fun h => h2 (a2 h), fun t ht => by rw [h3 t (by rw [a3 t ht]; exact ht), a3 t ht]⟩

def regionT2 (Γ : OrcT) (Λ : Lend) (P : Program) (ops : Array Oper) (draw : Bool) (st : St) : Tr St :=
  if draw = true then regionT (orc1 Γ) P ops draw st else steps2 Γ Λ P ops.toList ops.toList (spill st ops.toList)
theorem HT.regionT2 {κ : Cx} {Γ : OrcT} {Λ : Lend} (hΓ : GammaOk2 κ.P Γ.orc) (hm : κ.P.follows .mixedOrders = true) {id : Nat} {ops : Array Oper} {draw : Bool} (htmp : (!draw || tmpsOk ops.toList) = true) {Q : Exit → St → Prop} {st st' : St}
    (hx : (Abs.regionT2 Γ Λ κ.P ops draw st).run = some st') (h : Q .normal st') : HT κ (.region id ops draw) Q st := by
  unfold Abs.regionT2 at hx
  cases draw with
  | true =>
    simp only [if_true] at hx
    exact HT.regionT (orc1_ok hΓ) hm htmp hx h
  | false =>
    simp only [Bool.false_eq_true, if_false] at hx
    exact fun a w hr => wp_region_list (steps2_ok hΓ ops.toList _ st' a w hx (hr.spill ops.toList) fun a' w' hr' => ⟨st', h, hr'⟩)
end Go.Abs
