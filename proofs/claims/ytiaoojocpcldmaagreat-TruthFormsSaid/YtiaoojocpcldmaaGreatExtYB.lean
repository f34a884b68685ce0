/- Steps, calls and code of the machine in few and small steps. -/
import Derived.Test.YtiaoojocpcldmaaGreatExtY
namespace Go.Abs
open Go.RowKit
set_option linter.unusedVariables false
set_option linter.unusedSimpArgs false
noncomputable section

section
variable {β : Type _}
def oC (o : Oper) (c : Nat) : Oper := { o with dst := some c }
/-- The same, slices of capacity 0 first. -/
def opZ0 (P : Program) (st : St) (o : Oper) : Option (V × Wr) := match aop0 P st o with
  | some r => some r
  | none => opZ P st o
theorem opZ0_ok {κ : Cx} {ι : Nat → Nat} {st : St} {a : Act} {w : World} (h : RelI κ ι st a w) {o : Oper} {v : V} {wr : Wr} (hx : opZ0 κ.P st o = some (v, wr)) : OpRes κ ι st.o a w o v (wrT st.o wr) := by
  unfold opZ0 at hx
  split at hx
  · rename_i r hr
    injection hx with hx; subst hx
    exact aop0_ok h hr
  · exact opZ_ok h hx
def slow (P : Program) (st : St) (c : Nat) (o : Oper) (k : YK β) : Option β :=
  match opZ0 P st (oC o c) with
  | some (v, none) => zV 12 (conB v) fun v => yPure st c o.dst k v
  | some (v, some (s, ob)) => zV 12 (conB v) fun v => zN s fun s => Ob.rec (motive := fun _ => Option β) (fun g u => zN g fun g => zOK u fun u => qN (Nat.succ c) fun c => yWr st c o.dst k v s ⟨g, u⟩) ob
  | none => none
/-- What a step shows. -/
def Hit (P : Program) (st : St) (c : Nat) (o : Oper) (k : YK β) (r : β) : Prop :=
  ∃ v wr, (opZ P st (oC o c) = some (v, wr) ∨ opZ0 P st (oC o c) = some (v, wr)) ∧ ∃ u, (u = v ∨ u = conB v) ∧ After st o.dst u wr k r
theorem slow_hit {P : Program} {st : St} {c : Nat} {o : Oper} {k : YK β} {r : β} (h : slow P st c o k = some r) : Hit P st c o k r := by
  unfold slow at h
  split at h
  · rename_i v hv
    rw [zV_eq] at h
    exact ⟨v, none, .inr hv, _, .inr rfl, yPure_after h⟩
  · rename_i v s ob hv
    obtain ⟨g, u⟩ := ob
    simp only [zV_eq, zN_eq, zOK_eq, qN_eq] at h
    exact ⟨v, _, .inr hv, _, .inr rfl, yWr_after h⟩
  · cases h
theorem opZ_aop {P : Program} {st : St} {o : Oper} {x : V × Wr} (h : aop P st o = some x) : opZ P st o = some x ∨ opZ0 P st o = some x := by
  left; simp only [opZ, h]
def yNew (st : St) (c : Nat) (d : Option Nat) (k : YK β) (u : OK) : Option β :=
  qObj c st.o fun g _ => qN (Nat.succ c) fun c' => yWr st c' d k (.ptr c (Nat.succ g) 0) c ⟨Nat.succ g, u⟩
def yAlloc (P : Program) (st : St) (c : Nat) (d : Option Nat) (e : Nat) (k : YK β) : Option β := match zeroC P e with
  | some cs => zList (zV 4) cs fun cs => yNew st c d k (.box e cs)
  | none => none
def yBox (st : St) (c : Nat) (d : Option Nat) (e : Nat) (x : V) (k : YK β) : Option β := match x with
  | .undef => none
  | .agg cs => yNew st c d k (.box e cs)
  | x => yNew st c d k (.box e [x])
def faK (P : Program) (s f : Nat) : Option Nat := match P.underlying s with
  | some (.struct fs) => match fs[f]? with
    | some fd => match P.info? fd.type with
      | some i => if i.size = 0 then none else some fd.offset
      | none => none
    | none => none
  | _ => none
def yFA (P : Program) (s : Nat) (x : V) (f : Nat) (K : V → Option β) : Option β := match faK P s f with
  | some n => match x with
    | .ptr t g off => qN (Nat.add off n) fun m => K (.ptr t g m)
    | .cref cs => qDr n cs fun cs => K (.cref cs)
    | _ => none
  | none => none
theorem yFA_ok {P : Program} {s f : Nat} {x : V} {K : V → Option β} {r : β} (h : yFA P s x f K = some r) : ∃ v, aField P s x f = some v ∧ K v = some r := by
  unfold yFA at h
  split at h
  · rename_i n hn
    have key : ∀ v, aOff x n = some v → aField P s x f = some v := by
      intro v hv
      unfold faK at hn
      unfold aField
      split at hn
      · rename_i fs hs
        rw [hs]; simp only
        split at hn
        · rename_i fd hf
          rw [hf]; simp only
          split at hn
          · rename_i i hi
            rw [hi]; simp only
            split at hn
            · cases hn
            · rename_i h0
              injection hn with hn; subst hn
              rw [if_neg h0]; exact hv
          · cases hn
        · cases hn
      · cases hn
    split at h
    · rename_i t g off
      rw [qN_eq] at h
      exact ⟨_, key _ rfl, h⟩
    · rename_i cs
      obtain ⟨h1, h2⟩ := qDr_ok _ _ _ h
      exact ⟨_, key _ (by simp only [aOff, if_pos h1]), h2⟩
    · cases h
  · cases h
def yExt (x : V) (i : Nat) (K : V → Option β) : Option β := match x with
  | .tup vs => qNth i vs K
  | _ => none
theorem yExt_ok {x : V} {i : Nat} {K : V → Option β} {r : β} (h : yExt x i K = some r) : ∃ v, aExtract x i = some v ∧ K v = some r := by
  unfold yExt at h
  split at h
  · exact qNth_ok _ _ _ h
  · cases h
def taK (P : Program) (t : Nat) : Bool := match P.underlying t with
  | some d => !isIfaceD d
  | none => false
def yTA (P : Program) (asserted : Nat) (ok : Bool) (x : V) (K : V → Option β) (F : Option β) : Option β := match x with
  | .ifc t v => Bool.rec (motive := fun _ => Option β) F (Bool.rec (motive := fun _ => Option β) F (Bool.rec (motive := fun _ => Option β) (K v) (K (.tup [v, .bool true])) ok) (taK P asserted)) (Nat.beq t asserted)
  | _ => F
theorem taK_ok {P : Program} {t : Nat} (h : taK P t = true) : ∃ d, P.underlying t = some d ∧ isIfaceD d = false := by
  unfold taK at h
  split at h
  · rename_i d hd
    exact ⟨d, hd, by simpa using h⟩
  · cases h
theorem yTA_ok {P : Program} {asserted : Nat} {ok : Bool} {x : V} {K : V → Option β} {F : Option β} {r : β} (h : yTA P asserted ok x K F = some r) : F = some r ∨ ∃ v, aAssert P asserted ok x = some v ∧ K v = some r := by
  unfold yTA at h
  split at h
  · rename_i t v
    cases h1 : Nat.beq t asserted with
    | false => rw [h1] at h; exact .inl h
    | true =>
      rw [h1] at h
      have h1 := Nat.eq_of_beq_eq_true h1
      cases h2 : taK P asserted with
      | false => rw [h2] at h; exact .inl h
      | true =>
        rw [h2] at h
        obtain ⟨d, hd, hi⟩ := taK_ok h2
        refine .inr ?_
        cases ok with
        | false => exact ⟨v, by simp only [aAssert, hd, hi, h1, Bool.false_eq_true, if_false, if_true], h⟩
        | true => exact ⟨.tup [v, .bool true], by simp only [aAssert, hd, hi, h1, Bool.false_eq_true, if_false, if_true], h⟩
  · exact .inl h
def cvK (P : Program) (src dst : Nat) : Option IntKind := match P.underlying src, P.underlying dst with
  | some _, some (.int k) => some k
  | _, _ => none
def yConv (P : Program) (src dst : Nat) (x : V) (K : V → Option β) (F : Option β) : Option β := match x with
  | .int _ n => match n with
    | .ofNat a => match cvK P src dst with
      | some k => qFit k a K F
      | none => F
    | _ => F
  | _ => F
theorem yConv_ok {P : Program} {T : Tab} {src dst d : Nat} {x : V} {K : V → Option β} {F : Option β} {r : β} (h : yConv P src dst x K F = some r) : F = some r ∨ ∃ v, aConvert P T src dst x d = some (v, none) ∧ K v = some r := by
  unfold yConv at h
  split at h
  · split at h
    · rename_i a
      split at h
      · rename_i k hk
        rcases qFit_ok h with h | ⟨h1, h2⟩
        · exact .inl h
        · refine .inr ⟨_, ?_, h2⟩
          unfold cvK at hk
          split at hk
          · rename_i d1 k' e1 e2
            injection hk with hk; subst hk
            have := wr_nat h1
            simp only [aConvert, e1, e2]
            rw [show (Int.ofNat a) = ((a : Nat) : Int) from rfl, this]
          · cases hk
      · exact .inl h
    · exact .inl h
  · exact .inl h
def lnK (P : Program) (t : Nat) : Bool := match P.underlying t with
  | some (.slice _) => true
  | _ => false
def lnS (P : Program) (t : Nat) : Bool := match P.underlying t with
  | some .string => true
  | _ => false
def yLen (P : Program) (t : Nat) (x : V) (K : V → Option β) (F : Option β) : Option β := match x with
  | .own _ _ _ n => Bool.rec (motive := fun _ => Option β) F (K (.int .i64 (.ofNat n))) (lnK P t)
  | .sl n _ => Bool.rec (motive := fun _ => Option β) F (K (.int .i64 (.ofNat n))) (lnK P t)
  | .snil => Bool.rec (motive := fun _ => Option β) F (K (.int .i64 (.ofNat 0))) (lnK P t)
  | .str s => Bool.rec (motive := fun _ => Option β) F (qN (qLen s) fun n => K (.int .i64 (.ofNat n))) (lnS P t)
  | _ => F
theorem brec_or {b : Bool} {x F : Option β} {r : β} (h : Bool.rec (motive := fun _ => Option β) F x b = some r) : F = some r ∨ (b = true ∧ x = some r) := by
  cases b with
  | false => exact .inl h
  | true => exact .inr ⟨rfl, h⟩
theorem lnK_ok {P : Program} {t : Nat} (h : lnK P t = true) : ∃ e, P.underlying t = some (.slice e) := by
  unfold lnK at h
  split at h
  · rename_i e he; exact ⟨e, he⟩
  · cases h
theorem lnS_ok {P : Program} {t : Nat} (h : lnS P t = true) : P.underlying t = some .string := by
  unfold lnS at h
  split at h
  · assumption
  · cases h
theorem yLen_ok {P : Program} {T : Tab} {t : Nat} {x : V} {K : V → Option β} {F : Option β} {r : β} (h : yLen P t x K F = some r) : F = some r ∨ ∃ v, aLen P T t x = some v ∧ K v = some r := by
  unfold yLen at h
  split at h
  · rcases brec_or h with h | ⟨h1, h2⟩
    · exact .inl h
    · obtain ⟨e, he⟩ := lnK_ok h1
      exact .inr ⟨_, by simp only [aLen, he]; rfl, h2⟩
  · rcases brec_or h with h | ⟨h1, h2⟩
    · exact .inl h
    · obtain ⟨e, he⟩ := lnK_ok h1
      exact .inr ⟨_, by simp only [aLen, he]; rfl, h2⟩
  · rcases brec_or h with h | ⟨h1, h2⟩
    · exact .inl h
    · obtain ⟨e, he⟩ := lnK_ok h1
      exact .inr ⟨_, by simp only [aLen, he]; rfl, h2⟩
  · rename_i s
    rcases brec_or h with h | ⟨h1, h2⟩
    · exact .inl h
    · have he := lnS_ok h1
      rw [qN_eq, qLen_eq] at h2
      exact .inr ⟨_, by simp only [aLen, he]; rfl, h2⟩
  · exact .inl h
/-- Of an index: the array's length, if it is one; the elements' size. -/
def iaK (P : Program) (t : Nat) : Option (Option Nat × Nat) := match P.underlying t with
  | some (.array len e) => match P.info? e with
    | some inf => some (some len, inf.size)
    | none => none
  | some (.slice e) => match P.info? e with
    | some inf => some (none, inf.size)
    | none => none
  | _ => none
def yIA2 (T : Tab) (sz i : Nat) (x : V) (K : V → Option β) : Option β := match x with
  | .own s g off n => Bool.rec (motive := fun _ => Option β) none (qObj s T fun g' o => Bool.rec (motive := fun _ => Option β) none (match o with
      | .row _ sz' _ _ => Bool.rec (motive := fun _ => Option β) none (qN (Nat.mul (Nat.add off i) sz) fun m => K (.ptr s g m)) (Nat.beq sz' sz)
      | _ => none) (Nat.beq g' g)) (Nat.blt i n)
  | .sl n cs => Bool.rec (motive := fun _ => Option β) none (qDr (Nat.mul i sz) cs fun cs => qTk sz cs fun cs => K (.cref cs)) (Nat.blt i n)
  | _ => none
def yIA (P : Program) (T : Tab) (t : Nat) (x ix : V) (K : V → Option β) (F : Option β) : Option β := match ix with
  | .int _ n => match n with
    | .ofNat i => match iaK P t with
      | some (none, sz) => match x with
        | .own s g off n => yIA2 T sz i (.own s g off n) K
        | .sl n cs => yIA2 T sz i (.sl n cs) K
        | _ => F
      | some (some len, sz) => match x with
        | .ptr s g off => Bool.rec (motive := fun _ => Option β) F (qN (Nat.add off (Nat.mul i sz)) fun m => K (.ptr s g m)) (Nat.blt i len)
        | _ => F
      | none => F
    | _ => F
  | _ => F
theorem yIA_ok {P : Program} {T : Tab} {t : Nat} {x ix : V} {K : V → Option β} {F : Option β} {r : β} (h : yIA P T t x ix K F = some r) : F = some r ∨ ∃ v, aIndexAddr P T t x ix = some v ∧ K v = some r := by
  unfold yIA at h
  split at h
  · split at h
    · rename_i k' i
      split at h
      · rename_i sz hk
        unfold iaK at hk
        split at hk
        · split at hk
          · injection hk with hk; injection hk with hk; cases hk
          · cases hk
        · rename_i e he
          split at hk
          · rename_i inf hi
            injection hk with hk; injection hk with e1 hk; subst hk
            split at h
            · rename_i s g off n
              unfold yIA2 at h
              obtain ⟨h1, h⟩ := brec_some h
              rw [qObj_eq] at h
              obtain ⟨h2, h⟩ := brec_some h
              have h1 := blt_lt h1
              have h2 := Nat.eq_of_beq_eq_true h2
              split at h
              · rename_i ty sz' fz cs hk
                obtain ⟨h3, hz⟩ := brec_some h
                have h3 := Nat.eq_of_beq_eq_true h3
                rw [qN_eq] at hz
                subst h3
                refine .inr ⟨_, ?_, hz⟩
                have hc : (0 : Int) ≤ Int.ofNat i ∧ Int.ofNat i < (n : Int) ∧ (T.get s).gen = g := ⟨by simp, by simp; omega, h2⟩
                simp only [aIndexAddr, he, hi, if_pos hc, hk, if_true]
                rfl
              · cases h
            · rename_i n cs
              unfold yIA2 at h
              obtain ⟨h1, h⟩ := brec_some h
              have h1 := blt_lt h1
              obtain ⟨h2, h⟩ := qDr_ok _ _ _ h
              obtain ⟨h3, h⟩ := qTk_ok _ _ _ h
              refine .inr ⟨_, ?_, h⟩
              have h2' : i * inf.size ≤ cs.length := h2
              have h3' : inf.size ≤ (cs.drop (i * inf.size)).length := h3
              rw [List.length_drop] at h3'
              have hc : (0 : Int) ≤ Int.ofNat i ∧ Int.ofNat i < (n : Int) ∧ ((Int.ofNat i).toNat + 1) * inf.size ≤ cs.length := by
                refine ⟨by simp, by simp; omega, ?_⟩
                show (i + 1) * inf.size ≤ _
                rw [Nat.add_mul]; omega
              simp only [aIndexAddr, he, hi, if_pos hc]
              rfl
            · exact .inl h
          · cases hk
        · cases hk
      · rename_i len sz hk
        unfold iaK at hk
        split at hk
        · rename_i len' e he
          split at hk
          · rename_i inf hi
            injection hk with hk; injection hk with e1 hk; injection e1 with e1; subst hk e1
            split at h
            · rename_i s g off
              rcases brec_or h with h | ⟨h1, h2⟩
              · exact .inl h
              · have h1 := blt_lt h1
                rw [qN_eq] at h2
                refine .inr ⟨_, ?_, h2⟩
                have hc : (0 : Int) ≤ Int.ofNat i ∧ Int.ofNat i < (len' : Int) := ⟨by simp, by simp; omega⟩
                simp only [aIndexAddr, he, hi, isArr, Bool.false_eq_true, if_false, if_pos hc, aOff]
                rfl
            · exact .inl h
          · cases hk
        · split at hk
          · injection hk with hk; injection hk with hk; cases hk
          · cases hk
        · cases hk
      · exact .inl h
    · exact .inl h
  · exact .inl h
def ldF (P : Program) (t f : Nat) : Option (Nat × Nat) := match P.underlying t with
  | some (.struct fs) => match fs[f]? with
    | some fd => some (fd.type, fd.offset)
    | none => none
  | _ => none

/-- One operation that is no call of a function. -/
def yOp (P : Program) (st : St) (c : Nat) (o : Oper) (k : YK β) : Option β := match o.op with
  | .move x => qEval st x (yPure st c o.dst k)
  | .assign x => qEval st x (yPure st c o.dst k)
  | .pick b x y => qEval st b fun vb => match vb with
    | .bool b => Bool.rec (motive := fun _ => Option β) (qEval st y (yPure st c o.dst k)) (qEval st x (yPure st c o.dst k)) b
    | _ => none
  | .alloc e => yAlloc P st c o.dst e k
  | .box e x => qEval st x fun vx => yBox st c o.dst e vx k
  | .load t x => qEval st x fun vx => yLoad P st.o t vx (yPure st c o.dst k)
  | .store t x y => qEval st x fun vx => qEval st y fun vy => match vx with
    | .ptr s g off => yStore P st.o t (.ptr s g off) vy (yWr st c o.dst k (.tup []))
    | _ => slow P st c o k
  | .binOp op t x y _ => qEval st x fun vx => qEval st y fun vy => yBin P op t x y vx vy fun v => qB v (yPure st c o.dst k)
  | .unOp op _ x => qEval st x fun vx => yUn op vx (yPure st c o.dst k) (slow P st c o k)
  | .fieldAddr s x f => qEval st x fun vx => yFA2 P s vx f (yPure st c o.dst k) (slow P st c o k)
  | .indexAddr t x ix => qEval st x fun vx => qEval st ix fun vi => yIA P st.o t vx vi (yPure st c o.dst k) (slow P st c o k)
  | .extract x i => qEval st x fun vx => yExt vx i fun v => qB v (yPure st c o.dst k)
  | .typeAssert x _ asserted ok => qEval st x fun vx => yTA P asserted ok vx (yPure st c o.dst k) (slow P st c o k)
  | .convert src dst x => qEval st x fun vx => yConv P src dst vx (yPure st c o.dst k) (slow P st c o k)
  | .nilCheck x => qEval st x fun vx => yNC vx (yPure st c o.dst k) (slow P st c o k)
  | .call cl => yBi P st c o cl k
  | _ => slow P st c o k
where
  qB (v : V) (K : V → Option β) : Option β := match v with
    | .bs b => qBool b K
    | v => K v
  yUn (op : UnOp) (x : V) (K : V → Option β) (F : Option β) : Option β := match op with
    | .not => match x with
      | .bool b => Bool.rec (motive := fun _ => Option β) (K (.bool true)) (K (.bool false)) b
      | _ => F
    | _ => F
  yFA2 (P : Program) (s : Nat) (x : V) (f : Nat) (K : V → Option β) (F : Option β) : Option β := match x with
    | .ptr a b c => yFA P s (.ptr a b c) f K
    | .cref cs => yFA P s (.cref cs) f K
    | _ => F
  yNC (x : V) (K : V → Option β) (F : Option β) : Option β := match x with
    | .ptr s g off => K (.ptr s g off)
    | .cref cs => K (.cref cs)
    | _ => F
  yBi (P : Program) (st : St) (c : Nat) (o : Oper) (cl : Call) (k : YK β) : Option β := match cl.callee with
    | .builtin b => match b with
      | .len => match cl.args.toList with
        | [x] => match cl.argTypes.toList with
          | [t] => qEval st x fun vx => yLen P t vx (yPure st c o.dst k) (slow P st c o k)
          | _ => none
        | _ => none
      | _ => slow P st c o k
    | _ => none
theorem qB_ok {v : V} {K : V → Option β} {r : β} (h : yOp.qB v K = some r) : K (conB v) = some r := by
  unfold yOp.qB at h
  split at h
  · exact qBool_ok h
  · rename_i hv
    rw [show conB v = v from by cases v <;> first | rfl | exact absurd rfl (hv _)]
    exact h
theorem yOp_hit {P : Program} {st : St} {c : Nat} {o : Oper} {k : YK β} {r : β} (h : yOp P st c o k = some r) : Hit P st c o k r := by
  obtain ⟨dst, op, type, pos, after, guard⟩ := o
  unfold yOp at h
  cases op <;> simp only [qEval_eq] at h <;> (try exact slow_hit h)
  case move x => exact ⟨_, none, opZ_aop (by rfl), _, .inl rfl, yPure_after h⟩
  case assign x => exact ⟨_, none, opZ_aop (by rfl), _, .inl rfl, yPure_after h⟩
  case pick b x y =>
    split at h
    · rename_i b' hb
      cases b' with
      | false => exact ⟨st.eval y, none, opZ_aop (by simp only [aop, oC, hb, Bool.false_eq_true, if_false]), _, .inl rfl, yPure_after h⟩
      | true => exact ⟨st.eval x, none, opZ_aop (by simp only [aop, oC, hb, if_true]), _, .inl rfl, yPure_after h⟩
    · cases h
  case alloc e =>
    unfold yAlloc at h
    split at h
    · rename_i cs hcs
      rw [zList_eq (zV_eq 4)] at h
      simp only [yNew, qObj_eq, qN_eq] at h
      exact ⟨_, _, opZ_aop (by simp only [aop, oC, aAlloc, hcs, Option.map_some]), _, .inl rfl, yWr_after h⟩
    · cases h
  case box e x =>
    unfold yBox at h
    split at h
    · cases h
    · rename_i cs hcs
      simp only [yNew, qObj_eq, qN_eq] at h
      exact ⟨_, _, opZ_aop (by simp only [aop, oC, aBox, hcs]; rfl), _, .inl rfl, yWr_after h⟩
    · rename_i x' hu ha
      simp only [yNew, qObj_eq, qN_eq] at h
      have hb : aBox st.o e c (st.eval x) = some (.ptr c ((st.o.get c).gen + 1) 0, some (c, ⟨(st.o.get c).gen + 1, .box e [st.eval x]⟩)) := by
        unfold aBox
        split
        · rename_i e1; exact absurd e1 hu
        · rw [show (st.eval x).cells = [st.eval x] from by
            unfold V.cells
            split
            · rename_i e1; exact absurd e1 (ha _)
            · rfl]
      exact ⟨_, _, opZ_aop (by simp only [aop, oC]; exact hb), _, .inl rfl, yWr_after h⟩
  case load t x =>
    obtain ⟨v, h1, h2⟩ := yLoad_ok h
    exact ⟨v, none, opZ_aop (by simp only [aop, oC, h1]), _, .inl rfl, yPure_after h2⟩
  case store t x y =>
    split at h
    · rename_i s g off hx
      obtain ⟨s', ob, h1, h2⟩ := yStore_ok h
      exact ⟨_, _, opZ_aop (by simp only [aop, oC, aStoreN, hx, h1, Option.map_some]), _, .inl rfl, yWr_after h2⟩
    · exact slow_hit h
  case binOp op t x y ty =>
    obtain ⟨v, h1, h2⟩ := yBin_ok h
    have h2 := qB_ok h2
    refine ⟨symB v, none, opZ_aop (by simp only [aop, oC, h1, Option.map_some]), _, .inr ?_, yPure_after h2⟩
    cases v <;> rfl
  case unOp op ty x =>
    unfold yOp.yUn at h
    split at h
    · split at h
      · rename_i b hx
        have key : yPure st c dst k (.bool (!b)) = some r := by cases b <;> exact h
        refine ⟨symB (.bool (!b)), none, opZ_aop (by simp only [aop, oC, hx, Abs.conB, aUn, Option.map_some]), _, .inr rfl, yPure_after key⟩
      · exact slow_hit h
    · exact slow_hit h
  case fieldAddr s x f =>
    unfold yOp.yFA2 at h
    split at h
    · rename_i hx
      obtain ⟨v, h1, h2⟩ := yFA_ok h
      exact ⟨v, none, opZ_aop (by simp only [aop, oC, hx, h1, Option.map_some]), _, .inl rfl, yPure_after h2⟩
    · rename_i hx
      obtain ⟨v, h1, h2⟩ := yFA_ok h
      exact ⟨v, none, opZ_aop (by simp only [aop, oC, hx, h1, Option.map_some]), _, .inl rfl, yPure_after h2⟩
    · exact slow_hit h
  case indexAddr t x ix =>
    rcases yIA_ok h with h | ⟨v, h1, h2⟩
    · exact slow_hit h
    · exact ⟨v, none, opZ_aop (by simp only [aop, oC, h1, Option.map_some]), _, .inl rfl, yPure_after h2⟩
  case extract x i =>
    obtain ⟨v, h1, h2⟩ := yExt_ok h
    have h2 := qB_ok h2
    exact ⟨v, none, opZ_aop (by simp only [aop, oC, h1, Option.map_some]), _, .inr rfl, yPure_after h2⟩
  case typeAssert x t asserted ok =>
    rcases yTA_ok h with h | ⟨v, h1, h2⟩
    · exact slow_hit h
    · exact ⟨v, none, opZ_aop (by simp only [aop, oC, h1, Option.map_some]), _, .inl rfl, yPure_after h2⟩
  case convert src d x =>
    rcases yConv_ok (T := st.o) (d := c) h with h | ⟨v, h1, h2⟩
    · exact slow_hit h
    · exact ⟨v, none, opZ_aop (by simp only [aop, oC, h1]), _, .inl rfl, yPure_after h2⟩
  case nilCheck x =>
    unfold yOp.yNC at h
    split at h
    · rename_i hx
      exact ⟨_, none, opZ_aop (by simp only [aop, oC, hx]), _, .inl rfl, yPure_after h⟩
    · rename_i hx
      exact ⟨_, none, opZ_aop (by simp only [aop, oC, hx]), _, .inl rfl, yPure_after h⟩
    · exact slow_hit h
  case call cl =>
    obtain ⟨callee, args, ats⟩ := cl
    unfold yOp.yBi at h
    simp only at h
    split at h
    · rename_i b
      split at h
      · split at h
        · rename_i x hxs
          split at h
          · rename_i t hts
            rw [qEval_eq] at h
            rcases yLen_ok (T := st.o) h with h | ⟨v, h1, h2⟩
            · exact slow_hit h
            · exact ⟨v, none, opZ_aop (by simp only [aop, oC, hxs, hts, h1, Option.map_some]), _, .inl rfl, yPure_after h2⟩
          · cases h
        · cases h
      · exact slow_hit h
    · cases h
end
end
end Go.Abs
