/- A region that draws its order, of which each operation turns at most what is its own: in few and small steps. -/
import Derived.Test.YtiaoojocpcldmaaGreatExtYP
namespace Go.Abs
open Go.RowKit
set_option linter.unusedVariables false
set_option linter.unusedSimpArgs false
noncomputable section

/-! Who may not meet. -/
def okS (s : Nat) : Bool := Bool.rec (Nat.ble 400000 s) true (Nat.ble 1000 (Nat.mod s 100000))
theorem okS_ne {s d k : Nat} (h : okS s = true) (hd : d < 1000) (hk : k < 4) : s ≠ fsite d k := by
  intro e
  unfold fsite at e
  unfold okS at h
  cases h1 : Nat.ble 1000 (Nat.mod s 100000) with
  | true =>
    have h1 := Nat.le_of_ble_eq_true h1
    have h1 : 1000 ≤ s % 100000 := h1
    omega
  | false =>
    rw [h1] at h
    have h := Nat.le_of_ble_eq_true h
    omega
def dMask (opl : List Oper) (m : Nat) : Bool :=
  List.rec (motive := fun _ => Nat → Bool) (fun _ => true) (fun o _ ih m => match o.dst with
    | none => ih m
    | some d => Bool.rec false (Bool.rec (ih (Nat.lor m (Nat.shiftLeft 1 d))) false (Nat.testBit m d)) (Nat.blt d 1000)) opl m
def dOk (opl : List Oper) : Bool := dMask opl 0
theorem bit_or {m i j : Nat} : (Nat.lor m (Nat.shiftLeft 1 i)).testBit j = (m.testBit j || decide (i = j)) := by
  have e1 : Nat.lor m (Nat.shiftLeft 1 i) = m ||| (1 <<< i) := rfl
  rw [e1, Nat.testBit_or, Nat.testBit_shiftLeft]
  congr 1
  by_cases h : i = j
  · subst h; simp
  · rw [decide_eq_false h]
    by_cases hle : i ≤ j
    · rw [Nat.testBit_lt_two_pow (Nat.one_lt_two_pow (by omega))]; simp
    · simp; omega
theorem dMask_ok : ∀ (opl : List Oper) (m : Nat), dMask opl m = true → (∀ o ∈ opl, ∀ d : Nat, o.dst = some d → d < 1000 ∧ m.testBit d = false) ∧ ∀ (i j : Nat) (oi oj : Oper) (d : Nat), opl[i]? = some oi → opl[j]? = some oj → oi.dst = some d → oj.dst = some d → i = j
  | [], m, _ => ⟨(fun o ho => by cases ho), (fun i j oi oj d h => by simp at h)⟩
  | o :: l, m, h => by
    have h' : (match o.dst with
      | none => dMask l m
      | some d => (Bool.rec false (Bool.rec (dMask l (Nat.lor m (Nat.shiftLeft 1 d))) false (Nat.testBit m d)) (Nat.blt d 1000) : Bool)) = true := h
    cases hd : o.dst with
    | none =>
      rw [hd] at h'
      obtain ⟨h1, h2⟩ := dMask_ok l m h'
      refine ⟨fun o' ho' d he => ?_, fun i j oi oj d e1 e2 e3 e4 => ?_⟩
      · rcases List.mem_cons.1 ho' with rfl | ho'
        · rw [hd] at he; cases he
        · exact h1 o' ho' d he
      · cases i with
        | zero => simp at e1; subst e1; rw [hd] at e3; cases e3
        | succ i => cases j with
          | zero => simp at e2; subst e2; rw [hd] at e4; cases e4
          | succ j => rw [h2 i j oi oj d (by simpa using e1) (by simpa using e2) e3 e4]
    | some d =>
      rw [hd] at h'
      simp only at h'
      cases hb : Nat.blt d 1000 with
      | false => rw [hb] at h'; cases h'
      | true =>
        rw [hb] at h'
        cases hm : Nat.testBit m d with
        | true => rw [hm] at h'; cases h'
        | false =>
          rw [hm] at h'
          obtain ⟨h1, h2⟩ := dMask_ok l _ h'
          have hnot : ∀ o' ∈ l, o'.dst ≠ some d := fun o' ho' e => by
            have := (h1 o' ho' d e).2
            rw [bit_or] at this
            simp at this
          refine ⟨fun o' ho' d' he => ?_, fun i j oi oj d' e1 e2 e3 e4 => ?_⟩
          · rcases List.mem_cons.1 ho' with rfl | ho'
            · rw [hd] at he; injection he with he; subst he
              exact ⟨blt_lt hb, hm⟩
            · have := h1 o' ho' d' he
              rw [bit_or] at this
              simp only [Bool.or_eq_false_iff] at this
              exact ⟨this.1, this.2.1⟩
          · cases i with
            | zero =>
              simp at e1; subst e1
              rw [hd] at e3; injection e3 with e3; subst e3
              cases j with
              | zero => rfl
              | succ j => exact absurd e4 (hnot oj (List.mem_of_getElem? (by simpa using e2)))
            | succ i => cases j with
              | zero =>
                simp at e2; subst e2
                rw [hd] at e4; injection e4 with e4; subst e4
                exact absurd e3 (hnot oi (List.mem_of_getElem? (by simpa using e1)))
              | succ j => rw [h2 i j oi oj d' (by simpa using e1) (by simpa using e2) e3 e4]
def Fine (o : Oper) (r : Rec) : Prop := (∀ s ∈ r.F, (∃ k, k < 4 ∧ s = fsite (o.dst.getD 99999) k) ∨ okS s = true) ∧ (r.W = [] ∨ ∃ d : Nat, o.dst = some d ∧ ∀ s ∈ keys r.W, ∃ k, k < 4 ∧ s = fsite d k)
theorem objs_fine {opl : List Oper} {rs : List Rec} (hd : dOk opl = true) (hf : ∀ (i : Nat) (r : Rec), rs[i]? = some r → ∃ o, opl[i]? = some o ∧ Fine o r) : objsOk opl rs = true := by
  obtain ⟨h1, h2⟩ := dMask_ok opl 0 hd
  have hget : ∀ {i : Nat} {r : Rec}, (r, i) ∈ rs.zipIdx → rs[i]? = some r := fun {i r} h => by
    have := List.mem_zipIdx h
    simp at this
    obtain ⟨a, b⟩ := this
    rw [List.getElem?_eq_getElem a, b]
  unfold objsOk
  rw [List.all_eq_true]
  rintro ⟨ri, i⟩ hi
  simp only [Bool.or_eq_true]
  obtain ⟨oi, ho, hF, hW⟩ := hf i ri (hget hi)
  rcases hW with hW | ⟨d, hdst, hW⟩
  · left; rw [hW]; rfl
  · right
    rw [List.all_eq_true]
    rintro ⟨rj, j⟩ hj
    simp only [Bool.or_eq_true]
    by_cases hij : i = j
    · left; left; simp [hij]
    · left; right
      obtain ⟨oj, hoj, hFj, _⟩ := hf j rj (hget hj)
      have hlt := (h1 oi (List.mem_of_getElem? ho) d hdst).1
      cases hm : meets (keys ri.W) rj.F with
      | false => rfl
      | true =>
        exfalso
        simp only [meets, List.any_eq_true, List.contains_iff_mem] at hm
        obtain ⟨s, hs, hsF⟩ := hm
        obtain ⟨k, hk, rfl⟩ := hW s hs
        rcases hFj _ hsF with ⟨k', hk', e⟩ | hok
        · cases hdj : oj.dst with
          | none =>
            rw [hdj] at e
            have e : d + 100000 * k = 99999 + 100000 * k' := e
            omega
          | some d' =>
            rw [hdj] at e
            have e : d + 100000 * k = (d' : Nat) + 100000 * k' := e
            have hlt' : (d' : Nat) < 1000 := (h1 oj (List.mem_of_getElem? hoj) d' hdj).1
            have key : ∀ a b x y : Nat, a < 1000 → b < 1000 → a + 100000 * x = b + 100000 * y → a = b := by intros; omega
            have : d = d' := key d d' k k' hlt hlt' e
            subst this
            exact hij (h2 i j oi oj d ho hoj hdst hdj)
        · exact okS_ne hok hlt hk rfl

/-! States that look alike. -/
structure Sim (a b : St) : Prop where
  n : a.n = b.n
  g : a.g = b.g
  t : ∀ t, a.get t = b.get t
  o : ∀ s, a.o.get s = b.o.get s
theorem Sim.eval {a b : St} (h : Sim a b) (x : Operand) : a.eval x = b.eval x := by
  cases x <;> simp only [St.eval, h.t]
theorem aop_sim {P : Program} {a b : St} {o : Oper} (he : ∀ x, a.eval x = b.eval x) (ho : a.o = b.o) : aop P a o = aop P b o := by
  have he : a.eval = b.eval := funext he
  unfold aop
  simp only [St.parts, he, ho]
theorem refsN_pure : ∀ (n : Nat) (T : Tab) (v : V), v.pure = true → refsN n T v = []
  | 0, _, _, _ => rfl
  | n + 1, T, v, h => by
    have hl : ∀ cs : List V, pureL cs = true → cs.flatMap (refsN n T) = [] := by
      intro cs hcs
      rw [List.flatMap_eq_nil_iff]
      intro v hv
      exact refsN_pure n T v (by
        revert hcs
        induction cs with
        | nil => cases hv
        | cons x cs ih =>
          intro hcs
          simp only [pureL, Bool.and_eq_true] at hcs
          rcases List.mem_cons.1 hv with rfl | hv
          · exact hcs.1
          · exact ih hv hcs.2)
    cases v <;> simp only [V.pure] at h <;> first | (cases h; done) | rfl | exact hl _ h | exact refsN_pure n T _ h

section
variable {β : Type _}
def qRefOk (v : V) : Bool := match v with
  | .own s _ _ _ => okS s
  | .ptr s _ _ => okS s
  | .acc s _ => okS s
  | .eptr s _ _ _ _ => okS s
  | .nwin s _ _ _ => okS s
  | .mp s _ => okS s
  | _ => true
theorem qRefOk_ok {v : V} (h : qRefOk v = true) : ∀ s ∈ refs1 v, okS s = true := by
  intro s hs
  cases v <;> simp only [refs1, List.mem_cons, List.not_mem_nil, or_false] at hs <;> first | (subst hs; exact h) | (cases hs; done)
/-- One operation that is no call of a function, just as it is. -/
def yEx (P : Program) (st : St) (o : Oper) (K : V → Wr → Option β) : Option β := match o.op with
  | .move x => qEval st x fun v => K v none
  | .assign x => qEval st x fun v => K v none
  | .pick b x y => qEval st b fun vb => match vb with
    | .bool b => Bool.rec (motive := fun _ => Option β) (qEval st y fun v => K v none) (qEval st x fun v => K v none) b
    | .bs b => Bool.rec (motive := fun _ => Option β) (qEval st y fun v => K v none) (qEval st x fun v => K v none) b
    | _ => none
  | .load t x => qEval st x fun vx => yLoad P st.o t vx fun v => K v none
  | .binOp op t x y _ => qEval st x fun vx => qEval st y fun vy => yBin P op t x y vx vy fun v => qSym v fun v => K v none
  | .unOp op _ x => match op with
    | .not => qEval st x fun vx => match vx with
      | .bool b => Bool.rec (motive := fun _ => Option β) (K (.bs true) none) (K (.bs false) none) b
      | .bs b => Bool.rec (motive := fun _ => Option β) (K (.bs true) none) (K (.bs false) none) b
      | _ => none
    | _ => yExS P st o K
  | .fieldAddr s x f => qEval st x fun vx => yFA P s vx f fun v => K v none
  | .indexAddr t x ix => qEval st x fun vx => qEval st ix fun vi => yIA P st.o t vx vi (fun v => K v none) (yExS P st o K)
  | .extract x i => qEval st x fun vx => yExt vx i fun v => K v none
  | .typeAssert x _ asserted ok => qEval st x fun vx => yTA P asserted ok vx (fun v => K v none) (yExS P st o K)
  | .convert src dst x => match o.dst with
    | some _ => qEval st x fun vx => yConv P src dst vx (fun v => K v none) (yExS P st o K)
    | none => none
  | .call cl => yExB P st o cl K
  | _ => yExS P st o K
where
  yExS (P : Program) (st : St) (o : Oper) (K : V → Wr → Option β) : Option β := match aop P st o with
    | some (v, none) => zV 12 v fun v => K v none
    | some (v, some (s, ob)) => zV 12 v fun v => zN s fun s => Ob.rec (motive := fun _ => Option β) (fun g u => zN g fun g => zOK u fun u => K v (some (s, ⟨g, u⟩))) ob
    | none => none
  qSym (v : V) (K : V → Option β) : Option β := match v with
    | .bool b => Bool.rec (motive := fun _ => Option β) (K (.bs false)) (K (.bs true)) b
    | v => K v
  yExB (P : Program) (st : St) (o : Oper) (cl : Call) (K : V → Wr → Option β) : Option β := match cl.callee with
    | .builtin b => match b with
      | .len => match cl.args.toList with
        | [x] => match cl.argTypes.toList with
          | [t] => qEval st x fun vx => yLen P t vx (fun v => K v none) (yExS P st o K)
          | _ => none
        | _ => none
      | _ => yExS P st o K
    | _ => none
theorem yExS_ok {P : Program} {st : St} {o : Oper} {K : V → Wr → Option β} {r : β} (h : yEx.yExS P st o K = some r) : ∃ v wr, aop P st o = some (v, wr) ∧ K v wr = some r := by
  unfold yEx.yExS at h
  split at h
  · rename_i v hv
    rw [zV_eq] at h
    exact ⟨v, none, hv, h⟩
  · rename_i v s ob hv
    obtain ⟨g, u⟩ := ob
    simp only [zV_eq, zN_eq, zOK_eq] at h
    exact ⟨v, _, hv, h⟩
  · cases h
theorem qSym_ok {v : V} {K : V → Option β} {r : β} (h : yEx.qSym v K = some r) : K (symB v) = some r := by
  unfold yEx.qSym at h
  split at h
  · rename_i b
    cases b <;> exact h
  · rename_i hv
    rw [show symB v = v from by cases v <;> first | rfl | exact absurd rfl (hv _)]
    exact h
theorem yEx_ok {P : Program} {st : St} {o : Oper} {K : V → Wr → Option β} {r : β} (h : yEx P st o K = some r) : ∃ v wr, aop P st o = some (v, wr) ∧ K v wr = some r := by
  obtain ⟨dst, op, type, pos, after, guard⟩ := o
  unfold yEx at h
  cases op <;> (try simp only [qEval_eq] at h) <;> (try exact yExS_ok h)
  case move x => exact ⟨_, none, rfl, h⟩
  case assign x => exact ⟨_, none, rfl, h⟩
  case pick b x y =>
    split at h
    · rename_i b' hb
      cases b' with
      | false => exact ⟨st.eval y, none, by simp only [aop, hb, Bool.false_eq_true, if_false], h⟩
      | true => exact ⟨st.eval x, none, by simp only [aop, hb, if_true], h⟩
    · rename_i b' hb
      cases b' with
      | false => exact ⟨st.eval y, none, by simp only [aop, hb, Bool.false_eq_true, if_false], h⟩
      | true => exact ⟨st.eval x, none, by simp only [aop, hb, if_true], h⟩
    · cases h
  case load t x =>
    obtain ⟨v, h1, h2⟩ := yLoad_ok h
    exact ⟨v, none, by simp only [aop, h1], h2⟩
  case binOp op t x y ty =>
    obtain ⟨v, h1, h2⟩ := yBin_ok h
    exact ⟨symB v, none, by simp only [aop, h1, Option.map_some], qSym_ok h2⟩
  case unOp op ty x =>
    split at h
    · split at h
      · rename_i b hx
        refine ⟨.bs (!b), none, by simp only [aop, hx, Abs.conB, aUn, Option.map_some, symB], ?_⟩
        cases b <;> exact h
      · rename_i b hx
        refine ⟨.bs (!b), none, by simp only [aop, hx, Abs.conB, aUn, Option.map_some, symB], ?_⟩
        cases b <;> exact h
      · cases h
    · exact yExS_ok h
  case fieldAddr s x f =>
    obtain ⟨v, h1, h2⟩ := yFA_ok h
    exact ⟨v, none, by simp only [aop, h1, Option.map_some], h2⟩
  case indexAddr t x ix =>
    rcases yIA_ok h with h | ⟨v, h1, h2⟩
    · exact yExS_ok h
    · exact ⟨v, none, by simp only [aop, h1, Option.map_some], h2⟩
  case extract x i =>
    obtain ⟨v, h1, h2⟩ := yExt_ok h
    exact ⟨v, none, by simp only [aop, h1, Option.map_some], h2⟩
  case typeAssert x t asserted ok =>
    rcases yTA_ok h with h | ⟨v, h1, h2⟩
    · exact yExS_ok h
    · exact ⟨v, none, by simp only [aop, h1, Option.map_some], h2⟩
  case convert src d x =>
    cases dst with
    | none => cases h
    | some d' =>
      simp only at h
      rcases yConv_ok (T := st.o) (d := d') h with h | ⟨v, h1, h2⟩
      · exact yExS_ok h
      · exact ⟨v, none, by simp only [aop]; exact h1, h2⟩
  case call cl =>
    obtain ⟨callee, args, ats⟩ := cl
    unfold yEx.yExB at h
    simp only at h
    split at h
    · rename_i b
      split at h
      · split at h
        · rename_i x hxs
          split at h
          · rename_i t hts
            rw [qEval_eq] at h
            rcases yLen_ok (T := st.o) h with h | ⟨v, h1, h2⟩
            · exact yExS_ok h
            · exact ⟨v, none, by simp only [aop, hxs, hts, h1, Option.map_some], h2⟩
          · cases h
        · cases h
      · exact yExS_ok h
    · cases h

/-! The run. -/
def isPc (o : Oper) : Option (Operand × List Operand) := match o.op with
  | .call cl => match cl.callee with
    | .value f => some (f, cl.args.toList)
    | _ => none
  | _ => none
def nrm (opl : List Oper) (o : Oper) (v : V) (K : V → Option β) : Option β := match isG opl o with
  | true => yOp.qB v K
  | false => K v
theorem nrm_ok {opl : List Oper} {o : Oper} {v : V} {K : V → Option β} {r : β} (h : nrm opl o v K = some r) : K (norm opl o v) = some r := by
  unfold nrm at h
  unfold norm
  split at h
  · rename_i hg; rw [if_pos hg]; exact qB_ok h
  · rename_i hg; rw [if_neg (by rw [hg]; exact Bool.false_ne_true)]; exact h
/-- One step of a region that draws its order. -/
def rStep (Γ : Orc) (P : Program) (opl : List Oper) (o : Oper) (st : St) (k : St → Option β) : Option β := match isPc o with
  | some (f, args) => qEval st f fun vf => match vf with
    | .fn g caps => match caps with
      | [] => qEvalL st args fun xs => Bool.rec (motive := fun _ => Option β) none (match Γ g xs [] with
        | some (res, lb', lf) => match lb' with
          | [] => match lf with
            | [] => Bool.rec (motive := fun _ => Option β) none (nrm opl o res fun v => match o.dst with
              | some d => Bool.rec (motive := fun _ => Option β) none (St.rec (motive := fun _ => Option β) (fun n t T g => k ⟨n, (d, v) :: t, T, g⟩) st) (Nat.blt d st.n)
              | none => none) (qPure res)
            | _ => none
          | _ => none
        | none => none) (qPureL xs)
      | _ => none
    | _ => none
  | none => qEvalL st o.op.operands.toList fun vs => Bool.rec (motive := fun _ => Option β) none
      (yEx P (St.rec (motive := fun _ => St) (fun n t T g => ⟨n, t, restrict (foot st o) T, g⟩) st) o fun v wr => match o.dst with
        | some d => Bool.rec (motive := fun _ => Option β) none (match wr with
          | none => nrm opl o v fun v => St.rec (motive := fun _ => Option β) (fun n t T g => k ⟨n, (d, v) :: t, T, g⟩) st
          | some (s, ob) => Bool.rec (motive := fun _ => Option β) none (nrm opl o v fun v => St.rec (motive := fun _ => Option β) (fun n t T g => k ⟨n, (d, v) :: t, (d, ob) :: T, g⟩) st) (Nat.beq s d)) (Nat.blt d st.n)
        | none => none) (qAll qRefOk vs)
def rRun (Γ : Orc) (P : Program) (opl : List Oper) (l : List Oper) (st : St) : Option St :=
  List.rec (motive := fun _ => St → Option St) (fun st => some st) (fun o _ ih st => match o.guard with
    | none => rStep Γ P opl o st ih
    | some (j, want) => match (opl[j]?).bind (·.dst) with
      | none => rSkip o st ih
      | some t => qAt .undef st.t t fun v => match v with
        | .bool b => Bool.rec (motive := fun _ => Option St) (rSkip o st ih) (rStep Γ P opl o st ih) (b == want)
        | .bs b => Bool.rec (motive := fun _ => Option St) (rSkip o st ih) (rStep Γ P opl o st ih) (b == want)
        | .tup _ => rSkip o st ih
        | _ => none) l st
where
  rSkip (o : Oper) (st : St) (k : St → Option St) : Option St := match o.dst with
    | some d => Bool.rec (motive := fun _ => Option St) none (St.rec (motive := fun _ => Option St) (fun n t T g => k ⟨n, (d, .tup []) :: t, T, g⟩) st) (Nat.blt d st.n)
    | none => k st
/-- What one step of drun is. -/
theorem drun_cons {Γ : Orc} {P : Program} {opl : List Oper} {o : Oper} {l : List Oper} {st : St} (rs : List Rec) (s : St) {v : V} {F : List Nat} {W : List (Nat × Ob)} {st1 : St} {T : Tab} {v0 : V}
    (hg : aguard opl st o = some true) (hF : foot st o = F) (he : estep Γ P { st with o := restrict F st.o } o = some (v0, T)) (hw : (wsites P { st with o := restrict F st.o } o).map (fun s => (s, T.get s)) = W)
    (hall : (wsites P { st with o := restrict F st.o } o).all (F.contains ·) = true) (hv : norm opl o v0 = v) (hs : ({ st with o := overlay W st.o } : St).set o.dst v = some st1) (hr : drun Γ P opl l st1 = some (rs, s)) :
    drun Γ P opl (o :: l) st = some (⟨v, F, W⟩ :: rs, s) := by
  subst hF hv
  simp only [drun, hg]
  rw [he]
  simp only
  rw [if_pos hall, hw, hs]
  simp only [hr]
theorem drun_skip {Γ : Orc} {P : Program} {opl : List Oper} {o : Oper} {l : List Oper} {st st1 s : St} {rs : List Rec} (hg : aguard opl st o = some false) (hs : st.set o.dst (.tup []) = some st1) (hr : drun Γ P opl l st1 = some (rs, s)) :
    drun Γ P opl (o :: l) st = some (⟨.tup [], [], []⟩ :: rs, s) := by
  simp only [drun, hg, hs, hr]
end
theorem look_map (f : Nat → Ob) : ∀ (l : List Nat) (s : Nat), look (l.map fun s => (s, f s)) s = if s ∈ l then some (f s) else none
  | [], s => by simp [look]
  | x :: l, s => by
    simp only [List.map_cons, look, look_map f l s]
    by_cases h : x = s
    · subst h; simp
    · rw [if_neg h]
      simp [Ne.symm h]
theorem restrict_eq {F : List Nat} {T T' : Tab} (h : ∀ s, T.get s = T'.get s) : restrict F T = restrict F T' := by
  unfold restrict
  exact List.map_congr_left fun s _ => by rw [h]
theorem estep_nc {Γ : Orc} {P : Program} {st : St} {o : Oper} (h : isPc o = none) : estep Γ P st o = match aop P st o with
    | some (v, wr) => some (v, wrT st.o wr)
    | none => none := by
  obtain ⟨dst, op, type, pos, after, guard⟩ := o
  unfold estep
  split
  · rename_i f args ts ho
    subst ho; cases h
  · rfl
theorem wsites_nc {P : Program} {st : St} {o : Oper} (h : isPc o = none) : wsites P st o = match aop P st o with
    | some (_, some (s, _)) => [s]
    | _ => [] := by
  obtain ⟨dst, op, type, pos, after, guard⟩ := o
  unfold wsites
  split
  · rename_i f args ts ho
    subst ho; cases h
  · rfl
theorem foot_nc {st : St} {o : Oper} (h : isPc o = none) : foot st o = (List.range 4).map (fsite (o.dst.getD 99999)) ++ (if quietOp o.op = true then [] else o.op.operands.toList.flatMap fun x => refs1 (st.eval x)) := by
  obtain ⟨dst, op, type, pos, after, guard⟩ := o
  unfold foot
  split
  · rename_i f args ts ho
    subst ho; cases h
  · rfl
theorem isPc_ok {o : Oper} {f : Operand} {args : List Operand} (h : isPc o = some (f, args)) : ∃ (as : Array Operand) (ts : Array TypeId), o.op = .call ⟨.value f, as, ts⟩ ∧ as.toList = args := by
  obtain ⟨dst, op, type, pos, after, guard⟩ := o
  unfold isPc at h
  split at h
  · rename_i cl hcl
    split at h
    · rename_i f' hf'
      injection h with h; injection h with h1 h2
      subst h1 h2
      obtain ⟨callee, as, ts⟩ := cl
      exact ⟨as, ts, by rw [hcl]; simp only at hf'; subst hf'; rfl, rfl⟩
    · cases h
  · cases h
theorem viewLA_pure {n : Nat} {T : Tab} {bs : List Nat} : ∀ {l : List V}, pureL l = true → viewL (viewA (n + 1) T) bs l = some (l, [], bs)
  | [], _ => rfl
  | v :: l, h => by
    simp only [pureL, Bool.and_eq_true] at h
    simp only [viewL, viewA_pure h.1, viewLA_pure h.2, List.nil_append]
theorem aCall_pure {Γ : Orc} {T : Tab} {f d : Nat} {xs : List V} {res : V} (h : pureL xs = true) (hg : Γ f xs [] = some (res, [], [])) (hr : res.pure = true) : aCall Γ T f xs d = some (res, T) := by
  unfold aCall
  rw [show depth = 7 + 1 from rfl, viewLA_pure h]
  simp only [boxesOf]
  rw [if_pos ⟨List.nodup_nil, by simp⟩]
  rw [hg]
  simp only [List.length_nil, Nat.zero_le, if_true, revive, fresh, List.append_nil]
  have e : T.freezes (zs res [] [] []) = T := by unfold zs; split <;> rfl
  rw [e, ren_pure hr]
  rfl
structure RS (Γ : Orc) (P : Program) (opl : List Oper) (o : Oper) (s0 : St) (st2 : St) : Prop where
  ex : ∃ v0 T F W v st1, foot s0 o = F ∧ estep Γ P { s0 with o := restrict F s0.o } o = some (v0, T) ∧ (wsites P { s0 with o := restrict F s0.o } o).map (fun s => (s, T.get s)) = W ∧
    (wsites P { s0 with o := restrict F s0.o } o).all (F.contains ·) = true ∧ norm opl o v0 = v ∧ ({ s0 with o := overlay W s0.o } : St).set o.dst v = some st1 ∧ Sim st1 st2 ∧ Fine o ⟨v, F, W⟩
theorem rStep_ok {β : Type _} {Γ : Orc} {P : Program} {opl : List Oper} {o : Oper} {st : St} {k : St → Option β} {r : β} (h : rStep Γ P opl o st k = some r) {s0 : St} (hs : Sim s0 st) : ∃ st2, k st2 = some r ∧ RS (orcZ Γ) P opl o s0 st2 := by
  obtain ⟨n, t, T, g⟩ := st
  unfold rStep at h
  split at h
  · rename_i f args hpc
    obtain ⟨as, ts, hop, has⟩ := isPc_ok hpc
    rw [qEval_eq] at h
    split at h
    · rename_i gg caps hf
      split at h
      · rw [qEvalL_eq] at h
        obtain ⟨hp, h⟩ := brec_some h
        rw [qPureL_eq] at hp
        split at h
        · rename_i res lb' lf hΓ
          split at h
          · split at h
            · obtain ⟨hpr, h⟩ := brec_some h
              rw [qPure_eq] at hpr
              have h := nrm_ok h
              split at h
              · rename_i d hd
                obtain ⟨hlt, h⟩ := brec_some h
                have hlt := blt_lt hlt
                refine ⟨_, h, ⟨?_⟩⟩
                have hev : ∀ (T' : Tab) x, ({ s0 with o := T' } : St).eval x = (⟨n, t, T, g⟩ : St).eval x := fun T' x => by
                  rw [← hs.eval x]
                  cases x <;> rfl
                have hargs : ∀ T' : Tab, as.toList.map ({ s0 with o := T' } : St).eval = args.map (⟨n, t, T, g⟩ : St).eval := fun T' => by
                  rw [has]
                  exact List.map_congr_left fun x _ => hev T' x
                have hev0 : ∀ x, s0.eval x = (⟨n, t, T, g⟩ : St).eval x := hs.eval
                have hF : foot s0 o = (List.range 4).map (fsite d) := by
                  unfold foot
                  rw [hop, hd]
                  simp only [Option.getD_some]
                  rw [hev0 f, hf]
                  have e2 : as.toList.flatMap (fun x => refsN depth s0.o (s0.eval x)) = [] := by
                    rw [List.flatMap_eq_nil_iff]
                    intro x hx
                    rw [hev0 x]
                    refine refsN_pure _ _ _ (pureL_mem hp _ ?_)
                    rw [← has]
                    exact List.mem_map_of_mem hx
                  rw [e2]
                  simp [refsN, depth]
                have hest : estep (orcZ Γ) P { s0 with o := restrict (foot s0 o) s0.o } o = some (res, restrict (foot s0 o) s0.o) := by
                  unfold estep
                  rw [hop]
                  simp only [hev, hf, hargs, List.append_nil]
                  refine aCall_pure hp ?_ hpr
                  simp only [orcZ, List.all_nil, if_true, hΓ, Bool.and_self]
                have hws : wsites P { s0 with o := restrict (foot s0 o) s0.o } o = (List.range 4).map (fsite d) := by
                  unfold wsites
                  rw [hop, hd]
                  simp only [hev, hf, hargs, List.append_nil, Option.getD_some]
                  rw [show depth = 7 + 1 from rfl, viewLA_pure hp]
                  simp [boxesOf]
                refine ⟨res, _, _, _, _, ⟨s0.n, aput d (norm opl o res) s0.t, overlay (((List.range 4).map (fsite d)).map fun s => (s, (restrict (foot s0 o) s0.o).get s)) s0.o, s0.g⟩, rfl, hest, by rw [hws], ?_, rfl, ?_, ?_, ?_⟩
                · rw [hws, hF]
                  rw [List.all_eq_true]
                  intro s hs'
                  exact List.contains_iff_mem.2 hs'
                · rw [hd]
                  simp only [St.set]
                  rw [if_pos (by have := hs.n; simp only at this; rw [this]; exact hlt)]
                · refine ⟨hs.n, hs.g, fun u => ?_, fun s => ?_⟩
                  · have := hs.t u
                    simp only [St.get, aget_aput] at this ⊢
                    simp only [aget]
                    rw [this]
                  · show (overlay _ s0.o).get s = T.get s
                    rw [get_overlay, look_map]
                    have := hs.o s
                    simp only at this
                    split
                    · rename_i hmem
                      rw [get_restrict, if_pos (by rw [hF]; exact hmem)]
                      exact this
                    · exact this
                · refine ⟨fun s hs' => ?_, .inr ⟨d, hd, fun s hs' => ?_⟩⟩
                  · simp only at hs'
                    rw [hF] at hs'
                    simp only [List.mem_map, List.mem_range] at hs'
                    obtain ⟨k', hk', rfl⟩ := hs'
                    exact .inl ⟨k', hk', by rw [hd]; rfl⟩
                  · simp only [keys, List.map_map, List.mem_map, List.mem_range, Function.comp] at hs'
                    obtain ⟨k', hk', rfl⟩ := hs'
                    exact ⟨k', hk', rfl⟩
              · cases h
            · cases h
          · cases h
        · cases h
      · cases h
    · cases h
  · rename_i hpc
    rw [qEvalL_eq] at h
    obtain ⟨hq, h⟩ := brec_some h
    rw [qAll_eq] at hq
    obtain ⟨v, wr, haop, h⟩ := yEx_ok h
    have hev0 : ∀ x, s0.eval x = (⟨n, t, T, g⟩ : St).eval x := hs.eval
    have hFeq : foot (⟨n, t, T, g⟩ : St) o = foot s0 o := by
      rw [foot_nc hpc, foot_nc hpc]
      simp only [hev0]
    have haop' : aop P { s0 with o := restrict (foot s0 o) s0.o } o = some (v, wr) := by
      rw [← haop]
      refine aop_sim (fun x => ?_) ?_
      · have := hev0 x
        cases x <;> exact this
      · show restrict (foot s0 o) s0.o = restrict (foot ⟨n, t, T, g⟩ o) T
        rw [hFeq]
        exact restrict_eq hs.o
    have hfine : ∀ s ∈ foot s0 o, (∃ k, k < 4 ∧ s = fsite (o.dst.getD 99999) k) ∨ okS s = true := by
      intro s hs'
      rw [foot_nc hpc, List.mem_append] at hs'
      rcases hs' with hs' | hs'
      · simp only [List.mem_map, List.mem_range] at hs'
        obtain ⟨k', hk', rfl⟩ := hs'
        exact .inl ⟨k', hk', rfl⟩
      · split at hs'
        · cases hs'
        simp only [List.mem_flatMap] at hs'
        obtain ⟨x, hx, hs'⟩ := hs'
        rw [hev0] at hs'
        exact .inr (qRefOk_ok (List.all_eq_true.1 hq _ (List.mem_map_of_mem hx)) s hs')
    split at h
    · rename_i d hd
      obtain ⟨hlt, h⟩ := brec_some h
      have hlt := blt_lt hlt
      have hsl : ∀ (v : V) (T' : Tab), ({ s0 with o := T' } : St).set (some d) v = some ⟨s0.n, aput d v s0.t, T', s0.g⟩ := fun v T' => by
        simp only [St.set]
        rw [if_pos (by have := hs.n; simp only at this; rw [this]; exact hlt)]
      have hgt : ∀ (v : V) (u : Nat), aget .undef (aput d v s0.t) u = aget .undef ((d, v) :: t) u := fun v u => by
        have := hs.t u
        simp only [St.get] at this
        simp only [aget_aput, aget, this]
      rcases wr with _ | ⟨s, ob⟩
      · simp only at h
        have h := nrm_ok h
        have hws : wsites P { s0 with o := restrict (foot s0 o) s0.o } o = [] := by rw [wsites_nc hpc, haop']
        refine ⟨_, h, ⟨v, _, _, [], _, ⟨s0.n, aput d (norm opl o v) s0.t, s0.o, s0.g⟩, rfl, by rw [estep_nc hpc, haop'], by rw [hws]; rfl, by rw [hws]; rfl, rfl, by rw [hd]; exact hsl _ _, ⟨hs.n, hs.g, fun u => hgt _ u, hs.o⟩, ⟨hfine, .inl rfl⟩⟩⟩
      · simp only at h
        obtain ⟨hsd, h⟩ := brec_some h
        have hsd := Nat.eq_of_beq_eq_true hsd
        subst hsd
        have h := nrm_ok h
        have hws : wsites P { s0 with o := restrict (foot s0 o) s0.o } o = [s] := by rw [wsites_nc hpc, haop']
        refine ⟨_, h, ⟨v, _, _, [(s, ob)], _, ⟨s0.n, aput s (norm opl o v) s0.t, overlay [(s, ob)] s0.o, s0.g⟩, rfl, by rw [estep_nc hpc, haop'], ?_, ?_, rfl, by rw [hd]; exact hsl _ _, ⟨hs.n, hs.g, fun u => hgt _ u, fun u => ?_⟩, ⟨hfine, .inr ⟨s, hd, fun u hu => ?_⟩⟩⟩⟩
        · rw [hws]
          simp only [List.map_cons, List.map_nil, wrT, Tab.get_put, if_true]
        · rw [hws]
          simp only [List.all_cons, List.all_nil, Bool.and_true]
          refine List.contains_iff_mem.2 ?_
          rw [foot_nc hpc, hd]
          refine List.mem_append_left _ ?_
          simp only [List.mem_map, List.mem_range, Option.getD_some]
          exact ⟨0, by omega, by simp [fsite]⟩
        · show (overlay [(s, ob)] s0.o).get u = Tab.get ((s, ob) :: T) u
          rw [get_overlay, get_cons, Tab.get_put]
          have := hs.o u
          simp only at this
          simp only [look]
          split
          · rfl
          · exact this
        · simp only [keys, List.map_cons, List.map_nil, List.mem_cons, List.not_mem_nil, or_false] at hu
          exact ⟨0, by omega, by simp [fsite, hu]⟩
    · cases h
theorem rRun_ok {Γ : Orc} {P : Program} {opl : List Oper} : ∀ (l : List Oper) (st s0 r : St), rRun Γ P opl l st = some r → Sim s0 st →
    ∃ rs s, drun (orcZ Γ) P opl l s0 = some (rs, s) ∧ Sim s r ∧ ∀ (i : Nat) (c : Rec), rs[i]? = some c → ∃ o, l[i]? = some o ∧ Fine o c
  | [], st, s0, r, h, hs => by
    injection h with h; subst h
    exact ⟨[], s0, rfl, hs, fun i c h => by simp at h⟩
  | o :: l, st, s0, r, h, hs => by
    have h : (match o.guard with
      | none => rStep Γ P opl o st (rRun Γ P opl l)
      | some (j, want) => match (opl[j]?).bind (·.dst) with
        | none => rRun.rSkip o st (rRun Γ P opl l)
        | some t => qAt .undef st.t t fun v => match v with
          | .bool b => Bool.rec (motive := fun _ => Option St) (rRun.rSkip o st (rRun Γ P opl l)) (rStep Γ P opl o st (rRun Γ P opl l)) (b == want)
          | .bs b => Bool.rec (motive := fun _ => Option St) (rRun.rSkip o st (rRun Γ P opl l)) (rStep Γ P opl o st (rRun Γ P opl l)) (b == want)
          | .tup _ => rRun.rSkip o st (rRun Γ P opl l)
          | _ => none) = some r := h
    have fin : ∀ (c : Rec) (s1 s2 : St), Fine o c → Sim s1 s2 → rRun Γ P opl l s2 = some r → (∀ rs s, drun (orcZ Γ) P opl l s1 = some (rs, s) → drun (orcZ Γ) P opl (o :: l) s0 = some (c :: rs, s)) →
        ∃ rs s, drun (orcZ Γ) P opl (o :: l) s0 = some (rs, s) ∧ Sim s r ∧ ∀ (i : Nat) (c : Rec), rs[i]? = some c → ∃ o', (o :: l)[i]? = some o' ∧ Fine o' c := by
      intro c s1 s2 hf hsim hrun hd
      obtain ⟨rs, s, h1, h2, h3⟩ := rRun_ok l s2 s1 r hrun hsim
      refine ⟨c :: rs, s, hd rs s h1, h2, fun i c' hc => ?_⟩
      cases i with
      | zero => simp at hc; subst hc; exact ⟨o, by simp, hf⟩
      | succ i =>
        obtain ⟨o', e1, e2⟩ := h3 i c' (by simpa using hc)
        exact ⟨o', by simpa using e1, e2⟩
    have hstep : aguard opl s0 o = some true → rStep Γ P opl o st (rRun Γ P opl l) = some r → ∃ rs s, drun (orcZ Γ) P opl (o :: l) s0 = some (rs, s) ∧ Sim s r ∧ ∀ (i : Nat) (c : Rec), rs[i]? = some c → ∃ o', (o :: l)[i]? = some o' ∧ Fine o' c := by
      intro hg hh
      obtain ⟨st2, hk, ⟨v0, T, F, W, v, st1, e1, e2, e3, e4, e5, e6, e7, e8⟩⟩ := rStep_ok hh hs
      exact fin _ st1 st2 e8 e7 hk fun rs s hd => drun_cons rs s hg e1 e2 e3 e4 e5 e6 hd
    have hskip : aguard opl s0 o = some false → rRun.rSkip o st (rRun Γ P opl l) = some r → ∃ rs s, drun (orcZ Γ) P opl (o :: l) s0 = some (rs, s) ∧ Sim s r ∧ ∀ (i : Nat) (c : Rec), rs[i]? = some c → ∃ o', (o :: l)[i]? = some o' ∧ Fine o' c := by
      intro hg hh
      obtain ⟨n, t, T, g⟩ := st
      unfold rRun.rSkip at hh
      have hfine : Fine o ⟨.tup [], [], []⟩ := ⟨(fun s hs => by cases hs), .inl rfl⟩
      split at hh
      · rename_i d hd
        obtain ⟨hlt, hh⟩ := brec_some hh
        have hlt := blt_lt hlt
        refine fin ⟨.tup [], [], []⟩ ⟨s0.n, aput d (.tup []) s0.t, s0.o, s0.g⟩ ⟨n, (d, .tup []) :: t, T, g⟩ hfine ⟨hs.n, hs.g, fun u => ?_, hs.o⟩ hh fun rs s hdr => drun_skip hg ?_ hdr
        · have := hs.t u
          simp only [St.get, aget_aput] at this ⊢
          simp only [aget]
          rw [this]
        · rw [hd]
          simp only [St.set]
          rw [if_pos (by have := hs.n; simp only at this; rw [this]; exact hlt)]
      · rename_i hd
        exact fin ⟨.tup [], [], []⟩ s0 _ hfine hs hh fun rs s hdr => drun_skip hg (by rw [hd]; rfl) hdr
    split at h
    · rename_i hg
      exact hstep (by simp only [aguard, hg]) h
    · rename_i j want hg
      split at h
      · rename_i hgd
        exact hskip (by simp only [aguard, hg, hgd]) h
      · rename_i t hgd
        rw [qAt_eq] at h
        have hst : s0.get t = aget .undef st.t t := hs.t t
        split at h
        · rename_i b hb
          rw [hb] at hst
          cases hw : (b == want) with
          | true => rw [hw] at h; exact hstep (by simp only [aguard, hg, hgd, hst, hw]) h
          | false => rw [hw] at h; exact hskip (by simp only [aguard, hg, hgd, hst, hw]) h
        · rename_i b hb
          rw [hb] at hst
          cases hw : (b == want) with
          | true => rw [hw] at h; exact hstep (by simp only [aguard, hg, hgd, hst, hw]) h
          | false => rw [hw] at h; exact hskip (by simp only [aguard, hg, hgd, hst, hw]) h
        · rename_i vs hb
          rw [hb] at hst
          exact hskip (by simp only [aguard, hg, hgd, hst]) h
        · cases h
def rReg (Γ : Orc) (P : Program) (opl : List Oper) (st : St) : Option St := Bool.rec (motive := fun _ => Option St) none (rRun Γ P opl opl st) (dOk opl)
theorem rReg_ok {κ : Cx} {Γ : Orc} (hΓ : GammaOk2 κ.P Γ) (hm : κ.P.follows .mixedOrders = true) {id : Nat} {ops : Array Oper} (htmp : (!true || tmpsOk ops.toList) = true) {st st' : St} {a : Act} {w : World} {Q : Exit → Act → World → Prop}
    (h : rReg Γ κ.P ops.toList st = some st') (hr : Rel κ st a w) (hQ : ∀ a w, Rel κ st' a w → Q .normal a w) : (Code.region id ops true).wp κ.P Q a w := by
  unfold rReg at h
  obtain ⟨hd, h⟩ := brec_some h
  obtain ⟨rs, s, h1, h2, h3⟩ := rRun_ok ops.toList st st st' h ⟨rfl, rfl, fun _ => rfl, fun _ => rfl⟩
  refine draw_okZ (orcZ_ok hΓ) hm (by simpa using htmp) [] (rs := rs) (st' := s) ?_ (objs_fine hd h3) hr fun a' w' hr' => hQ a' w' (hr'.congr h2.n.symm h2.g.symm (fun t => (h2.t t).symm) fun s => (h2.o s).symm)
  exact h1
end
end Go.Abs
