/- A region that draws its order, of which each operation turns at most what is its own: in few and small steps. -/
import Derived.Test.YtiaoojocpcldmaaGreatExtYP
namespace Go.Abs
open Go.RowKit
set_option linter.unusedVariables false
set_option linter.unusedSimpArgs false
noncomputable section
def okS (s : Nat) : Bool := Bool.rec (Nat.ble 400000 s) true (Nat.ble 1000 (Nat.mod s 100000))
theorem okS_ne {s d k : Nat} (h : okS s = true) (hd : d < 1000) (hk : k < 4) : s ≠ fsite d k := by
 intro e
 unfold fsite at e
 unfold okS at h
 cases h1 : Nat.ble 1000 (Nat.mod s 100000) with
 | true =>
  have h1 := Nat.le_of_ble_eq_true h1
  have h1 : 1000 ≤ s % 100000 := h1
  omega
 | false =>
  rw [h1] at h
  have h := Nat.le_of_ble_eq_true h
  omega
def dMask (opl : List Oper) (m : Nat) : Bool :=
 List.rec (motive := fun _ => Nat → Bool) (fun _ => true) (fun o _ ih m => match o.dst with
  | none => ih m
  | some d => Bool.rec false (Bool.rec (ih (Nat.lor m (Nat.shiftLeft 1 d))) false (Nat.testBit m d)) (Nat.blt d 1000)) opl m
def dOk (opl : List Oper) : Bool := dMask opl 0
theorem bit_or {m i j : Nat} : (Nat.lor m (Nat.shiftLeft 1 i)).testBit j = (m.testBit j || decide (i = j)) := by
 have e1 : Nat.lor m (Nat.shiftLeft 1 i) = m ||| (1 <<< i) := rfl
 rw [e1, Nat.testBit_or, Nat.testBit_shiftLeft]
 congr 1
 by_cases h : i = j
 ·subst h; simp
 ·rw [decide_eq_false h]
  by_cases hle : i ≤ j
  ·rw [Nat.testBit_lt_two_pow (Nat.one_lt_two_pow (by omega))]; simp
  ·simp; omega
theorem dMask_ok : ∀ (opl : List Oper) (m : Nat), dMask opl m = true → (∀ o ∈ opl, ∀ d : Nat, o.dst = some d → d < 1000 ∧ m.testBit d = false) ∧ ∀ (i j : Nat) (oi oj : Oper) (d : Nat), opl[i]? = some oi → opl[j]? = some oj → oi.dst = some d → oj.dst = some d → i = j
 | [], m, _ => ⟨(fun o ho => by cases ho), (fun i j oi oj d h => by simp at h)⟩
 | o :: l, m, h => by
  have h' : (match o.dst with
   | none => dMask l m
   | some d => (Bool.rec false (Bool.rec (dMask l (Nat.lor m (Nat.shiftLeft 1 d))) false (Nat.testBit m d)) (Nat.blt d 1000) : Bool)) = true := h
  cases hd : o.dst with
  | none =>
   rw [hd] at h'
   obtain ⟨h1, h2⟩ := dMask_ok l m h'
   refine ⟨fun o' ho' d he => ?_, fun i j oi oj d e1 e2 e3 e4 => ?_⟩
   ·rcases List.mem_cons.1 ho' with rfl | ho'
    ·rw [hd] at he; cases he
    ·exact h1 o' ho' d he
   ·cases i with
    | zero => simp at e1; subst e1; rw [hd] at e3; cases e3
    | succ i => cases j with
     | zero => simp at e2; subst e2; rw [hd] at e4; cases e4
     | succ j => rw [h2 i j oi oj d (by simpa using e1) (by simpa using e2) e3 e4]
  | some d =>
   rw [hd] at h'
   simp only at h'
   cases hb : Nat.blt d 1000 with
   | false => rw [hb] at h'; cases h'
   | true =>
    rw [hb] at h'
    cases hm : Nat.testBit m d with
    | true => rw [hm] at h'; cases h'
    | false =>
     rw [hm] at h'
     obtain ⟨h1, h2⟩ := dMask_ok l _ h'
     have hnot : ∀ o' ∈ l, o'.dst ≠ some d := fun o' ho' e => by
      have := (h1 o' ho' d e).2
      rw [bit_or] at this
      simp at this
     refine ⟨fun o' ho' d' he => ?_, fun i j oi oj d' e1 e2 e3 e4 => ?_⟩
     ·rcases List.mem_cons.1 ho' with rfl | ho'
      ·rw [hd] at he; injection he with he; subst he
       exact ⟨blt_lt hb, hm⟩
      ·have := h1 o' ho' d' he
       rw [bit_or] at this
       simp only [Bool.or_eq_false_iff] at this
       exact ⟨this.1, this.2.1⟩
     ·cases i with
      | zero =>
       simp at e1; subst e1
       rw [hd] at e3; injection e3 with e3; subst e3
       cases j with
       | zero => rfl
       | succ j => exact absurd e4 (hnot oj (List.mem_of_getElem? (by simpa using e2)))
      | succ i => cases j with
       | zero =>
        simp at e2; subst e2
        rw [hd] at e4; injection e4 with e4; subst e4
        exact absurd e3 (hnot oi (List.mem_of_getElem? (by simpa using e1)))
       | succ j => rw [h2 i j oi oj d' (by simpa using e1) (by simpa using e2) e3 e4]
def Fine (o : Oper) (r : Rec) : Prop := (∀ s ∈ r.F, (∃ k, k < 4 ∧ s = fsite (o.dst.getD 99999) k) ∨ okS s = true) ∧ (r.W = [] ∨ ∃ d : Nat, o.dst = some d ∧ ∀ s ∈ keys r.W, ∃ k, k < 4 ∧ s = fsite d k)
theorem objs_fine {opl : List Oper} {rs : List Rec} (hd : dOk opl = true) (hf : ∀ (i : Nat) (r : Rec), rs[i]? = some r → ∃ o, opl[i]? = some o ∧ Fine o r) : objsOk opl rs = true := by
 obtain ⟨h1, h2⟩ := dMask_ok opl 0 hd
 have hget : ∀ {i : Nat} {r : Rec}, (r, i) ∈ rs.zipIdx → rs[i]? = some r := fun {i r} h => by
  have := List.mem_zipIdx h
  simp at this
  obtain ⟨a, b⟩ := this
  rw [List.getElem?_eq_getElem a, b]
 unfold objsOk
 rw [List.all_eq_true]
 rintro ⟨ri, i⟩ hi
 simp only [Bool.or_eq_true]
 obtain ⟨oi, ho, hF, hW⟩ := hf i ri (hget hi)
 rcases hW with hW | ⟨d, hdst, hW⟩
 ·left; rw [hW]; rfl
 ·right
  rw [List.all_eq_true]
  rintro ⟨rj, j⟩ hj
  simp only [Bool.or_eq_true]
  by_cases hij : i = j
  ·left; left; simp [hij]
  ·left; right
   obtain ⟨oj, hoj, hFj, _⟩ := hf j rj (hget hj)
   have hlt := (h1 oi (List.mem_of_getElem? ho) d hdst).1
   cases hm : meets (keys ri.W) rj.F with
   | false => rfl
   | true =>
    exfalso
    simp only [meets, List.any_eq_true, List.contains_iff_mem] at hm
    obtain ⟨s, hs, hsF⟩ := hm
    obtain ⟨k, hk, rfl⟩ := hW s hs
    rcases hFj _ hsF with ⟨k', hk', e⟩ | hok
    ·cases hdj : oj.dst with
     | none =>
      rw [hdj] at e
      have e : d + 100000 * k = 99999 + 100000 * k' := e
      omega
     | some d' =>
      rw [hdj] at e
      have e : d + 100000 * k = (d' : Nat) + 100000 * k' := e
      have hlt' : (d' : Nat) < 1000 := (h1 oj (List.mem_of_getElem? hoj) d' hdj).1
      have key : ∀ a b x y : Nat, a < 1000 → b < 1000 → a + 100000 * x = b + 100000 * y → a = b := by intros; omega
      have : d = d' := key d d' k k' hlt hlt' e
      subst this
      exact hij (h2 i j oi oj d ho hoj hdst hdj)
    ·exact okS_ne hok hlt hk rfl
structure Sim (a b : St) : Prop where
 n : a.n = b.n
 g : a.g = b.g
 t : ∀ t, a.get t = b.get t
 o : ∀ s, a.o.get s = b.o.get s
theorem Sim.eval {a b : St} (h : Sim a b) (x : Operand) : a.eval x = b.eval x := by
 cases x <;> simp only [St.eval, h.t]
theorem aop_sim {P : Program} {a b : St} {o : Oper} (he : ∀ x, a.eval x = b.eval x) (ho : a.o = b.o) : aop P a o = aop P b o := by
 have he : a.eval = b.eval := funext he
 unfold aop
 simp only [St.parts, he, ho]
theorem refsN_pure : ∀ (n : Nat) (T : Tab) (v : V), v.pure = true → refsN n T v = []
 | 0, _, _, _ => rfl
 | n + 1, T, v, h => by
  have hl : ∀ cs : List V, pureL cs = true → cs.flatMap (refsN n T) = [] := by
   intro cs hcs
   rw [List.flatMap_eq_nil_iff]
   intro v hv
   exact refsN_pure n T v (by
    revert hcs
    induction cs with
    | nil => cases hv
    | cons x cs ih =>
     intro hcs
     simp only [pureL, Bool.and_eq_true] at hcs
     rcases List.mem_cons.1 hv with rfl | hv
     ·exact hcs.1
     ·exact ih hv hcs.2)
  cases v <;> simp only [V.pure] at h <;> first | (cases h; done) | rfl | exact hl _ h | exact refsN_pure n T _ h
section
variable {β : Type _}
def qRefOk (v : V) : Bool := match v with
 | .own s _ _ _ => okS s
 | .ptr s _ _ => okS s
 | .acc s _ => okS s
 | .eptr s _ _ _ _ => okS s
 | .nwin s _ _ _ => okS s
 | .mp s _ => okS s
 | _ => true
theorem qRefOk_ok {v : V} (h : qRefOk v = true) : ∀ s ∈ refs1 v, okS s = true := by
 intro s hs
 cases v <;> simp only [refs1, List.mem_cons, List.not_mem_nil, or_false] at hs <;> first | (subst hs; exact h) | (cases hs; done)
def yEx (P : Program) (st : St) (o : Oper) (K : V → Wr → Option β) : Option β := match o.op with
 | .move x => qEval st x fun v => K v none
 | .assign x => qEval st x fun v => K v none
 | .pick b x y => qEval st b fun vb => match vb with
  | .bool b => Bool.rec (motive := fun _ => Option β) (qEval st y fun v => K v none) (qEval st x fun v => K v none) b
  | .bs b => Bool.rec (motive := fun _ => Option β) (qEval st y fun v => K v none) (qEval st x fun v => K v none) b
  | _ => none
 | .load t x => qEval st x fun vx => yLoad P st.o t vx fun v => K v none
 | .binOp op t x y _ => qEval st x fun vx => qEval st y fun vy => yBin P op t x y vx vy fun v => qSym v fun v => K v none
 | .unOp op _ x => match op with
  | .not => qEval st x fun vx => match vx with
   | .bool b => Bool.rec (motive := fun _ => Option β) (K (.bs true) none) (K (.bs false) none) b
   | .bs b => Bool.rec (motive := fun _ => Option β) (K (.bs true) none) (K (.bs false) none) b
   | _ => none
  | _ => yExS P st o K
 | .fieldAddr s x f => qEval st x fun vx => yFA P s vx f fun v => K v none
 | .indexAddr t x ix => qEval st x fun vx => qEval st ix fun vi => yIA P st.o t vx vi (fun v => K v none) (yExS P st o K)
 | .extract x i => qEval st x fun vx => yExt vx i fun v => K v none
 | .typeAssert x _ asserted ok => qEval st x fun vx => yTA P asserted ok vx (fun v => K v none) (yExS P st o K)
 | .convert src dst x => match o.dst with
  | some _ => qEval st x fun vx => yConv P src dst vx (fun v => K v none) (yExS P st o K)
  | none => none
 | .call cl => yExB P st o cl K
 | _ => yExS P st o K
where
 yExS (P : Program) (st : St) (o : Oper) (K : V → Wr → Option β) : Option β := match aop P st o with
  | some (v, none) => zV 12 v fun v => K v none
  | some (v, some (s, ob)) => zV 12 v fun v => zN s fun s => Ob.rec (motive := fun _ => Option β) (fun g u => zN g fun g => zOK u fun u => K v (some (s, ⟨g, u⟩))) ob
  | none => none
 qSym (v : V) (K : V → Option β) : Option β := match v with
  | .bool b => Bool.rec (motive := fun _ => Option β) (K (.bs false)) (K (.bs true)) b
  | v => K v
 yExB (P : Program) (st : St) (o : Oper) (cl : Call) (K : V → Wr → Option β) : Option β := match cl.callee with
  | .builtin b => match b with
   | .len => match cl.args.toList with
    | [x] => match cl.argTypes.toList with
     | [t] => qEval st x fun vx => yLen P t vx (fun v => K v none) (yExS P st o K)
     | _ => none
    | _ => none
   | _ => yExS P st o K
  | _ => none
theorem yExS_ok {P : Program} {st : St} {o : Oper} {K : V → Wr → Option β} {r : β} (h : yEx.yExS P st o K = some r) : ∃ v wr, aop P st o = some (v, wr) ∧ K v wr = some r := by
 unfold yEx.yExS at h
 split at h
 ·rename_i v hv
  rw [zV_eq] at h
  exact ⟨v, none, hv, h⟩
 ·rename_i v s ob hv
  obtain ⟨g, u⟩ := ob
  simp only [zV_eq, zN_eq, zOK_eq] at h
  exact ⟨v, _, hv, h⟩
 ·cases h
theorem qSym_ok {v : V} {K : V → Option β} {r : β} (h : yEx.qSym v K = some r) : K (symB v) = some r := by
 unfold yEx.qSym at h
 split at h
 ·rename_i b
  cases b <;> exact h
 ·rename_i hv
  rw [show symB v = v from by cases v <;> first | rfl | exact absurd rfl (hv _)]
  exact h
theorem yEx_ok {P : Program} {st : St} {o : Oper} {K : V → Wr → Option β} {r : β} (h : yEx P st o K = some r) : ∃ v wr, aop P st o = some (v, wr) ∧ K v wr = some r := by
 obtain ⟨dst, op, type, pos, after, guard⟩ := o
 unfold yEx at h
 cases op <;> (try simp only [qEval_eq] at h) <;> (try exact yExS_ok h)
 case move x => exact ⟨_, none, rfl, h⟩
 case assign x => exact ⟨_, none, rfl, h⟩
 case pick b x y =>
  split at h
  ·rename_i b' hb
   cases b' with
   | false => exact ⟨st.eval y, none, by simp only [aop, hb, Bool.false_eq_true, if_false], h⟩
   | true => exact ⟨st.eval x, none, by simp only [aop, hb, if_true], h⟩
  ·rename_i b' hb
   cases b' with
   | false => exact ⟨st.eval y, none, by simp only [aop, hb, Bool.false_eq_true, if_false], h⟩
   | true => exact ⟨st.eval x, none, by simp only [aop, hb, if_true], h⟩
  ·cases h
 case load t x =>
  obtain ⟨v, h1, h2⟩ := yLoad_ok h
  exact ⟨v, none, by simp only [aop, h1], h2⟩
 case binOp op t x y ty =>
  obtain ⟨v, h1, h2⟩ := yBin_ok h
  exact ⟨symB v, none, by simp only [aop, h1, Option.map_some], qSym_ok h2⟩
 case unOp op ty x =>
  split at h
  ·split at h
   ·rename_i b hx
    refine ⟨.bs (!b), none, by simp only [aop, hx, Abs.conB, aUn, Option.map_some, symB], ?_⟩
    cases b <;> exact h
   ·rename_i b hx
    refine ⟨.bs (!b), none, by simp only [aop, hx, Abs.conB, aUn, Option.map_some, symB], ?_⟩
    cases b <;> exact h
   ·cases h
  ·exact yExS_ok h
 case fieldAddr s x f =>
  obtain ⟨v, h1, h2⟩ := yFA_ok h
  exact ⟨v, none, by simp only [aop, h1, Option.map_some], h2⟩
 case indexAddr t x ix =>
  rcases yIA_ok h with h | ⟨v, h1, h2⟩
  ·exact yExS_ok h
  ·exact ⟨v, none, by simp only [aop, h1, Option.map_some], h2⟩
 case extract x i =>
  obtain ⟨v, h1, h2⟩ := yExt_ok h
  exact ⟨v, none, by simp only [aop, h1, Option.map_some], h2⟩
 case typeAssert x t asserted ok =>
  rcases yTA_ok h with h | ⟨v, h1, h2⟩
  ·exact yExS_ok h
  ·exact ⟨v, none, by simp only [aop, h1, Option.map_some], h2⟩
 case convert src d x =>
  cases dst with
  | none => cases h
  | some d' =>
   simp only at h
   rcases yConv_ok (T := st.o) (d := d') h with h | ⟨v, h1, h2⟩
   ·exact yExS_ok h
   ·exact ⟨v, none, by simp only [aop]; exact h1, h2⟩
 case call cl =>
  obtain ⟨callee, args, ats⟩ := cl
  unfold yEx.yExB at h
  simp only at h
  split at h
  ·rename_i b
   split at h
   ·split at h
    ·rename_i x hxs
     split at h
     ·rename_i t hts
      rw [qEval_eq] at h
      rcases yLen_ok (T := st.o) h with h | ⟨v, h1, h2⟩
      ·exact yExS_ok h
      ·exact ⟨v, none, by simp only [aop, hxs, hts, h1, Option.map_some], h2⟩
     ·cases h
    ·cases h
   ·exact yExS_ok h
  ·cases h
def isPc (o : Oper) : Option (Operand × List Operand) := match o.op with
 | .call cl => match cl.callee with
  | .value f => some (f, cl.args.toList)
  | _ => none
 | _ => none
def nrm (opl : List Oper) (o : Oper) (v : V) (K : V → Option β) : Option β := match isG opl o with
 | true => yOp.qB v K
 | false => K v
theorem nrm_ok {opl : List Oper} {o : Oper} {v : V} {K : V → Option β} {r : β} (h : nrm opl o v K = some r) : K (norm opl o v) = some r := by
 unfold nrm at h
 unfold norm
 split at h
 ·rename_i hg; rw [if_pos hg]; exact qB_ok h
 ·rename_i hg; rw [if_neg (by rw [hg]; exact Bool.false_ne_true)]; exact h
def rStep (Γ : Orc) (P : Program) (opl : List Oper) (o : Oper) (st : St) (k : St → Option β) : Option β := match isPc o with
 | some (f, args) => qEval st f fun vf => match vf with
  | .fn g caps => match caps with
   | [] => qEvalL st args fun xs => Bool.rec (motive := fun _ => Option β) none (match Γ g xs [] with
    | some (res, lb', lf) => match lb' with
     | [] => match lf with
      | [] => Bool.rec (motive := fun _ => Option β) none (nrm opl o res fun v => match o.dst with
       | some d => Bool.rec (motive := fun _ => Option β) none (St.rec (motive := fun _ => Option β) (fun n t T g => k ⟨n, (d, v) :: t, T, g⟩) st) (Nat.blt d st.n)
       | none => none) (qPure res)
      | _ => none
     | _ => none
    | none => none) (qPureL xs)
   | _ => none
  | _ => none
 | none => qEvalL st o.op.operands.toList fun vs => Bool.rec (motive := fun _ => Option β) none
   (yEx P (St.rec (motive := fun _ => St) (fun n t T g => ⟨n, t, restrict (foot st o) T, g⟩) st) o fun v wr => match o.dst with
    | some d => Bool.rec (motive := fun _ => Option β) none (match wr with
     | none => nrm opl o v fun v => St.rec (motive := fun _ => Option β) (fun n t T g => k ⟨n, (d, v) :: t, T, g⟩) st
     | some (s, ob) => Bool.rec (motive := fun _ => Option β) none (nrm opl o v fun v => St.rec (motive := fun _ => Option β) (fun n t T g => k ⟨n, (d, v) :: t, (d, ob) :: T, g⟩) st) (Nat.beq s d)) (Nat.blt d st.n)
    | none => none) (qAll qRefOk vs)
def rRun (Γ : Orc) (P : Program) (opl : List Oper) (l : List Oper) (st : St) : Option St :=
 List.rec (motive := fun _ => St → Option St) (fun st => some st) (fun o _ ih st => match o.guard with
  | none => rStep Γ P opl o st ih
  | some (j, want) => match (opl[j]?).bind (·.dst) with
   | none => rSkip o st ih
   | some t => qAt .undef st.t t fun v => match v with
    | .bool b => Bool.rec (motive := fun _ => Option St) (rSkip o st ih) (rStep Γ P opl o st ih) (b == want)
    | .bs b => Bool.rec (motive := fun _ => Option St) (rSkip o st ih) (rStep Γ P opl o st ih) (b == want)
    | .tup _ => rSkip o st ih
    | _ => none) l st
where
 rSkip (o : Oper) (st : St) (k : St → Option St) : Option St := match o.dst with
  | some d => Bool.rec (motive := fun _ => Option St) none (St.rec (motive := fun _ => Option St) (fun n t T g => k ⟨n, (d, .tup []) :: t, T, g⟩) st) (Nat.blt d st.n)
  | none => k st
theorem drun_cons {Γ : Orc} {P : Program} {opl : List Oper} {o : Oper} {l : List Oper} {st : St} (rs : List Rec) (s : St) {v : V} {F : List Nat} {W : List (Nat × Ob)} {st1 : St} {T : Tab} {v0 : V}
  (hg : aguard opl st o = some true) (hF : foot st o = F) (he : estep Γ P { st with o := restrict F st.o } o = some (v0, T)) (hw : (wsites P { st with o := restrict F st.o } o).map (fun s => (s, T.get s)) = W)
  (hall : (wsites P { st with o := restrict F st.o } o).all (F.contains ·) = true) (hv : norm opl o v0 = v) (hs : ({ st with o := overlay W st.o } : St).set o.dst v = some st1) (hr : drun Γ P opl l st1 = some (rs, s)) :
  drun Γ P opl (o :: l) st = some (⟨v, F, W⟩ :: rs, s) := by
 subst hF hv
 simp only [drun, hg]
 rw [he]
 simp only
 rw [if_pos hall, hw, hs]
 simp only [hr]
theorem drun_skip {Γ : Orc} {P : Program} {opl : List Oper} {o : Oper} {l : List Oper} {st st1 s : St} {rs : List Rec} (hg : aguard opl st o = some false) (hs : st.set o.dst (.tup []) = some st1) (hr : drun Γ P opl l st1 = some (rs, s)) :
  drun Γ P opl (o :: l) st = some (⟨.tup [], [], []⟩ :: rs, s) := by
 simp only [drun, hg, hs, hr]
end
theorem look_map (f : Nat → Ob) : ∀ (l : List Nat) (s : Nat), look (l.map fun s => (s, f s)) s = if s ∈ l then some (f s) else none
 | [], s => by simp [look]
 | x :: l, s => by
  simp only [List.map_cons, look, look_map f l s]
  by_cases h : x = s
  ·subst h; simp
  ·rw [if_neg h]
   simp [Ne.symm h]
theorem restrict_eq {F : List Nat} {T T' : Tab} (h : ∀ s, T.get s = T'.get s) : restrict F T = restrict F T' := by
 unfold restrict
 exact List.map_congr_left fun s _ => by rw [h]
theorem estep_nc {Γ : Orc} {P : Program} {st : St} {o : Oper} (h : isPc o = none) : estep Γ P st o = match aop P st o with
  | some (v, wr) => some (v, wrT st.o wr)
  | none => none := by
 obtain ⟨dst, op, type, pos, after, guard⟩ := o
 unfold estep
 split
 ·rename_i f args ts ho
  subst ho; cases h
 ·rfl
theorem wsites_nc {P : Program} {st : St} {o : Oper} (h : isPc o = none) : wsites P st o = match aop P st o with
  | some (_, some (s, _)) => [s]
  | _ => [] := by
 obtain ⟨dst, op, type, pos, after, guard⟩ := o
 unfold wsites
 split
 ·rename_i f args ts ho
  subst ho; cases h
 ·rfl
theorem foot_nc {st : St} {o : Oper} (h : isPc o = none) : foot st o = (List.range 4).map (fsite (o.dst.getD 99999)) ++ (if quietOp o.op = true then [] else o.op.operands.toList.flatMap fun x => refs1 (st.eval x)) := by
 obtain ⟨dst, op, type, pos, after, guard⟩ := o
 unfold foot
 split
 ·rename_i f args ts ho
  subst ho; cases h
 ·rfl
theorem isPc_ok {o : Oper} {f : Operand} {args : List Operand} (h : isPc o = some (f, args)) : ∃ (as : Array Operand) (ts : Array TypeId), o.op = .call ⟨.value f, as, ts⟩ ∧ as.toList = args := by
 obtain ⟨dst, op, type, pos, after, guard⟩ := o
 unfold isPc at h
 split at h
 ·rename_i cl hcl
  split at h
  ·rename_i f' hf'
   injection h with h; injection h with h1 h2
   subst h1 h2
   obtain ⟨callee, as, ts⟩ := cl
   exact ⟨as, ts, by rw [hcl]; simp only at hf'; subst hf'; rfl, rfl⟩
  ·cases h
 ·cases h
theorem viewLA_pure {n : Nat} {T : Tab} {bs : List Nat} : ∀ {l : List V}, pureL l = true → viewL (viewA (n + 1) T) bs l = some (l, [], bs)
 | [], _ => rfl
 | v :: l, h => by
  simp only [pureL, Bool.and_eq_true] at h
  simp only [viewL, viewA_pure h.1, viewLA_pure h.2, List.nil_append]
theorem aCall_pure {Γ : Orc} {T : Tab} {f d : Nat} {xs : List V} {res : V} (h : pureL xs = true) (hg : Γ f xs [] = some (res, [], [])) (hr : res.pure = true) : aCall Γ T f xs d = some (res, T) := by
 unfold aCall
 rw [show depth = 7 + 1 from rfl, viewLA_pure h]
 simp only [boxesOf]
 rw [if_pos ⟨List.nodup_nil, by simp⟩]
 rw [hg]
 simp only [List.length_nil, Nat.zero_le, if_true, revive, fresh, List.append_nil]
 have e : T.freezes (zs res [] [] []) = T := by unfold zs; split <;> rfl
 rw [e, ren_pure hr]
 rfl
structure RS (Γ : Orc) (P : Program) (opl : List Oper) (o : Oper) (s0 : St) (st2 : St) : Prop where
 ex : ∃ v0 T F W v st1, foot s0 o = F ∧ estep Γ P { s0 with o := restrict F s0.o } o = some (v0, T) ∧ (wsites P { s0 with o := restrict F s0.o } o).map (fun s => (s, T.get s)) = W ∧
  (wsites P { s0 with o := restrict F s0.o } o).all (F.contains ·) = true ∧ norm opl o v0 = v ∧ ({ s0 with o := overlay W s0.o } : St).set o.dst v = some st1 ∧ Sim st1 st2 ∧ Fine o ⟨v, F, W⟩
theorem rStep_ok {β : Type _} {Γ : Orc} {P : Program} {opl : List Oper} {o : Oper} {st : St} {k : St → Option β} {r : β} (h : rStep Γ P opl o st k = some r) {s0 : St} (hs : Sim s0 st) : ∃ st2, k st2 = some r ∧ RS (orcZ Γ) P opl o s0 st2 := by
 obtain ⟨n, t, T, g⟩ := st
 unfold rStep at h
 split at h
 ·rename_i f args hpc
  obtain ⟨as, ts, hop, has⟩ := isPc_ok hpc
  rw [qEval_eq] at h
  split at h
  ·rename_i gg caps hf
   split at h
   ·rw [qEvalL_eq] at h
    obtain ⟨hp, h⟩ := brec_some h
    rw [qPureL_eq] at hp
    split at h
    ·rename_i res lb' lf hΓ
     split at h
     ·split at h
      ·obtain ⟨hpr, h⟩ := brec_some h
       rw [qPure_eq] at hpr
       have h := nrm_ok h
       split at h
       ·rename_i d hd
        obtain ⟨hlt, h⟩ := brec_some h
        have hlt := blt_lt hlt
        refine ⟨_, h, ⟨?_⟩⟩
        have hev : ∀ (T' : Tab) x, ({ s0 with o := T' } : St).eval x = (⟨n, t, T, g⟩ : St).eval x := fun T' x => by
         rw [← hs.eval x]
         cases x <;> rfl
        have hargs : ∀ T' : Tab, as.toList.map ({ s0 with o := T' } : St).eval = args.map (⟨n, t, T, g⟩ : St).eval := fun T' => by
         rw [has]
         exact List.map_congr_left fun x _ => hev T' x
        have hev0 : ∀ x, s0.eval x = (⟨n, t, T, g⟩ : St).eval x := hs.eval
        have hF : foot s0 o = (List.range 4).map (fsite d) := by
         unfold foot
         rw [hop, hd]
         simp only [Option.getD_some]
         rw [hev0 f, hf]
         have e2 : as.toList.flatMap (fun x => refsN depth s0.o (s0.eval x)) = [] := by
          rw [List.flatMap_eq_nil_iff]
          intro x hx
          rw [hev0 x]
          refine refsN_pure _ _ _ (pureL_mem hp _ ?_)
          rw [← has]
          exact List.mem_map_of_mem hx
         rw [e2]
         simp [refsN, depth]
        have hest : estep (orcZ Γ) P { s0 with o := restrict (foot s0 o) s0.o } o = some (res, restrict (foot s0 o) s0.o) := by
         unfold estep
         rw [hop]
         simp only [hev, hf, hargs, List.append_nil]
         refine aCall_pure hp ?_ hpr
         simp only [orcZ, List.all_nil, if_true, hΓ, Bool.and_self]
        have hws : wsites P { s0 with o := restrict (foot s0 o) s0.o } o = (List.range 4).map (fsite d) := by
         unfold wsites
         rw [hop, hd]
         simp only [hev, hf, hargs, List.append_nil, Option.getD_some]
         rw [show depth = 7 + 1 from rfl, viewLA_pure hp]
         simp [boxesOf]
        refine ⟨res, _, _, _, _, ⟨s0.n, aput d (norm opl o res) s0.t, overlay (((List.range 4).map (fsite d)).map fun s => (s, (restrict (foot s0 o) s0.o).get s)) s0.o, s0.g⟩, rfl, hest, by rw [hws], ?_, rfl, ?_, ?_, ?_⟩
        ·rw [hws, hF]
         rw [List.all_eq_true]
         intro s hs'
         exact List.contains_iff_mem.2 hs'
        ·rw [hd]
         simp only [St.set]
         rw [if_pos (by have := hs.n; simp only at this; rw [this]; exact hlt)]
        ·refine ⟨hs.n, hs.g, fun u => ?_, fun s => ?_⟩
         ·have := hs.t u
          simp only [St.get, aget_aput] at this ⊢
          simp only [aget]
          rw [this]
         ·show (overlay _ s0.o).get s = T.get s
          rw [get_overlay, look_map]
          have := hs.o s
          simp only at this
          split
          ·rename_i hmem
           rw [get_restrict, if_pos (by rw [hF]; exact hmem)]
           exact this
          ·exact this
        ·refine ⟨fun s hs' => ?_, .inr ⟨d, hd, fun s hs' => ?_⟩⟩
         ·simp only at hs'
          rw [hF] at hs'
          simp only [List.mem_map, List.mem_range] at hs'
          obtain ⟨k', hk', rfl⟩ := hs'
          exact .inl ⟨k', hk', by rw [hd]; rfl⟩
         ·simp only [keys, List.map_map, List.mem_map, List.mem_range, Function.comp] at hs'
          obtain ⟨k', hk', rfl⟩ := hs'
          exact ⟨k', hk', rfl⟩
       ·cases h
      ·cases h
     ·cases h
    ·cases h
   ·cases h
  ·cases h
 ·rename_i hpc
  rw [qEvalL_eq] at h
  obtain ⟨hq, h⟩ := brec_some h
  rw [qAll_eq] at hq
  obtain ⟨v, wr, haop, h⟩ := yEx_ok h
  have hev0 : ∀ x, s0.eval x = (⟨n, t, T, g⟩ : St).eval x := hs.eval
  have hFeq : foot (⟨n, t, T, g⟩ : St) o = foot s0 o := by
   rw [foot_nc hpc, foot_nc hpc]
   simp only [hev0]
  have haop' : aop P { s0 with o := restrict (foot s0 o) s0.o } o = some (v, wr) := by
   rw [← haop]
   refine aop_sim (fun x => ?_) ?_
   ·have := hev0 x
    cases x <;> exact this
   ·show restrict (foot s0 o) s0.o = restrict (foot ⟨n, t, T, g⟩ o) T
    rw [hFeq]
    exact restrict_eq hs.o
  have hfine : ∀ s ∈ foot s0 o, (∃ k, k < 4 ∧ s = fsite (o.dst.getD 99999) k) ∨ okS s = true := by
   intro s hs'
   rw [foot_nc hpc, List.mem_append] at hs'
   rcases hs' with hs' | hs'
   ·simp only [List.mem_map, List.mem_range] at hs'
    obtain ⟨k', hk', rfl⟩ := hs'
    exact .inl ⟨k', hk', rfl⟩
   ·split at hs'
    ·cases hs'
    simp only [List.mem_flatMap] at hs'
    obtain ⟨x, hx, hs'⟩ := hs'
    rw [hev0] at hs'
    exact .inr (qRefOk_ok (List.all_eq_true.1 hq _ (List.mem_map_of_mem hx)) s hs')
  split at h
  ·rename_i d hd
   obtain ⟨hlt, h⟩ := brec_some h
   have hlt := blt_lt hlt
   have hsl : ∀ (v : V) (T' : Tab), ({ s0 with o := T' } : St).set (some d) v = some ⟨s0.n, aput d v s0.t, T', s0.g⟩ := fun v T' => by
    simp only [St.set]
    rw [if_pos (by have := hs.n; simp only at this; rw [this]; exact hlt)]
   have hgt : ∀ (v : V) (u : Nat), aget .undef (aput d v s0.t) u = aget .undef ((d, v) :: t) u := fun v u => by
    have := hs.t u
    simp only [St.get] at this
    simp only [aget_aput, aget, this]
   rcases wr with _ | ⟨s, ob⟩
   ·simp only at h
    have h := nrm_ok h
    have hws : wsites P { s0 with o := restrict (foot s0 o) s0.o } o = [] := by rw [wsites_nc hpc, haop']
    refine ⟨_, h, ⟨v, _, _, [], _, ⟨s0.n, aput d (norm opl o v) s0.t, s0.o, s0.g⟩, rfl, by rw [estep_nc hpc, haop'], by rw [hws]; rfl, by rw [hws]; rfl, rfl, by rw [hd]; exact hsl _ _, ⟨hs.n, hs.g, fun u => hgt _ u, hs.o⟩, ⟨hfine, .inl rfl⟩⟩⟩
   ·simp only at h
    obtain ⟨hsd, h⟩ := brec_some h
    have hsd := Nat.eq_of_beq_eq_true hsd
    subst hsd
    have h := nrm_ok h
    have hws : wsites P { s0 with o := restrict (foot s0 o) s0.o } o = [s] := by rw [wsites_nc hpc, haop']
    refine ⟨_, h, ⟨v, _, _, [(s, ob)], _, ⟨s0.n, aput s (norm opl o v) s0.t, overlay [(s, ob)] s0.o, s0.g⟩, rfl, by rw [estep_nc hpc, haop'], ?_, ?_, rfl, by rw [hd]; exact hsl _ _, ⟨hs.n, hs.g, fun u => hgt _ u, fun u => ?_⟩, ⟨hfine, .inr ⟨s, hd, fun u hu => ?_⟩⟩⟩⟩
    ·rw [hws]
     simp only [List.map_cons, List.map_nil, wrT, Tab.get_put, if_true]
    ·rw [hws]
     simp only [List.all_cons, List.all_nil, Bool.and_true]
     refine List.contains_iff_mem.2 ?_
     rw [foot_nc hpc, hd]
     refine List.mem_append_left _ ?_
     simp only [List.mem_map, List.mem_range, Option.getD_some]
     exact ⟨0, by omega, by simp [fsite]⟩
    ·show (overlay [(s, ob)] s0.o).get u = Tab.get ((s, ob) :: T) u
     rw [get_overlay, get_cons, Tab.get_put]
     have := hs.o u
     simp only at this
     simp only [look]
     split
     ·rfl
     ·exact this
    ·simp only [keys, List.map_cons, List.map_nil, List.mem_cons, List.not_mem_nil, or_false] at hu
     exact ⟨0, by omega, by simp [fsite, hu]⟩
  ·cases h
theorem rRun_ok {Γ : Orc} {P : Program} {opl : List Oper} : ∀ (l : List Oper) (st s0 r : St), rRun Γ P opl l st = some r → Sim s0 st →
  ∃ rs s, drun (orcZ Γ) P opl l s0 = some (rs, s) ∧ Sim s r ∧ ∀ (i : Nat) (c : Rec), rs[i]? = some c → ∃ o, l[i]? = some o ∧ Fine o c
 | [], st, s0, r, h, hs => by
  injection h with h; subst h
  exact ⟨[], s0, rfl, hs, fun i c h => by simp at h⟩
 | o :: l, st, s0, r, h, hs => by
  have h : (match o.guard with
   | none => rStep Γ P opl o st (rRun Γ P opl l)
   | some (j, want) => match (opl[j]?).bind (·.dst) with
    | none => rRun.rSkip o st (rRun Γ P opl l)
    | some t => qAt .undef st.t t fun v => match v with
     | .bool b => Bool.rec (motive := fun _ => Option St) (rRun.rSkip o st (rRun Γ P opl l)) (rStep Γ P opl o st (rRun Γ P opl l)) (b == want)
     | .bs b => Bool.rec (motive := fun _ => Option St) (rRun.rSkip o st (rRun Γ P opl l)) (rStep Γ P opl o st (rRun Γ P opl l)) (b == want)
     | .tup _ => rRun.rSkip o st (rRun Γ P opl l)
     | _ => none) = some r := h
  have fin : ∀ (c : Rec) (s1 s2 : St), Fine o c → Sim s1 s2 → rRun Γ P opl l s2 = some r → (∀ rs s, drun (orcZ Γ) P opl l s1 = some (rs, s) → drun (orcZ Γ) P opl (o :: l) s0 = some (c :: rs, s)) →
    ∃ rs s, drun (orcZ Γ) P opl (o :: l) s0 = some (rs, s) ∧ Sim s r ∧ ∀ (i : Nat) (c : Rec), rs[i]? = some c → ∃ o', (o :: l)[i]? = some o' ∧ Fine o' c := by
   intro c s1 s2 hf hsim hrun hd
   obtain ⟨rs, s, h1, h2, h3⟩ := rRun_ok l s2 s1 r hrun hsim
   refine ⟨c :: rs, s, hd rs s h1, h2, fun i c' hc => ?_⟩
   cases i with
   | zero => simp at hc; subst hc; exact ⟨o, by simp, hf⟩
   | succ i =>
    obtain ⟨o', e1, e2⟩ := h3 i c' (by simpa using hc)
    exact ⟨o', by simpa using e1, e2⟩
  have hstep : aguard opl s0 o = some true → rStep Γ P opl o st (rRun Γ P opl l) = some r → ∃ rs s, drun (orcZ Γ) P opl (o :: l) s0 = some (rs, s) ∧ Sim s r ∧ ∀ (i : Nat) (c : Rec), rs[i]? = some c → ∃ o', (o :: l)[i]? = some o' ∧ Fine o' c := by
   intro hg hh
   obtain ⟨st2, hk, ⟨v0, T, F, W, v, st1, e1, e2, e3, e4, e5, e6, e7, e8⟩⟩ := rStep_ok hh hs
   exact fin _ st1 st2 e8 e7 hk fun rs s hd => drun_cons rs s hg e1 e2 e3 e4 e5 e6 hd
  have hskip : aguard opl s0 o = some false → rRun.rSkip o st (rRun Γ P opl l) = some r → ∃ rs s, drun (orcZ Γ) P opl (o :: l) s0 = some (rs, s) ∧ Sim s r ∧ ∀ (i : Nat) (c : Rec), rs[i]? = some c → ∃ o', (o :: l)[i]? = some o' ∧ Fine o' c := by
   intro hg hh
   obtain ⟨n, t, T, g⟩ := st
   unfold rRun.rSkip at hh
   have hfine : Fine o ⟨.tup [], [], []⟩ := ⟨(fun s hs => by cases hs), .inl rfl⟩
   split at hh
   ·rename_i d hd
    obtain ⟨hlt, hh⟩ := brec_some hh
    have hlt := blt_lt hlt
    refine fin ⟨.tup [], [], []⟩ ⟨s0.n, aput d (.tup []) s0.t, s0.o, s0.g⟩ ⟨n, (d, .tup []) :: t, T, g⟩ hfine ⟨hs.n, hs.g, fun u => ?_, hs.o⟩ hh fun rs s hdr => drun_skip hg ?_ hdr
    ·have := hs.t u
     simp only [St.get, aget_aput] at this ⊢
     simp only [aget]
     rw [this]
    ·rw [hd]
     simp only [St.set]
     rw [if_pos (by have := hs.n; simp only at this; rw [this]; exact hlt)]
   ·rename_i hd
    exact fin ⟨.tup [], [], []⟩ s0 _ hfine hs hh fun rs s hdr => drun_skip hg (by rw [hd]; rfl) hdr
  split at h
  ·rename_i hg
   exact hstep (by simp only [aguard, hg]) h
  ·rename_i j want hg
   split at h
   ·rename_i hgd
    exact hskip (by simp only [aguard, hg, hgd]) h
   ·rename_i t hgd
    rw [qAt_eq] at h
    have hst : s0.get t = aget .undef st.t t := hs.t t
    split at h
    ·rename_i b hb
     rw [hb] at hst
     cases hw : (b == want) with
     | true => rw [hw] at h; exact hstep (by simp only [aguard, hg, hgd, hst, hw]) h
     | false => rw [hw] at h; exact hskip (by simp only [aguard, hg, hgd, hst, hw]) h
    ·rename_i b hb
     rw [hb] at hst
     cases hw : (b == want) with
     | true => rw [hw] at h; exact hstep (by simp only [aguard, hg, hgd, hst, hw]) h
     | false => rw [hw] at h; exact hskip (by simp only [aguard, hg, hgd, hst, hw]) h
    ·rename_i vs hb
     rw [hb] at hst
     exact hskip (by simp only [aguard, hg, hgd, hst]) h
    ·cases h
def rReg (Γ : Orc) (P : Program) (opl : List Oper) (st : St) : Option St := Bool.rec (motive := fun _ => Option St) none (rRun Γ P opl opl st) (dOk opl)
theorem rReg_ok {κ : Cx} {Γ : Orc} (hΓ : GammaOk2 κ.P Γ) (hm : κ.P.follows .mixedOrders = true) {id : Nat} {ops : Array Oper} (htmp : (!true || tmpsOk ops.toList) = true) {st st' : St} {a : Act} {w : World} {Q : Exit → Act → World → Prop}
  (h : rReg Γ κ.P ops.toList st = some st') (hr : Rel κ st a w) (hQ : ∀ a w, Rel κ st' a w → Q .normal a w) : (Code.region id ops true).wp κ.P Q a w := by
 unfold rReg at h
 obtain ⟨hd, h⟩ := brec_some h
 obtain ⟨rs, s, h1, h2, h3⟩ := rRun_ok ops.toList st st st' h ⟨rfl, rfl, fun _ => rfl, fun _ => rfl⟩
 refine draw_okZ (orcZ_ok hΓ) hm (by simpa using htmp) [] (rs := rs) (st' := s) ?_ (objs_fine hd h3) hr fun a' w' hr' => hQ a' w' (hr'.congr h2.n.symm h2.g.symm (fun t => (h2.t t).symm) fun s => (h2.o s).symm)
 exact h1
end
end Go.Abs
namespace Go.Abs
open Go.RowKit
set_option linter.unusedVariables false
set_option linter.unusedSimpArgs false
noncomputable section
section
variable {β : Type _}
def qCon (v : V) (K : V → Option β) : Option β := yOp.qB v K
def nextC (T : Tab) (c : Nat) : Nat := List.rec (motive := fun _ => Nat) c (fun p _ ih => Bool.rec ih (Nat.succ p.1) (Nat.blt p.1 100000 && Nat.ble ih p.1)) T
def zPair {α : Sort _} (p : Nat × V) (k : Nat × V → α) : α := match p with
 | (a, v) => zN a fun a => zV 12 v fun v => k (a, v)
theorem zPair_eq {α : Sort _} (p : Nat × V) (k : Nat × V → α) : zPair p k = k p := by
 obtain ⟨a, v⟩ := p
 simp only [zPair, zN_eq, zV_eq]
def yHome (st : St) (c : Nat) (d : Option Nat) (k : YK β) (v : V) (T : Tab) : Option β :=
 zV 12 (conB v) fun v => zTab T fun T => qN (Nat.succ c) fun c => St.rec (motive := fun _ => Option β) (fun n t o g => yPure ⟨n, t, T, g⟩ c d k v) st
def yCallP (Γ : Orc) (st : St) (c : Nat) (d : Option Nat) (g : Nat) (xs : List V) (k : YK β) : Option β :=
 match Γ g xs [] with
 | some (res, lb', lf) => match lb' with
  | [] => match lf with
   | [] => Bool.rec (motive := fun _ => Option β) (yFin st c d res [] [] k) (qCon res (yPure st c d k)) (qPure res)
   | lf => yFin st c d res [] lf k
  | lb' => yFin st c d res lb' lf k
 | none => none
where
 yFin (st : St) (c : Nat) (d : Option Nat) (res : V) (lb' lf : List OK) (k : YK β) : Option β := match fin2 st.o [] [] c res lb' lf with
  | some (v, T) => yHome st c d k v T
  | none => none
def yCallG (Γ : Orc) (st : St) (c : Nat) (d : Option Nat) (g : Nat) (xs : List V) (k : YK β) : Option β :=
 match aCallZ Γ noL st.o g xs c with
 | some (v, T) => yHome st c d k v T
 | none => none
def yCall1 (Γ : Orc) (In : InOrc) (inl : List Nat) (st : St) (c : Nat) (d : Option Nat) (g : Nat) (xs : List V) (k : YK β) : Option β :=
 match inl.contains g with
 | true => match callIn In st g xs d with
  | some st' => match st' with
   | ⟨n, t, o, gg⟩ => zN n fun n => zList zPair t fun t => zTab o fun o => zList (zV 12) gg fun gg => qN (nextC o c) fun c => k ⟨n, t, o, gg⟩ c
  | none => none
 | false => Bool.rec (motive := fun _ => Option β) (yCallG Γ st c d g xs k) (yCallP Γ st c d g xs k) (qPureL xs)
def yCall (Γ : Orc) (In : InOrc) (inl : List Nat) (st : St) (c : Nat) (d : Option Nat) (f : Operand) (args : List Operand) (k : YK β) : Option β :=
 qEval st f fun vf => match vf with
  | .fn g caps => qEvalL st args fun xs => match caps with
   | [] => yCall1 Γ In inl st c d g xs k
   | caps => zList (zV 4) (xs ++ caps) fun xs => yCall1 Γ In inl st c d g xs k
  | _ => none
def HitC (Γ : Orc) (st : St) (c : Nat) (d : Option Nat) (g : Nat) (xs : List V) (k : YK β) (r : β) : Prop :=
 ∃ v T, aCall2 Γ noL st.o g xs c = some (v, T) ∧ ∃ st' c', k st' c' = some r ∧ st'.n = st.n ∧ st'.g = st.g ∧ (∀ e, d = some e → e < st.n) ∧ (∀ t, st'.get t = if d = some t then conB v else st.get t) ∧ ∀ s, st'.o.get s = T.get s
theorem yHome_hit {Γ : Orc} {st : St} {c : Nat} {d : Option Nat} {g : Nat} {xs : List V} {k : YK β} {r : β} {v : V} {T : Tab} (hc : aCall2 Γ noL st.o g xs c = some (v, T)) (h : yHome st c d k v T = some r) : HitC Γ st c d g xs k r := by
 obtain ⟨n, t, o, gg⟩ := st
 simp only [yHome, zV_eq, zTab_eq, qN_eq] at h
 obtain ⟨st', c', h1, h2, h3, h4, h5, h6⟩ := yPure_after h
 exact ⟨v, T, hc, st', c', h1, h2, h3, h4, fun t => by rw [h5]; rfl, fun s => by rw [h6]; rfl⟩
theorem yCallP_hit {Γ : Orc} {st : St} {c : Nat} {d : Option Nat} {g : Nat} {xs : List V} {k : YK β} {r : β} (hp : pureL xs = true) (h : yCallP Γ st c d g xs k = some r) : HitC Γ st c d g xs k r := by
 have hfin : ∀ res lb' lf, Γ g xs [] = some (res, lb', lf) → yCallP.yFin st c d res lb' lf k = some r → HitC Γ st c d g xs k r := by
  intro res lb' lf hΓ hh
  unfold yCallP.yFin at hh
  split at hh
  ·rename_i v T hf
   exact yHome_hit (by rw [aCall2_args hp, hΓ]; exact hf) hh
  ·cases hh
 unfold yCallP at h
 split at h
 ·rename_i res lb' lf hΓ
  split at h
  ·split at h
   ·cases hq : qPure res with
    | false => rw [hq] at h; exact hfin _ _ _ hΓ h
    | true =>
     rw [hq] at h
     have h := qB_ok h
     rw [qPure_eq] at hq
     obtain ⟨st', c', h1, h2, h3, h4, h5, h6⟩ := yPure_after h
     exact ⟨res, st.o, by rw [aCall2_args hp, hΓ]; exact fin2_pure hq, st', c', h1, h2, h3, h4, h5, h6⟩
   ·exact hfin _ _ _ hΓ h
  ·exact hfin _ _ _ hΓ h
 ·cases h
theorem yCallG_hit {Γ : Orc} {st : St} {c : Nat} {d : Option Nat} {g : Nat} {xs : List V} {k : YK β} {r : β} (h : yCallG Γ st c d g xs k = some r) : HitC Γ st c d g xs k r := by
 unfold yCallG at h
 split at h
 ·rename_i v T hc
  rw [aCallZ_eq] at hc
  exact yHome_hit hc h
 ·cases h
theorem yCall1_hit {Γ : Orc} {In : InOrc} {inl : List Nat} {st : St} {c : Nat} {d : Option Nat} {g : Nat} {xs : List V} {k : YK β} {r : β} (h : yCall1 Γ In inl st c d g xs k = some r) :
  (∃ st' c', callIn In st g xs d = some st' ∧ k st' c' = some r) ∨ HitC Γ st c d g xs k r := by
 unfold yCall1 at h
 split at h
 ·split at h
  ·rename_i st' hin
   obtain ⟨n, t, o, gg⟩ := st'
   simp only [zN_eq, zList_eq zPair_eq, zTab_eq, zList_eq (zV_eq 12), qN_eq] at h
   exact .inl ⟨_, _, hin, h⟩
  ·cases h
 ·cases hp : qPureL xs with
  | true => rw [hp] at h; rw [qPureL_eq] at hp; exact .inr (yCallP_hit hp h)
  | false => rw [hp] at h; exact .inr (yCallG_hit h)
theorem set_some {st : St} {T : Tab} {d : Option Nat} {u : V} (hd : ∀ e, d = some e → e < st.n) : ∃ s1, ({ st with o := T } : St).set d u = some s1 ∧ s1.n = st.n ∧ s1.g = st.g ∧ (∀ t, s1.get t = if d = some t then u else st.get t) ∧ s1.o = T := by
 cases d with
 | none => exact ⟨{ st with o := T }, rfl, rfl, rfl, fun t => by simp; rfl, rfl⟩
 | some d =>
  have hlt := hd d rfl
  refine ⟨{ st with t := aput d u st.t, o := T }, by simp only [St.set]; rw [if_pos hlt], rfl, rfl, fun t => ?_, rfl⟩
  simp only [St.get, aget_aput, Option.some.injEq]
def gdOf (opl : List Oper) (j : Nat) : Option Nat := (opl[j]?).bind (·.dst)
def stepY (Γ : Orc) (In : InOrc) (inl : List Nat) (P : Program) (opl : List Oper) (o : Oper) (st : St) (c : Nat) (k : YK β) : Option β :=
 match o.guard with
 | none => yDo Γ In inl P o st c k
 | some (j, want) => match gdOf opl j with
  | none => yPure st c o.dst k (.tup [])
  | some t => qAt .undef st.t t fun v => match v with
   | .bool b => Bool.rec (motive := fun _ => Option β) (yPure st c o.dst k (.tup [])) (yDo Γ In inl P o st c k) (b == want)
   | .tup _ => yPure st c o.dst k (.tup [])
   | _ => none
where
 yDo (Γ : Orc) (In : InOrc) (inl : List Nat) (P : Program) (o : Oper) (st : St) (c : Nat) (k : YK β) : Option β := match o.op with
  | .call cl => match cl.callee with
   | .value f => yCall Γ In inl st c o.dst f cl.args.toList k
   | _ => yOp P st c o k
  | _ => yOp P st c o k
section
variable {κ : Cx} {st : St} {a : Act} {w : World}
theorem yDo_ok {Γ : Orc} {In : InOrc} {inl : List Nat} (hΓ : GammaOk2 κ.P Γ) (hI : InOk κ.P In) (hrel : Rel κ st a w) {o : Oper} {c : Nat} {k : YK β} {r : β} (hx : stepY.yDo Γ In inl κ.P o st c k = some r) {K : Act → World → Prop} {Q : Exit → Act → World → Prop}
  (hK : ∀ st' c' a' w', k st' c' = some r → Rel κ st' a' w' → K a' w') : o.wp κ.P a w K Q := by
 obtain ⟨ι, h⟩ := hrel
 have hop : yOp κ.P st c o k = some r → o.wp κ.P a w K Q := by
  intro hh
  obtain ⟨v, wr, h1, u, hu, st', c', h2, h3, h4, h5, h6, h7⟩ := yOp_hit hh
  have hres : OpRes κ ι st.o a w (oC o c) v (wrT st.o wr) := by
   rcases h1 with h1 | h1
   ·exact opZ_ok h h1
   ·exact opZ0_ok h h1
  obtain ⟨cv, w', ι', hrun0, hto, hv⟩ := hres
  have hrun : (execOp a.eval o).run κ.P w = .ok (.value cv) w' ∨ ((execOp a.eval o).run κ.P w = .ok .skip w' ∧ cv = undef) := hrun0
  clear hrun0
  have hv' : Rv (wrT st.o wr) ι' (Stable κ.D (wrT st.o wr) ι' w') w' u cv := by
   rcases hu with rfl | rfl
   ·exact hv
   ·exact hv.conB
  obtain ⟨s1, e1, e2, e3, e4, e5⟩ := set_some (st := st) (T := wrT st.o wr) (u := u) h5
  have hr1 := h.set hto e1 hv'
  have hr2 : RelI κ ι' st' (a.put o.dst cv) w' := hr1.congr (by rw [h3, e2]) (by rw [h4, e3]) (fun t => by rw [h6, e4]) (fun s => by rw [h7, e5])
  unfold Oper.wp
  rcases hrun with hrun | ⟨hrun, rfl⟩
  ·rw [hrun]; exact hK _ _ _ _ h2 ⟨ι', hr2⟩
  ·rw [hrun]; exact hK _ _ _ _ h2 ⟨ι', hr2⟩
 unfold stepY.yDo at hx
 split at hx
 ·rename_i cl ho
  obtain ⟨callee, args, ts⟩ := cl
  simp only at hx
  split at hx
  ·rename_i f
   unfold yCall at hx
   rw [qEval_eq] at hx
   split at hx
   ·rename_i g caps hf
    rw [qEvalL_eq] at hx
    have hx' : yCall1 Γ In inl st c o.dst g (args.toList.map st.eval ++ caps) k = some r := by
     split at hx
     ·simpa using hx
     ·rw [zList_eq (zV_eq 4)] at hx; exact hx
    rcases yCall1_hit hx' with ⟨st', c', hin, hk⟩ | ⟨v, T, hc, st', c', h2, h3, h4, h5, h6, h7⟩
    ·exact callIn_ok hI h ho hf hin fun a' w' hr' => hK _ _ _ _ hk hr'
    ·have hfv := h.eval f
     rw [hf] at hfv
     obtain ⟨us, hfu, hl, hh⟩ := hfv.fn_
     have hcall := hc
     unfold aCall2 at hcall
     have hent : ∃ fn, κ.P.funcs[g]? = some fn ∧ (fn.name == "runtime.NumGoroutine") = false ∧ fn.body.isNone = false := by
      split at hcall
      ·split at hcall
       ·split at hcall
        ·split at hcall
         ·rename_i hg
          exact (hΓ _ _ _ _ _ _ hg).2
         ·cases hcall
        ·cases hcall
       ·cases hcall
      ·cases hcall
     obtain ⟨fn, e1, e2, e3⟩ := hent
     unfold Oper.wp
     rw [exec_call ho hfu e1 e2 e3]
     have hargs : LR (Rv st.o ι (Stable κ.D st.o ι w) w) (args.toList.map st.eval ++ caps) (args.map a.eval ++ ⟨us⟩).toList := by
      have := LR.map st.eval a.eval args.toList (R := Rv st.o ι (Stable κ.D st.o ι w) w) fun x _ => h.eval x
      simpa using this.append ⟨hl, hh⟩
     refine (aCall2_ok (fun f xs lb res lb' lf hg => (hΓ f xs lb res lb' lf hg).1) h hc hargs).mono fun e w' => ?_
     rintro ⟨cv, ι', rfl, hto, hv⟩
     obtain ⟨s1, e1, e2, e3, e4, e5⟩ := set_some (st := st) (T := T) (u := conB v) h5
     exact hK _ _ _ _ h2 ⟨ι', (h.set hto e1 hv.conB).congr (by rw [h3, e2]) (by rw [h4, e3]) (fun t => by rw [h6, e4]) (fun s => by rw [h7, e5])⟩
   ·cases hx
  ·exact hop hx
 ·exact hop hx
theorem stepY_ok {Γ : Orc} {In : InOrc} {inl : List Nat} (hΓ : GammaOk2 κ.P Γ) (hI : InOk κ.P In) (hrel : Rel κ st a w) {ops : Array Oper} {o : Oper} {c : Nat} {k : YK β} {r : β} (hx : stepY Γ In inl κ.P ops.toList o st c k = some r) {K : Act → World → Prop} {Q : Exit → Act → World → Prop}
  (hK : ∀ st' c' a' w', k st' c' = some r → Rel κ st' a' w' → K a' w') : if Region.wanted o (yielded ops a.tmps) then o.wp κ.P a w K Q else K (a.put o.dst undef) w := by
 have hdo : aguard ops.toList st o = some true → stepY.yDo Γ In inl κ.P o st c k = some r → if Region.wanted o (yielded ops a.tmps) then o.wp κ.P a w K Q else K (a.put o.dst undef) w := by
  intro hg hh
  obtain ⟨ι, h⟩ := hrel
  rw [aguard_ok h hg]
  exact yDo_ok hΓ hI ⟨ι, h⟩ hh hK
 have hno : aguard ops.toList st o = some false → yPure st c o.dst k (.tup []) = some r → if Region.wanted o (yielded ops a.tmps) then o.wp κ.P a w K Q else K (a.put o.dst undef) w := by
  intro hg hh
  obtain ⟨ι, h⟩ := hrel
  rw [aguard_ok h hg]
  simp only [Bool.false_eq_true, if_false]
  obtain ⟨st', c', h2, h3, h4, h5, h6, h7⟩ := yPure_after hh
  obtain ⟨s1, e1, e2, e3, e4, e5⟩ := set_some (st := st) (T := st.o) (u := .tup []) h5
  have hr1 := h.set (cv := undef) (To.refl h) e1 (.pure (.tup (vs := []) rfl (by simp)))
  exact hK _ _ _ _ h2 ⟨ι, hr1.congr (by rw [h3, e2]) (by rw [h4, e3]) (fun t => by rw [h6, e4]) (fun s => by rw [h7, e5]; rfl)⟩
 unfold stepY at hx
 split at hx
 ·rename_i hg
  exact hdo (by simp only [aguard, hg]) hx
 ·rename_i j want hg
  split at hx
  ·rename_i hgd
   exact hno (by simp only [aguard, hg]; rw [show (ops.toList[j]?).bind (·.dst) = none from hgd]) hx
  ·rename_i t hgd
   rw [qAt_eq] at hx
   have hgd' : (ops.toList[j]?).bind (·.dst) = some t := hgd
   split at hx
   ·rename_i b hb
    have hb' : st.get t = .bool b := hb
    cases hw : (b == want) with
    | true => rw [hw] at hx; exact hdo (by simp only [aguard, hg, hgd', hb', hw]) hx
    | false => rw [hw] at hx; exact hno (by simp only [aguard, hg, hgd', hb', hw]) hx
   ·rename_i vs hb
    have hb' : st.get t = .tup vs := hb
    exact hno (by simp only [aguard, hg, hgd', hb']) hx
   ·cases hx
end
def stepsY (Γ : Orc) (In : InOrc) (inl : List Nat) (P : Program) (opl : List Oper) (l : List Oper) (st : St) (c : Nat) (k : YK β) : Option β :=
 List.rec (motive := fun _ => St → Nat → Option β) (fun st c => k st c) (fun o _ ih st c => stepY Γ In inl P opl o st c ih) l st c
theorem stepsY_ok {κ : Cx} {Γ : Orc} {In : InOrc} {inl : List Nat} (hΓ : GammaOk2 κ.P Γ) (hI : InOk κ.P In) {ops : Array Oper} {Q : Exit → Act → World → Prop} {k : YK β} {r : β} : ∀ (l : List Oper) (st : St) (c : Nat) (a : Act) (w : World), stepsY Γ In inl κ.P ops.toList l st c k = some r → Rel κ st a w →
  (∀ st' c' a' w', k st' c' = some r → Rel κ st' a' w' → Q .normal a' w') → wpList κ.P ops Q l a w
 | [], st, c, a, w, hx, hr, hQ => wpList_nil (hQ st c a w hx hr)
 | o :: l, st, c, a, w, hx, hr, hQ => by
  have hx' : stepY Γ In inl κ.P ops.toList o st c (fun st c => stepsY Γ In inl κ.P ops.toList l st c k) = some r := hx
  exact wpList_step fun K hK => stepY_ok hΓ hI hr hx' fun st' c' a' w' hx' hr' => hK _ _ (stepsY_ok hΓ hI l st' c' a' w' hx' hr' hQ)
def qConT (l : List (Nat × V)) (k : List (Nat × V) → Option β) : Option β :=
 List.rec (motive := fun _ => (List (Nat × V) → Option β) → Option β) (fun k => k []) (fun p _ ih k => match p with
  | (a, v) => match v with
   | .bs b => Bool.rec (motive := fun _ => Option β) (ih fun r => k ((a, .bool false) :: r)) (ih fun r => k ((a, .bool true) :: r)) b
   | v => ih fun r => k ((a, v) :: r)) l k
theorem qConT_eq : ∀ (l : List (Nat × V)) (k : List (Nat × V) → Option β), qConT l k = k (l.map fun p => (p.1, conB p.2))
 | [], k => rfl
 | (a, v) :: l, k => by
  have ih := fun k => qConT_eq l k
  have h0 : ∀ v : V, (∀ b, v ≠ .bs b) → conB v = v := fun v hv => by cases v <;> first | rfl | exact absurd rfl (hv _)
  by_cases hv : ∃ b, v = .bs b
  ·obtain ⟨b, rfl⟩ := hv
   cases b
   ·show qConT l (fun r => k ((a, .bool false) :: r)) = _
    rw [ih]; rfl
   ·show qConT l (fun r => k ((a, .bool true) :: r)) = _
    rw [ih]; rfl
  ·have e : qConT ((a, v) :: l) k = qConT l (fun r => k ((a, v) :: r)) := by
    cases v <;> first | rfl | exact absurd ⟨_, rfl⟩ hv
   rw [e, ih]
   simp only [List.map_cons, h0 v fun b e => hv ⟨b, e⟩]
def yConS (st : St) (k : St → Option β) : Option β := St.rec (motive := fun _ => Option β) (fun n t o g => qConT t fun t => k ⟨n, t, o, g⟩) st
theorem aget_con (l : List (Nat × V)) (t : Nat) : aget .undef (l.map fun p => (p.1, conB p.2)) t = conB (aget .undef l t) := by
 induction l with
 | nil => rfl
 | cons p l ih =>
  obtain ⟨a, v⟩ := p
  simp only [List.map_cons, aget]
  split
  ·rfl
  ·exact ih
theorem yConS_ok {st : St} {k : St → Option β} {r : β} (h : yConS st k = some r) : ∃ st', k st' = some r ∧ ∀ κ a w, Rel κ st a w → Rel κ st' a w := by
 obtain ⟨n, t, o, g⟩ := st
 have h' : (qConT t fun t => k ⟨n, t, o, g⟩) = some r := h
 rw [qConT_eq] at h'
 refine ⟨_, h', fun κ a w ⟨ι, hr⟩ => ⟨ι, hr.dfr, hr.sz, fun u => ?_, hr.tr, hr.my, hr.kept, hr.pin, hr.gh⟩⟩
 have := (hr.tm u).conB
 simp only [St.get, aget_con]
 exact this
def regY (Γ : Orc) (In : InOrc) (inl : List Nat) (P : Program) (ops : Array Oper) (draw : Bool) (st : St) (c : Nat) (k : YK β) : Option β :=
 match draw with
 | true => match spill st ops.toList with
  | ⟨n, t, o, g⟩ => match rReg Γ P ops.toList ⟨n, t, o, g⟩ with
   | some st => yConS st fun st => k st c
   | none => drawZ Γ P ops.toList ⟨n, t, o, g⟩ fun st => yConS st fun st => k st c
 | false => stepsY Γ In inl P ops.toList ops.toList st c k
theorem HT.regY {κ : Cx} {Γ : Orc} {In : InOrc} {inl : List Nat} (hΓ : GammaOk2 κ.P Γ) (hI : InOk κ.P In) (hm : κ.P.follows .mixedOrders = true) {id : Nat} {ops : Array Oper} {draw : Bool} (htmp : (!draw || tmpsOk ops.toList) = true) {Q : Exit → St → Prop} {st : St} {c : Nat} {k : YK β} {r : β}
  (hx : Abs.regY Γ In inl κ.P ops draw st c k = some r) (h : ∀ st' c', k st' c' = some r → Q .normal st') : HT κ (.region id ops draw) Q st := fun a w hr => by
 unfold Abs.regY at hx
 cases draw with
 | true =>
  simp only at hx
  have hz' : (match rReg Γ κ.P ops.toList (spill st ops.toList) with
   | some st => yConS st fun st => k st c
   | none => drawZ Γ κ.P ops.toList (spill st ops.toList) fun st => yConS st fun st => k st c) = some r := hx
  cases hrr : rReg Γ κ.P ops.toList (spill st ops.toList) with
  | some s1 =>
   rw [hrr] at hz'
   obtain ⟨s', h1, h2⟩ := yConS_ok hz'
   exact rReg_ok hΓ hm htmp hrr (hr.spill ops.toList) fun a' w' hr' => ⟨s', h s' c h1, h2 κ a' w' hr'⟩
  | none =>
  rw [hrr] at hz'
  have hz : Abs.regZ Γ In noL κ.P ops true (spill st ops.toList) (fun st => yConS st fun st => k st c) = some r := hz'
  have h1 : HT κ (.region id ops true) (fun e s => ∃ s', Q e s' ∧ ∀ a w, Rel κ s a w → Rel κ s' a w) (spill st ops.toList) := HT.regZ hΓ hI hm htmp hz fun st' hk => by
   obtain ⟨s', h1, h2⟩ := yConS_ok hk
   exact ⟨s', h s' c h1, fun a w hr => h2 κ a w hr⟩
  refine wp_mono (h1 a w (hr.spill ops.toList)) fun e a' w' ⟨s1, ⟨s', hq, hrel⟩, hr'⟩ => ⟨s', hq, hrel _ _ hr'⟩
 | false =>
  simp only at hx
  exact wp_region_list (stepsY_ok hΓ hI ops.toList st c a w hx hr fun st' c' a' w' hk hr' => ⟨st', h st' c' hk, hr'⟩)
end
end
end Go.Abs
namespace Go.Abs
open Go.RowKit
set_option linter.unusedVariables false
set_option linter.unusedSimpArgs false
noncomputable section
section
variable {β : Type _}
def qDed {γ : Type _} (f : Nat → Option Nat) (l : List (Nat × γ)) (m : Nat) (k : List (Nat × γ) → Option β) : Option β :=
 List.rec (motive := fun _ => Nat → (List (Nat × γ) → Option β) → Option β) (fun m k => k [])
  (fun p _ ih m k => match f p.1 with
   | none => ih m fun r => k (p :: r)
   | some i => Bool.rec (motive := fun _ => Option β) (ih (Nat.lor m (Nat.shiftLeft 1 i)) fun r => k (p :: r)) (ih m k) (Nat.testBit m i)) l m k
theorem qDed_ok {γ : Type _} {f : Nat → Option Nat} (hf : ∀ a b i, f a = some i → f b = some i → a = b) (d : γ) {r : β} : ∀ (l : List (Nat × γ)) (m : Nat) (k : List (Nat × γ) → Option β), qDed f l m k = some r →
  ∃ l', k l' = some r ∧ ∀ t, (∀ i, f t = some i → m.testBit i = false) → aget d l' t = aget d l t
 | [], m, k, h => ⟨[], h, fun _ _ => rfl⟩
 | (a, x) :: l, m, k, h => by
  have h' : (match f a with
   | none => qDed f l m fun r => k ((a, x) :: r)
   | some i => Bool.rec (motive := fun _ => Option β) (qDed f l (Nat.lor m (Nat.shiftLeft 1 i)) fun r => k ((a, x) :: r)) (qDed f l m k) (Nat.testBit m i)) = some r := h
  split at h'
  ·rename_i ha
   obtain ⟨l', h1, h2⟩ := qDed_ok hf d l m _ h'
   refine ⟨_, h1, fun t ht => ?_⟩
   simp only [aget]
   split
   ·rfl
   ·exact h2 t ht
  ·rename_i i ha
   cases hb : Nat.testBit m i with
   | true =>
    rw [hb] at h'
    obtain ⟨l', h1, h2⟩ := qDed_ok hf d l m k h'
    refine ⟨_, h1, fun t ht => ?_⟩
    rw [h2 t ht]
    have hne : ¬ a = t := fun e => by subst e; rw [ht i ha] at hb; cases hb
    simp only [aget, if_neg hne]
   | false =>
    rw [hb] at h'
    obtain ⟨l', h1, h2⟩ := qDed_ok hf d l _ _ h'
    refine ⟨_, h1, fun t ht => ?_⟩
    simp only [aget]
    split
    ·rfl
    ·rename_i hne
     refine h2 t fun j hj => ?_
     have hji : j ≠ i := fun e => hne (hf _ _ _ ha (e ▸ hj))
     have e1 : Nat.lor m (Nat.shiftLeft 1 i) = m ||| (1 <<< i) := rfl
     rw [e1, Nat.testBit_or, ht j hj, Nat.testBit_shiftLeft]
     simp only [Bool.false_or, Bool.and_eq_false_iff, decide_eq_false_iff_not]
     by_cases hle : i ≤ j
     ·right
      exact Nat.testBit_lt_two_pow (Nat.one_lt_two_pow (by omega))
     ·left; omega
def fSlot (t : Nat) : Option Nat := some t
def fSite (s : Nat) : Option Nat := Bool.rec (motive := fun _ => Option Nat) none (Bool.rec (motive := fun _ => Option Nat) (Bool.rec (motive := fun _ => Option Nat) none (Bool.rec (motive := fun _ => Option Nat) none (some (Nat.sub s 1000000)) (Nat.blt s 1000064)) (Nat.ble 1000000 s)) (some (Nat.sub s 936)) (Nat.blt s 100000)) (Nat.ble 1000 s)
theorem fSlot_inj : ∀ a b i, fSlot a = some i → fSlot b = some i → a = b := fun a b i h1 h2 => by
 simp only [fSlot, Option.some.injEq] at h1 h2; omega
theorem fSite_ok {s i : Nat} (h : fSite s = some i) : (1000 ≤ s ∧ s < 100000 ∧ i = s - 936) ∨ (1000000 ≤ s ∧ s < 1000064 ∧ i = s - 1000000) := by
 unfold fSite at h
 cases h1 : Nat.ble 1000 s with
 | false => rw [h1] at h; cases h
 | true =>
  rw [h1] at h
  have h1 := Nat.le_of_ble_eq_true h1
  cases h2 : Nat.blt s 100000 with
  | true => rw [h2] at h; simp only [Option.some.injEq] at h; exact .inl ⟨h1, blt_lt h2, h.symm⟩
  | false =>
   rw [h2] at h
   cases h3 : Nat.ble 1000000 s with
   | false => rw [h3] at h; cases h
   | true =>
    rw [h3] at h
    cases h4 : Nat.blt s 1000064 with
    | false => rw [h4] at h; cases h
    | true => rw [h4] at h; simp only [Option.some.injEq] at h; exact .inr ⟨Nat.le_of_ble_eq_true h3, blt_lt h4, h.symm⟩
theorem fSite_inj : ∀ a b i, fSite a = some i → fSite b = some i → a = b := fun a b i h1 h2 => by
 rcases fSite_ok h1 with h1 | h1 <;> rcases fSite_ok h2 with h2 | h2 <;> omega
def yDed (st : St) (c : Nat) (k : YK β) : Option β :=
 St.rec (motive := fun _ => Option β) (fun n t o g => qDed fSlot t 0 fun t => qDed fSite o 0 fun o => k ⟨n, t, o, g⟩ c) st
theorem yDed_ok {st : St} {c : Nat} {k : YK β} {r : β} (h : yDed st c k = some r) : ∃ st', k st' c = some r ∧ ∀ κ a w, Rel κ st a w → Rel κ st' a w := by
 obtain ⟨n, t, o, g⟩ := st
 have h' : (qDed fSlot t 0 fun t => qDed fSite o 0 fun o => k ⟨n, t, o, g⟩ c) = some r := h
 obtain ⟨t', h1, h2⟩ := qDed_ok fSlot_inj V.undef t 0 _ h'
 obtain ⟨o', h3, h4⟩ := qDed_ok fSite_inj (⟨0, .dead⟩ : Ob) o 0 _ h1
 refine ⟨_, h3, fun κ a w hr => hr.congr rfl rfl (fun u => ?_) (fun s => ?_)⟩
 ·exact h2 u fun i _ => by simp
 ·exact h4 s fun i _ => by simp
abbrev XK (β : Type _) := Ex → St → Nat → Option β
def evYs (Γ : Orc) (In : InOrc) (inl : List Nat) (P : Program) (ih : Code → St → Nat → XK β → Option β) (c : Code) (st : St) (cn : Nat) (k : XK β) : Option β := match c with
 | .skip => k .normal st cn
 | .label _ => k .normal st cn
 | .exit id => k (.exit id) st cn
 | .ret => k .ret st cn
 | .region _ ops draw => regY Γ In inl P ops draw st cn fun st cn => k .normal st cn
 | .seq x y => ih x st cn fun e s cn => match e with
  | .normal => ih y s cn k
  | e => k e s cn
 | .cond c x y => qEval st c fun v => match v with
  | .bool b => Bool.rec (motive := fun _ => Option β) (ih y st cn k) (ih x st cn k) b
  | _ => none
 | .block id c => ih c st cn fun e s cn => match e with
  | .exit i => Bool.rec (motive := fun _ => Option β) (k (.exit i) s cn) (k .normal s cn) (Nat.beq i id)
  | e => k e s cn
 | .loop c => ih c st cn fun e s cn => match e with
  | .normal => yDed s cn fun s cn => ih (.loop c) s cn k
  | e => k e s cn
 | _ => none
def evY (Γ : Orc) (In : InOrc) (inl : List Nat) (P : Program) (n : Nat) : Code → St → Nat → XK β → Option β :=
 Nat.rec (motive := fun _ => Code → St → Nat → XK β → Option β) (fun _ _ _ _ => none) (fun _ ih => evYs Γ In inl P ih) n
def kQY (k : XK β) (r : β) : Exit → St → Prop := fun e s => ∃ x c, e = x.to ∧ k x s c = some r
theorem evY_both {κ : Cx} {Γ : Orc} {In : InOrc} {inl : List Nat} (hΓ : GammaOk2 κ.P Γ) (hI : InOk κ.P In) (hm : κ.P.follows .mixedOrders = true) : ∀ (n : Nat) (c : Code) (st : St) (cn : Nat) (k : XK β) (r : β), codeOk c = true → evY Γ In inl κ.P n c st cn k = some r →
  (HT κ c (kQY k r) st ∧ ∀ c', c = .loop c' → ∀ a w, Rel κ st a w → Code.rounds κ.P c' (fun e a' w' => ∃ st', kQY k r e st' ∧ Rel κ st' a' w') n a w)
 | 0, c, st, cn, k, r, _, h => by cases h
 | n + 1, c, st, cn, k, r, hc, h => by
  have ih := evY_both hΓ hI hm (inl := inl) n
  have h : evYs Γ In inl κ.P (evY Γ In inl κ.P n) c st cn k = some r := h
  cases c with
  | skip => simp only [evYs] at h; exact ⟨HT.skip ⟨.normal, _, rfl, h⟩, fun _ e => by cases e⟩
  | label l => simp only [evYs] at h; exact ⟨HT.label ⟨.normal, _, rfl, h⟩, fun _ e => by cases e⟩
  | exit id => simp only [evYs] at h; exact ⟨HT.exit ⟨.exit id, _, rfl, h⟩, fun _ e => by cases e⟩
  | ret => simp only [evYs] at h; exact ⟨HT.ret ⟨.ret, _, rfl, h⟩, fun _ e => by cases e⟩
  | region id ops draw =>
   simp only [evYs] at h
   exact ⟨HT.regY hΓ hI hm (by simpa [codeOk] using hc) h fun st' c' hk => ⟨.normal, c', rfl, hk⟩, fun _ e => by cases e⟩
  | seq x y =>
   simp only [codeOk, Bool.and_eq_true] at hc
   simp only [evYs] at h
   refine ⟨?_, fun _ e => by cases e⟩
   refine HT.seq (((ih x st cn _ r hc.1 h).1).mono fun e s hq => ?_)
   obtain ⟨ex, c', rfl, hk⟩ := hq
   cases ex with
   | normal => exact (ih y s c' k r hc.2 hk).1
   | exit i => exact ⟨.exit i, c', rfl, hk⟩
   | ret => exact ⟨.ret, c', rfl, hk⟩
  | cond o x y =>
   simp only [codeOk, Bool.and_eq_true] at hc
   simp only [evYs, qEval_eq] at h
   refine ⟨?_, fun _ e => by cases e⟩
   split at h
   ·rename_i b ho
    cases b with
    | true => exact HT.cond ho ((ih x st cn k r hc.1 h).1)
    | false => exact HT.cond ho ((ih y st cn k r hc.2 h).1)
   ·cases h
  | block id c =>
   simp only [codeOk] at hc
   simp only [evYs] at h
   refine ⟨?_, fun _ e => by cases e⟩
   refine HT.block (((ih c st cn _ r hc h).1).mono fun e s hq => ?_)
   obtain ⟨ex, c', rfl, hk⟩ := hq
   cases ex with
   | normal => exact ⟨.normal, c', rfl, hk⟩
   | ret => exact ⟨.ret, c', rfl, hk⟩
   | exit i =>
    simp only at hk
    show if i = id then kQY k r .normal s else kQY k r (.exit i) s
    by_cases hi : i = id
    ·subst hi
     rw [Nat.beq_refl] at hk
     simp only [if_true]
     exact ⟨.normal, c', rfl, hk⟩
    ·rw [if_neg hi]
     rw [beq_ne hi] at hk
     exact ⟨.exit i, c', rfl, hk⟩
  | loop c =>
   have hc' : codeOk c = true := by simpa [codeOk] using hc
   simp only [evYs] at h
   have key : ∀ a w, Rel κ st a w → Code.rounds κ.P c (fun e a' w' => ∃ st', kQY k r e st' ∧ Rel κ st' a' w') (n + 1) a w := by
    intro a w hr
    refine wp_mono (((ih c st cn _ r hc' h).1) a w hr) fun e a' w' ⟨s', hq, hr'⟩ => ?_
    obtain ⟨ex, c', rfl, hk⟩ := hq
    cases ex with
    | normal =>
     simp only at hk
     obtain ⟨s2, hk2, hrel⟩ := yDed_ok hk
     exact (ih (.loop c) s2 c' k r (by simpa [codeOk] using hc') hk2).2 c rfl a' w' (hrel _ _ _ hr')
    | exit i => exact ⟨s', ⟨.exit i, c', rfl, hk⟩, hr'⟩
    | ret => exact ⟨s', ⟨.ret, c', rfl, hk⟩, hr'⟩
   refine ⟨fun a w hr => wp_loop_rounds (n + 1) (key a w hr), fun c' e => ?_⟩
   cases e
   exact key
  | _ => cases h
def tmpsOf : List ResultVar → Option (List Nat)
 | [] => some []
 | .tmp t :: r => (tmpsOf r).map (t :: ·)
 | .cell _ _ :: _ => none
def qGets (T : List (Nat × V)) (l : List Nat) (k : List V → β) : β :=
 List.rec (motive := fun _ => (List V → β) → β) (fun k => k []) (fun x _ ih k => qAt .undef T x fun v => ih fun vs => k (v :: vs)) l k
theorem qGets_eq (T : List (Nat × V)) : ∀ (l : List Nat) (k : List V → β), qGets T l k = k (l.map (aget .undef T))
 | [], k => rfl
 | x :: l, k => by
  show (qAt .undef T x fun v => qGets T l fun vs => k (v :: vs)) = _
  rw [qAt_eq, qGets_eq T l]
  rfl
end
theorem tmpsOf_ok {P : Program} {st : St} : ∀ {l : List ResultVar} {ts : List Nat}, tmpsOf l = some ts → resL P st l = some (ts.map st.get)
 | [], ts, h => by injection h with h; subst h; rfl
 | .tmp t :: r, ts, h => by
  simp only [tmpsOf] at h
  cases hr : tmpsOf r with
  | none => rw [hr] at h; cases h
  | some ts' =>
   rw [hr] at h
   simp only [Option.map_some, Option.some.injEq] at h
   subst h
   simp only [resL, resV, tmpsOf_ok (P := P) (st := st) hr, List.map_cons]
 | .cell _ _ :: _, ts, h => by cases h
def retYm (P : Program) (fn : Func) (lb : List OK) (st : St) : Option (V × List OK × List OK) :=
 match lb with
 | [] => match tmpsOf fn.results.toList with
  | some ts => qGets st.t ts fun vs => Bool.rec (motive := fun _ => Option (V × List OK × List OK)) (retZ P fn [] .ret st) (match vs with
   | [v] => some (v, [], [])
   | vs => some (.tup vs, [], [])) (qPureL vs)
  | none => retZ P fn [] .ret st
 | lb => retZ P fn lb .ret st
def retY (P : Program) (fn : Func) (lb : List OK) (e : Ex) (st : St) (c : Nat) : Option (V × List OK × List OK) :=
 match e with
 | .exit _ => none
 | _ => retYm P fn lb st
theorem retV2_pure {T : Tab} {nb : Nat} {ss : List Nat} {v : V} (h : v.pure = true) : retV2 depth T nb ss v = some (v, [], ss) := by
 unfold retV2
 split
 ·cases h
 ·unfold retV
  split
  ·cases h
  ·cases h
  ·rw [show depth = 7 + 1 from rfl, view_pure h]
theorem viewR_pure {T : Tab} {nb : Nat} {ss : List Nat} : ∀ {l : List V}, pureL l = true → viewL (retV2 depth T nb) ss l = some (l, [], ss)
 | [], _ => rfl
 | v :: l, h => by
  simp only [pureL, Bool.and_eq_true] at h
  simp only [viewL, retV2_pure h.1, viewR_pure h.2, List.nil_append]
theorem retOf2_pure {P : Program} {fn : Func} {st : St} {vs : List V} (h : resL P st fn.results.toList = some vs) (hp : pureL vs = true) : retOf2 P fn kAll [] st = some (packV vs, [], []) := by
 unfold retOf2
 rw [h]
 simp only [List.length_nil, viewR_pure hp, keepL, freshOf2]
 rw [if_pos ⟨by simp, by simp [bSites]⟩]
 rfl
theorem retY_ok {P : Program} {fn : Func} {lb : List OK} {e : Ex} {st : St} {c : Nat} {res : V} {lb' lf : List OK} (h : retY P fn lb e st c = some (res, lb', lf)) :
  (e.to = .normal ∨ e.to = .ret) ∧ (rlens st.o kAll 0 lb).all id = true ∧ retOf2 P fn kAll lb st = some (res, lb', lf) := by
 have hz : ∀ {lb}, retZ P fn lb .ret st = some (res, lb', lf) → (rlens st.o kAll 0 lb).all id = true ∧ retOf2 P fn kAll lb st = some (res, lb', lf) := by
  intro lb hk
  unfold retZ at hk
  simp only at hk
  split at hk
  ·rename_i hl
   split at hk
   ·rename_i r l1 l2 hr
    simp only [zV_eq, zList_eq zOK_eq] at hk
    injection hk with hk
    injection hk with e1 hk; injection hk with e2 e3
    subst e1 e2 e3
    exact ⟨hl, hr⟩
   ·cases hk
  ·cases hk
 have main : retYm P fn lb st = some (res, lb', lf) → (rlens st.o kAll 0 lb).all id = true ∧ retOf2 P fn kAll lb st = some (res, lb', lf) := by
  intro h
  unfold retYm at h
  split at h
  ·split at h
   ·rename_i ts hts
    rw [qGets_eq] at h
    cases hp : qPureL (ts.map (aget .undef st.t)) with
    | false => rw [hp] at h; exact hz h
    | true =>
     rw [hp] at h
     rw [qPureL_eq] at hp
     have hr := tmpsOf_ok (P := P) (st := st) hts
     have hr2 := retOf2_pure hr hp
     refine ⟨rfl, ?_⟩
     rw [hr2]
     have e : ts.map st.get = ts.map (aget .undef st.t) := rfl
     rw [e]
     generalize ts.map (aget .undef st.t) = vs at h ⊢
     simp only at h
     split at h
     ·simp only [packV]; exact h
     ·rename_i hne
      rw [← h]
      unfold packV
      split
      ·exact absurd rfl (hne _)
      ·rfl
   ·exact hz h
  ·exact hz h
 unfold retY at h
 cases e with
 | exit i => cases h
 | normal => exact ⟨.inl rfl, main h⟩
 | ret => exact ⟨.inr rfl, main h⟩
def bodyY (Γ : Orc) (In : InOrc) (inl : List Nat) (P : Program) (breath : Nat) (fn : Func) (args : List V) (lb : List OK) : Option (V × List OK × List OK) :=
 match fn.body with
 | none => none
 | some c => if args.length ≤ fn.ntmps then zList zPair (slots 0 args) fun t => zTab (tabU lb []) fun T => evY Γ In inl P breath c ⟨fn.ntmps, t, T, []⟩ 1000 (retY P fn lb) else none
theorem bodyY_ok {P : Program} {Γ : Orc} {In : InOrc} {inl : List Nat} (hΓ : GammaOk2 P Γ) (hI : InOk P In) (hm : P.follows .mixedOrders = true) (hP : progOk P = true) {breath f : Nat} {fn : Func} (hf : P.funcs[f]? = some fn) {args : List V} {lb : List OK} {res : V} {lb' lf : List OK}
  (h : bodyY Γ In inl P breath fn args lb = some (res, lb', lf)) : Spec2 P f args lb res lb' lf ∧ ∃ fn, P.funcs[f]? = some fn ∧ (fn.name == "runtime.NumGoroutine") = false ∧ fn.body.isNone = false := by
 unfold bodyY at h
 split at h
 ·cases h
 ·rename_i c hc
  split at h
  ·rename_i hn
   rw [zList_eq zPair_eq, zTab_eq] at h
   have hcode := (progOk_get hP hf).2 c hc
   refine ⟨?_, fn, hf, (progOk_get hP hf).1, by simp [hc]⟩
   have hG := spec2_ofG (kp := kAll) (G := fun r l1 l2 => r = res ∧ l1 = lb' ∧ l2 = lf) (lb := lb) (args := args) hf hc hn fun κ hκ hgv => by
    subst hκ
    refine ((evY_both hΓ hI hm breath c _ _ _ _ hcode h).1).mono fun e s hq => ?_
    obtain ⟨x, cn, rfl, hk⟩ := hq
    obtain ⟨h1, h2, h3⟩ := retY_ok hk
    exact ⟨h1, h2, _, _, _, h3, rfl, rfl, rfl⟩
   intro w cargs β S htr hargs
   refine (hG w cargs β S htr hargs).mono fun e w' => ?_
   rintro ⟨_, _, _, ⟨rfl, rfl, rfl⟩, hh⟩
   exact hh
  ·cases h
def inY (Γ : Orc) (In : InOrc) (inl : List Nat) (P : Program) (breath : Nat) (fn : Func) (args : List V) (T : Tab) (g : List V) : Option (V × Tab × List V) :=
 match fn.body with
 | none => none
 | some c => if args.length ≤ fn.ntmps then zList zPair (slots 0 args) fun t => zTab T fun T => zList (zV 12) g fun g => qN (nextC T 1000) fun cn => evY Γ In inl P breath c ⟨fn.ntmps, t, T, g⟩ cn fun e st cn => match e with
   | .exit _ => none
   | _ => match resL P st fn.results.toList with
    | some vs => zV 12 (packV vs) fun v => zTab st.o fun T => zList (zV 12) st.g fun g => some (v, T, g)
    | none => none
  else none
theorem inY_ok {P : Program} {Γ : Orc} {In : InOrc} {inl : List Nat} (hΓ : GammaOk2 P Γ) (hI : InOk P In) (hm : P.follows .mixedOrders = true) (hP : progOk P = true) {breath f : Nat} {fn : Func} (hf : P.funcs[f]? = some fn) {args : List V} {T T' : Tab} {g g' : List V} {res : V}
  (h : inY Γ In inl P breath fn args T g = some (res, T', g')) : SpecI P f args T g res T' g' ∧ ∃ fn, P.funcs[f]? = some fn ∧ (fn.name == "runtime.NumGoroutine") = false ∧ fn.body.isNone = false := by
 unfold inY at h
 split at h
 ·cases h
 ·rename_i c hc
  split at h
  ·rename_i hn
   rw [zList_eq zPair_eq, zTab_eq, zList_eq (zV_eq 12), qN_eq] at h
   have hcode := (progOk_get hP hf).2 c hc
   refine ⟨specI_of hf hc hn fun κ hκ => ?_, fn, hf, (progOk_get hP hf).1, by simp [hc]⟩
   subst hκ
   refine ((evY_both hΓ hI hm breath c _ _ _ _ hcode h).1).mono fun e s hq => ?_
   obtain ⟨x, cn, rfl, hk⟩ := hq
   have fin : ∀ (hx : x = .normal ∨ x = .ret), (match resL κ.P s fn.results.toList with
     | some vs => zV 12 (packV vs) fun v => zTab s.o fun T => zList (zV 12) s.g fun g => some (v, T, g)
     | none => none) = some (res, T', g') → (x.to = .normal ∨ x.to = .ret) ∧ ∃ vs, resL κ.P s fn.results.toList = some vs ∧ packV vs = res ∧ s.o = T' ∧ s.g = g' := by
    intro hx hk
    split at hk
    ·rename_i vs hvs
     simp only [zV_eq, zTab_eq, zList_eq (zV_eq 12)] at hk
     injection hk with hk
     injection hk with e1 hk; injection hk with e2 e3
     refine ⟨?_, vs, hvs, e1, e2, e3⟩
     rcases hx with rfl | rfl
     ·exact .inl rfl
     ·exact .inr rfl
    ·cases hk
   cases x with
   | exit i => cases hk
   | normal => exact fin (.inl rfl) hk
   | ret => exact fin (.inr rfl) hk
  ·cases h
def evOY (J : InOrc) (Ξ : Orc) (inl : List Nat) (P : Program) (breath : Nat) (n : Nat) : Orc × InOrc :=
 Nat.rec (motive := fun _ => Orc × InOrc) (Ξ, J) (fun _ ih =>
  (fun f args lb => match Ξ f args lb with
   | some r => some r
   | none => match P.funcs[f]? with
    | some fn => bodyY ih.1 ih.2 inl P breath fn args lb
    | none => none,
  fun f args T g => match J f args T g with
   | some r => some r
   | none => match inl.contains f with
    | true => match P.funcs[f]? with
     | some fn => inY ih.1 ih.2 inl P breath fn args T g
     | none => none
    | false => none)) n
theorem evOY_ok {P : Program} {J : InOrc} (hJ : InOk P J) {Ξ : Orc} {inl : List Nat} (hΞ : GammaOk2 P Ξ) (hm : P.follows .mixedOrders = true) (hP : progOk P = true) {breath : Nat} : ∀ n, GammaOk2 P (evOY J Ξ inl P breath n).1 ∧ InOk P (evOY J Ξ inl P breath n).2
 | 0 => ⟨hΞ, hJ⟩
 | n + 1 => by
  obtain ⟨ih1, ih2⟩ := evOY_ok hJ (inl := inl) hΞ hm hP (breath := breath) n
  refine ⟨fun f xs lb res lb' lf h => ?_, fun f xs T g res T' g' h => ?_⟩
  ·have h : (match Ξ f xs lb with
    | some r => some r
    | none => match P.funcs[f]? with
     | some fn => bodyY (evOY J Ξ inl P breath n).1 (evOY J Ξ inl P breath n).2 inl P breath fn xs lb
     | none => none) = some (res, lb', lf) := h
   split at h
   ·rename_i r hr
    injection h with h; subst h
    exact hΞ f xs lb res lb' lf hr
   ·split at h
    ·rename_i fn hf
     exact bodyY_ok ih1 ih2 hm hP hf h
    ·cases h
  ·have h : (match J f xs T g with
    | some r => some r
    | none => match inl.contains f with
     | true => match P.funcs[f]? with
      | some fn => inY (evOY J Ξ inl P breath n).1 (evOY J Ξ inl P breath n).2 inl P breath fn xs T g
      | none => none
     | false => none) = some (res, T', g') := h
   split at h
   ·rename_i r hr
    injection h with h; subst h
    exact hJ _ _ _ _ _ _ _ hr
   ·split at h
    ·split at h
     ·rename_i fn hf
      exact inY_ok ih1 ih2 hm hP hf h
     ·cases h
    ·cases h
def nonJ : InOrc := fun _ _ _ _ => none
theorem nonJ_ok (P : Program) : InOk P nonJ := fun _ _ _ _ _ _ _ h => by cases h
theorem closedY {P : Program} {J : InOrc} (hJ : InOk P J) (hm : P.follows .mixedOrders = true) (hP : progOk P = true) {Ξ : Orc} (hΞ : GammaOk2 P Ξ) {inl : List Nat} {breath n f : Nat} (h : isTrue ((evOY J Ξ inl P breath n).1 f [] []) = true) (w : World) :
  Calls P f #[] w fun e w' => e = .returned (.bool true) ∧ Below w.heap.size w w' := by
 have key : ∀ r, (evOY J Ξ inl P breath n).1 f [] [] = some r → r = (.bool true, [], []) ∨ r = (.bs true, [], []) := by
  intro r hr
  rw [hr] at h
  unfold isTrue at h
  split at h
  ·rename_i e; injection e with e; exact .inl e
  ·rename_i e; injection e with e; exact .inr e
  ·cases h
 cases hr : (evOY J Ξ inl P breath n).1 f [] [] with
 | none => rw [hr] at h; cases h
 | some r =>
  have hs := ((evOY_ok hJ hΞ hm hP n).1 f [] [] r.1 r.2.1 r.2.2 hr).1
  have htr : TR (fun _ => False) (tabU [] []) (fun _ => 0) w := by
   refine ⟨fun t => ?_, fun t u ht => ?_, fun t ht => ?_⟩
   ·have : (tabU [] []).get t = ⟨0, .dead⟩ := rfl
    rw [this]; trivial
   ·exact ht.elim
   ·exact ht.elim
  rcases key r hr with rfl | rfl
  all_goals
   refine (hs w #[] (fun _ => 0) (fun _ => False) htr .nil).mono fun e w' => ?_
   rintro ⟨v, β', rfl, hk, _, hv, _⟩
   refine ⟨?_, (hk.mono (Y := fun _ => False) fun k _ ⟨t, ht, _⟩ => ht).below⟩
   first | rw [hv.bool_] | rw [hv.bs_]
end
end Go.Abs
