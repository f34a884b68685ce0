/- Calls that were run before are known. -/
import Derived.Test.YthpfomhimmppiaaExtYD
import Derived.Lib.AppendZerosOnto
import Derived.Lib.Overlaps
namespace Go.Abs
open Go.RowKit
set_option linter.unusedVariables false
set_option linter.unusedSimpArgs false
noncomputable section
end
set_option linter.unusedSimpArgs false
def InsR (sz e b i n c : Nat) (arr : Array Value) (tb : Nat) (vs : List Value) (w : World) (x : Ending) (w' : World) : Prop :=
  ∃ b' c' t' A fz', x = .returned (.slice (some ⟨b', 0, none⟩) (n + 1) c') ∧ w'.os = w.os ∧ w'.tape = w.tape ∧ w'.output = w.output ∧
    w'.heap[b']? = some (.cells A t' fz') ∧ (∀ j, j ≤ A.size → ¬ (fz'.1 ≤ j ∧ j < fz'.2)) ∧ A.size = c' * sz ∧ n + 1 ≤ c' ∧
    A.toList.take ((n + 1) * sz) = (arr.toList.take (n * sz)).take (i * sz) ++ (vs ++ (arr.toList.take (n * sz)).drop (i * sz)) ∧
    ((b' = b ∧ t' = tb ∧ A.size = arr.size ∧ w'.heap.size = w.heap.size ∧ ∀ j, j ≠ b → w'.heap[j]? = w.heap[j]?) ∨
      (b' = w.heap.size ∧ t' = e ∧ w'.heap.size = w.heap.size + 1 ∧ ∀ j, j < w.heap.size → w'.heap[j]? = w.heap[j]?))
def InsF (P : Program) (f e sz bytes : Nat) : Prop :=
  ∀ (w : World) (b i n c vb vo vc : Nat) (arr va : Array Value) (tb tv : Nat) (fz fv : Nat × Nat) (vs : List Value),
    w.heap[b]? = some (.cells arr tb fz) → arr.size = c * sz → (∀ j, j ≤ arr.size → ¬ (fz.1 ≤ j ∧ j < fz.2)) →
    w.heap[vb]? = some (.cells va tv fv) → (∀ j, j ≤ va.size → ¬ (fv.1 ≤ j ∧ j < fv.2)) → vb ≠ b → vs.length = sz → (∀ (j : Nat) (u : Value), vs[j]? = some u → va[vo + j]? = some u) →
    (∀ u ∈ vs, u.oneCell' = true) → (∀ u ∈ arr.toList.take (n * sz), u.oneCell' = true) → i < n → n ≤ c → (n + 1) * bytes ≤ 140737488355328 →
    Calls P f #[.slice (some ⟨b, 0, none⟩) n c, .int .i64 (i : Nat), .slice (some ⟨vb, vo, none⟩) 1 vc] w fun x w' => InsR sz e b i n c arr tb vs w x w'
abbrev InsT := List (Nat × Nat × Nat × Nat)
def insIn (L : InsT) : InOrc := fun f args T g => match L.lookup f with
  | none => none
  | some (e, sz, bytes) => match args with
    | [.own s g0 0 n, .int .i64 (.ofNat i), .own u g1 vo 1] => match (T.get s), (T.get u) with
      | ⟨h0, .row ty sz1 false cs⟩, ⟨h1, .row _ sz2 _ cv⟩ =>
        if h0 = g0 ∧ h1 = g1 ∧ u ≠ s ∧ ty = e ∧ sz1 = sz ∧ sz2 = sz ∧ 2 ≤ sz ∧ i < n ∧ cs.length = n * sz ∧ (vo + 1) * sz ≤ cv.length ∧ (n + 1) * bytes ≤ 140737488355328 ∧ cs.all V.cellOk = true ∧ ((cv.drop (vo * sz)).take sz).all V.cellOk = true then
          zTab (T.put s ⟨g0 + 1, .row e sz false (cs.take (i * sz) ++ ((cv.drop (vo * sz)).take sz ++ cs.drop (i * sz)))⟩) fun T' => some (.own s (g0 + 1) 0 (n + 1), T', g)
        else none
      | _, _ => none
    | _ => none
section
variable {κ : Cx} {ι : Nat → Nat} {st : St} {a : Act} {w : World}
theorem To.newW {w' : World} (h : RelI κ ι st a w) (ho : w'.os = w.os) (ht : w'.tape = w.tape) (hout : w'.output = w.output) (hsz : w'.heap.size = w.heap.size + 1) (hkk : ∀ j, j < w.heap.size → w'.heap[j]? = w.heap[j]?)
    (s : Nat) (k : OK) (hob : ∀ T' ι', Goes κ.D st.o ι w T' ι' w' → ObRel T' ι' (Stable κ.D T' ι' w') w' w.heap.size k) :
    To κ st.o ι w (st.o.put s ⟨(st.o.get s).gen + 1, k⟩) (fun t => if s = t then w.heap.size else ι t) w' := by
  have hk : ∀ i, i ≠ w.heap.size → i < w.heap.size → w'.heap[i]? = w.heap[i]? := fun i _ hi => hkk i hi
  have H := Goes.site h.tr s w.heap.size ⟨(st.o.get s).gen + 1, k⟩ (w' := w') (.inr (Nat.le_refl _)) (by omega) hk (Nat.le_succ _) (fun e _ => absurd e (Nat.succ_ne_self _)) (fun e hl => absurd (h.tr.lt s hl) (by omega)) (fun _ _ _ _ _ e => absurd e (Nat.succ_ne_self _)) (fun _ _ _ _ _ e => absurd e (Nat.succ_ne_self _))
  refine ⟨H, TR.site h.tr s w.heap.size _ (.inr (Nat.le_refl _)) (by omega) (by omega) hk H (hob _ _ H), fun t hl => ?_, ?_⟩
  · simp only [Tab.live, Tab.get_put] at hl
    by_cases hst : s = t
    · simp only [if_pos hst]; exact .inl h.kept.size
    · rw [if_neg hst] at hl; simp only [if_neg hst]; exact h.my t hl
  · exact h.kept.trans ⟨ho, ht, hout, by omega, fun i hi _ => hk i (by omega) hi, fun i hi => .same (hk i (by omega) hi)⟩
end
theorem insI_ok {P : Program} {f e sz bytes : Nat} (hF : InsF P f e sz bytes) {s g0 n i u g1 vo : Nat} {T : Tab} {g : List V} {fz1 : Bool} {ty1 : Nat} {cs cv : List V} (hs : T.get s = ⟨g0, .row e sz false cs⟩) (hu : T.get u = ⟨g1, .row ty1 sz fz1 cv⟩) (hne : u ≠ s)
    (h2 : 2 ≤ sz) (hi : i < n) (hcl : cs.length = n * sz) (hvl : (vo + 1) * sz ≤ cv.length) (hby : (n + 1) * bytes ≤ 140737488355328) (hc1 : cs.all V.cellOk = true) (hc2 : ((cv.drop (vo * sz)).take sz).all V.cellOk = true) :
    SpecI P f [.own s g0 0 n, .int .i64 (i : Nat), .own u g1 vo 1] T g (.own s (g0 + 1) 0 (n + 1)) (T.put s ⟨g0 + 1, .row e sz false (cs.take (i * sz) ++ ((cv.drop (vo * sz)).take sz ++ cs.drop (i * sz)))⟩) g := by
  intro κ hκ ι w cargs hm hargs
  subst hκ
  obtain ⟨ca⟩ := cargs
  obtain ⟨c0, l1, rfl, r0, hargs⟩ := LR.head (vs := ca) hargs
  obtain ⟨c1, l2, rfl, r1, hargs⟩ := LR.head hargs
  obtain ⟨c2, l3, rfl, r2, hargs⟩ := LR.head hargs
  have : l3 = [] := List.eq_nil_of_length_eq_zero hargs.1.symm
  subst this
  have := r1.int_; subst this
  have h : RelI κ ι ⟨0, [], T, g⟩ { tmps := #[], defers := [] } w := ⟨rfl, rfl, fun t => by exact .undef _, hm.tr, hm.my, hm.kept, hm.pin, hm.gh⟩
  have hls : T.live s := by simp [Tab.live, hs, OK.live]
  have hlu : T.live u := by simp [Tab.live, hu, OK.live]
  obtain ⟨ad, c, cap, arr, tb, fz, rfl, hbk, hmem, has, hn, hcap, hpl⟩ := r0.own_ hs
  obtain ⟨ad2, vc, cap2, va, tv, fv, rfl, hbk2, hmem2, has2, hn2, hcap2, hpl2⟩ := r2.own_ hu
  have hob := hm.tr.ob s
  rw [hs] at hob
  obtain ⟨arr', fz', cap', hh', hf', has', h0, hle, hc⟩ := hob
  rw [hmem] at hh'
  injection hh' with hh'; injection hh' with e1 e2 e3; subst e1 e2 e3
  have hob2 := hm.tr.ob u
  rw [hu] at hob2
  obtain ⟨va', fv', cap2', hh2', hf2', has2', _, hle2, hcv⟩ := hob2
  rw [hmem2] at hh2'
  injection hh2' with hh2'; injection hh2' with e1 e2 e3; subst e1 e2 e3
  have hs1 : sz ≠ 1 := by omega
  have := hpl (by omega); subst this
  have := hpl2 (by omega); subst this
  have hbn : ι u ≠ ι s := fun e => hne (hm.tr.inj u s hlu hls e)
  have e1 : (vo + 1) * sz = vo * sz + sz := by rw [Nat.add_mul]; omega
  have hvl' : vo * sz + sz ≤ va.size := by omega
  obtain ⟨vs, hvs⟩ : ∃ vs, vs = (va.toList.drop (vo * sz)).take sz := ⟨_, rfl⟩
  have hvsl : vs.length = sz := by rw [hvs]; simp; omega
  have hvr : LR (Rv T ι (Stable κ.D T ι w) w) ((cv.drop (vo * sz)).take sz) vs := by
    refine ⟨by rw [hvsl]; simp; omega, fun j d x hd hx => ?_⟩
    rw [hvs] at hx
    rw [List.getElem?_take] at hd hx
    split at hd
    · rw [if_pos (by assumption)] at hx
      rw [List.getElem?_drop] at hd hx
      exact hcv _ d x hd hx
    · cases hd
  have hcr : LR (Rv T ι (Stable κ.D T ι w) w) cs (arr.toList.take (n * sz)) := by
    refine ⟨by simp; omega, fun j d x hd hx => ?_⟩
    rw [List.getElem?_take] at hx
    split at hx
    · exact hc _ d x hd hx
    · cases hx
  have one : ∀ (ds : List V) (us : List Value), LR (Rv T ι (Stable κ.D T ι w) w) ds us → ds.all V.cellOk = true → ∀ x ∈ us, x.oneCell' = true := by
    intro ds us hl hall x hx
    obtain ⟨j, hj⟩ := List.mem_iff_getElem?.1 hx
    have hjl : j < ds.length := by rw [hl.1]; exact (List.getElem?_eq_some_iff.1 hj).1
    exact cell_one (List.all_eq_true.1 hall _ (List.getElem_mem hjl)) (hl.2 j _ x (List.getElem?_eq_getElem hjl) hj)
  have hc0 : c = cap := by omega
  have hz : (0 : Nat) * sz = 0 := Nat.zero_mul _
  simp only [hz]
  refine (hF w (ι s) i n c (ι u) (vo * sz) vc arr va _ _ fz fv vs hmem (by rw [has, hc0]) (fun j hj => hf' j (.inr ⟨hs1, hj⟩)) hmem2 (fun j hj => hf2' j (.inr ⟨hs1, hj⟩)) hbn hvsl (fun j x hx => ?_) (one _ _ hvr hc2) (one _ _ hcr hc1) hi (by omega) hby).mono fun x w' => ?_
  · rw [hvs, List.getElem?_take] at hx
    split at hx
    · rw [List.getElem?_drop] at hx
      simpa using hx
    · cases hx
  rintro ⟨b', c', t', A, fz', rfl, k1, k2, k3, k4, k5, k6, k7, k8, k9⟩
  have hfin : LR (Rv T ι (Stable κ.D T ι w) w) (cs.take (i * sz) ++ ((cv.drop (vo * sz)).take sz ++ cs.drop (i * sz))) (A.toList.take ((n + 1) * sz)) := by
    rw [k8]
    exact (hcr.take _).append (hvr.append (hcr.drop _))
  have hin : i * sz ≤ n * sz := Nat.mul_le_mul_right _ (by omega)
  have en : (n + 1) * sz = n * sz + sz := by rw [Nat.add_mul]; omega
  have hnl : (cs.take (i * sz) ++ ((cv.drop (vo * sz)).take sz ++ cs.drop (i * sz))).length = (n + 1) * sz := by
    simp only [List.length_append, List.length_take, List.length_drop]; omega
  have hfitA : (n + 1) * sz ≤ A.size := by rw [k6]; exact Nat.mul_le_mul_right _ k7
  have hobj : ∀ T' ι', Goes κ.D T ι w T' ι' w' → ObRel T' ι' (Stable κ.D T' ι' w') w' b' (.row t' sz false (cs.take (i * sz) ++ ((cv.drop (vo * sz)).take sz ++ cs.drop (i * sz)))) := by
    intro T' ι' H
    refine ⟨A, fz', c', k4, fun j hj => k5 j (by omega), k6, h0, by rw [hnl]; exact hfitA, fun j d x hd hx => ?_⟩
    have hj : j < (n + 1) * sz := by rw [← hnl]; exact (List.getElem?_eq_some_iff.1 hd).1
    exact (hfin.2 j d x hd (by rw [List.getElem?_take, if_pos hj]; exact hx)).mono H
  have hres : ∀ ι' : Nat → Nat, ι' s = b' → Rv (T.put s ⟨g0 + 1, .row t' sz false (cs.take (i * sz) ++ ((cv.drop (vo * sz)).take sz ++ cs.drop (i * sz)))⟩) ι' (Stable κ.D (T.put s ⟨g0 + 1, .row t' sz false (cs.take (i * sz) ++ ((cv.drop (vo * sz)).take sz ++ cs.drop (i * sz)))⟩) ι' w') w' (.own s (g0 + 1) 0 (n + 1)) (.slice (some ⟨b', 0, none⟩) (n + 1) c') := by
    intro ι' hι'
    refine .own ⟨_, _, rfl⟩ (by simp [Tab.get_put]) fun ty' sz' fz0 cs' e => ?_
    simp [Tab.get_put] at e
    obtain ⟨rfl, rfl, rfl, rfl⟩ := e
    rw [hι']
    exact ⟨_, c', c', A, t', fz', rfl, rfl, k4, k6, by omega, by omega, fun _ => by rw [Nat.zero_mul]⟩
  rcases k9 with ⟨rfl, rfl, m1, m2, m3⟩ | ⟨rfl, rfl, m2, m3⟩
  · have hto := To.turn (w' := w') h s hls ⟨g0 + 1, .row t' sz false (cs.take (i * sz) ++ ((cv.drop (vo * sz)).take sz ++ cs.drop (i * sz)))⟩ k1 k2 k3 m2 m3 (by simp [hs]) (fun p _ hp => by simp [hs, OK.fzAt] at hp) (fun ty' sz' fz' cs' e he => by simp [hs] at he) hobj (hsh := Shape.of hmem k4 m1)
    have hr := h.set (dst := none) (st' := ⟨0, [], _, g⟩) hto rfl (hres ι rfl)
    exact ⟨_, ι, rfl, hr.m, hres ι rfl⟩
  · have hgen : (T.get s).gen + 1 = g0 + 1 := by rw [hs]
    have hto := To.newW (w' := w') h k1 k2 k3 m2 m3 s (.row t' sz false (cs.take (i * sz) ++ ((cv.drop (vo * sz)).take sz ++ cs.drop (i * sz)))) hobj
    simp only [hgen] at hto
    have hr := h.set (dst := none) (st' := ⟨0, [], _, g⟩) hto rfl (hres _ (by simp))
    exact ⟨_, _, rfl, hr.m, hres _ (by simp)⟩
def InsOk (P : Program) (L : InsT) : Prop := ∀ f e sz bytes, L.lookup f = some (e, sz, bytes) → InsF P f e sz bytes ∧ ∃ fn, P.funcs[f]? = some fn ∧ (fn.name == "runtime.NumGoroutine") = false ∧ fn.body.isNone = false
theorem insIn_ok {P : Program} {L : InsT} (hL : InsOk P L) : InOk P (insIn L) := by
  intro f xs T g res T' g' h
  unfold insIn at h
  split at h
  · cases h
  rename_i e sz bytes hl
  obtain ⟨hF, hfn⟩ := hL f e sz bytes hl
  refine ⟨?_, hfn⟩
  split at h
  · rename_i s g0 n i u g1 vo
    split at h
    · rename_i h0 ty sz1 cs h1 ty1 sz2 fz1 cv e1 e2
      split at h
      · rename_i hc
        obtain ⟨rfl, rfl, c1, rfl, rfl, rfl, c2, c3, c4, c5, c6, c7, c8⟩ := hc
        rw [zTab_eq] at h
        simp only [Option.some.injEq, Prod.mk.injEq] at h
        obtain ⟨rfl, rfl, rfl⟩ := h
        exact insI_ok hF e1 e2 c1 c2 c3 c4 c5 c6 c7 c8
      · cases h
    · cases h
  · cases h
theorem run_copyR {P : Program} {t ty e : TypeId} {i : TypeInfo} (ht : P.underlying t = some (.slice e)) (hi : P.info? e = some i) (W : World) {b tb : Nat} {fz : Nat × Nat} {arr : Array Value} (hmem : W.heap[b]? = some (.cells arr tb fz))
    (hf : ∀ j, j < arr.size → ¬ (fz.1 ≤ j ∧ j < fz.2)) (q n c : Nat) {src : Value} {m k : Nat} {xs : List Value} (hk : min m n = k) (hlen : ∀ w', (Builtin.lenOf src).run P w' = .ok m w') (hx : (Builtin.firstCells i.size k src).run P W = .ok xs.toArray W)
    (hfit : q + xs.length ≤ arr.size) (hone : ∀ u ∈ xs, u.oneCell' = true) :
    (Builtin.copy_ #[t, t] ty #[.slice (some ⟨b, q, none⟩) n c, src]).run P W = .ok (.int .i64 (k : Nat)) (W.setRow b (arr.toList.take q ++ (xs ++ arr.toList.drop (q + xs.length))).toArray) := by
  have hst := run_storeCells_fz P b q tb fz xs 0 arr W hmem hf (by omega) hone
  simp only [Nat.add_zero, List.append_assoc] at hst
  have hts : (#[t, t] : Array TypeId)[0]? = some t := rfl
  have hmn : Nat.min m n = k := hk
  subst hk
  have hmn : Nat.min m n = min m n := rfl
  simp only [Builtin.copy_, hts]
  simp [run_underlying ht, hlen, run_size hi, hmn, hx, hst, goInt]
theorem lenOf_slice (P : Program) (a : Option Addr) (n c : Nat) (w : World) : (Builtin.lenOf (.slice a n c)).run P w = .ok n w := by simp [Builtin.lenOf]
theorem wp_copy_runR {P : Program} (w : World) {o : Oper} {a : Act} {K : Act → World → Prop} {Q : Exit → Act → World → Prop} (d s : Operand) (t t' : TypeId)
    (ho : o.op = .call { callee := .builtin .copy, args := #[d, s], argTypes := #[t, t'] }) (v u : Value) (hd : a.eval d = v) (hs : a.eval s = u) {v' : Value} {w' : World}
    (hr : (Builtin.copy_ #[t, t'] o.type #[v, u]).run P w = .ok v' w') (h : K (a.put o.dst v') w') : o.wp P a w K Q := by
  unfold Oper.wp execOp
  simp only [ho, resolve, invoke, builtin, Sem.run_bind, Sem.run_pure, Result.andThen_ok, List.map_toArray, List.map_cons, List.map_nil, hd, hs, hr]
  exact h
theorem wpList_copy_runR {P : Program} (w : World) {ops : Array Oper} {rest : List Oper} {o : Oper} {a : Act} {Q : Exit → Act → World → Prop} (hgd : o.guard = none) (d s : Operand) (t t' : TypeId)
    (ho : o.op = .call { callee := .builtin .copy, args := #[d, s], argTypes := #[t, t'] }) (v u : Value) (hd : a.eval d = v) (hs : a.eval s = u) {v' : Value} {w' : World}
    (hr : (Builtin.copy_ #[t, t'] o.type #[v, u]).run P w = .ok v' w') (h : wpList P ops Q rest (a.put o.dst v') w') : wpList P ops Q (o :: rest) a w :=
  wpList_plain hgd fun _ hK => wp_copy_runR w d s t t' ho v u hd hs hr (hK _ _ h)
theorem step_copy_runR {P : Program} {ops : Array Oper} {o : Oper} {a : Act} {w : World} {K : Act → World → Prop} {Q : Exit → Act → World → Prop} {E : Prop}
    (hg : o.guard = none) (d x : Operand) (dT sT : TypeId) (hop : o.op = Op.call { callee := Callee.builtin Builtin.copy, args := #[d, x], argTypes := #[dT, sT] })
    (v u : Value) (hd : a.eval d = v) (hx : a.eval x = u) {v' : Value} {w' : World} (hr : (Builtin.copy_ #[dT, sT] o.type #[v, u]).run P w = .ok v' w') (hK : K (a.put o.dst v') w') :
    if Region.wanted o (yielded ops a.tmps) = true then Oper.wp P o a w K Q else E := by
  have hw : Region.wanted o (yielded ops a.tmps) = true := by simp [Region.wanted, hg]
  rw [if_pos hw]
  exact wp_copy_runR w d x dT sT hop v u hd hx hr hK
theorem insShiftL {α : Type} (l vs cs : List α) (p q S pS qS : Nat) (h1 : pS = p + S) (h2 : qS = q + S) (h3 : pS ≤ q) (h4 : qS ≤ l.length) (hv : vs.length = S) (hcs : cs = (l.take q).drop p) :
    (((l.take pS ++ (cs ++ l.drop (pS + cs.length))).take p) ++ (vs ++ (l.take pS ++ (cs ++ l.drop (pS + cs.length))).drop (p + vs.length))).take qS = (l.take q).take p ++ (vs ++ (l.take q).drop p) := by
  have hl : (l.take pS).length = pS := by simp; omega
  have hc : cs.length = q - p := by rw [hcs]; simp; omega
  generalize hX : cs ++ l.drop (pS + cs.length) = X
  have e1 : (l.take pS ++ X).take p = l.take p := by rw [List.take_append_of_le_length (by omega), List.take_take]; congr 1; omega
  have e2 : (l.take pS ++ X).drop (p + vs.length) = X := by rw [hv, ← h1]; exact List.drop_left' hl
  have e3 : (l.take q).take p = l.take p := by rw [List.take_take]; congr 1; omega
  have hp : (l.take p).length = p := by simp; omega
  rw [e1, e2, e3, ← hcs, ← hX, show l.take p ++ (vs ++ (cs ++ l.drop (pS + cs.length))) = (l.take p ++ (vs ++ cs)) ++ l.drop (pS + cs.length) by simp]
  exact List.take_left' (by simp only [List.length_append, hp, hv, hc]; omega)
theorem insGrowL {α : Type} (l r vs cs : List α) (p q S pS qS : Nat) (h1 : pS = p + S) (h2 : qS = q + S) (h3 : pS ≤ q) (h4 : q ≤ l.length) (hv : vs.length = S) (hcs : cs = (l.take q).drop p) (hr : r.take p = l.take p) :
    ((r.take p ++ (vs ++ r.drop (p + vs.length))).take pS ++ (cs ++ (r.take p ++ (vs ++ r.drop (p + vs.length))).drop (pS + cs.length))).take qS = (l.take q).take p ++ (vs ++ (l.take q).drop p) := by
  have hc : cs.length = q - p := by rw [hcs]; simp; omega
  have hp : (r.take p).length = p := by rw [hr]; simp; omega
  have e1 : (r.take p ++ (vs ++ r.drop (p + vs.length))).take pS = r.take p ++ vs := by
    rw [← List.append_assoc]; exact List.take_left' (by simp only [List.length_append, hp, hv]; omega)
  have e3 : (l.take q).take p = l.take p := by rw [List.take_take]; congr 1; omega
  rw [e1, e3, ← hcs, hr]
  generalize (l.take p ++ (vs ++ r.drop (p + vs.length))).drop (pS + cs.length) = X
  rw [show l.take p ++ vs ++ (cs ++ X) = (l.take p ++ (vs ++ cs)) ++ X by simp]
  rw [← hr]
  exact List.take_left' (by simp only [List.length_append, hp, hv, hc]; omega)
def insChk (P : Program) (e sz bytes : Nat) : Bool := match P.info? e with
  | some i => match i.zero with
    | some z => Nat.beq i.size sz && Nat.beq z.cells.size sz && Nat.beq i.bytes bytes
    | none => false
  | none => false
theorem insE_of {P : Program} {e sz bytes : Nat} (h : insChk P e sz bytes = true) : ∃ (inf : TypeInfo) (z : Value), P.info? e = some inf ∧ inf.size = sz ∧ inf.zero = some z ∧ z.cells.size = sz ∧ inf.bytes = bytes := by
  unfold insChk at h
  split at h
  · rename_i i hi
    split at h
    · rename_i z hz
      simp only [Bool.and_eq_true] at h
      exact ⟨i, z, hi, Nat.eq_of_beq_eq_true h.1.1, hz, Nat.eq_of_beq_eq_true h.1.2, Nat.eq_of_beq_eq_true h.2⟩
    · cases h
  · cases h
theorem setRow_size (w : World) (g : Nat) (A : Array Value) : (w.setRow g A).heap.size = w.heap.size := by simp [World.setRow]
def orI (A B : InOrc) : InOrc := fun f args T g => match A f args T g with
  | some r => some r
  | none => B f args T g
theorem orI_ok {P : Program} {A B : InOrc} (hA : InOk P A) (hB : InOk P B) : InOk P (orI A B) := by
  intro f xs T g res T' g' h
  unfold orI at h
  split at h
  · rename_i r hr
    injection h with h; subst h
    exact hA _ _ _ _ _ _ _ hr
  · exact hB _ _ _ _ _ _ _ h
end Go.Abs
