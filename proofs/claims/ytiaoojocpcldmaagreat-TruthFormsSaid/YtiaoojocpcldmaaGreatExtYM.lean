/- Calls that were run before are known. -/
import Derived.Test.YtiaoojocpcldmaaGreatExtYD
import Derived.Lib.AppendZerosOnto
import Derived.Lib.Overlaps
namespace Go.Abs
open Go.RowKit
set_option linter.unusedVariables false
set_option linter.unusedSimpArgs false
noncomputable section
def eqKind (a b : IntKind) : Bool := decide (a = b)
def eqInt (a b : Int) : Bool := match a with
  | .ofNat m => match b with
    | .ofNat n => Nat.beq m n
    | _ => false
  | .negSucc m => match b with
    | .negSucc n => Nat.beq m n
    | _ => false
theorem eqInt_ok {a b : Int} (h : eqInt a b = true) : a = b := by
  cases a <;> cases b <;> simp only [eqInt] at h
  · rw [Nat.eq_of_beq_eq_true h]
  · cases h
  · cases h
  · rw [Nat.eq_of_beq_eq_true h]
def eqL {α : Type} (f : α → α → Bool) (a b : List α) : Bool :=
  List.rec (motive := fun _ => List α → Bool) (fun b => List.casesOn b true fun _ _ => false) (fun x _ ih b => List.casesOn b false fun y r => Bool.rec false (ih r) (f x y)) a b
theorem eqL_ok {α : Type} {f : α → α → Bool} (hf : ∀ x y, f x y = true → x = y) : ∀ (a b : List α), eqL f a b = true → a = b
  | [], [], _ => rfl
  | [], _ :: _, h => by cases h
  | _ :: _, [], h => by cases h
  | x :: a, y :: b, h => by
    have h' : (Bool.rec (motive := fun _ => Bool) false (eqL f a b) (f x y)) = true := h
    cases hx : f x y with
    | false => rw [hx] at h'; cases h'
    | true => rw [hx] at h'; rw [hf x y hx, eqL_ok hf a b h']
def eqU (a b : UInt8) : Bool := Nat.beq a.toNat b.toNat
theorem eqU_ok {a b : UInt8} (h : eqU a b = true) : a = b := UInt8.toNat_inj.1 (Nat.eq_of_beq_eq_true h)
def eqV (n : Nat) : V → V → Bool := Nat.rec (motive := fun _ => V → V → Bool) (fun _ _ => false) (fun _ ih a b => match a with
  | .bool x => match b with | .bool y => Bool.rec (Bool.rec true false y) y x | _ => false
  | .int k m => match b with | .int k' m' => Bool.rec false (eqKind k k') (eqInt m m') | _ => false
  | .str s => match b with | .str t => eqL eqU s t | _ => false
  | .snil => match b with | .snil => true | _ => false
  | .sl m cs => match b with | .sl m' ds => Bool.rec false (eqL ih cs ds) (Nat.beq m m') | _ => false
  | .pnil => match b with | .pnil => true | _ => false
  | .agg cs => match b with | .agg ds => eqL ih cs ds | _ => false
  | .tup cs => match b with | .tup ds => eqL ih cs ds | _ => false
  | .ifc t v => match b with | .ifc t' v' => Bool.rec false (ih v v') (Nat.beq t t') | _ => false
  | .inil => match b with | .inil => true | _ => false
  | .fnil => match b with | .fnil => true | _ => false
  | .fn f cs => match b with | .fn f' ds => Bool.rec false (eqL ih cs ds) (Nat.beq f f') | _ => false
  | .sz => match b with | .sz => true | _ => false
  | _ => false) n
theorem andrec {x y : Bool} (h : (Bool.rec (motive := fun _ => Bool) false y x) = true) : x = true ∧ y = true := by
  cases x with
  | false => cases h
  | true => exact ⟨rfl, h⟩
theorem eqV_ok : ∀ (n : Nat) (a b : V), eqV n a b = true → a = b
  | 0, a, b, h => by cases h
  | n + 1, a, b, h => by
    have ih := eqV_ok n
    have ihl := eqL_ok (f := eqV n) ih
    cases a <;> cases b <;> first | (cases h; done) | rfl | skip
    · rename_i x y
      cases x <;> cases y <;> first | rfl | cases h
    · rename_i k m k' m'
      obtain ⟨h1, h2⟩ := andrec h
      rw [eqInt_ok h1, of_decide_eq_true h2]
    · rename_i s t
      rw [eqL_ok (fun x y => eqU_ok) s t h]
    · rename_i m cs m' ds
      obtain ⟨h1, h2⟩ := andrec h
      rw [Nat.eq_of_beq_eq_true h1, ihl cs ds h2]
    · rename_i cs ds
      rw [ihl cs ds h]
    · rename_i cs ds
      rw [ihl cs ds h]
    · rename_i t v t' v'
      obtain ⟨h1, h2⟩ := andrec h
      rw [Nat.eq_of_beq_eq_true h1, ih v v' h2]
    · rename_i f cs f' ds
      obtain ⟨h1, h2⟩ := andrec h
      rw [Nat.eq_of_beq_eq_true h1, ihl cs ds h2]
def addM (f : Nat) (xs : List V) (r : V × List OK × List OK) (Ξ : Orc) : Orc := fun g ys lb => match lb with
  | [] => Bool.rec (motive := fun _ => Option (V × List OK × List OK)) (Ξ g ys []) (Bool.rec (motive := fun _ => Option (V × List OK × List OK)) (Ξ g ys []) (some r) (eqL (eqV 12) ys xs)) (Nat.beq g f)
  | lb => Ξ g ys lb
theorem addM_ok {P : Program} {J : InOrc} (hJ : InOk P J) {Ξ : Orc} {f : Nat} {xs : List V} {r : V × List OK × List OK} (hΞ : GammaOk2 P Ξ) (hm : P.follows .mixedOrders = true) (hP : progOk P = true) {inl : List Nat} {breath n : Nat} (h : (evOY J Ξ inl P breath n).1 f xs [] = some r) : GammaOk2 P (addM f xs r Ξ) := by
  intro g ys lb res lb' lf hx
  unfold addM at hx
  split at hx
  · cases h1 : Nat.beq g f with
    | false => rw [h1] at hx; exact hΞ _ _ _ _ _ _ hx
    | true =>
      rw [h1] at hx
      cases h2 : eqL (eqV 12) ys xs with
      | false => rw [h2] at hx; exact hΞ _ _ _ _ _ _ hx
      | true =>
        rw [h2] at hx
        have e1 := Nat.eq_of_beq_eq_true h1
        have e2 := eqL_ok (eqV_ok 12) ys xs h2
        subst e1 e2
        have hx : some r = some (res, lb', lf) := hx
        injection hx with hx
        subst hx
        exact (evOY_ok hJ hΞ hm hP n).1 _ _ _ _ _ _ h
  · exact hΞ _ _ _ _ _ _ hx
end

/-! slices.Insert: an element put into a row of the machine's own, where memory is known to turn so. -/
set_option linter.unusedSimpArgs false

/-- What a call of slices.Insert comes to in memory. -/
def InsR (sz e b i n c : Nat) (arr : Array Value) (tb : Nat) (vs : List Value) (w : World) (x : Ending) (w' : World) : Prop :=
  ∃ b' c' t' A fz', x = .returned (.slice (some ⟨b', 0, none⟩) (n + 1) c') ∧ w'.os = w.os ∧ w'.tape = w.tape ∧ w'.output = w.output ∧
    w'.heap[b']? = some (.cells A t' fz') ∧ (∀ j, j ≤ A.size → ¬ (fz'.1 ≤ j ∧ j < fz'.2)) ∧ A.size = c' * sz ∧ n + 1 ≤ c' ∧
    A.toList.take ((n + 1) * sz) = (arr.toList.take (n * sz)).take (i * sz) ++ (vs ++ (arr.toList.take (n * sz)).drop (i * sz)) ∧
    ((b' = b ∧ t' = tb ∧ A.size = arr.size ∧ w'.heap.size = w.heap.size ∧ ∀ j, j ≠ b → w'.heap[j]? = w.heap[j]?) ∨
      (b' = w.heap.size ∧ t' = e ∧ w'.heap.size = w.heap.size + 1 ∧ ∀ j, j < w.heap.size → w'.heap[j]? = w.heap[j]?))
def InsF (P : Program) (f e sz bytes : Nat) : Prop :=
  ∀ (w : World) (b i n c vb vo vc : Nat) (arr va : Array Value) (tb tv : Nat) (fz fv : Nat × Nat) (vs : List Value),
    w.heap[b]? = some (.cells arr tb fz) → arr.size = c * sz → (∀ j, j ≤ arr.size → ¬ (fz.1 ≤ j ∧ j < fz.2)) →
    w.heap[vb]? = some (.cells va tv fv) → (∀ j, j ≤ va.size → ¬ (fv.1 ≤ j ∧ j < fv.2)) → vb ≠ b → vs.length = sz → (∀ (j : Nat) (u : Value), vs[j]? = some u → va[vo + j]? = some u) →
    (∀ u ∈ vs, u.oneCell' = true) → (∀ u ∈ arr.toList.take (n * sz), u.oneCell' = true) → i < n → n ≤ c → (n + 1) * bytes ≤ 140737488355328 →
    Calls P f #[.slice (some ⟨b, 0, none⟩) n c, .int .i64 (i : Nat), .slice (some ⟨vb, vo, none⟩) 1 vc] w fun x w' => InsR sz e b i n c arr tb vs w x w'
/-- Insert's kinds: function, element type, its cells, its bytes. -/
abbrev InsT := List (Nat × Nat × Nat × Nat)
def insIn (L : InsT) : InOrc := fun f args T g => match L.lookup f with
  | none => none
  | some (e, sz, bytes) => match args with
    | [.own s g0 0 n, .int .i64 (.ofNat i), .own u g1 vo 1] => match (T.get s), (T.get u) with
      | ⟨h0, .row ty sz1 false cs⟩, ⟨h1, .row _ sz2 _ cv⟩ =>
        if h0 = g0 ∧ h1 = g1 ∧ u ≠ s ∧ ty = e ∧ sz1 = sz ∧ sz2 = sz ∧ 2 ≤ sz ∧ i < n ∧ cs.length = n * sz ∧ (vo + 1) * sz ≤ cv.length ∧ (n + 1) * bytes ≤ 140737488355328 ∧ cs.all V.cellOk = true ∧ ((cv.drop (vo * sz)).take sz).all V.cellOk = true then
          zTab (T.put s ⟨g0 + 1, .row e sz false (cs.take (i * sz) ++ ((cv.drop (vo * sz)).take sz ++ cs.drop (i * sz)))⟩) fun T' => some (.own s (g0 + 1) 0 (n + 1), T', g)
        else none
      | _, _ => none
    | _ => none

section
variable {κ : Cx} {ι : Nat → Nat} {st : St} {a : Act} {w : World}
/-- A new object at a site: a new block, whatever else was drawn. -/
theorem To.newW {w' : World} (h : RelI κ ι st a w) (ho : w'.os = w.os) (ht : w'.tape = w.tape) (hout : w'.output = w.output) (hsz : w'.heap.size = w.heap.size + 1) (hkk : ∀ j, j < w.heap.size → w'.heap[j]? = w.heap[j]?)
    (s : Nat) (k : OK) (hob : ∀ T' ι', Goes κ.D st.o ι w T' ι' w' → ObRel T' ι' (Stable κ.D T' ι' w') w' w.heap.size k) :
    To κ st.o ι w (st.o.put s ⟨(st.o.get s).gen + 1, k⟩) (fun t => if s = t then w.heap.size else ι t) w' := by
  have hk : ∀ i, i ≠ w.heap.size → i < w.heap.size → w'.heap[i]? = w.heap[i]? := fun i _ hi => hkk i hi
  have H := Goes.site h.tr s w.heap.size ⟨(st.o.get s).gen + 1, k⟩ (w' := w') (.inr (Nat.le_refl _)) (by omega) hk (Nat.le_succ _) (fun e _ => absurd e (Nat.succ_ne_self _)) (fun e hl => absurd (h.tr.lt s hl) (by omega)) (fun _ _ _ _ _ e => absurd e (Nat.succ_ne_self _)) (fun _ _ _ _ _ e => absurd e (Nat.succ_ne_self _))
  refine ⟨H, TR.site h.tr s w.heap.size _ (.inr (Nat.le_refl _)) (by omega) (by omega) hk H (hob _ _ H), fun t hl => ?_, ?_⟩
  · simp only [Tab.live, Tab.get_put] at hl
    by_cases hst : s = t
    · simp only [if_pos hst]; exact .inl h.kept.size
    · rw [if_neg hst] at hl; simp only [if_neg hst]; exact h.my t hl
  · exact h.kept.trans ⟨ho, ht, hout, by omega, fun i hi _ => hk i (by omega) hi, fun i hi => .same (hk i (by omega) hi)⟩
end

theorem insI_ok {P : Program} {f e sz bytes : Nat} (hF : InsF P f e sz bytes) {s g0 n i u g1 vo : Nat} {T : Tab} {g : List V} {fz1 : Bool} {ty1 : Nat} {cs cv : List V} (hs : T.get s = ⟨g0, .row e sz false cs⟩) (hu : T.get u = ⟨g1, .row ty1 sz fz1 cv⟩) (hne : u ≠ s)
    (h2 : 2 ≤ sz) (hi : i < n) (hcl : cs.length = n * sz) (hvl : (vo + 1) * sz ≤ cv.length) (hby : (n + 1) * bytes ≤ 140737488355328) (hc1 : cs.all V.cellOk = true) (hc2 : ((cv.drop (vo * sz)).take sz).all V.cellOk = true) :
    SpecI P f [.own s g0 0 n, .int .i64 (i : Nat), .own u g1 vo 1] T g (.own s (g0 + 1) 0 (n + 1)) (T.put s ⟨g0 + 1, .row e sz false (cs.take (i * sz) ++ ((cv.drop (vo * sz)).take sz ++ cs.drop (i * sz)))⟩) g := by
  intro κ hκ ι w cargs hm hargs
  subst hκ
  obtain ⟨ca⟩ := cargs
  obtain ⟨c0, l1, rfl, r0, hargs⟩ := LR.head (vs := ca) hargs
  obtain ⟨c1, l2, rfl, r1, hargs⟩ := LR.head hargs
  obtain ⟨c2, l3, rfl, r2, hargs⟩ := LR.head hargs
  have : l3 = [] := List.eq_nil_of_length_eq_zero hargs.1.symm
  subst this
  have := r1.int_; subst this
  have h : RelI κ ι ⟨0, [], T, g⟩ { tmps := #[], defers := [] } w := ⟨rfl, rfl, fun t => by exact .undef _, hm.tr, hm.my, hm.kept, hm.pin, hm.gh⟩
  have hls : T.live s := by simp [Tab.live, hs, OK.live]
  have hlu : T.live u := by simp [Tab.live, hu, OK.live]
  obtain ⟨ad, c, cap, arr, tb, fz, rfl, hbk, hmem, has, hn, hcap, hpl⟩ := r0.own_ hs
  obtain ⟨ad2, vc, cap2, va, tv, fv, rfl, hbk2, hmem2, has2, hn2, hcap2, hpl2⟩ := r2.own_ hu
  have hob := hm.tr.ob s
  rw [hs] at hob
  obtain ⟨arr', fz', cap', hh', hf', has', h0, hle, hc⟩ := hob
  rw [hmem] at hh'
  injection hh' with hh'; injection hh' with e1 e2 e3; subst e1 e2 e3
  have hob2 := hm.tr.ob u
  rw [hu] at hob2
  obtain ⟨va', fv', cap2', hh2', hf2', has2', _, hle2, hcv⟩ := hob2
  rw [hmem2] at hh2'
  injection hh2' with hh2'; injection hh2' with e1 e2 e3; subst e1 e2 e3
  have hs1 : sz ≠ 1 := by omega
  have := hpl (by omega); subst this
  have := hpl2 (by omega); subst this
  have hbn : ι u ≠ ι s := fun e => hne (hm.tr.inj u s hlu hls e)
  have e1 : (vo + 1) * sz = vo * sz + sz := by rw [Nat.add_mul]; omega
  have hvl' : vo * sz + sz ≤ va.size := by omega
  obtain ⟨vs, hvs⟩ : ∃ vs, vs = (va.toList.drop (vo * sz)).take sz := ⟨_, rfl⟩
  have hvsl : vs.length = sz := by rw [hvs]; simp; omega
  have hvr : LR (Rv T ι (Stable κ.D T ι w) w) ((cv.drop (vo * sz)).take sz) vs := by
    refine ⟨by rw [hvsl]; simp; omega, fun j d x hd hx => ?_⟩
    rw [hvs] at hx
    rw [List.getElem?_take] at hd hx
    split at hd
    · rw [if_pos (by assumption)] at hx
      rw [List.getElem?_drop] at hd hx
      exact hcv _ d x hd hx
    · cases hd
  have hcr : LR (Rv T ι (Stable κ.D T ι w) w) cs (arr.toList.take (n * sz)) := by
    refine ⟨by simp; omega, fun j d x hd hx => ?_⟩
    rw [List.getElem?_take] at hx
    split at hx
    · exact hc _ d x hd hx
    · cases hx
  have one : ∀ (ds : List V) (us : List Value), LR (Rv T ι (Stable κ.D T ι w) w) ds us → ds.all V.cellOk = true → ∀ x ∈ us, x.oneCell' = true := by
    intro ds us hl hall x hx
    obtain ⟨j, hj⟩ := List.mem_iff_getElem?.1 hx
    have hjl : j < ds.length := by rw [hl.1]; exact (List.getElem?_eq_some_iff.1 hj).1
    exact cell_one (List.all_eq_true.1 hall _ (List.getElem_mem hjl)) (hl.2 j _ x (List.getElem?_eq_getElem hjl) hj)
  have hc0 : c = cap := by omega
  have hz : (0 : Nat) * sz = 0 := Nat.zero_mul _
  simp only [hz]
  refine (hF w (ι s) i n c (ι u) (vo * sz) vc arr va _ _ fz fv vs hmem (by rw [has, hc0]) (fun j hj => hf' j (.inr ⟨hs1, hj⟩)) hmem2 (fun j hj => hf2' j (.inr ⟨hs1, hj⟩)) hbn hvsl (fun j x hx => ?_) (one _ _ hvr hc2) (one _ _ hcr hc1) hi (by omega) hby).mono fun x w' => ?_
  · rw [hvs, List.getElem?_take] at hx
    split at hx
    · rw [List.getElem?_drop] at hx
      simpa using hx
    · cases hx
  rintro ⟨b', c', t', A, fz', rfl, k1, k2, k3, k4, k5, k6, k7, k8, k9⟩
  have hfin : LR (Rv T ι (Stable κ.D T ι w) w) (cs.take (i * sz) ++ ((cv.drop (vo * sz)).take sz ++ cs.drop (i * sz))) (A.toList.take ((n + 1) * sz)) := by
    rw [k8]
    exact (hcr.take _).append (hvr.append (hcr.drop _))
  have hin : i * sz ≤ n * sz := Nat.mul_le_mul_right _ (by omega)
  have en : (n + 1) * sz = n * sz + sz := by rw [Nat.add_mul]; omega
  have hnl : (cs.take (i * sz) ++ ((cv.drop (vo * sz)).take sz ++ cs.drop (i * sz))).length = (n + 1) * sz := by
    simp only [List.length_append, List.length_take, List.length_drop]; omega
  have hfitA : (n + 1) * sz ≤ A.size := by rw [k6]; exact Nat.mul_le_mul_right _ k7
  have hobj : ∀ T' ι', Goes κ.D T ι w T' ι' w' → ObRel T' ι' (Stable κ.D T' ι' w') w' b' (.row t' sz false (cs.take (i * sz) ++ ((cv.drop (vo * sz)).take sz ++ cs.drop (i * sz)))) := by
    intro T' ι' H
    refine ⟨A, fz', c', k4, fun j hj => k5 j (by omega), k6, h0, by rw [hnl]; exact hfitA, fun j d x hd hx => ?_⟩
    have hj : j < (n + 1) * sz := by rw [← hnl]; exact (List.getElem?_eq_some_iff.1 hd).1
    exact (hfin.2 j d x hd (by rw [List.getElem?_take, if_pos hj]; exact hx)).mono H
  have hres : ∀ ι' : Nat → Nat, ι' s = b' → Rv (T.put s ⟨g0 + 1, .row t' sz false (cs.take (i * sz) ++ ((cv.drop (vo * sz)).take sz ++ cs.drop (i * sz)))⟩) ι' (Stable κ.D (T.put s ⟨g0 + 1, .row t' sz false (cs.take (i * sz) ++ ((cv.drop (vo * sz)).take sz ++ cs.drop (i * sz)))⟩) ι' w') w' (.own s (g0 + 1) 0 (n + 1)) (.slice (some ⟨b', 0, none⟩) (n + 1) c') := by
    intro ι' hι'
    refine .own ⟨_, _, rfl⟩ (by simp [Tab.get_put]) fun ty' sz' fz0 cs' e => ?_
    simp [Tab.get_put] at e
    obtain ⟨rfl, rfl, rfl, rfl⟩ := e
    rw [hι']
    exact ⟨_, c', c', A, t', fz', rfl, rfl, k4, k6, by omega, by omega, fun _ => by rw [Nat.zero_mul]⟩
  rcases k9 with ⟨rfl, rfl, m1, m2, m3⟩ | ⟨rfl, rfl, m2, m3⟩
  · have hto := To.turn (w' := w') h s hls ⟨g0 + 1, .row t' sz false (cs.take (i * sz) ++ ((cv.drop (vo * sz)).take sz ++ cs.drop (i * sz)))⟩ k1 k2 k3 m2 m3 (by simp [hs]) (fun p _ hp => by simp [hs, OK.fzAt] at hp) (fun ty' sz' fz' cs' e he => by simp [hs] at he) hobj (hsh := Shape.of hmem k4 m1)
    have hr := h.set (dst := none) (st' := ⟨0, [], _, g⟩) hto rfl (hres ι rfl)
    exact ⟨_, ι, rfl, hr.m, hres ι rfl⟩
  · have hgen : (T.get s).gen + 1 = g0 + 1 := by rw [hs]
    have hto := To.newW (w' := w') h k1 k2 k3 m2 m3 s (.row t' sz false (cs.take (i * sz) ++ ((cv.drop (vo * sz)).take sz ++ cs.drop (i * sz)))) hobj
    simp only [hgen] at hto
    have hr := h.set (dst := none) (st' := ⟨0, [], _, g⟩) hto rfl (hres _ (by simp))
    exact ⟨_, _, rfl, hr.m, hres _ (by simp)⟩

/-- What the program must say of each kind. -/
def InsOk (P : Program) (L : InsT) : Prop := ∀ f e sz bytes, L.lookup f = some (e, sz, bytes) → InsF P f e sz bytes ∧ ∃ fn, P.funcs[f]? = some fn ∧ (fn.name == "runtime.NumGoroutine") = false ∧ fn.body.isNone = false
theorem insIn_ok {P : Program} {L : InsT} (hL : InsOk P L) : InOk P (insIn L) := by
  intro f xs T g res T' g' h
  unfold insIn at h
  split at h
  · cases h
  rename_i e sz bytes hl
  obtain ⟨hF, hfn⟩ := hL f e sz bytes hl
  refine ⟨?_, hfn⟩
  split at h
  · rename_i s g0 n i u g1 vo
    split at h
    · rename_i h0 ty sz1 cs h1 ty1 sz2 fz1 cv e1 e2
      split at h
      · rename_i hc
        obtain ⟨rfl, rfl, c1, rfl, rfl, rfl, c2, c3, c4, c5, c6, c7, c8⟩ := hc
        rw [zTab_eq] at h
        simp only [Option.some.injEq, Prod.mk.injEq] at h
        obtain ⟨rfl, rfl, rfl⟩ := h
        exact insI_ok hF e1 e2 c1 c2 c3 c4 c5 c6 c7 c8
      · cases h
    · cases h
  · cases h
theorem run_copyR {P : Program} {t ty e : TypeId} {i : TypeInfo} (ht : P.underlying t = some (.slice e)) (hi : P.info? e = some i) (W : World) {b tb : Nat} {fz : Nat × Nat} {arr : Array Value} (hmem : W.heap[b]? = some (.cells arr tb fz))
    (hf : ∀ j, j < arr.size → ¬ (fz.1 ≤ j ∧ j < fz.2)) (q n c : Nat) {src : Value} {m k : Nat} {xs : List Value} (hk : min m n = k) (hlen : ∀ w', (Builtin.lenOf src).run P w' = .ok m w') (hx : (Builtin.firstCells i.size k src).run P W = .ok xs.toArray W)
    (hfit : q + xs.length ≤ arr.size) (hone : ∀ u ∈ xs, u.oneCell' = true) :
    (Builtin.copy_ #[t, t] ty #[.slice (some ⟨b, q, none⟩) n c, src]).run P W = .ok (.int .i64 (k : Nat)) (W.setRow b (arr.toList.take q ++ (xs ++ arr.toList.drop (q + xs.length))).toArray) := by
  have hst := run_storeCells_fz P b q tb fz xs 0 arr W hmem hf (by omega) hone
  simp only [Nat.add_zero, List.append_assoc] at hst
  have hts : (#[t, t] : Array TypeId)[0]? = some t := rfl
  have hmn : Nat.min m n = k := hk
  subst hk
  have hmn : Nat.min m n = min m n := rfl
  simp only [Builtin.copy_, hts]
  simp [run_underlying ht, hlen, run_size hi, hmn, hx, hst, goInt]
theorem lenOf_slice (P : Program) (a : Option Addr) (n c : Nat) (w : World) : (Builtin.lenOf (.slice a n c)).run P w = .ok n w := by simp [Builtin.lenOf]
theorem wp_copy_runR {P : Program} (w : World) {o : Oper} {a : Act} {K : Act → World → Prop} {Q : Exit → Act → World → Prop} (d s : Operand) (t t' : TypeId)
    (ho : o.op = .call { callee := .builtin .copy, args := #[d, s], argTypes := #[t, t'] }) (v u : Value) (hd : a.eval d = v) (hs : a.eval s = u) {v' : Value} {w' : World}
    (hr : (Builtin.copy_ #[t, t'] o.type #[v, u]).run P w = .ok v' w') (h : K (a.put o.dst v') w') : o.wp P a w K Q := by
  unfold Oper.wp execOp
  simp only [ho, resolve, invoke, builtin, Sem.run_bind, Sem.run_pure, Result.andThen_ok, List.map_toArray, List.map_cons, List.map_nil, hd, hs, hr]
  exact h
theorem wpList_copy_runR {P : Program} (w : World) {ops : Array Oper} {rest : List Oper} {o : Oper} {a : Act} {Q : Exit → Act → World → Prop} (hgd : o.guard = none) (d s : Operand) (t t' : TypeId)
    (ho : o.op = .call { callee := .builtin .copy, args := #[d, s], argTypes := #[t, t'] }) (v u : Value) (hd : a.eval d = v) (hs : a.eval s = u) {v' : Value} {w' : World}
    (hr : (Builtin.copy_ #[t, t'] o.type #[v, u]).run P w = .ok v' w') (h : wpList P ops Q rest (a.put o.dst v') w') : wpList P ops Q (o :: rest) a w :=
  wpList_plain hgd fun _ hK => wp_copy_runR w d s t t' ho v u hd hs hr (hK _ _ h)
theorem step_copy_runR {P : Program} {ops : Array Oper} {o : Oper} {a : Act} {w : World} {K : Act → World → Prop} {Q : Exit → Act → World → Prop} {E : Prop}
    (hg : o.guard = none) (d x : Operand) (dT sT : TypeId) (hop : o.op = Op.call { callee := Callee.builtin Builtin.copy, args := #[d, x], argTypes := #[dT, sT] })
    (v u : Value) (hd : a.eval d = v) (hx : a.eval x = u) {v' : Value} {w' : World} (hr : (Builtin.copy_ #[dT, sT] o.type #[v, u]).run P w = .ok v' w') (hK : K (a.put o.dst v') w') :
    if Region.wanted o (yielded ops a.tmps) = true then Oper.wp P o a w K Q else E := by
  have hw : Region.wanted o (yielded ops a.tmps) = true := by simp [Region.wanted, hg]
  rw [if_pos hw]
  exact wp_copy_runR w d x dT sT hop v u hd hx hr hK
theorem insShiftL {α : Type} (l vs cs : List α) (p q S pS qS : Nat) (h1 : pS = p + S) (h2 : qS = q + S) (h3 : pS ≤ q) (h4 : qS ≤ l.length) (hv : vs.length = S) (hcs : cs = (l.take q).drop p) :
    (((l.take pS ++ (cs ++ l.drop (pS + cs.length))).take p) ++ (vs ++ (l.take pS ++ (cs ++ l.drop (pS + cs.length))).drop (p + vs.length))).take qS = (l.take q).take p ++ (vs ++ (l.take q).drop p) := by
  have hl : (l.take pS).length = pS := by simp; omega
  have hc : cs.length = q - p := by rw [hcs]; simp; omega
  generalize hX : cs ++ l.drop (pS + cs.length) = X
  have e1 : (l.take pS ++ X).take p = l.take p := by rw [List.take_append_of_le_length (by omega), List.take_take]; congr 1; omega
  have e2 : (l.take pS ++ X).drop (p + vs.length) = X := by rw [hv, ← h1]; exact List.drop_left' hl
  have e3 : (l.take q).take p = l.take p := by rw [List.take_take]; congr 1; omega
  have hp : (l.take p).length = p := by simp; omega
  rw [e1, e2, e3, ← hcs, ← hX, show l.take p ++ (vs ++ (cs ++ l.drop (pS + cs.length))) = (l.take p ++ (vs ++ cs)) ++ l.drop (pS + cs.length) by simp]
  exact List.take_left' (by simp only [List.length_append, hp, hv, hc]; omega)
theorem insGrowL {α : Type} (l r vs cs : List α) (p q S pS qS : Nat) (h1 : pS = p + S) (h2 : qS = q + S) (h3 : pS ≤ q) (h4 : q ≤ l.length) (hv : vs.length = S) (hcs : cs = (l.take q).drop p) (hr : r.take p = l.take p) :
    ((r.take p ++ (vs ++ r.drop (p + vs.length))).take pS ++ (cs ++ (r.take p ++ (vs ++ r.drop (p + vs.length))).drop (pS + cs.length))).take qS = (l.take q).take p ++ (vs ++ (l.take q).drop p) := by
  have hc : cs.length = q - p := by rw [hcs]; simp; omega
  have hp : (r.take p).length = p := by rw [hr]; simp; omega
  have e1 : (r.take p ++ (vs ++ r.drop (p + vs.length))).take pS = r.take p ++ vs := by
    rw [← List.append_assoc]; exact List.take_left' (by simp only [List.length_append, hp, hv]; omega)
  have e3 : (l.take q).take p = l.take p := by rw [List.take_take]; congr 1; omega
  rw [e1, e3, ← hcs, hr]
  generalize (l.take p ++ (vs ++ r.drop (p + vs.length))).drop (pS + cs.length) = X
  rw [show l.take p ++ vs ++ (cs ++ X) = (l.take p ++ (vs ++ cs)) ++ X by simp]
  rw [← hr]
  exact List.take_left' (by simp only [List.length_append, hp, hv, hc]; omega)
def insChk (P : Program) (e sz bytes : Nat) : Bool := match P.info? e with
  | some i => match i.zero with
    | some z => Nat.beq i.size sz && Nat.beq z.cells.size sz && Nat.beq i.bytes bytes
    | none => false
  | none => false
theorem insE_of {P : Program} {e sz bytes : Nat} (h : insChk P e sz bytes = true) : ∃ (inf : TypeInfo) (z : Value), P.info? e = some inf ∧ inf.size = sz ∧ inf.zero = some z ∧ z.cells.size = sz ∧ inf.bytes = bytes := by
  unfold insChk at h
  split at h
  · rename_i i hi
    split at h
    · rename_i z hz
      simp only [Bool.and_eq_true] at h
      exact ⟨i, z, hi, Nat.eq_of_beq_eq_true h.1.1, hz, Nat.eq_of_beq_eq_true h.1.2, Nat.eq_of_beq_eq_true h.2⟩
    · cases h
  · cases h
theorem setRow_size (w : World) (g : Nat) (A : Array Value) : (w.setRow g A).heap.size = w.heap.size := by simp [World.setRow]
/-! strings.Builder: copyCheck and String, where memory is known to turn so. -/
def BldF (P : Program) (fc fs tB t5 : Nat) : Prop :=
  (∀ (b : Nat) (w : World), w.cell? ⟨b, 0, none⟩ = some (.pointer (some ⟨b, 0, none⟩)) → Calls P fc #[.pointer (some ⟨b, 0, none⟩)] w fun e w' => e = .returned (.tuple #[]) ∧ w' = w) ∧
  (∀ (b : Nat) (w : World), w.cell? ⟨b, 0, none⟩ = some (.pointer none) → w.shape? b = some (tB, 2) → w.frozen? ⟨b, 0, none⟩ = false →
    Calls P fc #[.pointer (some ⟨b, 0, none⟩)] w fun e w' => e = .returned (.tuple #[]) ∧ w' = w.setCell ⟨b, 0, none⟩ (.pointer (some ⟨b, 0, none⟩))) ∧
  (∀ (b g cap : Nat) (cur : Array Value) (fz : Nat × Nat) (l : List UInt8) (w : World), w.cell? ⟨b, 1, none⟩ = some (.slice (some ⟨g, 0, none⟩) l.length cap) → w.heap[g]? = some (.cells cur t5 fz) → l.length ≤ cap → cur.size = cap → l ≠ [] → l.length ≤ 140737488355328 →
    (∀ (j : Nat) (x : UInt8), l[j]? = some x → cur[j]? = some (.int .u8 x.toNat)) →
    Calls P fs #[.pointer (some ⟨b, 0, none⟩)] w fun e w' => e = .returned (.string ⟨l.toArray⟩) ∧ w' = w.drew.freeze ⟨g, 0, none⟩ l.length) ∧
  (∀ (b : Nat) (w : World), w.cell? ⟨b, 1, none⟩ = some (.slice none 0 0) → Calls P fs #[.pointer (some ⟨b, 0, none⟩)] w fun e w' => e = .returned (.string ⟨#[]⟩) ∧ w' = w.drew)
def bytesOf : List V → Option (List UInt8)
  | [] => some []
  | .int .u8 (.ofNat k) :: r => match Nat.ble k 255 with
    | true => match bytesOf r with
      | some l => some (UInt8.ofNat k :: l)
      | none => none
    | false => none
  | _ => none
theorem bytesOf_ok {R : V → Value → Prop} (hR : ∀ k n u, R (.int k n) u → u = .int k n) : ∀ (cs : List V) (l : List UInt8) (us : List Value), bytesOf cs = some l → LR R cs us → l.length = cs.length ∧ ∀ (j : Nat) (x : UInt8), l[j]? = some x → us[j]? = some (.int .u8 x.toNat)
  | [], l, us, h, _ => by simp [bytesOf] at h; subst h; simp
  | c :: r, l, us, h, hl => by
    unfold bytesOf at h
    split at h
    · cases ‹c :: r = []›
    · rename_i k r' e
      injection e with e1 e2; subst e1 e2
      split at h
      · rename_i hk
        split at h
        · rename_i l' hl'
          injection h with h; subst h
          obtain ⟨u, us', rfl, hu, hr⟩ := hl.head
          obtain ⟨a1, a2⟩ := bytesOf_ok hR r l' us' hl' hr
          refine ⟨by simp [a1], fun j x hj => ?_⟩
          cases j with
          | zero =>
            simp at hj; subst hj
            have hk' : k ≤ 255 := Nat.le_of_ble_eq_true hk
            have := hR _ _ _ hu
            subst this
            have : (UInt8.ofNat k).toNat = k := by simp; omega
            simp [this]
          | succ j => exact a2 j x (by simpa using hj)
        · cases h
      · cases h
    · cases h
def bldIn (fc fs tB t5 : Nat) : InOrc := fun f args T g => match args with
  | [.ptr t g0 0] => match T.get t with
    | ⟨h0, .box ty [c0, c1]⟩ => match Nat.beq h0 g0 && Nat.beq ty tB with
      | true => match Nat.beq f fc with
        | true => match c0 with
          | .pnil => zTab (T.put t ⟨g0, .box ty [.ptr t g0 0, c1]⟩) fun T' => some (.tup [], T', g)
          | .ptr t1 g1 0 => match Nat.beq t1 t && Nat.beq g1 g0 with
            | true => some (.tup [], T, g)
            | false => none
          | _ => none
        | false => match Nat.beq f fs with
          | true => match c1 with
            | .snil => some (.str [], T, g)
            | .own s g1 0 (n + 1) => match T.get s with
              | ⟨h1, .row ty1 sz false cs⟩ => match Nat.beq h1 g1 && Nat.beq ty1 t5 && Nat.beq sz 1 && Nat.ble (n + 1) cs.length && Nat.ble (n + 1) 140737488355328 with
                | true => match bytesOf (cs.take (n + 1)) with
                  | some l => zTab (T.put s ⟨g1 + 1, .dead⟩) fun T' => some (.str l, T', g)
                  | none => none
                | false => none
              | _ => none
            | _ => none
          | false => none
      | false => none
    | _ => none
  | _ => none
theorem bldIn_ok {P : Program} {fc fs tB t5 : Nat} (hF : BldF P fc fs tB t5) (hfn : ∀ f, f = fc ∨ f = fs → ∃ fn, P.funcs[f]? = some fn ∧ (fn.name == "runtime.NumGoroutine") = false ∧ fn.body.isNone = false) : InOk P (bldIn fc fs tB t5) := by
  intro f xs T g res T' g' h
  unfold bldIn at h
  split at h
  case h_2 => cases h
  rename_i t g0
  split at h
  case h_2 => cases h
  rename_i h0 ty c0 c1 eT
  split at h
  case h_2 => cases h
  rename_i hc
  simp only [Bool.and_eq_true] at hc
  have e1 := Nat.eq_of_beq_eq_true hc.1
  have e2 := Nat.eq_of_beq_eq_true hc.2
  subst e1 e2
  have hlt : T.live t := by simp [Tab.live, eT, OK.live]
  -- what memory holds
  have mem : ∀ (κ : Cx), κ.P = P → ∀ (ι : Nat → Nat) (w : World) (ca : Array Value), MRel κ ι T g w → LR (Rv T ι (Stable κ.D T ι w) w) [.ptr t h0 0] ca.toList →
      ca = #[.pointer (some ⟨ι t, 0, none⟩)] ∧ RelI κ ι ⟨0, [], T, g⟩ { tmps := #[], defers := [] } w ∧ ∃ u0 u1 fz, w.heap[ι t]? = some (.cells #[u0, u1] ty fz) ∧ (∀ i, i < 2 → ¬ (fz.1 ≤ i ∧ i < fz.2)) ∧
        Rv T ι (Stable κ.D T ι w) w c0 u0 ∧ Rv T ι (Stable κ.D T ι w) w c1 u1 := by
    intro κ hκ ι w ca hm hargs
    obtain ⟨ca⟩ := ca
    obtain ⟨v, l1, rfl, r0, hargs⟩ := LR.head (vs := ca) hargs
    have : l1 = [] := List.eq_nil_of_length_eq_zero hargs.1.symm
    subst this
    have hv : v = .pointer (some ⟨ι t, 0, none⟩) := by
      cases r0 with
      | pure h => cases h
      | ptr hv hg h => exact h (by rw [eT]) hlt
    subst hv
    have hob := hm.tr.ob t
    rw [eT] at hob
    obtain ⟨arr, fz, b1, b2, b3, b4⟩ := hob
    obtain ⟨arr⟩ := arr
    have b3' : arr.length = 2 := b3
    obtain ⟨u0, l2, rfl⟩ : ∃ u0 l2, arr = u0 :: l2 := by cases arr with | nil => simp at b3' | cons a b => exact ⟨a, b, rfl⟩
    obtain ⟨u1, l3, rfl⟩ : ∃ u1 l3, l2 = u1 :: l3 := by cases l2 with | nil => simp at b3' | cons a b => exact ⟨a, b, rfl⟩
    have : l3 = [] := by apply List.eq_nil_of_length_eq_zero; simpa using b3'
    subst this
    exact ⟨rfl, ⟨rfl, rfl, fun t => .undef _, hm.tr, hm.my, hm.kept, hm.pin, hm.gh⟩, u0, u1, fz, b1, fun i hi => b2 i hi, b4 0 _ _ rfl rfl, b4 1 _ _ rfl rfl⟩
  split at h
  · rename_i hf
    have hf := Nat.eq_of_beq_eq_true hf
    subst hf
    refine ⟨?_, hfn _ (.inl rfl)⟩
    split at h
    · rw [zTab_eq] at h
      simp only [Option.some.injEq, Prod.mk.injEq] at h
      obtain ⟨rfl, rfl, rfl⟩ := h
      intro κ hκ ι w ca hm hargs
      obtain ⟨rfl, hr, u0, u1, fz, hmem, hfz, ru0, ru1⟩ := mem κ hκ ι w ca hm hargs
      have := ru0.pnil_; subst this
      refine (hF.2.1 (ι t) w (by simp [World.cell?, hmem]) (by simp [World.shape?, hmem]) (by have := hfz 0 (by omega); simp only [World.frozen?, hmem]; simp; omega)).mono fun x w' => ?_
      rintro ⟨rfl, rfl⟩
      rw [setCell_eq_setRow w (ι t) 0 _ ty fz _ hmem]
      have hnew := setRow_heap w (ι t) #[.pointer none, u1] (#[.pointer none, u1].setIfInBounds 0 (.pointer (some ⟨ι t, 0, none⟩))) ty fz hmem
      have hto := To.turn (w' := w.setRow (ι t) (#[.pointer none, u1].setIfInBounds 0 (.pointer (some ⟨ι t, 0, none⟩)))) hr t hlt ⟨h0, .box ty [.ptr t h0 0, c1]⟩ rfl rfl rfl (setRow_size _ _ _) (fun j hj => setRow_other w (ι t) j _ hj) (by simp [eT]) (fun p _ hp => by simp [eT, OK.fzAt] at hp) (fun ty' sz' fz' cs' e => by simp at e)
        (fun T' ι' H => by
          refine ⟨_, fz, hnew, fun i hi => hfz i (by simpa using hi), rfl, fun j d u hd hu => ?_⟩
          match j with
          | 0 =>
            simp at hd hu; subst hd hu
            refine Rv.mono (T := T) (ι := ι) (w := w) H (.ptr ⟨_, rfl⟩ (by rw [eT]; exact Nat.le_refl _) fun _ _ => rfl)
          | 1 => simp at hd hu; subst hd hu; exact ru1.mono H
          | j + 2 => simp at hd) (hsh := Shape.of hmem hnew rfl)
      have hv : ∀ T' ι' S w', Rv T' ι' S w' (.tup []) (.tuple #[]) := fun _ _ _ _ => .pure (.tup (vs := []) rfl (by simp))
      exact ⟨_, ι, rfl, (hr.set (dst := none) (v := .tup []) (cv := .tuple #[]) (st' := ⟨0, [], _, g⟩) hto rfl (hv _ _ _ _)).m, hv _ _ _ _⟩
    · rename_i t1 g1
      split at h
      · rename_i hc2
        simp only [Bool.and_eq_true] at hc2
        have e1 := Nat.eq_of_beq_eq_true hc2.1
        have e2 := Nat.eq_of_beq_eq_true hc2.2
        subst e1 e2
        simp only [Option.some.injEq, Prod.mk.injEq] at h
        obtain ⟨rfl, rfl, rfl⟩ := h
        intro κ hκ ι w ca hm hargs
        obtain ⟨rfl, hr, u0, u1, fz, hmem, hfz, ru0, ru1⟩ := mem κ hκ ι w ca hm hargs
        have hu0 : u0 = .pointer (some ⟨ι t1, 0, none⟩) := by
          cases ru0 with
          | pure h => cases h
          | ptr hv hg h => exact h (by rw [eT]) hlt
        subst hu0
        refine (hF.1 (ι t1) w (by simp [World.cell?, hmem])).mono fun x w' => ?_
        rintro ⟨rfl, rfl⟩
        exact ⟨_, ι, rfl, hm, .pure (.tup (vs := []) rfl (by simp))⟩
      · cases h
    · cases h
  · split at h
    case h_2 => cases h
    rename_i hf
    have hf := Nat.eq_of_beq_eq_true hf
    subst hf
    refine ⟨?_, hfn _ (.inr rfl)⟩
    split at h
    · simp only [Option.some.injEq, Prod.mk.injEq] at h
      obtain ⟨rfl, rfl, rfl⟩ := h
      intro κ hκ ι w ca hm hargs
      obtain ⟨rfl, hr, u0, u1, fz, hmem, hfz, ru0, ru1⟩ := mem κ hκ ι w ca hm hargs
      have := ru1.snil_; subst this
      refine (hF.2.2.2 (ι t) w (by simp [World.cell?, hmem])).mono fun x w' => ?_
      rintro ⟨rfl, rfl⟩
      have hto := To.drew (w' := w.drew) hr rfl rfl rfl rfl
      have hv : ∀ T' ι' S w', Rv T' ι' S w' (.str []) (.string ⟨#[]⟩) := fun _ _ _ _ => .pure (.str _ _ rfl)
      exact ⟨_, ι, rfl, (hr.set (dst := none) (v := .str []) (cv := .string ⟨#[]⟩) (st' := ⟨0, [], _, g⟩) hto rfl (hv _ _ _ _)).m, hv _ _ _ _⟩
    · rename_i s g1 n
      split at h
      case h_2 => cases h
      rename_i h1 ty1 sz cs eS
      split at h
      case h_2 => cases h
      rename_i hc2
      simp only [Bool.and_eq_true] at hc2
      obtain ⟨⟨⟨⟨q1, q2⟩, q3⟩, q4⟩, q5⟩ := hc2
      have q1 := Nat.eq_of_beq_eq_true q1
      have q2 := Nat.eq_of_beq_eq_true q2
      have q3 := Nat.eq_of_beq_eq_true q3
      have q4 := Nat.le_of_ble_eq_true q4
      have q5 := Nat.le_of_ble_eq_true q5
      subst q1 q2 q3
      split at h
      case h_2 => cases h
      rename_i l hl
      rw [zTab_eq] at h
      simp only [Option.some.injEq, Prod.mk.injEq] at h
      obtain ⟨rfl, rfl, rfl⟩ := h
      intro κ hκ ι w ca hm hargs
      obtain ⟨rfl, hr, u0, u1, fz, hmem, hfz, ru0, ru1⟩ := mem κ hκ ι w ca hm hargs
      have hls : T.live s := by simp [Tab.live, eS, OK.live]
      obtain ⟨ad, c, cap, arr, ty2, fz2, rfl, hbk, hmem2, has, hn, hcap, hpl⟩ := ru1.own_ eS
      have hob := hm.tr.ob s
      rw [eS] at hob
      obtain ⟨arr', fz2', cap', hh', hf', has', hz0, hle, hcv⟩ := hob
      rw [hmem2] at hh'
      injection hh' with hh'; injection hh' with e1 e2 e3; subst e1 e2 e3
      have := hpl (by omega); subst this
      have hLR : LR (Rv T ι (Stable κ.D T ι w) w) (cs.take (n + 1)) (arr.toList.take (n + 1)) := by
        refine ⟨by simp; omega, fun j d u hd hu => ?_⟩
        rw [List.getElem?_take] at hd hu
        split at hd
        · rw [if_pos (by assumption)] at hu; exact hcv j d u hd hu
        · cases hd
      obtain ⟨a1, a2⟩ := bytesOf_ok (fun k n u h => h.int_) _ _ _ hl hLR
      have hll : l.length = n + 1 := by rw [a1]; simp; omega
      have hcc : c = cap := by omega
      subst hcc
      refine (hF.2.2.1 (ι t) (ι s) c arr fz2 l w (by simp [World.cell?, hmem, hll]) hmem2 (by omega) (by omega) (by intro e; rw [e] at hll; simp at hll) (by omega) (fun j x hj => ?_)).mono fun x w' => ?_
      · have := a2 j x hj
        rw [List.getElem?_take] at this
        split at this
        · simpa using this
        · cases this
      rintro ⟨rfl, rfl⟩
      let fz' : Nat × Nat := if fz2.1 == fz2.2 then (0, 0 + l.length) else (min fz2.1 0, max fz2.2 (0 + l.length))
      have hne : ¬ (l.length = 0) := by omega
      have hnew : (w.drew.freeze ⟨ι s, 0, none⟩ l.length).heap[ι s]? = some (.cells arr ty2 fz') := by
        have hm2 : w.drew.heap[ι s]? = some (.cells arr ty2 fz2) := hmem2
        simp only [World.freeze, hne, if_false, Array.getElem?_modify, if_true, hm2, Option.map_some]
        rfl
      have hoth : ∀ j, j ≠ ι s → (w.drew.freeze ⟨ι s, 0, none⟩ l.length).heap[j]? = w.heap[j]? := by
        intro j hj
        have : w.drew.heap[j]? = w.heap[j]? := rfl
        simp only [World.freeze, hne, if_false, Array.getElem?_modify, if_neg (Ne.symm hj), this]
      have hsize : (w.drew.freeze ⟨ι s, 0, none⟩ l.length).heap.size = w.heap.size := by
        have : w.drew.heap.size = w.heap.size := rfl
        simp [World.freeze, hne, this]
      have hos : (w.drew.freeze ⟨ι s, 0, none⟩ l.length).os = w.os ∧ (w.drew.freeze ⟨ι s, 0, none⟩ l.length).tape = w.tape ∧ (w.drew.freeze ⟨ι s, 0, none⟩ l.length).output = w.output := by
        simp only [World.freeze, hne, if_false]; exact ⟨rfl, rfl, rfl⟩
      have hto := To.turn (w' := w.drew.freeze ⟨ι s, 0, none⟩ l.length) hr s hls ⟨h1 + 1, .dead⟩ hos.1 hos.2.1 hos.2.2 hsize hoth (by simp [eS]) (fun p hp hf => by simp [eS, OK.fzAt] at hf) (fun ty' sz' fz1 cs' e _ => by simp at e) (fun _ _ _ => trivial) (hsh := Shape.of hmem2 hnew rfl)
      have hv : ∀ T' ι' S w', Rv T' ι' S w' (.str l) (.string ⟨l.toArray⟩) := fun _ _ _ _ => .pure (.str _ _ rfl)
      exact ⟨_, ι, rfl, (hr.set (dst := none) (v := .str l) (cv := .string ⟨l.toArray⟩) (st' := ⟨0, [], _, g⟩) hto rfl (hv _ _ _ _)).m, hv _ _ _ _⟩
    · cases h
def orI (A B : InOrc) : InOrc := fun f args T g => match A f args T g with
  | some r => some r
  | none => B f args T g
theorem orI_ok {P : Program} {A B : InOrc} (hA : InOk P A) (hB : InOk P B) : InOk P (orI A B) := by
  intro f xs T g res T' g' h
  unfold orI at h
  split at h
  · rename_i r hr
    injection h with h; subst h
    exact hA _ _ _ _ _ _ _ hr
  · exact hB _ _ _ _ _ _ _ h
end Go.Abs
