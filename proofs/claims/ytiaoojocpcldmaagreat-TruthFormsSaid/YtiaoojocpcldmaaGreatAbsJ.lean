/- Interfaces, tuples, parts, copies; one operation of the machine. -/
import Derived.Test.YtiaoojocpcldmaaGreatAbsI
namespace Go.Abs
open Go.RowKit
set_option linter.unusedVariables false
set_option linter.unusedSimpArgs false

section
variable {κ : Cx} {ι : Nat → Nat} {st : St} {a : Act} {w : World}

def zeroVal (P : Program) (t : Nat) : Option V :=
  match P.info? t with
  | some i => match i.zero with
    | some z => ofVal z
    | none => none
  | none => none
theorem zeroVal_ok {P : Program} {t : Nat} {v : V} (h : zeroVal P t = some v) : ∃ z, (∀ w, (zeroValue t).run P w = .ok z w) ∧ ∀ {S : Addr → Prop} {w : World}, Rp S w v z := by
  unfold zeroVal at h
  split at h
  · rename_i i hi
    split at h
    · rename_i z hz
      exact ⟨z, fun w => run_zero hi hz w, fun {S w} => ofVal_rp h⟩
    · cases h
  · cases h

def isIfaceD : TypeDesc → Bool
  | .interface _ => true
  | _ => false

def aAssert (P : Program) (asserted : Nat) (ok : Bool) (x : V) : Option V :=
  match P.underlying asserted with
  | some d => if isIfaceD d = true then none else
    match x with
    | .ifc t v => if t = asserted then some (if ok then .tup [v, .bool true] else v) else
        if ok then (zeroVal P asserted).map fun z => .tup [z, .bool false] else none
    | .inil => if ok then (zeroVal P asserted).map fun z => .tup [z, .bool false] else none
    | _ => none
  | none => none
theorem aAssert_ok (h : RelI κ ι st a w) {xt asserted : Nat} {ok : Bool} {x v : V} {cx : Value} (hr : Rv st.o ι (Stable κ.D st.o ι w) w x cx) (hx : aAssert κ.P asserted ok x = some v) :
    SemOk κ ι st.o w (Instr.typeAssert cx xt asserted ok) v none := by
  unfold aAssert at hx
  split at hx
  · rename_i d hd
    split at hx
    · cases hx
    · rename_i hni
      have hfail : ∀ (cx : Value), (cx = .nilIface ∨ ∃ t u, cx = .iface t u ∧ t ≠ asserted) → ok = true → ∀ z, zeroVal κ.P asserted = some z → ∃ cz, (Instr.typeAssert cx xt asserted ok).run κ.P w = .ok (.tuple #[cz, .bool false]) w ∧ Rp (Stable κ.D st.o ι w) w z cz := by
        intro cx hcx hok z hz
        subst hok
        obtain ⟨cz, hrun, hrp⟩ := zeroVal_ok hz
        refine ⟨cz, ?_, hrp⟩
        rcases hcx with rfl | ⟨t, u, rfl, hne⟩
        · cases d <;> first | (exact absurd rfl hni) | (simp [Instr.typeAssert, run_underlying hd, hrun])
        · cases d <;> first | (exact absurd rfl hni) | (simp [Instr.typeAssert, run_underlying hd, hrun, hne])
      split at hx
      · rename_i t u
        obtain ⟨cu, rfl, hu⟩ := hr.ifc_
        split at hx
        · rename_i ht
          subst ht
          injection hx with hx; subst hx
          cases ok with
          | true =>
            refine SemOk.same h (cv := .tuple #[cu, .bool true]) ?_ (.tup (vs := [cu, .bool true]) rfl (LR.cons hu (.cons (.pure (.bool _)) .nil)).2)
            cases d <;> first | (exact absurd rfl hni) | (simp [Instr.typeAssert, run_underlying hd])
          | false =>
            refine SemOk.same h (cv := cu) ?_ hu
            cases d <;> first | (exact absurd rfl hni) | (simp [Instr.typeAssert, run_underlying hd])
        · rename_i ht
          split at hx
          · rename_i hok
            cases hz : zeroVal κ.P asserted with
            | none => simp [hz] at hx
            | some z =>
              simp [hz] at hx; subst hx
              obtain ⟨cz, hrun, hrp⟩ := hfail _ (.inr ⟨t, cu, rfl, ht⟩) hok z hz
              exact SemOk.same h hrun (.pure (.tup (vs := [cz, .bool false]) rfl (LR.cons hrp (.cons (.bool _) .nil)).2))
          · cases hx
      · have := hr.inil_; subst this
        split at hx
        · rename_i hok
          cases hz : zeroVal κ.P asserted with
          | none => simp [hz] at hx
          | some z =>
            simp [hz] at hx; subst hx
            obtain ⟨cz, hrun, hrp⟩ := hfail _ (.inl rfl) hok z hz
            exact SemOk.same h hrun (.pure (.tup (vs := [cz, .bool false]) rfl (LR.cons hrp (.cons (.bool _) .nil)).2))
        · cases hx
      · cases hx
  · cases hx

def aMakeIface (P : Program) (t : Nat) (x : V) : Option V :=
  match P.underlying t with
  | some d => if isIfaceD d = true then none else some (.ifc t x)
  | none => none
theorem aMakeIface_ok (h : RelI κ ι st a w) {t : Nat} {x v : V} {cx : Value} (hr : Rv st.o ι (Stable κ.D st.o ι w) w x cx) (hx : aMakeIface κ.P t x = some v) :
    SemOk κ ι st.o w (Instr.makeInterface t cx) v none := by
  unfold aMakeIface at hx
  split at hx
  · rename_i d hd
    split at hx
    · cases hx
    · rename_i hni
      injection hx with hx; subst hx
      refine SemOk.same h (cv := .iface t cx) ?_ (.ifc hr)
      cases d <;> first | (exact absurd rfl hni) | (simp [Instr.makeInterface, run_underlying hd])
  · cases hx

def aExtract (x : V) (i : Nat) : Option V :=
  match x with
  | .tup vs => vs[i]?
  | _ => none
theorem aExtract_ok (h : RelI κ ι st a w) {i : Nat} {x v : V} {cx : Value} (hr : Rv st.o ι (Stable κ.D st.o ι w) w x cx) (hx : aExtract x i = some v) :
    SemOk κ ι st.o w (Instr.extract cx i) v none := by
  unfold aExtract at hx
  split at hx
  · rename_i vs
    obtain ⟨us, rfl, hl, hh⟩ := hr.tup_
    obtain ⟨u, hu, hv⟩ := LR.get (R := Rv st.o ι (Stable κ.D st.o ι w) w) ⟨hl, hh⟩ hx
    refine SemOk.same h (cv := u) ?_ hv
    have : (⟨us⟩ : Array Value)[i]? = some u := by simpa using hu
    simp [Instr.extract, this]
  · cases hx

def aPart (P : Program) (t : Nat) (cs : List V) (off : Nat) : Option V :=
  match P.underlying t, P.info? t with
  | some d, some i => if isAggD d then (if off + i.size ≤ cs.length then some (.agg ((cs.drop off).take i.size)) else none) else cs[off]?
  | _, _ => none
theorem aPart_ok {P : Program} {T : Tab} {S : Addr → Prop} {t off : Nat} {cs : List V} {vs : List Value} {v : V} (hr : LR (Rv T ι S w) cs vs) (hx : aPart P t cs off = some v) :
    ∃ cv, (part t ⟨vs⟩ off).run P w = .ok cv w ∧ Rv T ι S w v cv := by
  unfold aPart at hx
  split at hx
  · rename_i d i hd hi
    cases hag : isAggD d with
    | true =>
      simp only [hag, if_true] at hx
      split at hx
      · rename_i hle
        injection hx with hx; subst hx
        have := (hr.drop off).take i.size
        refine ⟨.agg ⟨(vs.drop off).take i.size⟩, ?_, .agg this.1 this.2⟩
        simp only [part, Sem.run_bind, run_isAgg hd, hag, Result.andThen_ok, if_true, run_size hi, Sem.run_pure]
        congr 2
        apply Array.ext'
        simp [List.extract_eq_take_drop]
      · cases hx
    | false =>
      simp only [hag, Bool.false_eq_true, if_false] at hx
      obtain ⟨u, hu, hv⟩ := hr.get hx
      refine ⟨u, ?_, hv⟩
      have : (⟨vs⟩ : Array Value)[off]? = some u := by simpa using hu
      simp [part, run_isAgg hd, hag, this]
  · cases hx

def aFieldV (P : Program) (t : Nat) (x : V) (f : Nat) : Option V :=
  match P.underlying t with
  | some (.struct fs) => match fs[f]? with
    | some fd => match x with
      | .agg cs => aPart P fd.type cs fd.offset
      | _ => none
    | none => none
  | _ => none
theorem aFieldV_ok (h : RelI κ ι st a w) {t f : Nat} {x v : V} {cx : Value} (hr : Rv st.o ι (Stable κ.D st.o ι w) w x cx) (hx : aFieldV κ.P t x f = some v) :
    SemOk κ ι st.o w (Instr.field t cx f) v none := by
  unfold aFieldV at hx
  split at hx
  · rename_i fs ht
    split at hx
    · rename_i fd hf
      split at hx
      · rename_i cs
        obtain ⟨vs, rfl, hl, hh⟩ := hr.agg_
        obtain ⟨cv, hrun, hv⟩ := aPart_ok (P := κ.P) ⟨hl, hh⟩ hx
        refine SemOk.same h ?_ hv
        simp [Instr.field, run_underlying ht, hf, asAgg, hrun]
      · cases hx
    · cases hx
  · cases hx

def aIndex (P : Program) (t : Nat) (x ix : V) : Option V :=
  match ix with
  | .int _ i => if 0 ≤ i then
    match P.underlying t with
    | some (.array len e) => match x, P.info? e with
      | .agg cs, some inf => if i < len then aPart P e cs (i.toNat * inf.size) else none
      | _, _ => none
    | some .string => match x with
      | .str s => match s[i.toNat]? with
        | some b => some (.int .u8 b.toNat)
        | none => none
      | _ => none
    | _ => none
    else none
  | _ => none
theorem aIndex_ok (h : RelI κ ι st a w) {t : Nat} {x ix v : V} {cx ci : Value} (hr : Rv st.o ι (Stable κ.D st.o ι w) w x cx) (hi : Rv st.o ι (Stable κ.D st.o ι w) w ix ci) (hx : aIndex κ.P t x ix = some v) :
    SemOk κ ι st.o w (Instr.index t cx ci) v none := by
  unfold aIndex at hx
  split at hx
  · rename_i k i
    have := hi.int_; subst this
    split at hx
    · rename_i h0
      split at hx
      · rename_i len e ht
        split at hx
        · rename_i cs inf hinf
          split at hx
          · rename_i h1
            obtain ⟨vs, rfl, hl, hh⟩ := hr.agg_
            obtain ⟨cv, hrun, hv⟩ := aPart_ok (P := κ.P) ⟨hl, hh⟩ hx
            refine SemOk.same h ?_ hv
            simp [Instr.index, asIntOf, run_underlying ht, h0, h1, run_size hinf, hrun]
          · cases hx
        · cases hx
      · rename_i ht
        split at hx
        · rename_i s
          obtain ⟨b, rfl, hb⟩ := hr.str_
          split at hx
          · rename_i c hc
            injection hx with hx; subst hx
            refine SemOk.same h (cv := .int .u8 c.toNat) ?_ (.pure (.int _ _))
            have hbi : b[i.toNat]? = some c := by
              rw [← hb] at hc
              have hlt : i.toNat < b.data.toList.length := (List.getElem?_eq_some_iff.1 hc).1
              have hlt' : i.toNat < b.size := hlt
              rw [getElem?_pos b i.toNat hlt']
              have h3 : b.data[i.toNat]'hlt' = c := by have := (List.getElem?_eq_some_iff.1 hc).2; simpa using this
              exact congrArg some h3
            simp [Instr.index, asIntOf, run_underlying ht, h0, hbi]
          · cases hx
        · cases hx
      · cases hx
    · cases hx
  · cases hx

def aMM (mx : Bool) : List V → Option V
  | .int k x :: r => aMM' mx k x r
  | _ => none
where
  aMM' (mx : Bool) (k : IntKind) : Int → List V → Option V
  | x, [] => some (.int k x)
  | x, .int _ y :: r => match mx with
    | true => aMM' mx k (max x y) r
    | false => aMM' mx k (min x y) r
  | _, _ => none

theorem aMM'_max {S : Addr → Prop} {T : Tab} {P : Program} {k : IntKind} : ∀ (r : List V) (x : Int) (us : List Value) (v : V), aMM.aMM' true k x r = some v → LR (Rv T ι S w) r us →
    ∃ n, v = .int k n ∧ (us.foldlM Builtin.max2 (.int k x)).run P w = .ok (.int k n) w
  | [], x, us, v, h, hr => by
    have : us = [] := List.eq_nil_of_length_eq_zero (by simpa using hr.1.symm)
    subst this
    simp [aMM.aMM'] at h; subst h
    exact ⟨x, rfl, by simp⟩
  | c :: r, x, us, v, h, hr => by
    obtain ⟨u, us', rfl, hu, hr'⟩ := hr.head
    cases c <;> simp only [aMM.aMM'] at h <;> first | cases h; done | skip
    rename_i k' y
    rw [hu.int_]
    obtain ⟨n, hn, hrun⟩ := aMM'_max (P := P) r (max x y) us' v h hr'
    refine ⟨n, hn, ?_⟩
    have : (if y > x then y else x) = max x y := by omega
    simp only [List.foldlM_cons, Builtin.max2, this, Sem.run_bind, Sem.run_pure, Result.andThen_ok, hrun]
theorem aMM'_min {S : Addr → Prop} {T : Tab} {P : Program} {k : IntKind} : ∀ (r : List V) (x : Int) (us : List Value) (v : V), aMM.aMM' false k x r = some v → LR (Rv T ι S w) r us →
    ∃ n, v = .int k n ∧ (us.foldlM Builtin.min2 (.int k x)).run P w = .ok (.int k n) w
  | [], x, us, v, h, hr => by
    have : us = [] := List.eq_nil_of_length_eq_zero (by simpa using hr.1.symm)
    subst this
    simp [aMM.aMM'] at h; subst h
    exact ⟨x, rfl, by simp⟩
  | c :: r, x, us, v, h, hr => by
    obtain ⟨u, us', rfl, hu, hr'⟩ := hr.head
    cases c <;> simp only [aMM.aMM'] at h <;> first | cases h; done | skip
    rename_i k' y
    rw [hu.int_]
    obtain ⟨n, hn, hrun⟩ := aMM'_min (P := P) r (min x y) us' v h hr'
    refine ⟨n, hn, ?_⟩
    have : (if y < x then y else x) = min x y := by omega
    simp only [List.foldlM_cons, Builtin.min2, this, Sem.run_bind, Sem.run_pure, Result.andThen_ok, hrun]

theorem aMM_ok (h : RelI κ ι st a w) {mx : Bool} {xs : List V} {us : Array Value} {ts : Array TypeId} {ty : TypeId} {v : V} (hr : LR (Rv st.o ι (Stable κ.D st.o ι w) w) xs us.toList) (hx : aMM mx xs = some v) :
    SemOk κ ι st.o w (if mx then Builtin.max_ ts ty us else Builtin.min_ ts ty us) v none := by
  unfold aMM at hx
  split at hx
  · rename_i k x r
    obtain ⟨u, us', eu, hu, hr'⟩ := hr.head
    have := hu.int_; subst this
    cases mx with
    | true =>
      obtain ⟨n, rfl, hrun⟩ := aMM'_max (P := κ.P) r x us' v hx hr'
      refine SemOk.same h (cv := .int k n) ?_ (.pure (.int _ _))
      simp only [if_true, Builtin.max_, eu, hrun]
    | false =>
      obtain ⟨n, rfl, hrun⟩ := aMM'_min (P := κ.P) r x us' v hx hr'
      refine SemOk.same h (cv := .int k n) ?_ (.pure (.int _ _))
      simp only [Bool.false_eq_true, if_false, Builtin.min_, eu, hrun]
  · cases hx

end
end Go.Abs
