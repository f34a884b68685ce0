/- What a call comes to, from its body; rows lent, handed over, given back. -/
import Derived.Test.YtiaoojocpcldmaaGreatExtB
namespace Go.Abs
open Go.RowKit
set_option linter.unusedVariables false
set_option linter.unusedSimpArgs false

def retV2 (n : Nat) (T : Tab) (nb : Nat) (ss : List Nat) (v : V) : Option (V × List Nat × List Nat) :=
  match v with
  | .acc s g => if s < 1000000 then (if (T.get s).gen = g ∧ ss.contains s = false then (match (T.get s).k with
      | .nrow _ _ _ _ => some (.acc (2000000 + ss.length) 0, [], ss ++ [s])
      | _ => none) else none) else
      (match view n T v with
      | some (x, l) => some (x, l, ss)
      | none => none)
  | v => retV n T nb ss v
def freshOf2 (n : Nat) (T : Tab) : List Nat → Option (List OK × List Nat)
  | [] => some ([], [])
  | s :: r => match (match (T.get s).k with
      | .box ty cs => (mapV (view n T) cs).map fun p => (OK.box ty p.1, p.2)
      | .row ty sz fz cs => (mapV (view n T) cs).map fun p => (OK.row ty sz fz p.1, p.2)
      | .nrow ty fz nl L => some (OK.nrow ty fz nl L, [])
      | _ => none) with
    | some (k, l) => match freshOf2 n T r with
      | some (ks, l') => some (k :: ks, l ++ l')
      | none => none
    | none => none
def OK.setFz2 (b : Bool) : OK → OK
  | .row ty sz fz cs => .row ty sz (fz || b) cs
  | .nrow ty fz nl L => .nrow ty (fz || b) nl L
  | k => k
/-- What becomes of one that was borrowed: kp: it is given back. -/
def keep1 (n : Nat) (T : Tab) (kp : Bool) (s : Nat) (k0 : OK) : Option (OK × List Nat) :=
  if kp = true then
    if (T.get s).gen = 0 then
      match (T.get s).k, k0 with
      | .box ty cs, .box _ _ => (mapV (view n T) cs).map fun p => (OK.box ty p.1, p.2)
      | .nrow ty false nl L, .nrow _ _ nl0 _ => if nl = nl0 then some (.nrow ty false nl L, []) else none
      | _, _ => none
    else none
  else match k0 with
    | .nrow _ _ _ _ => some (.dead, [])
    | _ => none
def keepL (n : Nat) (T : Tab) (kp : Nat → Bool) : Nat → List OK → Option (List OK × List Nat)
  | _, [] => some ([], [])
  | j, k0 :: r => match keep1 n T (kp j) (1000000 + j) k0 with
    | some (k, l) => match keepL n T kp (j + 1) r with
      | some (ks, l') => some (k :: ks, l ++ l')
      | none => none
    | none => none
/-- Rows that are given back are as long as they were. -/
def rlens (T : Tab) (kp : Nat → Bool) : Nat → List OK → List Bool
  | _, [] => []
  | j, k0 :: r => match k0, kp j, (T.get (1000000 + j)).k with
    | .nrow _ _ _ L0, true, .nrow _ _ _ L => decide (L.l.length = L0.l.length) :: rlens T kp (j + 1) r
    | _, _, _ => rlens T kp (j + 1) r
def retOf2 (P : Program) (fn : Func) (kp : Nat → Bool) (lb : List OK) (st : St) : Option (V × List OK × List OK) :=
  match resL P st fn.results.toList with
  | some vs => match viewL (retV2 depth st.o lb.length) [] vs with
    | some (xs, l, ss) => match keepL depth st.o kp 0 lb, freshOf2 depth st.o ss with
      | some (lb', l2), some (lf, l3) =>
        if lb.length < 1000000 ∧ (bSites lb.length).all (fun s => !kp (s - 1000000) || !(l ++ (l2 ++ l3)).contains s) = true then
          some (packV xs, lb', (ss.zip lf).map fun p => p.2.setFz2 ((l ++ (l2 ++ l3)).contains p.1))
        else none
      | _, _ => none
    | none => none
  | none => none

theorem retV2_ss {n : Nat} {T : Tab} {nb : Nat} {ss ss' : List Nat} {v x : V} {l : List Nat} (h : retV2 n T nb ss v = some (x, l, ss')) : (∃ r, ss' = ss ++ r) ∧ (ssOk ss → ssOk ss') := by
  unfold retV2 at h
  split at h
  · split at h
    · rename_i hlt
      split at h
      · rename_i hc
        obtain ⟨_, hn⟩ := hc
        split at h
        · simp at h
          obtain ⟨_, _, rfl⟩ := h
          refine ⟨⟨_, rfl⟩, fun ⟨h1, h2⟩ => ⟨?_, ?_⟩⟩
          · rw [List.nodup_append]
            refine ⟨h1, by simp, fun a ha b hb e => ?_⟩
            simp at hb; subst hb e
            simp at hn; exact hn ha
          · intro s hs
            rcases List.mem_append.1 hs with hs | hs
            · exact h2 s hs
            · simp at hs; subst hs; exact hlt
        · cases h
      · cases h
    · split at h
      · simp at h; exact ⟨⟨[], by simp [h.2.2]⟩, fun hs => h.2.2 ▸ hs⟩
      · cases h
  · exact retV_ss h
theorem freshOf2_get {n : Nat} {T : Tab} : ∀ (ss : List Nat) (ks : List OK) (l : List Nat), freshOf2 n T ss = some (ks, l) → ks.length = ss.length ∧
    ∀ (j s : Nat), ss[j]? = some s → ∃ k, ks[j]? = some k ∧ ((∃ ty cs xs l', (T.get s).k = .box ty cs ∧ mapV (view n T) cs = some (xs, l') ∧ k = .box ty xs ∧ ∀ t ∈ l', t ∈ l) ∨
      (∃ ty sz fz cs xs l', (T.get s).k = .row ty sz fz cs ∧ mapV (view n T) cs = some (xs, l') ∧ k = .row ty sz fz xs ∧ ∀ t ∈ l', t ∈ l) ∨
      (∃ ty fz nl L, (T.get s).k = .nrow ty fz nl L ∧ k = .nrow ty fz nl L))
  | [], ks, l, h => by simp [freshOf2] at h; obtain ⟨rfl, rfl⟩ := h; simp
  | s :: r, ks, l, h => by
    simp only [freshOf2] at h
    split at h
    · rename_i k l1 hk
      split at h
      · rename_i ks' l2 hb
        simp at h
        obtain ⟨rfl, rfl⟩ := h
        obtain ⟨h1, h2⟩ := freshOf2_get r ks' l2 hb
        refine ⟨by simp [h1], fun j s' hj => ?_⟩
        cases j with
        | zero =>
          simp at hj; subst hj
          refine ⟨k, rfl, ?_⟩
          split at hk
          · rename_i ty cs e
            cases hm : mapV (view n T) cs with
            | none => simp [hm] at hk
            | some p =>
              simp [hm] at hk
              obtain ⟨rfl, rfl⟩ := hk
              exact .inl ⟨ty, cs, p.1, p.2, e, hm, rfl, fun t ht => by simp [ht]⟩
          · rename_i ty sz fz cs e
            cases hm : mapV (view n T) cs with
            | none => simp [hm] at hk
            | some p =>
              simp [hm] at hk
              obtain ⟨rfl, rfl⟩ := hk
              exact .inr (.inl ⟨ty, sz, fz, cs, p.1, p.2, e, hm, rfl, fun t ht => by simp [ht]⟩)
          · rename_i ty fz nl L e
            simp at hk
            obtain ⟨rfl, rfl⟩ := hk
            exact .inr (.inr ⟨ty, fz, nl, L, e, rfl⟩)
          · cases hk
        | succ j =>
          obtain ⟨k', e1, e2⟩ := h2 j s' (by simpa using hj)
          refine ⟨k', by simpa using e1, ?_⟩
          rcases e2 with ⟨ty, cs, xs, l', a1, a2, a3, a4⟩ | ⟨ty, sz, fz, cs, xs, l', a1, a2, a3, a4⟩ | q
          · exact .inl ⟨ty, cs, xs, l', a1, a2, a3, fun t ht => by simp [a4 t ht]⟩
          · exact .inr (.inl ⟨ty, sz, fz, cs, xs, l', a1, a2, a3, fun t ht => by simp [a4 t ht]⟩)
          · exact .inr (.inr q)
      · cases h
    · cases h
theorem keepL_get {n : Nat} {T : Tab} {kp : Nat → Bool} : ∀ (lb : List OK) (j0 : Nat) (ks : List OK) (l : List Nat), keepL n T kp j0 lb = some (ks, l) → ks.length = lb.length ∧
    ∀ (j : Nat) (k0 : OK), lb[j]? = some k0 → ∃ k l', ks[j]? = some k ∧ keep1 n T (kp (j0 + j)) (1000000 + (j0 + j)) k0 = some (k, l') ∧ ∀ t ∈ l', t ∈ l
  | [], j0, ks, l, h => by simp [keepL] at h; obtain ⟨rfl, rfl⟩ := h; simp
  | k1 :: r, j0, ks, l, h => by
    simp only [keepL] at h
    split at h
    · rename_i k l1 hk
      split at h
      · rename_i ks' l2 hb
        simp at h
        obtain ⟨rfl, rfl⟩ := h
        obtain ⟨h1, h2⟩ := keepL_get r (j0 + 1) ks' l2 hb
        refine ⟨by simp [h1], fun j k0 hj => ?_⟩
        cases j with
        | zero => simp at hj; subst hj; exact ⟨k, l1, rfl, hk, fun t ht => by simp [ht]⟩
        | succ j =>
          obtain ⟨k', l', e1, e2, e3⟩ := h2 j k0 (by simpa using hj)
          rw [show j0 + 1 + j = j0 + (j + 1) from by omega] at e2
          exact ⟨k', l', by simpa using e1, e2, fun t ht => by simp [e3 t ht]⟩
      · cases h
    · cases h
theorem rlens_ok {T : Tab} {kp : Nat → Bool} : ∀ (lb : List OK) (j0 : Nat), (rlens T kp j0 lb).all id = true → ∀ (j ty ty' : Nat) (fz fz' nl nl' : Bool) (L0 L : TL), lb[j]? = some (.nrow ty fz nl L0) → kp (j0 + j) = true → (T.get (1000000 + (j0 + j))).k = .nrow ty' fz' nl' L → L.l.length = L0.l.length
  | [], j0, _, j, _, _, _, _, _, _, _, _, hj, _, _ => by simp at hj
  | k0 :: r, j0, h, j, ty, ty', fz, fz', nl, nl', L0, L, hj, hkp, hT => by
    cases j with
    | zero =>
      simp at hj; subst hj
      simp only [Nat.add_zero] at hkp hT
      simp only [rlens, hkp, hT, List.all_cons, Bool.and_eq_true, id, decide_eq_true_eq] at h
      exact h.1
    | succ j =>
      refine rlens_ok r (j0 + 1) ?_ j ty ty' fz fz' nl nl' L0 L (by simpa using hj) (by rw [show j0 + 1 + j = j0 + (j + 1) from by omega]; exact hkp) (by rw [show j0 + 1 + j = j0 + (j + 1) from by omega]; exact hT)
      simp only [rlens] at h
      split at h
      · simp only [List.all_cons, Bool.and_eq_true] at h; exact h.2
      · exact h

/-- As RR, or a row. -/
def RR2 (T : Tab) (ι : Nat → Nat) (S : Addr → Prop) (w : World) (nb : Nat) (ss : List Nat) (x : V) (cv : Value) : Prop :=
  RR T ι S w nb ss x cv ∨ ∃ j s g, ss[j]? = some s ∧ (T.get s).gen = g ∧ (∃ ty fz nl L, (T.get s).k = .nrow ty fz nl L) ∧ x = .acc (2000000 + j) 0 ∧ Rv T ι S w (.acc s g) cv
theorem RR2.grow {T : Tab} {ι : Nat → Nat} {S : Addr → Prop} {w : World} {nb : Nat} {ss r : List Nat} {x : V} {cv : Value} (h : RR2 T ι S w nb ss x cv) : RR2 T ι S w nb (ss ++ r) x cv := by
  rcases h with h | ⟨j, s, g, h1, h2⟩
  · exact .inl h.grow
  · exact .inr ⟨j, s, g, by rw [List.getElem?_append_left (List.getElem?_eq_some_iff.1 h1).1]; exact h1, h2⟩

section
variable {κ : Cx} {ι : Nat → Nat} {st : St} {a : Act} {w : World}
theorem retV2_ok (h : RelI κ ι st a w) {T : Tab} (hall : ∀ s, (st.o.get s).gen = (T.get s).gen ∧ ((st.o.get s).k = (T.get s).k ∨ (st.o.get s).k = (T.get s).k.freeze)) {n nb : Nat} {ss ss' : List Nat} {v x : V} {l : List Nat} {cv : Value}
    (hx : retV2 n T nb ss v = some (x, l, ss')) (hl : ∀ s ∈ l, (st.o.get s).k = (T.get s).k.freeze ∧ (st.o.get s).gen = (T.get s).gen) (hr : Rv st.o ι (Stable κ.D st.o ι w) w v cv) :
    RR2 st.o ι (Stable κ.D st.o ι w) w nb ss' x cv := by
  unfold retV2 at hx
  split at hx
  · rename_i s g
    split at hx
    · split at hx
      · rename_i hc
        split at hx
        · rename_i ty fz nl L hk
          simp at hx
          obtain ⟨rfl, _, rfl⟩ := hx
          refine .inr ⟨ss.length, s, g, by simp, by rw [(hall s).1]; exact hc.1, ?_, rfl, hr⟩
          rcases (hall s).2 with h1 | h1
          · exact ⟨ty, fz, nl, L, by rw [h1, hk]⟩
          · exact ⟨ty, true, nl, L, by rw [h1, hk]; rfl⟩
        · cases hx
      · cases hx
    · split at hx
      · rename_i x' l' hv
        simp at hx
        obtain ⟨rfl, rfl, rfl⟩ := hx
        exact .inl (.inl (view_ok h n _ _ _ cv hv hl hr))
      · cases hx
  · exact .inl (retV_ok h hall hx hl hr)
end
theorem viewL_ss2 {n : Nat} {T : Tab} {nb : Nat} : ∀ (vs : List V) (ss ss' : List Nat) (xs : List V) (l : List Nat), viewL (retV2 n T nb) ss vs = some (xs, l, ss') → ssOk ss → ssOk ss'
  | [], ss, ss', xs, l, h, hs => by simp [viewL] at h; obtain ⟨_, _, rfl⟩ := h; exact hs
  | v :: r, ss, ss', xs, l, h, hs => by
    simp only [viewL] at h
    split at h
    · rename_i x l1 bs1 hv
      split at h
      · rename_i xs2 l2 bs2 hr
        simp at h
        obtain ⟨_, _, rfl⟩ := h
        exact viewL_ss2 r bs1 bs2 xs2 l2 hr ((retV2_ss hv).2 hs)
      · cases h
    · cases h

def SpecG2 (P : Program) (f : FuncId) (args : List V) (lb : List OK) (G : V → List OK → List OK → Prop) : Prop :=
  ∀ (w : World) (cargs : Array Value) (β : Nat → Nat) (S : Addr → Prop), TR S (tabU lb []) β w → LR (Rv (tabU lb []) β (Stable S (tabU lb []) β w) w) args cargs.toList →
    Calls P f cargs w fun e w' => ∃ res lb' lf, G res lb' lf ∧ ∃ v β', e = .returned v ∧ Kept (fun b => ∃ t, (tabU lb []).live t ∧ β t = b) w w' ∧
      TR (Dn S w.heap.size β lb lb') (tabU lb' lf) β' w' ∧
      Rv (tabU lb' lf) β' (Stable (Dn S w.heap.size β lb lb') (tabU lb' lf) β' w') w' res v ∧
      lb.length = lb'.length ∧ (∀ j, j < lb.length → (tabU lb' lf).live (1000000 + j) → β' (1000000 + j) = β (1000000 + j)) ∧ ∀ j, j < lf.length → (tabU lb' lf).live (2000000 + j) → Fn w.heap.size β lb lb' (β' (2000000 + j))

set_option maxHeartbeats 1000000 in
/-- WHAT A CALL COMES TO, FROM ITS BODY. -/
theorem spec2_ofG {P : Program} {f : FuncId} {fn : Func} {c : Code} {args : List V} {lb : List OK} {kp : Nat → Bool} {G : V → List OK → List OK → Prop} (hf : P.funcs[f]? = some fn) (hb : fn.body = some c) (hn : args.length ≤ fn.ntmps)
    (h : ∀ κ : Cx, κ.P = P → κ.gv = [] → HT κ c (fun e s => (e = .normal ∨ e = .ret) ∧ (rlens s.o kp 0 lb).all id = true ∧ ∃ res lb' lf, retOf2 P fn kp lb s = some (res, lb', lf) ∧ G res lb' lf) ⟨fn.ntmps, slots 0 args, tabU lb [], []⟩) : SpecG2 P f args lb G := by
  intro w cargs β S htr hargs
  let κ : Cx := ⟨P, w, fun b => ∃ t, (tabU lb []).live t ∧ β t = b, S, fun t => if 1000000 ≤ t ∧ t < 1000000 + lb.length then some (β t) else none, fun t b h => by (by_cases hc : 1000000 ≤ t ∧ t < 1000000 + lb.length); exact hc.1; (rw [if_neg hc] at h; cases h), []⟩
  refine calls_of_wp hf hb ?_
  have hlen : args.length = cargs.size := by rw [hargs.1]; simp
  have hSD : ∀ {T ι w'} p, Stable S T ι w' p → Stable κ.D T ι w' p := fun p hp => ⟨.inl hp.1, hp.2⟩
  have h0 : Rel κ ⟨fn.ntmps, slots 0 args, tabU lb [], []⟩ { tmps := cargs ++ Array.replicate (fn.ntmps - cargs.size) undef, defers := [] } w := by
    refine ⟨β, rfl, by simp; omega, fun t => ?_, ⟨fun t => (htr.ob t).monoS hSD, htr.inj, htr.lt⟩, fun t ht => .inr ⟨t, ht, rfl⟩, Kept.refl _ _, fun t b hp _ _ => ?_, .nil⟩
    · simp only [St.get, aget_slots, Nat.zero_le, if_true, Nat.sub_zero]
      by_cases ht : t < args.length
      · obtain ⟨u, hu, hru⟩ := hargs.get (i := t) (d := args[t]) (List.getElem?_eq_getElem ht)
        have e1 : args.getD t .undef = args[t] := by simp [ht]
        have e2 : (cargs ++ Array.replicate (fn.ntmps - cargs.size) undef).getD t undef = u := by
          have ht' : t < cargs.size := by omega
          have : cargs[t]? = some u := by simpa using hu
          rw [Array.getD_eq_getD_getElem?, Array.getElem?_append_left ht', this]; rfl
        rw [e1, e2]
        exact hru.monoS hSD
      · have e1 : args.getD t .undef = .undef := by simp [List.getElem?_eq_none (Nat.le_of_not_lt ht)]
        rw [e1]; exact .undef _
    · simp only [κ] at hp
      split at hp
      · injection hp
      · cases hp
  refine Code.wp_mono (fun e a' w' => ?_) (h κ rfl rfl _ _ h0)
  rintro ⟨st', ⟨he, hlens, res, lb', lf, hret, hG⟩, ι, hr⟩
  unfold retOf2 at hret
  split at hret
  case h_2 => cases hret
  rename_i vs hvs
  split at hret
  case h_2 => cases hret
  rename_i xs l ss hview
  split at hret
  case h_2 => cases hret
  rename_i lb1 l2 lf1 l3 hbx hfr
  split at hret
  case isFalse => cases hret
  rename_i hcond
  obtain ⟨hnb, hnL⟩ := hcond
  simp only [Option.some.injEq, Prod.mk.injEq] at hret
  obtain ⟨rfl, rfl, rfl⟩ := hret
  generalize hL : l ++ (l2 ++ l3) = L at *
  obtain ⟨us, hus, hres⟩ := results_ok hr fn hvs
  have hto := To.freezes hr L
  have h1 := To.rel hr hto
  have hT1 : ∀ s, (st'.o.freezes L).get s = if s ∈ L then ⟨(st'.o.get s).gen, (st'.o.get s).k.freeze⟩ else st'.o.get s := Tab.get_freezes L st'.o
  generalize st'.o.freezes L = T1 at *
  have hus1 : LR (Rv T1 ι (Stable κ.D T1 ι w') w') vs us := hus.mono fun d u hd => hd.mono hto.goes
  have hfz : ∀ s ∈ L, (T1.get s).k = (st'.o.get s).k.freeze ∧ (T1.get s).gen = (st'.o.get s).gen := fun s hs => by rw [hT1, if_pos hs]; exact ⟨rfl, rfl⟩
  have hall : ∀ s, (T1.get s).gen = (st'.o.get s).gen ∧ ((T1.get s).k = (st'.o.get s).k ∨ (T1.get s).k = (st'.o.get s).k.freeze) := fun s => by
    rw [hT1]; split
    · exact ⟨rfl, .inr rfl⟩
    · exact ⟨rfl, .inl rfl⟩
  have hss : ssOk ss := viewL_ss2 vs [] ss xs l hview ⟨by simp, by simp⟩
  obtain ⟨hbl, hbg⟩ := keepL_get _ _ _ _ hbx
  obtain ⟨hfl, hfg⟩ := freshOf2_get _ _ _ hfr
  simp only [Nat.zero_add] at hbg
  have hview1 : ∀ (cs xs' : List V) (l' : List Nat) (vs' : List Value), mapV (view depth st'.o) cs = some (xs', l') → (∀ s ∈ l', s ∈ L) → LR (Rv T1 ι (Stable κ.D T1 ι w') w') cs vs' → LR (Rp (Stable κ.D T1 ι w') w') xs' vs' :=
    fun cs xs' l' vs' hm hsub hv' => mapV_ok _ _ l' _ hm hv' fun v x l'' u _ hv hs hu => view_ok h1 depth v x l'' u hv (fun s hs' => hfz s (hsub s (hs s hs'))) hu
  -- of each that was borrowed
  have bor : ∀ (j : Nat) (k0 : OK), lb[j]? = some k0 → ∃ k, lb1[j]? = some k ∧ (k = .dead ∨
      ((∀ o, ¬ (T1.get (1000000 + j)).k.fzAt o) ∧ (k.live ↔ T1.live (1000000 + j)) ∧ (k0.live → k.live) ∧ (T1.live (1000000 + j) → ι (1000000 + j) = β (1000000 + j)) ∧
        ∀ (b : Nat) (T' : Tab) (ι' : Nat → Nat) (S' : Addr → Prop), (∀ p, Stable κ.D T1 ι w' p → S' p) → ObRel T1 ι (Stable κ.D T1 ι w') w' b (T1.get (1000000 + j)).k → ObRel T' ι' S' w' b k)) := by
    intro j k0 hj
    obtain ⟨k, l', e1, e2, e3⟩ := hbg j k0 hj
    refine ⟨k, e1, ?_⟩
    have hjl : j < lb.length := (List.getElem?_eq_some_iff.1 hj).1
    unfold keep1 at e2
    split at e2
    case isFalse =>
      split at e2
      · simp at e2; exact .inl e2.1.symm
      · cases e2
    rename_i hkp
    right
    have hnot : 1000000 + j ∉ L := by
      have := List.all_eq_true.1 hnL (1000000 + j) (List.mem_of_getElem? (bSites_get hjl))
      simp only [show 1000000 + j - 1000000 = j from by omega, hkp, Bool.not_true, Bool.false_or, Bool.not_eq_true'] at this
      simpa using this
    have hTs : T1.get (1000000 + j) = st'.o.get (1000000 + j) := by rw [hT1, if_neg hnot]
    have hpin : (st'.o.get (1000000 + j)).gen = 0 → T1.live (1000000 + j) → ι (1000000 + j) = β (1000000 + j) := fun hg hl => by
      refine h1.pin (1000000 + j) _ ?_ ?_ hl
      · simp only [κ]; rw [if_pos ⟨by omega, by omega⟩]
      · show (T1.get (1000000 + j)).gen = 0
        rw [hTs]; exact hg
    split at e2
    case isFalse => cases e2
    rename_i hg
    rw [hTs]
    split at e2
    · rename_i ty cs _ _ hk
      cases hm : mapV (view depth st'.o) cs with
      | none => simp [hm] at e2
      | some p =>
        obtain ⟨xs', l''⟩ := p
        simp [hm] at e2
        obtain ⟨rfl, rfl⟩ := e2
        refine ⟨fun o hf => by rw [hk] at hf; exact hf, by simp [Tab.live, hTs, hk, OK.live], fun _ => trivial, hpin hg, fun b T' ι' S' hS hob => ?_⟩
        rw [hk] at hob
        obtain ⟨arr, fz, b1, b2, b3, b4⟩ := hob
        have hm2 := hview1 cs xs' l'' arr.toList hm (fun s hs => by rw [← hL]; simp [e3 s hs]) ⟨by simp [b3], b4⟩
        exact ⟨arr, fz, b1, b2, by rw [b3]; exact (mapV_length _ _ _ hm).symm, fun i d u hd hu => .pure ((hm2.2 i d u hd hu).mono fun p hp => ⟨hS p hp, rfl⟩)⟩
    · rename_i ty nl L2 ty0 fz0 nl0 L0 hk
      split at e2
      · rename_i hnl
        subst hnl
        simp at e2
        obtain ⟨rfl, rfl⟩ := e2
        have hlenL := rlens_ok lb 0 hlens j _ _ _ _ _ _ L0 L2 hj (by rw [Nat.zero_add]; exact hkp) (by rw [Nat.zero_add]; exact hk)
        refine ⟨fun o hf => by rw [hk] at hf; exact hf, by simp [Tab.live, hTs, hk], fun hl => ?_, hpin hg, fun b T' ι' S' hS hob => ?_⟩
        · simp only [OK.live] at hl ⊢
          rintro ⟨a1, a2⟩
          exact hl ⟨a1, List.eq_nil_of_length_eq_zero (by rw [← hlenL, a2]; rfl)⟩
        · rw [hk] at hob
          rcases hob with hb' | ⟨arr, fz, cap, b1, b2, b3, b4, b5, b6⟩
          · exact .inl hb'
          · exact .inr ⟨arr, fz, cap, b1, b2, b3, b4, b5, fun i dd u hd hu => .pure (((b6 i dd u hd hu).pure_ (TL.pure_cells hd)).mono fun p hp => ⟨hS p hp, rfl⟩)⟩
      · cases e2
    · cases e2
  -- of each that is new
  have new : ∀ (j s : Nat), ss[j]? = some s → ∃ k, ((ss.zip lf1).map fun p => p.2.setFz2 (L.contains p.1))[j]? = some k ∧ (k.live ↔ T1.live s) ∧ (∀ o, (T1.get s).k.fzAt o → k.fzAt o) ∧
      (∀ ty sz fz cs, (T1.get s).k = .row ty sz fz cs → ∃ cs', k = .row ty sz fz cs') ∧ (∀ ty fz nl L, (T1.get s).k = .nrow ty fz nl L → k = .nrow ty fz nl L) ∧ (∀ ty cs, (T1.get s).k = .box ty cs → k.live) ∧
      ∀ (b : Nat) (T' : Tab) (ι' : Nat → Nat) (S' : Addr → Prop), (∀ p, Stable κ.D T1 ι w' p → S' p) → ObRel T1 ι (Stable κ.D T1 ι w') w' b (T1.get s).k → ObRel T' ι' S' w' b k := by
    intro j s hj
    obtain ⟨k, e1, e2⟩ := hfg j s hj
    have hz : (ss.zip lf1)[j]? = some (s, k) := by rw [List.getElem?_zip_eq_some]; exact ⟨hj, e1⟩
    refine ⟨k.setFz2 (L.contains s), by simp [hz], ?_⟩
    rcases e2 with ⟨ty, cs, xs', l', a1, a2, a3, a4⟩ | ⟨ty, sz, fz, cs, xs', l', a1, a2, a3, a4⟩ | ⟨ty, fz, nl, L0, a1, a2⟩
    · have hk1 : (T1.get s).k = .box ty cs := by
        rcases (hall s).2 with h2 | h2
        · rw [h2, a1]
        · rw [h2, a1]; rfl
      subst a3
      rw [hk1]
      refine ⟨by simp [Tab.live, hk1, OK.live, OK.setFz2], fun o hf => hf.elim, fun _ _ _ _ e => (by cases e), fun _ _ _ _ e => (by cases e), fun _ _ _ => trivial, fun b T' ι' S' hS hob => ?_⟩
      obtain ⟨arr, fz, b1, b2, b3, b4⟩ := hob
      have hm2 := hview1 cs xs' l' arr.toList a2 (fun s hs => by rw [← hL]; simp [a4 s hs]) ⟨by simp [b3], b4⟩
      exact ⟨arr, fz, b1, b2, by rw [b3]; exact (mapV_length _ _ _ a2).symm, fun i d u hd hu => .pure ((hm2.2 i d u hd hu).mono fun p hp => ⟨hS p hp, rfl⟩)⟩
    · have hk1 : (T1.get s).k = .row ty sz (fz || L.contains s) cs := by
        rw [hT1]
        by_cases hm : s ∈ L
        · rw [if_pos hm, a1]; simp [OK.freeze, hm]
        · rw [if_neg hm, a1]; simp [hm]
      subst a3
      rw [hk1]
      have hxl := mapV_length _ _ _ a2
      refine ⟨by simp [Tab.live, hk1, OK.live, OK.setFz2], fun o hf => ?_, fun ty' sz' fz' cs' e => ?_, fun _ _ _ _ e => (by cases e), fun _ _ e => (by cases e), fun b T' ι' S' hS hob => ?_⟩
      · simp only [OK.setFz2]
        generalize (fz || L.contains s) = q at *
        cases q with
        | false => exact hf.elim
        | true =>
          show o < xs'.length
          have : o < cs.length := hf
          omega
      · injection e with q1 q2 q3 q4
        subst q1 q2 q3 q4
        exact ⟨xs', rfl⟩
      · obtain ⟨arr, fz1, cap, b1, b2, b3, b4, b5, b6⟩ := hob
        have hlr : LR (Rv T1 ι (Stable κ.D T1 ι w') w') cs (arr.toList.take cs.length) := ⟨by simp; omega, fun i d u hd hu => by
          rw [List.getElem?_take] at hu
          split at hu
          · exact b6 i d u hd hu
          · cases hu⟩
        have hm2 := hview1 cs xs' l' _ a2 (fun s hs => by rw [← hL]; simp [a4 s hs]) hlr
        refine ⟨arr, fz1, cap, b1, b2, b3, b4, by rw [hxl]; exact b5, fun i d u hd hu => .pure ((hm2.2 i d u hd ?_).mono fun p hp => ⟨hS p hp, rfl⟩)⟩
        have : i < cs.length := by rw [← hxl]; exact (List.getElem?_eq_some_iff.1 hd).1
        rw [List.getElem?_take, if_pos this]; exact hu
    · have hk1 : (T1.get s).k = .nrow ty (fz || L.contains s) nl L0 := by
        rw [hT1]
        by_cases hm : s ∈ L
        · rw [if_pos hm, a1]; simp [OK.freeze, hm]
        · rw [if_neg hm, a1]; simp [hm]
      subst a2
      rw [hk1]
      refine ⟨by simp [Tab.live, hk1, OK.live, OK.setFz2], fun o hf => hf, fun _ _ _ _ e => (by cases e), fun ty' fz' nl' L' e => ?_, fun _ _ e => (by cases e), fun b T' ι' S' hS hob => ?_⟩
      · injection e with q1 q2 q3 q4
        subst q1 q2 q3 q4
        rfl
      · rcases hob with hb' | ⟨arr, fz, cap, b1, b2, b3, b4, b5, b6⟩
        · exact .inl hb'
        · exact .inr ⟨arr, fz, cap, b1, b2, b3, b4, b5, fun i dd u hd hu => .pure (((b6 i dd u hd hu).pure_ (TL.pure_cells hd)).mono fun p hp => ⟨hS p hp, rfl⟩)⟩
  generalize hlf : ((ss.zip lf1).map fun p => p.2.setFz2 (L.contains p.1)) = lf at *
  have hlfl : lf.length = ss.length := by rw [← hlf]; simp [hfl]
  let σ : Nat → Nat := fun t => if 2000000 ≤ t then ss.getD (t - 2000000) 0 else t
  let β' : Nat → Nat := fun t => ι (σ t)
  have σ_new : ∀ (j s : Nat), ss[j]? = some s → σ (2000000 + j) = s := fun j s hj => by
    simp only [σ, if_pos (Nat.le_add_right _ _)]
    rw [show 2000000 + j - 2000000 = j from by omega]
    simp [hj]
  have σ_bor : ∀ j, j < lb.length → σ (1000000 + j) = 1000000 + j := fun j hj => by
    simp only [σ]; rw [if_neg (by omega)]
  have getB : ∀ (j : Nat) (k : OK), lb1[j]? = some k → (tabU lb1 lf).get (1000000 + j) = ⟨0, k⟩ := by
    intro j k hk
    rw [get_tabU]
    simp only [show 1000000 ≤ 1000000 + j from by omega, show 1000000 + j - 1000000 = j from by omega, if_true, hk]
  have getF : ∀ (j : Nat) (k : OK), lf[j]? = some k → (tabU lb1 lf).get (2000000 + j) = ⟨0, k⟩ := by
    intro j k hk
    rw [get_tabU]
    have e1 : lb1[2000000 + j - 1000000]? = none := List.getElem?_eq_none (by omega)
    have e2 : 2000000 + j - 2000000 = j := by omega
    simp only [show 1000000 ≤ 2000000 + j from by omega, show 2000000 ≤ 2000000 + j from by omega, if_true, e1, e2, hk]
  have liv0 : ∀ t, (tabU lb []).live t → ∃ j k0, lb[j]? = some k0 ∧ t = 1000000 + j ∧ k0.live := by
    intro t ht
    simp only [Tab.live, get_tabU] at ht
    split at ht
    · rename_i k hk
      split at hk
      · exact ⟨t - 1000000, k, hk, by omega, ht⟩
      · cases hk
    · simp at ht; exact ht.elim
  have liv : ∀ t, (tabU lb1 lf).live t → (∃ j k0 k, lb[j]? = some k0 ∧ t = 1000000 + j ∧ lb1[j]? = some k ∧ k.live) ∨ ∃ j s k, ss[j]? = some s ∧ t = 2000000 + j ∧ lf[j]? = some k ∧ k.live := by
    intro t ht
    simp only [Tab.live, get_tabU] at ht
    split at ht
    · rename_i k hk
      split at hk
      · have hlt := (List.getElem?_eq_some_iff.1 hk).1
        exact .inl ⟨t - 1000000, lb[t - 1000000]'(by omega), k, List.getElem?_eq_getElem (by omega), by omega, hk, ht⟩
      · cases hk
    · split at ht
      · rename_i k hk
        split at hk
        · have hlt := (List.getElem?_eq_some_iff.1 hk).1
          exact .inr ⟨t - 2000000, ss[t - 2000000]'(by omega), k, List.getElem?_eq_getElem (by omega), by omega, hk, ht⟩
        · cases hk
      · exact ht.elim
  have hσlive : ∀ t, (tabU lb1 lf).live t → T1.live (σ t) := by
    intro t ht
    rcases liv t ht with ⟨j, k0, k, hj0, rfl, hj, hkl⟩ | ⟨j, s, k, hj, rfl, hk, hkl⟩
    · obtain ⟨k', e1, e2⟩ := bor j k0 hj0
      rw [hj] at e1; injection e1 with e1; subst e1
      rw [σ_bor j (List.getElem?_eq_some_iff.1 hj0).1]
      rcases e2 with e2 | ⟨_, e2, _⟩
      · rw [e2] at hkl; exact hkl.elim
      · exact e2.1 hkl
    · obtain ⟨k', e1, e2, _⟩ := new j s hj
      rw [hk] at e1; injection e1 with e1; subst e1
      rw [σ_new j s hj]
      exact e2.1 hkl
  have hσinj : ∀ t u, (tabU lb1 lf).live t → (tabU lb1 lf).live u → σ t = σ u → t = u := by
    intro t u ht hu e
    rcases liv t ht with ⟨j, k0, _, hj0, rfl, _⟩ | ⟨j, s, _, hj, rfl, _⟩ <;> rcases liv u hu with ⟨i, k0', _, hi0, rfl, _⟩ | ⟨i, s', _, hi, rfl, _⟩
    · rwa [σ_bor j (List.getElem?_eq_some_iff.1 hj0).1, σ_bor i (List.getElem?_eq_some_iff.1 hi0).1] at e
    · rw [σ_bor j (List.getElem?_eq_some_iff.1 hj0).1, σ_new i s' hi] at e
      have := hss.2 s' (List.mem_of_getElem? hi); omega
    · rw [σ_new j s hj, σ_bor i (List.getElem?_eq_some_iff.1 hi0).1] at e
      have := hss.2 s (List.mem_of_getElem? hj); omega
    · rw [σ_new j s hj, σ_new i s' hi] at e
      subst e
      have hj' := List.getElem?_eq_some_iff.1 hj
      have hi' := List.getElem?_eq_some_iff.1 hi
      have : j = i := (List.getElem_inj hss.1).1 (hj'.2.trans hi'.2.symm)
      rw [this]
  have hS : ∀ p, Stable κ.D T1 ι w' p → Stable (Dn S w.heap.size β lb lb1) (tabU lb1 lf) β' w' p := by
    intro p hp
    refine ⟨?_, hp.2.1, fun t ht e => ?_⟩
    · rcases hp.1 with h2 | h2 | ⟨t, ht, e⟩
      · exact .inl h2
      · exact .inr (.inl h2)
      · obtain ⟨j, k0, hj0, rfl, hk0⟩ := liv0 t ht
        obtain ⟨k, e1, e2⟩ := bor j k0 hj0
        rcases e2 with e2 | ⟨q1, q2, q3, q4, _⟩
        · exact .inr (.inr ⟨j, by rw [e1, e2], ht, e⟩)
        · exfalso
          have hl := q2.1 (q3 hk0)
          exact q1 _ (hp.2.2 _ hl (by rw [q4 hl]; exact e))
    · have h2 := hp.2.2 (σ t) (hσlive t ht) e
      rcases liv t ht with ⟨j, k0, k, hj0, rfl, hj, hkl⟩ | ⟨j, s, k, hj, rfl, hk, hkl⟩
      · obtain ⟨k', e1, e2⟩ := bor j k0 hj0
        rw [hj] at e1; injection e1 with e1; subst e1
        rw [σ_bor j (List.getElem?_eq_some_iff.1 hj0).1] at h2
        rcases e2 with e2 | ⟨q1, _⟩
        · rw [e2] at hkl; exact hkl.elim
        · exact (q1 _ h2).elim
      · obtain ⟨k', e1, e2, e3, _⟩ := new j s hj
        rw [hk] at e1; injection e1 with e1; subst e1
        rw [σ_new j s hj] at h2
        rw [getF j k hk]
        exact e3 _ h2
  have hpure : ∀ x u, Rp (Stable κ.D T1 ι w') w' x u → Rv (tabU lb1 lf) β' (Stable (Dn S w.heap.size β lb lb1) (tabU lb1 lf) β' w') w' x u :=
    fun x u hx => .pure (hx.mono fun p hp => ⟨hS p hp, rfl⟩)
  have htr' : TR (Dn S w.heap.size β lb lb1) (tabU lb1 lf) β' w' := by
    refine ⟨fun t => ?_, fun t u ht hu e => hσinj t u ht hu (h1.tr.inj _ _ (hσlive t ht) (hσlive u hu) e), fun t ht => h1.tr.lt _ (hσlive t ht)⟩
    by_cases hl : (tabU lb1 lf).live t
    · have hob := h1.tr.ob (σ t)
      show ObRel _ _ _ _ (ι (σ t)) _
      rcases liv t hl with ⟨j, k0, k, hj0, rfl, hj, hkl⟩ | ⟨j, s, k, hj, rfl, hk, hkl⟩
      · obtain ⟨k', e1, e2⟩ := bor j k0 hj0
        rw [hj] at e1; injection e1 with e1; subst e1
        rw [σ_bor j (List.getElem?_eq_some_iff.1 hj0).1] at hob ⊢
        rcases e2 with e2 | ⟨_, _, _, _, q⟩
        · rw [e2] at hkl; exact hkl.elim
        · rw [getB j k hj]; exact q _ _ _ _ hS hob
      · obtain ⟨k', e1, _, _, _, _, _, q⟩ := new j s hj
        rw [hk] at e1; injection e1 with e1; subst e1
        rw [σ_new j s hj] at hob ⊢
        rw [getF j k hk]
        exact q _ _ _ _ hS hob
    · simp only [Tab.live] at hl
      cases hk : ((tabU lb1 lf).get t).k with
      | dead => trivial
      | nrow ty fz nl L =>
        left
        by_cases hn : nl = true ∧ L.l = []
        · exact hn
        · exact absurd (by simp only [hk, OK.live]; exact hn) hl
      | _ => rw [hk] at hl; exact absurd trivial hl
  have hrr := viewL_ok (R := Rv T1 ι (Stable κ.D T1 ι w') w') (R' := fun ss x u => RR2 T1 ι (Stable κ.D T1 ι w') w' lb.length ss x u) (fun bs v x l bs' hx => (retV2_ss hx).1) (fun _ _ _ _ hx => hx.grow) vs [] ss xs l us hview hus1
    fun bs v x l' bs1 u hm hx hs hu => retV2_ok h1 hall hx (fun s hs' => hfz s (by rw [← hL]; simp [hs s hs'])) hu
  have hrv : LR (Rv (tabU lb1 lf) β' (Stable (Dn S w.heap.size β lb lb1) (tabU lb1 lf) β' w') w') xs us := by
    refine hrr.mono fun x u hxu => ?_
    rcases hxu with (hp | ⟨j, s, g, k, hj, hg, ⟨ty, sz, fz, cs, hk⟩, rfl, hr2⟩ | ⟨j, s, off, hj, ⟨ty, cs, hk⟩, rfl, rfl⟩ | ⟨j, off, hj, hg, ⟨ty, cs, hk⟩, rfl, rfl⟩) | ⟨j, s, g, hj, hg, ⟨ty, fz, nl, L0, hk⟩, rfl, hr2⟩
    · exact hpure x u hp
    · have hT : T1.get s = ⟨g, .row ty sz fz cs⟩ := by cases hq : T1.get s; rw [hq] at hg hk; simp at hg hk; subst hg hk; rfl
      have how := hr2.own_ hT
      obtain ⟨ad, c', cap, arr, ty1, fz1, e, rest⟩ := how
      refine .own ⟨ad, c', e⟩ (Nat.zero_le _) fun ty' sz' fz' cs' hq => ?_
      obtain ⟨k0, e1, e2, e3, e4, _⟩ := new j s hj
      rw [getF j k0 e1] at hq
      simp at hq
      obtain ⟨cs2, e5⟩ := e4 _ _ _ _ hk
      rw [e5] at hq; injection hq with q1 q2
      subst q2
      show Own w' (ι (σ (2000000 + j))) _ _ _ _
      rw [σ_new j s hj]
      exact ⟨ad, c', cap, arr, ty1, fz1, e, rest⟩
    · refine .ptr ⟨_, rfl⟩ (Nat.zero_le _) fun _ _ => ?_
      show _ = Value.pointer (some ⟨ι (σ (2000000 + j)), off, none⟩)
      rw [σ_new j s hj]
    · refine .ptr ⟨_, rfl⟩ (Nat.zero_le _) fun _ _ => ?_
      show _ = Value.pointer (some ⟨ι (σ (1000000 + j)), off, none⟩)
      rw [σ_bor j hj]
    · have hT : T1.get s = ⟨g, .nrow ty fz nl L0⟩ := by cases hq : T1.get s; rw [hq] at hg hk; simp at hg hk; subst hg hk; rfl
      refine .acc hr2.acc_form (Nat.zero_le _) fun ty' fz' nl' L' hq => ?_
      obtain ⟨k0, e1, e2, e3, _, e5, _⟩ := new j s hj
      rw [getF j k0 e1] at hq
      simp at hq
      have := e5 _ _ _ _ hk
      rw [this] at hq; injection hq with q1 q2 q3 q4
      subst q1 q2 q3 q4
      show _ ∨ (_ ∧ Own w' (ι (σ (2000000 + j))) _ _ _ _)
      rw [σ_new j s hj]
      exact hr2.acc_ hT
  have hpost : a'.defers = [] ∧ ∃ v, (results fn a'.tmps).run P w' = .ok v w' ∧ ∃ res lb' lf, G res lb' lf ∧ ∃ v' β'', Ending.returned v = .returned v' ∧ Kept (fun b => ∃ t, (tabU lb []).live t ∧ β t = b) w w' ∧
      TR (Dn S w.heap.size β lb lb') (tabU lb' lf) β'' w' ∧ Rv (tabU lb' lf) β'' (Stable (Dn S w.heap.size β lb lb') (tabU lb' lf) β'' w') w' res v' ∧
      lb.length = lb'.length ∧ (∀ j, j < lb.length → (tabU lb' lf).live (1000000 + j) → β'' (1000000 + j) = β (1000000 + j)) ∧ ∀ j, j < lf.length → (tabU lb' lf).live (2000000 + j) → Fn w.heap.size β lb lb' (β'' (2000000 + j)) := by
    refine ⟨hr.dfr, _, hres, packV xs, lb1, lf, hG, _, β', rfl, hr.kept, htr', ?_, hbl.symm, fun j hj hl => ?_, fun j hj hl => ?_⟩
    · unfold packV
      cases hrv' : xs with
      | nil =>
        rw [hrv'] at hrv
        have : us = [] := List.eq_nil_of_length_eq_zero (by simpa using hrv.1.symm)
        subst this
        exact .tup hrv.1 hrv.2
      | cons x r =>
        rw [hrv'] at hrv
        obtain ⟨u, us', rfl, hu, hr2⟩ := hrv.head
        cases r with
        | nil =>
          have : us' = [] := List.eq_nil_of_length_eq_zero (by simpa using hr2.1.symm)
          subst this
          exact hu
        | cons y r =>
          obtain ⟨u2, us2, rfl, _, _⟩ := hr2.head
          exact .tup hrv.1 hrv.2
    · show ι (σ (1000000 + j)) = _
      rw [σ_bor j hj]
      rcases liv _ hl with ⟨i, k0, k, hj0, e, hji, hkl⟩ | ⟨i, s, k, hji, e, _⟩
      · have : j = i := by omega
        subst this
        obtain ⟨k', e1, e2⟩ := bor j k0 hj0
        rw [hji] at e1; injection e1 with e1; subst e1
        rcases e2 with e2 | ⟨_, q2, _, q4, _⟩
        · rw [e2] at hkl; exact hkl.elim
        · exact q4 (q2.1 hkl)
      · omega
    · have hj' : ss[j]? = some (ss[j]'(by omega)) := List.getElem?_eq_getElem (by omega)
      show Fn w.heap.size β lb lb1 (ι (σ (2000000 + j)))
      have hlT := hσlive _ hl
      rw [σ_new j _ hj'] at hlT ⊢
      rcases h1.my _ hlT with h2 | ⟨t, ht, e⟩
      · exact .inl h2
      · obtain ⟨i, k0, hi0, rfl, hk0⟩ := liv0 t ht
        obtain ⟨k, e1, e2⟩ := bor i k0 hi0
        have hlt := hss.2 _ (List.mem_of_getElem? hj')
        rcases e2 with e2 | ⟨_, q2, q3, q4, _⟩
        · exact .inr ⟨i, by rw [e1, e2], ht, e⟩
        · exfalso
          have hl2 := q2.1 (q3 hk0)
          have := h1.tr.inj (1000000 + i) _ hl2 hlT (by rw [q4 hl2]; exact e)
          omega
  rcases he with rfl | rfl <;> exact hpost
end Go.Abs
