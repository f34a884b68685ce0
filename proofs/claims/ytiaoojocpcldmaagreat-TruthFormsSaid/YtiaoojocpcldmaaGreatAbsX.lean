/- What a call comes to, from its body. -/
import Derived.Test.YtiaoojocpcldmaaGreatAbsW
namespace Go.Abs
open Go.RowKit
set_option linter.unusedVariables false
set_option linter.unusedSimpArgs false

def slots : Nat → List V → List (Nat × V)
  | _, [] => []
  | i, v :: r => (i, v) :: slots (i + 1) r
theorem aget_slots : ∀ (l : List V) (i t : Nat), aget .undef (slots i l) t = if i ≤ t then l.getD (t - i) .undef else .undef
  | [], i, t => by simp [slots, aget]
  | v :: r, i, t => by
    simp only [slots, aget]
    by_cases h : i = t
    · subst h; simp
    · rw [if_neg h, aget_slots r (i + 1) t]
      by_cases hi : i ≤ t
      · rw [if_pos (by omega), if_pos hi, show t - i = (t - (i + 1)) + 1 from by omega]; simp
      · rw [if_neg (by omega), if_neg hi]

theorem bSites_get {nb j : Nat} (h : j < nb) : (bSites nb)[j]? = some (1000000 + j) := by simp [bSites, h]
theorem bSites_length (nb : Nat) : (bSites nb).length = nb := by simp [bSites]

section
variable {κ : Cx} {ι : Nat → Nat} {st : St} {a : Act} {w : World}

theorem freeze_box {k : OK} {ty : Nat} {cs : List V} (h : k = .box ty cs) : k.freeze = .box ty cs := by subst h; rfl

theorem retV_ok (h : RelI κ ι st a w) {T : Tab} (hall : ∀ s, (st.o.get s).gen = (T.get s).gen ∧ ((st.o.get s).k = (T.get s).k ∨ (st.o.get s).k = (T.get s).k.freeze)) {n nb : Nat} {ss ss' : List Nat} {v x : V} {l : List Nat} {cv : Value}
    (hx : retV n T nb ss v = some (x, l, ss')) (hl : ∀ s ∈ l, (st.o.get s).k = (T.get s).k.freeze ∧ (st.o.get s).gen = (T.get s).gen) (hr : Rv st.o ι (Stable κ.D st.o ι w) w v cv) :
    RR st.o ι (Stable κ.D st.o ι w) w nb ss' x cv := by
  have hbox : ∀ {s ty cs}, (T.get s).k = .box ty cs → (st.o.get s).k = .box ty cs := by
    intro s ty cs hk
    rcases (hall s).2 with h1 | h1
    · rw [h1, hk]
    · rw [h1, hk]; rfl
  unfold retV at hx
  split at hx
  · rename_i s g k
    split at hx
    · rename_i hc
      split at hx
      · rename_i ty sz fz cs hk
        simp at hx
        obtain ⟨rfl, _, rfl⟩ := hx
        refine .inr (.inl ⟨ss.length, s, g, k, by simp, by rw [(hall s).1]; exact hc.1, ?_, rfl, hr⟩)
        rcases (hall s).2 with h1 | h1
        · exact ⟨ty, sz, fz, cs, by rw [h1, hk]⟩
        · exact ⟨ty, sz, true, cs, by rw [h1, hk]; rfl⟩
      · cases hx
    · cases hx
  · rename_i s g off
    split at hx
    · rename_i hg
      split at hx
      · rename_i ty cs hk
        have hb := hbox hk
        have hp := hr.ptr_ (by rw [(hall s).1]; exact hg) (by simp [Tab.live, hb, OK.live])
        split at hx
        · rename_i hge
          split at hx
          · rename_i hc
            simp at hx
            obtain ⟨rfl, _, rfl⟩ := hx
            have e : 1000000 + (s - 1000000) = s := by omega
            exact .inr (.inr (.inr ⟨s - 1000000, off, hc.2, by rw [e, (hall s).1, hg, hc.1], by rw [e]; exact ⟨ty, cs, hb⟩, by rw [e], by rw [e]; exact hp⟩))
          · cases hx
        · split at hx
          · rename_i j hj
            simp at hx
            obtain ⟨rfl, _, rfl⟩ := hx
            obtain ⟨hlt, he, _⟩ := List.idxOf?_eq_some_iff.1 hj
            refine .inr (.inr (.inl ⟨j, s, off, ?_, ⟨ty, cs, hb⟩, rfl, hp⟩))
            rw [List.getElem?_eq_getElem hlt]
            simpa using he
          · simp at hx
            obtain ⟨rfl, _, rfl⟩ := hx
            exact .inr (.inr (.inl ⟨ss.length, s, off, by simp, ⟨ty, cs, hb⟩, rfl, hp⟩))
      · cases hx
    · cases hx
  · split at hx
    · rename_i x' l' hv
      simp at hx
      obtain ⟨rfl, rfl, rfl⟩ := hx
      exact .inl (view_ok h n v _ _ cv hv hl hr)
    · cases hx

theorem viewL_ss {n : Nat} {T : Tab} {nb : Nat} : ∀ (vs : List V) (ss ss' : List Nat) (xs : List V) (l : List Nat), viewL (retV n T nb) ss vs = some (xs, l, ss') → ssOk ss → ssOk ss'
  | [], ss, ss', xs, l, h, hs => by simp [viewL] at h; obtain ⟨_, _, rfl⟩ := h; exact hs
  | v :: r, ss, ss', xs, l, h, hs => by
    simp only [viewL] at h
    split at h
    · rename_i x l1 bs1 hv
      split at h
      · rename_i xs2 l2 bs2 hr
        simp at h
        obtain ⟨_, _, rfl⟩ := h
        exact viewL_ss r bs1 bs2 xs2 l2 hr ((retV_ss hv).2 hs)
      · cases h
    · cases h
end

theorem retL_len {n : Nat} {T : Tab} {nb : Nat} : ∀ (vs : List V) (ss ss' : List Nat) (xs : List V) (l : List Nat), viewL (retV n T nb) ss vs = some (xs, l, ss') → xs.length = vs.length
  | [], ss, ss', xs, l, h => by simp [viewL] at h; obtain ⟨rfl, _, _⟩ := h; rfl
  | v :: r, ss, ss', xs, l, h => by
    simp only [viewL] at h
    split at h
    · rename_i x l1 bs1 hv
      split at h
      · rename_i xs2 l2 bs2 hr
        simp at h
        obtain ⟨rfl, _, _⟩ := h
        simp [retL_len r bs1 bs2 xs2 l2 hr]
      · cases h
    · cases h

/-- What a call comes to, one of those of which G says so. -/
def SpecG (P : Program) (f : FuncId) (args : List V) (lb : List OK) (G : V → List OK → List OK → Prop) : Prop :=
  ∀ (w : World) (cargs : Array Value) (β : Nat → Nat) (S : Addr → Prop), TR S (tabU lb []) β w → LR (Rv (tabU lb []) β (Stable S (tabU lb []) β w) w) args cargs.toList →
    Calls P f cargs w fun e w' => ∃ res lb' lf, G res lb' lf ∧ ∃ v β', e = .returned v ∧ Kept (fun b => ∃ t, (tabU lb []).live t ∧ β t = b) w w' ∧
      TR (fun p => S p ∨ w.heap.size ≤ p.block) (tabU lb' lf) β' w' ∧
      Rv (tabU lb' lf) β' (Stable (fun p => S p ∨ w.heap.size ≤ p.block) (tabU lb' lf) β' w') w' res v ∧
      lb.length = lb'.length ∧ (∀ j, j < lb.length → β' (1000000 + j) = β (1000000 + j)) ∧ ∀ j, j < lf.length → w.heap.size ≤ β' (2000000 + j)

/-- WHAT A CALL COMES TO, FROM ITS BODY. -/
theorem spec_ofG {P : Program} {f : FuncId} {fn : Func} {c : Code} {args : List V} {lb : List OK} {G : V → List OK → List OK → Prop} (hf : P.funcs[f]? = some fn) (hb : fn.body = some c) (hn : args.length ≤ fn.ntmps)
    (h : ∀ κ : Cx, κ.P = P → κ.gv = [] → HT κ c (fun e s => (e = .normal ∨ e = .ret) ∧ ∃ res lb' lf, retOf P fn lb.length s = some (res, lb', lf) ∧ G res lb' lf) ⟨fn.ntmps, slots 0 args, tabU lb [], []⟩) : SpecG P f args lb G := by
  intro w cargs β S htr hargs
  let κ : Cx := ⟨P, w, fun b => ∃ t, (tabU lb []).live t ∧ β t = b, S, fun t => if 1000000 ≤ t ∧ t < 1000000 + lb.length then some (β t) else none, fun t b h => by (by_cases hc : 1000000 ≤ t ∧ t < 1000000 + lb.length); exact hc.1; (rw [if_neg hc] at h; cases h), []⟩
  refine calls_of_wp hf hb ?_
  have hlen : args.length = cargs.size := by rw [hargs.1]; simp
  have hSD : ∀ {T ι w'} p, Stable S T ι w' p → Stable κ.D T ι w' p := fun p hp => ⟨.inl hp.1, hp.2⟩
  have h0 : Rel κ ⟨fn.ntmps, slots 0 args, tabU lb [], []⟩ { tmps := cargs ++ Array.replicate (fn.ntmps - cargs.size) undef, defers := [] } w := by
    refine ⟨β, rfl, by simp; omega, fun t => ?_, ⟨fun t => (htr.ob t).monoS hSD, htr.inj, htr.lt⟩, fun t ht => .inr ⟨t, ht, rfl⟩, Kept.refl _ _, fun t b hp _ _ => ?_, .nil⟩
    · simp only [St.get, aget_slots, Nat.zero_le, if_true, Nat.sub_zero]
      by_cases ht : t < args.length
      · obtain ⟨u, hu, hru⟩ := hargs.get (i := t) (d := args[t]) (List.getElem?_eq_getElem ht)
        have e1 : args.getD t .undef = args[t] := by simp [ht]
        have e2 : (cargs ++ Array.replicate (fn.ntmps - cargs.size) undef).getD t undef = u := by
          have ht' : t < cargs.size := by omega
          have : cargs[t]? = some u := by simpa using hu
          rw [Array.getD_eq_getD_getElem?, Array.getElem?_append_left ht', this]; rfl
        rw [e1, e2]
        exact hru.monoS hSD
      · have e1 : args.getD t .undef = .undef := by simp [List.getElem?_eq_none (Nat.le_of_not_lt ht)]
        rw [e1]; exact .undef _
    · simp only [κ] at hp
      split at hp
      · injection hp
      · cases hp
  refine Code.wp_mono (fun e a' w' => ?_) (h κ rfl rfl _ _ h0)
  rintro ⟨st', ⟨he, res, lb', lf, hret, hG⟩, ι, hr⟩
  unfold retOf at hret
  split at hret
  · rename_i vs hvs
    split at hret
    · rename_i xs l ss hview
      split at hret
      · rename_i lb1 l2 lf1 l3 hbx hfr
        split at hret
        · rename_i hcond
          obtain ⟨hnb, hgen⟩ := hcond
          simp only [Option.some.injEq, Prod.mk.injEq] at hret
          obtain ⟨rfl, rfl, rfl⟩ := hret
          generalize hL : l ++ (l2 ++ l3) = L at *
          obtain ⟨us, hus, hres⟩ := results_ok hr fn hvs
          have hto := To.freezes hr L
          have h1 := To.rel hr hto
          have hT1 : ∀ s, (st'.o.freezes L).get s = if s ∈ L then ⟨(st'.o.get s).gen, (st'.o.get s).k.freeze⟩ else st'.o.get s := Tab.get_freezes L st'.o
          generalize st'.o.freezes L = T1 at *
          have hus1 : LR (Rv T1 ι (Stable κ.D T1 ι w') w') vs us := hus.mono fun d u hd => hd.mono hto.goes
          have hfz : ∀ s ∈ L, (T1.get s).k = (st'.o.get s).k.freeze ∧ (T1.get s).gen = (st'.o.get s).gen := fun s hs => by rw [hT1, if_pos hs]; exact ⟨rfl, rfl⟩
          have hall : ∀ s, (T1.get s).gen = (st'.o.get s).gen ∧ ((T1.get s).k = (st'.o.get s).k ∨ (T1.get s).k = (st'.o.get s).k.freeze) := fun s => by
            rw [hT1]; split
            · exact ⟨rfl, .inr rfl⟩
            · exact ⟨rfl, .inl rfl⟩
          have hss : ssOk ss := viewL_ss vs [] ss xs l hview ⟨by simp, by simp⟩
          obtain ⟨hbl, hbg⟩ := boxesOf_get _ _ _ hbx
          obtain ⟨hfl, hfg⟩ := freshOf_get _ _ _ hfr
          rw [bSites_length] at hbl
          -- borrowed sites
          have bor : ∀ j, j < lb.length → ∃ ty cs xs', (T1.get (1000000 + j)).k = .box ty cs ∧ lb1[j]? = some (.box ty xs') ∧ ι (1000000 + j) = β (1000000 + j) ∧ xs'.length = cs.length ∧
              ∀ vs', LR (Rv T1 ι (Stable κ.D T1 ι w') w') cs vs' → LR (Rp (Stable κ.D T1 ι w') w') xs' vs' := by
            intro j hj
            obtain ⟨ty, cs, xs', l', e1, e2, e3, e4⟩ := hbg j _ (bSites_get hj)
            have hk1 : (T1.get (1000000 + j)).k = .box ty cs := by
              rcases (hall (1000000 + j)).2 with h2 | h2
              · rw [h2, e1]
              · rw [h2, e1]; rfl
            refine ⟨ty, cs, xs', hk1, e3, ?_, mapV_length _ _ _ e2, fun vs' hv' => ?_⟩
            · refine h1.pin (1000000 + j) _ ?_ ?_ (by simp [Tab.live, hk1, OK.live])
              · simp only [κ]; rw [if_pos ⟨by omega, by omega⟩]
              · show (T1.get (1000000 + j)).gen = 0
                rw [(hall _).1]
                have := List.all_eq_true.1 hgen (1000000 + j) (List.mem_of_getElem? (bSites_get hj))
                simpa using this
            · exact mapV_ok _ _ l' _ e2 hv' fun v x l'' u hm hv hs hu => view_ok h1 depth v x l'' u hv (fun s hs' => hfz s (by rw [← hL]; simp [e4 s (hs s hs')])) hu
          -- new sites
          have new : ∀ (j s : Nat), ss[j]? = some s → ∃ k k1 xs', (T1.get s).k = k1 ∧ ((ss.zip lf1).map fun p => p.2.setFz (L.contains p.1))[j]? = some k ∧
              ((∃ ty cs, k1 = OK.box ty cs ∧ k = OK.box ty xs' ∧ xs'.length = cs.length ∧ ∀ vs', LR (Rv T1 ι (Stable κ.D T1 ι w') w') cs vs' → LR (Rp (Stable κ.D T1 ι w') w') xs' vs') ∨
               (∃ ty sz fz cs, k1 = OK.row ty sz fz cs ∧ k = OK.row ty sz fz xs' ∧ xs'.length = cs.length ∧ ∀ vs' : List Value, (∀ (i : Nat) (d : V) (u : Value), cs[i]? = some d → vs'[i]? = some u → Rv T1 ι (Stable κ.D T1 ι w') w' d u) → cs.length ≤ vs'.length →
                  ∀ (i : Nat) (d : V) (u : Value), xs'[i]? = some d → vs'[i]? = some u → Rp (Stable κ.D T1 ι w') w' d u)) := by
            intro j s hj
            obtain ⟨k, e1, e2⟩ := hfg j s hj
            have hz : (ss.zip lf1)[j]? = some (s, k) := by rw [List.getElem?_zip_eq_some]; exact ⟨hj, e1⟩
            rcases e2 with ⟨ty, cs, xs', l', a1, a2, a3, a4⟩ | ⟨ty, sz, fz, cs, xs', l', a1, a2, a3, a4⟩
            · have hk1 : (T1.get s).k = .box ty cs := by
                rcases (hall s).2 with h2 | h2
                · rw [h2, a1]
                · rw [h2, a1]; rfl
              refine ⟨k.setFz (L.contains s), _, xs', rfl, by simp [hz], .inl ⟨ty, cs, hk1, by rw [a3]; rfl, mapV_length _ _ _ a2, fun vs' hv' => ?_⟩⟩
              exact mapV_ok _ _ l' _ a2 hv' fun v x l'' u hm hv hs hu => view_ok h1 depth v x l'' u hv (fun s hs' => hfz s (by rw [← hL]; simp [a4 s (hs s hs')])) hu
            · have hk1 : (T1.get s).k = .row ty sz (fz || L.contains s) cs := by
                rw [hT1]
                by_cases hm : s ∈ L
                · rw [if_pos hm, a1]; simp [OK.freeze, hm]
                · rw [if_neg hm, a1]; simp [hm]
              refine ⟨k.setFz (L.contains s), _, xs', rfl, by simp [hz], .inr ⟨ty, sz, fz || L.contains s, cs, hk1, by rw [a3]; rfl, mapV_length _ _ _ a2, fun vs' hv' hle => ?_⟩⟩
              have hlr : LR (Rv T1 ι (Stable κ.D T1 ι w') w') cs (vs'.take cs.length) := ⟨by simp; omega, fun i d u hd hu => by
                rw [List.getElem?_take] at hu
                split at hu
                · exact hv' i d u hd hu
                · cases hu⟩
              have hm := mapV_ok (R' := Rp (Stable κ.D T1 ι w') w') _ _ l' _ a2 hlr fun v x l'' u hm hv hs hu => view_ok h1 depth v x l'' u hv (fun s hs' => hfz s (by rw [← hL]; simp [a4 s (hs s hs')])) hu
              intro i d u hd hu
              refine hm.2 i d u hd ?_
              have : i < cs.length := by rw [← mapV_length _ _ _ a2]; exact (List.getElem?_eq_some_iff.1 hd).1
              rw [List.getElem?_take, if_pos this]; exact hu
          generalize hlf : ((ss.zip lf1).map fun p => p.2.setFz (L.contains p.1)) = lf at *
          have hlfl : lf.length = ss.length := by rw [← hlf]; simp [hfl]
          let σ : Nat → Nat := fun t => if 2000000 ≤ t then ss.getD (t - 2000000) 0 else t
          let β' : Nat → Nat := fun t => ι (σ t)
          have σ_new : ∀ (j s : Nat), ss[j]? = some s → σ (2000000 + j) = s := fun j s hj => by
            simp only [σ, if_pos (Nat.le_add_right _ _)]
            rw [show 2000000 + j - 2000000 = j from by omega]
            simp [hj]
          have σ_bor : ∀ j, j < lb.length → σ (1000000 + j) = 1000000 + j := fun j hj => by
            simp only [σ]; rw [if_neg (by omega)]
          have getB : ∀ (j : Nat) (k : OK), lb1[j]? = some k → (tabU lb1 lf).get (1000000 + j) = ⟨0, k⟩ := by
            intro j k hk
            rw [get_tabU]
            simp only [show 1000000 ≤ 1000000 + j from by omega, show 1000000 + j - 1000000 = j from by omega, if_true, hk]
          have getF : ∀ (j : Nat) (k : OK), lf[j]? = some k → (tabU lb1 lf).get (2000000 + j) = ⟨0, k⟩ := by
            intro j k hk
            rw [get_tabU]
            have e1 : lb1[2000000 + j - 1000000]? = none := List.getElem?_eq_none (by omega)
            have e2 : 2000000 + j - 2000000 = j := by omega
            simp only [show 1000000 ≤ 2000000 + j from by omega, show 2000000 ≤ 2000000 + j from by omega, if_true, e1, e2, hk]
          have liv : ∀ t, (tabU lb1 lf).live t → (∃ j, j < lb.length ∧ t = 1000000 + j) ∨ ∃ j s, ss[j]? = some s ∧ t = 2000000 + j := by
            intro t ht
            simp only [Tab.live, get_tabU] at ht
            split at ht
            · rename_i k hk
              split at hk
              · have := (List.getElem?_eq_some_iff.1 hk).1
                exact .inl ⟨t - 1000000, by omega, by omega⟩
              · cases hk
            · split at ht
              · rename_i k hk
                split at hk
                · have hlt := (List.getElem?_eq_some_iff.1 hk).1
                  exact .inr ⟨t - 2000000, ss[t - 2000000]'(by omega), List.getElem?_eq_getElem (by omega), by omega⟩
                · cases hk
              · exact ht.elim
          have hσlive : ∀ t, (tabU lb1 lf).live t → T1.live (σ t) := by
            intro t ht
            rcases liv t ht with ⟨j, hj, rfl⟩ | ⟨j, s, hj, rfl⟩
            · obtain ⟨ty, cs, xs', e1, _⟩ := bor j hj
              rw [σ_bor j hj]; simp [Tab.live, e1, OK.live]
            · obtain ⟨k, k1, xs', e1, _, e3⟩ := new j s hj
              rw [σ_new j s hj]
              rcases e3 with ⟨ty, cs, e4, _⟩ | ⟨ty, sz, fz, cs, e4, _⟩
              · simp [Tab.live, e1, e4, OK.live]
              · simp [Tab.live, e1, e4, OK.live]
          have hσinj : ∀ t u, (tabU lb1 lf).live t → (tabU lb1 lf).live u → σ t = σ u → t = u := by
            intro t u ht hu e
            rcases liv t ht with ⟨j, hj, rfl⟩ | ⟨j, s, hj, rfl⟩ <;> rcases liv u hu with ⟨i, hi, rfl⟩ | ⟨i, s', hi, rfl⟩
            · rwa [σ_bor j hj, σ_bor i hi] at e
            · rw [σ_bor j hj, σ_new i s' hi] at e
              have := hss.2 s' (List.mem_of_getElem? hi); omega
            · rw [σ_new j s hj, σ_bor i hi] at e
              have := hss.2 s (List.mem_of_getElem? hj); omega
            · rw [σ_new j s hj, σ_new i s' hi] at e
              subst e
              have hj' := List.getElem?_eq_some_iff.1 hj
              have hi' := List.getElem?_eq_some_iff.1 hi
              have : j = i := (List.getElem_inj hss.1).1 (hj'.2.trans hi'.2.symm)
              rw [this]
          have hS : ∀ p, Stable κ.D T1 ι w' p → Stable (fun p => S p ∨ w.heap.size ≤ p.block) (tabU lb1 lf) β' w' p := by
            intro p hp
            refine ⟨?_, hp.2.1, fun t ht e => ?_⟩
            · rcases hp.1 with h2 | h2 | ⟨t, ht, e⟩
              · exact .inl h2
              · exact .inr h2
              · exfalso
                have hj : 1000000 ≤ t ∧ t < 1000000 + lb.length := by
                  simp only [Tab.live, get_tabU] at ht
                  split at ht
                  · rename_i k hk
                    split at hk
                    · have := (List.getElem?_eq_some_iff.1 hk).1
                      omega
                    · cases hk
                  · simp at ht; exact ht.elim
                obtain ⟨ty, cs, xs', e1, _, e3, _⟩ := bor (t - 1000000) (by omega)
                rw [show 1000000 + (t - 1000000) = t from by omega] at e1 e3
                have := hp.2.2 t (by simp [Tab.live, e1, OK.live]) (by rw [e3]; exact e)
                rw [e1] at this; exact this
            · have h2 := hp.2.2 (σ t) (hσlive t ht) e
              rcases liv t ht with ⟨j, hj, rfl⟩ | ⟨j, s, hj, rfl⟩
              · obtain ⟨ty, cs, xs', e1, _⟩ := bor j hj
                rw [σ_bor j hj, e1] at h2; exact h2.elim
              · obtain ⟨k, k1, xs', e1, e2, e3⟩ := new j s hj
                rw [σ_new j s hj, e1] at h2
                rw [getF j k e2]
                rcases e3 with ⟨ty, cs, e4, e5, e6, _⟩ | ⟨ty, sz, fz, cs, e4, e5, e6, _⟩
                · rw [e4] at h2; exact h2.elim
                · rw [e4] at h2
                  rw [e5]
                  cases fz with
                  | false => exact h2.elim
                  | true =>
                    show p.off < xs'.length
                    have : p.off < cs.length := h2
                    omega
          have hpure : ∀ x u, Rp (Stable κ.D T1 ι w') w' x u → Rv (tabU lb1 lf) β' (Stable (fun p => S p ∨ w.heap.size ≤ p.block) (tabU lb1 lf) β' w') w' x u :=
            fun x u hx => .pure (hx.mono fun p hp => ⟨hS p hp, rfl⟩)
          have htr' : TR (fun p => S p ∨ w.heap.size ≤ p.block) (tabU lb1 lf) β' w' := by
            refine ⟨fun t => ?_, fun t u ht hu e => hσinj t u ht hu (h1.tr.inj _ _ (hσlive t ht) (hσlive u hu) e), fun t ht => h1.tr.lt _ (hσlive t ht)⟩
            by_cases hl : (tabU lb1 lf).live t
            · have hob := h1.tr.ob (σ t)
              show ObRel _ _ _ _ (ι (σ t)) _
              rcases liv t hl with ⟨j, hj, rfl⟩ | ⟨j, s, hj, rfl⟩
              · obtain ⟨ty, cs, xs', e1, e2, e3, e4, e5⟩ := bor j hj
                rw [σ_bor j hj] at hob ⊢
                have e1' : (({ st' with o := T1 } : St).o.get (1000000 + j)).k = .box ty cs := e1
                rw [e1'] at hob
                rw [getB j _ e2]
                obtain ⟨arr, fz, b1, b2, b3, b4⟩ := hob
                have := e5 arr.toList ⟨by simp [b3], b4⟩
                exact ⟨arr, fz, b1, b2, by rw [b3, e4], fun i d u hd hu => hpure d u (this.2 i d u hd hu)⟩
              · obtain ⟨k, k1, xs', e1, e2, e3⟩ := new j s hj
                rw [σ_new j s hj] at hob ⊢
                rw [getF j k e2]
                rcases e3 with ⟨ty, cs, e4, e5, e6, e7⟩ | ⟨ty, sz, fz, cs, e4, e5, e6, e7⟩
                · have e1' : (({ st' with o := T1 } : St).o.get s).k = .box ty cs := e1.trans e4
                  rw [e1'] at hob
                  obtain ⟨arr, fz, b1, b2, b3, b4⟩ := hob
                  have := e7 arr.toList ⟨by simp [b3], b4⟩
                  rw [e5]
                  exact ⟨arr, fz, b1, b2, by rw [b3, e6], fun i d u hd hu => hpure d u (this.2 i d u hd hu)⟩
                · have e1' : (({ st' with o := T1 } : St).o.get s).k = .row ty sz fz cs := e1.trans e4
                  rw [e1'] at hob
                  obtain ⟨arr, fz1, cap, b1, b2, b3, b4, b5, b6⟩ := hob
                  have := e7 arr.toList b6 (by simpa using b5)
                  rw [e5]
                  exact ⟨arr, fz1, cap, b1, b2, b3, b4, by rw [e6]; exact b5, fun i d u hd hu => hpure d u (this i d u hd hu)⟩
            · simp only [Tab.live] at hl
              cases hk : ((tabU lb1 lf).get t).k with
              | dead => trivial
              | nrow ty fz nl L =>
                left
                by_cases hn : nl = true ∧ L.l = []
                · exact hn
                · exact absurd (by simp only [hk, OK.live]; exact hn) hl
              | _ => rw [hk] at hl; exact absurd trivial hl
          have hrr := viewL_ok (R := Rv T1 ι (Stable κ.D T1 ι w') w') (R' := fun ss x u => RR T1 ι (Stable κ.D T1 ι w') w' lb.length ss x u) (fun bs v x l bs' hx => (retV_ss hx).1) (fun _ _ _ _ hx => hx.grow) vs [] ss xs l us hview hus1
            fun bs v x l' bs1 u hm hx hs hu => retV_ok h1 hall hx (fun s hs' => hfz s (by rw [← hL]; simp [hs s hs'])) hu
          have hrv : LR (Rv (tabU lb1 lf) β' (Stable (fun p => S p ∨ w.heap.size ≤ p.block) (tabU lb1 lf) β' w') w') xs us := by
            refine hrr.mono fun x u hxu => ?_
            rcases hxu with hp | ⟨j, s, g, k, hj, hg, ⟨ty, sz, fz, cs, hk⟩, rfl, hr2⟩ | ⟨j, s, off, hj, ⟨ty, cs, hk⟩, rfl, rfl⟩ | ⟨j, off, hj, hg, ⟨ty, cs, hk⟩, rfl, rfl⟩
            · exact hpure x u hp
            · have hT : T1.get s = ⟨g, .row ty sz fz cs⟩ := by cases hq : T1.get s; rw [hq] at hg hk; simp at hg hk; subst hg hk; rfl
              have how := hr2.own_ hT
              obtain ⟨ad, c', cap, arr, ty1, fz1, e, rest⟩ := how
              refine .own ⟨ad, c', e⟩ (Nat.zero_le _) fun ty' sz' fz' cs' hq => ?_
              obtain ⟨k0, k1, xs', e1, e2, e3⟩ := new j s hj
              rw [getF j k0 e2] at hq
              simp at hq
              have hsz : sz' = sz := by
                rcases e3 with ⟨ty2, cs2, e4, e5, _⟩ | ⟨ty2, sz2, fz2, cs2, e4, e5, _⟩
                · rw [e5] at hq; cases hq
                · rw [e5] at hq; injection hq with q1 q2
                  rw [e4] at e1
                  have := hk.symm.trans e1
                  injection this with q3 q4
                  omega
              subst hsz
              show Own w' (ι (σ (2000000 + j))) _ _ _ _
              rw [σ_new j s hj]
              exact ⟨ad, c', cap, arr, ty1, fz1, e, rest⟩
            · refine .ptr ⟨_, rfl⟩ (Nat.zero_le _) fun _ _ => ?_
              show _ = Value.pointer (some ⟨ι (σ (2000000 + j)), off, none⟩)
              rw [σ_new j s hj]
            · refine .ptr ⟨_, rfl⟩ (Nat.zero_le _) fun _ _ => ?_
              show _ = Value.pointer (some ⟨ι (σ (1000000 + j)), off, none⟩)
              rw [σ_bor j hj]
          have hpost : a'.defers = [] ∧ ∃ v, (results fn a'.tmps).run P w' = .ok v w' ∧ ∃ res lb' lf, G res lb' lf ∧ ∃ v' β'', Ending.returned v = .returned v' ∧ Kept (fun b => ∃ t, (tabU lb []).live t ∧ β t = b) w w' ∧
              TR (fun p => S p ∨ w.heap.size ≤ p.block) (tabU lb' lf) β'' w' ∧ Rv (tabU lb' lf) β'' (Stable (fun p => S p ∨ w.heap.size ≤ p.block) (tabU lb' lf) β'' w') w' res v' ∧
              lb.length = lb'.length ∧ (∀ j, j < lb.length → β'' (1000000 + j) = β (1000000 + j)) ∧ ∀ j, j < lf.length → w.heap.size ≤ β'' (2000000 + j) := by
            refine ⟨hr.dfr, _, hres, packV xs, lb1, lf, hG, _, β', rfl, hr.kept, htr', ?_, hbl.symm, fun j hj => ?_, fun j hj => ?_⟩
            · unfold packV
              cases hrv' : xs with
              | nil =>
                rw [hrv'] at hrv
                have : us = [] := List.eq_nil_of_length_eq_zero (by simpa using hrv.1.symm)
                subst this
                exact .tup hrv.1 hrv.2
              | cons x r =>
                rw [hrv'] at hrv
                obtain ⟨u, us', rfl, hu, hr2⟩ := hrv.head
                cases r with
                | nil =>
                  have : us' = [] := List.eq_nil_of_length_eq_zero (by simpa using hr2.1.symm)
                  subst this
                  exact hu
                | cons y r =>
                  obtain ⟨u2, us2, rfl, _, _⟩ := hr2.head
                  exact .tup hrv.1 hrv.2
            · show ι (σ (1000000 + j)) = _
              rw [σ_bor j hj]
              exact (bor j hj).choose_spec.choose_spec.choose_spec.2.2.1
            · have hj' : ss[j]? = some (ss[j]'(by omega)) := List.getElem?_eq_getElem (by omega)
              show w.heap.size ≤ ι (σ (2000000 + j))
              rw [σ_new j _ hj']
              obtain ⟨k, k1, xs', e1, e2, e3⟩ := new j _ hj'
              have hl : ({ st' with o := T1 } : St).o.live (ss[j]'(by omega)) := by
                show T1.live _
                rcases e3 with ⟨ty, cs, e4, _⟩ | ⟨ty, sz, fz, cs, e4, _⟩ <;> simp [Tab.live, e1, e4, OK.live]
              rcases h1.my _ hl with h2 | ⟨t, ht, e⟩
              · exact h2
              · exfalso
                have hj2 : 1000000 ≤ t ∧ t < 1000000 + lb.length := by
                  simp only [Tab.live, get_tabU] at ht
                  split at ht
                  · rename_i k hk
                    split at hk
                    · have := (List.getElem?_eq_some_iff.1 hk).1
                      omega
                    · cases hk
                  · simp at ht; exact ht.elim
                obtain ⟨ty, cs, xs2, b1, _, b3, _⟩ := bor (t - 1000000) (by omega)
                rw [show 1000000 + (t - 1000000) = t from by omega] at b1 b3
                have := h1.tr.inj t _ (by show T1.live t; simp [Tab.live, b1, OK.live]) hl (by rw [b3]; exact e)
                have hlt := hss.2 _ (List.mem_of_getElem? hj')
                omega
          rcases he with rfl | rfl <;> exact hpost
        · cases hret
      · cases hret
    · cases hret
  · cases hret

theorem spec_of {P : Program} {f : FuncId} {fn : Func} {c : Code} {args : List V} {lb lb' lf : List OK} {res : V} (hf : P.funcs[f]? = some fn) (hb : fn.body = some c) (hn : args.length ≤ fn.ntmps)
    (h : ∀ κ : Cx, κ.P = P → HT κ c (fun e s => (e = .normal ∨ e = .ret) ∧ retOf P fn lb.length s = some (res, lb', lf)) ⟨fn.ntmps, slots 0 args, tabU lb [], []⟩) : Spec P f args lb res lb' lf := by
  have := spec_ofG (G := fun r l1 l2 => r = res ∧ l1 = lb' ∧ l2 = lf) hf hb hn fun κ hκ _ => (h κ hκ).mono fun e s ⟨h1, h2⟩ => ⟨h1, _, _, _, h2, rfl, rfl, rfl⟩
  intro w cargs β S htr hargs
  refine (this w cargs β S htr hargs).mono fun e w' => ?_
  rintro ⟨_, _, _, ⟨rfl, rfl, rfl⟩, hh⟩
  exact hh
end Go.Abs
