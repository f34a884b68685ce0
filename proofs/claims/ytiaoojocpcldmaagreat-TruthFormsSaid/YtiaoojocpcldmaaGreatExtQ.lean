/- A state brought to a form. -/
import Derived.Test.YtiaoojocpcldmaaGreatExtP
namespace Go.Abs
open Go.RowKit
set_option linter.unusedVariables false
set_option linter.unusedSimpArgs false

theorem impN_len {e : Ty} (ih : ∀ (cs r : List V) (x : e.I), impC e cs = some (x, r) → cs.length = e.size + r.length) : ∀ (n : Nat) (cs r : List V) (m : List e.I), impN (impC e) n cs = some (m, r) → cs.length = m.length * e.size + r.length
  | 0, cs, r, m, h => by simp [impN] at h; obtain ⟨rfl, rfl⟩ := h; simp
  | n + 1, cs, r, m, h => by
    simp only [impN] at h
    split at h
    · rename_i x r1 h1
      split at h
      · rename_i l r2 h2
        simp at h
        obtain ⟨rfl, rfl⟩ := h
        have := ih _ _ _ h1
        have := impN_len ih n _ _ _ h2
        simp only [List.length_cons, Nat.succ_mul]
        omega
      · cases h
    · cases h
theorem impC_len : ∀ (t : Ty) (cs r : List V) (x : t.I), impC t cs = some (x, r) → cs.length = t.size + r.length := by
  intro t
  induction t with
  | int k => intro cs r x h; simp only [impC] at h; (repeat' split at h) <;> first | (simp at h; obtain ⟨rfl, rfl⟩ := h; simp [Ty.size]; omega) | cases h
  | bool => intro cs r x h; simp only [impC] at h; (repeat' split at h) <;> first | (simp at h; obtain ⟨rfl, rfl⟩ := h; simp [Ty.size]; omega) | cases h
  | str => intro cs r x h; simp only [impC] at h; (repeat' split at h) <;> first | (simp at h; obtain ⟨rfl, rfl⟩ := h; simp [Ty.size]; omega) | cases h
  | list e ih => intro cs r x h; simp only [impC] at h; (repeat' split at h) <;> first | (simp at h; obtain ⟨_, rfl⟩ := h; simp [Ty.size]; omega) | cases h
  | unit => intro cs r x h; simp only [impC] at h; simp at h; subst h; simp [Ty.size]
  | pair a b iha ihb =>
    intro cs r x h
    simp only [impC] at h
    split at h
    · rename_i y r1 hy
      split at h
      · rename_i z r2 hz
        simp at h
        obtain ⟨rfl, rfl⟩ := h
        have := iha _ _ _ hy
        have := ihb _ _ _ hz
        simp only [Ty.size]; omega
      · cases h
    · cases h
  | agg t ih => intro cs r x h; simp only [impC] at h; exact ih _ _ _ h
  | alt t a q iha ihq => intro cs r x h; simp only [impC] at h; (repeat' split at h) <;> first | (simp at h; obtain ⟨_, rfl⟩ := h; simp [Ty.size]; omega) | cases h
  | alt1 t a iha => intro cs r x h; simp only [impC] at h; (repeat' split at h) <;> first | (simp at h; obtain ⟨_, rfl⟩ := h; simp [Ty.size]; omega) | cases h
  | inil => intro cs r x h; simp only [impC] at h; (repeat' split at h) <;> first | (simp at h; subst h; simp [Ty.size]; omega) | cases h

theorem encS_rest {L : Lk} {T : Tab} {v : V} : ∀ (k : SS) (l r : List TX), decS L T v k = some l → (encS k (l ++ r)).2 = r
  | .val t, l, r, h => by
    simp only [decS] at h
    split at h
    · injection h with h; subst h; rfl
    · cases h
  | .ptr s off, l, r, h => by
    simp only [decS] at h
    split at h
    · injection h with h; subst h; rfl
    · cases h
  | .acc s, l, r, h => by
    simp only [decS] at h
    split at h
    · injection h with h; subst h; rfl
    · cases h
  | .arr s sz, l, r, h => by
    simp only [decS] at h
    split at h
    · injection h with h; subst h; rfl
    · cases h
  | .mp s, l, r, h => by
    simp only [decS] at h
    split at h
    · injection h with h; subst h; rfl
    · cases h
  | .fn f ss, l, r, h => by
    simp only [decS] at h
    split at h
    · split at h
      · injection h with h; subst h; rfl
      · cases h
    · cases h
theorem encC_rest {L : Lk} {T : Tab} : ∀ (k : CS) (cs cr : List V) (l r : List TX), decC L T k cs = some (l, cr) → (encC k (l ++ r)).2 = r
  | .val t, cs, cr, l, r, h => by
    simp only [decC] at h
    split at h
    · injection h with h; injection h with h1 h2; subst h1 h2; rfl
    · cases h
  | .acc s, cs, cr, l, r, h => by
    simp only [decC] at h
    split at h
    · split at h
      · injection h with h; injection h with h1 h2; subst h1 h2; rfl
      · cases h
    · cases h
  | .pair a b, cs, cr, l, r, h => by
    simp only [decC] at h
    split at h
    · rename_i l1 r1 h1
      split at h
      · rename_i l2 r2 h2
        injection h with h; injection h with e1 e2; subst e1 e2
        simp only [encC, List.append_assoc]
        rw [encC_rest a cs r1 l1 (l2 ++ r) h1]
        exact encC_rest b r1 r2 l2 r h2
      · cases h
    · cases h
theorem encO_rest {L : Lk} {T : Tab} {s : Nat} : ∀ (k : OS) (l r : List TX), decO L T s k = some l → (encO k (l ++ r)).2 = r
  | .box ty c, l, r, h => by
    simp only [decO] at h
    split at h
    · split at h
      · split at h
        · split at h
          · rename_i hd
            injection h with h; subst h
            exact encC_rest c _ _ _ r hd
          · cases h
        · cases h
      · cases h
    · cases h
  | .nrow ty e fz nl, l, r, h => by
    simp only [decO] at h
    split at h
    · split at h
      · split at h
        · split at h
          · injection h with h; subst h; rfl
          · cases h
        · cases h
      · split at h
        · split at h
          · injection h with h; subst h; rfl
          · cases h
        · cases h
      · cases h
    · split at h
      · injection h with h; subst h; rfl
      · cases h
  | .iter, l, r, h => by
    simp only [decO] at h
    split at h
    · split at h
      · injection h with h; subst h; rfl
      · cases h
    · cases h
  | .mp e, l, r, h => by
    simp only [decO] at h
    split at h
    · split at h
      · split at h
        · injection h with h; subst h; rfl
        · cases h
      · cases h
    · cases h

theorem encSL_ok {L : Lk} {st : St} : ∀ (m : List (Nat × SS)) (l r : List TX), decSL L st m = some l → (encSL m (l ++ r)).2 = r ∧
    ∀ t v, (t, v) ∈ (encSL m (l ++ r)).1 → ∃ k l1 r1, (t, k) ∈ m ∧ decS L st.o (st.get t) k = some l1 ∧ v = (encS k (l1 ++ r1)).1
  | [], l, r, h => by simp only [decSL] at h; injection h with h; subst h; exact ⟨rfl, fun t v hv => by simp [encSL] at hv⟩
  | e :: m, l, r, h => by
    simp only [decSL] at h
    split at h
    · rename_i l1 l2 h1 h2
      injection h with h; subst h
      obtain ⟨a1, a2⟩ := encSL_ok m l2 r h2
      have e1 : (encS e.2 (l1 ++ l2 ++ r)).2 = l2 ++ r := by rw [List.append_assoc]; exact encS_rest e.2 l1 (l2 ++ r) h1
      simp only [encSL, e1]
      refine ⟨a1, fun t v hv => ?_⟩
      rcases List.mem_cons.1 hv with hv | hv
      · injection hv with q1 q2
        subst q1 q2
        exact ⟨e.2, l1, l2 ++ r, by simp, h1, by rw [List.append_assoc]⟩
      · obtain ⟨k, l3, r3, b1, b2, b3⟩ := a2 t v hv
        exact ⟨k, l3, r3, by simp [b1], b2, b3⟩
    · cases h
theorem encOL_ok {L : Lk} {T : Tab} : ∀ (m : List (Nat × OS)) (l r : List TX), decOL L T m = some l → (encOL m (l ++ r)).map (·.1) = m.map (·.1) ∧
    (∀ s ob, (s, ob) ∈ encOL m (l ++ r) → ∃ k l1 r1, (s, k) ∈ m ∧ decO L T s k = some l1 ∧ ob = ⟨gen0 s, (encO k (l1 ++ r1)).1⟩) ∧
    ∀ s k, (s, k) ∈ m → ∃ l1 r1, decO L T s k = some l1 ∧ (s, ⟨gen0 s, (encO k (l1 ++ r1)).1⟩) ∈ encOL m (l ++ r)
  | [], l, r, h => by simp only [decOL] at h; injection h with h; subst h; exact ⟨rfl, fun s ob hv => by simp [encOL] at hv, fun s k hv => by simp at hv⟩
  | e :: m, l, r, h => by
    simp only [decOL] at h
    split at h
    · rename_i l1 l2 h1 h2
      injection h with h; subst h
      obtain ⟨a1, a2, a3⟩ := encOL_ok m l2 r h2
      have e1 : (encO e.2 (l1 ++ l2 ++ r)).2 = l2 ++ r := by rw [List.append_assoc]; exact encO_rest e.2 l1 (l2 ++ r) h1
      simp only [encOL, e1]
      refine ⟨by simp [a1], fun s ob hv => ?_, fun s k hv => ?_⟩
      · rcases List.mem_cons.1 hv with hv | hv
        · injection hv with q1 q2
          subst q1 q2
          exact ⟨e.2, l1, l2 ++ r, by simp, h1, by rw [List.append_assoc]⟩
        · obtain ⟨k, l3, r3, b1, b2, b3⟩ := a2 s ob hv
          exact ⟨k, l3, r3, by simp [b1], b2, b3⟩
      · rcases List.mem_cons.1 hv with hv | hv
        · subst hv
          exact ⟨l1, l2 ++ r, h1, by rw [List.append_assoc]; simp⟩
        · obtain ⟨l3, r3, b1, b2⟩ := a3 s k hv
          exact ⟨l3, r3, b1, by simp [b2]⟩
    · cases h

theorem aget_mem {α : Type} {d v : α} : ∀ {l : List (Nat × α)} {q : Nat}, (l.map (·.1)).Nodup → (q, v) ∈ l → aget d l q = v
  | [], q, _, h => by simp at h
  | (k, x) :: r, q, hn, h => by
    simp only [List.map_cons, List.nodup_cons] at hn
    simp only [aget]
    rcases List.mem_cons.1 h with h | h
    · injection h with e1 e2; subst e1 e2; simp
    · rw [if_neg, aget_mem hn.2 h]
      rintro rfl
      exact hn.1 (List.mem_map.2 ⟨_, h, rfl⟩)
theorem aget_cases {α : Type} {d : α} : ∀ (l : List (Nat × α)) (q : Nat), aget d l q = d ∨ ∃ v, (q, v) ∈ l ∧ aget d l q = v
  | [], q => .inl rfl
  | (k, x) :: r, q => by
    simp only [aget]
    by_cases h : k = q
    · subst h; simp
    · rw [if_neg h]
      rcases aget_cases r q with h1 | ⟨v, h1, h2⟩
      · exact .inl h1
      · exact .inr ⟨v, by simp [h1], h2⟩
def OS.rows : OS → List Nat
  | .box _ c => c.rows
  | _ => []
def isNrow : OS → Bool
  | .nrow _ _ _ _ => true
  | _ => false
def rowsOk (p : Pat) : Bool := (p.sl.flatMap (fun e => e.2.rows) ++ p.ob.flatMap (fun e => e.2.rows)).all fun s => p.ob.any fun e => e.1 == s && isNrow e.2
def decP1 (st : St) (p : Pat) : Option p.I := if rowsOk p = true then decP0 st p else none

section
variable {κ : Cx} {ι : Nat → Nat} {st : St} {a : Act} {w : World}
/-- One object of a form. -/
theorem decO_rv {L : Lk} {T' : Tab} {ι' : Nat → Nat} {S' : Addr → Prop} (h : RelI κ ι st a w) (F : Fm κ ι st.o w L T' ι' S') {s : Nat} :
    ∀ (k : OS) (l r : List TX), decO L st.o s k = some l → (∀ s' ∈ k.rows, RowAt st.o T' L s') →
      ObRel T' ι' S' w (ι' s) (encO k (l ++ r)).1
  | .box ty c, l, r, hd, hrow => by
    simp only [decO] at hd
    split at hd
    · rename_i q hq
      split at hd
      · rename_i ty' cs hk
        split at hd
        · rename_i hty
          subst hty
          split at hd
          · rename_i l' hdc
            injection hd with hd; subst hd
            have hob := h.tr.ob q
            rw [hk] at hob
            obtain ⟨arr, fz, b1, b2, b3, b4⟩ := hob
            obtain ⟨c1, c2, c3⟩ := decC_rv F c cs [] l' r arr.toList hdc hrow ⟨by simpa using b3.symm, b4⟩
            have hlen : (encC c (l' ++ r)).1.length = arr.size := by
              have q1 := c1.1
              have q2 := c2.1
              simp only [List.length_take, List.length_drop, Array.length_toList, List.length_nil] at q1 q2
              omega
            rw [hlen] at c1
            rw [List.take_of_length_le (by simp)] at c1
            rw [F.io s q hq]
            exact ⟨arr, fz, b1, b2, hlen.symm, c1.2⟩
          · cases hd
        · cases hd
      · cases hd
    · cases hd
  | .nrow ty e fz nl, l, r, hd, _ => by
    simp only [decO] at hd
    split at hd
    · rename_i q hq
      split at hd
      · rename_i ty' fz' nl' M hk
        split at hd
        · rename_i hc
          obtain ⟨rfl, rfl, hc⟩ := hc
          split at hd
          · rename_i he
            obtain ⟨e', m⟩ := M
            simp only at he; subst he
            injection hd with hd; subst hd
            have hob := h.tr.ob q
            rw [hk] at hob
            rw [F.io s q hq]
            show ObRel T' ι' S' w (ι q) (.nrow ty fz nl ⟨e', m⟩)
            rcases hob with hb | ⟨arr, fz1, cap, b1, b2, b3, b4, b5, b6⟩
            · exact .inl hb
            · exact .inr ⟨arr, fz1, cap, b1, b2, b3, b4, b5, fun i d u hd hu => .pure (((b6 i d u hd hu).pure_ (TL.pure_cells hd)).mono fun p hp => ⟨F.st p hp, rfl⟩)⟩
          · cases hd
        · cases hd
      · rename_i ty' sz fz' cs hk
        split at hd
        · rename_i hc
          obtain ⟨rfl, rfl, hc, hne⟩ := hc
          split at hd
          · rename_i m hm
            injection hd with hd; subst hd
            have hob := h.tr.ob q
            rw [hk] at hob
            obtain ⟨arr, fz1, cap, b1, b2, b3, b4, b5, b6⟩ := hob
            rw [F.io s q hq]
            show ObRel T' ι' S' w (ι q) (.nrow ty fz nl ⟨e, m⟩)
            have hlr : LR (Rv st.o ι (Stable κ.D st.o ι w) w) cs (arr.toList.take cs.length) := ⟨by simp; omega, fun i d u hd hu => by
              rw [List.getElem?_take] at hu
              split at hu
              · exact b6 i d u hd hu
              · cases hu⟩
            obtain ⟨h5, h6⟩ := impN_rv (impC_rv e) _ cs [] m _ hm hlr
            rw [List.append_nil] at h6
            have hlen : cs.length = (⟨e, m⟩ : TL).cells.length := by
              have := h6.1
              rw [← hlr.1] at this
              exact this.symm
            refine .inr ⟨arr, fz1, cap, b1, fun j hj => b2 j hj, b3, b4, by rw [← hlen]; exact b5, fun i d u hd hu => ?_⟩
            have hi : i < cs.length := by rw [hlen]; exact (List.getElem?_eq_some_iff.1 hd).1
            have := h6.2 i d u hd (by rw [List.getElem?_take, if_pos hi]; exact hu)
            exact .pure ((this.pure_ (TL.pure_cells hd)).mono fun p hp => ⟨F.st p hp, rfl⟩)
          · cases hd
        · cases hd
      · cases hd
    · split at hd
      · rename_i hnl
        injection hd with hd; subst hd
        exact .inl ⟨hnl, rfl⟩
      · cases hd
  | .iter, l, r, hd, _ => by
    simp only [decO] at hd
    split at hd
    · rename_i q hq
      split at hd
      · rename_i m pos hk
        injection hd with hd; subst hd
        have hob := h.tr.ob q
        rw [hk] at hob
        rw [F.io s q hq]
        show ObRel T' ι' S' w (ι q) (.iter m (Int.toNat (pos : Int)))
        rw [Int.toNat_natCast]
        exact hob
      · cases hd
    · cases hd
  | .mp e, l, r, hd, _ => by
    simp only [decO] at hd
    split at hd
    · rename_i q hq
      split at hd
      · rename_i M hk
        split at hd
        · rename_i he
          obtain ⟨e', m⟩ := M
          simp only at he; subst he
          injection hd with hd; subst hd
          have hob := h.tr.ob q
          rw [hk] at hob
          rw [F.io s q hq]
          show ObRel T' ι' S' w (ι q) (.mp ⟨e', m⟩)
          obtain ⟨es, c, h1, h2, h3⟩ := hob
          exact ⟨es, c, h1, h2, fun i p x hp hx => ⟨(h3 i p x hp hx).1, (h3 i p x hp hx).2.mono fun p hp => ⟨F.st p hp, rfl⟩⟩⟩
        · cases hd
      · cases hd
    · cases hd
/-- Which of the state's objects it is. -/
theorem decO_live {L : Lk} {s : Nat} : ∀ (k : OS) (l r : List TX), decO L st.o s k = some l → (encO k (l ++ r)).1.live →
      ∃ q, lookN L s = some q ∧ st.o.live q ∧ ∀ o, (st.o.get q).k.fzAt o → (encO k (l ++ r)).1.fzAt o
  | .box ty c, l, r, hd, hl => by
    simp only [decO] at hd
    split at hd
    · rename_i q hq
      split at hd
      · rename_i ty' cs hk
        exact ⟨q, hq, by simp [Tab.live, hk, OK.live], fun o ho => by rw [hk] at ho; exact ho.elim⟩
      · cases hd
    · cases hd
  | .nrow ty e fz nl, l, r, hd, hl => by
    simp only [decO] at hd
    split at hd
    · rename_i q hq
      split at hd
      · rename_i ty' fz' nl' M hk
        split at hd
        · rename_i hc
          obtain ⟨rfl, rfl, hc⟩ := hc
          split at hd
          · rename_i he
            obtain ⟨e', m⟩ := M
            simp only at he; subst he
            injection hd with hd; subst hd
            refine ⟨q, hq, by simp only [Tab.live, hk]; exact hl, fun o ho => ?_⟩
            rw [hk] at ho
            cases fz' with
            | false => exact ho.elim
            | true =>
              simp at hc
              subst hc
              exact ho
          · cases hd
        · cases hd
      · rename_i ty' sz fz' cs hk
        split at hd
        · rename_i hc
          obtain ⟨rfl, rfl, hc, hne⟩ := hc
          split at hd
          · rename_i m hm
            injection hd with hd; subst hd
            refine ⟨q, hq, by simp [Tab.live, hk, OK.live], fun o ho => ?_⟩
            rw [hk] at ho
            cases fz' with
            | false => exact ho.elim
            | true =>
              simp at hc
              subst hc
              have ho' : o < cs.length := ho
              show o < m.length * e.size
              have := impN_len (impC_len e) _ _ _ _ hm
              simp only [List.length_nil] at this
              omega
          · cases hd
        · cases hd
      · cases hd
    · split at hd
      · rename_i hnl
        injection hd with hd; subst hd
        exact absurd ⟨hnl, rfl⟩ hl
      · cases hd
  | .iter, l, r, hd, hl => by
    simp only [decO] at hd
    split at hd
    · rename_i q hq
      split at hd
      · rename_i m pos hk
        exact ⟨q, hq, by simp [Tab.live, hk, OK.live], fun o ho => by rw [hk] at ho; exact ho.elim⟩
      · cases hd
    · cases hd
  | .mp e, l, r, hd, hl => by
    simp only [decO] at hd
    split at hd
    · rename_i q hq
      split at hd
      · rename_i M hk
        exact ⟨q, hq, by simp [Tab.live, hk, OK.live], fun o ho => by rw [hk] at ho; exact ho.elim⟩
      · cases hd
    · cases hd
end
end Go.Abs
