/- One operation of the machine. -/
import Derived.Test.YtiaoojocpcldmaaGreatAbsM
import Derived.Test.YtiaoojocpcldmaaGreatAbsGA
namespace Go.Abs
open Go.RowKit
set_option linter.unusedVariables false
set_option linter.unusedSimpArgs false

def aCopy (P : Program) (T : Tab) (t : Nat) (s x : V) : Option (V × Option (Nat × Ob)) :=
  match P.underlying t with
  | some (.slice e) => match P.info? e with
    | some i => match aSrc T i.size x, s with
      | some (m, xs), .own s g off n => if (T.get s).gen = g ∧ xs.all V.cellOk = true then (match (T.get s).k with
        | .row ty sz false cs => if sz = i.size ∧ (off + n) * sz ≤ cs.length then
            some (.int .i64 (min m n : Nat), some (s, ⟨g, .row ty sz false (splice cs (off * sz) (xs.take (min m n * sz)))⟩)) else none
        | _ => none) else none
      | some (m, xs), .snil => some (.int .i64 0, none)
      | _, _ => none
    | none => none
  | _ => none

section
variable {κ : Cx} {ι : Nat → Nat} {st : St} {a : Act} {w : World}
/-- Some cells of a row are written over. -/
theorem ownPut (h : RelI κ ι st a w) {s g ty sz : Nat} {cells : List V} (hT : st.o.get s = ⟨g, .row ty sz false cells⟩) {arr : Array Value} {ty2 : Nat} {fz : Nat × Nat} (hmem : w.heap[ι s]? = some (.cells arr ty2 fz))
    {q : Nat} {xs : List V} {news : List Value} (hnews : LR (Rv st.o ι (Stable κ.D st.o ι w) w) xs news) (hone : ∀ u ∈ news, u.oneCell' = true) (hq : q + xs.length ≤ cells.length) :
    ∃ A : Array Value, A.size = arr.size ∧ (w.setRow (ι s) A).heap[ι s]? = some (.cells A ty2 fz) ∧ (storeCells ⟨ι s, q, none⟩ news).run κ.P w = .ok () (w.setRow (ι s) A) ∧
      To κ st.o ι w (st.o.put s ⟨g, .row ty sz false (splice cells q xs)⟩) ι (w.setRow (ι s) A) := by
  have hl : st.o.live s := by simp [Tab.live, hT, OK.live]
  have hob := h.tr.ob s
  rw [hT] at hob
  obtain ⟨arr2, fz2, cap2, hh2, hf2, has2, h0, hle2, hc2⟩ := hob
  rw [hmem] at hh2
  injection hh2 with hh2; injection hh2 with e1 e2 e3; subst e1 e2 e3
  have hnl : news.length = xs.length := hnews.1.symm
  have hst := run_storeCells_fz κ.P (ι s) q ty2 fz news 0 arr w hmem (fun j hj => hf2 j (.inl hj)) (by omega) hone
  simp only [Nat.add_zero, List.append_assoc] at hst
  have hns : (arr.toList.take q ++ (news ++ arr.toList.drop (q + news.length))).toArray.size = arr.size := by
    simp only [List.size_toArray, List.length_append, List.length_take, List.length_drop, Array.length_toList]; omega
  have hnew := setRow_heap w (ι s) arr (arr.toList.take q ++ (news ++ arr.toList.drop (q + news.length))).toArray ty2 fz hmem
  generalize hA : (arr.toList.take q ++ (news ++ arr.toList.drop (q + news.length))).toArray = A at *
  refine ⟨A, hns, hnew, hst, To.turn (w' := w.setRow (ι s) A) h s hl ⟨g, .row ty2 sz false (splice cells q xs)⟩ rfl rfl rfl (by simp) (fun j hj => setRow_other w (ι s) j _ hj) (by simp [hT]) (fun p _ hp => by simp [hT, OK.fzAt] at hp) (fun ty' sz' fz' cs' e _ => ?_) ?_ (hsh := Shape.of hmem hnew hns)⟩
  · simp at e
    obtain ⟨rfl, rfl, rfl, rfl⟩ := e
    refine ⟨⟨ty2, _, cells, by rw [hT]⟩, fun arr1 ty1 fz1 h1 => ?_⟩
    rw [hmem] at h1
    injection h1 with h1; injection h1 with e1 e2 e3; subst e1
    exact ⟨_, _, _, hnew, hns⟩
  · intro T' ι' H
    refine ⟨_, fz, cap2, hnew, fun j hj => hf2 j (by rw [hns] at hj; exact hj), by rw [hns]; exact has2, h0, by rw [hns, length_splice hq]; exact hle2, ?_⟩
    have hAl : A.toList = arr.toList.take q ++ (news ++ arr.toList.drop (q + news.length)) := by rw [← hA]
    intro j d u hd hu
    have hu : A.toList[j]? = some u := hu
    rw [hAl] at hu
    exact splice_prefix (off := q) (by simpa using hle2) (fun j d u hd hu => (hc2 j d u hd hu).mono H) (hnews.mono fun d u hd => hd.mono H) hq j d u hd hu

/-! Elements put behind a window, over what stands there. -/
def aOverW (P : Program) (T : Tab) (t tx : Nat) (s x : V) : Option (V × Option (Nat × Ob)) :=
  match P.underlying t, P.underlying tx with
  | some (.slice e), some dx => match P.info? e with
    | some i => match aSrc T i.size x with
      | some (m, xs) => if isSrcD dx = true ∧ 0 < i.size ∧ xs.all V.cellOk = true then (match s with
        | .own s g off n => if (T.get s).gen = g then (match (T.get s).k with
          | .row ty sz false cs => if m = 0 then some (.own s g off n, none) else
              if sz = i.size ∧ (off + n + m) * sz ≤ cs.length then some (.own s g off (n + m), some (s, ⟨g, .row ty sz false (splice cs ((off + n) * sz) xs)⟩)) else none
          | _ => none) else none
        | _ => none) else none
      | none => none
    | none => none
  | _, _ => none
theorem aOverW_ok (h : RelI κ ι st a w) {t tx ty : Nat} {s x v : V} {cs cx : Value} {wr : Option (Nat × Ob)} (hs : Rv st.o ι (Stable κ.D st.o ι w) w s cs) (hr : Rv st.o ι (Stable κ.D st.o ι w) w x cx)
    (hx : aOverW κ.P st.o t tx s x = some (v, wr)) : SemOk κ ι st.o w (Builtin.append_ #[t, tx] ty #[cs, cx]) v wr := by
  unfold aOverW at hx
  split at hx
  case h_2 => cases hx
  rename_i e dx ht htx
  split at hx
  case h_2 => cases hx
  rename_i i hi
  split at hx
  case h_2 => cases hx
  rename_i m xs hsrc
  obtain ⟨hlen, hxl, news, hnews, hfirst⟩ := aSrc_ok h hr hsrc
  have hnl : news.length = m * i.size := by rw [← hnews.1]; exact hxl
  have hfirst' : ∀ w', w'.heap = w.heap → (Builtin.firstCells i.size m cx).run κ.P w' = .ok news.toArray w' := fun w' hw' => by
    rw [hfirst m w' (Nat.le_refl _) hw', ← hnl, List.take_length]
  split at hx
  case isFalse => cases hx
  rename_i hc
  obtain ⟨hdx, h0, hall⟩ := hc
  have gen := fun base n cap => run_append_gen (w := w) (P := κ.P) (ty := ty) ht hi htx hdx (base := base) (n := n) (cap := cap) hlen hfirst'
  split at hx
  case h_2 => cases hx
  rename_i s g off n
  split at hx
  case isFalse => cases hx
  rename_i hg
  split at hx
  case h_2 => cases hx
  rename_i ty1 sz cells hk
  have hT : st.o.get s = ⟨g, .row ty1 sz false cells⟩ := by cases hTs : st.o.get s; rw [hTs] at hk hg; simp at hk hg; subst hk hg; rfl
  have hsv := hs
  obtain ⟨ad, c, cap, arr, ty2, fz, rfl, hbk, hmem, has, hn, hcap, hpl⟩ := hs.own_ hT
  split at hx
  · rename_i hm
    simp only [Option.some.injEq, Prod.mk.injEq] at hx
    obtain ⟨rfl, rfl⟩ := hx
    subst hm
    have hnil : news = [] := List.eq_nil_of_length_eq_zero (by rw [hnl]; simp)
    subst hnil
    have hrun := (gen (some ad) n c).1 (by omega)
    simp [storeCells] at hrun
    exact SemOk.same h hrun hsv
  · rename_i hm
    split at hx
    case isFalse => cases hx
    rename_i hc
    obtain ⟨hsz, hle⟩ := hc
    simp only [Option.some.injEq, Prod.mk.injEq] at hx
    obtain ⟨rfl, rfl⟩ := hx
    subst hsz
    have hob := h.tr.ob s
    rw [hT] at hob
    obtain ⟨arr2, fz2, cap2, hh2, hf2, has2, _, hle2, hc2⟩ := hob
    rw [hmem] at hh2
    injection hh2 with hh2; injection hh2 with e1 e2 e3; subst e1 e2 e3
    have hfit : off + n + m ≤ cap := by
      have h1 : (off + n + m) * i.size ≤ cap * i.size := by rw [← has]; omega
      exact Nat.le_of_mul_le_mul_right h1 h0
    have hroom : n + m ≤ c := by omega
    have hrun := (gen (some ad) n c).1 hroom
    have hone : ∀ u ∈ news, u.oneCell' = true := by
      intro u hu
      obtain ⟨j, hj⟩ := List.mem_iff_getElem?.1 hu
      have hjl : j < xs.length := by rw [hnews.1]; exact (List.getElem?_eq_some_iff.1 hj).1
      exact cell_one (List.all_eq_true.1 hall _ (List.getElem_mem hjl)) (hnews.2 j _ u (List.getElem?_eq_getElem hjl) hj)
    have e1 : (off + n + m) * i.size = (off + n) * i.size + m * i.size := Nat.add_mul _ _ _
    have e2 : (off + n) * i.size = off * i.size + n * i.size := Nat.add_mul _ _ _
    obtain ⟨A, hA1, hA2, hA3, hA4⟩ := ownPut h hT hmem (q := (off + n) * i.size) hnews hone (by rw [hxl]; omega)
    have := hpl (by omega); subst this
    have hadd : (⟨ι s, off * i.size, none⟩ : Addr).add (n * i.size) = ⟨ι s, (off + n) * i.size, none⟩ := by
      unfold Addr.add
      split
      · rename_i e0; simp only [e2]; rw [show n * i.size = 0 from by simpa using e0]; rfl
      · simp only [e2]
    simp only [hadd, hA3, Result.andThen_ok] at hrun
    refine ⟨_, _, ι, hrun, hA4, ?_⟩
    refine .own ⟨_, _, rfl⟩ (by simp [wrT, Tab.get_put]) fun ty' sz' fz' cs' e => ?_
    simp [wrT, Tab.get_put] at e
    obtain ⟨rfl, rfl, rfl, rfl⟩ := e
    exact ⟨_, c, cap, A, ty2, fz, rfl, hbk, hA2, by rw [hA1]; exact has, by omega, hcap, hpl⟩

end
def conB : V → V
  | .bs b => .bool b
  | v => v
def symB : V → V
  | .bool b => .bs b
  | v => v
theorem Rv.conB {T : Tab} {ι : Nat → Nat} {S : Addr → Prop} {w : World} {v : V} {cv : Value} (h : Rv T ι S w v cv) : Rv T ι S w (Abs.conB v) cv := by
  unfold Abs.conB
  split
  · rw [h.bs_]; exact .pure (.bool _)
  · exact h
theorem Rv.symB {T : Tab} {ι : Nat → Nat} {S : Addr → Prop} {w : World} {v : V} {cv : Value} (h : Rv T ι S w v cv) : Rv T ι S w (Abs.symB v) cv := by
  unfold Abs.symB
  split
  · rw [h.bool_]; exact .pure (.bs (.bool _))
  · exact h
theorem SemOk.symB {κ : Cx} {ι : Nat → Nat} {T : Tab} {w : World} {s : Sem Value} {v : V} {wr : Option (Nat × Ob)} (h : SemOk κ ι T w s v wr) : SemOk κ ι T w s (Abs.symB v) wr := by
  obtain ⟨cv, w', ι', h1, h2, h3⟩ := h
  exact ⟨cv, w', ι', h1, h2, h3.symB⟩
/-- A list that is not nil, as a list. -/
def unNl : V → V
  | .nl L => .lst L
  | v => v
theorem Rv.unNl {T : Tab} {ι : Nat → Nat} {S : Addr → Prop} {w : World} {v : V} {cv : Value} (h : Rv T ι S w v cv) : Rv T ι S w (Abs.unNl v) cv := by
  unfold Abs.unNl
  split
  · exact h.nl_.1
  · exact h
/-- Which appends are those onto rows of Lean's own values. -/
def isSym : V → V → Bool
  | .acc _ _, _ => true
  | .sz, .lst _ => true
  | .snil, .lst _ => true
  | .sz, .acc _ _ => true
  | .snil, .acc _ _ => true
  | .sz, .nwin _ _ _ _ => true
  | .snil, .nwin _ _ _ _ => true
  | _, _ => false

/-! Elements of a list of Lean's own put behind a row that was written out: the row is one of Lean's own from then on. -/
def isOwn : V → V → Bool
  | .own _ _ 0 _, .lst _ => true
  | _, _ => false
def oPre (P : Program) (T : Tab) (t tx : Nat) (s x : V) : Option (Nat × Nat × Nat × Nat × TL × TL) :=
  match s, x with
  | .own q g 0 n, .lst L => match P.underlying t, P.underlying tx with
    | some (.slice et), some dx => match zeroC P et, P.info? et with
      | some _, some i => if isSrcD dx = true ∧ 0 < i.size ∧ 0 < i.bytes ∧ L.e.size = i.size ∧ (T.get q).gen = g then (match (T.get q).k with
        | .row ty sz false cs => if ty = et ∧ sz = i.size ∧ 0 < n ∧ cs.length = n * sz then (match impN (impC L.e) n cs with
          | some (l, []) => some (q, g, ty, i.bytes, ⟨L.e, l⟩, ⟨L.e, l ++ L.l⟩)
          | _ => none) else none
        | _ => none) else none
      | _, _ => none
    | _, _ => none
  | _, _ => none
def oAppend (P : Program) (T : Tab) (t tx : Nat) (s x : V) : Option (V × Option (Nat × Ob)) := match oPre P T t tx s x with
  | some (q, g, ty, by_, _, L) => if L.l.length * by_ ≤ 140737488355328 then some (.acc q (g + 2), some (q, ⟨g + 2, .nrow ty false false L⟩)) else none
  | none => none
theorem aput_aput {α : Type} (t : Nat) (v u : α) : ∀ l : List (Nat × α), aput t v (aput t u l) = aput t v l
  | [] => by simp [aput]
  | (k, x) :: r => by
    by_cases hk : k = t
    · simp [aput, hk]
    · simp [aput, hk, aput_aput t v u r]
section
variable {κ : Cx} {ι : Nat → Nat} {st : St} {a : Act} {w : World}
theorem oAppend_ok (h : RelI κ ι st a w) {t tx ty : Nat} {s x v : V} {cs cx : Value} {wr : Option (Nat × Ob)} (hs : Rv st.o ι (Stable κ.D st.o ι w) w s cs) (hr : Rv st.o ι (Stable κ.D st.o ι w) w x cx)
    (hx : oAppend κ.P st.o t tx s x = some (v, wr)) : SemOk κ ι st.o w (Builtin.append_ #[t, tx] ty #[cs, cx]) v wr := by
  unfold oAppend at hx
  split at hx
  case h_2 => cases hx
  rename_i q g ty1 by_ L1 L2 hp
  split at hx
  case isFalse => cases hx
  rename_i hb
  simp only [Option.some.injEq, Prod.mk.injEq] at hx
  obtain ⟨rfl, rfl⟩ := hx
  unfold oPre at hp
  split at hp
  case h_2 => cases hp
  rename_i q' g' n L
  split at hp
  case h_2 => cases hp
  rename_i et dx ht htx
  split at hp
  case h_2 => cases hp
  rename_i zs i hz hi
  split at hp
  case isFalse => cases hp
  rename_i hc
  obtain ⟨hdx, h0, hb0, hLi, hg⟩ := hc
  split at hp
  case h_2 => cases hp
  rename_i ty2 sz rc hk
  split at hp
  case isFalse => cases hp
  rename_i hc2
  obtain ⟨rfl, rfl, hn0, hcl⟩ := hc2
  split at hp
  case h_2 => cases hp
  rename_i l himp
  simp only [Option.some.injEq, Prod.mk.injEq] at hp
  obtain ⟨rfl, rfl, rfl, rfl, rfl, rfl⟩ := hp
  have hT : st.o.get q' = ⟨g', .row ty2 i.size false rc⟩ := by cases hTs : st.o.get q'; rw [hTs] at hk hg; simp at hk hg; subst hk hg; rfl
  have hl : st.o.live q' := by simp [Tab.live, hk, OK.live]
  have hown := hs.own_ hT
  have hsf := hs
  obtain ⟨ad, c, cap, arr, tb, fz, rfl, hbk, hmem, has, hn, hcap, hpl⟩ := hs.own_ hT
  have hob := h.tr.ob q'
  rw [hk] at hob
  obtain ⟨arr2, fz2, cap2, b1, b2, b3, b4, b5, b6⟩ := hob
  rw [hmem] at b1
  injection b1 with b1; injection b1 with q1 q2 q3; subst q1 q2 q3
  have hal : arr.toList.length = arr.size := Array.length_toList
  have hlr : LR (Rv st.o ι (Stable κ.D st.o ι w) w) rc (arr.toList.take rc.length) := by
    refine ⟨by rw [List.length_take, hal]; omega, fun j d u hd hu => ?_⟩
    rw [List.getElem?_take] at hu
    split at hu
    · exact b6 j d u hd hu
    · cases hu
  obtain ⟨hll, hlr2⟩ := impN_rv (impC_rv L.e) n rc [] l _ himp hlr
  rw [List.append_nil] at hlr2
  have hcl1 : (⟨L.e, l⟩ : TL).cells.length = l.length * L.e.size := TL.cells_length _
  have hcl2 : (⟨L.e, l⟩ : TL).cells.length = min rc.length arr.size := by rw [← hal, ← List.length_take]; exact hlr2.1
  have hto : To κ st.o ι w (st.o.put q' ⟨g' + 1, .nrow tb false false ⟨L.e, l⟩⟩) ι w := by
    refine To.turn h q' hl ⟨g' + 1, .nrow tb false false ⟨L.e, l⟩⟩ rfl rfl rfl rfl (fun _ _ => rfl) (by rw [hg]; exact Nat.le_succ _) (fun p _ hp => by simp [hk, OK.fzAt] at hp) (fun ty' sz' fz' cs' e => by cases e) (fun T' ι' H => ?_) (fun ty' fz' nl' L' e hge => by simp only at hge; omega) (hsh := .same rfl)
    refine .inr ⟨arr, fz, cap2, hmem, fun j hj => b2 j (by rw [← hLi]; exact hj), by rw [hLi]; exact b3, by rw [hLi]; exact h0, by rw [hcl2]; exact Nat.min_le_right _ _, fun j d u hd hu => ?_⟩
    have hj : j < rc.length := by have := (List.getElem?_eq_some_iff.1 hd).1; omega
    exact (hlr2.2 j d u hd (by rw [List.getElem?_take, if_pos hj]; exact hu)).mono H
  have h' := To.rel h hto
  have hT' : (st.o.put q' ⟨g' + 1, .nrow tb false false ⟨L.e, l⟩⟩).get q' = ⟨g' + 1, .nrow tb false false ⟨L.e, l⟩⟩ := by simp [Tab.get_put]
  have hacc : Rv (st.o.put q' ⟨g' + 1, .nrow tb false false ⟨L.e, l⟩⟩) ι (Stable κ.D (st.o.put q' ⟨g' + 1, .nrow tb false false ⟨L.e, l⟩⟩) ι w) w (.acc q' (g' + 1)) (.slice (some ad) n c) := by
    refine .acc ⟨_, _, _, rfl⟩ (by rw [hT']; exact Nat.le_refl _) fun ty' fz' nl' L' e => ?_
    rw [hT'] at e
    simp only [Ob.mk.injEq, OK.nrow.injEq, true_and] at e
    obtain ⟨rfl, rfl, rfl, rfl⟩ := e
    refine .inr ⟨by simp, ?_⟩
    simp only
    rw [hll, hLi]
    exact hown
  have hsA : sAppend κ.P (st.o.put q' ⟨g' + 1, .nrow tb false false ⟨L.e, l⟩⟩) t tx (.acc q' (g' + 1)) (.lst L) 0 = some (.acc q' (g' + 2), some (q', ⟨g' + 2, .nrow tb false false ⟨L.e, l ++ L.l⟩⟩)) := by
    unfold sAppend
    simp only [ht, htx, hz, hi]
    rw [if_pos ⟨hdx, h0, hb0⟩]
    simp only [hT', symSrc, dite_true, castL]
    rw [if_pos trivial, if_pos ⟨trivial, hLi⟩, if_pos (by simpa using hb)]
  obtain ⟨cv, w', ι', e1, e2, e3⟩ := sAppend_ok (ty := ty) h' hacc (hr.mono hto.goes) hsA
  have hput : wrT (st.o.put q' ⟨g' + 1, .nrow tb false false ⟨L.e, l⟩⟩) (some (q', ⟨g' + 2, .nrow tb false false ⟨L.e, l ++ L.l⟩⟩)) = wrT st.o (some (q', ⟨g' + 2, .nrow tb false false ⟨L.e, l ++ L.l⟩⟩)) := aput_aput _ _ _ _
  simp only at e2 e3
  rw [hput] at e2 e3
  exact ⟨cv, w', ι', e1, hto.trans e2, e3⟩
end

/-! Elements put behind a window that begins a row of Lean's own: over what stands there. -/
def isCut : V → Bool
  | .nwin _ _ 0 _ => true
  | _ => false
def cPre (P : Program) (T : Tab) (t tx : Nat) (s x : V) : Option (Nat × Nat × (Nat × Bool) × Nat × Nat × TL × TL) :=
  match s with
  | .nwin q g 0 n => match P.underlying t, P.underlying tx with
    | some (.slice et), some dx => match P.info? et with
      | some i => if isSrcD dx = true ∧ 0 < i.size ∧ (T.get q).gen = g then (match (T.get q).k with
        | .nrow ty false nl L => if L.e.size = i.size then (match symSrc T L.e x with
          | some l => some (q, g, (ty, nl), n, n + l.length, L, ⟨L.e, L.l.take n ++ (l ++ L.l.drop (n + l.length))⟩)
          | none => none) else none
        | _ => none) else none
      | none => none
    | _, _ => none
  | _ => none
def cAppend (P : Program) (T : Tab) (t tx : Nat) (s x : V) : Option (V × Option (Nat × Ob)) := match cPre P T t tx s x with
  | some (q, g, (ty, nl), _, m, L, L') => if m ≤ L.l.length then some (.nwin q (g + 1) 0 m, some (q, ⟨g + 1, .nrow ty false nl L'⟩)) else none
  | none => none
section
variable {κ : Cx} {ι : Nat → Nat} {st : St} {a : Act} {w : World}
theorem cAppend_ok (h : RelI κ ι st a w) {t tx ty : Nat} {s x v : V} {cs cx : Value} {wr : Option (Nat × Ob)} (hs : Rv st.o ι (Stable κ.D st.o ι w) w s cs) (hr : Rv st.o ι (Stable κ.D st.o ι w) w x cx)
    (hx : cAppend κ.P st.o t tx s x = some (v, wr)) : SemOk κ ι st.o w (Builtin.append_ #[t, tx] ty #[cs, cx]) v wr := by
  unfold cAppend at hx
  split at hx
  case h_2 => cases hx
  rename_i q g ty1 nl n1 m1 L1 L2 hp
  split at hx
  case isFalse => cases hx
  rename_i hm
  simp only [Option.some.injEq, Prod.mk.injEq] at hx
  obtain ⟨rfl, rfl⟩ := hx
  unfold cPre at hp
  split at hp
  case h_2 => cases hp
  rename_i q' g' n
  split at hp
  case h_2 => cases hp
  rename_i et dx ht htx
  split at hp
  case h_2 => cases hp
  rename_i i hi
  split at hp
  case isFalse => cases hp
  rename_i hc
  obtain ⟨hdx, h0, hg⟩ := hc
  split at hp
  case h_2 => cases hp
  rename_i ty2 nl2 L hk
  split at hp
  case isFalse => cases hp
  rename_i hLi
  split at hp
  case h_2 => cases hp
  rename_i l hl
  simp only [Option.some.injEq, Prod.mk.injEq] at hp
  obtain ⟨rfl, rfl, ⟨rfl, rfl⟩, rfl, rfl, rfl, rfl⟩ := hp
  have hT : st.o.get q' = ⟨g', .nrow ty2 false nl2 L⟩ := by cases hTs : st.o.get q'; rw [hTs] at hk hg; simp at hk hg; subst hk hg; rfl
  obtain ⟨hlen, news, hnews, hfirst⟩ := symSrc_ok h hr hl
  rw [hLi] at hfirst
  have hnl : news.length = l.length * i.size := by rw [← hnews.1, flat_length, hLi]
  have hfirst' : ∀ w', w'.heap = w.heap → (Builtin.firstCells i.size l.length cx).run κ.P w' = .ok news.toArray w' := fun w' hw' => by
    rw [hfirst _ w' (Nat.le_refl _) hw', ← hnl, List.take_length]
  have gen := fun base n cap => run_append_gen (w := w) (P := κ.P) (ty := ty) ht hi htx hdx (base := base) (n := n) (cap := cap) hlen hfirst'
  have hLl : (⟨L.e, L.l.take n ++ (l ++ L.l.drop (n + l.length))⟩ : TL).l.length = L.l.length := by simp only [List.length_append, List.length_take, List.length_drop]; omega
  obtain ⟨_, hv⟩ := hs.nwin_ hT
  rcases hv with ⟨rfl, hl0, p, rfl⟩ | ⟨hn, ad, c, cap, arr, tb, fz2, rfl, hbk, hmem, has, hon, hoc, hpl⟩
  · have e1 : L.l.length = 0 := by rw [hl0]; rfl
    have hm0 : l.length = 0 := by omega
    have hn00 : n = 0 := by omega
    subst hn00
    have hrun := (gen p 0 0).1 (by omega)
    have hn0 : news = [] := List.eq_nil_of_length_eq_zero (by rw [hnl, hm0]; simp)
    subst hn0
    rw [hm0] at hrun
    have hnil : L.l.take 0 ++ (l ++ L.l.drop (0 + l.length)) = [] := List.eq_nil_of_length_eq_zero (by simp only at hLl; rw [hLl]; exact e1)
    have hvv := To.virt h q' ty2 false ⟨L.e, L.l.take 0 ++ (l ++ L.l.drop (0 + l.length))⟩ hnil
    rw [hg] at hvv
    refine ⟨.slice p 0 0, w, ι, ?_, hvv, .nwin ⟨_, _, _, rfl⟩ (by simp [wrT, Tab.get_put]) fun ty' fz' nl' L' e => ?_⟩
    · cases p with
      | none => exact hrun
      | some ad => simpa [storeCells] using hrun
    · simp [wrT, Tab.get_put] at e
      obtain ⟨rfl, rfl, rfl, rfl⟩ := e
      exact ⟨by simp only at hLl ⊢; omega, .inl ⟨rfl, by simpa using hnil, p, rfl⟩⟩
  · have hlv : st.o.live q' := by simp only [Tab.live, hk, OK.live]; exact hn
    have hob := h.tr.ob q'
    rw [hk] at hob
    obtain ⟨arr2, fz3, cap2, hh2, hf2, has2, _, hle2, hc2⟩ := hob.resolve_left hn
    rw [hmem] at hh2
    injection hh2 with hh2; injection hh2 with q1 q2 q3; subst q1 q2 q3
    have hcl := L.cells_length
    have hcap : L.l.length ≤ cap := by
      have : L.l.length * i.size ≤ cap * i.size := by rw [← hLi, ← has, ← hcl]; exact hle2
      exact Nat.le_of_mul_le_mul_right this h0
    have hrun := (gen (some ad) n c).1 (by omega)
    have hone : ∀ u ∈ news, u.oneCell' = true := by
      intro u hu
      obtain ⟨j, hj⟩ := List.mem_iff_getElem?.1 hu
      have hjl : j < (l.flatMap (cellsV L.e)).length := by rw [hnews.1]; exact (List.getElem?_eq_some_iff.1 hj).1
      exact cell_one (flat_cellOk _ (List.getElem_mem hjl)) (hnews.2 j _ u (List.getElem?_eq_getElem hjl) hj)
    have hfit : n * i.size + l.length * i.size ≤ L.cells.length := by rw [hcl, hLi, ← Nat.add_mul]; exact Nat.mul_le_mul_right _ hm
    have hst := run_storeCells_fz κ.P (ι q') (n * i.size) tb fz2 news 0 arr w hmem (fun j hj => hf2 j (.inl hj)) (by omega) hone
    simp only [Nat.add_zero, List.append_assoc] at hst
    have hns : (arr.toList.take (n * i.size) ++ (news ++ arr.toList.drop (n * i.size + news.length))).toArray.size = arr.size := by
      simp only [List.size_toArray, List.length_append, List.length_take, List.length_drop, Array.length_toList]; omega
    have hnew := setRow_heap w (ι q') arr (arr.toList.take (n * i.size) ++ (news ++ arr.toList.drop (n * i.size + news.length))).toArray tb fz2 hmem
    have hstore : (storeCells (ad.add (n * i.size)) news).run κ.P w = .ok () (w.setRow (ι q') (arr.toList.take (n * i.size) ++ (news ++ arr.toList.drop (n * i.size + news.length))).toArray) := by
      by_cases hc0 : c = 0
      · have hm0 : l.length = 0 := by omega
        have : news = [] := List.eq_nil_of_length_eq_zero (by rw [hnl, hm0]; simp)
        subst this
        simp only [List.length_nil, Nat.add_zero, List.nil_append, List.take_append_drop, Array.toArray_toList]
        rw [setRow_self w (ι q') arr _ fz2 hmem]
        simp [storeCells]
      · have := hpl hc0; subst this
        have hadd : (⟨ι q', 0 * L.e.size, none⟩ : Addr).add (n * i.size) = ⟨ι q', n * i.size, none⟩ := by unfold Addr.add; split <;> simp_all
        rw [hadd]; exact hst
    simp only [hstore, Result.andThen_ok] at hrun
    generalize hA : (arr.toList.take (n * i.size) ++ (news ++ arr.toList.drop (n * i.size + news.length))).toArray = A at *
    have hAl : A.toList = arr.toList.take (n * i.size) ++ (news ++ arr.toList.drop (n * i.size + news.length)) := by rw [← hA]
    have hcat : (⟨L.e, L.l.take n ++ (l ++ L.l.drop (n + l.length))⟩ : TL).cells = splice L.cells (n * i.size) (l.flatMap (cellsV L.e)) := by
      unfold splice
      simp only [TL.cells, List.flatMap_append, flat_take, flat_drop, hLi, flat_length, Nat.add_mul]
    have hnn : ¬ (nl2 = true ∧ L.l.take n ++ (l ++ L.l.drop (n + l.length)) = []) := fun e => hn ⟨e.1, List.eq_nil_of_length_eq_zero (by rw [← hLl]; simp only; rw [e.2]; rfl)⟩
    have hxl : n * i.size + (l.flatMap (cellsV L.e)).length ≤ L.cells.length := by rw [flat_length, hLi]; exact hfit
    refine ⟨_, _, ι, hrun, To.turn h q' hlv ⟨g' + 1, .nrow tb false nl2 ⟨L.e, L.l.take n ++ (l ++ L.l.drop (n + l.length))⟩⟩ rfl rfl rfl (by simp) (fun j hj => setRow_other w (ι q') j _ hj) (by simp [hg]) (fun p hp hf => by rw [hk] at hf; simp [OK.fzAt] at hf) (fun _ _ _ _ e => by cases e) ?_ (fun _ _ _ _ _ e => by simp [hg] at e) (hsh := Shape.of hmem hnew hns), ?_⟩
    · intro T' ι' H
      refine .inr ⟨A, fz2, cap2, hnew, fun j hj => hf2 j (by rw [hns] at hj; exact hj), by rw [hns]; exact has2, by rw [hLi]; exact h0, by rw [hns, hcat, length_splice hxl]; exact hle2, ?_⟩
      rw [hcat]
      intro j d u hd hu
      have hu : A.toList[j]? = some u := hu
      rw [hAl] at hu
      exact splice_prefix (off := n * i.size) (by simpa using hle2) (fun j d u hd hu => (hc2 j d u hd hu).mono H) (hnews.mono fun d u hd => hd.mono H) hxl j d u hd hu
    · refine .nwin ⟨_, _, _, rfl⟩ (by simp [wrT, Tab.get_put]) fun ty' fz' nl' L' e => ?_
      simp [wrT, Tab.get_put] at e
      obtain ⟨rfl, rfl, rfl, rfl⟩ := e
      refine ⟨by rw [hLl]; omega, .inr ⟨hnn, ad, c, cap, A, tb, fz2, rfl, hbk, hnew, by rw [hns]; exact has, by omega, hoc, hpl⟩⟩
end

/-! Interface values of Lean's own. -/
def siOf : (t : Ty) → t.I → V
  | .alt t a r, x => match x with
    | .inl y => .ifc t (vOf a (cellsW a y))
    | .inr z => siOf r z
  | .alt1 t a, x => .ifc t (vOf a (cellsW a x))
  | .inil, _ => .inil
  | _, _ => .undef
theorem siOf_rv {T : Tab} {ι : Nat → Nat} {S : Addr → Prop} {w : World} : ∀ (t : Ty) (x : t.I) (u : Value), Rp S w ((cellsV t x).headD .pnil) u → Rv T ι S w (siOf t x) u
  | .alt t a r, .inl y, u, h => by
    have h' : Rp S w (.ifc t (vOf a (cellsV a y))) u := h
    cases h' with
    | ifc q => exact .pure (.ifc (vOf_rp (by rw [cellsV_length, cellsW_length]) (cellsW_pt a y) q))
  | .alt t a r, .inr z, u, h => siOf_rv r z u h
  | .alt1 t a, x, u, h => by
    have h' : Rp S w (.ifc t (vOf a (cellsV a x))) u := h
    cases h' with
    | ifc q => exact .pure (.ifc (vOf_rp (by rw [cellsV_length, cellsW_length]) (cellsW_pt a x) q))
  | .inil, x, u, h => .pure h
  | .int _, _, u, _ | .bool, _, u, _ | .str, _, u, _ | .list _, _, u, _ | .unit, _, u, _ | .pair _ _, _, u, _ | .agg _, _, u, _ => .undef u
def unS : V → V
  | .si X => siOf X.e X.x
  | v => v
theorem Rv.unS {T : Tab} {ι : Nat → Nat} {S : Addr → Prop} {w : World} {v : V} {cv : Value} (h : Rv T ι S w v cv) : Rv T ι S w (Abs.unS v) cv := by
  unfold Abs.unS
  split
  · exact siOf_rv _ _ _ h.si_
  · exact h

/-- A store through a pointer, or through one into a row. -/
def aStoreN (P : Program) (T : Tab) (t : Nat) (x v : V) : Option (Option (Nat × Ob)) := match x with
  | .eptr _ _ _ _ _ => nStore P T t x v
  | _ => aStore P T t x v
theorem aStoreN_ok {κ : Cx} {ι : Nat → Nat} {st : St} {a : Act} {w : World} (h : RelI κ ι st a w) {t : Nat} {x v : V} {cx cv : Value} {wr : Option (Nat × Ob)} (hrx : Rv st.o ι (Stable κ.D st.o ι w) w x cx)
    (hrv : Rv st.o ι (Stable κ.D st.o ι w) w v cv) (hx : aStoreN κ.P st.o t x v = some wr) : UnitOk κ ι st.o w (Instr.storeAt t cx cv) wr := by
  unfold aStoreN at hx
  split at hx
  · exact nStore_ok h hrx hrv hx
  · exact aStore_ok h hrx hrv hx
/-! A whole array cut out of its box, for good: nobody writes it any more. -/
def aArr (P : Program) (T : Tab) (t : Nat) (x : V) : Option (V × Option (Nat × Ob)) :=
  match P.underlying t with
  | some (.array n e) => match P.info? e with
    | some i => match x with
      | .ptr s g 0 => if (T.get s).gen = g ∧ 0 < n then (match (T.get s).k with
        | .box _ cs => if cs.length = n * i.size ∧ pureL cs = true then some (.sl n cs, some (s, ⟨g + 1, .dead⟩)) else none
        | _ => none) else none
      | _ => none
    | none => none
  | _ => none
theorem aArr_ok {κ : Cx} {ι : Nat → Nat} {st : St} {a : Act} {w : World} (h : RelI κ ι st a w) {t : Nat} {x v : V} {cx : Value} {wr : Option (Nat × Ob)} (hr : Rv st.o ι (Stable κ.D st.o ι w) w x cx) (hx : aArr κ.P st.o t x = some (v, wr)) :
    SemOk κ ι st.o w (Instr.sliceAt t cx none none none) v wr := by
  unfold aArr at hx
  split at hx
  case h_2 => cases hx
  rename_i n e ht
  split at hx
  case h_2 => cases hx
  rename_i i hi
  split at hx
  case h_2 => cases hx
  rename_i s g
  split at hx
  case isFalse => cases hx
  rename_i hc
  obtain ⟨hg, hn⟩ := hc
  split at hx
  case h_2 => cases hx
  rename_i ty cs hk
  split at hx
  case isFalse => cases hx
  rename_i hc2
  obtain ⟨hcl, hpure⟩ := hc2
  simp only [Option.some.injEq, Prod.mk.injEq] at hx
  obtain ⟨rfl, rfl⟩ := hx
  have hl : st.o.live s := by simp [Tab.live, hk, OK.live]
  have := hr.ptr_ hg hl; subst this
  have hob := h.tr.ob s
  rw [hk] at hob
  obtain ⟨arr, fz, hmem, hf, has, hcells⟩ := hob
  have hto : To κ st.o ι w (st.o.put s ⟨g + 1, .dead⟩) ι w := To.turn h s hl ⟨g + 1, .dead⟩ rfl rfl rfl rfl (fun _ _ => rfl) (by rw [hg]; exact Nat.le_succ _) (fun p _ hp => by simp [hk, OK.fzAt] at hp) (fun ty sz fz' cs' e => by cases e) (fun _ _ _ => trivial) (hsh := .same rfl)
  have hadd0 : (⟨ι s, 0, none⟩ : Addr).add (0 * i.size) = ⟨ι s, 0, none⟩ := by unfold Addr.add; split <;> simp_all
  refine ⟨.slice (some ⟨ι s, 0, none⟩) n n, w, ι, ?_, hto, .pure (.sl (vs := arr.toList) (Nat.le_refl _) (fun j u hj => ?_) (by rw [Array.length_toList]; exact has.symm) (fun j d u hd hu => ?_))⟩
  · have hnn : ¬ n = 0 := by omega
    simp [Instr.sliceAt, run_underlying ht, Instr.sureAddr, Instr.sliceBounds, run_size hi, hnn]
    unfold Addr.add; split <;> simp_all
  · have hadd : (⟨ι s, 0, none⟩ : Addr).add j = ⟨ι s, j, none⟩ := by unfold Addr.add; split <;> simp_all
    rw [hadd]
    refine ⟨⟨?_, h.tr.lt s hl, fun t' ht' he => ?_⟩, ?_⟩
    · rcases h.my s hl with h1 | h1
      · exact .inr (.inl h1)
      · exact .inr (.inr h1)
    · exfalso
      simp only [wrT, Tab.live, Tab.get_put] at ht'
      by_cases q : s = t'
      · rw [if_pos q] at ht'; exact ht'
      · rw [if_neg q] at ht'
        exact q (h.tr.inj t' s ht' hl he).symm
    · simp only [World.cell?, hmem]
      simpa using hj
  · have hpd : d.pure = true := pureL_get hpure j d hd
    exact ((hcells j d u hd hu).pure_ hpd).mono hto.goes.st
section
variable {κ : Cx} {ι : Nat → Nat} {st : St} {a : Act} {w : World}
/-- A new block that no object of the machine's own stands for. -/
theorem To.alloc (h : RelI κ ι st a w) (ob : Obj) : To κ st.o ι w st.o ι (w.alloc ob) := by
  have hsz : (w.alloc ob).heap.size = w.heap.size + 1 := by simp
  have hk : ∀ i, i < w.heap.size → (w.alloc ob).heap[i]? = w.heap[i]? := fun i hi => heap_alloc_old w ob i hi
  have H : Goes κ.D st.o ι w st.o ι (w.alloc ob) := ⟨fun p hp => ⟨⟨hp.1, by have := hp.2.1; omega, hp.2.2⟩, cell_congr (hk _ hp.2.1)⟩, fun _ => Nat.le_refl _, fun _ hl _ => ⟨hl, rfl⟩,
    fun t g ty sz fz' cs' hT _ => ⟨⟨ty, fz', cs', hT⟩, fun arr ty1 fz hh => ⟨arr, ty1, fz, (hk _ (h.tr.lt t (by simp [Tab.live, hT, OK.live]))).trans hh, rfl⟩⟩,
    fun t g ty fz nl L hT _ => ⟨⟨ty, fz, nl, L, hT, rfl, rfl, rfl⟩, fun hn arr ty1 fz1 hh => ⟨arr, ty1, fz1, (hk _ (h.tr.lt t (by simp only [Tab.live, hT, OK.live]; exact hn))).trans hh, rfl⟩⟩⟩
  refine ⟨H, ⟨fun t => ?_, h.tr.inj, fun t hl => by have := h.tr.lt t hl; omega⟩, h.my, h.kept.trans ⟨rfl, rfl, rfl, by omega, fun i hi _ => hk i hi, fun i hi => .same (hk i hi)⟩⟩
  by_cases hl : st.o.live t
  · exact (h.tr.ob t).mono H (hk _ (h.tr.lt t hl))
  · cases hkk : (st.o.get t).k with
    | dead => trivial
    | nrow ty fz nl L =>
      left
      by_cases hn : nl = true ∧ L.l = []
      · exact hn
      · exact absurd (by simp only [Tab.live, hkk, OK.live]; exact hn) hl
    | _ => exact absurd (by simp [Tab.live, hkk, OK.live]) hl
/-- A row written out, its parts known: a list. -/
def fillLst (P : Program) (t len : Nat) (ps : List (Nat × V)) (te : Ty) : Option V := match P.underlying t with
  | some (.slice e) => match zeroC P e with
    | some zs => if 0 < len ∧ 0 < zs.length ∧ len * zs.length ≤ 16777216 then (match aFill (fun j => some (j * zs.length, zs.length)) (repl zs len) ps with
      | some cs => if pureL cs = true then (match impC (.list te) [.sl len cs] with
        | some (l, []) => some (.lst ⟨te, l⟩)
        | _ => none) else none
      | none => none) else none
    | none => none
  | _ => none
theorem fillLst_ok (h : RelI κ ι st a w) {t len : Nat} {te : Ty} {ps : List (Nat × V)} {cps : Array (Nat × Value)} {v : V} (hl : ps.length = cps.toList.length)
    (hp : ∀ (j i : Nat) (v : V), ps[j]? = some (i, v) → ∃ u, cps.toList[j]? = some (i, u) ∧ Rv st.o ι (Stable κ.D st.o ι w) w v u) (hx : fillLst κ.P t len ps te = some v) :
    ∃ cv w', (Instr.buildSlice t len cps).run κ.P w = .ok cv w' ∧ To κ st.o ι w st.o ι w' ∧ Rv st.o ι (Stable κ.D st.o ι w') w' v cv := by
  unfold fillLst at hx
  split at hx
  case h_2 => cases hx
  rename_i e ht
  split at hx
  case h_2 => cases hx
  rename_i zs hz
  obtain ⟨z, i, hi, hzz, hsz, hrun, hlr⟩ := zeroC_ok hz
  have hzl : zs.length = i.size := by rw [← hsz]; simpa using (hlr (S := fun _ => False) (w := w)).1
  split at hx
  case isFalse => cases hx
  rename_i hc
  obtain ⟨hlen, h0, h24⟩ := hc
  cases hf : aFill (fun j => some (j * zs.length, zs.length)) (repl zs len) ps with
  | none => simp [hf] at hx
  | some cs =>
    simp only [hf] at hx
    split at hx
    case isFalse => cases hx
    rename_i hpu
    split at hx
    case h_2 => cases hx
    rename_i l himp
    injection hx with hx
    subst hx
    have hmade := (hlr (S := Stable κ.D st.o ι w) (w := w)).made (len * i.size) len (by rw [hsz])
    obtain ⟨arr, h1, h2⟩ := aFill_ok _ _ _ (repl zs len) cs (madeCells z.cells (len * i.size)) (hmade.mono fun _ _ => .pure) hl hp hf
    have hto := To.alloc h (.cells arr e)
    have hnew : (w.alloc (.cells arr e)).heap[w.heap.size]? = some (.cells arr e (0, 0)) := heap_alloc_new w (.cells arr e)
    have hcells : LR (Rp (Stable κ.D st.o ι (w.alloc (.cells arr e))) (w.alloc (.cells arr e))) cs arr.toList :=
      ⟨h2.1, fun j d u hd hu => ((h2.2 j d u hd hu).pure_ (pureL_get hpu j d hd)).mono hto.goes.st⟩
    have hsl : Rp (Stable κ.D st.o ι (w.alloc (.cells arr e))) (w.alloc (.cells arr e)) (.sl len cs) (.slice (some ⟨w.heap.size, 0, none⟩) len len) := by
      refine .sl (vs := arr.toList) (Nat.le_refl _) (fun j u hu => ?_) hcells.1 hcells.2
      have hadd : (⟨w.heap.size, 0, none⟩ : Addr).add j = ⟨w.heap.size, j, none⟩ := by unfold Addr.add; split <;> simp_all
      rw [hadd]
      refine ⟨⟨.inr (.inl h.kept.size), by simp, fun t ht e => ?_⟩, ?_⟩
      · have := h.tr.lt t ht
        simp only at e
        omega
      · simp only [World.cell?, hnew]
        simpa using hu
    have hv := impC_rv (T := st.o) (ι := ι) (.list te) [.sl len cs] [] l [_] himp (.cons (.pure hsl) .nil)
    simp only [List.append_nil, cellsV] at hv
    obtain ⟨u, vs', e1, hu, _⟩ := LR.head hv
    injection e1 with e1 _
    subst e1
    refine ⟨_, w.alloc (.cells arr e), ?_, hto, .pure (.lst (hu.pure_ (by simp [V.pure])))⟩
    simp only [Instr.buildSlice, Sem.run_bind, run_underlying ht, Result.andThen_ok, run_size hi]
    rw [hzl] at h24 h1
    rw [if_neg (by omega)]
    have hz0 : ¬ len * i.size = 0 := by
      have : 0 < len * i.size := Nat.mul_pos hlen (by omega)
      omega
    simp only [hz0, if_false]
    simp only [madeCells] at h1
    rw [Sem.run_bind, hrun, Result.andThen_ok, Sem.run_bind, Sem.run_pure, Result.andThen_ok, h1]
    simp [newRow]
/-- A row written out, where the order is drawn: of texts, or of one row of the machine's own, it is a list. -/
def aBuildN (P : Program) (T : Tab) (t len : Nat) (ps : List (Nat × V)) (d : Nat) : Option (V × Option (Nat × Ob)) := match ps with
  | [(j, .acc s g)] => if (T.get s).gen = g then (match (T.get s).k with
    | .nrow ty _ nl L => (fillLst P t len [(j, .lst L)] (.list L.e)).map fun v => (v, some (s, ⟨g, .nrow ty true nl L⟩))
    | _ => none) else none
  | (j, .str b) :: r => match fillLst P t len ((j, .str b) :: r) .str with
    | some v => some (v, none)
    | none => aBuildSlice P T t len ((j, .str b) :: r) d
  | ps => aBuildSlice P T t len ps d
theorem aBuildN_ok (h : RelI κ ι st a w) {t len d : Nat} {ps : Array (Nat × Operand)} {v : V} {wr : Option (Nat × Ob)} (hx : aBuildN κ.P st.o t len (st.parts ps.toList) d = some (v, wr)) :
    SemOk κ ι st.o w (Instr.buildSlice t len (ps.map fun (i, x) => (i, a.eval x))) v wr := by
  obtain ⟨hl, hp⟩ := parts_ok h ps
  unfold aBuildN at hx
  split at hx
  · rename_i j s g hps
    rw [hps] at hl hp
    split at hx
    case isFalse => cases hx
    rename_i hg
    split at hx
    case h_2 => cases hx
    rename_i ty fz nl L hk
    cases hf : fillLst κ.P t len [(j, .lst L)] (.list L.e) with
    | none => simp [hf] at hx
    | some v' =>
      simp only [hf, Option.map_some, Option.some.injEq, Prod.mk.injEq] at hx
      obtain ⟨rfl, rfl⟩ := hx
      have e : st.o.freeze s = wrT st.o (some (s, ⟨g, .nrow ty true nl L⟩)) := by
        simp only [Tab.freeze, wrT, hk, OK.freeze, hg]
      have hfz := To.freeze h s
      have hr := To.rel h hfz
      obtain ⟨u, hu1, hu2⟩ := hp 0 j (.acc s g) rfl
      have hget : (st.o.freeze s).get s = ⟨g, .nrow ty true nl L⟩ := by rw [Tab.get_freeze, if_pos rfl, hk, hg]; rfl
      have hu3 : Rp (Stable κ.D (st.o.freeze s) ι w) w (.lst L) u :=
        view_ok hr (T := st.o) 1 (.acc s g) (.lst L) [s] u (by simp [view, V.pure, hg, hk]) (fun s' hs' => by
          simp only [List.mem_singleton] at hs'
          subst hs'
          simp [Tab.get_freeze]) (hu2.mono hfz.goes)
      obtain ⟨cv, w', hrun, hto, hv⟩ := fillLst_ok hr (cps := ps.map fun (i, x) => (i, a.eval x)) (ps := [(j, .lst L)]) (by simpa using hl) (fun j' i' v1 hj' => by
        cases j' with
        | zero =>
          simp only [List.getElem?_cons_zero, Option.some.injEq, Prod.mk.injEq] at hj'
          obtain ⟨rfl, rfl⟩ := hj'
          exact ⟨u, hu1, .pure hu3⟩
        | succ q => simp at hj') hf
      refine ⟨cv, w', ι, hrun, ?_, ?_⟩
      · rw [← e]; exact hfz.trans hto
      · rw [← e]; exact hv
  · rename_i j b r hps
    split at hx
    · rename_i v' hf
      simp only [Option.some.injEq, Prod.mk.injEq] at hx
      obtain ⟨rfl, rfl⟩ := hx
      rw [← hps] at hf
      obtain ⟨cv, w', hrun, hto, hv⟩ := fillLst_ok h hl hp hf
      exact ⟨cv, w', ι, hrun, hto, hv⟩
    · rw [← hps] at hx
      exact aBuildSlice_ok h hx
  · exact aBuildSlice_ok h hx
end
/-- What an operation that is no call of a function comes to: its value, and the object that it turns. -/
def aop (P : Program) (st : St) (o : Oper) : Option (V × Option (Nat × Ob)) :=
  let one (r : Option V) : Option (V × Option (Nat × Ob)) := r.map fun v => (v, none)
  match o.op with
  | .move x | .assign x => some (st.eval x, none)
  | .pick c a b => match st.eval c with
    | .bool t => some (if t then st.eval a else st.eval b, none)
    | .bs t => some (if t then st.eval a else st.eval b, none)
    | _ => none
  | .alloc e => match o.dst with | some d => aAlloc P st.o e d | none => none
  | .box e x => match o.dst with | some d => aBox st.o e d (st.eval x) | none => none
  | .build t ps => one (aBuild P t (st.parts ps.toList))
  | .buildSlice t len ps => match o.dst with | some d => aBuildN P st.o t len (st.parts ps.toList) d | none => none
  | .load t x => aLoad P st.o t (st.eval x)
  | .store t x y => (aStoreN P st.o t (st.eval x) (st.eval y)).map fun wr => (.tup [], wr)
  | .nilCheck x => match st.eval x with
    | .ptr s g off => some (.ptr s g off, none)
    | .cref cs => some (.cref cs, none)
    | .fn f cs => some (.fn f cs, none)
    | .eref X off => some (.eref X off, none)
    | .eptr t g sz i off => some (.eptr t g sz i off, none)
    | _ => none
  | .binOp op t x y _ => one ((aBin P op t x y (conB (st.eval x)) (conB (st.eval y))).map symB)
  | .unOp op _ x => one ((aUn op (conB (st.eval x))).map symB)
  | .convert src dst x => match o.dst with | some d => aConvert P st.o src dst (st.eval x) d | none => none
  | .makeInterface t x => one (aMakeIface P t (st.eval x))
  | .makeFunc (.func f) first caps => if first.size = 0 then some (.fn f (caps.toList.map st.eval), none) else none
  | .makeSlice t l c => match o.dst with | some d => aMake P st.o t (st.eval l) (st.eval c) d | none => none
  | .slice t x lo hi mx => match mx with
    | none => match (if (lo.isNone && hi.isNone) = true then aArr P st.o t (st.eval x) else none) with
      | some r => some r
      | none => one (aSlice P st.o t (st.eval x) (lo.map st.eval) (hi.map st.eval))
    | some _ => none
  | .fieldAddr s x f => one (aField P s (st.eval x) f)
  | .field t x f => one (aFieldV P t (st.eval x) f)
  | .indexAddr t x ix => one (aIndexAddr P st.o t (st.eval x) (st.eval ix))
  | .index t x ix => one (aIndex P t (st.eval x) (st.eval ix))
  | .range t x => match o.dst with | some d => aRange P st.o t (st.eval x) d | none => none
  | .next it isS => aNext st.o (st.eval it) isS
  | .typeAssert x _ asserted ok => match aAssert P asserted ok (st.eval x) with
    | some v => some (v, none)
    | none => one (aAssert P asserted ok (unS (st.eval x)))
  | .extract x i => one (aExtract (st.eval x) i)
  | .call c => match c.callee with
    | .builtin b => match b, c.args.toList, c.argTypes.toList with
      | .len, [x], [t] => one (aLen P st.o t (st.eval x))
      | .append, [s, x], [t, tx] => match o.dst with | some d => if isSym (st.eval s) (unNl (st.eval x)) = true then sAppend P st.o t tx (st.eval s) (unNl (st.eval x)) d else if isOwn (st.eval s) (unNl (st.eval x)) = true then oAppend P st.o t tx (st.eval s) (unNl (st.eval x)) else if isCut (st.eval s) = true then cAppend P st.o t tx (st.eval s) (unNl (st.eval x)) else (match aAppend P st.o t tx (st.eval s) (unNl (st.eval x)) d with | some r => some r | none => aOverW P st.o t tx (st.eval s) (unNl (st.eval x))) | none => none
      | .copy, [s, x], t :: _ => aCopy P st.o t (st.eval s) (st.eval x)
      | .max, xs, _ => one (aMM true (xs.map st.eval))
      | .min, xs, _ => one (aMM false (xs.map st.eval))
      | _, _, _ => none
    | _ => none
  | _ => none

section
variable {κ : Cx} {ι : Nat → Nat} {st : St} {a : Act} {w : World}

theorem aCopy_ok (h : RelI κ ι st a w) {t ty : Nat} {s x v : V} {cs cx : Value} {ts : Array TypeId} {wr : Option (Nat × Ob)} (hts : ts[0]? = some t) (hs : Rv st.o ι (Stable κ.D st.o ι w) w s cs) (hr : Rv st.o ι (Stable κ.D st.o ι w) w x cx)
    (hx : aCopy κ.P st.o t s x = some (v, wr)) : SemOk κ ι st.o w (Builtin.copy_ ts ty #[cs, cx]) v wr := by
  unfold aCopy at hx
  split at hx
  · rename_i e ht
    split at hx
    · rename_i i hi
      split at hx
      · rename_i m xs s g off n hsrc
        obtain ⟨hlen, hxl, news, hnews, hfirst⟩ := aSrc_ok h hr hsrc
        split at hx
        · rename_i hc
          obtain ⟨hg, hall⟩ := hc
          split at hx
          · rename_i ty1 sz cells hk
            split at hx
            · rename_i hc2
              obtain ⟨hsz, hle⟩ := hc2
              simp at hx
              obtain ⟨rfl, rfl⟩ := hx
              subst hsz
              have hT : st.o.get s = ⟨g, .row ty1 i.size false cells⟩ := by cases hTs : st.o.get s; rw [hTs] at hk hg; simp at hk hg; subst hk hg; rfl
              have hl : st.o.live s := by simp [Tab.live, hk, OK.live]
              obtain ⟨ad, c, cap, arr, ty2, fz, rfl, hbk, hmem, has, hn, hcap, hpl⟩ := hs.own_ hT
              have hob := h.tr.ob s
              rw [hk] at hob
              obtain ⟨arr2, fz2, cap2, hh2, hf2, has2, h0, hle2, hc2⟩ := hob
              rw [hmem] at hh2
              injection hh2 with hh2; injection hh2 with e1 e2 e3; subst e1 e2 e3
              have hmin : min m n * i.size ≤ m * i.size := Nat.mul_le_mul_right _ (Nat.min_le_left _ _)
              have hmin2 : min m n * i.size ≤ n * i.size := Nat.mul_le_mul_right _ (Nat.min_le_right _ _)
              have hmul : (off + n) * i.size = off * i.size + n * i.size := Nat.add_mul _ _ _
              have hf := hfirst (min m n) w (Nat.min_le_left _ _) rfl
              have hnl : (news.take (min m n * i.size)).length = min m n * i.size := by rw [List.length_take, ← hnews.1]; omega
              have hone : ∀ u ∈ news.take (min m n * i.size), u.oneCell' = true := by
                intro u hu
                obtain ⟨j, hj⟩ := List.mem_iff_getElem?.1 (List.mem_of_mem_take hu)
                have hjl : j < xs.length := by rw [hnews.1]; exact (List.getElem?_eq_some_iff.1 hj).1
                exact cell_one (List.all_eq_true.1 hall _ (List.getElem_mem hjl)) (hnews.2 j _ u (List.getElem?_eq_getElem hjl) hj)
              have hstore : (storeCells ad (news.take (min m n * i.size))).run κ.P w = .ok () (w.setRow (ι s) (arr.toList.take (off * i.size) ++ (news.take (min m n * i.size) ++ arr.toList.drop (off * i.size + (news.take (min m n * i.size)).length))).toArray) := by
                by_cases hc0 : c = 0
                · have hn0 : n = 0 := by omega
                  have : news.take (min m n * i.size) = [] := by rw [hn0]; simp
                  rw [this]
                  simp only [storeCells, List.length_nil, Nat.add_zero, List.nil_append, List.take_append_drop, Array.toArray_toList]
                  rw [setRow_self w (ι s) arr _ fz hmem]
                  rfl
                · have := hpl hc0; subst this
                  have hst := run_storeCells_fz κ.P (ι s) (off * i.size) ty2 fz (news.take (min m n * i.size)) 0 arr w hmem (fun j hj => hf2 j (.inl hj)) (by omega) hone
                  simp only [Nat.add_zero, List.append_assoc] at hst
                  exact hst
              have hns : (arr.toList.take (off * i.size) ++ (news.take (min m n * i.size) ++ arr.toList.drop (off * i.size + (news.take (min m n * i.size)).length))).toArray.size = arr.size := by
                simp only [List.size_toArray, List.length_append, hnl, List.length_take, List.length_drop, Array.length_toList]; omega
              have hnew := setRow_heap w (ι s) arr (arr.toList.take (off * i.size) ++ (news.take (min m n * i.size) ++ arr.toList.drop (off * i.size + (news.take (min m n * i.size)).length))).toArray ty2 fz hmem
              have hxt : (xs.take (min m n * i.size)).length = min m n * i.size := by rw [List.length_take, hxl]; omega
              generalize hA : (arr.toList.take (off * i.size) ++ (news.take (min m n * i.size) ++ arr.toList.drop (off * i.size + (news.take (min m n * i.size)).length))).toArray = A at *
              refine ⟨.int .i64 (min m n : Nat), w.setRow (ι s) A, ι, ?_, To.turn (w' := w.setRow (ι s) A) h s hl ⟨g, .row ty2 i.size false (splice cells (off * i.size) (xs.take (min m n * i.size)))⟩ rfl rfl rfl (by simp) (fun j hj => setRow_other w (ι s) j _ hj) (by simp [hg]) (fun p _ hp => by simp [hk, OK.fzAt] at hp) (fun ty' sz' fz' cs' e _ => ?_) ?_ (hsh := Shape.of hmem hnew hns), ?_⟩
              · simp only [Builtin.copy_, hts]
                have hmn : Nat.min m n = min m n := rfl
                simp [run_underlying ht, hlen, run_size hi, hmn, hf, hstore, goInt]
              · simp at e
                obtain ⟨rfl, rfl, rfl, rfl⟩ := e
                refine ⟨⟨ty2, _, cells, hk⟩, fun arr1 ty1 fz1 h1 => ?_⟩
                rw [hmem] at h1
                injection h1 with h1; injection h1 with e1 e2 e3; subst e1
                exact ⟨_, _, _, hnew, hns⟩
              · intro T' ι' H
                refine ⟨_, fz, cap, hnew, fun j hj => hf2 j (by rw [hns] at hj; exact hj), by rw [hns]; exact has, h0, by rw [hns, length_splice (by rw [hxt]; omega)]; exact hle2, ?_⟩
                have hAl : A.toList = arr.toList.take (off * i.size) ++ (news.take (min m n * i.size) ++ arr.toList.drop (off * i.size + (news.take (min m n * i.size)).length)) := by rw [← hA]
                intro j d u hd hu
                rw [hAl] at hu
                exact splice_prefix (off := off * i.size) (by simpa using hle2) (fun j d u hd hu => (hc2 j d u hd hu).mono H) ((hnews.mono fun d u hd => hd.mono H).take _) (by rw [hxt]; omega) j d u hd hu
              · exact .pure (.int _ _)
            · cases hx
          · cases hx
        · cases hx
      · rename_i m xs hsrc
        simp at hx
        obtain ⟨rfl, rfl⟩ := hx
        obtain ⟨hlen, hxl, news, hnews, hfirst⟩ := aSrc_ok h hr hsrc
        have := hs.snil_; subst this
        refine SemOk.same h (cv := .int .i64 0) ?_ (.pure (.int _ _))
        have hf := hfirst 0 w (Nat.zero_le _) rfl
        simp only [Builtin.copy_, hts]
        simp [run_underlying ht, hlen, run_size hi, hf, goInt]
      · cases hx
    · cases hx
  · cases hx

theorem execOp_v {o : Oper} {s : Sem Value} (he : execOp a.eval o = (do pure (Next.value (← s)))) {P : Program} {cv : Value} {w' : World} (hr : s.run P w = .ok cv w') :
    (execOp a.eval o).run P w = .ok (.value cv) w' := by rw [he]; simp [hr]

/-- What an operation's reckoning comes to: a value, or nothing that is looked at. -/
def OpRes (κ : Cx) (ι : Nat → Nat) (T : Tab) (a : Act) (w : World) (o : Oper) (v : V) (T' : Tab) : Prop :=
  ∃ cv w' ι', ((execOp a.eval o).run κ.P w = .ok (.value cv) w' ∨ ((execOp a.eval o).run κ.P w = .ok .skip w' ∧ cv = undef)) ∧ To κ T ι w T' ι' w' ∧ Rv T' ι' (Stable κ.D T' ι' w') w' v cv

theorem OpRes.of {o : Oper} {s : Sem Value} {v : V} {wr : Option (Nat × Ob)} (he : execOp a.eval o = (do pure (Next.value (← s)))) (h : SemOk κ ι st.o w s v wr) : OpRes κ ι st.o a w o v (wrT st.o wr) := by
  obtain ⟨cv, w', ι', hr, ht, hv⟩ := h
  exact ⟨cv, w', ι', .inl (execOp_v he hr), ht, hv⟩

theorem one_eq {r : Option V} {v : V} {wr : Option (Nat × Ob)} (h : (r.map fun v => (v, (none : Option (Nat × Ob)))) = some (v, wr)) : r = some v ∧ wr = none := by
  cases r with
  | none => cases h
  | some x => simp at h; exact ⟨by rw [h.1], h.2.symm⟩
theorem store_eq {r : Option (Option (Nat × Ob))} {v : V} {wr : Option (Nat × Ob)} (h : (r.map fun wr => (V.tup [], wr)) = some (v, wr)) : v = .tup [] ∧ r = some wr := by
  cases r with
  | none => cases h
  | some x => simp at h; exact ⟨h.1.symm, by rw [h.2]⟩

theorem aop_ok (h : RelI κ ι st a w) {o : Oper} {v : V} {wr : Option (Nat × Ob)} (hx : aop κ.P st o = some (v, wr)) : OpRes κ ι st.o a w o v (wrT st.o wr) := by
  obtain ⟨dst, op, type, pos, after, guard⟩ := o
  unfold aop at hx
  cases op <;> simp only at hx
  case move x =>
    simp at hx; obtain ⟨rfl, rfl⟩ := hx
    exact ⟨a.eval x, w, ι, .inl rfl, To.refl h, h.eval x⟩
  case assign x =>
    simp at hx; obtain ⟨rfl, rfl⟩ := hx
    exact ⟨a.eval x, w, ι, .inl rfl, To.refl h, h.eval x⟩
  case pick c x y =>
    split at hx
    · rename_i t hc
      simp at hx; obtain ⟨rfl, rfl⟩ := hx
      have hcv := h.eval c
      rw [hc] at hcv
      have := hcv.bool_
      refine ⟨if t then a.eval x else a.eval y, w, ι, .inl ?_, To.refl h, ?_⟩
      · simp [execOp, this, asBool]
      · cases t
        · exact h.eval y
        · exact h.eval x
    · rename_i t hc
      simp at hx; obtain ⟨rfl, rfl⟩ := hx
      have hcv := h.eval c
      rw [hc] at hcv
      have := hcv.bs_
      refine ⟨if t then a.eval x else a.eval y, w, ι, .inl ?_, To.refl h, ?_⟩
      · simp [execOp, this, asBool]
      · cases t
        · exact h.eval y
        · exact h.eval x
    · cases hx
  case alloc e =>
    split at hx
    · exact OpRes.of rfl (aAlloc_ok h hx)
    · cases hx
  case box e x =>
    split at hx
    · exact OpRes.of rfl (aBox_ok h (h.eval x) hx)
    · cases hx
  case build t ps =>
    have hq := one_eq hx; clear hx; obtain ⟨hx, rfl⟩ := hq
    exact OpRes.of rfl (aBuild_ok h hx)
  case buildSlice t len ps =>
    split at hx
    · exact OpRes.of rfl (aBuildN_ok h hx)
    · cases hx
  case load t x => exact OpRes.of rfl (aLoad_ok h (h.eval x) hx)
  case store t x y =>
    have hq := store_eq hx; clear hx; obtain ⟨e1, hx⟩ := hq
    subst e1
    obtain ⟨w', ι', hr, ht⟩ := aStoreN_ok h (h.eval x) (h.eval y) hx
    refine ⟨undef, w', ι', .inr ⟨?_, rfl⟩, ht, .pure (.tup (vs := []) rfl (by simp))⟩
    simp [execOp, hr]
  case nilCheck x =>
    have hxx := h.eval x
    split at hx
    · rename_i s g off he
      rw [he] at hxx
      simp at hx; obtain ⟨rfl, rfl⟩ := hx
      have : ∃ ad, a.eval x = .pointer (some ad) := by
        cases hxx with
        | pure h => cases h
        | ptr hv _ _ => exact hv
      obtain ⟨ad, e⟩ := this
      exact ⟨a.eval x, w, ι, .inl (by simp [execOp, e]), To.refl h, hxx⟩
    · rename_i cs he
      rw [he] at hxx
      simp at hx; obtain ⟨rfl, rfl⟩ := hx
      obtain ⟨ad, _, e, _⟩ := hxx.cref_
      exact ⟨a.eval x, w, ι, .inl (by simp [execOp, e]), To.refl h, hxx⟩
    · rename_i f cs he
      rw [he] at hxx
      simp at hx; obtain ⟨rfl, rfl⟩ := hx
      obtain ⟨us, e, _⟩ := hxx.fn_
      exact ⟨a.eval x, w, ι, .inl (by simp [execOp, e]), To.refl h, hxx⟩
    · rename_i X off he
      rw [he] at hxx
      simp at hx; obtain ⟨rfl, rfl⟩ := hx
      obtain ⟨ad, e⟩ := hxx.eref_.cref_form
      exact ⟨a.eval x, w, ι, .inl (by simp [execOp, e]), To.refl h, hxx⟩
    · rename_i t g sz i off he
      rw [he] at hxx
      simp at hx; obtain ⟨rfl, rfl⟩ := hx
      obtain ⟨ad, e⟩ := hxx.eptr_form
      exact ⟨a.eval x, w, ι, .inl (by simp [execOp, e]), To.refl h, hxx⟩
    · cases hx
  case binOp op t x y yt =>
    have hq := one_eq hx; clear hx; obtain ⟨hx, rfl⟩ := hq
    cases hb : aBin κ.P op t x y (conB (st.eval x)) (conB (st.eval y)) with
    | none => simp [hb] at hx
    | some u =>
      simp [hb] at hx; subst hx
      exact OpRes.of rfl (aBin_ok h (h.eval x).conB (h.eval y).conB hb).symB
  case unOp op t x =>
    have hq := one_eq hx; clear hx; obtain ⟨hx, rfl⟩ := hq
    cases hb : aUn op (conB (st.eval x)) with
    | none => simp [hb] at hx
    | some u =>
      simp [hb] at hx; subst hx
      exact OpRes.of rfl (aUn_ok h (h.eval x).conB hb).symB
  case convert src dst x =>
    split at hx
    · exact OpRes.of rfl (aConvert_ok h (h.eval x) hx)
    · cases hx
  case makeInterface t x =>
    have hq := one_eq hx; clear hx; obtain ⟨hx, rfl⟩ := hq
    exact OpRes.of rfl (aMakeIface_ok h (h.eval x) hx)
  case makeFunc fn first caps =>
    cases fn with
    | func f =>
      simp only at hx
      split at hx
      · rename_i hf
        simp at hx; obtain ⟨rfl, rfl⟩ := hx
        have e0 : first = #[] := Array.eq_empty_of_size_eq_zero hf
        subst e0
        refine ⟨.func (.func f) #[] ⟨caps.toList.map a.eval⟩, w, ι, .inl ?_, To.refl h, ?_⟩
        · simp [execOp, Instr.makeFunc]
          exact Array.ext' (by simp)
        · have := LR.map st.eval a.eval caps.toList (R := Rv st.o ι (Stable κ.D st.o ι w) w) fun x _ => h.eval x
          exact .fn this.1 this.2
      · cases hx
    | _ => simp at hx
  case makeSlice t l c =>
    split at hx
    · exact OpRes.of rfl (aMake_ok h (h.eval l) (h.eval c) hx)
    · cases hx
  case slice t x lo hi mx =>
    cases mx with
    | some m => simp at hx
    | none =>
     simp only at hx
     cases hr : (if (lo.isNone && hi.isNone) = true then aArr κ.P st.o t (st.eval x) else none) with
     | some r =>
       rw [hr] at hx
       injection hx with hx; subst hx
       split at hr
       · rename_i hn
         simp only [Bool.and_eq_true, Option.isNone_iff_eq_none] at hn
         obtain ⟨rfl, rfl⟩ := hn
         exact OpRes.of rfl (aArr_ok h (h.eval x) hr)
       · cases hr
     | none =>
       rw [hr] at hx
       have hq := one_eq hx; clear hx; obtain ⟨hx, rfl⟩ := hq
       have ro : ∀ o : Option Operand, RO st.o ι (Stable κ.D st.o ι w) w (o.map st.eval) (o.map a.eval) := fun o => by
         cases o with
         | none => trivial
         | some y => exact h.eval y
       exact OpRes.of rfl (aSlice_ok h (h.eval x) (ro lo) (ro hi) hx)
  case fieldAddr s x f =>
    have hq := one_eq hx; clear hx; obtain ⟨hx, rfl⟩ := hq
    exact OpRes.of rfl (aField_ok h (h.eval x) hx)
  case field t x f =>
    have hq := one_eq hx; clear hx; obtain ⟨hx, rfl⟩ := hq
    exact OpRes.of rfl (aFieldV_ok h (h.eval x) hx)
  case indexAddr t x ix =>
    have hq := one_eq hx; clear hx; obtain ⟨hx, rfl⟩ := hq
    exact OpRes.of rfl (aIndexAddr_ok h (h.eval x) (h.eval ix) hx)
  case index t x ix =>
    have hq := one_eq hx; clear hx; obtain ⟨hx, rfl⟩ := hq
    exact OpRes.of rfl (aIndex_ok h (h.eval x) (h.eval ix) hx)
  case range t x =>
    split at hx
    · exact OpRes.of rfl (aRange_ok h (h.eval x) hx)
    · cases hx
  case next it isS => exact OpRes.of rfl (aNext_ok h (h.eval it) hx)
  case typeAssert x xt asserted ok =>
    split at hx
    · rename_i v1 hv1
      injection hx with hx
      simp only [Prod.mk.injEq] at hx
      obtain ⟨rfl, rfl⟩ := hx
      exact OpRes.of rfl (aAssert_ok h (h.eval x) hv1)
    · have hq := one_eq hx; clear hx; obtain ⟨hx, rfl⟩ := hq
      exact OpRes.of rfl (aAssert_ok h (h.eval x).unS hx)
  case extract x i =>
    have hq := one_eq hx; clear hx; obtain ⟨hx, rfl⟩ := hq
    exact OpRes.of rfl (aExtract_ok h (h.eval x) hx)
  case call c =>
    obtain ⟨callee, args, ats⟩ := c
    cases callee with
    | builtin b =>
      simp only at hx
      split at hx
      · rename_i x t ea et
        obtain ⟨l1⟩ := args; obtain ⟨l2⟩ := ats
        simp at ea et; subst ea et
        have hq := one_eq hx; clear hx; obtain ⟨hx, rfl⟩ := hq
        refine OpRes.of (s := Builtin.len_ #[t] type #[a.eval x]) ?_ (aLen_ok h rfl (h.eval x) hx)
        simp [execOp, resolve, invoke, builtin]
      · rename_i s x t tx ea et
        obtain ⟨l1⟩ := args; obtain ⟨l2⟩ := ats
        simp at ea et; subst ea et
        split at hx
        · have hx' : SemOk κ ι st.o w (Builtin.append_ #[t, tx] type #[a.eval s, a.eval x]) v wr := by
            split at hx
            · exact sAppend_ok h (h.eval s) (h.eval x).unNl hx
            · split at hx
              · exact oAppend_ok h (h.eval s) (h.eval x).unNl hx
              · split at hx
                · exact cAppend_ok h (h.eval s) (h.eval x).unNl hx
                · split at hx
                  · rename_i r hr
                    injection hx with hx; subst hx
                    exact aAppend_ok h (h.eval s) (h.eval x).unNl hr
                  · exact aOverW_ok h (h.eval s) (h.eval x).unNl hx
          refine OpRes.of (s := Builtin.append_ #[t, tx] type #[a.eval s, a.eval x]) ?_ hx'
          simp [execOp, resolve, invoke, builtin]
        · cases hx
      · rename_i s x t r ea et
        obtain ⟨l1⟩ := args; obtain ⟨l2⟩ := ats
        simp at ea et; subst ea et
        refine OpRes.of (s := Builtin.copy_ ⟨t :: r⟩ type #[a.eval s, a.eval x]) ?_ (aCopy_ok h rfl (h.eval s) (h.eval x) hx)
        simp [execOp, resolve, invoke, builtin]
      · have hq := one_eq hx; clear hx; obtain ⟨hx, rfl⟩ := hq
        have hl := LR.map st.eval a.eval args.toList (R := Rv st.o ι (Stable κ.D st.o ι w) w) fun x _ => h.eval x
        have := aMM_ok h (ts := ats) (ty := type) (us := ⟨args.toList.map a.eval⟩) hl hx
        refine OpRes.of (s := Builtin.max_ ats type ⟨args.toList.map a.eval⟩) ?_ (by simpa using this)
        have e : args.map a.eval = ⟨args.toList.map a.eval⟩ := by apply Array.ext'; simp
        simp [execOp, resolve, invoke, builtin, e]
      · have hq := one_eq hx; clear hx; obtain ⟨hx, rfl⟩ := hq
        have hl := LR.map st.eval a.eval args.toList (R := Rv st.o ι (Stable κ.D st.o ι w) w) fun x _ => h.eval x
        have := aMM_ok h (ts := ats) (ty := type) (us := ⟨args.toList.map a.eval⟩) hl hx
        refine OpRes.of (s := Builtin.min_ ats type ⟨args.toList.map a.eval⟩) ?_ (by simpa using this)
        have e : args.map a.eval = ⟨args.toList.map a.eval⟩ := by apply Array.ext'; simp
        simp [execOp, resolve, invoke, builtin, e]
      · cases hx
    | _ => simp at hx
  all_goals cases hx

end
end Go.Abs
