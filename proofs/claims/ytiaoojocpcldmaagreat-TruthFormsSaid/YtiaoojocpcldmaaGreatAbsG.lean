/- append and copy. -/
import Derived.Test.YtiaoojocpcldmaaGreatAbsF
import Derived.Laws.AppendOwn
namespace Go.Abs
open Go.RowKit
set_option linter.unusedVariables false
set_option linter.unusedSimpArgs false

def isSrcD : TypeDesc → Bool
  | .slice _ | .string => true
  | _ => false
theorem isSrcD_or {d : TypeDesc} (h : isSrcD d = true) : (∃ e, d = .slice e) ∨ d = .string := by
  cases d <;> simp_all [isSrcD]

section
variable {κ : Cx} {ι : Nat → Nat} {st : St} {a : Act} {w : World}

/-- What is appended or copied: how many elements, their cells. -/
def aSrc (T : Tab) (size : Nat) (x : V) : Option (Nat × List V) :=
  match x with
  | .snil => some (0, [])
  | .sz => some (0, [])
  | .lst L => if L.e.size = size then some (L.l.length, L.cells) else none
  | .acc s g => if (T.get s).gen = g then (match (T.get s).k with
    | .nrow _ _ _ L => if L.e.size = size then some (L.l.length, L.cells) else none
    | _ => none) else none
  | .sl n cs => if cs.length = n * size then some (n, cs) else none
  | .own s g off n => if (T.get s).gen = g then (match (T.get s).k with
    | .row _ sz _ cs => if sz = size ∧ (off + n) * sz ≤ cs.length then some (n, (cs.take ((off + n) * sz)).drop (off * sz)) else none
    | _ => none) else none
  | .nwin s g off n => if (T.get s).gen = g then (match (T.get s).k with
    | .nrow _ _ _ L => if L.e.size = size then some (((L.l.take (off + n)).drop off).length, (⟨L.e, (L.l.take (off + n)).drop off⟩ : TL).cells) else none
    | _ => none) else none
  | .str s => if size = 1 then some (s.length, s.map fun b => .int .u8 b.toNat) else none
  | _ => none

theorem aSrc_ok (h : RelI κ ι st a w) {size m : Nat} {x : V} {cx : Value} {xs : List V} (hr : Rv st.o ι (Stable κ.D st.o ι w) w x cx) (hx : aSrc st.o size x = some (m, xs)) :
    (∀ w', (Builtin.lenOf cx).run κ.P w' = .ok m w') ∧ xs.length = m * size ∧
    ∃ news : List Value, LR (Rv st.o ι (Stable κ.D st.o ι w) w) xs news ∧ (∀ k w', k ≤ m → w'.heap = w.heap → (Builtin.firstCells size k cx).run κ.P w' = .ok (news.take (k * size)).toArray w') := by
  have ofCells : ∀ (ad : Addr) (n c : Nat) (vs : List Value), vs.length = n * size → (∀ (i : Nat) (u : Value), vs[i]? = some u → w.cell? (ad.add i) = some u) →
      ∀ k w', k ≤ n → w'.heap = w.heap → (Builtin.firstCells size k (.slice (some ad) n c)).run κ.P w' = .ok (vs.take (k * size)).toArray w' := by
    intro ad n c vs hl hm k w' hk hw
    have hle : k * size ≤ n * size := Nat.mul_le_mul_right _ hk
    exact run_firstCells_some (P := κ.P) w' size k ad n c (vs.take (k * size)) (by simp; omega) fun j v hv => by
      have : w'.cell? (ad.add j) = w.cell? (ad.add j) := cell_congr (by rw [hw])
      rw [this]
      rw [List.getElem?_take] at hv
      split at hv
      · exact hm j v hv
      · cases hv
  unfold aSrc at hx
  split at hx
  · simp at hx
    obtain ⟨rfl, rfl⟩ := hx
    have := hr.snil_; subst this
    exact ⟨fun w' => by simp [Builtin.lenOf], by simp, [], .nil, fun k w' hk _ => by simp [Builtin.firstCells]⟩
  · simp at hx
    obtain ⟨rfl, rfl⟩ := hx
    obtain ⟨p, rfl⟩ := hr.sz_
    exact ⟨fun w' => by simp [Builtin.lenOf], by simp, [], .nil, fun k w' hk hw => by
      obtain rfl : k = 0 := by omega
      cases p with
      | none => simp [Builtin.firstCells]
      | some a => simpa using ofCells a 0 0 [] (by simp) (by simp) 0 w' (Nat.le_refl _) hw⟩
  · rename_i L
    split at hx
    · rename_i hsz
      simp at hx
      obtain ⟨rfl, rfl⟩ := hx
      have hcl := L.cells_length
      rw [hsz] at hcl
      rcases (Rv.pure hr.lst_).sl_ (T := st.o) (ι := ι) with ⟨e0, e1, rfl⟩ | ⟨ad, c, vs, rfl, hnc, hm, hlv, hrp⟩
      · exact ⟨fun w' => by simp [Builtin.lenOf, e0], hcl, [], by rw [e1]; exact .nil, fun k w' hk _ => by simp [Builtin.firstCells]⟩
      · exact ⟨fun w' => by simp [Builtin.lenOf], hcl, vs, ⟨hlv, fun i d u hd hu => .pure (hrp i d u hd hu)⟩, ofCells ad _ c vs (by omega) fun i u hu => (hm i u hu).2⟩
    · cases hx
  · rename_i s g
    split at hx
    · rename_i hg
      split at hx
      · rename_i ty fz nl L hk
        split at hx
        · rename_i hsz
          simp at hx
          obtain ⟨rfl, rfl⟩ := hx
          have hT : st.o.get s = ⟨g, .nrow ty fz nl L⟩ := by cases hTs : st.o.get s; rw [hTs] at hk hg; simp at hk hg; subst hk hg; rfl
          have hcl := L.cells_length
          rw [hsz] at hcl
          rcases hr.acc_ hT with ⟨_, e0, p, rfl⟩ | ⟨hn, ad, c, cap, arr, ty1, fz1, rfl, hb, hmem, has, hn', hcap, hpl⟩
          · have e1 : L.l.length = 0 := by rw [e0]; rfl
            have e2 : L.cells = [] := by simp [TL.cells, e0]
            exact ⟨fun w' => by simp [Builtin.lenOf, e1], hcl, [], by rw [e2]; exact .nil, fun k w' hk hw => by
              obtain rfl : k = 0 := by omega
              cases p with
              | none => simp [Builtin.firstCells]
              | some a => simpa using ofCells a 0 0 [] (by simp) (by simp) 0 w' (Nat.le_refl _) hw⟩
          · have hob := h.tr.ob s
            rw [hk] at hob
            obtain ⟨arr2, fz2, cap2, hh2, _, has2, hsz0, hle2, hc2⟩ := hob.resolve_left hn
            rw [hmem] at hh2
            injection hh2 with hh2; injection hh2 with e1 e2 e3; subst e1
            refine ⟨fun w' => by simp [Builtin.lenOf], hcl, arr.toList.take L.cells.length, ⟨by simp; omega, fun i d u hd hu => ?_⟩, ofCells ad _ c _ (by simp; omega) fun i u hu => ?_⟩
            · rw [List.getElem?_take] at hu
              split at hu
              · exact hc2 i d u hd hu
              · cases hu
            · rw [List.getElem?_take] at hu
              split at hu
              · rename_i hi
                have hk0 : L.l.length ≠ 0 := fun e => by rw [hcl, e] at hi; simp at hi
                have := hpl (by omega); subst this
                have hadd : (⟨ι s, 0 * L.e.size, none⟩ : Addr).add i = ⟨ι s, i, none⟩ := by unfold Addr.add; split <;> simp_all
                rw [hadd]
                simp [World.cell?, hmem]
                simpa using hu
              · cases hu
        · cases hx
      · cases hx
    · cases hx
  · rename_i n cs
    split at hx
    · rename_i hl
      simp at hx
      obtain ⟨rfl, rfl⟩ := hx
      rcases hr.sl_ with ⟨rfl, rfl, rfl⟩ | ⟨ad, c, vs, rfl, hnc, hm, hlv, hrp⟩
      · exact ⟨fun w' => by simp [Builtin.lenOf], by simp, [], .nil, fun k w' hk _ => by simp [Builtin.firstCells]⟩
      exact ⟨fun w' => by simp [Builtin.lenOf], hl, vs, ⟨hlv, fun i d u hd hu => .pure (hrp i d u hd hu)⟩, ofCells ad n c vs (by omega) fun i u hu => (hm i u hu).2⟩
    · cases hx
  · rename_i s g off n
    split at hx
    · rename_i hg
      split at hx
      · rename_i ty sz fz0 cs hk
        split at hx
        · rename_i hc
          obtain ⟨hsz, hle⟩ := hc
          simp at hx
          obtain ⟨rfl, rfl⟩ := hx
          have hT : st.o.get s = ⟨g, .row ty sz fz0 cs⟩ := by cases hTs : st.o.get s; rw [hTs] at hk hg; simp at hk hg; subst hk hg; rfl
          obtain ⟨ad, c, cap, arr, ty1, fz, rfl, hb, hmem, has, hn, hcap, hpl⟩ := hr.own_ hT
          have hob := h.tr.ob s
          rw [hk] at hob
          obtain ⟨arr2, fz2, cap2, hh2, _, has2, hsz0, hle2, hc2⟩ := hob
          rw [hmem] at hh2
          injection hh2 with hh2; injection hh2 with e1 e2 e3; subst e1
          have hml : (off + n) * sz ≤ arr.size := by rw [has]; exact Nat.mul_le_mul_right _ hn
          have hmul : (off + n) * sz = off * sz + n * sz := Nat.add_mul _ _ _
          refine ⟨fun w' => by simp [Builtin.lenOf], by subst hsz; simp; omega, (arr.toList.take ((off + n) * sz)).drop (off * sz), ?_, ?_⟩
          · exact LR.drop ⟨by simp; omega, fun i d u hd hu => by
              rw [List.getElem?_take] at hd hu
              split at hd
              · rename_i hi; rw [if_pos hi] at hu; exact hc2 i d u hd hu
              · cases hd⟩ _
          · refine ofCells ad n c _ (by subst hsz; simp; omega) fun i u hu => ?_
            rw [List.getElem?_drop, List.getElem?_take] at hu
            split at hu
            · rename_i hi
              have hn0 : n ≠ 0 := by rintro rfl; omega
              have := hpl (by omega); subst this
              have : (⟨ι s, off * sz, none⟩ : Addr).add i = ⟨ι s, off * sz + i, none⟩ := by unfold Addr.add; split <;> simp_all
              rw [this]
              simp [World.cell?, hmem]
              simpa using hu
            · cases hu
        · cases hx
      · cases hx
    · cases hx
  · rename_i s g off n
    split at hx
    · rename_i hg
      split at hx
      · rename_i ty fz nl L hk
        split at hx
        · rename_i hsz
          have hT : st.o.get s = ⟨g, .nrow ty fz nl L⟩ := by cases hTs : st.o.get s; rw [hTs] at hk hg; simp at hk hg; subst hk hg; rfl
          have hcl := L.cells_length
          obtain ⟨hle0, hr'⟩ := hr.nwin_ hT
          have hwl : ((L.l.take (off + n)).drop off).length = n := by simp; omega
          have hwc : (⟨L.e, (L.l.take (off + n)).drop off⟩ : TL).cells = (L.cells.take ((off + n) * L.e.size)).drop (off * L.e.size) := flat_cut L.e L.l off (off + n)
          rw [hwl, hwc] at hx
          simp at hx
          obtain ⟨rfl, rfl⟩ := hx
          have hmul : (off + n) * L.e.size = off * L.e.size + n * L.e.size := Nat.add_mul _ _ _
          subst hsz
          rcases hr' with ⟨_, e0, p, rfl⟩ | ⟨hn, ad, c, cap, arr, ty1, fz1, rfl, hb, hmem, has, hn', hcap, hpl⟩
          · have e1 : L.l.length = 0 := by rw [e0]; rfl
            have e2 : L.cells = [] := by simp [TL.cells, e0]
            have e3 : n = 0 := by omega
            subst e3
            refine ⟨fun w' => by simp [Builtin.lenOf], by simp [e2], [], by rw [e2]; simp only [List.take_nil, List.drop_nil]; exact .nil, fun k w' hk hw => ?_⟩
            obtain rfl : k = 0 := by omega
            cases p with
            | none => simp [Builtin.firstCells]
            | some a => simpa using ofCells a 0 0 [] (by simp) (by simp) 0 w' (Nat.le_refl _) hw
          · have hob := h.tr.ob s
            rw [hk] at hob
            obtain ⟨arr2, fz2, cap2, hh2, _, has2, hsz0, hle2, hc2⟩ := hob.resolve_left hn
            rw [hmem] at hh2
            injection hh2 with hh2; injection hh2 with e1 e2 e3; subst e1
            have hin : (off + n) * L.e.size ≤ L.cells.length := by rw [hcl]; exact Nat.mul_le_mul_right _ hle0
            have hml : (off + n) * L.e.size ≤ arr.size := by omega
            refine ⟨fun w' => by simp [Builtin.lenOf], by simp; omega, (arr.toList.take ((off + n) * L.e.size)).drop (off * L.e.size), ?_, ?_⟩
            · exact LR.drop ⟨by simp; omega, fun i d u hd hu => by
                rw [List.getElem?_take] at hd hu
                split at hd
                · rename_i hi; rw [if_pos hi] at hu; exact hc2 i d u hd hu
                · cases hd⟩ _
            · refine ofCells ad n c _ (by simp; omega) fun i u hu => ?_
              rw [List.getElem?_drop, List.getElem?_take] at hu
              split at hu
              · rename_i hi
                have hn0 : n ≠ 0 := by rintro rfl; omega
                have := hpl (by omega); subst this
                have : (⟨ι s, off * L.e.size, none⟩ : Addr).add i = ⟨ι s, off * L.e.size + i, none⟩ := by unfold Addr.add; split <;> simp_all
                rw [this]
                simp [World.cell?, hmem]
                simpa using hu
              · cases hu
        · cases hx
      · cases hx
    · cases hx
  · rename_i s
    split at hx
    · rename_i hs
      simp at hx
      obtain ⟨rfl, rfl⟩ := hx
      subst hs
      obtain ⟨b, rfl, hb⟩ := hr.str_
      have hbl : b.size = s.length := by rw [← hb, Array.length_toList]; rfl
      refine ⟨fun w' => by simp [Builtin.lenOf, hbl], by simp, s.map fun b => .int .u8 b.toNat, LR.map _ _ s fun x _ => .pure (.int _ _), fun k w' hk _ => ?_⟩
      simp only [Builtin.firstCells, Sem.run_pure, ByteArray.data_extract]
      congr 1
      apply Array.ext'
      rw [← hb]
      simp [List.extract_eq_take_drop, List.map_take]
    · cases hx
  · cases hx

theorem run_append_gen {P : Program} {t tx ty e : TypeId} {i : TypeInfo} {dx : TypeDesc} (ht : P.underlying t = some (.slice e)) (hi : P.info? e = some i) (htx : P.underlying tx = some dx) (hdx : isSrcD dx = true)
    {base : Option Addr} {n cap m : Nat} {cx : Value} {news : List Value} (hlen : ∀ w', (Builtin.lenOf cx).run P w' = .ok m w')
    (hnew : ∀ w', w'.heap = w.heap → (Builtin.firstCells i.size m cx).run P w' = .ok news.toArray w') :
    (n + m ≤ cap → (Builtin.append_ #[t, tx] ty #[.slice base n cap, cx]).run P w =
      match base with
      | some ad => ((storeCells (ad.add (n * i.size)) news).run P w).andThen fun _ w' => .ok (.slice base (n + m) cap) w'
      | none => .ok (.slice base (n + m) cap) w) ∧
    (∀ (z : Value) (olds : Array Value), ¬ n + m ≤ cap → i.zero = some z → 0 < i.bytes → (n + m) * i.bytes ≤ 140737488355328 →
      (∀ w', w'.heap = w.heap → (Builtin.firstCells i.size n (.slice base n cap)).run P w' = .ok olds w') →
      (Builtin.append_ #[t, tx] ty #[.slice base n cap, cx]).run P w = .ok (.slice (some ⟨w.heap.size, 0, none⟩) (n + m) (grownCap w (n + m) cap e))
        (w.drew.alloc (.cells (olds ++ news.toArray ++ Builtin.zeroCells z.cells (grownCap w (n + m) cap e - (n + m))) e))) := by
  refine ⟨fun hroom => ?_, fun z olds hno hz hb0 hbytes hold => ?_⟩
  · have h1 := hnew w rfl
    rcases isSrcD_or hdx with ⟨e', rfl⟩ | rfl <;> cases base <;>
      simp [Builtin.append_, run_underlying ht, run_size hi, run_underlying htx, hlen, hroom, h1]
  · have hnx := nextslicecap_le (need := n + m) (old := cap) (by omega)
    have hbig : ¬ (281474976710656 < Builtin.nextslicecap (n + m) cap * i.bytes) := by
      have : Builtin.nextslicecap (n + m) cap * i.bytes ≤ 2 * (n + m) * i.bytes := Nat.mul_le_mul_right _ hnx
      rw [Nat.mul_assoc] at this
      omega
    have hb0' : ¬ i.bytes = 0 := by omega
    have h2 := hold w.drew rfl
    have h3 := hnew w.drew rfl
    have hch : (choose (.appendCap (n + m) cap e)).run P w = .ok (grownCap w (n + m) cap e) w.drew := by
      simp [grownCap, Question.forced]
    rcases isSrcD_or hdx with ⟨e', rfl⟩ | rfl <;>
    simp [Builtin.append_, run_underlying ht, run_size hi, run_info hi, run_underlying htx, hlen, hno, hbig, hb0', h2, h3, -run_choose, hch, run_zero hi hz, newRow]

/-- append: the slice must be nil, or a row of the machine's own, whole. -/
def aAppend (P : Program) (T : Tab) (t tx : Nat) (s x : V) (d : Nat) : Option (V × Option (Nat × Ob)) :=
  match P.underlying t, P.underlying tx with
  | some (.slice e), some dx => match zeroC P e, P.info? e with
    | some zs, some i => match aSrc T i.size x with
      | some (m, xs) =>
        if isSrcD dx = true ∧ 0 < i.size ∧ 0 < i.bytes ∧ xs.all V.cellOk = true then
          match s with
          | .snil => if m = 0 then some (.snil, none) else
              if m * i.bytes ≤ 140737488355328 then some (.own d ((T.get d).gen + 1) 0 m, some (d, ⟨(T.get d).gen + 1, .row e i.size false xs⟩)) else none
          | .sz => if m = 0 then some (.sz, none) else
              if m * i.bytes ≤ 140737488355328 then some (.own d ((T.get d).gen + 1) 0 m, some (d, ⟨(T.get d).gen + 1, .row e i.size false xs⟩)) else none
          | .own s g 0 n => if (T.get s).gen = g ∧ (n + m) * i.bytes ≤ 140737488355328 then (match (T.get s).k with
            | .row ty sz fz cs => if ty = e ∧ sz = i.size ∧ cs.length = n * sz then some (.own s (g + 1) 0 (n + m), some (s, ⟨g + 1, .row ty sz fz (cs ++ xs)⟩)) else none
            | _ => none) else none
          | _ => none
        else none
      | none => none
    | _, _ => none
  | _, _ => none

theorem grow_new (h : RelI κ ι st a w) {e s n m : Nat} {i : TypeInfo} {z : Value} (cap : Nat) (fz0 : Bool) (olds news : List Value) (cs : List V) (hzs : z.cells.size = i.size) (h0 : 0 < i.size)
    (holds : olds.length = n * i.size) (hnews : news.length = m * i.size) (hcs : LR (Rv st.o ι (Stable κ.D st.o ι w) w) cs (olds ++ news)) :
    To κ st.o ι w (st.o.put s ⟨(st.o.get s).gen + 1, .row e i.size fz0 cs⟩) (fun t => if s = t then w.heap.size else ι t)
      (w.drew.alloc (.cells (olds.toArray ++ news.toArray ++ Builtin.zeroCells z.cells (grownCap w (n + m) cap e - (n + m))) e)) ∧
    ∀ {S : Addr → Prop}, Rv (wrT st.o (some (s, ⟨(st.o.get s).gen + 1, .row e i.size fz0 cs⟩))) (fun t => if s = t then w.heap.size else ι t) S
      (w.drew.alloc (.cells (olds.toArray ++ news.toArray ++ Builtin.zeroCells z.cells (grownCap w (n + m) cap e - (n + m))) e))
      (.own s ((st.o.get s).gen + 1) 0 (n + m)) (.slice (some ⟨w.heap.size, 0, none⟩) (n + m) (grownCap w (n + m) cap e)) := by
  have hge := grownCap_ge w (n + m) cap e
  have hsz : (olds.toArray ++ news.toArray ++ Builtin.zeroCells z.cells (grownCap w (n + m) cap e - (n + m))).size = grownCap w (n + m) cap e * i.size := by
    simp only [Array.size_append, List.size_toArray, size_zeroCells, hzs, holds, hnews, ← Nat.add_mul]
    congr 1
    omega
  refine ⟨row_new h (w1 := w.drew) rfl rfl rfl rfl s e i.size _ fz0 _ cs h0 hsz ?_ ?_, own_new' (w := w) (w1 := w.drew) s e i.size _ _ fz0 cs _ rfl hsz hge⟩
  · rw [hsz, hcs.1, List.length_append, holds, hnews, ← Nat.add_mul]; exact Nat.mul_le_mul_right _ hge
  · intro j d u hd hu
    refine hcs.2 j d u hd ?_
    have hj : j < (olds ++ news).length := by rw [← hcs.1]; exact (List.getElem?_eq_some_iff.1 hd).1
    simp only [Array.toList_append] at hu
    rw [List.getElem?_append_left hj] at hu
    exact hu

theorem aAppend_ok (h : RelI κ ι st a w) {t tx ty d : Nat} {s x v : V} {cs cx : Value} {wr : Option (Nat × Ob)} (hs : Rv st.o ι (Stable κ.D st.o ι w) w s cs) (hr : Rv st.o ι (Stable κ.D st.o ι w) w x cx)
    (hx : aAppend κ.P st.o t tx s x d = some (v, wr)) : SemOk κ ι st.o w (Builtin.append_ #[t, tx] ty #[cs, cx]) v wr := by
  unfold aAppend at hx
  split at hx
  · rename_i e dx ht htx
    split at hx
    · rename_i zs i hz hi
      obtain ⟨z, i', hi', hzz, hsz, hrun, hlr⟩ := zeroC_ok hz
      rw [hi] at hi'; injection hi' with hi'; subst hi'
      split at hx
      · rename_i m xs hsrc
        obtain ⟨hlen, hxl, news, hnews, hfirst⟩ := aSrc_ok h hr hsrc
        have hnl : news.length = m * i.size := by rw [← hnews.1]; exact hxl
        have hfirst' : ∀ w', w'.heap = w.heap → (Builtin.firstCells i.size m cx).run κ.P w' = .ok news.toArray w' := fun w' hw' => by
          rw [hfirst m w' (Nat.le_refl _) hw', ← hnl, List.take_length]
        split at hx
        · rename_i hc
          obtain ⟨hdx, h0, hb0, hall⟩ := hc
          have gen := fun base n cap => run_append_gen (w := w) (P := κ.P) (ty := ty) ht hi htx hdx (base := base) (n := n) (cap := cap) hlen hfirst'
          split at hx
          · -- nil
            have := hs.snil_; subst this
            split at hx
            · rename_i hm
              simp at hx
              obtain ⟨rfl, rfl⟩ := hx
              subst hm
              have hrun := (gen none 0 0).1 (by omega)
              exact SemOk.same h hrun (.pure .snil)
            · rename_i hm
              split at hx
              · rename_i hb
                simp at hx
                obtain ⟨rfl, rfl⟩ := hx
                have hrun := (gen none 0 0).2 z #[] (by omega) hzz hb0 (by simpa using hb) (fun w' _ => by simp [Builtin.firstCells])
                obtain ⟨hto, hv⟩ := grow_new h (s := d) (e := e) (n := 0) (m := m) (i := i) (z := z) 0 false [] news xs hsz h0 (by simp) hnl (by simpa using hnews)
                simp only [Nat.zero_add] at hrun hto hv
                exact ⟨_, _, _, hrun, hto, hv⟩
              · cases hx
          · -- no elements, not nil perhaps
            obtain ⟨p, rfl⟩ := hs.sz_
            split at hx
            · rename_i hm
              simp only [Option.some.injEq, Prod.mk.injEq] at hx
              obtain ⟨rfl, rfl⟩ := hx
              subst hm
              have hnil : news = [] := List.eq_nil_of_length_eq_zero (by rw [hnl]; simp)
              subst hnil
              have hrun := (gen p 0 0).1 (by omega)
              cases p with
              | none => exact SemOk.same h hrun (.pure .sz)
              | some ad =>
                simp [storeCells] at hrun
                exact SemOk.same h hrun (.pure .sz)
            · rename_i hm
              split at hx
              · rename_i hb
                simp only [Option.some.injEq, Prod.mk.injEq] at hx
                obtain ⟨rfl, rfl⟩ := hx
                have hrun := (gen p 0 0).2 z #[] (by omega) hzz hb0 (by simpa using hb) (fun w' _ => by
                  cases p with
                  | none => simp [Builtin.firstCells]
                  | some ad => simpa using run_firstCells_some (P := κ.P) w' i.size 0 ad 0 0 [] (by simp) (fun j v hv => by simp at hv))
                obtain ⟨hto, hv⟩ := grow_new h (s := d) (e := e) (n := 0) (m := m) (i := i) (z := z) 0 false [] news xs hsz h0 (by simp) hnl (by simpa using hnews)
                simp only [Nat.zero_add] at hrun hto hv
                exact ⟨_, _, _, hrun, hto, hv⟩
              · cases hx
          · rename_i s g n
            split at hx
            · rename_i hc
              obtain ⟨hg, hb⟩ := hc
              split at hx
              · rename_i ty1 sz fz0 cells hk
                split at hx
                · rename_i hc2
                  obtain ⟨hty, hszs, hcl⟩ := hc2
                  simp at hx
                  obtain ⟨rfl, rfl⟩ := hx
                  subst hszs hty
                  have hT : st.o.get s = ⟨g, .row ty1 i.size fz0 cells⟩ := by cases hTs : st.o.get s; rw [hTs] at hk hg; simp at hk hg; subst hk hg; rfl
                  have hl : st.o.live s := by simp [Tab.live, hk, OK.live]
                  have hself : aSrc st.o i.size (.own s g 0 n) = some (n, cells) := by
                    simp [aSrc, hT, hcl]
                    rw [← hcl, List.take_length]
                  obtain ⟨_, _, olds, holds, hofirst⟩ := aSrc_ok h hs hself
                  have hol : olds.length = n * i.size := by rw [← holds.1]; exact hcl
                  obtain ⟨ad, c, cap, arr, ty2, fz, rfl, hbk, hmem, has, hn, hcap, hpl⟩ := hs.own_ hT
                  have hcc : c = cap := by omega
                  subst hcc
                  have hob := h.tr.ob s
                  rw [hk] at hob
                  obtain ⟨arr2, fz2, cap2, hh2, hf2, has2, _, hle2, hc2⟩ := hob
                  rw [hmem] at hh2
                  injection hh2 with hh2; injection hh2 with e1 e2 e3; subst e1 e2 e3
                  by_cases hroom : n + m ≤ c
                  · have hrun := (gen (some ad) n c).1 hroom
                    have hone : ∀ u ∈ news, u.oneCell' = true := by
                      intro u hu
                      obtain ⟨j, hj⟩ := List.mem_iff_getElem?.1 hu
                      have hjl : j < xs.length := by rw [hnews.1]; exact (List.getElem?_eq_some_iff.1 hj).1
                      exact cell_one (List.all_eq_true.1 hall _ (List.getElem_mem hjl)) (hnews.2 j _ u (List.getElem?_eq_getElem hjl) hj)
                    have hfit : n * i.size + m * i.size ≤ arr.size := by rw [has, ← Nat.add_mul]; exact Nat.mul_le_mul_right _ hroom
                    -- what is stored
                    have hstore : ∃ w', (storeCells (ad.add (n * i.size)) news).run κ.P w = .ok () w' ∧ w' = w.setRow (ι s) (arr.toList.take (n * i.size) ++ (news ++ arr.toList.drop (n * i.size + news.length))).toArray := by
                      by_cases hc0 : c = 0
                      · have hm0 : m = 0 := by omega
                        have hn0 : n = 0 := by omega
                        have : news = [] := List.eq_nil_of_length_eq_zero (by rw [hnl, hm0]; simp)
                        subst this
                        refine ⟨w, by simp [storeCells], ?_⟩
                        simp only [List.length_nil, Nat.add_zero, List.nil_append, List.take_append_drop, Array.toArray_toList]
                        exact (setRow_self w (ι s) arr _ fz hmem).symm
                      · have := hpl hc0; subst this
                        have hst := run_storeCells_fz κ.P (ι s) (n * i.size) ty2 fz news 0 arr w hmem (fun j hj => hf2 j (.inl hj)) (by omega) hone
                        have hadd : (⟨ι s, 0 * i.size, none⟩ : Addr).add (n * i.size) = ⟨ι s, n * i.size, none⟩ := by unfold Addr.add; split <;> simp_all
                        simp only [Nat.add_zero, List.append_assoc] at hst
                        rw [hadd]
                        exact ⟨_, hst, rfl⟩
                    obtain ⟨w', hst, rfl⟩ := hstore
                    simp only [hst, Result.andThen_ok] at hrun
                    have hns : (arr.toList.take (n * i.size) ++ (news ++ arr.toList.drop (n * i.size + news.length))).toArray.size = arr.size := by simp; omega
                    have hnew := setRow_heap w (ι s) arr (arr.toList.take (n * i.size) ++ (news ++ arr.toList.drop (n * i.size + news.length))).toArray ty2 fz hmem
                    refine ⟨_, _, ι, hrun, To.turn h s hl ⟨g + 1, .row ty2 i.size fz0 (cells ++ xs)⟩ rfl rfl rfl (by simp) (fun j hj => setRow_other w (ι s) j _ hj) (by simp [hg]) (fun p hp hf => ?_) (fun _ _ _ _ _ e => by simp [hg] at e) ?_ (hsh := Shape.of hmem hnew hns), ?_⟩
                    · -- the cells of a row that was handed on stay as they are
                      rw [hk] at hf
                      cases fz0 with
                      | false => simp [OK.fzAt] at hf
                      | true =>
                        have hf' : p.off < cells.length := by simpa [OK.fzAt] using hf
                        refine ⟨by simp [OK.fzAt]; omega, ?_⟩
                        have hpo : p.off < n * i.size := by rw [← hcl]; exact hf'
                        have hva : (arr.toList.take (n * i.size) ++ (news ++ arr.toList.drop (n * i.size + news.length))).toArray[p.off]? = arr[p.off]? := by
                          simp only [List.getElem?_toArray]
                          rw [List.getElem?_append_left (by simp; omega), List.getElem?_take, if_pos hpo]
                          simp
                        simp only [World.cell?, hp, hnew, hmem, hva]
                    · intro T' ι' H
                      refine ⟨_, fz, c, hnew, fun j hj => hf2 j (by rw [hns] at hj; exact hj), by rw [hns]; exact has, h0, by rw [hns, List.length_append, hcl, hxl]; exact hfit, ?_⟩
                      intro j d u hd hu
                      rw [List.getElem?_append] at hd hu
                      have e1 : (arr.toList.take (n * i.size)).length = n * i.size := by simp; omega
                      rw [e1] at hu
                      rw [hcl] at hd
                      by_cases h1 : j < n * i.size
                      · rw [if_pos h1] at hd
                        rw [if_pos h1, List.getElem?_take, if_pos h1] at hu
                        exact (hc2 j d u hd hu).mono H
                      · rw [if_neg h1] at hd hu
                        have h2 : j - n * i.size < news.length := by rw [← hnews.1]; exact (List.getElem?_eq_some_iff.1 hd).1
                        rw [List.getElem?_append_left h2] at hu
                        exact (hnews.2 _ d u hd hu).mono H
                    · refine .own ⟨_, _, rfl⟩ (by simp [wrT, Tab.get_put]) fun ty' sz' fz' cs' e => ?_
                      simp [wrT, Tab.get_put] at e
                      obtain ⟨rfl, rfl, rfl, rfl⟩ := e
                      exact ⟨ad, c, c, _, ty2, fz, rfl, hbk, hnew, by rw [hns]; exact has, by omega, by omega, hpl⟩
                  · have hrun := (gen (some ad) n c).2 z olds.toArray hroom hzz hb0 hb (fun w' hw' => by rw [hofirst n w' (Nat.le_refl _) hw', ← hol, List.take_length])
                    obtain ⟨hto, hv⟩ := grow_new h (s := s) (e := ty2) (n := n) (m := m) (i := i) (z := z) c fz0 olds news (cells ++ xs) hsz h0 hol hnl (holds.append hnews)
                    rw [hg] at hto hv
                    exact ⟨_, _, _, hrun, hto, hv⟩
                · cases hx
              · cases hx
            · cases hx
          · cases hx
        · cases hx
      · cases hx
    · cases hx
  · cases hx

end
end Go.Abs
