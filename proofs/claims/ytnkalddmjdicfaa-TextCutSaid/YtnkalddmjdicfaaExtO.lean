/- Operations on rows of Lean's own values, in place; windows; interface values. -/
import Derived.Test.YtnkalddmjdicfaaExtU
namespace Go.Abs
open Go.RowKit
set_option linter.unusedVariables false
set_option linter.unusedSimpArgs false

/-- Some elements in the place of others. -/
def putL {α : Type} (l mid : List α) (p : Nat) : List α := l.take p ++ (mid ++ l.drop (p + mid.length))
theorem putL_length {α : Type} {l mid : List α} {p : Nat} (h : p + mid.length ≤ l.length) : (putL l mid p).length = l.length := by simp [putL]; omega
theorem set_putL {α : Type} : ∀ (l : List α) (i : Nat) (x : α), i < l.length → l.set i x = putL l [x] i
  | [], i, x, h => by simp at h
  | y :: r, 0, x, h => by simp [putL]
  | y :: r, i + 1, x, h => by
    have := set_putL r i x (by simpa using h)
    simp only [putL, List.length_singleton] at this ⊢
    simp only [List.set_cons_succ, this, List.take_succ_cons, List.cons_append]
    rw [show i + 1 + 1 = (i + 1) + 1 from rfl, List.drop_succ_cons]
theorem putL_get {α : Type} {l mid : List α} {p i : Nat} (h : p + mid.length ≤ l.length) : (putL l mid p)[i]? = if i < p then l[i]? else if i < p + mid.length then mid[i - p]? else l[i]? := by
  unfold putL
  by_cases h1 : i < p
  · rw [if_pos h1, List.getElem?_append_left (by simp; omega), List.getElem?_take, if_pos h1]
  · rw [if_neg h1, List.getElem?_append_right (by simp; omega)]
    have e : (l.take p).length = p := by simp; omega
    rw [e]
    by_cases h2 : i < p + mid.length
    · rw [if_pos h2, List.getElem?_append_left (by omega)]
    · rw [if_neg h2, List.getElem?_append_right (by omega), List.getElem?_drop]
      rw [show p + mid.length + (i - p - mid.length) = i from by omega]
theorem flat_putL {e : Ty} (l mid : List e.I) (p : Nat) (h : p + mid.length ≤ l.length) : (putL l mid p).flatMap (cellsV e) = putL (l.flatMap (cellsV e)) (mid.flatMap (cellsV e)) (p * e.size) := by
  unfold putL
  rw [List.flatMap_append, List.flatMap_append, flat_take, flat_drop, flat_length, Nat.add_mul]
theorem row_putL {R : V → Value → Prop} {e : Ty} {l mid : List e.I} {p : Nat} {arr news : List Value} (hp : p + mid.length ≤ l.length)
    (hc : ∀ (j : Nat) (d : V) (u : Value), (l.flatMap (cellsV e))[j]? = some d → arr[j]? = some u → R d u) (hn : LR R (mid.flatMap (cellsV e)) news) (hle : l.length * e.size ≤ arr.length) :
    ∀ (j : Nat) (d : V) (u : Value), ((putL l mid p).flatMap (cellsV e))[j]? = some d → (putL arr news (p * e.size))[j]? = some u → R d u := by
  intro j d u hd hu
  have hnl : news.length = mid.length * e.size := by rw [← hn.1, flat_length]
  have h1 : p * e.size + mid.length * e.size ≤ l.length * e.size := by rw [← Nat.add_mul]; exact Nat.mul_le_mul_right _ hp
  rw [flat_putL l mid p hp, putL_get (by rw [flat_length, flat_length]; exact h1), flat_length] at hd
  rw [putL_get (by omega), hnl] at hu
  split at hd
  · rename_i hj; rw [if_pos hj] at hu; exact hc j d u hd hu
  · rename_i hj
    rw [if_neg hj] at hu
    split at hd
    · rename_i hj2; rw [if_pos hj2] at hu; exact hn.2 _ d u hd hu
    · rename_i hj2; rw [if_neg hj2] at hu; exact hc j d u hd hu

section
variable {κ : Cx} {ι : Nat → Nat} {st : St} {a : Act} {w : World}

/-- A row turns in place: some of its elements. -/
theorem To.putRow (h : RelI κ ι st a w) {s g ty : Nat} {nl : Bool} {L : TL} (hT : st.o.get s = ⟨g, .nrow ty false nl L⟩) (hn : ¬ (nl = true ∧ L.l = [])) {arr : Array Value} {ty' : Nat} {fz : Nat × Nat}
    (hh : w.heap[ι s]? = some (.cells arr ty' fz)) (mid : List L.e.I) (p : Nat) (hp : p + mid.length ≤ L.l.length) {news : List Value}
    (hnews : LR (Rv st.o ι (Stable κ.D st.o ι w) w) (mid.flatMap (cellsV L.e)) news) {A : Array Value} (hA : A.toList = putL arr.toList news (p * L.e.size)) :
    To κ st.o ι w (st.o.put s ⟨g, .nrow ty false nl ⟨L.e, putL L.l mid p⟩⟩) ι (w.setRow (ι s) A) := by
  have hk : (st.o.get s).k = .nrow ty false nl L := by rw [hT]
  have hl : st.o.live s := by simp only [Tab.live, hk, OK.live]; exact hn
  have hob := h.tr.ob s
  rw [hk] at hob
  obtain ⟨arr2, fz2, cap, b1, b2, b3, b4, b5, b6⟩ := hob.resolve_left hn
  rw [hh] at b1
  injection b1 with b1; injection b1 with e1 e2 e3; subst e1 e2 e3
  have hnl : news.length = mid.length * L.e.size := by rw [← hnews.1, flat_length]
  have hin : p * L.e.size + mid.length * L.e.size ≤ L.l.length * L.e.size := by rw [← Nat.add_mul]; exact Nat.mul_le_mul_right _ hp
  have hcl := L.cells_length
  have hAs : A.size = arr.size := by
    have : A.toList.length = arr.toList.length := by rw [hA, putL_length (by simp; omega)]
    simpa using this
  have hnew := setRow_heap w (ι s) arr A ty' fz hh
  have hns : (putL L.l mid p).length = L.l.length := putL_length hp
  refine To.turn (w' := w.setRow (ι s) A) h s hl ⟨g, .nrow _ false nl ⟨L.e, putL L.l mid p⟩⟩ rfl rfl rfl (by simp) (fun j hj => setRow_other w (ι s) j _ hj) (by rw [hT]; exact Nat.le_refl _)
    (fun q _ hf => by rw [hk] at hf; exact hf.elim) (fun _ _ _ _ e => by cases e) (fun T' ι' H => ?_) (fun ty2 fz2 nl2 L2 e _ => ?_) (hsh := Shape.of hh hnew hAs)
  · refine .inr ⟨A, fz, cap, hnew, fun j hj => b2 j (by omega), by rw [hAs]; exact b3, b4, ?_, fun j d u hd hu => ?_⟩
    · rw [TL.cells_length]; show (putL L.l mid p).length * L.e.size ≤ A.size; rw [hns, hAs, ← hcl]; exact b5
    · rw [hA] at hu
      exact row_putL (R := Rv T' ι' (Stable κ.D T' ι' (w.setRow (ι s) A)) (w.setRow (ι s) A)) hp (fun j d u hd hu => (b6 j d u hd hu).mono H) (hnews.mono fun d u hd => hd.mono H) (by simp; omega) j d u hd hu
  · injection e with q1 q2 q3 q4
    subst q1 q2 q3 q4
    exact ⟨⟨_, _, _, _, hk, rfl, hns.symm, rfl⟩, fun _ arr1 ty1 fz1 h1 => by rw [hh] at h1; injection h1 with h1; injection h1 with e1 e2 e3; subst e1; exact ⟨_, _, _, hnew, hAs⟩⟩
end
end Go.Abs
