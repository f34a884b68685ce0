/- Rows of rows that a walk copies and writes into. -/
import Derived.Test.YtpohfnebmmjpdaaExtFl
import Derived.Laws.AppendOwn
import Derived.Maps.AppendAt
import Derived.Laws.OwnMore
import Derived.Below
namespace Go.Abs
open Go.RowKit
set_option linter.unusedVariables false
set_option linter.unusedSimpArgs false
/-- A row of numbers that a value leads to. -/
def IntRow (w : World) (u : Value) (l : List Int) : Prop :=
  ∃ p c, u = .slice p l.length c ∧ ∀ j n, l[j]? = some n → ∃ ad, p = some ad ∧ w.cell? (ad.add j) = some (.int .i64 n)
/-- Rows of such rows. -/
def RowsAt (w : World) (v : Value) (L : List (List Int)) : Prop :=
  ∃ p c, v = .slice p L.length c ∧ ∀ i l, L[i]? = some l → ∃ ad, p = some ad ∧ ∃ u, w.cell? (ad.add i) = some u ∧ IntRow w u l
abbrev LL : Type := List (List Int)
theorem cells_ll (L : LL) : TL.cells ⟨.list (.int .i64), L⟩ = L.map fun l => V.sl l.length (l.map fun n => V.int .i64 n) := by
  show L.flatMap _ = _
  induction L with
  | nil => rfl
  | cons l r ih =>
    rw [List.flatMap_cons, ih]
    show [V.sl l.length (l.flatMap fun n => [V.int .i64 n])] ++ _ = _
    rw [show (l.flatMap fun n => [V.int .i64 n]) = l.map fun n => V.int .i64 n from by induction l <;> simp_all]
    rfl
theorem getAt {α : Type} {l : List α} {n i : Nat} {m : List Value} (h : l.length = m.length) {x : α} (hx : l[i]? = some x) : ∃ u, m[i]? = some u := by
  have := (List.getElem?_eq_some_iff.1 hx).1
  exact ⟨m[i]'(by omega), List.getElem?_eq_getElem _⟩
theorem intRow_of {S : Addr → Prop} {w : World} {l : List Int} {u : Value} (h : Rp S w (V.sl l.length (l.map fun n => V.int .i64 n)) u) : IntRow w u l := by
  generalize hK : (l.map fun n => V.int .i64 n) = K at h
  generalize hn : l.length = n at h
  cases h with
  | sl hc hm hl h =>
    subst hn
    refine ⟨_, _, rfl, fun j n hn => ⟨_, rfl, ?_⟩⟩
    have hj : K[j]? = some (.int .i64 n) := by rw [← hK, List.getElem?_map, hn]; rfl
    obtain ⟨u, hu⟩ := getAt (n := 0) hl hj
    have h1 := (hm j u hu).2
    have h2 := h j _ u hj hu
    cases h2
    exact h1
  | slz =>
    have : l = [] := List.eq_nil_of_length_eq_zero hn
    subst this
    exact ⟨none, 0, rfl, fun j n hn => by simp at hn⟩
theorem rows_of {S : Addr → Prop} {w : World} {L : LL} {v : Value} (h : Rp S w (.lst ⟨.list (.int .i64), L⟩) v) : RowsAt w v L := by
  cases h with
  | lst h =>
    rw [cells_ll] at h
    generalize hn : (TL.l ⟨.list (.int .i64), L⟩).length = n at h
    have hn : L.length = n := hn
    generalize hK : (L.map fun l => V.sl l.length (l.map fun n => V.int .i64 n)) = K at h
    cases h with
    | sl hc hm hl h =>
      subst hn
      refine ⟨_, _, rfl, fun i l hi => ⟨_, rfl, ?_⟩⟩
      have hj : K[i]? = some (.sl l.length (l.map fun n => V.int .i64 n)) := by rw [← hK, List.getElem?_map, hi]; rfl
      obtain ⟨u, hu⟩ := getAt (n := 0) hl hj
      exact ⟨u, (hm i u hu).2, intRow_of (h i _ u hj hu)⟩
    | slz =>
      have hL : L = [] := List.eq_nil_of_length_eq_zero hn
      subst hL
      exact ⟨none, 0, rfl, fun i l hi => by simp at hi⟩
/-- The same, of a result: new cells of one's own. -/
theorem rp_int {S : Addr → Prop} {w : World} {l : List Int} {u : Value} (h : u = .slice none 0 0 ∧ l = [] ∨ ∃ a c, u = .slice (some a) l.length c ∧ l.length ≤ c ∧ ∀ j n, l[j]? = some n → S (a.add j) ∧ w.cell? (a.add j) = some (.int .i64 n)) :
    Rp S w (V.sl l.length (l.map fun n => V.int .i64 n)) u := by
  rcases h with ⟨rfl, rfl⟩ | ⟨a, c, rfl, hc, h⟩
  · exact .slz
  · refine .sl (vs := l.map fun n => Value.int .i64 n) hc (fun j u hu => ?_) (by simp) fun j d u hd hu => ?_
    · rw [List.getElem?_map] at hu
      cases hn : l[j]? with
      | none => rw [hn] at hu; cases hu
      | some n => rw [hn] at hu; cases hu; exact h j n hn
    · rw [List.getElem?_map] at hd hu
      cases hn : l[j]? with
      | none => rw [hn] at hu; cases hu
      | some n => rw [hn] at hu hd; cases hu; cases hd; exact .int _ _
theorem rp_rows {S : Addr → Prop} {w : World} {L : LL} {v : Value} {us : List Value} (hl : us.length = L.length)
    (hv : v = .slice none 0 0 ∧ L = [] ∨ ∃ a c, v = .slice (some a) L.length c ∧ L.length ≤ c ∧ ∀ j u, us[j]? = some u → S (a.add j) ∧ w.cell? (a.add j) = some u)
    (h : ∀ (i : Nat) (l : List Int) (u : Value), L[i]? = some l → us[i]? = some u → u = .slice none 0 0 ∧ l = [] ∨ ∃ a c, u = .slice (some a) l.length c ∧ l.length ≤ c ∧ ∀ j n, l[j]? = some n → S (a.add j) ∧ w.cell? (a.add j) = some (.int .i64 n)) :
    Rp S w (.lst ⟨.list (.int .i64), L⟩) v := by
  refine .lst ?_
  rw [cells_ll]
  rcases hv with ⟨rfl, rfl⟩ | ⟨a, c, rfl, hc, hm⟩
  · exact .slz
  · refine .sl (vs := us) hc hm (by rw [List.length_map]; exact hl.symm) fun j d u hd hu => ?_
    rw [List.getElem?_map] at hd
    cases hn : L[j]? with
    | none => rw [hn] at hd; cases hd
    | some l => rw [hn] at hd; cases hd; exact rp_int (h j l u hn hu)
/-- What lay there at w0 already. -/
def RowsOld (w0 w : World) (v : Value) (L : LL) : Prop := Rp (fun p => p.block < w0.heap.size) w (.lst ⟨.list (.int .i64), L⟩) v
theorem RowsOld.kept {w0 w w' : World} {v : Value} {L : LL} (h : RowsOld w0 w v L) (hb : ∀ k, k < w0.heap.size → w'.heap[k]? = w.heap[k]?) : RowsOld w0 w' v L :=
  Rp.mono (fun p hp => ⟨hp, World.cell?_of_block (hb _ hp)⟩) h
theorem RowsOld.at {w0 w : World} {v : Value} {L : LL} (h : RowsOld w0 w v L) : RowsAt w v L := rows_of h
/-- Rows of one's own, of which the cells are rows of one's own. -/
structure Mat (B e1 e2 : Nat) (w : World) (v : Value) (M : LL) (us : List Value) : Prop where
  out : w.ownsRow B e1 1 v M.length us
  row : ∀ (i : Nat) (l : List Int) (u : Value), M[i]? = some l → us[i]? = some u → w.ownsRow B e2 1 u l.length (l.map fun n => Value.int .i64 n)
  inj : ∀ (i j : Nat) (a b : Value) (k : Nat), us[i]? = some a → us[j]? = some b → a.ownBlock = some k → b.ownBlock = some k → i = j
  apart : ∀ (i : Nat) (a : Value) (k : Nat), us[i]? = some a → a.ownBlock = some k → v.ownBlock ≠ some k
theorem Mat.len {B e1 e2 : Nat} {w : World} {v : Value} {M : LL} {us : List Value} (h : Mat B e1 e2 w v M us) : us.length = M.length := by
  have := h.out.1; omega
theorem mat_nil (B e1 e2 : Nat) (w : World) : Mat B e1 e2 w (.slice none 0 0) [] [] :=
  ⟨World.ownsRow_nil _ _ _ _, fun i l u h => by simp at h, fun i j a b k h => by simp at h, fun i a k h => by simp at h⟩
theorem keptN {w w' : World} {B e n : Nat} {v : Value} {xs : List Value} (h : w.ownsRow B e 1 v n xs) (g : w.grownBy w' none) : w'.ownsRow B e 1 v n xs :=
  h.kept g (by cases v.ownBlock with | none => exact .inl rfl | some k => exact .inr fun e => by cases e)
theorem own_one {w : World} {B e n : Nat} {v : Value} {xs : List Value} (h : w.ownsRow B e 1 v n xs) : v.oneCell' = true := by
  rcases h.2 with ⟨rfl, _⟩ | ⟨g, cap, cur, rfl, _⟩ <;> rfl
theorem own_form {w : World} {B e n : Nat} {v : Value} {xs : List Value} (h : w.ownsRow B e 1 v n xs) (hn : 0 < n) : ∃ g cap, v = .slice (some ⟨g, 0, none⟩) n cap := by
  rcases h.2 with ⟨_, e⟩ | ⟨g, cap, cur, e, _⟩
  · omega
  · exact ⟨g, cap, e⟩
/-- One row more. -/
theorem Mat.push {B e1 e2 : Nat} {w w1 w2 w3 : World} {v v' x : Value} {M : LL} {us : List Value} {l : List Int} (h : Mat B e1 e2 w v M us) (hB : B ≤ w.heap.size)
    (hx : w1.ownsRow B e2 1 x l.length (l.map fun n => Value.int .i64 n)) (hxa : x.ownBlock = none ∨ x.ownBlock = some w.heap.size)
    (g1 : w.grownBy w1 none) (g2 : w1.grownBy w2 none) (hs1 : w.heap.size < w1.heap.size) (hs2 : w1.heap.size < w2.heap.size) (g3 : w2.grownBy w3 v.ownBlock) (hv : w3.ownsRow B e1 1 v' (M.length + 1) (us ++ [x]))
    (hva : v'.ownBlock = v.ownBlock ∨ v'.ownBlock = some w2.heap.size) : Mat B e1 e2 w3 v' (M ++ [l]) (us ++ [x]) := by
  have hl := h.len
  have lt : ∀ (i : Nat) (a : Value) (k : Nat), us[i]? = some a → a.ownBlock = some k → k < w.heap.size := fun i a k hi hk => by
    have hil : i < M.length := by rw [← hl]; exact (List.getElem?_eq_some_iff.1 hi).1
    exact ((h.row i _ a (List.getElem?_eq_getElem hil) hi).lt k hk).2
  have vlt : ∀ k, v.ownBlock = some k → k < w.heap.size := fun k hk => (h.out.lt k hk).2
  have split : ∀ i a, (us ++ [x])[i]? = some a → us[i]? = some a ∨ (i = us.length ∧ a = x) := fun i a hi => by
    by_cases q : i < us.length
    · rw [List.getElem?_append_left q] at hi; exact .inl hi
    · rw [List.getElem?_append_right (by omega)] at hi
      have hz : i - us.length = 0 := by
        have := (List.getElem?_eq_some_iff.1 hi).1; simp at this; omega
      rw [hz] at hi; cases hi
      exact .inr ⟨by omega, rfl⟩
  refine ⟨by rw [List.length_append]; exact hv, fun i l' u hi hu => ?_, fun i j a b k hi hj ha hb => ?_, fun i a k hi ha => ?_⟩
  · rcases split i u hu with hu | ⟨rfl, rfl⟩
    · have hil : i < M.length := by rw [← hl]; exact (List.getElem?_eq_some_iff.1 hu).1
      rw [List.getElem?_append_left hil] at hi
      have h2 := keptN (keptN (h.row i l' u hi hu) g1) g2
      refine h2.kept g3 ?_
      cases hk : u.ownBlock with
      | none => exact .inl rfl
      | some k => exact .inr fun e => h.apart i u k hu hk e.symm
    · rw [hl, List.getElem?_append_right (Nat.le_refl _), Nat.sub_self] at hi
      cases hi
      have h2 := keptN hx g2
      refine h2.kept g3 ?_
      rcases hxa with q | q
      · exact .inl q
      · exact .inr fun e => by have := vlt _ (by rw [← e, q]); omega
  · rcases split i a hi with hi2 | ⟨e1, e2⟩ <;> rcases split j b hj with hj2 | ⟨e3, e4⟩
    · exact h.inj i j a b k hi2 hj2 ha hb
    · have := lt i a k hi2 ha
      rcases hxa with q | q <;> rw [e4, q] at hb <;> simp at hb; omega
    · have := lt j b k hj2 hb
      rcases hxa with q | q <;> rw [e2, q] at ha <;> simp at ha; omega
    · omega
  · intro e
    have s1 := g1.size
    rcases split i a hi with hi2 | ⟨e1, e2⟩
    · have := lt i a k hi2 ha
      rcases hva with q | q
      · exact h.apart i a k hi2 ha (by rw [← q]; exact e)
      · rw [q] at e; simp at e; omega
    · rcases hxa with q | q <;> rw [e2, q] at ha <;> simp at ha
      rcases hva with q2 | q2
      · have := vlt _ (by rw [← q2]; exact e); omega
      · rw [q2] at e; simp at e; omega
theorem grownAlloc {w : World} (o : Obj) : w.grownBy (w.alloc o) none := ⟨rfl, rfl, rfl, by simp, fun k hk _ => heap_alloc_old w _ k hk⟩
theorem grownSet {w : World} (g j : Nat) (u : Value) : w.grownBy (w.setCell ⟨g, j, none⟩ u) (some g) :=
  ⟨rfl, rfl, rfl, by simp, fun k _ hk => heap_setCell_other w ⟨g, j, none⟩ k u (fun e => hk (by simp [e]))⟩
/-- A number stored into a row. -/
theorem Mat.store {B e1 e2 : Nat} {w : World} {v : Value} {M : LL} {us : List Value} (h : Mat B e1 e2 w v M us) {i j g cap : Nat} {l : List Int} (hi : M[i]? = some l) (hj : j < l.length) (hu : us[i]? = some (.slice (some ⟨g, 0, none⟩) l.length cap)) (n : Int) :
    Mat B e1 e2 (w.setCell ⟨g, j, none⟩ (.int .i64 n)) v (M.modify i (·.set j n)) us := by
  have hG := grownSet (w := w) g j (.int .i64 n)
  refine ⟨?_, fun k l' u hk hu' => ?_, h.inj, h.apart⟩
  · rw [List.length_modify]
    refine h.out.kept hG ?_
    cases hv : v.ownBlock with
    | none => exact .inl rfl
    | some k => exact .inr fun e => h.apart i _ g hu rfl (by rw [hv, e])
  · rw [List.getElem?_modify] at hk
    by_cases q : i = k
    · subst q
      rw [hi] at hk
      simp only [if_true, Option.map_eq_map, Option.map_some, Option.some.injEq] at hk
      subst hk
      rw [hu] at hu'; cases hu'
      have h2 := ((h.row i l _ hi hu).stored j (.int .i64 n)).1
      rw [List.length_set]
      rw [List.map_set]
      exact h2
    · have hk : M[k]? = some l' := by simpa [q] using hk
      refine (h.row k l' u hk hu').kept hG ?_
      cases hv : u.ownBlock with
      | none => exact .inl rfl
      | some x => exact .inr fun e => q (h.inj i k _ u g hu hu' rfl (by rw [hv, e]))
/-- What a round of copying comes to. -/
theorem Mat.round {B e1 e2 : Nat} {w w1 w3 : World} {v v' x : Value} {L : LL} {us : List Value} {i : Nat} {l : List Int} {o : Obj} (h : Mat B e1 e2 w v (L.take i) us) (hB : B ≤ w.heap.size) (hl : L[i]? = some l) (hlp : 0 < l.length)
    (hx : w1.ownsRow w.heap.size e2 1 x l.length (l.map fun n => Value.int .i64 n)) (hxa : x.ownBlock = none ∨ x.ownBlock = some w.heap.size)
    (g1 : w.grownBy w1 none) (g3 : (w1.alloc o).grownBy w3 v.ownBlock) (hv : w3.ownsRow B e1 1 v' ((L.take i).length + 1) (us ++ [x]))
    (hva : v'.ownBlock = v.ownBlock ∨ v'.ownBlock = some (w1.alloc o).heap.size) : Mat B e1 e2 w3 v' (L.take (i + 1)) (us ++ [x]) ∧ ∀ k, k < B → w3.heap[k]? = w.heap[k]? := by
  have hx2 : x.ownBlock = some w.heap.size := by
    rcases hxa with q | q
    · rcases hx.2 with ⟨e, e2⟩ | ⟨g, cap, cur, e, _⟩
      · omega
      · rw [e] at q; cases q
    · exact q
  have hs1 := (hx.lt _ hx2).2
  have e : L.take (i + 1) = L.take i ++ [l] := by
    rw [List.take_add_one, hl]; rfl
  rw [e]
  refine ⟨h.push hB ⟨hx.1, ?_⟩ (.inr hx2) g1 (grownAlloc o) hs1 (by simp) g3 hv hva, fun k hk => ?_⟩
  · rcases hx.2 with q | ⟨g, cap, cur, e, a1, a2⟩
    · exact .inl q
    · exact .inr ⟨g, cap, cur, e, Nat.le_trans hB a1, a2⟩
  · have s1 := g1.size
    rw [g3.block k (by simp; omega) (fun q => by have := (h.out.lt k q.symm).1; omega), (grownAlloc o).block k (by omega) (fun q => by cases q), g1.block k (by omega) (fun q => by cases q)]
theorem keepC {w w' : World} {p : Addr} {v : Value} (h : w.cell? p = some v) (hb : Below w.heap.size w w') : w'.cell? p = some v :=
  (World.cell?_of_block (hb.block _ (World.block_lt_of_cell? w p h))).trans h
theorem belowG {w w' : World} (hb : Below w.heap.size w w') : w.grownBy w' none := ⟨hb.os, hb.tape, hb.output, hb.size, fun k hk _ => hb.block k hk⟩
theorem Mat.kept {B e1 e2 : Nat} {w w' : World} {v : Value} {M : LL} {us : List Value} (h : Mat B e1 e2 w v M us) (hb : Below w.heap.size w w') : Mat B e1 e2 w' v M us :=
  ⟨keptN h.out (belowG hb), fun i l u hi hu => keptN (h.row i l u hi hu) (belowG hb), h.inj, h.apart⟩
theorem upB {B : Nat} {w a b : World} (h : Below B w a) (hB : B ≤ a.heap.size) (k : Below a.heap.size a b) : Below B w b :=
  h.trans ⟨k.os, k.tape, k.output, k.size, fun i hi => k.block i (Nat.lt_of_lt_of_le hi hB)⟩
/-- Where a row lies. -/
theorem Mat.at {B e1 e2 : Nat} {w : World} {v : Value} {M : LL} {us : List Value} (h : Mat B e1 e2 w v M us) {i : Nat} {l : List Int} (hi : M[i]? = some l) (hl : 0 < l.length) :
    ∃ g cap g' cap', v = .slice (some ⟨g, 0, none⟩) M.length cap ∧ us[i]? = some (.slice (some ⟨g', 0, none⟩) l.length cap') ∧ w.cell? ⟨g, i, none⟩ = some (.slice (some ⟨g', 0, none⟩) l.length cap') := by
  have hil := (List.getElem?_eq_some_iff.1 hi).1
  obtain ⟨g, cap, e⟩ := own_form h.out (by omega)
  obtain ⟨u, hu⟩ := getAt (n := 0) h.len.symm hi
  obtain ⟨g', cap', e'⟩ := own_form (h.row i l u hi hu) hl
  refine ⟨g, cap, g', cap', e, e' ▸ hu, ?_⟩
  have ho := h.out
  rw [e] at ho
  rw [ho.cellAt i (by omega), hu, e']
theorem Mat.drew {B e1 e2 : Nat} {w : World} {v : Value} {M : LL} {us : List Value} (h : Mat B e1 e2 w v M us) : Mat B e1 e2 w.drew v M us := ⟨h.out, h.row, h.inj, h.apart⟩
abbrev MayF := LL → Option Bool
def bMay (P : Program) (f : Nat) (may : MayF) : Prop := ∀ L r, may L = some r → ∀ w0 w v, w0.heap.size ≤ w.heap.size → RowsOld w0 w v L → Calls P f #[v] w fun e w' => e = .returned (.bool r) ∧ Below w.heap.size w w'
def bNum (P : Program) (f : Nat) (nu : Int × Int → Option Bool) : Prop := ∀ a b r, nu (a, b) = some r → ∀ w, Calls P f #[.int .i64 a, .int .i64 b] w fun e w' => e = .returned (.bool r) ∧ Below w.heap.size w w'
def bSm (P : Program) (f : Nat) (sm : Int × Int → Option Int) : Prop := ∀ a b r, sm (a, b) = some r → ∀ w, Calls P f #[.int .i64 a, .int .i64 b] w fun e w' => e = .returned (.int .i64 r) ∧ Below w.heap.size w w'
/-- What rtt.Learn comes to. -/
def set2 (d : LL) (a b : Nat) (v : Int) : LL := (d.modify a (·.set b v)).modify b (·.set a v)
def sized (d : LL) : Bool := decide (d.length ≤ 1000) && d.all fun l => decide (0 < l.length ∧ l.length ≤ 1000)
def learnT (may : MayF) (nu : Int × Int → Option Bool) (sm : Int × Int → Option Int) (d : LL) (a b s : Int) : Option LL :=
  cnd (sized d) (obind (may d) fun m => cnd m (obind (nu (a, b)) fun n => cnd n
    (cnd (decide (1 ≤ a ∧ 1 ≤ b ∧ a ≠ b ∧ b.toNat ≤ (d.getD (a.toNat - 1) []).length ∧ a.toNat ≤ (d.getD (b.toNat - 1) []).length))
      (obind (sm ((d.getD (a.toNat - 1) []).getD (b.toNat - 1) 0, s)) fun v => some (set2 d (a.toNat - 1) (b.toNat - 1) v)) none)
    (some d)) (some d)) none
theorem learn_cases {may : MayF} {nu : Int × Int → Option Bool} {sm : Int × Int → Option Int} {L r : LL} {a b s : Int} (h : learnT may nu sm L a b s = some r) :
    (L.length ≤ 1000 ∧ ∀ l ∈ L, 0 < l.length ∧ l.length ≤ 1000) ∧ ((may L = some false ∧ r = L) ∨ (may L = some true ∧ nu (a, b) = some false ∧ r = L) ∨
      (may L = some true ∧ nu (a, b) = some true ∧ ∃ (A B : Nat) (la lb : List Int) (x y : Int), a = (A : Int) + 1 ∧ b = (B : Int) + 1 ∧ A ≠ B ∧ L[A]? = some la ∧ L[B]? = some lb ∧ B < la.length ∧ A < lb.length ∧ la[B]? = some x ∧
        sm (x, s) = some y ∧ r = set2 L A B y)) := by
  unfold learnT at h
  cases h0 : sized L with
  | false => rw [h0] at h; cases h
  | true =>
    rw [h0, fl_t] at h
    refine ⟨?_, ?_⟩
    · simp only [sized, Bool.and_eq_true, decide_eq_true_eq, List.all_eq_true] at h0
      exact h0
    · cases h1 : may L with
      | none => rw [h1] at h; cases h
      | some m =>
        rw [h1, fl_ob] at h
        cases m with
        | false => injection h with h; exact .inl ⟨rfl, h.symm⟩
        | true =>
          rw [fl_t] at h
          cases h2 : nu (a, b) with
          | none => rw [h2] at h; cases h
          | some n =>
            rw [h2, fl_ob] at h
            cases n with
            | false => injection h with h; exact .inr (.inl ⟨rfl, rfl, h.symm⟩)
            | true =>
              rw [fl_t] at h
              refine .inr (.inr ⟨rfl, rfl, ?_⟩)
              by_cases hc : 1 ≤ a ∧ 1 ≤ b ∧ a ≠ b ∧ b.toNat ≤ (L.getD (a.toNat - 1) []).length ∧ a.toNat ≤ (L.getD (b.toNat - 1) []).length
              · rw [decide_eq_true hc, fl_t] at h
                obtain ⟨c1, c2, c3, c4, c5⟩ := hc
                cases h3 : sm ((L.getD (a.toNat - 1) []).getD (b.toNat - 1) 0, s) with
                | none => rw [h3] at h; cases h
                | some y =>
                  rw [h3, fl_ob] at h
                  injection h with h
                  have gx : ∀ (q : List Int) (k : Nat), k < q.length → q[k]? = some (q.getD k 0) := fun q k hk => by rw [List.getD_eq_getElem?_getD, List.getElem?_eq_getElem hk]; rfl
                  have gd : ∀ (k : Nat), 0 < (L.getD k []).length → L[k]? = some (L.getD k []) := fun k hk => by
                    rw [List.getD_eq_getElem?_getD] at hk ⊢
                    cases hq : L[k]? with
                    | none => rw [hq] at hk; simp at hk
                    | some l => rfl
                  refine ⟨a.toNat - 1, b.toNat - 1, _, _, _, y, by omega, by omega, by omega, gd _ (by omega), gd _ (by omega), by omega, by omega, gx _ _ (by omega), h3, h.symm⟩
              · rw [decide_eq_false hc, fl_f] at h; cases h
theorem bMay_of {P : Program} {f : Nat} {may : MayF} (h : ∀ x r, may x = some r → Spec2 P f [.lst ⟨.list (.int .i64), x⟩] [] (.bs r) [] []) : bMay P f may := by
  intro L r hr w0 w v hsz hv
  refine (h L r hr w #[v] (fun x => x) (fun p => p.block < w0.heap.size) (tr0 _ _ _) ?_).mono ?_
  · refine ⟨rfl, fun i d u hd hu => ?_⟩
    match i, hd, hu with
    | 0, hd, hu =>
      cases hd; cases hu
      exact .pure (Rp.mono (fun p hp => ⟨⟨hp, Nat.lt_of_lt_of_le hp hsz, fun t ht => absurd ht (tab0_live t)⟩, rfl⟩) hv)
  · rintro e w' ⟨v, β', rfl, hk, _, hr, _⟩
    refine ⟨?_, (hk.mono (Y := fun _ => False) fun k _ hx => by obtain ⟨t, ht, _⟩ := hx; exact tab0_live t ht).below⟩
    rw [hr.bs_]
theorem bNum_of {P : Program} {f : Nat} {nu : Int × Int → Option Bool} (h : ∀ x r, nu x = some r → Spec2 P f [.int .i64 x.1, .int .i64 x.2] [] (.bs r) [] []) : bNum P f nu := by
  intro a b r hr w
  refine (call_flat (h _ r hr) (cargs := #[.int .i64 a, .int .i64 b]) (w := w) fun T β S => lr2 (.pure (.int _ _)) (.pure (.int _ _))).mono ?_
  rintro e w' ⟨⟨v, rfl, T, β, S, hv⟩, hb⟩
  rw [hv.bs_]
  exact ⟨rfl, hb⟩
theorem bSm_of {P : Program} {f : Nat} {sm : Int × Int → Option Int} (h : ∀ x r, sm x = some r → Spec2 P f [.int .i64 x.1, .int .i64 x.2] [] (.int .i64 r) [] []) : bSm P f sm := by
  intro a b r hr w
  refine (call_flat (h _ r hr) (cargs := #[.int .i64 a, .int .i64 b]) (w := w) fun T β S => lr2 (.pure (.int _ _)) (.pure (.int _ _))).mono ?_
  rintro e w' ⟨⟨v, rfl, T, β, S, hv⟩, hb⟩
  rw [hv.int_]
  exact ⟨rfl, hb⟩
/-- Such rows, as a plain list. -/
theorem Mat.rp {B e1 e2 : Nat} {w : World} {v : Value} {M : LL} {us : List Value} (h : Mat B e1 e2 w v M us) {S : Addr → Prop} (hS : ∀ p : Addr, B ≤ p.block → p.block < w.heap.size → S p) : Rp S w (.lst ⟨.list (.int .i64), M⟩) v := by
  have one : ∀ {e n : Nat} {u : Value} {xs : List Value}, w.ownsRow B e 1 u n xs → (u = .slice none 0 0 ∧ n = 0) ∨ ∃ g c, u = .slice (some ⟨g, 0, none⟩) n c ∧ n ≤ c ∧ ∀ j x, xs[j]? = some x → S ((⟨g, 0, none⟩ : Addr).add j) ∧ w.cell? ((⟨g, 0, none⟩ : Addr).add j) = some x := by
    intro e n u xs ho
    have ho2 := ho
    rcases ho.2 with q | ⟨g, cap, cur, rfl, hb, hg, hc, _, _, _⟩
    · exact .inl q
    · refine .inr ⟨g, cap, rfl, hc, fun j x hx => ?_⟩
      have hc := ho2.cells (g := g) rfl j x hx
      refine ⟨hS _ ?_ (World.block_lt_of_cell? w _ hc), hc⟩
      unfold Addr.add
      split <;> exact hb
  refine rp_rows h.len ?_ fun i l u hi hu => ?_
  · rcases one h.out with ⟨e, e2⟩ | ⟨g, c, e, hc, hm⟩
    · exact .inl ⟨e, List.eq_nil_of_length_eq_zero e2⟩
    · exact .inr ⟨_, c, e, hc, hm⟩
  · rcases one (h.row i l u hi hu) with ⟨e, e2⟩ | ⟨g, c, e, hc, hm⟩
    · exact .inl ⟨e, List.eq_nil_of_length_eq_zero e2⟩
    · exact .inr ⟨_, c, e, hc, fun j n hn => hm j _ (by rw [List.getElem?_map, hn]; rfl)⟩
theorem learn_spec {P : Program} {f e1 e2 : Nat} {may : MayF} {nu : Int × Int → Option Bool} {sm : Int × Int → Option Int}
    (hw : ∀ (L : LL) (a b s : Int) (r : LL), learnT may nu sm L a b s = some r → ∀ (v : Value) (w : World), RowsOld w w v L → Calls P f #[v, .int .i64 a, .int .i64 b, .int .i64 s] w fun e w' => (∃ u us, e = .returned u ∧ Mat w.heap.size e1 e2 w' u r us) ∧ Below w.heap.size w w')
    {L r : LL} {a b s : Int} (h : learnT may nu sm L a b s = some r) : Spec2 P f [.lst ⟨.list (.int .i64), L⟩, .int .i64 a, .int .i64 b, .int .i64 s] [] (.lst ⟨.list (.int .i64), r⟩) [] [] := by
  intro w cargs β S htr hargs
  obtain ⟨ca⟩ := cargs
  obtain ⟨v0, l1, rfl, r0, hl⟩ := LR.head (vs := ca) hargs
  obtain ⟨v1, l2, rfl, r1, hl⟩ := LR.head hl
  obtain ⟨v2, l3, rfl, r2, hl⟩ := LR.head hl
  obtain ⟨v3, l4, rfl, r3, hl⟩ := LR.head hl
  have : l4 = [] := List.eq_nil_of_length_eq_zero hl.1.symm
  subst this
  rw [r1.int_, r2.int_, r3.int_]
  refine (hw L a b s r h v0 w ?_).mono ?_
  · cases r0 with
    | pure r0 => exact Rp.mono (fun p hp => ⟨hp.2.1, rfl⟩) r0
  · rintro e w' ⟨⟨u, us, rfl, hm⟩, hb⟩
    exact ⟨u, β, rfl, ⟨hb.os, hb.tape, hb.output, hb.size, fun k hk _ => hb.block k hk, fun k hk => .same (hb.block k hk)⟩, tr0 _ _ _,
      .pure (hm.rp fun p h1 h2 => ⟨.inr (.inl h1), h2, fun t ht => absurd ht (tab0_live t)⟩), rfl, fun j hj => absurd hj (by simp), fun j hj => absurd hj (by simp)⟩
end Go.Abs
