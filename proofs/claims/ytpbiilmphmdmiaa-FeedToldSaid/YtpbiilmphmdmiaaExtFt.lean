/- The statement FeedTold, by a walk: its maps, its feeds, its rounds. -/
import Derived.Maps.OwnSet
import Derived.Below
import Derived.Carry
import Derived.Test.YtpbiilmphmdmiaaExtFl
import Derived.StringKeys
import Derived.Deep.MidRow
import Derived.Test.YtpbiilmphmdmiaaProg
import Derived.Laws.Slices
import Derived.WalkKit
import Derived.OwnWalk
import Derived.BigCall
import Derived.BigRegion
import Derived.BigQuiet
import Derived.Deep.QuietTactic
import Derived.Deep.RegionWith
import Derived.Deep.RegionHeld3
import Derived.Deep.Cut
import Derived.Deep.CutRange
import Derived.Deep.CutBlock
namespace Go.Abs
open Go.RowKit Go.Maps Go.ChangeMaps
set_option linter.unusedVariables false
/-- How a flag, or a map, in a map reads. -/
def gR : Value → Option (DataW Unit × List MemPlace)
  | .bool x => some (.lit (.bool x), [])
  | .map (some b) => some (.lit (.int .i64 b), [])
  | .map none => some (.lit (.int .i64 (-1)), [])
  | _ => none
theorem gR_inj {u v : Value} {d : DataW Unit} {p q : List MemPlace} (h1 : gR u = some (d, p)) (h2 : gR v = some (d, q)) : u = v := by
  unfold gR at h1 h2
  split at h1 <;> cases h1
  all_goals (split at h2 <;> cases h2)
  all_goals first | rfl | (rename_i a b h; omega) | skip
/-- A map in memory, by what each key is told. -/
def Gm {α : Type} (w : World) (P : Program) (k : TypeId) (z : Value) (κ : α → Lit) (b n : Nat) (S : α → Value) : Prop :=
  ∃ D : DataW Unit, w.ownsMap P k gR b n D ∧ ∃ zd zp, gR z = some (zd, zp) ∧ ∀ a, ∃ ps, gR (S a) = some (D.atKey (κ a) zd, ps)
variable {α : Type} {w w' : World} {P : Program} {k : TypeId} {z : Value} {κ : α → Lit} {b n : Nat} {S : α → Value}
theorem Gm.lt (h : Gm w P k z κ b n S) : b < w.heap.size := by
  obtain ⟨D, h1, _⟩ := h
  exact h1.lt
theorem Gm.at (h : Gm w P k z κ b n S) : ∃ es c, w.heap[b]? = some (.map es c) := by
  obtain ⟨D, ⟨es, c, h, _⟩, _⟩ := h
  exact ⟨es, c, h⟩
theorem Gm.of_block (h : Gm w P k z κ b n S) (e : w'.heap[b]? = w.heap[b]?) : Gm w' P k z κ b n S := by
  obtain ⟨D, ⟨es, c, h1, h2⟩, h3⟩ := h
  exact ⟨D, ⟨es, c, e.trans h1, h2⟩, h3⟩
theorem Gm.mono (h : Gm w P k z κ b n S) {m : Nat} (hm : n ≤ m) : Gm w P k z κ b m S := by
  obtain ⟨D, h1, h3⟩ := h
  exact ⟨D, h1.mono hm, h3⟩
theorem Gm.made (w : World) (P : Program) (k : TypeId) {z : Value} (κ : α → Lit) {zd : DataW Unit} {zp : List MemPlace} (hz : gR z = some (zd, zp)) : Gm (w.alloc (.map #[] 0)) P k z κ w.heap.size 0 (fun _ => z) :=
  ⟨.map [], World.ownsMap_made w P k gR, zd, zp, hz, fun a => ⟨zp, by simpa [DataW.atKey] using hz⟩⟩
theorem Gm.look {t e : TypeId} (h : Gm w P k z κ b n S) (K : Keyed P k) (ht : P.underlying t = some (.map k e)) (hz : (zeroValue e).run P w = .ok z w) {key : Value} {a : α} (hkey : keyOf P k key = some (κ a)) :
    (Instr.lookup t (.map (some b)) key false).run P w = .ok (S a) w := by
  obtain ⟨D, h1, zd, zp, hzd, h3⟩ := h
  obtain ⟨v, ps, hrun, hv⟩ := h1.lookup K ht hz hzd hkey
  obtain ⟨qs, hq⟩ := h3 a
  rw [hrun, gR_inj hv hq]
theorem Gm.put {t e : TypeId} [DecidableEq α] (h : Gm w P k z κ b n S) (K : Keyed P k) (ht : P.underlying t = some (.map k e)) (hn : n < maxLen) {key val : Value} {a : α} (hkey : keyOf P k key = some (κ a)) (hk : WideAt.IsKeyLit (κ a)) (hinj : ∀ x, κ x = κ a → x = a)
    {d : DataW Unit} {ps : List MemPlace} (hv : gR val = some (d, ps)) : ∃ w', (Instr.mapUpdate t (.map (some b)) key val).run P w = .ok () w' ∧ Gm w' P k z κ b (n + 1) (fun x => if x = a then val else S x) ∧ w.mapTurned w' b := by
  obtain ⟨D, h1, zd, zp, hzd, h3⟩ := h
  obtain ⟨w', hrun, ho, ht⟩ := h1.store K ht hn hkey hv
  refine ⟨w', hrun, ⟨D.put (κ a) d, ho, zd, zp, hzd, fun x => ?_⟩, ht⟩
  by_cases c : x = a
  · subst c
    show ∃ ps, gR (if x = x then val else S x) = _
    rw [if_pos rfl, atKey_put_same h1.isMap hk]
    exact ⟨ps, hv⟩
  · show ∃ ps, gR (if x = a then val else S x) = _
    rw [if_neg c, atKey_put_other (fun q => c (hinj x q))]
    exact h3 x
theorem mapTurned_at {b : Nat} (h : w.mapTurned w' b) {k : Nat} (hk : k ≠ b) : w'.heap[k]? = w.heap[k]? := by
  obtain ⟨es, clock, es', clock', hb, rfl⟩ := h
  exact ChangeMaps.heap_setBlock_other hb _ hk
theorem mapTurned_size {b : Nat} (h : w.mapTurned w' b) : w'.heap.size = w.heap.size := by
  obtain ⟨es, clock, es', clock', hb, rfl⟩ := h
  simp [setBlock]
theorem mapTurned_below {b B : Nat} (h : w.mapTurned w' b) (hb : B ≤ b) : Below B w w' := by
  have h1 := h.grown
  exact (Below.refl B w).grown h1 (by have := mapTurned_size h; obtain ⟨es, c, es', c', h2, _⟩ := h; have := (Array.getElem?_eq_some_iff.1 h2).1; omega) (fun k e => by injection e with e; omega)
end Go.Abs
namespace Go.Abs
open Go.RowKit
set_option linter.unusedVariables false
abbrev FtI := Int × List UInt8
abbrev FtE := Int × Int × Int × List UInt8 × Int
abbrev FtF := Int × Int × List FtI × List FtI × List FtE × Int × Int
abbrev FtD := Int × Int × Int
abbrev ft0 : FtF := (0, 0, [], [], [], 0, 0)
abbrev ftI : Ty := .agg (.pair (.int .i64) .str)
abbrev ftE : Ty := .agg (.pair (.int .i64) (.pair (.int .i64) (.pair (.int .i64) (.pair .str (.int .i64)))))
/-- A feed, as a value. -/
def FdIn (S : Addr → Prop) (w : World) (v : Value) (f : FtF) : Prop := ∃ p0 n0 c0 p1 n1 c1 p2 n2 c2, v = .agg #[.int .i64 f.1, .int .i64 f.2.1, .slice p0 n0 c0, .slice p1 n1 c1, .slice p2 n2 c2, .int .i64 f.2.2.2.2.2.1, .int .i64 f.2.2.2.2.2.2] ∧
  Rp S w (.lst ⟨ftI, f.2.2.1⟩) (.slice p0 n0 c0) ∧ Rp S w (.lst ⟨ftI, f.2.2.2.1⟩) (.slice p1 n1 c1) ∧ Rp S w (.lst ⟨ftE, f.2.2.2.2.1⟩) (.slice p2 n2 c2)
theorem FdIn.mono {S S' : Addr → Prop} {w w' : World} {v : Value} {f : FtF} (h : FdIn S w v f) (hs : ∀ p, S p → S' p ∧ w'.cell? p = w.cell? p) : FdIn S' w' v f := by
  obtain ⟨p0, n0, c0, p1, n1, c1, p2, n2, c2, e, r0, r1, r2⟩ := h
  exact ⟨p0, n0, c0, p1, n1, c1, p2, n2, c2, e, r0.mono hs, r1.mono hs, r2.mono hs⟩
abbrev FtDeed := FtF × FtF × FtD × Int → Option (Bool × FtF × FtF)
def bDeed (P : Program) (g : Nat) (deed : FtDeed) : Prop := ∀ f d now x y bo, deed (f, f, d, now) = some (bo, x, y) → ∀ (S : Addr → Prop) w v, (∀ p, S p → p.block < w.heap.size) → FdIn S w v f →
  Calls P g #[v, v, .agg #[.int .u8 d.1, .int .u8 d.2.1, .int .u8 d.2.2], .int .i64 now] w fun e w' => (∃ vx vy, e = .returned (.tuple #[vx, vy, .bool bo]) ∧ FdIn (fun p => S p ∨ (w.heap.size ≤ p.block ∧ p.block < w'.heap.size)) w' vx x ∧ FdIn (fun p => S p ∨ (w.heap.size ≤ p.block ∧ p.block < w'.heap.size)) w' vy y) ∧ Below w.heap.size w w'
def bTrue (P : Program) (f : Nat) : Prop := ∀ w, Calls P f #[] w fun e w' => e = .returned (.bool true) ∧ Below w.heap.size w w'
/-- Triples of bytes. -/
def D3At (w : World) (v : Value) (l : List FtD) : Prop := ∃ p c, v = .slice p l.length c ∧ ∀ j d, l[j]? = some d → (0 ≤ d.1 ∧ 0 ≤ d.2.1 ∧ 0 ≤ d.2.2) ∧ ∃ (ad : Addr) (B O : Nat) (s : _), p = some ad ∧ ad.add (j * 3) = ⟨B, O, s⟩ ∧ w.cell? ⟨B, O, s⟩ = some (.int .u8 d.1) ∧ w.cell? ⟨B, O + 1, none⟩ = some (.int .u8 d.2.1) ∧ w.cell? ⟨B, O + 2, none⟩ = some (.int .u8 d.2.2)
def nearF (n d : Int) : Int := max 1 (n - 2 + d % 12)
def textF (d : Int) : List UInt8 := List.getD [[], [97], [98, 99], [104, 101, 108, 108, 111], [116, 104, 105, 114, 116, 101, 101, 110, 32, 98, 121, 116, 101]] (d % 5).toNat []
def cameF (C : Int → List UInt8 → Bool) (f : FtF) (d : FtD) : Int → List UInt8 → Bool := if 5 ≤ d.1 % 8 then fun k t => C k t || (decide (k = nearF f.1 d.2.1) && decide (t = textF d.2.2)) else C
def notedF (N : Int → Bool) (f : FtF) (d : FtD) : Int → Bool := if d.1 % 8 = 1 then fun k => N k || decide (nearF f.1 d.2.1 ≤ k ∧ k < nearF f.1 d.2.1 + d.2.2 % 6) else N
def evOk (C : Int → List UInt8 → Bool) (N : Int → Bool) (tries d0 : Int) (e : FtE) : Prop :=
  (e.1 = 1 → C e.2.1 e.2.2.2.1 = true) ∧ (e.1 = 2 → e.2.2.2.2 = 2 → ¬ tries < 3 ∧ (d0 % 8 = 3 ∨ d0 % 8 = 4)) ∧ (e.1 = 2 → e.2.2.2.2 = 1 → ∀ n, e.2.1 ≤ n → n ≤ e.2.2.1 → N n = true) ∧ (-1000000000 ≤ e.2.1 ∧ e.2.1 ≤ 1000000000 ∧ e.2.2.1 ≤ 1000000000) ∧ e.2.2.2.1.length ≤ 100
/-- All rounds to come go well. -/
def okRun (deed : FtDeed) : List FtD → Int → FtF → (Int → List UInt8 → Bool) → (Int → Bool) → Prop
  | [], _, _, _, _ => True
  | d :: l, now, f, C, N => 0 ≤ f.1 ∧ f.1 ≤ 2000000 ∧ ∃ bo x y, deed (f, f, d, now + d.2.2 % 4) = some (bo, x, y) ∧ f.2.2.2.2.1.length ≤ x.2.2.2.2.1.length ∧ x.2.2.2.2.1.length ≤ 100000000 ∧
    (∀ e ∈ x.2.2.2.2.1.drop f.2.2.2.2.1.length, evOk (cameF C f d) (notedF N f d) f.2.2.2.2.2.1 d.1 e) ∧ okRun deed l (now + d.2.2 % 4) x (cameF C f d) (notedF N f d)
end Go.Abs
namespace Go.Abs
open Go.RowKit
set_option linter.unusedVariables false
theorem bDrew {B : Nat} {a w : World} (h : Below B a w) : Below B a w.drew := h.trans ⟨rfl, rfl, rfl, Nat.le_refl _, fun _ _ => rfl⟩
theorem cell_block {w : World} {a : Addr} {v : Value} (h : w.cell? a = some v) : a.block < w.heap.size := by
  unfold World.cell? at h
  cases hq : w.heap[a.block]? with
  | none => rw [hq] at h; cases h
  | some z => exact (Array.getElem?_eq_some_iff.1 hq).1
theorem cellBelow {B : Nat} {w w' : World} (h : Below B w w') {a : Addr} {v : Value} (hB : w.heap.size ≤ B) (c : w.cell? a = some v) : w'.cell? a = some v := by
  rw [h.cell (Nat.lt_of_lt_of_le (cell_block c) hB)]; exact c
theorem cellOld {W : World} {a : Addr} {v : Value} (o : Obj) (h : W.cell? a = some v) : (W.alloc o).cell? a = some v :=
  cellBelow ((Below.refl W.heap.size W).alloc (Nat.le_refl _) o) (Nat.le_refl _) h
theorem kAlloc {w9 W : World} {R : Prop} (h : Below w9.heap.size w9 W ∧ R) (o : Obj) : Below w9.heap.size w9 (W.alloc o) := h.1.alloc h.1.size o
theorem kSet {w9 W : World} {R : Prop} (h : Below w9.heap.size w9 W ∧ R) {p : Addr} (hp : w9.heap.size ≤ p.block) (v : Value) : Below w9.heap.size w9 (W.setCell p v) := h.1.setCell hp v
theorem kCall {w9 W w' : World} {R : Prop} (h : Below w9.heap.size w9 W ∧ R) (hb : Below W.heap.size W w') : Below w9.heap.size w9 w' := h.1.trans (hb.mono h.1.size)
end Go.Abs
namespace Go.Abs
open Go.RowKit
set_option linter.unusedVariables false
theorem flatAt {α β : Type} (f : α → List β) (m : Nat) (hf : ∀ a, (f a).length = m) : ∀ (l : List α) (j i : Nat) (a : α), l[j]? = some a → i < m → (l.flatMap f)[j * m + i]? = (f a)[i]?
  | [], j, i, a, h, _ => by simp at h
  | x :: r, 0, i, a, h, hi => by
    have : x = a := by simpa using h
    subst this
    rw [List.flatMap_cons, Nat.zero_mul, Nat.zero_add, List.getElem?_append_left (by rw [hf]; exact hi)]
  | x :: r, j + 1, i, a, h, hi => by
    rw [List.flatMap_cons, List.getElem?_append_right (by rw [hf, Nat.succ_mul]; omega), hf, show (j + 1) * m + i - m = j * m + i by rw [Nat.succ_mul]; omega]
    exact flatAt f m hf r j i a (by simpa using h) hi
theorem ftAt {α : Type} {l : List α} {i : Nat} {m : List Value} (h : l.length = m.length) {x : α} (hx : l[i]? = some x) : ∃ u, m[i]? = some u := by
  have := (List.getElem?_eq_some_iff.1 hx).1
  exact ⟨m[i]'(by omega), List.getElem?_eq_getElem _⟩
/-- The events that a value leads to. -/
theorem evs_of {S : Addr → Prop} {w : World} {L : List FtE} {p : Option Addr} {n c : Nat} (h : Rp S w (.lst ⟨ftE, L⟩) (.slice p n c)) :
    n = L.length ∧ ∀ j e, L[j]? = some e → ∃ (ad : Addr) (B O : Nat) (s : _) (b : ByteArray), p = some ad ∧ b.data.toList = e.2.2.2.1 ∧ ad.add (j * 5) = ⟨B, O, s⟩ ∧ S ⟨B, O, s⟩ ∧ w.cell? ⟨B, O, s⟩ = some (.int .i64 e.1) ∧ w.cell? ⟨B, O + 1, none⟩ = some (.int .i64 e.2.1) ∧
      w.cell? ⟨B, O + 2, none⟩ = some (.int .i64 e.2.2.1) ∧ w.cell? ⟨B, O + 3, none⟩ = some (.string b) ∧ w.cell? ⟨B, O + 4, none⟩ = some (.int .i64 e.2.2.2.2) := by
  obtain ⟨m, hn⟩ : ∃ m, m = L.length := ⟨_, rfl⟩
  obtain ⟨K, hK⟩ : ∃ K, K = TL.cells ⟨ftE, L⟩ := ⟨_, rfl⟩
  replace h : Rp S w (.sl m K) (.slice p n c) := by
    cases h with
    | lst h => rw [hn, hK]; exact h
  cases h with
  | @sl _ _ a _ vs hc hm hl h =>
    refine ⟨hn, fun j e hj => ?_⟩
    have hc5 : ∀ i, i < 5 → K[j * 5 + i]? = (cellsV ftE e)[i]? := fun i hi => by
      rw [hK]
      exact flatAt (cellsV ftE) 5 (fun a => rfl) L j i e hj hi
    have hd : ∀ i d, i < 5 → (cellsV ftE e)[i]? = some d → ∃ u, S (a.add (j * 5 + i)) ∧ w.cell? (a.add (j * 5 + i)) = some u ∧ Rp S w d u := fun i d hi hd => by
      have e1 := (hc5 i hi).trans hd
      obtain ⟨u, hu⟩ := ftAt hl e1
      have h1 := hm _ u hu
      exact ⟨u, h1.1, h1.2, h _ d u e1 hu⟩
    obtain ⟨u0, s0, q0, r0⟩ := hd 0 (.int .i64 e.1) (by omega) rfl
    obtain ⟨u1, s1, q1, r1⟩ := hd 1 (.int .i64 e.2.1) (by omega) rfl
    obtain ⟨u2, s2, q2, r2⟩ := hd 2 (.int .i64 e.2.2.1) (by omega) rfl
    obtain ⟨u3, s3, q3, r3⟩ := hd 3 (.str e.2.2.2.1) (by omega) rfl
    obtain ⟨u4, s4, q4, r4⟩ := hd 4 (.int .i64 e.2.2.2.2) (by omega) rfl
    cases r0; cases r1; cases r2; cases r4
    cases r3 with
    | str b _ hb =>
      have ha : ∀ i, 0 < i → a.add (j * 5 + i) = ⟨(a.add (j * 5)).block, (a.add (j * 5)).off + i, none⟩ := fun i hi => by
        unfold Addr.add
        rw [if_neg (by omega)]
        split
        · rename_i q; rw [q]; simp
        · simp; omega
      rw [ha 1 (by omega)] at q1
      rw [ha 2 (by omega)] at q2
      rw [ha 3 (by omega)] at q3
      rw [ha 4 (by omega)] at q4
      exact ⟨a, _, _, _, b, rfl, hb, rfl, s0, q0, q1, q2, q3, q4⟩
  | slz =>
    refine ⟨hn, fun j e hj => ?_⟩
    have : L = [] := List.eq_nil_of_length_eq_zero hn.symm
    subst this
    simp at hj
abbrev ftD : Ty := .agg (.pair (.int .u8) (.pair (.int .u8) (.int .u8)))
theorem d3_of {S : Addr → Prop} {w : World} {L : List FtD} {v : Value} (h : Rp S w (.lst ⟨ftD, L⟩) v) (hU : ∀ d ∈ L, 0 ≤ d.1 ∧ 0 ≤ d.2.1 ∧ 0 ≤ d.2.2) : D3At w v L := by
  obtain ⟨m, hn⟩ : ∃ m, m = L.length := ⟨_, rfl⟩
  obtain ⟨K, hK⟩ : ∃ K, K = TL.cells ⟨ftD, L⟩ := ⟨_, rfl⟩
  replace h : Rp S w (.sl m K) v := by
    cases h with
    | lst h => rw [hn, hK]; exact h
  cases h with
  | @sl _ _ a c vs hc hm hl h =>
    refine ⟨some a, c, by rw [hn], fun j e hj => ⟨hU e (List.mem_of_getElem? hj), ?_⟩⟩
    have hc5 : ∀ i, i < 3 → K[j * 3 + i]? = (cellsV ftD e)[i]? := fun i hi => by
      rw [hK]
      exact flatAt (cellsV ftD) 3 (fun a => rfl) L j i e hj hi
    have hd : ∀ i d, i < 3 → (cellsV ftD e)[i]? = some d → ∃ u, w.cell? (a.add (j * 3 + i)) = some u ∧ Rp S w d u := fun i d hi hd => by
      have e1 := (hc5 i hi).trans hd
      obtain ⟨u, hu⟩ := ftAt hl e1
      have h1 := hm _ u hu
      exact ⟨u, h1.2, h _ d u e1 hu⟩
    obtain ⟨u0, q0, r0⟩ := hd 0 (.int .u8 e.1) (by omega) rfl
    obtain ⟨u1, q1, r1⟩ := hd 1 (.int .u8 e.2.1) (by omega) rfl
    obtain ⟨u2, q2, r2⟩ := hd 2 (.int .u8 e.2.2) (by omega) rfl
    cases r0; cases r1; cases r2
    have ha : ∀ i, 0 < i → a.add (j * 3 + i) = ⟨(a.add (j * 3)).block, (a.add (j * 3)).off + i, none⟩ := fun i hi => by
      unfold Addr.add
      rw [if_neg (by omega)]
      split
      · rename_i q; rw [q]; simp
      · simp; omega
    rw [ha 1 (by omega)] at q1
    rw [ha 2 (by omega)] at q2
    exact ⟨a, _, _, _, rfl, rfl, q0, q1, q2⟩
  | slz =>
    have : L = [] := List.eq_nil_of_length_eq_zero hn.symm
    subst this
    exact ⟨none, 0, rfl, fun j e hj => by simp at hj⟩
theorem D3At.below {w w' : World} {v : Value} {L : List FtD} (h : D3At w v L) (hb : Below w.heap.size w w') : D3At w' v L := by
  obtain ⟨p, c, e, h⟩ := h
  refine ⟨p, c, e, fun j d hj => ?_⟩
  obtain ⟨hU, ad, B, O, s, e1, e2, q0, q1, q2⟩ := h j d hj
  exact ⟨hU, ad, B, O, s, e1, e2, cellBelow hb (Nat.le_refl _) q0, cellBelow hb (Nat.le_refl _) q1, cellBelow hb (Nat.le_refl _) q2⟩
end Go.Abs
namespace Go.Abs
open Go.RowKit
set_option linter.unusedVariables false
abbrev ftT : Ty := .agg (.pair (.int .i64) (.pair (.int .i64) (.pair (.list ftI) (.pair (.list ftI) (.pair (.list ftE) (.agg (.pair (.int .i64) (.int .i64))))))))
theorem lst_slice {S : Addr → Prop} {w : World} {L : TL} {v : Value} (h : Rp S w (.lst L) v) : ∃ p n c, v = .slice p n c := by
  cases h with
  | lst h => exact h.sl_form
theorem Fd_rp {S : Addr → Prop} {w : World} {v : Value} {f : FtF} (h : FdIn S w v f) : Rp S w (valW ftT f) v := by
  obtain ⟨p0, n0, c0, p1, n1, c1, p2, n2, c2, rfl, r0, r1, r2⟩ := h
  show Rp S w (.agg [.int .i64 f.1, .int .i64 f.2.1, .lst ⟨ftI, f.2.2.1⟩, .lst ⟨ftI, f.2.2.2.1⟩, .lst ⟨ftE, f.2.2.2.2.1⟩, .int .i64 f.2.2.2.2.2.1, .int .i64 f.2.2.2.2.2.2]) _
  refine Rp.agg (vs := [_, _, _, _, _, _, _]) rfl fun i d u hd hu => ?_
  match i, hd, hu with
  | 0, hd, hu => cases hd; cases hu; exact .int _ _
  | 1, hd, hu => cases hd; cases hu; exact .int _ _
  | 2, hd, hu => cases hd; cases hu; exact r0
  | 3, hd, hu => cases hd; cases hu; exact r1
  | 4, hd, hu => cases hd; cases hu; exact r2
  | 5, hd, hu => cases hd; cases hu; exact .int _ _
  | 6, hd, hu => cases hd; cases hu; exact .int _ _
theorem Fd_of {S : Addr → Prop} {w : World} {v : Value} {f : FtF} (h : Rp S w (valW ftT f) v) : FdIn S w v f := by
  replace h : Rp S w (.agg [.int .i64 f.1, .int .i64 f.2.1, .lst ⟨ftI, f.2.2.1⟩, .lst ⟨ftI, f.2.2.2.1⟩, .lst ⟨ftE, f.2.2.2.2.1⟩, .int .i64 f.2.2.2.2.2.1, .int .i64 f.2.2.2.2.2.2]) v := h
  cases h with
  | @agg _ vs hl h =>
    match vs, hl, h with
    | [u0, u1, u2, u3, u4, u5, u6], hl, h =>
      have h0 := h 0 _ _ rfl rfl
      have h1 := h 1 _ _ rfl rfl
      have h2 := h 2 _ _ rfl rfl
      have h3 := h 3 _ _ rfl rfl
      have h4 := h 4 _ _ rfl rfl
      have h5 := h 5 _ _ rfl rfl
      have h6 := h 6 _ _ rfl rfl
      obtain ⟨p0, n0, c0, rfl⟩ := lst_slice h2
      obtain ⟨p1, n1, c1, rfl⟩ := lst_slice h3
      obtain ⟨p2, n2, c2, rfl⟩ := lst_slice h4
      cases h0; cases h1; cases h5; cases h6
      exact ⟨p0, n0, c0, p1, n1, c1, p2, n2, c2, rfl, h2, h3, h4⟩
theorem bDeed_of {P : Program} {g : Nat} {deed : FtDeed} (h : ∀ (x : FtF × FtF × FtD × Int) r, deed x = some r → Spec2 P g [valW ftT x.1, valW ftT x.2.1, valW ftD x.2.2.1, valW (.int .i64) x.2.2.2] [] (.tup [valW ftT r.2.1, valW ftT r.2.2, valW .bool r.1]) [] []) : bDeed P g deed := by
  intro f d now x y bo hd S w v hS hF
  have hv : Rp (Stable S (tabU [] []) (fun x => x) w) w (valW ftT f) v := (Fd_rp hF).mono fun p hp => ⟨⟨hp, hS p hp, fun t ht => absurd ht (tab0_live t)⟩, rfl⟩
  refine (h (f, f, d, now) (bo, x, y) hd w #[v, v, .agg #[.int .u8 d.1, .int .u8 d.2.1, .int .u8 d.2.2], .int .i64 now] (fun x => x) S (tr0 _ _ _) ?_).mono ?_
  · refine ⟨rfl, fun i d' u hd hu => ?_⟩
    match i, hd, hu with
    | 0, hd, hu => cases hd; cases hu; exact .pure hv
    | 1, hd, hu => cases hd; cases hu; exact .pure hv
    | 2, hd, hu =>
      cases hd; cases hu
      refine .pure ?_
      show Rp _ w (.agg [.int .u8 d.1, .int .u8 d.2.1, .int .u8 d.2.2]) _
      refine Rp.agg (vs := [_, _, _]) rfl fun i d' u hd hu => ?_
      match i, hd, hu with
      | 0, hd, hu => cases hd; cases hu; exact .int _ _
      | 1, hd, hu => cases hd; cases hu; exact .int _ _
      | 2, hd, hu => cases hd; cases hu; exact .int _ _
    | 3, hd, hu => cases hd; cases hu; exact .pure (.int _ _)
  · rintro e w' ⟨v', β', rfl, hk, _, hr, _⟩
    have hb : Below w.heap.size w w' := (hk.mono (Y := fun _ => False) fun k _ hx => by obtain ⟨t, ht, _⟩ := hx; exact tab0_live t ht).below
    have hr := hr.pure_ (by rfl)
    have out : ∀ {t u}, Rp (Stable (Dn S w.heap.size (fun x => x) [] []) (tabU [] []) β' w') w' t u → Rp (fun p => S p ∨ (w.heap.size ≤ p.block ∧ p.block < w'.heap.size)) w' t u := fun h => h.mono fun p hp => ⟨by
      rcases hp.1 with q | q | ⟨j, q, _⟩
      · exact .inl q
      · exact .inr ⟨q, hp.2.1⟩
      · simp at q, rfl⟩
    cases hr with
    | @tup _ vs hl h =>
      match vs, hl, h with
      | [u0, u1, u2], hl, h =>
        have h0 := Fd_of (out (h 0 _ _ rfl rfl))
        have h1 := Fd_of (out (h 1 _ _ rfl rfl))
        have h2 : Rp _ w' (.bs bo) u2 := h 2 _ _ rfl rfl
        cases h2 with
        | bs h2 => cases h2; exact ⟨⟨u0, u1, rfl, h0, h1⟩, hb⟩
theorem told_spec {P : Program} {g : Nat} {deed : FtDeed} {l : List FtD} (hU : ∀ d ∈ l, 0 ≤ d.1 ∧ 0 ≤ d.2.1 ∧ 0 ≤ d.2.2)
    (hw : ∀ (v : Value) (w : World), D3At w v l → Calls P g #[v] w fun e w' => e = .returned (.bool true) ∧ Below w.heap.size w w') : Spec2 P g [.lst ⟨ftD, l⟩] [] (.bs true) [] [] := by
  intro w cargs β S htr hargs
  obtain ⟨ca⟩ := cargs
  obtain ⟨v0, l1, rfl, r0, hl⟩ := LR.head (vs := ca) hargs
  have : l1 = [] := List.eq_nil_of_length_eq_zero hl.1.symm
  subst this
  refine (hw v0 w ?_).mono ?_
  · exact d3_of (r0.pure_ (by rfl)) hU
  · rintro e w' ⟨rfl, hb⟩
    exact ⟨_, β, rfl, ⟨hb.os, hb.tape, hb.output, hb.size, fun k hk _ => hb.block k hk, fun k hk => .same (hb.block k hk)⟩, tr0 _ _ _, .pure (.bs (.bool true)), rfl, fun j hj => absurd hj (by simp), fun j hj => absurd hj (by simp)⟩
theorem ftTrue_of {P : Program} {f : Nat} (h : Spec2 P f [] [] (.bs true) [] []) : bTrue P f := by
  intro w
  refine (call_flat h (cargs := #[]) (w := w) fun T β S => .nil).mono ?_
  rintro e w' ⟨⟨v, rfl, T, β, S, hv⟩, hb⟩
  rw [hv.bs_]
  exact ⟨rfl, hb⟩
end Go.Abs
namespace Go.Abs
open Go.RowKit Go.Maps
set_option linter.unusedVariables false
abbrev kI : Int → Lit := .int .i64
abbrev kS : List UInt8 → Lit := .string
/-- The blocks of rows that a feed may lead to: none of them is the box that holds the feed. -/
def FtR (w : World) (b0 : Nat) (p : Addr) : Prop := p.block < w.heap.size ∧ p.block ≠ b0
/-- A box that holds a feed. -/
def FtBox (w : World) (b0 X : Nat) (g : FtF) : Prop := ∃ p0 n0 c0 p1 n1 c1 p2 n2 c2, w.rangeAt X 0 [.int .i64 g.1, .int .i64 g.2.1, .slice p0 n0 c0, .slice p1 n1 c1, .slice p2 n2 c2, .int .i64 g.2.2.2.2.2.1, .int .i64 g.2.2.2.2.2.2] ∧
  Rp (FtR w b0) w (.lst ⟨ftI, g.2.2.1⟩) (.slice p0 n0 c0) ∧ Rp (FtR w b0) w (.lst ⟨ftI, g.2.2.2.1⟩) (.slice p1 n1 c1) ∧ Rp (FtR w b0) w (.lst ⟨ftE, g.2.2.2.2.1⟩) (.slice p2 n2 c2)
theorem range_below {w w' : World} {b o : Nat} {vs : List Value} (h : w.rangeAt b o vs) (hb : Below w.heap.size w w') : w'.rangeAt b o vs := fun j v hv => cellBelow hb (Nat.le_refl _) (h j v hv)
theorem there_below {w w' : World} {b o n : Nat} (h : w.there b o n) (hb : Below w.heap.size w w') : w'.there b o n := fun j hj => by
  obtain ⟨h1, h2⟩ := h j hj
  obtain ⟨v, hv⟩ := Option.isSome_iff_exists.1 h1
  have hl := cell_block hv
  exact ⟨by rw [cellBelow hb (Nat.le_refl _) hv]; rfl, by rw [hb.frozen hl]; exact h2⟩
theorem range_turned {w w' : World} {b o m : Nat} {vs : List Value} (h : w.rangeAt b o vs) (ht : w.mapTurned w' m) (hne : b ≠ m) : w'.rangeAt b o vs := fun j v hv => by
  rw [World.cell?_of_block (mapTurned_at ht (k := b) hne)]; exact h j v hv
theorem there_turned {w w' : World} {b o n m : Nat} (h : w.there b o n) (ht : w.mapTurned w' m) (hne : b ≠ m) : w'.there b o n := fun j hj => by
  rw [World.cell?_of_block (a := ⟨b, o + j, none⟩) (mapTurned_at ht (k := b) hne), World.frozen?_of_block (a := ⟨b, o + j, none⟩) (mapTurned_at ht (k := b) hne)]; exact h j hj
theorem FtBox.below {w w' : World} {b0 X : Nat} {g : FtF} (h : FtBox w b0 X g) (hb : Below w.heap.size w w') : FtBox w' b0 X g := by
  have hk : ∀ p, FtR w b0 p → FtR w' b0 p ∧ w'.cell? p = w.cell? p := fun p hp => ⟨⟨Nat.lt_of_lt_of_le hp.1 hb.size, hp.2⟩, hb.cell hp.1⟩
  obtain ⟨p0, n0, c0, p1, n1, c1, p2, n2, c2, e, r0, r1, r2⟩ := h
  exact ⟨p0, n0, c0, p1, n1, c1, p2, n2, c2, range_below e hb, r0.mono hk, r1.mono hk, r2.mono hk⟩
theorem map_cell {w : World} {b : Nat} {es : Array MapEntry} {c : Nat} (h : w.heap[b]? = some (.map es c)) (p : Addr) (hp : p.block = b) : w.cell? p = none := by
  unfold World.cell?
  rw [hp, h]
theorem FtBox.ne {w : World} {b0 X b : Nat} {g : FtF} (h : FtBox w b0 X g) (hb : ∃ es c, w.heap[b]? = some (.map es c)) : X ≠ b := fun q => by
  obtain ⟨p0, n0, c0, p1, n1, c1, p2, n2, c2, e, _⟩ := h
  obtain ⟨es, c, e2⟩ := hb
  have := e 0 _ rfl
  rw [map_cell e2 _ q] at this
  cases this
theorem FtBox.lt {w : World} {b0 X : Nat} {g : FtF} (h : FtBox w b0 X g) : X < w.heap.size := by
  obtain ⟨p0, n0, c0, p1, n1, c1, p2, n2, c2, e, _⟩ := h
  exact cell_block (e 0 _ rfl)
/-- What the loop holds: the feed's box, who came, what was noted. (T: the types of the outer map's and the inner ones' keys.) -/
structure FtSt (P : Program) (ki ks : TypeId) (w : World) (b0 : Nat) (f : FtF) (O : Int → Option Nat) (C : Int → List UInt8 → Bool) (N : Int → Bool) (n : Nat) : Prop where
  box : FtBox w b0 b0 f
  thr : w.there b0 0 7
  om : Gm w P ki (.map none) kI (b0 + 1) n (fun k => .map (O k))
  nm : Gm w P ki (.bool false) kI (b0 + 2) n (fun k => .bool (N k))
  im : ∀ k b, O k = some b → b0 + 2 < b ∧ Gm w P ks (.bool false) kS b n (fun t => .bool (C k t))
  inj : ∀ k k' b, O k = some b → O k' = some b → k = k'
  nil : ∀ k, O k = none → ∀ t, C k t = false
variable {P : Program} {ki ks : TypeId} {w w' : World} {b0 : Nat} {f : FtF} {O : Int → Option Nat} {C : Int → List UInt8 → Bool} {N : Int → Bool} {n : Nat}
/-- New blocks alone. -/
theorem FtSt.below (h : FtSt P ki ks w b0 f O C N n) (hb : Below w.heap.size w w') : FtSt P ki ks w' b0 f O C N n :=
  ⟨h.box.below hb, there_below h.thr hb, h.om.of_block (hb.block _ h.om.lt), h.nm.of_block (hb.block _ h.nm.lt), fun k b hkb => ⟨(h.im k b hkb).1, (h.im k b hkb).2.of_block (hb.block _ (h.im k b hkb).2.lt)⟩, h.inj, h.nil⟩
theorem FtSt.mono (h : FtSt P ki ks w b0 f O C N n) {m : Nat} (hm : n ≤ m) : FtSt P ki ks w b0 f O C N m :=
  ⟨h.box, h.thr, h.om.mono hm, h.nm.mono hm, fun k b hkb => ⟨(h.im k b hkb).1, (h.im k b hkb).2.mono hm⟩, h.inj, h.nil⟩
/-- Rows stay where a map is turned. -/
theorem rp_turned {t : V} {v : Value} {b : Nat} (hb : ∃ es c, w.heap[b]? = some (.map es c)) (hb' : ∃ es c, w'.heap[b]? = some (.map es c)) (ht : w.mapTurned w' b) (h : Rp (FtR w b0) w t v) : Rp (FtR w' b0) w' t v := by
  refine h.mono fun p hp => ⟨⟨by rw [mapTurned_size ht]; exact hp.1, hp.2⟩, ?_⟩
  by_cases q : p.block = b
  · obtain ⟨es, c, e⟩ := hb
    obtain ⟨es', c', e'⟩ := hb'
    rw [map_cell e p q, map_cell e' p q]
  · exact World.cell?_of_block (mapTurned_at ht q)
theorem FtBox.turned {X b : Nat} {g : FtF} (h : FtBox w b0 X g) (hb : ∃ es c, w.heap[b]? = some (.map es c)) (hb' : ∃ es c, w'.heap[b]? = some (.map es c)) (ht : w.mapTurned w' b) : FtBox w' b0 X g := by
  have hX := h.ne hb
  obtain ⟨p0, n0, c0, p1, n1, c1, p2, n2, c2, e, r0, r1, r2⟩ := h
  exact ⟨p0, n0, c0, p1, n1, c1, p2, n2, c2, range_turned e ht hX, rp_turned hb hb' ht r0, rp_turned hb hb' ht r1, rp_turned hb hb' ht r2⟩
/-- A number is noted. -/
theorem FtSt.note {mt e : TypeId} (h : FtSt P ki ks w b0 f O C N n) (hki : P.underlying ki = some (.int .i64)) (ht : P.underlying mt = some (.map ki e)) (hn : n < maxLen) {a : Int} (ha : (Lit.int .i64 a).wf = true) :
    ∃ w', (Instr.mapUpdate mt (.map (some (b0 + 2))) (.int .i64 a) (.bool true)).run P w = .ok () w' ∧ FtSt P ki ks w' b0 f O C (fun k => N k || decide (k = a)) (n + 1) ∧ w.mapTurned w' (b0 + 2) := by
  obtain ⟨w', hrun, hg, hT⟩ := h.nm.put (int_keyed hki) ht hn (key := .int .i64 a) (a := a) (keyOf_int_mk hki ha) trivial (fun x hx => by injection hx) (val := .bool true) (d := .lit (.bool true)) (ps := []) rfl
  obtain ⟨bx, thr, om, nm, im, inj, nil⟩ := h
  refine ⟨w', hrun, ⟨bx.turned nm.at hg.at hT, there_turned thr hT (by omega), (om.of_block (mapTurned_at hT (by omega))).mono (by omega), ?_, fun k b hkb => ⟨(im k b hkb).1, ((im k b hkb).2.of_block (mapTurned_at hT (by have := (im k b hkb).1; omega))).mono (by omega)⟩, inj, nil⟩, hT⟩
  · have e1 : (fun k => Value.bool (N k || decide (k = a))) = fun x => if x = a then Value.bool true else Value.bool (N x) := by
      funext k
      by_cases q : k = a <;> simp [q]
    rw [e1]; exact hg
/-- A text came at a number that has a map. -/
theorem FtSt.come {mt e : TypeId} (h : FtSt P ki ks w b0 f O C N n) (hks : P.underlying ks = some .string) (ht : P.underlying mt = some (.map ks e)) (hn : n < maxLen) {k : Int} {b : Nat} (hk : O k = some b) {s : ByteArray} (hs : s.size ≤ maxLen) :
    ∃ w', (Instr.mapUpdate mt (.map (some b)) (.string s) (.bool true)).run P w = .ok () w' ∧ FtSt P ki ks w' b0 f O (fun j t => C j t || (decide (j = k) && decide (t = s.data.toList))) N (n + 1) ∧ w.mapTurned w' b := by
  obtain ⟨w', hrun, hg, hT⟩ := (h.im k b hk).2.put (string_keyed hks) ht hn (key := .string s) (a := s.data.toList) (WideMaps.keyOf_string_mk hks hs) trivial (fun x hx => by injection hx) (val := .bool true) (d := .lit (.bool true)) (ps := []) rfl
  obtain ⟨bx, thr, om, nm, im, inj, nil⟩ := h
  have hlt := (im k b hk).1
  refine ⟨w', hrun, ⟨bx.turned (im k b hk).2.at hg.at hT, there_turned thr hT (by omega), (om.of_block (mapTurned_at hT (by omega))).mono (by omega), (nm.of_block (mapTurned_at hT (by omega))).mono (by omega), fun j b' hj => ⟨(im j b' hj).1, ?_⟩, inj, fun j hj t => ?_⟩, hT⟩
  · by_cases q : j = k
    · subst q
      have : b' = b := by rw [hk] at hj; injection hj with hj; exact hj.symm
      subst this
      have e1 : (fun t => Value.bool (C j t || (decide (j = j) && decide (t = s.data.toList)))) = fun x => if x = s.data.toList then Value.bool true else Value.bool (C j x) := by
        funext t
        by_cases q : t = s.data.toList <;> simp [q]
      rw [e1]; exact hg
    · have e1 : (fun t => Value.bool (C j t || (decide (j = k) && decide (t = s.data.toList)))) = fun t => Value.bool (C j t) := by
        funext t
        simp [q]
      rw [e1]
      exact ((im j b' hj).2.of_block (mapTurned_at hT fun q2 => q (inj _ _ _ (q2 ▸ hj) hk))).mono (by omega)
  · have q : j ≠ k := fun q => by rw [q, hk] at hj; cases hj
    show (C j t || (decide (j = k) && decide (t = s.data.toList))) = false
    rw [nil j hj t, decide_eq_false q]; rfl
/-- A new map for a number that has none. -/
theorem FtSt.make {mt e : TypeId} (h : FtSt P ki ks w b0 f O C N n) (hki : P.underlying ki = some (.int .i64)) (ht : P.underlying mt = some (.map ki e)) (hn : n < maxLen) {k : Int} (hk : O k = none) (ha : (Lit.int .i64 k).wf = true) :
    ∃ w', (Instr.mapUpdate mt (.map (some (b0 + 1))) (.int .i64 k) (.map (some w.heap.size))).run P (w.alloc (.map #[] 0)) = .ok () w' ∧ FtSt P ki ks w' b0 f (fun j => if j = k then some w.heap.size else O j) C N (n + 1) ∧ (w.alloc (.map #[] 0)).mapTurned w' (b0 + 1) := by
  have hb1 := (h.below ((Below.refl w.heap.size w).alloc (Nat.le_refl _) (.map #[] 0)))
  have hnew := Gm.made w P ks (z := .bool false) kS (zd := .lit (.bool false)) (zp := []) rfl
  have hsz : b0 + 2 < w.heap.size := h.nm.lt
  obtain ⟨w', hrun, hg, hT⟩ := hb1.om.put (int_keyed hki) ht hn (key := .int .i64 k) (a := k) (keyOf_int_mk hki ha) trivial (fun x hx => by injection hx) (val := .map (some w.heap.size)) (d := .lit (.int .i64 w.heap.size)) (ps := []) rfl
  have old := h.im
  obtain ⟨bx, thr, om, nm, im, inj, nil⟩ := hb1
  refine ⟨w', hrun, ⟨bx.turned om.at hg.at hT, there_turned thr hT (by omega), ?_, (nm.of_block (mapTurned_at hT (by omega))).mono (by omega), fun j b' hj => ?_, fun j j' b' hj hj' => ?_, fun j hj t => ?_⟩, hT⟩
  · have e1 : (fun j => Value.map (if j = k then some w.heap.size else O j)) = fun x => if x = k then Value.map (some w.heap.size) else Value.map (O x) := by
      funext j
      by_cases q : j = k <;> simp [q]
    rw [e1]; exact hg
  · by_cases q : j = k
    · subst q
      rw [if_pos rfl] at hj
      injection hj with hj
      subst hj
      have e1 : (fun t => Value.bool (C j t)) = fun _ => Value.bool false := by
        funext t
        rw [nil j hk t]
      rw [e1]
      exact ⟨by omega, (hnew.of_block (mapTurned_at hT (by omega))).mono (by omega)⟩
    · rw [if_neg q] at hj
      exact ⟨(im j b' hj).1, ((im j b' hj).2.of_block (mapTurned_at hT (by have := (im j b' hj).1; omega))).mono (by omega)⟩
  · have lt : ∀ i b, O i = some b → b < w.heap.size := fun i b hi => (old i b hi).2.lt
    by_cases q : j = k <;> by_cases q' : j' = k
    · rw [q, q']
    · simp only [if_pos q, if_neg q'] at hj hj'
      injection hj with hj
      have := lt j' b' hj'
      omega
    · simp only [if_neg q, if_pos q'] at hj hj'
      injection hj' with hj'
      have := lt j b' hj
      omega
    · simp only [if_neg q, if_neg q'] at hj hj'
      exact inj j j' b' hj hj'
  · by_cases q : j = k
    · rw [if_pos q] at hj; cases hj
    · rw [if_neg q] at hj
      exact nil j hj t
theorem FtSt.lookO {mt e : TypeId} (h : FtSt P ki ks w b0 f O C N n) (hki : P.underlying ki = some (.int .i64)) (ht : P.underlying mt = some (.map ki e)) (hz : (zeroValue e).run P w = .ok (.map none) w) {k : Int} (ha : (Lit.int .i64 k).wf = true) :
    (Instr.lookup mt (.map (some (b0 + 1))) (.int .i64 k) false).run P w = .ok (.map (O k)) w := h.om.look (int_keyed hki) ht hz (a := k) (keyOf_int_mk hki ha)
theorem FtSt.lookN {mt e : TypeId} (h : FtSt P ki ks w b0 f O C N n) (hki : P.underlying ki = some (.int .i64)) (ht : P.underlying mt = some (.map ki e)) (hz : (zeroValue e).run P w = .ok (.bool false) w) {k : Int} (ha : (Lit.int .i64 k).wf = true) :
    (Instr.lookup mt (.map (some (b0 + 2))) (.int .i64 k) false).run P w = .ok (.bool (N k)) w := h.nm.look (int_keyed hki) ht hz (a := k) (keyOf_int_mk hki ha)
theorem FtSt.lookC {mt e : TypeId} (h : FtSt P ki ks w b0 f O C N n) (hks : P.underlying ks = some .string) (ht : P.underlying mt = some (.map ks e)) (hz : (zeroValue e).run P w = .ok (.bool false) w) (k : Int) {s : ByteArray} (hs : s.size ≤ maxLen) :
    (Instr.lookup mt (.map (O k)) (.string s) false).run P w = .ok (.bool (C k s.data.toList)) w := by
  cases hO : O k with
  | none =>
    rw [Maps.look_nil false (string_keyed hks) ht hz (WideMaps.keyOf_string_mk hks hs), h.nil k hO]
    rfl
  | some b => exact (h.im k b hO).2.look (string_keyed hks) ht hz (a := s.data.toList) (WideMaps.keyOf_string_mk hks hs)
theorem heap_setCells (b : Nat) : ∀ (vs : List Value) (o : Nat) (w : World) (k : Nat), k ≠ b → (w.setCells b o vs).heap[k]? = w.heap[k]?
  | [], _, _, _, _ => rfl
  | v :: r, o, w, k, h => by
    show ((w.setCell ⟨b, o, none⟩ v).setCells b (o + 1) r).heap[k]? = _
    rw [heap_setCells b r (o + 1) _ k h, Below.heap_setCell _ _ _ _ h]
theorem size_setCells (b : Nat) : ∀ (vs : List Value) (o : Nat) (w : World), (w.setCells b o vs).heap.size = w.heap.size
  | [], _, _ => rfl
  | v :: r, o, w => by
    show ((w.setCell ⟨b, o, none⟩ v).setCells b (o + 1) r).heap.size = _
    rw [size_setCells b r (o + 1) _]
    exact Nat.le_antisymm (by simp) (by simp)
theorem below_setCells {B b : Nat} {a : World} (hb : B ≤ b) : ∀ (vs : List Value) (o : Nat) (w : World), Below B a w → Below B a (w.setCells b o vs)
  | [], _, _, h => h
  | v :: r, o, w, h => below_setCells hb r (o + 1) _ (h.setCell (p := ⟨b, o, none⟩) hb v)
/-- The feed is another one. -/
theorem FtSt.feed (h : FtSt P ki ks w b0 f O C N n) {g : FtF} {p0 : Option Addr} {n0 c0 : Nat} {p1 : Option Addr} {n1 c1 : Nat} {p2 : Option Addr} {n2 c2 : Nat}
    (r0 : Rp (FtR w b0) w (.lst ⟨ftI, g.2.2.1⟩) (.slice p0 n0 c0)) (r1 : Rp (FtR w b0) w (.lst ⟨ftI, g.2.2.2.1⟩) (.slice p1 n1 c1)) (r2 : Rp (FtR w b0) w (.lst ⟨ftE, g.2.2.2.2.1⟩) (.slice p2 n2 c2)) :
    FtSt P ki ks (w.setCells b0 0 [.int .i64 g.1, .int .i64 g.2.1, .slice p0 n0 c0, .slice p1 n1 c1, .slice p2 n2 c2, .int .i64 g.2.2.2.2.2.1, .int .i64 g.2.2.2.2.2.2]) b0 g O C N n := by
  have hh : ∀ k, k ≠ b0 → (w.setCells b0 0 [.int .i64 g.1, .int .i64 g.2.1, .slice p0 n0 c0, .slice p1 n1 c1, .slice p2 n2 c2, .int .i64 g.2.2.2.2.2.1, .int .i64 g.2.2.2.2.2.2]).heap[k]? = w.heap[k]? := fun k hk => heap_setCells b0 _ 0 w k hk
  have hs := size_setCells b0 [.int .i64 g.1, .int .i64 g.2.1, .slice p0 n0 c0, .slice p1 n1 c1, .slice p2 n2 c2, .int .i64 g.2.2.2.2.2.1, .int .i64 g.2.2.2.2.2.2] 0 w
  have hr := World.rangeAt_setCells_same w b0 0 [.int .i64 g.1, .int .i64 g.2.1, .slice p0 n0 c0, .slice p1 n1 c1, .slice p2 n2 c2, .int .i64 g.2.2.2.2.2.1, .int .i64 g.2.2.2.2.2.2] h.thr
  have ht := World.there_setCells h.thr b0 0 [.int .i64 g.1, .int .i64 g.2.1, .slice p0 n0 c0, .slice p1 n1 c1, .slice p2 n2 c2, .int .i64 g.2.2.2.2.2.1, .int .i64 g.2.2.2.2.2.2]
  generalize w.setCells b0 0 _ = w' at hh hs hr ht ⊢
  have hk : ∀ p, FtR w b0 p → FtR w' b0 p ∧ w'.cell? p = w.cell? p := fun p hp => ⟨⟨by rw [hs]; exact hp.1, hp.2⟩, World.cell?_of_block (hh _ hp.2)⟩
  exact ⟨⟨p0, n0, c0, p1, n1, c1, p2, n2, c2, hr, r0.mono hk, r1.mono hk, r2.mono hk⟩, ht, h.om.of_block (hh _ (by omega)), h.nm.of_block (hh _ (by omega)), fun k b hkb => ⟨(h.im k b hkb).1, (h.im k b hkb).2.of_block (hh _ (by have := (h.im k b hkb).1; omega))⟩, h.inj, h.nil⟩
/-- What a deed has told: rows of before, or new ones. -/
def FtNew (w9 W w' : World) (b0 : Nat) (g : FtF) (p0 : Option Addr) (n0 c0 : Nat) (p1 : Option Addr) (n1 c1 : Nat) (p2 : Option Addr) (n2 c2 : Nat) : Prop :=
  Rp (fun p => FtR w9 b0 p ∨ (W.heap.size ≤ p.block ∧ p.block < w'.heap.size)) w' (.lst ⟨ftI, g.2.2.1⟩) (.slice p0 n0 c0) ∧ Rp (fun p => FtR w9 b0 p ∨ (W.heap.size ≤ p.block ∧ p.block < w'.heap.size)) w' (.lst ⟨ftI, g.2.2.2.1⟩) (.slice p1 n1 c1) ∧
  Rp (fun p => FtR w9 b0 p ∨ (W.heap.size ≤ p.block ∧ p.block < w'.heap.size)) w' (.lst ⟨ftE, g.2.2.2.2.1⟩) (.slice p2 n2 c2)
theorem cell_turned {a : Addr} {v : Value} {b : Nat} (h : w.cell? a = some v) (hb : ∃ es c, w.heap[b]? = some (.map es c)) (ht : w.mapTurned w' b) : w'.cell? a = some v := by
  have hne : a.block ≠ b := fun q => by
    obtain ⟨es, c, e2⟩ := hb
    rw [map_cell e2 _ q] at h
    cases h
  rw [World.cell?_of_block (mapTurned_at ht hne)]; exact h
theorem boxAt {X : Nat} {vs : List Value} (h : w.rangeAt X 0 vs) (j : Nat) {v : Value} (hv : vs[j]? = some v) : w.cell? ⟨X, j, none⟩ = some v := by
  have := h j v hv
  rwa [Nat.zero_add] at this
theorem FtSt.start (P : Program) (ki ks : TypeId) (w1 : World) :
    FtSt P ki ks (((w1.alloc (.cells #[.int .i64 0, .int .i64 0, .slice none 0 0, .slice none 0 0, .slice none 0 0, .int .i64 0, .int .i64 0] 29)).alloc (.map #[] 0)).alloc (.map #[] 0)) w1.heap.size ft0 (fun _ => none) (fun _ _ => false) (fun _ => false) 0 := by
  obtain ⟨o, ho⟩ : ∃ o : Obj, o = .cells #[.int .i64 0, .int .i64 0, .slice none 0 0, .slice none 0 0, .slice none 0 0, .int .i64 0, .int .i64 0] 29 := ⟨_, rfl⟩
  rw [← ho]
  have z1 : (w1.alloc o).heap.size = w1.heap.size + 1 := by simp
  have z2 : ((w1.alloc o).alloc (.map #[] 0)).heap.size = w1.heap.size + 2 := by simp
  have e : (((w1.alloc o).alloc (.map #[] 0)).alloc (.map #[] 0)).heap[w1.heap.size]? = some o := by
    rw [Below.heap_alloc _ _ _ (by omega), Below.heap_alloc _ _ _ (by omega)]
    exact heap_alloc_new w1 o
  have g1 := Gm.made (w1.alloc o) P ki (z := .map none) kI (zd := .lit (.int .i64 (-1))) (zp := []) rfl
  have g2 := Gm.made ((w1.alloc o).alloc (.map #[] 0)) P ki (z := .bool false) kI (zd := .lit (.bool false)) (zp := []) rfl
  rw [z1] at g1
  rw [z2] at g2
  subst ho
  refine ⟨⟨none, 0, 0, none, 0, 0, none, 0, 0, ?_, .lst .slz, .lst .slz, .lst .slz⟩, ?_, g1.of_block (Below.heap_alloc _ _ _ (by omega)), g2, fun k b h => (by cases h), fun k _ b h => (by cases h), fun _ _ _ => rfl⟩
  · intro j v hv
    match j, hv with
    | 0, hv | 1, hv | 2, hv | 3, hv | 4, hv | 5, hv | 6, hv => cases hv; simp [World.cell?, e]
  · intro j hj
    match j, hj with
    | 0, _ | 1, _ | 2, _ | 3, _ | 4, _ | 5, _ | 6, _ => simp [World.cell?, World.frozen?, e]
end Go.Abs
namespace Go.Abs
open Go.RowKit
set_option linter.unusedVariables false
set_option linter.unusedSimpArgs false
theorem s16 {w9 W : World} {b0 B O : Nat} {s : Option Nat} {v0 v1 v2 v3 v4 v5 v6 u1 u2 u3 : Value} (h : Below w9.heap.size w9 W)
    (hc : Hid (w9.cell? ⟨b0, 0, none⟩ = some v0 ∧ w9.cell? ⟨b0, 1, none⟩ = some v1 ∧ w9.cell? ⟨b0, 2, none⟩ = some v2 ∧ w9.cell? ⟨b0, 3, none⟩ = some v3 ∧ w9.cell? ⟨b0, 4, none⟩ = some v4 ∧ w9.cell? ⟨b0, 5, none⟩ = some v5 ∧ w9.cell? ⟨b0, 6, none⟩ = some v6 ∧
      w9.cell? ⟨B, O, s⟩ = some u1 ∧ w9.cell? ⟨B, O + 1, none⟩ = some u2 ∧ w9.cell? ⟨B, O + 2, none⟩ = some u3)) :
    Below w9.heap.size w9 W ∧ W.cell? ⟨b0, 0, none⟩ = some v0 ∧ W.cell? ⟨b0, 1, none⟩ = some v1 ∧ W.cell? ⟨b0, 2, none⟩ = some v2 ∧ W.cell? ⟨b0, 3, none⟩ = some v3 ∧ W.cell? ⟨b0, 4, none⟩ = some v4 ∧ W.cell? ⟨b0, 5, none⟩ = some v5 ∧ W.cell? ⟨b0, 6, none⟩ = some v6 ∧
      W.cell? ⟨B, O, s⟩ = some u1 ∧ W.cell? ⟨B, O + 1, none⟩ = some u2 ∧ W.cell? ⟨B, O + 2, none⟩ = some u3 := by
  obtain ⟨h0, h1, h2, h3, h4, h5, h6, h7, h8, h9⟩ := hc.out
  have k : ∀ {a v}, w9.cell? a = some v → W.cell? a = some v := fun c => cellBelow h (Nat.le_refl _) c
  exact ⟨h, k h0, k h1, k h2, k h3, k h4, k h5, k h6, k h7, k h8, k h9⟩
abbrev Zs : Obj := .cells #[.int .i64 0, .int .i64 0, .slice none 0 0, .slice none 0 0, .slice none 0 0, .int .i64 0, .int .i64 0] 29
theorem al1 (w9 : World) (o : Obj) : (w9.alloc o).heap[w9.heap.size]? = some o := heap_alloc_new w9 o
theorem al2a (w9 : World) (o o' : Obj) : ((w9.alloc o).alloc o').heap[w9.heap.size]? = some o := (Below.heap_alloc (w9.alloc o) o' w9.heap.size (by simp)).trans (al1 w9 o)
theorem al2b (w9 : World) (o o' : Obj) : ((w9.alloc o).alloc o').heap[w9.heap.size + 1]? = some o' := by
  have hz : (w9.alloc o).heap.size = w9.heap.size + 1 := by simp
  rw [← hz]; exact al1 _ o'
theorem sz1 (w9 : World) (o : Obj) : w9.heap.size < (w9.alloc o).heap.size := by simp
theorem sz2 (w9 : World) (o o' : Obj) : w9.heap.size + 1 < ((w9.alloc o).alloc o').heap.size := by simp
theorem sz2a (w9 : World) (o o' : Obj) : w9.heap.size < ((w9.alloc o).alloc o').heap.size := by simp; omega
theorem bAlloc {w9 W : World} (h : Below w9.heap.size w9 W) (o : Obj) : Below w9.heap.size w9 (W.alloc o) := h.alloc h.size o
theorem bSet {w9 W : World} (h : Below w9.heap.size w9 W) {p : Addr} (hp : w9.heap.size ≤ p.block) (v : Value) : Below w9.heap.size w9 (W.setCell p v) := h.setCell hp v
theorem thereZ {W : World} {X : Nat} (h : W.heap[X]? = some Zs) : W.there X 0 7 := fun j hj => by
  match j, hj with
  | 0, _ | 1, _ | 2, _ | 3, _ | 4, _ | 5, _ | 6, _ => simp [World.cell?, World.frozen?, h]
theorem leaf16 {w9 Wc w' W : World} {b0 X Y : Nat} {x : FtF} {a0 : Option Addr} {b0' z0 : Nat} {a1 : Option Addr} {b1 z1 : Nat} {a2 : Option Addr} {b2 z2 : Nat} {ys : List Value} (hb0 : b0 < w9.heap.size) (hc : Below w9.heap.size w9 Wc) (hbc : Below Wc.heap.size Wc w') (hw : w'.heap.size ≤ W.heap.size)
    (hext : ∀ k, k < w'.heap.size → W.heap[k]? = w'.heap[k]?) (hX : W.heap[X]? = some Zs) (hXY : X ≠ Y) (hX1 : w9.heap.size ≤ X) (hX2 : X < Wc.heap.size ∨ w'.heap.size ≤ X) (hY1 : w9.heap.size ≤ Y) (hY2 : Y < Wc.heap.size ∨ w'.heap.size ≤ Y)
    (hnew : Hid (FtNew w9 Wc w' b0 x a0 b0' z0 a1 b1 z1 a2 b2 z2)) :
    FtBox ((W.setCells X 0 (#[.int .i64 x.1, .int .i64 x.2.1, .slice a0 b0' z0, .slice a1 b1 z1, .slice a2 b2 z2, .int .i64 x.2.2.2.2.2.1, .int .i64 x.2.2.2.2.2.2] : Array Value).toList).setCells Y 0 ys) b0 X x := by
  obtain ⟨g0, g1, g2⟩ := hnew.out
  have hsz : ((W.setCells X 0 (#[.int .i64 x.1, .int .i64 x.2.1, .slice a0 b0' z0, .slice a1 b1 z1, .slice a2 b2 z2, .int .i64 x.2.2.2.2.2.1, .int .i64 x.2.2.2.2.2.2] : Array Value).toList).setCells Y 0 ys).heap.size = W.heap.size := by rw [size_setCells, size_setCells]
  have hr : ((W.setCells X 0 (#[.int .i64 x.1, .int .i64 x.2.1, .slice a0 b0' z0, .slice a1 b1 z1, .slice a2 b2 z2, .int .i64 x.2.2.2.2.2.1, .int .i64 x.2.2.2.2.2.2] : Array Value).toList).setCells Y 0 ys).rangeAt X 0 [.int .i64 x.1, .int .i64 x.2.1, .slice a0 b0' z0, .slice a1 b1 z1, .slice a2 b2 z2, .int .i64 x.2.2.2.2.2.1, .int .i64 x.2.2.2.2.2.2] := World.rangeAt_setCells_apart (World.rangeAt_setCells_same _ _ _ _ (thereZ hX)) _ _ _ (.inl hXY)
  have hh : ∀ k, k < w'.heap.size → k ≠ X → k ≠ Y → ((W.setCells X 0 (#[.int .i64 x.1, .int .i64 x.2.1, .slice a0 b0' z0, .slice a1 b1 z1, .slice a2 b2 z2, .int .i64 x.2.2.2.2.2.1, .int .i64 x.2.2.2.2.2.2] : Array Value).toList).setCells Y 0 ys).heap[k]? = w'.heap[k]? := fun k hk h1 h2 => by
    rw [heap_setCells _ _ _ _ _ h2, heap_setCells _ _ _ _ _ h1, hext k hk]
  have hs1 := hc.size
  have hs2 := hbc.size
  generalize (W.setCells X 0 (#[.int .i64 x.1, .int .i64 x.2.1, .slice a0 b0' z0, .slice a1 b1 z1, .slice a2 b2 z2, .int .i64 x.2.2.2.2.2.1, .int .i64 x.2.2.2.2.2.2] : Array Value).toList).setCells Y 0 ys = wq at hsz hr hh ⊢
  have mn : ∀ p, (FtR w9 b0 p ∨ (Wc.heap.size ≤ p.block ∧ p.block < w'.heap.size)) → FtR wq b0 p ∧ wq.cell? p = w'.cell? p := fun p hp => by
    rcases hp with ⟨q1, q2⟩ | ⟨q1, q2⟩
    · exact ⟨⟨by omega, q2⟩, World.cell?_of_block (hh _ (by omega) (by omega) (by omega))⟩
    · exact ⟨⟨by omega, by omega⟩, World.cell?_of_block (hh _ q2 (by omega) (by omega))⟩
  exact ⟨a0, b0', z0, a1, b1, z1, a2, b2, z2, hr, g0.mono mn, g1.mono mn, g2.mono mn⟩
set_option maxHeartbeats 4000000 in
set_option maxRecDepth 100000 in
theorem fin16 {w9 W : World} {X Y : Nat} {xs ys : Array Value} {bo : Bool} {S : World → Prop} {Q : Exit → Act → World → Prop} {u0 : Value} {u1 : Value} {u2 : Value} {u3 : Value} {u4 : Value} {u5 : Value} {u6 : Value} {u7 : Value} {u8 : Value} {u9 : Value} {u10 : Value} {u13 : Value} {u14 : Value} {u15 : Value} {u16 : Value} {u17 : Value} {u18 : Value} {u19 : Value} {u20 : Value} {u21 : Value} {u22 : Value} {u23 : Value} {u24 : Value} {u25 : Value} {u26 : Value} {u27 : Value} {u28 : Value} {u29 : Value} {u30 : Value} {u31 : Value} {u32 : Value} {u33 : Value} {u34 : Value} {u35 : Value} {u36 : Value} {u37 : Value} {u38 : Value} {u39 : Value} {u40 : Value} {u41 : Value} {u42 : Value} {u43 : Value} {u44 : Value} {u45 : Value} {u46 : Value} {u47 : Value} {u48 : Value} {u49 : Value} {u50 : Value} {u51 : Value} {u52 : Value} {u53 : Value} {u54 : Value} {u55 : Value} {u56 : Value} {u57 : Value} {u58 : Value} {u59 : Value} {u60 : Value} {u61 : Value} {u62 : Value} {u63 : Value} {u64 : Value} {u65 : Value} {u66 : Value} {u67 : Value} {u68 : Value} {u69 : Value} {u70 : Value} {u71 : Value} {u72 : Value} {u73 : Value} {u77 : Value} {u78 : Value} {u79 : Value} {u80 : Value} {u81 : Value} {u82 : Value} {u83 : Value} {u84 : Value} {u85 : Value} {u86 : Value} {u87 : Value} {u88 : Value} {u89 : Value} {u90 : Value} {u91 : Value} {u92 : Value} {u93 : Value} {u94 : Value} {u95 : Value} {u96 : Value} {u97 : Value} {u98 : Value} {u99 : Value} {u100 : Value} {u101 : Value} {u102 : Value} {u103 : Value} {u104 : Value} {u105 : Value} {u106 : Value} {u107 : Value} {u108 : Value} {u109 : Value} {u110 : Value} {u111 : Value} {u112 : Value} {u113 : Value} {u114 : Value} {u115 : Value} {u116 : Value} {u117 : Value} {u118 : Value} {u119 : Value} {u120 : Value} {u121 : Value} {u122 : Value} {u123 : Value} {u124 : Value} {u125 : Value} {u126 : Value} {u127 : Value} {u128 : Value} {u129 : Value} {u130 : Value} {u131 : Value} {u132 : Value} {u133 : Value} {u134 : Value} {u135 : Value} {u136 : Value} {u137 : Value} {u138 : Value} {u139 : Value} {u140 : Value} {u141 : Value} {u142 : Value} {u143 : Value} {u144 : Value} {u145 : Value} {u146 : Value} {u147 : Value} {u148 : Value} {u149 : Value} {u150 : Value} {u151 : Value} {u152 : Value} {u153 : Value} {u154 : Value} {u155 : Value} {u156 : Value} {u157 : Value} {u158 : Value} {u159 : Value} {u160 : Value} {u161 : Value} {u162 : Value} {u163 : Value} {u164 : Value} {u165 : Value} {u166 : Value} {u167 : Value} {u168 : Value} {u169 : Value} {u170 : Value} {u171 : Value} {u172 : Value} {u173 : Value} {u174 : Value} {u175 : Value} {u176 : Value} {u177 : Value} {u178 : Value} {u179 : Value} {u180 : Value} {u181 : Value} {u182 : Value} {u183 : Value} {u184 : Value} {u185 : Value} {u186 : Value} {u187 : Value} {u188 : Value} {u189 : Value} {u190 : Value} {u191 : Value} {u192 : Value} {u193 : Value} {u194 : Value} {u195 : Value} {u196 : Value} {u197 : Value} {u198 : Value} {u199 : Value} {u200 : Value} {u201 : Value} {u202 : Value} {u203 : Value} {u204 : Value} {u205 : Value}
    (hxs : xs.size = 7) (hys : ys.size = 7) (hx1 : xs.all (·.oneCell') = true) (hy1 : ys.all (·.oneCell') = true) (tX : W.there X 0 7) (tY : W.there Y 0 7) (bX : w9.heap.size ≤ X) (bY : w9.heap.size ≤ Y) (bW : Below w9.heap.size w9 W)
    (hS : ∀ W', Below w9.heap.size w9 W' → S W') (hQ : Q .normal ⟨#[u0, u1, u2, u3, u4, u5, u6, u7, u8, u9, u10, .pointer (some ⟨X, 0, none⟩), .pointer (some ⟨Y, 0, none⟩), .bool bo, u14, u15, u16, u17, u18, u19, u20, u21, u22, u23, u24, u25, u26, u27, u28, u29, u30, u31, u32, u33, u34, u35, u36, u37, u38, u39, u40, u41, u42, u43, u44, u45, u46, u47, u48, u49, u50, u51, u52, u53, u54, u55, u56, u57, u58, u59, u60, u61, u62, u63, u64, u65, u66, u67, u68, u69, u70, u71, u72, u73, .agg xs, .agg ys, .bool bo, u77, u78, u79, u80, u81, u82, u83, u84, u85, u86, u87, u88, u89, u90, u91, u92, u93, u94, u95, u96, u97, u98, u99, u100, u101, u102, u103, u104, u105, u106, u107, u108, u109, u110, u111, u112, u113, u114, u115, u116, u117, u118, u119, u120, u121, u122, u123, u124, u125, u126, u127, u128, u129, u130, u131, u132, u133, u134, u135, u136, u137, u138, u139, u140, u141, u142, u143, u144, u145, u146, u147, u148, u149, u150, u151, u152, u153, u154, u155, u156, u157, u158, u159, u160, u161, u162, u163, u164, u165, u166, u167, u168, u169, u170, u171, u172, u173, u174, u175, u176, u177, u178, u179, u180, u181, u182, u183, u184, u185, u186, u187, u188, u189, u190, u191, u192, u193, u194, u195, u196, u197, u198, u199, u200, u201, u202, u203, u204, u205], []⟩ ((W.setCells X 0 xs.toList).setCells Y 0 ys.toList)) :
    wpAnyH Go.Proofs.Try.prog .any #[{ dst := some 66, op := Op.load 29 (Operand.tmp 3), type := 29, pos := "law.go:141", after := #[], guard := none }, { dst := some 67, op := Op.load 29 (Operand.tmp 3), type := 29, pos := "law.go:141", after := #[], guard := none }, { dst := some 68, op := Op.move (Operand.tmp 0), type := 22, pos := "law.go:141", after := #[], guard := none }, { dst := some 69, op := Op.move (Operand.tmp 7), type := 3, pos := "law.go:141", after := #[], guard := none }, { dst := some 70, op := Op.indexAddr 22 (Operand.tmp 68) (Operand.tmp 69), type := 0, pos := "law.go:141", after := #[{ on := 2, ground := Ground.data }, { on := 3, ground := Ground.data }], guard := none }, { dst := some 71, op := Op.load 32 (Operand.tmp 70), type := 32, pos := "law.go:141", after := #[{ on := 4, ground := Ground.data }], guard := none }, { dst := some 72, op := Op.move (Operand.tmp 6), type := 3, pos := "law.go:141", after := #[], guard := none }, { dst := some 73, op := Op.call { callee := Callee.value (Operand.func 5), args := #[Operand.tmp 66, Operand.tmp 67, Operand.tmp 71, Operand.tmp 72], argTypes := #[29, 29, 32, 3] }, type := 34, pos := "law.go:141", after := #[{ on := 0, ground := Ground.data }, { on := 1, ground := Ground.data }, { on := 5, ground := Ground.data }, { on := 6, ground := Ground.data }], guard := none }, { dst := some 65, op := Op.move (Operand.tmp 73), type := 34, pos := "law.go:141", after := #[{ on := 7, ground := Ground.data }], guard := none }, { dst := some 74, op := Op.extract (Operand.tmp 65) 0, type := 29, pos := "law.go:141", after := #[{ on := 8, ground := Ground.data }], guard := none }, { dst := some 75, op := Op.extract (Operand.tmp 65) 1, type := 29, pos := "law.go:141", after := #[{ on := 8, ground := Ground.data }, { on := 14, ground := Ground.gcOnly Departure.lateStores }], guard := none }, { dst := some 76, op := Op.extract (Operand.tmp 65) 2, type := 4, pos := "law.go:141", after := #[{ on := 8, ground := Ground.data }, { on := 15, ground := Ground.gcOnly Departure.lateStores }], guard := none }, { dst := some 11, op := Op.alloc 29, type := 0, pos := "law.go:141", after := #[], guard := none }, { dst := some 12, op := Op.alloc 29, type := 0, pos := "law.go:141", after := #[], guard := none }, { dst := none, op := Op.store 29 (Operand.tmp 11) (Operand.tmp 74), type := 0, pos := "law.go:141", after := #[{ on := 12, ground := Ground.data }, { on := 9, ground := Ground.data }, { on := 7, ground := Ground.chain }, { on := 0, ground := Ground.phase }, { on := 1, ground := Ground.phase }, { on := 2, ground := Ground.phase }, { on := 3, ground := Ground.phase }, { on := 4, ground := Ground.phase }, { on := 5, ground := Ground.phase }, { on := 6, ground := Ground.phase }, { on := 7, ground := Ground.phase }, { on := 8, ground := Ground.phase }, { on := 9, ground := Ground.phase }, { on := 10, ground := Ground.textOnly Departure.lateStores }, { on := 11, ground := Ground.textOnly Departure.lateStores }, { on := 12, ground := Ground.phase }, { on := 13, ground := Ground.phase }], guard := none }, { dst := none, op := Op.store 29 (Operand.tmp 12) (Operand.tmp 75), type := 0, pos := "law.go:141", after := #[{ on := 13, ground := Ground.data }, { on := 10, ground := Ground.data }, { on := 14, ground := Ground.chain }, { on := 0, ground := Ground.phase }, { on := 1, ground := Ground.phase }, { on := 2, ground := Ground.phase }, { on := 3, ground := Ground.phase }, { on := 4, ground := Ground.phase }, { on := 5, ground := Ground.phase }, { on := 6, ground := Ground.phase }, { on := 7, ground := Ground.phase }, { on := 8, ground := Ground.phase }, { on := 9, ground := Ground.phase }, { on := 10, ground := Ground.phase }, { on := 11, ground := Ground.textOnly Departure.lateStores }, { on := 12, ground := Ground.phase }, { on := 13, ground := Ground.phase }, { on := 14, ground := Ground.phase }], guard := none }, { dst := some 13, op := Op.assign (Operand.tmp 76), type := 4, pos := "law.go:141", after := #[{ on := 11, ground := Ground.data }, { on := 15, ground := Ground.chain }, { on := 0, ground := Ground.phase }, { on := 1, ground := Ground.phase }, { on := 2, ground := Ground.phase }, { on := 3, ground := Ground.phase }, { on := 4, ground := Ground.phase }, { on := 5, ground := Ground.phase }, { on := 6, ground := Ground.phase }, { on := 7, ground := Ground.phase }, { on := 8, ground := Ground.phase }, { on := 9, ground := Ground.phase }, { on := 10, ground := Ground.phase }, { on := 11, ground := Ground.phase }, { on := 12, ground := Ground.phase }, { on := 13, ground := Ground.phase }, { on := 14, ground := Ground.phase }, { on := 15, ground := Ground.phase }], guard := none }] (NoPanic Q) S 3 #[true, true, true, true, true, true, true, true, true, true, true, true, true, true, false, false, false] ⟨#[u0, u1, u2, u3, u4, u5, u6, u7, u8, u9, u10, .pointer (some ⟨X, 0, none⟩), .pointer (some ⟨Y, 0, none⟩), u13, u14, u15, u16, u17, u18, u19, u20, u21, u22, u23, u24, u25, u26, u27, u28, u29, u30, u31, u32, u33, u34, u35, u36, u37, u38, u39, u40, u41, u42, u43, u44, u45, u46, u47, u48, u49, u50, u51, u52, u53, u54, u55, u56, u57, u58, u59, u60, u61, u62, u63, u64, u65, u66, u67, u68, u69, u70, u71, u72, u73, .agg xs, .agg ys, .bool bo, u77, u78, u79, u80, u81, u82, u83, u84, u85, u86, u87, u88, u89, u90, u91, u92, u93, u94, u95, u96, u97, u98, u99, u100, u101, u102, u103, u104, u105, u106, u107, u108, u109, u110, u111, u112, u113, u114, u115, u116, u117, u118, u119, u120, u121, u122, u123, u124, u125, u126, u127, u128, u129, u130, u131, u132, u133, u134, u135, u136, u137, u138, u139, u140, u141, u142, u143, u144, u145, u146, u147, u148, u149, u150, u151, u152, u153, u154, u155, u156, u157, u158, u159, u160, u161, u162, u163, u164, u165, u166, u167, u168, u169, u170, u171, u172, u173, u174, u175, u176, u177, u178, u179, u180, u181, u182, u183, u184, u185, u186, u187, u188, u189, u190, u191, u192, u193, u194, u195, u196, u197, u198, u199, u200, u201, u202, u203, u204, u205], []⟩ W := by
  have hb1 : Below w9.heap.size w9 (W.setCells X 0 xs.toList) := below_setCells bX _ _ _ bW
  have hb2 : Below w9.heap.size w9 ((W.setCells X 0 xs.toList).setCells Y 0 ys.toList) := below_setCells bY _ _ _ hb1
  have tY1 : (W.setCells X 0 xs.toList).there Y 0 7 := World.there_setCells tY _ _ _
  have hi : (Go.Proofs.Try.prog.info? 29).map (·.size) = some 7 := by rfl
  refine wpAnyH_ready (rs := [14]) (by kernel_rfl) (by simp) ?_
  refine AllReadyH.cons (o := { dst := none, op := Op.store 29 (Operand.tmp 11) (Operand.tmp 74), type := 0, pos := "law.go:141", after := #[{ on := 12, ground := Ground.data }, { on := 9, ground := Ground.data }, { on := 7, ground := Ground.chain }, { on := 0, ground := Ground.phase }, { on := 1, ground := Ground.phase }, { on := 2, ground := Ground.phase }, { on := 3, ground := Ground.phase }, { on := 4, ground := Ground.phase }, { on := 5, ground := Ground.phase }, { on := 6, ground := Ground.phase }, { on := 7, ground := Ground.phase }, { on := 8, ground := Ground.phase }, { on := 9, ground := Ground.phase }, { on := 10, ground := Ground.textOnly Departure.lateStores }, { on := 11, ground := Ground.textOnly Departure.lateStores }, { on := 12, ground := Ground.phase }, { on := 13, ground := Ground.phase }], guard := none }) rfl (fun K hK => ?_) AllReadyH.nil
  rw [if_pos (by rfl)]
  refine wp_store_mid 29 _ _ rfl X 0 xs rfl rfl (by rw [hxs]; exact tX) (by rw [hxs]; exact hi) hx1 ?_
  refine hK.out _ _ (hS _ hb1) (fun hHeld => ?_)
  clear hK K
  generalize W.setCells X 0 xs.toList = W1 at hb1 hb2 tY1 hHeld hQ ⊢
  try simp only [Act.put, List.setIfInBounds_toArray, List.set_cons_zero, List.set_cons_succ]
  refine wpAnyH_ready (rs := [15]) (by kernel_rfl) (by simp) ?_
  refine AllReadyH.cons (o := { dst := none, op := Op.store 29 (Operand.tmp 12) (Operand.tmp 75), type := 0, pos := "law.go:141", after := #[{ on := 13, ground := Ground.data }, { on := 10, ground := Ground.data }, { on := 14, ground := Ground.chain }, { on := 0, ground := Ground.phase }, { on := 1, ground := Ground.phase }, { on := 2, ground := Ground.phase }, { on := 3, ground := Ground.phase }, { on := 4, ground := Ground.phase }, { on := 5, ground := Ground.phase }, { on := 6, ground := Ground.phase }, { on := 7, ground := Ground.phase }, { on := 8, ground := Ground.phase }, { on := 9, ground := Ground.phase }, { on := 10, ground := Ground.phase }, { on := 11, ground := Ground.textOnly Departure.lateStores }, { on := 12, ground := Ground.phase }, { on := 13, ground := Ground.phase }, { on := 14, ground := Ground.phase }], guard := none }) rfl (fun K hK => ?_) AllReadyH.nil
  rw [if_pos (by rfl)]
  refine wp_store_mid 29 _ _ rfl Y 0 ys rfl rfl (by rw [hys]; exact tY1) (by rw [hys]; exact hi) hy1 ?_
  refine hK.out _ _ (hS _ hb2) (fun hHeld => ?_)
  clear hK K
  generalize W1.setCells Y 0 ys.toList = W2 at hb2 hHeld hQ ⊢
  try simp only [Act.put, List.setIfInBounds_toArray, List.set_cons_zero, List.set_cons_succ]
  refine wpAnyH_take (i := 16) (oi := { dst := some 13, op := Op.assign (Operand.tmp 76), type := 4, pos := "law.go:141", after := #[{ on := 11, ground := Ground.data }, { on := 15, ground := Ground.chain }, { on := 0, ground := Ground.phase }, { on := 1, ground := Ground.phase }, { on := 2, ground := Ground.phase }, { on := 3, ground := Ground.phase }, { on := 4, ground := Ground.phase }, { on := 5, ground := Ground.phase }, { on := 6, ground := Ground.phase }, { on := 7, ground := Ground.phase }, { on := 8, ground := Ground.phase }, { on := 9, ground := Ground.phase }, { on := 10, ground := Ground.phase }, { on := 11, ground := Ground.phase }, { on := 12, ground := Ground.phase }, { on := 13, ground := Ground.phase }, { on := 14, ground := Ground.phase }, { on := 15, ground := Ground.phase }], guard := none }) (v := .bool bo) rfl (by kernel_rfl) (by kernel_rfl) (by kernel_rfl) (fun _ _ _ h => h) (Or.inl ⟨by rfl, by intro W hSw; go_simp⟩) (by assumption) ?_
  try simp only [Act.put, List.setIfInBounds_toArray, List.set_cons_zero, List.set_cons_succ]
  refine wpAnyH_done (by kernel_rfl) ?_ _
  exact hQ
set_option maxHeartbeats 20000000 in
set_option maxRecDepth 100000 in
theorem reg16 {w9 : World} {b0 B Of i len c t1 t2 t3 m0 k0 m1 k1 m2 k2 : Nat} {sp : Option Nat} {ad : Addr} {now n0 : Int} {f x y : FtF} {bo : Bool} {q0 q1 q2 : Option Addr} {u2 : Value} {u4 : Value} {u5 : Value} {u8 : Value} {u9 : Value} {u10 : Value} {u11 : Value} {u12 : Value} {u13 : Value} {u14 : Value} {u15 : Value} {u16 : Value} {u17 : Value} {u18 : Value} {u19 : Value} {u20 : Value} {u21 : Value} {u22 : Value} {u23 : Value} {u24 : Value} {u25 : Value} {u26 : Value} {u27 : Value} {u28 : Value} {u29 : Value} {u30 : Value} {u31 : Value} {u32 : Value} {u33 : Value} {u34 : Value} {u35 : Value} {u36 : Value} {u37 : Value} {u38 : Value} {u39 : Value} {u40 : Value} {u41 : Value} {u42 : Value} {u43 : Value} {u44 : Value} {u45 : Value} {u46 : Value} {u47 : Value} {u48 : Value} {u49 : Value} {u50 : Value} {u51 : Value} {u52 : Value} {u53 : Value} {u54 : Value} {u55 : Value} {u56 : Value} {u57 : Value} {u58 : Value} {u59 : Value} {u60 : Value} {u61 : Value} {u62 : Value} {u63 : Value} {u64 : Value} {u65 : Value} {u66 : Value} {u67 : Value} {u68 : Value} {u69 : Value} {u70 : Value} {u71 : Value} {u72 : Value} {u73 : Value} {u74 : Value} {u75 : Value} {u76 : Value} {u77 : Value} {u78 : Value} {u79 : Value} {u80 : Value} {u81 : Value} {u82 : Value} {u83 : Value} {u84 : Value} {u85 : Value} {u86 : Value} {u87 : Value} {u88 : Value} {u89 : Value} {u90 : Value} {u91 : Value} {u92 : Value} {u93 : Value} {u94 : Value} {u95 : Value} {u96 : Value} {u97 : Value} {u98 : Value} {u99 : Value} {u100 : Value} {u101 : Value} {u102 : Value} {u103 : Value} {u104 : Value} {u105 : Value} {u106 : Value} {u107 : Value} {u108 : Value} {u109 : Value} {u110 : Value} {u111 : Value} {u112 : Value} {u113 : Value} {u114 : Value} {u115 : Value} {u116 : Value} {u117 : Value} {u118 : Value} {u119 : Value} {u120 : Value} {u121 : Value} {u122 : Value} {u123 : Value} {u124 : Value} {u125 : Value} {u126 : Value} {u127 : Value} {u128 : Value} {u129 : Value} {u130 : Value} {u131 : Value} {u132 : Value} {u133 : Value} {u134 : Value} {u135 : Value} {u136 : Value} {u137 : Value} {u138 : Value} {u139 : Value} {u140 : Value} {u141 : Value} {u142 : Value} {u143 : Value} {u144 : Value} {u145 : Value} {u146 : Value} {u147 : Value} {u148 : Value} {u149 : Value} {u150 : Value} {u151 : Value} {u152 : Value} {u153 : Value} {u154 : Value} {u155 : Value} {u156 : Value} {u157 : Value} {u158 : Value} {u159 : Value} {u160 : Value} {u161 : Value} {u162 : Value} {u163 : Value} {u164 : Value} {u165 : Value} {u166 : Value} {u167 : Value} {u168 : Value} {u169 : Value} {u170 : Value} {u171 : Value} {u172 : Value} {u173 : Value} {u174 : Value} {u175 : Value} {u176 : Value} {u177 : Value} {u178 : Value} {u179 : Value} {u180 : Value} {u181 : Value} {u182 : Value} {u183 : Value} {u184 : Value} {u185 : Value} {u186 : Value} {u187 : Value} {u188 : Value} {u189 : Value} {u190 : Value} {u191 : Value} {u192 : Value} {u193 : Value} {u194 : Value} {u195 : Value} {u196 : Value} {u197 : Value} {u198 : Value} {u199 : Value} {u200 : Value} {u201 : Value} {u202 : Value} {u203 : Value} {u204 : Value} {u205 : Value} {Q : Exit → Act → World → Prop} (hi3 : (i : Int) < (len : Int)) (hA : ad.add (i * 3) = ⟨B, Of, sp⟩)
    (hc9 : Hid (w9.cell? ⟨b0, 0, none⟩ = some (.int .i64 n0) ∧ w9.cell? ⟨b0, 1, none⟩ = some (.int .i64 f.2.1) ∧ w9.cell? ⟨b0, 2, none⟩ = some (.slice q0 m0 k0) ∧ w9.cell? ⟨b0, 3, none⟩ = some (.slice q1 m1 k1) ∧ w9.cell? ⟨b0, 4, none⟩ = some (.slice q2 m2 k2) ∧ w9.cell? ⟨b0, 5, none⟩ = some (.int .i64 f.2.2.2.2.2.1) ∧ w9.cell? ⟨b0, 6, none⟩ = some (.int .i64 f.2.2.2.2.2.2) ∧ w9.cell? ⟨B, Of, sp⟩ = some (.int .u8 t1) ∧ w9.cell? ⟨B, Of + 1, none⟩ = some (.int .u8 t2) ∧ w9.cell? ⟨B, Of + 2, none⟩ = some (.int .u8 t3)))
    (hD : ∀ W : World, Below w9.heap.size w9 W → Calls Go.Proofs.Try.prog 5 #[.agg #[.int .i64 n0, .int .i64 f.2.1, .slice q0 m0 k0, .slice q1 m1 k1, .slice q2 m2 k2, .int .i64 f.2.2.2.2.2.1, .int .i64 f.2.2.2.2.2.2], .agg #[.int .i64 n0, .int .i64 f.2.1, .slice q0 m0 k0, .slice q1 m1 k1, .slice q2 m2 k2, .int .i64 f.2.2.2.2.2.1, .int .i64 f.2.2.2.2.2.2], .agg #[.int .u8 t1, .int .u8 t2, .int .u8 t3], .int .i64 now] W fun e w' =>
      (∃ a0 b0' z0 a1 b1 z1 a2 b2 z2 a3 b3 z3 a4 b4 z4 a5 b5 z5, e = .returned (.tuple #[.agg #[.int .i64 x.1, .int .i64 x.2.1, .slice a0 b0' z0, .slice a1 b1 z1, .slice a2 b2 z2, .int .i64 x.2.2.2.2.2.1, .int .i64 x.2.2.2.2.2.2], .agg #[.int .i64 y.1, .int .i64 y.2.1, .slice a3 b3 z3, .slice a4 b4 z4, .slice a5 b5 z5, .int .i64 y.2.2.2.2.2.1, .int .i64 y.2.2.2.2.2.2], .bool bo]) ∧ Hid (FtNew w9 W w' b0 x a0 b0' z0 a1 b1 z1 a2 b2 z2)) ∧ Below W.heap.size W w')
    (hQ : ∀ X s12 s13 s65 s66 s67 s68 s69 s70 s71 s72 s73 s74 s75 s76 wq, FtBox wq b0 X x → Below w9.heap.size w9 wq → Q .normal ⟨#[.slice (some ad) len c, undef, u2, .pointer (some ⟨b0, 0, none⟩), u4, u5, .int .i64 now, .int .i64 (i : Int), u8, u9, u10, .pointer (some ⟨X, 0, none⟩), s12, s13, u14, u15, u16, u17, u18, u19, u20, u21, u22, u23, u24, u25, u26, u27, u28, u29, u30, u31, u32, u33, u34, u35, u36, u37, u38, u39, u40, u41, u42, u43, u44, u45, u46, u47, u48, u49, u50, u51, u52, u53, u54, u55, u56, u57, u58, u59, u60, u61, u62, u63, u64, s65, s66, s67, s68, s69, s70, s71, s72, s73, s74, s75, s76, u77, u78, u79, u80, u81, u82, u83, u84, u85, u86, u87, u88, u89, u90, u91, u92, u93, u94, u95, u96, u97, u98, u99, u100, u101, u102, u103, u104, u105, u106, u107, u108, u109, u110, u111, u112, u113, u114, u115, u116, u117, u118, u119, u120, u121, u122, u123, u124, u125, u126, u127, u128, u129, u130, u131, u132, u133, u134, u135, u136, u137, u138, u139, u140, u141, u142, u143, u144, u145, u146, u147, u148, u149, u150, u151, u152, u153, u154, u155, u156, u157, u158, u159, u160, u161, u162, u163, u164, u165, u166, u167, u168, u169, u170, u171, u172, u173, u174, u175, u176, u177, u178, u179, u180, u181, u182, u183, u184, u185, u186, u187, u188, u189, u190, u191, u192, u193, u194, u195, u196, u197, u198, u199, u200, u201, u202, u203, u204, u205], []⟩ wq) :
    Code.wp Go.Proofs.Try.prog (Code.region 16 #[{ dst := some 66, op := Op.load 29 (Operand.tmp 3), type := 29, pos := "law.go:141", after := #[], guard := none }, { dst := some 67, op := Op.load 29 (Operand.tmp 3), type := 29, pos := "law.go:141", after := #[], guard := none }, { dst := some 68, op := Op.move (Operand.tmp 0), type := 22, pos := "law.go:141", after := #[], guard := none }, { dst := some 69, op := Op.move (Operand.tmp 7), type := 3, pos := "law.go:141", after := #[], guard := none }, { dst := some 70, op := Op.indexAddr 22 (Operand.tmp 68) (Operand.tmp 69), type := 0, pos := "law.go:141", after := #[{ on := 2, ground := Ground.data }, { on := 3, ground := Ground.data }], guard := none }, { dst := some 71, op := Op.load 32 (Operand.tmp 70), type := 32, pos := "law.go:141", after := #[{ on := 4, ground := Ground.data }], guard := none }, { dst := some 72, op := Op.move (Operand.tmp 6), type := 3, pos := "law.go:141", after := #[], guard := none }, { dst := some 73, op := Op.call { callee := Callee.value (Operand.func 5), args := #[Operand.tmp 66, Operand.tmp 67, Operand.tmp 71, Operand.tmp 72], argTypes := #[29, 29, 32, 3] }, type := 34, pos := "law.go:141", after := #[{ on := 0, ground := Ground.data }, { on := 1, ground := Ground.data }, { on := 5, ground := Ground.data }, { on := 6, ground := Ground.data }], guard := none }, { dst := some 65, op := Op.move (Operand.tmp 73), type := 34, pos := "law.go:141", after := #[{ on := 7, ground := Ground.data }], guard := none }, { dst := some 74, op := Op.extract (Operand.tmp 65) 0, type := 29, pos := "law.go:141", after := #[{ on := 8, ground := Ground.data }], guard := none }, { dst := some 75, op := Op.extract (Operand.tmp 65) 1, type := 29, pos := "law.go:141", after := #[{ on := 8, ground := Ground.data }, { on := 14, ground := Ground.gcOnly Departure.lateStores }], guard := none }, { dst := some 76, op := Op.extract (Operand.tmp 65) 2, type := 4, pos := "law.go:141", after := #[{ on := 8, ground := Ground.data }, { on := 15, ground := Ground.gcOnly Departure.lateStores }], guard := none }, { dst := some 11, op := Op.alloc 29, type := 0, pos := "law.go:141", after := #[], guard := none }, { dst := some 12, op := Op.alloc 29, type := 0, pos := "law.go:141", after := #[], guard := none }, { dst := none, op := Op.store 29 (Operand.tmp 11) (Operand.tmp 74), type := 0, pos := "law.go:141", after := #[{ on := 12, ground := Ground.data }, { on := 9, ground := Ground.data }, { on := 7, ground := Ground.chain }, { on := 0, ground := Ground.phase }, { on := 1, ground := Ground.phase }, { on := 2, ground := Ground.phase }, { on := 3, ground := Ground.phase }, { on := 4, ground := Ground.phase }, { on := 5, ground := Ground.phase }, { on := 6, ground := Ground.phase }, { on := 7, ground := Ground.phase }, { on := 8, ground := Ground.phase }, { on := 9, ground := Ground.phase }, { on := 10, ground := Ground.textOnly Departure.lateStores }, { on := 11, ground := Ground.textOnly Departure.lateStores }, { on := 12, ground := Ground.phase }, { on := 13, ground := Ground.phase }], guard := none }, { dst := none, op := Op.store 29 (Operand.tmp 12) (Operand.tmp 75), type := 0, pos := "law.go:141", after := #[{ on := 13, ground := Ground.data }, { on := 10, ground := Ground.data }, { on := 14, ground := Ground.chain }, { on := 0, ground := Ground.phase }, { on := 1, ground := Ground.phase }, { on := 2, ground := Ground.phase }, { on := 3, ground := Ground.phase }, { on := 4, ground := Ground.phase }, { on := 5, ground := Ground.phase }, { on := 6, ground := Ground.phase }, { on := 7, ground := Ground.phase }, { on := 8, ground := Ground.phase }, { on := 9, ground := Ground.phase }, { on := 10, ground := Ground.phase }, { on := 11, ground := Ground.textOnly Departure.lateStores }, { on := 12, ground := Ground.phase }, { on := 13, ground := Ground.phase }, { on := 14, ground := Ground.phase }], guard := none }, { dst := some 13, op := Op.assign (Operand.tmp 76), type := 4, pos := "law.go:141", after := #[{ on := 11, ground := Ground.data }, { on := 15, ground := Ground.chain }, { on := 0, ground := Ground.phase }, { on := 1, ground := Ground.phase }, { on := 2, ground := Ground.phase }, { on := 3, ground := Ground.phase }, { on := 4, ground := Ground.phase }, { on := 5, ground := Ground.phase }, { on := 6, ground := Ground.phase }, { on := 7, ground := Ground.phase }, { on := 8, ground := Ground.phase }, { on := 9, ground := Ground.phase }, { on := 10, ground := Ground.phase }, { on := 11, ground := Ground.phase }, { on := 12, ground := Ground.phase }, { on := 13, ground := Ground.phase }, { on := 14, ground := Ground.phase }, { on := 15, ground := Ground.phase }], guard := none }] true) Q ⟨#[.slice (some ad) len c, undef, u2, .pointer (some ⟨b0, 0, none⟩), u4, u5, .int .i64 now, .int .i64 (i : Int), u8, u9, u10, u11, u12, u13, u14, u15, u16, u17, u18, u19, u20, u21, u22, u23, u24, u25, u26, u27, u28, u29, u30, u31, u32, u33, u34, u35, u36, u37, u38, u39, u40, u41, u42, u43, u44, u45, u46, u47, u48, u49, u50, u51, u52, u53, u54, u55, u56, u57, u58, u59, u60, u61, u62, u63, u64, u65, u66, u67, u68, u69, u70, u71, u72, u73, u74, u75, u76, u77, u78, u79, u80, u81, u82, u83, u84, u85, u86, u87, u88, u89, u90, u91, u92, u93, u94, u95, u96, u97, u98, u99, u100, u101, u102, u103, u104, u105, u106, u107, u108, u109, u110, u111, u112, u113, u114, u115, u116, u117, u118, u119, u120, u121, u122, u123, u124, u125, u126, u127, u128, u129, u130, u131, u132, u133, u134, u135, u136, u137, u138, u139, u140, u141, u142, u143, u144, u145, u146, u147, u148, u149, u150, u151, u152, u153, u154, u155, u156, u157, u158, u159, u160, u161, u162, u163, u164, u165, u166, u167, u168, u169, u170, u171, u172, u173, u174, u175, u176, u177, u178, u179, u180, u181, u182, u183, u184, u185, u186, u187, u188, u189, u190, u191, u192, u193, u194, u195, u196, u197, u198, u199, u200, u201, u202, u203, u204, u205], []⟩ w9 := by
  refine wp_region_noPanic ?_
  refine wp_region_held_drew (S := (fun W => Below w9.heap.size w9 W ∧ W.cell? ⟨b0, 0, none⟩ = some (.int .i64 n0) ∧ W.cell? ⟨b0, 1, none⟩ = some (.int .i64 f.2.1) ∧ W.cell? ⟨b0, 2, none⟩ = some (.slice q0 m0 k0) ∧ W.cell? ⟨b0, 3, none⟩ = some (.slice q1 m1 k1) ∧ W.cell? ⟨b0, 4, none⟩ = some (.slice q2 m2 k2) ∧ W.cell? ⟨b0, 5, none⟩ = some (.int .i64 f.2.2.2.2.2.1) ∧ W.cell? ⟨b0, 6, none⟩ = some (.int .i64 f.2.2.2.2.2.2) ∧ W.cell? ⟨B, Of, sp⟩ = some (.int .u8 t1) ∧ W.cell? ⟨B, Of + 1, none⟩ = some (.int .u8 t2) ∧ W.cell? ⟨B, Of + 2, none⟩ = some (.int .u8 t3))) (by kernel_rfl) (s16 (bDrew (Below.refl _ _)) hc9) (fun hHeld => ?_)
  refine wpAnyH_take (i := 0) (oi := { dst := some 66, op := Op.load 29 (Operand.tmp 3), type := 29, pos := "law.go:141", after := #[], guard := none }) (v := .agg #[.int .i64 n0, .int .i64 f.2.1, .slice q0 m0 k0, .slice q1 m1 k1, .slice q2 m2 k2, .int .i64 f.2.2.2.2.2.1, .int .i64 f.2.2.2.2.2.2]) rfl (by kernel_rfl) (by kernel_rfl) (by kernel_rfl) (fun _ _ _ h => h) (Or.inl ⟨by rfl, by intro W hSw; (try dsimp only at hSw); go_simp⟩) (by assumption) ?_
  try simp only [Act.put, List.setIfInBounds_toArray, List.set_cons_zero, List.set_cons_succ]
  refine wpAnyH_take (i := 1) (oi := { dst := some 67, op := Op.load 29 (Operand.tmp 3), type := 29, pos := "law.go:141", after := #[], guard := none }) (v := .agg #[.int .i64 n0, .int .i64 f.2.1, .slice q0 m0 k0, .slice q1 m1 k1, .slice q2 m2 k2, .int .i64 f.2.2.2.2.2.1, .int .i64 f.2.2.2.2.2.2]) rfl (by kernel_rfl) (by kernel_rfl) (by kernel_rfl) (fun _ _ _ h => h) (Or.inl ⟨by rfl, by intro W hSw; (try dsimp only at hSw); go_simp⟩) (by assumption) ?_
  try simp only [Act.put, List.setIfInBounds_toArray, List.set_cons_zero, List.set_cons_succ]
  refine wpAnyH_take (i := 2) (oi := { dst := some 68, op := Op.move (Operand.tmp 0), type := 22, pos := "law.go:141", after := #[], guard := none }) (v := .slice (some ad) len c) rfl (by kernel_rfl) (by kernel_rfl) (by kernel_rfl) (fun _ _ _ h => h) (Or.inl ⟨by rfl, by intro W hSw; (try dsimp only at hSw); go_simp⟩) (by assumption) ?_
  try simp only [Act.put, List.setIfInBounds_toArray, List.set_cons_zero, List.set_cons_succ]
  refine wpAnyH_take (i := 3) (oi := { dst := some 69, op := Op.move (Operand.tmp 7), type := 3, pos := "law.go:141", after := #[], guard := none }) (v := .int .i64 (i : Int)) rfl (by kernel_rfl) (by kernel_rfl) (by kernel_rfl) (fun _ _ _ h => h) (Or.inl ⟨by rfl, by intro W hSw; (try dsimp only at hSw); go_simp⟩) (by assumption) ?_
  try simp only [Act.put, List.setIfInBounds_toArray, List.set_cons_zero, List.set_cons_succ]
  refine wpAnyH_take (i := 4) (oi := { dst := some 70, op := Op.indexAddr 22 (Operand.tmp 68) (Operand.tmp 69), type := 0, pos := "law.go:141", after := #[{ on := 2, ground := Ground.data }, { on := 3, ground := Ground.data }], guard := none }) (v := .pointer (some ⟨B, Of, sp⟩)) rfl (by kernel_rfl) (by kernel_rfl) (by kernel_rfl) (fun _ _ _ h => h) (Or.inl ⟨by rfl, by intro W hSw; (try dsimp only at hSw); go_simp⟩) (by assumption) ?_
  try simp only [Act.put, List.setIfInBounds_toArray, List.set_cons_zero, List.set_cons_succ]
  refine wpAnyH_take (i := 5) (oi := { dst := some 71, op := Op.load 32 (Operand.tmp 70), type := 32, pos := "law.go:141", after := #[{ on := 4, ground := Ground.data }], guard := none }) (v := .agg #[.int .u8 t1, .int .u8 t2, .int .u8 t3]) rfl (by kernel_rfl) (by kernel_rfl) (by kernel_rfl) (fun _ _ _ h => h) (Or.inl ⟨by rfl, by intro W hSw; (try dsimp only at hSw); go_simp⟩) (by assumption) ?_
  try simp only [Act.put, List.setIfInBounds_toArray, List.set_cons_zero, List.set_cons_succ]
  refine wpAnyH_take (i := 6) (oi := { dst := some 72, op := Op.move (Operand.tmp 6), type := 3, pos := "law.go:141", after := #[], guard := none }) (v := .int .i64 now) rfl (by kernel_rfl) (by kernel_rfl) (by kernel_rfl) (fun _ _ _ h => h) (Or.inl ⟨by rfl, by intro W hSw; (try dsimp only at hSw); go_simp⟩) (by assumption) ?_
  try simp only [Act.put, List.setIfInBounds_toArray, List.set_cons_zero, List.set_cons_succ]
  refine wpAnyH_ready (rs := [7, 12, 13]) (by kernel_rfl) (by simp) ?_
  refine AllReadyH.cons (o := { dst := some 73, op := Op.call { callee := Callee.value (Operand.func 5), args := #[Operand.tmp 66, Operand.tmp 67, Operand.tmp 71, Operand.tmp 72], argTypes := #[29, 29, 32, 3] }, type := 34, pos := "law.go:141", after := #[{ on := 0, ground := Ground.data }, { on := 1, ground := Ground.data }, { on := 5, ground := Ground.data }, { on := 6, ground := Ground.data }], guard := none }) rfl (fun K hK => ?o7_1) (AllReadyH.cons (o := { dst := some 11, op := Op.alloc 29, type := 0, pos := "law.go:141", after := #[], guard := none }) rfl (fun K hK => ?o12_1) (AllReadyH.cons (o := { dst := some 12, op := Op.alloc 29, type := 0, pos := "law.go:141", after := #[], guard := none }) rfl (fun K hK => ?o13_1) (AllReadyH.nil)))
  case o7_1 =>
    go_simp
    refine (hD _ (by (repeat (with_reducible first | assumption | exact Below.refl _ _ | refine bDrew ?_ | refine bAlloc ?_ _)))).mono ?_
    rintro e w' ⟨⟨a0, b0', z0, a1, b1, z1, a2, b2, z2, a3, b3, z3, a4, b4, z4, a5, b5, z5, rfl, hnew⟩, hbc⟩
    have hbc9 : Below w9.heap.size w9 w' := kCall hHeld hbc
    refine hK.out _ _ (s16 (by (repeat (with_reducible first | assumption | exact Below.refl _ _ | refine bDrew ?_ | refine bAlloc ?_ _))) hc9) (fun hHeld => ?_)
    clear hK K
    try simp only [Act.put, List.setIfInBounds_toArray, List.set_cons_zero, List.set_cons_succ]
    refine wpAnyH_take (i := 8) (oi := { dst := some 65, op := Op.move (Operand.tmp 73), type := 34, pos := "law.go:141", after := #[{ on := 7, ground := Ground.data }], guard := none }) (v := .tuple #[.agg #[.int .i64 x.1, .int .i64 x.2.1, .slice a0 b0' z0, .slice a1 b1 z1, .slice a2 b2 z2, .int .i64 x.2.2.2.2.2.1, .int .i64 x.2.2.2.2.2.2], .agg #[.int .i64 y.1, .int .i64 y.2.1, .slice a3 b3 z3, .slice a4 b4 z4, .slice a5 b5 z5, .int .i64 y.2.2.2.2.2.1, .int .i64 y.2.2.2.2.2.2], .bool bo]) rfl (by kernel_rfl) (by kernel_rfl) (by kernel_rfl) (fun _ _ _ h => h) (Or.inl ⟨by rfl, by intro W hSw; (try dsimp only at hSw); go_simp⟩) (by assumption) ?_
    try simp only [Act.put, List.setIfInBounds_toArray, List.set_cons_zero, List.set_cons_succ]
    refine wpAnyH_take (i := 9) (oi := { dst := some 74, op := Op.extract (Operand.tmp 65) 0, type := 29, pos := "law.go:141", after := #[{ on := 8, ground := Ground.data }], guard := none }) (v := .agg #[.int .i64 x.1, .int .i64 x.2.1, .slice a0 b0' z0, .slice a1 b1 z1, .slice a2 b2 z2, .int .i64 x.2.2.2.2.2.1, .int .i64 x.2.2.2.2.2.2]) rfl (by kernel_rfl) (by kernel_rfl) (by kernel_rfl) (fun _ _ _ h => h) (Or.inl ⟨by rfl, by intro W hSw; (try dsimp only at hSw); go_simp⟩) (by assumption) ?_
    try simp only [Act.put, List.setIfInBounds_toArray, List.set_cons_zero, List.set_cons_succ]
    refine wpAnyH_take (i := 10) (oi := { dst := some 75, op := Op.extract (Operand.tmp 65) 1, type := 29, pos := "law.go:141", after := #[{ on := 8, ground := Ground.data }, { on := 14, ground := Ground.gcOnly Departure.lateStores }], guard := none }) (v := .agg #[.int .i64 y.1, .int .i64 y.2.1, .slice a3 b3 z3, .slice a4 b4 z4, .slice a5 b5 z5, .int .i64 y.2.2.2.2.2.1, .int .i64 y.2.2.2.2.2.2]) rfl (by kernel_rfl) (by kernel_rfl) (by kernel_rfl) (fun _ _ _ h => h) (Or.inl ⟨by rfl, by intro W hSw; (try dsimp only at hSw); go_simp⟩) (by assumption) ?_
    try simp only [Act.put, List.setIfInBounds_toArray, List.set_cons_zero, List.set_cons_succ]
    refine wpAnyH_take (i := 11) (oi := { dst := some 76, op := Op.extract (Operand.tmp 65) 2, type := 4, pos := "law.go:141", after := #[{ on := 8, ground := Ground.data }, { on := 15, ground := Ground.gcOnly Departure.lateStores }], guard := none }) (v := .bool bo) rfl (by kernel_rfl) (by kernel_rfl) (by kernel_rfl) (fun _ _ _ h => h) (Or.inl ⟨by rfl, by intro W hSw; (try dsimp only at hSw); go_simp⟩) (by assumption) ?_
    try simp only [Act.put, List.setIfInBounds_toArray, List.set_cons_zero, List.set_cons_succ]
    refine wpAnyH_ready (rs := [12, 13]) (by kernel_rfl) (by simp) ?_
    refine AllReadyH.cons (o := { dst := some 11, op := Op.alloc 29, type := 0, pos := "law.go:141", after := #[], guard := none }) rfl (fun K hK => ?o12_2) (AllReadyH.cons (o := { dst := some 12, op := Op.alloc 29, type := 0, pos := "law.go:141", after := #[], guard := none }) rfl (fun K hK => ?o13_2) (AllReadyH.nil))
    case o12_2 =>
      go_simp
      refine hK.out _ _ (s16 (by (repeat (with_reducible first | assumption | exact Below.refl _ _ | refine bDrew ?_ | refine bAlloc ?_ _))) hc9) (fun hHeld => ?_)
      clear hK K
      try simp only [Act.put, List.setIfInBounds_toArray, List.set_cons_zero, List.set_cons_succ]
      refine wpAnyH_ready (rs := [13]) (by kernel_rfl) (by simp) ?_
      refine AllReadyH.cons (o := { dst := some 12, op := Op.alloc 29, type := 0, pos := "law.go:141", after := #[], guard := none }) rfl (fun K hK => ?o13_3) (AllReadyH.nil)
      case o13_3 =>
        go_simp
        refine hK.out _ _ (s16 (by (repeat (with_reducible first | assumption | exact Below.refl _ _ | refine bDrew ?_ | refine bAlloc ?_ _))) hc9) (fun hHeld => ?_)
        clear hK K
        try simp only [Act.put, List.setIfInBounds_toArray, List.set_cons_zero, List.set_cons_succ]
        have hb0 := cell_block hc9.out.1
        have hs9 := hbc9.size
        have zX : ((w'.alloc Zs).alloc Zs).heap[w'.heap.size]? = some Zs := (al2a w' Zs Zs)
        have zY : ((w'.alloc Zs).alloc Zs).heap[w'.heap.size + 1]? = some Zs := (al2b w' Zs Zs)
        have bW : Below w9.heap.size w9 ((w'.alloc Zs).alloc Zs) := bAlloc (bAlloc hbc9 Zs) Zs
        refine fin16 (w9 := w9) (X := w'.heap.size) (Y := w'.heap.size + 1) (xs := #[.int .i64 x.1, .int .i64 x.2.1, .slice a0 b0' z0, .slice a1 b1 z1, .slice a2 b2 z2, .int .i64 x.2.2.2.2.2.1, .int .i64 x.2.2.2.2.2.2]) (ys := #[.int .i64 y.1, .int .i64 y.2.1, .slice a3 b3 z3, .slice a4 b4 z4, .slice a5 b5 z5, .int .i64 y.2.2.2.2.2.1, .int .i64 y.2.2.2.2.2.2]) rfl rfl (by simp [Value.oneCell']) (by simp [Value.oneCell']) (thereZ zX) (thereZ zY) hs9 (Nat.le_succ_of_le hs9) bW (fun W' h => s16 h hc9) ?_
        exact hQ (w'.heap.size) _ _ _ _ _ _ _ _ _ _ _ _ _ _ _ (leaf16 hb0 (by (repeat (with_reducible first | assumption | exact Below.refl _ _ | refine bDrew ?_ | refine bAlloc ?_ _))) hbc (Nat.le_of_lt (sz2a w' Zs Zs)) (fun k hk => (Below.heap_alloc (w'.alloc Zs) Zs k (Nat.lt_of_lt_of_le hk (Nat.le_of_lt (sz1 w' Zs)))).trans (Below.heap_alloc w' Zs k hk)) zX (by omega) hs9 (.inr (Nat.le_refl _)) (Nat.le_succ_of_le hs9) (.inr (Nat.le_succ _)) hnew) (below_setCells (Nat.le_succ_of_le hs9) _ _ _ (below_setCells hs9 _ _ _ bW))
    case o13_2 =>
      go_simp
      refine hK.out _ _ (s16 (by (repeat (with_reducible first | assumption | exact Below.refl _ _ | refine bDrew ?_ | refine bAlloc ?_ _))) hc9) (fun hHeld => ?_)
      clear hK K
      try simp only [Act.put, List.setIfInBounds_toArray, List.set_cons_zero, List.set_cons_succ]
      refine wpAnyH_ready (rs := [12]) (by kernel_rfl) (by simp) ?_
      refine AllReadyH.cons (o := { dst := some 11, op := Op.alloc 29, type := 0, pos := "law.go:141", after := #[], guard := none }) rfl (fun K hK => ?o12_4) (AllReadyH.nil)
      case o12_4 =>
        go_simp
        refine hK.out _ _ (s16 (by (repeat (with_reducible first | assumption | exact Below.refl _ _ | refine bDrew ?_ | refine bAlloc ?_ _))) hc9) (fun hHeld => ?_)
        clear hK K
        try simp only [Act.put, List.setIfInBounds_toArray, List.set_cons_zero, List.set_cons_succ]
        have hb0 := cell_block hc9.out.1
        have hs9 := hbc9.size
        have zX : ((w'.alloc Zs).alloc Zs).heap[w'.heap.size + 1]? = some Zs := (al2b w' Zs Zs)
        have zY : ((w'.alloc Zs).alloc Zs).heap[w'.heap.size]? = some Zs := (al2a w' Zs Zs)
        have bW : Below w9.heap.size w9 ((w'.alloc Zs).alloc Zs) := bAlloc (bAlloc hbc9 Zs) Zs
        refine fin16 (w9 := w9) (X := w'.heap.size + 1) (Y := w'.heap.size) (xs := #[.int .i64 x.1, .int .i64 x.2.1, .slice a0 b0' z0, .slice a1 b1 z1, .slice a2 b2 z2, .int .i64 x.2.2.2.2.2.1, .int .i64 x.2.2.2.2.2.2]) (ys := #[.int .i64 y.1, .int .i64 y.2.1, .slice a3 b3 z3, .slice a4 b4 z4, .slice a5 b5 z5, .int .i64 y.2.2.2.2.2.1, .int .i64 y.2.2.2.2.2.2]) rfl rfl (by simp [Value.oneCell']) (by simp [Value.oneCell']) (thereZ zX) (thereZ zY) (Nat.le_succ_of_le hs9) hs9 bW (fun W' h => s16 h hc9) ?_
        exact hQ (w'.heap.size + 1) _ _ _ _ _ _ _ _ _ _ _ _ _ _ _ (leaf16 hb0 (by (repeat (with_reducible first | assumption | exact Below.refl _ _ | refine bDrew ?_ | refine bAlloc ?_ _))) hbc (Nat.le_of_lt (sz2a w' Zs Zs)) (fun k hk => (Below.heap_alloc (w'.alloc Zs) Zs k (Nat.lt_of_lt_of_le hk (Nat.le_of_lt (sz1 w' Zs)))).trans (Below.heap_alloc w' Zs k hk)) zX (by omega) (Nat.le_succ_of_le hs9) (.inr (Nat.le_succ _)) hs9 (.inr (Nat.le_refl _)) hnew) (below_setCells hs9 _ _ _ (below_setCells (Nat.le_succ_of_le hs9) _ _ _ bW))
  case o12_1 =>
    go_simp
    refine hK.out _ _ (s16 (by (repeat (with_reducible first | assumption | exact Below.refl _ _ | refine bDrew ?_ | refine bAlloc ?_ _))) hc9) (fun hHeld => ?_)
    clear hK K
    try simp only [Act.put, List.setIfInBounds_toArray, List.set_cons_zero, List.set_cons_succ]
    refine wpAnyH_ready (rs := [7, 13]) (by kernel_rfl) (by simp) ?_
    refine AllReadyH.cons (o := { dst := some 73, op := Op.call { callee := Callee.value (Operand.func 5), args := #[Operand.tmp 66, Operand.tmp 67, Operand.tmp 71, Operand.tmp 72], argTypes := #[29, 29, 32, 3] }, type := 34, pos := "law.go:141", after := #[{ on := 0, ground := Ground.data }, { on := 1, ground := Ground.data }, { on := 5, ground := Ground.data }, { on := 6, ground := Ground.data }], guard := none }) rfl (fun K hK => ?o7_5) (AllReadyH.cons (o := { dst := some 12, op := Op.alloc 29, type := 0, pos := "law.go:141", after := #[], guard := none }) rfl (fun K hK => ?o13_5) (AllReadyH.nil))
    case o7_5 =>
      go_simp
      refine (hD _ (by (repeat (with_reducible first | assumption | exact Below.refl _ _ | refine bDrew ?_ | refine bAlloc ?_ _)))).mono ?_
      rintro e w' ⟨⟨a0, b0', z0, a1, b1, z1, a2, b2, z2, a3, b3, z3, a4, b4, z4, a5, b5, z5, rfl, hnew⟩, hbc⟩
      have hbc9 : Below w9.heap.size w9 w' := kCall hHeld hbc
      refine hK.out _ _ (s16 (by (repeat (with_reducible first | assumption | exact Below.refl _ _ | refine bDrew ?_ | refine bAlloc ?_ _))) hc9) (fun hHeld => ?_)
      clear hK K
      try simp only [Act.put, List.setIfInBounds_toArray, List.set_cons_zero, List.set_cons_succ]
      refine wpAnyH_take (i := 8) (oi := { dst := some 65, op := Op.move (Operand.tmp 73), type := 34, pos := "law.go:141", after := #[{ on := 7, ground := Ground.data }], guard := none }) (v := .tuple #[.agg #[.int .i64 x.1, .int .i64 x.2.1, .slice a0 b0' z0, .slice a1 b1 z1, .slice a2 b2 z2, .int .i64 x.2.2.2.2.2.1, .int .i64 x.2.2.2.2.2.2], .agg #[.int .i64 y.1, .int .i64 y.2.1, .slice a3 b3 z3, .slice a4 b4 z4, .slice a5 b5 z5, .int .i64 y.2.2.2.2.2.1, .int .i64 y.2.2.2.2.2.2], .bool bo]) rfl (by kernel_rfl) (by kernel_rfl) (by kernel_rfl) (fun _ _ _ h => h) (Or.inl ⟨by rfl, by intro W hSw; (try dsimp only at hSw); go_simp⟩) (by assumption) ?_
      try simp only [Act.put, List.setIfInBounds_toArray, List.set_cons_zero, List.set_cons_succ]
      refine wpAnyH_take (i := 9) (oi := { dst := some 74, op := Op.extract (Operand.tmp 65) 0, type := 29, pos := "law.go:141", after := #[{ on := 8, ground := Ground.data }], guard := none }) (v := .agg #[.int .i64 x.1, .int .i64 x.2.1, .slice a0 b0' z0, .slice a1 b1 z1, .slice a2 b2 z2, .int .i64 x.2.2.2.2.2.1, .int .i64 x.2.2.2.2.2.2]) rfl (by kernel_rfl) (by kernel_rfl) (by kernel_rfl) (fun _ _ _ h => h) (Or.inl ⟨by rfl, by intro W hSw; (try dsimp only at hSw); go_simp⟩) (by assumption) ?_
      try simp only [Act.put, List.setIfInBounds_toArray, List.set_cons_zero, List.set_cons_succ]
      refine wpAnyH_take (i := 10) (oi := { dst := some 75, op := Op.extract (Operand.tmp 65) 1, type := 29, pos := "law.go:141", after := #[{ on := 8, ground := Ground.data }, { on := 14, ground := Ground.gcOnly Departure.lateStores }], guard := none }) (v := .agg #[.int .i64 y.1, .int .i64 y.2.1, .slice a3 b3 z3, .slice a4 b4 z4, .slice a5 b5 z5, .int .i64 y.2.2.2.2.2.1, .int .i64 y.2.2.2.2.2.2]) rfl (by kernel_rfl) (by kernel_rfl) (by kernel_rfl) (fun _ _ _ h => h) (Or.inl ⟨by rfl, by intro W hSw; (try dsimp only at hSw); go_simp⟩) (by assumption) ?_
      try simp only [Act.put, List.setIfInBounds_toArray, List.set_cons_zero, List.set_cons_succ]
      refine wpAnyH_take (i := 11) (oi := { dst := some 76, op := Op.extract (Operand.tmp 65) 2, type := 4, pos := "law.go:141", after := #[{ on := 8, ground := Ground.data }, { on := 15, ground := Ground.gcOnly Departure.lateStores }], guard := none }) (v := .bool bo) rfl (by kernel_rfl) (by kernel_rfl) (by kernel_rfl) (fun _ _ _ h => h) (Or.inl ⟨by rfl, by intro W hSw; (try dsimp only at hSw); go_simp⟩) (by assumption) ?_
      try simp only [Act.put, List.setIfInBounds_toArray, List.set_cons_zero, List.set_cons_succ]
      refine wpAnyH_ready (rs := [13]) (by kernel_rfl) (by simp) ?_
      refine AllReadyH.cons (o := { dst := some 12, op := Op.alloc 29, type := 0, pos := "law.go:141", after := #[], guard := none }) rfl (fun K hK => ?o13_6) (AllReadyH.nil)
      case o13_6 =>
        go_simp
        refine hK.out _ _ (s16 (by (repeat (with_reducible first | assumption | exact Below.refl _ _ | refine bDrew ?_ | refine bAlloc ?_ _))) hc9) (fun hHeld => ?_)
        clear hK K
        try simp only [Act.put, List.setIfInBounds_toArray, List.set_cons_zero, List.set_cons_succ]
        have hb0 := cell_block hc9.out.1
        have hs9 := hbc9.size
        have zX : (w'.alloc Zs).heap[w9.heap.size]? = some Zs := ((Below.heap_alloc w' Zs _ (Nat.lt_of_lt_of_le (sz1 w9 Zs) hbc.size)).trans ((hbc.block _ (sz1 w9 Zs)).trans (al1 w9 Zs)))
        have zY : (w'.alloc Zs).heap[w'.heap.size]? = some Zs := (al1 w' Zs)
        have bW : Below w9.heap.size w9 (w'.alloc Zs) := bAlloc hbc9 Zs
        refine fin16 (w9 := w9) (X := w9.heap.size) (Y := w'.heap.size) (xs := #[.int .i64 x.1, .int .i64 x.2.1, .slice a0 b0' z0, .slice a1 b1 z1, .slice a2 b2 z2, .int .i64 x.2.2.2.2.2.1, .int .i64 x.2.2.2.2.2.2]) (ys := #[.int .i64 y.1, .int .i64 y.2.1, .slice a3 b3 z3, .slice a4 b4 z4, .slice a5 b5 z5, .int .i64 y.2.2.2.2.2.1, .int .i64 y.2.2.2.2.2.2]) rfl rfl (by simp [Value.oneCell']) (by simp [Value.oneCell']) (thereZ zX) (thereZ zY) (Nat.le_refl _) hs9 bW (fun W' h => s16 h hc9) ?_
        exact hQ (w9.heap.size) _ _ _ _ _ _ _ _ _ _ _ _ _ _ _ (leaf16 hb0 (by (repeat (with_reducible first | assumption | exact Below.refl _ _ | refine bDrew ?_ | refine bAlloc ?_ _))) hbc (Nat.le_of_lt (sz1 w' Zs)) (fun k hk => Below.heap_alloc w' Zs k hk) zX (by first | exact Nat.ne_of_lt (Nat.lt_of_lt_of_le (sz1 w9 Zs) hbc.size) | exact Nat.ne_of_gt (Nat.lt_of_lt_of_le (sz1 w9 Zs) hbc.size)) (Nat.le_refl _) (.inl (sz1 w9 Zs)) hs9 (.inr (Nat.le_refl _)) hnew) (below_setCells hs9 _ _ _ (below_setCells (Nat.le_refl _) _ _ _ bW))
    case o13_5 =>
      go_simp
      refine hK.out _ _ (s16 (by (repeat (with_reducible first | assumption | exact Below.refl _ _ | refine bDrew ?_ | refine bAlloc ?_ _))) hc9) (fun hHeld => ?_)
      clear hK K
      try simp only [Act.put, List.setIfInBounds_toArray, List.set_cons_zero, List.set_cons_succ]
      refine wpAnyH_ready (rs := [7]) (by kernel_rfl) (by simp) ?_
      refine AllReadyH.cons (o := { dst := some 73, op := Op.call { callee := Callee.value (Operand.func 5), args := #[Operand.tmp 66, Operand.tmp 67, Operand.tmp 71, Operand.tmp 72], argTypes := #[29, 29, 32, 3] }, type := 34, pos := "law.go:141", after := #[{ on := 0, ground := Ground.data }, { on := 1, ground := Ground.data }, { on := 5, ground := Ground.data }, { on := 6, ground := Ground.data }], guard := none }) rfl (fun K hK => ?o7_7) (AllReadyH.nil)
      case o7_7 =>
        go_simp
        refine (hD _ (by (repeat (with_reducible first | assumption | exact Below.refl _ _ | refine bDrew ?_ | refine bAlloc ?_ _)))).mono ?_
        rintro e w' ⟨⟨a0, b0', z0, a1, b1, z1, a2, b2, z2, a3, b3, z3, a4, b4, z4, a5, b5, z5, rfl, hnew⟩, hbc⟩
        have hbc9 : Below w9.heap.size w9 w' := kCall hHeld hbc
        refine hK.out _ _ (s16 (by (repeat (with_reducible first | assumption | exact Below.refl _ _ | refine bDrew ?_ | refine bAlloc ?_ _))) hc9) (fun hHeld => ?_)
        clear hK K
        try simp only [Act.put, List.setIfInBounds_toArray, List.set_cons_zero, List.set_cons_succ]
        refine wpAnyH_take (i := 8) (oi := { dst := some 65, op := Op.move (Operand.tmp 73), type := 34, pos := "law.go:141", after := #[{ on := 7, ground := Ground.data }], guard := none }) (v := .tuple #[.agg #[.int .i64 x.1, .int .i64 x.2.1, .slice a0 b0' z0, .slice a1 b1 z1, .slice a2 b2 z2, .int .i64 x.2.2.2.2.2.1, .int .i64 x.2.2.2.2.2.2], .agg #[.int .i64 y.1, .int .i64 y.2.1, .slice a3 b3 z3, .slice a4 b4 z4, .slice a5 b5 z5, .int .i64 y.2.2.2.2.2.1, .int .i64 y.2.2.2.2.2.2], .bool bo]) rfl (by kernel_rfl) (by kernel_rfl) (by kernel_rfl) (fun _ _ _ h => h) (Or.inl ⟨by rfl, by intro W hSw; (try dsimp only at hSw); go_simp⟩) (by assumption) ?_
        try simp only [Act.put, List.setIfInBounds_toArray, List.set_cons_zero, List.set_cons_succ]
        refine wpAnyH_take (i := 9) (oi := { dst := some 74, op := Op.extract (Operand.tmp 65) 0, type := 29, pos := "law.go:141", after := #[{ on := 8, ground := Ground.data }], guard := none }) (v := .agg #[.int .i64 x.1, .int .i64 x.2.1, .slice a0 b0' z0, .slice a1 b1 z1, .slice a2 b2 z2, .int .i64 x.2.2.2.2.2.1, .int .i64 x.2.2.2.2.2.2]) rfl (by kernel_rfl) (by kernel_rfl) (by kernel_rfl) (fun _ _ _ h => h) (Or.inl ⟨by rfl, by intro W hSw; (try dsimp only at hSw); go_simp⟩) (by assumption) ?_
        try simp only [Act.put, List.setIfInBounds_toArray, List.set_cons_zero, List.set_cons_succ]
        refine wpAnyH_take (i := 10) (oi := { dst := some 75, op := Op.extract (Operand.tmp 65) 1, type := 29, pos := "law.go:141", after := #[{ on := 8, ground := Ground.data }, { on := 14, ground := Ground.gcOnly Departure.lateStores }], guard := none }) (v := .agg #[.int .i64 y.1, .int .i64 y.2.1, .slice a3 b3 z3, .slice a4 b4 z4, .slice a5 b5 z5, .int .i64 y.2.2.2.2.2.1, .int .i64 y.2.2.2.2.2.2]) rfl (by kernel_rfl) (by kernel_rfl) (by kernel_rfl) (fun _ _ _ h => h) (Or.inl ⟨by rfl, by intro W hSw; (try dsimp only at hSw); go_simp⟩) (by assumption) ?_
        try simp only [Act.put, List.setIfInBounds_toArray, List.set_cons_zero, List.set_cons_succ]
        refine wpAnyH_take (i := 11) (oi := { dst := some 76, op := Op.extract (Operand.tmp 65) 2, type := 4, pos := "law.go:141", after := #[{ on := 8, ground := Ground.data }, { on := 15, ground := Ground.gcOnly Departure.lateStores }], guard := none }) (v := .bool bo) rfl (by kernel_rfl) (by kernel_rfl) (by kernel_rfl) (fun _ _ _ h => h) (Or.inl ⟨by rfl, by intro W hSw; (try dsimp only at hSw); go_simp⟩) (by assumption) ?_
        try simp only [Act.put, List.setIfInBounds_toArray, List.set_cons_zero, List.set_cons_succ]
        have hb0 := cell_block hc9.out.1
        have hs9 := hbc9.size
        have zX : (w').heap[w9.heap.size]? = some Zs := ((hbc.block _ (sz2a w9 Zs Zs)).trans (al2a w9 Zs Zs))
        have zY : (w').heap[w9.heap.size + 1]? = some Zs := ((hbc.block _ (sz2 w9 Zs Zs)).trans (al2b w9 Zs Zs))
        have bW : Below w9.heap.size w9 (w') := hbc9
        refine fin16 (w9 := w9) (X := w9.heap.size) (Y := w9.heap.size + 1) (xs := #[.int .i64 x.1, .int .i64 x.2.1, .slice a0 b0' z0, .slice a1 b1 z1, .slice a2 b2 z2, .int .i64 x.2.2.2.2.2.1, .int .i64 x.2.2.2.2.2.2]) (ys := #[.int .i64 y.1, .int .i64 y.2.1, .slice a3 b3 z3, .slice a4 b4 z4, .slice a5 b5 z5, .int .i64 y.2.2.2.2.2.1, .int .i64 y.2.2.2.2.2.2]) rfl rfl (by simp [Value.oneCell']) (by simp [Value.oneCell']) (thereZ zX) (thereZ zY) (Nat.le_refl _) (Nat.le_succ _) bW (fun W' h => s16 h hc9) ?_
        exact hQ (w9.heap.size) _ _ _ _ _ _ _ _ _ _ _ _ _ _ _ (leaf16 hb0 (by (repeat (with_reducible first | assumption | exact Below.refl _ _ | refine bDrew ?_ | refine bAlloc ?_ _))) hbc (Nat.le_refl _) (fun k hk => rfl) zX (by omega) (Nat.le_refl _) (.inl (sz2a w9 Zs Zs)) (Nat.le_succ _) (.inl (sz2 w9 Zs Zs)) hnew) (below_setCells (Nat.le_succ _) _ _ _ (below_setCells (Nat.le_refl _) _ _ _ bW))
  case o13_1 =>
    go_simp
    refine hK.out _ _ (s16 (by (repeat (with_reducible first | assumption | exact Below.refl _ _ | refine bDrew ?_ | refine bAlloc ?_ _))) hc9) (fun hHeld => ?_)
    clear hK K
    try simp only [Act.put, List.setIfInBounds_toArray, List.set_cons_zero, List.set_cons_succ]
    refine wpAnyH_ready (rs := [7, 12]) (by kernel_rfl) (by simp) ?_
    refine AllReadyH.cons (o := { dst := some 73, op := Op.call { callee := Callee.value (Operand.func 5), args := #[Operand.tmp 66, Operand.tmp 67, Operand.tmp 71, Operand.tmp 72], argTypes := #[29, 29, 32, 3] }, type := 34, pos := "law.go:141", after := #[{ on := 0, ground := Ground.data }, { on := 1, ground := Ground.data }, { on := 5, ground := Ground.data }, { on := 6, ground := Ground.data }], guard := none }) rfl (fun K hK => ?o7_8) (AllReadyH.cons (o := { dst := some 11, op := Op.alloc 29, type := 0, pos := "law.go:141", after := #[], guard := none }) rfl (fun K hK => ?o12_8) (AllReadyH.nil))
    case o7_8 =>
      go_simp
      refine (hD _ (by (repeat (with_reducible first | assumption | exact Below.refl _ _ | refine bDrew ?_ | refine bAlloc ?_ _)))).mono ?_
      rintro e w' ⟨⟨a0, b0', z0, a1, b1, z1, a2, b2, z2, a3, b3, z3, a4, b4, z4, a5, b5, z5, rfl, hnew⟩, hbc⟩
      have hbc9 : Below w9.heap.size w9 w' := kCall hHeld hbc
      refine hK.out _ _ (s16 (by (repeat (with_reducible first | assumption | exact Below.refl _ _ | refine bDrew ?_ | refine bAlloc ?_ _))) hc9) (fun hHeld => ?_)
      clear hK K
      try simp only [Act.put, List.setIfInBounds_toArray, List.set_cons_zero, List.set_cons_succ]
      refine wpAnyH_take (i := 8) (oi := { dst := some 65, op := Op.move (Operand.tmp 73), type := 34, pos := "law.go:141", after := #[{ on := 7, ground := Ground.data }], guard := none }) (v := .tuple #[.agg #[.int .i64 x.1, .int .i64 x.2.1, .slice a0 b0' z0, .slice a1 b1 z1, .slice a2 b2 z2, .int .i64 x.2.2.2.2.2.1, .int .i64 x.2.2.2.2.2.2], .agg #[.int .i64 y.1, .int .i64 y.2.1, .slice a3 b3 z3, .slice a4 b4 z4, .slice a5 b5 z5, .int .i64 y.2.2.2.2.2.1, .int .i64 y.2.2.2.2.2.2], .bool bo]) rfl (by kernel_rfl) (by kernel_rfl) (by kernel_rfl) (fun _ _ _ h => h) (Or.inl ⟨by rfl, by intro W hSw; (try dsimp only at hSw); go_simp⟩) (by assumption) ?_
      try simp only [Act.put, List.setIfInBounds_toArray, List.set_cons_zero, List.set_cons_succ]
      refine wpAnyH_take (i := 9) (oi := { dst := some 74, op := Op.extract (Operand.tmp 65) 0, type := 29, pos := "law.go:141", after := #[{ on := 8, ground := Ground.data }], guard := none }) (v := .agg #[.int .i64 x.1, .int .i64 x.2.1, .slice a0 b0' z0, .slice a1 b1 z1, .slice a2 b2 z2, .int .i64 x.2.2.2.2.2.1, .int .i64 x.2.2.2.2.2.2]) rfl (by kernel_rfl) (by kernel_rfl) (by kernel_rfl) (fun _ _ _ h => h) (Or.inl ⟨by rfl, by intro W hSw; (try dsimp only at hSw); go_simp⟩) (by assumption) ?_
      try simp only [Act.put, List.setIfInBounds_toArray, List.set_cons_zero, List.set_cons_succ]
      refine wpAnyH_take (i := 10) (oi := { dst := some 75, op := Op.extract (Operand.tmp 65) 1, type := 29, pos := "law.go:141", after := #[{ on := 8, ground := Ground.data }, { on := 14, ground := Ground.gcOnly Departure.lateStores }], guard := none }) (v := .agg #[.int .i64 y.1, .int .i64 y.2.1, .slice a3 b3 z3, .slice a4 b4 z4, .slice a5 b5 z5, .int .i64 y.2.2.2.2.2.1, .int .i64 y.2.2.2.2.2.2]) rfl (by kernel_rfl) (by kernel_rfl) (by kernel_rfl) (fun _ _ _ h => h) (Or.inl ⟨by rfl, by intro W hSw; (try dsimp only at hSw); go_simp⟩) (by assumption) ?_
      try simp only [Act.put, List.setIfInBounds_toArray, List.set_cons_zero, List.set_cons_succ]
      refine wpAnyH_take (i := 11) (oi := { dst := some 76, op := Op.extract (Operand.tmp 65) 2, type := 4, pos := "law.go:141", after := #[{ on := 8, ground := Ground.data }, { on := 15, ground := Ground.gcOnly Departure.lateStores }], guard := none }) (v := .bool bo) rfl (by kernel_rfl) (by kernel_rfl) (by kernel_rfl) (fun _ _ _ h => h) (Or.inl ⟨by rfl, by intro W hSw; (try dsimp only at hSw); go_simp⟩) (by assumption) ?_
      try simp only [Act.put, List.setIfInBounds_toArray, List.set_cons_zero, List.set_cons_succ]
      refine wpAnyH_ready (rs := [12]) (by kernel_rfl) (by simp) ?_
      refine AllReadyH.cons (o := { dst := some 11, op := Op.alloc 29, type := 0, pos := "law.go:141", after := #[], guard := none }) rfl (fun K hK => ?o12_9) (AllReadyH.nil)
      case o12_9 =>
        go_simp
        refine hK.out _ _ (s16 (by (repeat (with_reducible first | assumption | exact Below.refl _ _ | refine bDrew ?_ | refine bAlloc ?_ _))) hc9) (fun hHeld => ?_)
        clear hK K
        try simp only [Act.put, List.setIfInBounds_toArray, List.set_cons_zero, List.set_cons_succ]
        have hb0 := cell_block hc9.out.1
        have hs9 := hbc9.size
        have zX : (w'.alloc Zs).heap[w'.heap.size]? = some Zs := (al1 w' Zs)
        have zY : (w'.alloc Zs).heap[w9.heap.size]? = some Zs := ((Below.heap_alloc w' Zs _ (Nat.lt_of_lt_of_le (sz1 w9 Zs) hbc.size)).trans ((hbc.block _ (sz1 w9 Zs)).trans (al1 w9 Zs)))
        have bW : Below w9.heap.size w9 (w'.alloc Zs) := bAlloc hbc9 Zs
        refine fin16 (w9 := w9) (X := w'.heap.size) (Y := w9.heap.size) (xs := #[.int .i64 x.1, .int .i64 x.2.1, .slice a0 b0' z0, .slice a1 b1 z1, .slice a2 b2 z2, .int .i64 x.2.2.2.2.2.1, .int .i64 x.2.2.2.2.2.2]) (ys := #[.int .i64 y.1, .int .i64 y.2.1, .slice a3 b3 z3, .slice a4 b4 z4, .slice a5 b5 z5, .int .i64 y.2.2.2.2.2.1, .int .i64 y.2.2.2.2.2.2]) rfl rfl (by simp [Value.oneCell']) (by simp [Value.oneCell']) (thereZ zX) (thereZ zY) hs9 (Nat.le_refl _) bW (fun W' h => s16 h hc9) ?_
        exact hQ (w'.heap.size) _ _ _ _ _ _ _ _ _ _ _ _ _ _ _ (leaf16 hb0 (by (repeat (with_reducible first | assumption | exact Below.refl _ _ | refine bDrew ?_ | refine bAlloc ?_ _))) hbc (Nat.le_of_lt (sz1 w' Zs)) (fun k hk => Below.heap_alloc w' Zs k hk) zX (by first | exact Nat.ne_of_lt (Nat.lt_of_lt_of_le (sz1 w9 Zs) hbc.size) | exact Nat.ne_of_gt (Nat.lt_of_lt_of_le (sz1 w9 Zs) hbc.size)) hs9 (.inr (Nat.le_refl _)) (Nat.le_refl _) (.inl (sz1 w9 Zs)) hnew) (below_setCells (Nat.le_refl _) _ _ _ (below_setCells hs9 _ _ _ bW))
    case o12_8 =>
      go_simp
      refine hK.out _ _ (s16 (by (repeat (with_reducible first | assumption | exact Below.refl _ _ | refine bDrew ?_ | refine bAlloc ?_ _))) hc9) (fun hHeld => ?_)
      clear hK K
      try simp only [Act.put, List.setIfInBounds_toArray, List.set_cons_zero, List.set_cons_succ]
      refine wpAnyH_ready (rs := [7]) (by kernel_rfl) (by simp) ?_
      refine AllReadyH.cons (o := { dst := some 73, op := Op.call { callee := Callee.value (Operand.func 5), args := #[Operand.tmp 66, Operand.tmp 67, Operand.tmp 71, Operand.tmp 72], argTypes := #[29, 29, 32, 3] }, type := 34, pos := "law.go:141", after := #[{ on := 0, ground := Ground.data }, { on := 1, ground := Ground.data }, { on := 5, ground := Ground.data }, { on := 6, ground := Ground.data }], guard := none }) rfl (fun K hK => ?o7_10) (AllReadyH.nil)
      case o7_10 =>
        go_simp
        refine (hD _ (by (repeat (with_reducible first | assumption | exact Below.refl _ _ | refine bDrew ?_ | refine bAlloc ?_ _)))).mono ?_
        rintro e w' ⟨⟨a0, b0', z0, a1, b1, z1, a2, b2, z2, a3, b3, z3, a4, b4, z4, a5, b5, z5, rfl, hnew⟩, hbc⟩
        have hbc9 : Below w9.heap.size w9 w' := kCall hHeld hbc
        refine hK.out _ _ (s16 (by (repeat (with_reducible first | assumption | exact Below.refl _ _ | refine bDrew ?_ | refine bAlloc ?_ _))) hc9) (fun hHeld => ?_)
        clear hK K
        try simp only [Act.put, List.setIfInBounds_toArray, List.set_cons_zero, List.set_cons_succ]
        refine wpAnyH_take (i := 8) (oi := { dst := some 65, op := Op.move (Operand.tmp 73), type := 34, pos := "law.go:141", after := #[{ on := 7, ground := Ground.data }], guard := none }) (v := .tuple #[.agg #[.int .i64 x.1, .int .i64 x.2.1, .slice a0 b0' z0, .slice a1 b1 z1, .slice a2 b2 z2, .int .i64 x.2.2.2.2.2.1, .int .i64 x.2.2.2.2.2.2], .agg #[.int .i64 y.1, .int .i64 y.2.1, .slice a3 b3 z3, .slice a4 b4 z4, .slice a5 b5 z5, .int .i64 y.2.2.2.2.2.1, .int .i64 y.2.2.2.2.2.2], .bool bo]) rfl (by kernel_rfl) (by kernel_rfl) (by kernel_rfl) (fun _ _ _ h => h) (Or.inl ⟨by rfl, by intro W hSw; (try dsimp only at hSw); go_simp⟩) (by assumption) ?_
        try simp only [Act.put, List.setIfInBounds_toArray, List.set_cons_zero, List.set_cons_succ]
        refine wpAnyH_take (i := 9) (oi := { dst := some 74, op := Op.extract (Operand.tmp 65) 0, type := 29, pos := "law.go:141", after := #[{ on := 8, ground := Ground.data }], guard := none }) (v := .agg #[.int .i64 x.1, .int .i64 x.2.1, .slice a0 b0' z0, .slice a1 b1 z1, .slice a2 b2 z2, .int .i64 x.2.2.2.2.2.1, .int .i64 x.2.2.2.2.2.2]) rfl (by kernel_rfl) (by kernel_rfl) (by kernel_rfl) (fun _ _ _ h => h) (Or.inl ⟨by rfl, by intro W hSw; (try dsimp only at hSw); go_simp⟩) (by assumption) ?_
        try simp only [Act.put, List.setIfInBounds_toArray, List.set_cons_zero, List.set_cons_succ]
        refine wpAnyH_take (i := 10) (oi := { dst := some 75, op := Op.extract (Operand.tmp 65) 1, type := 29, pos := "law.go:141", after := #[{ on := 8, ground := Ground.data }, { on := 14, ground := Ground.gcOnly Departure.lateStores }], guard := none }) (v := .agg #[.int .i64 y.1, .int .i64 y.2.1, .slice a3 b3 z3, .slice a4 b4 z4, .slice a5 b5 z5, .int .i64 y.2.2.2.2.2.1, .int .i64 y.2.2.2.2.2.2]) rfl (by kernel_rfl) (by kernel_rfl) (by kernel_rfl) (fun _ _ _ h => h) (Or.inl ⟨by rfl, by intro W hSw; (try dsimp only at hSw); go_simp⟩) (by assumption) ?_
        try simp only [Act.put, List.setIfInBounds_toArray, List.set_cons_zero, List.set_cons_succ]
        refine wpAnyH_take (i := 11) (oi := { dst := some 76, op := Op.extract (Operand.tmp 65) 2, type := 4, pos := "law.go:141", after := #[{ on := 8, ground := Ground.data }, { on := 15, ground := Ground.gcOnly Departure.lateStores }], guard := none }) (v := .bool bo) rfl (by kernel_rfl) (by kernel_rfl) (by kernel_rfl) (fun _ _ _ h => h) (Or.inl ⟨by rfl, by intro W hSw; (try dsimp only at hSw); go_simp⟩) (by assumption) ?_
        try simp only [Act.put, List.setIfInBounds_toArray, List.set_cons_zero, List.set_cons_succ]
        have hb0 := cell_block hc9.out.1
        have hs9 := hbc9.size
        have zX : (w').heap[w9.heap.size + 1]? = some Zs := ((hbc.block _ (sz2 w9 Zs Zs)).trans (al2b w9 Zs Zs))
        have zY : (w').heap[w9.heap.size]? = some Zs := ((hbc.block _ (sz2a w9 Zs Zs)).trans (al2a w9 Zs Zs))
        have bW : Below w9.heap.size w9 (w') := hbc9
        refine fin16 (w9 := w9) (X := w9.heap.size + 1) (Y := w9.heap.size) (xs := #[.int .i64 x.1, .int .i64 x.2.1, .slice a0 b0' z0, .slice a1 b1 z1, .slice a2 b2 z2, .int .i64 x.2.2.2.2.2.1, .int .i64 x.2.2.2.2.2.2]) (ys := #[.int .i64 y.1, .int .i64 y.2.1, .slice a3 b3 z3, .slice a4 b4 z4, .slice a5 b5 z5, .int .i64 y.2.2.2.2.2.1, .int .i64 y.2.2.2.2.2.2]) rfl rfl (by simp [Value.oneCell']) (by simp [Value.oneCell']) (thereZ zX) (thereZ zY) (Nat.le_succ _) (Nat.le_refl _) bW (fun W' h => s16 h hc9) ?_
        exact hQ (w9.heap.size + 1) _ _ _ _ _ _ _ _ _ _ _ _ _ _ _ (leaf16 hb0 (by (repeat (with_reducible first | assumption | exact Below.refl _ _ | refine bDrew ?_ | refine bAlloc ?_ _))) hbc (Nat.le_refl _) (fun k hk => rfl) zX (by omega) (Nat.le_succ _) (.inl (sz2 w9 Zs Zs)) (Nat.le_refl _) (.inl (sz2a w9 Zs Zs)) hnew) (below_setCells (Nat.le_refl _) _ _ _ (below_setCells (Nat.le_succ _) _ _ _ bW))
end Go.Abs
namespace Go.Abs
open Go.RowKit
set_option linter.unusedVariables false
set_option linter.unusedSimpArgs false
theorem cellNew (wq : World) (s : Nat) (hs : s = wq.heap.size) (arr : Array Value) (t : Nat) (k : Nat) (u : Value) (h : arr[k]? = some u) : (wq.alloc (.cells arr t)).cell? ⟨s, k, none⟩ = some u := by
  subst hs
  have e : (wq.alloc (.cells arr t)).heap[wq.heap.size]? = some (.cells arr t) := heap_alloc_new _ _
  unfold World.cell?
  rw [e]
  exact h
theorem toHid {p : Prop} (h : p) : Hid p := h
theorem textF_len (t : Int) : (textF t).length ≤ 13 := by
  unfold textF
  have : t % 5 = 0 ∨ t % 5 = 1 ∨ t % 5 = 2 ∨ t % 5 = 3 ∨ t % 5 = 4 := by omega
  rcases this with q | q | q | q | q <;> rw [q] <;> decide
theorem len_bytes {b : ByteArray} {l : List UInt8} (h : b.data.toList = l) {n : Nat} (hl : l.length ≤ n) (hn : n ≤ 1000) : b.size ≤ maxLen := by
  have h1 : b.size = b.data.toList.length := by rw [Array.length_toList]; rfl
  rw [h1, h]
  exact Nat.le_trans hl (Nat.le_trans hn (by decide))
theorem wfI {a : Int} (h1 : -1000000000000 ≤ a) (h2 : a ≤ 1000000000000) : (Lit.int .i64 a).wf = true := by
  show (decide (IntKind.i64.min ≤ a) && decide (a ≤ IntKind.i64.max)) = true
  have e1 : IntKind.i64.min ≤ a := Int.le_trans (by decide) h1
  have e2 : a ≤ IntKind.i64.max := Int.le_trans h2 (by decide)
  rw [decide_eq_true e1, decide_eq_true e2]; rfl
theorem noteS (N : Int → Bool) (a k : Int) (h : a ≤ k) : (fun j => (N j || decide (a ≤ j ∧ j < k)) || decide (j = k)) = fun j => N j || decide (a ≤ j ∧ j < k + 1) := by
  funext j
  rw [Bool.or_assoc]
  congr 1
  by_cases q : j = k
  · subst q; simp [h]; omega
  · have : (a ≤ j ∧ j < k + 1) ↔ (a ≤ j ∧ j < k) := by omega
    simp [q, this]
theorem note0 (N : Int → Bool) (a : Int) : (fun j => N j || decide (a ≤ j ∧ j < a)) = N := by
  funext j
  rw [decide_eq_false (by omega), Bool.or_false]
set_option maxHeartbeats 20000000 in
set_option maxRecDepth 100000 in
theorem told_walk {deed : FtDeed} (hbeg : bTrue Go.Proofs.Try.prog 4) (hDeed : bDeed Go.Proofs.Try.prog 5 deed) (l : List FtD) (pl : Value) (w : World) (hp : D3At w pl l) (hrun : l.length ≤ 80 → okRun deed l 0 ft0 (fun _ _ => false) (fun _ => false)) :
    Calls Go.Proofs.Try.prog 3 #[pl] w fun e w' => e = .returned (.bool true) ∧ Below w.heap.size w w' := by
  have hpx := hp
  obtain ⟨p, c, rfl, hr⟩ := hp
  replace hpx : Hid (D3At w (.slice p l.length c) l) := hpx
  clear hr
  by_cases z1 : 80 < l.length
  · have z1 : (80 : Int) < (l.length : Int) := by omega
    go_enter Go.Proofs.Try.func3, Go.Proofs.Try.ntmps3
    go_wp2_with (go_at_call 4; refine (hbeg w).mono ?_; rintro e w1 ⟨rfl, hb1⟩)
    go_ret
    exact ⟨rfl, hb1⟩
  replace hrun := hrun (by omega)
  have z1 : ¬ (80 : Int) < (l.length : Int) := by omega
  go_enter Go.Proofs.Try.func3, Go.Proofs.Try.ntmps3
  have hmk : ∀ wx, (Instr.makeMap 30 none).run Go.Proofs.Try.prog wx = .ok (.map (some wx.heap.size)) (wx.alloc (.map #[] 0)) := fun wx => run_makeMap 30 wx
  have hmk2 : ∀ wx, (Instr.makeMap 31 none).run Go.Proofs.Try.prog wx = .ok (.map (some wx.heap.size)) (wx.alloc (.map #[] 0)) := fun wx => run_makeMap 31 wx
  go_wp2_with (go_at_call 4; refine (hbeg w).mono ?_; rintro e w1 ⟨rfl, hb1⟩)
  go_loopw [6, 7] (fun u6 u7 wr => ∃ (i : Nat) (now : Int) (f : FtF) (O : Int → Option Nat) (C : Int → List UInt8 → Bool) (N : Int → Bool), u6 = .int .i64 now ∧ u7 = .int .i64 (i : Int) ∧ i ≤ l.length ∧ 0 ≤ now ∧ now ≤ 3 * i ∧
      okRun deed (l.drop i) now f C N ∧ FtSt Go.Proofs.Try.prog 3 9 wr w1.heap.size f O C N (10 * i) ∧ Below w1.heap.size w1 wr)
    (fun u6 u7 wr => l.length - (intOf u7).toNat)
  case atStart =>
    refine ⟨0, 0, ft0, fun _ => none, fun _ _ => false, fun _ => false, rfl, rfl, Nat.zero_le _, Int.le_refl _, by omega, hrun, ?_, ?_⟩
    · exact FtSt.start _ _ _ _
    · exact (((Below.refl _ w1).alloc (Nat.le_refl _) _).alloc (by simp) _).alloc (by simp; omega) _
  case round =>
    obtain ⟨i, now, f, O, C, N, rfl, rfl, hi, hn0, hn1, hok, hst, hbw⟩ := hrel
    by_cases hi2 : i < l.length
    · have hi3 : (i : Int) < (l.length : Int) := by omega
      obtain ⟨d, hd⟩ : ∃ d, l[i]? = some d := ⟨_, List.getElem?_eq_getElem hi2⟩
      have hdr : l.drop i = d :: l.drop (i + 1) := by
        rw [List.drop_eq_getElem_cons hi2]
        rw [List.getElem?_eq_getElem hi2] at hd
        injection hd with hd
        rw [hd]
      rw [hdr] at hok
      obtain ⟨hf0, hf1, bo, x, y, hde, hle, hlb, hev, hok⟩ := hok
      have hpw : D3At wr (.slice p l.length c) l := hpx.out.below ((hb1.trans (hbw.mono hb1.size)))
      obtain ⟨p0', c0', e0, hr⟩ := hpw
      cases e0
      obtain ⟨hU, ad, B, Of, sp, rfl, hA, e1, e2, e3⟩ := hr i d hd
      clear hr
      obtain ⟨t1, ht1⟩ : ∃ t1 : Nat, d.1 = t1 := ⟨d.1.toNat, by omega⟩
      obtain ⟨t2, ht2⟩ : ∃ t2 : Nat, d.2.1 = t2 := ⟨d.2.1.toNat, by omega⟩
      obtain ⟨t3, ht3⟩ : ∃ t3 : Nat, d.2.2 = t3 := ⟨d.2.2.toNat, by omega⟩
      rw [ht1] at e1
      rw [ht2] at e2
      rw [ht3] at e3
      obtain ⟨q0, m0, k0, q1, m1, k1, q2, m2, k2, hbox, r0, r1, r2⟩ := hst.box
      have c0 := boxAt hbox 0 rfl
      have c1 := boxAt hbox 1 rfl
      have c2 := boxAt hbox 2 rfl
      have c3 := boxAt hbox 3 rfl
      have c4 := boxAt hbox 4 rfl
      have c5 := boxAt hbox 5 rfl
      have c6 := boxAt hbox 6 rfl
      have hlf := (evs_of r2).1
      subst hlf
      clear hbox
      obtain ⟨n0, hn0e⟩ : ∃ n0, f.1 = n0 := ⟨_, rfl⟩
      rw [hn0e] at c0 hf0 hf1
      replace hst : Hid (FtSt Go.Proofs.Try.prog 3 9 wr w1.heap.size f O C N (10 * i)) := hst
      replace hde : Hid (deed (f, f, d, now + d.2.2 % 4) = some (bo, x, y)) := hde
      replace hok : Hid (okRun deed (l.drop (i + 1)) (now + d.2.2 % 4) x (cameF C f d) (notedF N f d)) := hok
      replace hev : Hid (∀ e ∈ List.drop f.2.2.2.2.1.length x.2.2.2.2.1, evOk (cameF C f d) (notedF N f d) f.2.2.2.2.2.1 d.1 e) := hev
      replace r0 : Hid (Rp (FtR wr w1.heap.size) wr (.lst ⟨ftI, f.2.2.1⟩) (.slice q0 m0 k0)) := r0
      replace r1 : Hid (Rp (FtR wr w1.heap.size) wr (.lst ⟨ftI, f.2.2.2.1⟩) (.slice q1 m1 k1)) := r1
      replace r2 : Hid (Rp (FtR wr w1.heap.size) wr (.lst ⟨ftE, f.2.2.2.2.1⟩) (.slice q2 f.2.2.2.2.1.length k2)) := r2
      clear hrun hdr
      go_upto_region 13 with fail
      go_cut [8] from 41 to 52 (fun s8 wq => s8 = .int .i64 (nearF n0 t2) ∧ ∃ nq, wq = wr.drewN nq)
      case first =>
        go_quiet (fail)
        all_goals go_wp2
        all_goals go_meet
        all_goals (case rel => exact ⟨by unfold nearF; congr 1; omega, _, rfl⟩)
      case rest =>
        obtain ⟨rfl, nq, rfl⟩ := hcut
        obtain ⟨near, hne⟩ : ∃ near, nearF n0 t2 = near := ⟨_, rfl⟩
        rw [hne]
        have x3 : ∀ o, ((wr.drewN nq).alloc o).cell? ⟨B, Of + 2, none⟩ = some (.int .u8 t3) := fun o => cellOld (W := wr.drewN nq) o e3
        go_upto_region 14 with fail
        go_cut [9] from 53 to 61 (fun s9 wq => ∃ b : ByteArray, s9 = .string b ∧ b.data.toList = textF t3 ∧ ∃ o, wq = (wr.drewN nq).alloc o)
        case first =>
          have hq : t3 % 5 = 0 ∨ t3 % 5 = 1 ∨ t3 % 5 = 2 ∨ t3 % 5 = 3 ∨ t3 % 5 = 4 := by omega
          rcases hq with hq | hq | hq | hq | hq
          all_goals have hq2 : (t3 : Int) % 5 = _ := congrArg (Nat.cast (R := Int)) hq
          all_goals have y0 := cellNew (wr.drewN nq) wr.heap.size rfl #[.string ⟨#[]⟩, .string ⟨#[97]⟩, .string ⟨#[98, 99]⟩, .string ⟨#[104, 101, 108, 108, 111]⟩, .string ⟨#[116, 104, 105, 114, 116, 101, 101, 110, 32, 98, 121, 116, 101]⟩] 9 (t3 % 5) _ (by rw [hq]; rfl)
          all_goals rw [hq] at y0
          all_goals go_wp2
          all_goals go_meet
          all_goals (case rel => exact ⟨_, rfl, by unfold textF; rw [hq2]; rfl, _, rfl⟩)
        case rest =>
          obtain ⟨b9, rfl, hb9, o9, rfl⟩ := hcut
          obtain ⟨w9, hw9⟩ : ∃ w9, (wr.drewN nq).alloc o9 = w9 := ⟨_, rfl⟩
          rw [hw9]
          have hb9r : Below wr.heap.size wr w9 := by
            rw [← hw9]
            exact (show Below wr.heap.size wr (wr.drewN nq) from ⟨rfl, rfl, rfl, Nat.le_refl _, fun _ _ => rfl⟩).alloc (Nat.le_refl _) o9
          have kk : ∀ {a v}, wr.cell? a = some v → w9.cell? a = some v := fun c => cellBelow hb9r (Nat.le_refl _) c
          replace c0 := kk c0
          replace c1 := kk c1
          replace c2 := kk c2
          replace c3 := kk c3
          replace c4 := kk c4
          replace c5 := kk c5
          replace c6 := kk c6
          replace e1 := kk e1
          replace e2 := kk e2
          replace e3 := kk e3
          clear x3 kk hw9
          replace hb9r : Hid (Below wr.heap.size wr w9) := hb9r
          have hD : ∀ W : World, Below w9.heap.size w9 W → Calls Go.Proofs.Try.prog 5 #[.agg #[.int .i64 n0, .int .i64 f.2.1, .slice q0 m0 k0, .slice q1 m1 k1, .slice q2 f.2.2.2.2.1.length k2, .int .i64 f.2.2.2.2.2.1, .int .i64 f.2.2.2.2.2.2], .agg #[.int .i64 n0, .int .i64 f.2.1, .slice q0 m0 k0, .slice q1 m1 k1, .slice q2 f.2.2.2.2.1.length k2, .int .i64 f.2.2.2.2.2.1, .int .i64 f.2.2.2.2.2.2], .agg #[.int .u8 t1, .int .u8 t2, .int .u8 t3], .int .i64 (now + (t3 : Int) % 4)] W fun e w' =>
            (∃ a0 b0 z0 a1 b1 z1 a2 b2 z2 a3 b3 z3 a4 b4 z4 a5 b5 z5, e = .returned (.tuple #[.agg #[.int .i64 x.1, .int .i64 x.2.1, .slice a0 b0 z0, .slice a1 b1 z1, .slice a2 b2 z2, .int .i64 x.2.2.2.2.2.1, .int .i64 x.2.2.2.2.2.2], .agg #[.int .i64 y.1, .int .i64 y.2.1, .slice a3 b3 z3, .slice a4 b4 z4, .slice a5 b5 z5, .int .i64 y.2.2.2.2.2.1, .int .i64 y.2.2.2.2.2.2], .bool bo]) ∧ Hid (FtNew w9 W w' w1.heap.size x a0 b0 z0 a1 b1 z1 a2 b2 z2)) ∧ Below W.heap.size W w' := by
            intro W hW
            have hW0 : Below wr.heap.size wr W := hb9r.out.trans (hW.mono hb9r.out.size)
            have mn : ∀ p, FtR wr w1.heap.size p → FtR w9 w1.heap.size p ∧ W.cell? p = wr.cell? p := fun p hp => ⟨⟨Nat.lt_of_lt_of_le hp.1 hb9r.out.size, hp.2⟩, hW0.cell hp.1⟩
            have h := hDeed f d (now + d.2.2 % 4) x y bo hde.out (FtR w9 w1.heap.size) W _ (fun p hp => Nat.lt_of_lt_of_le hp.1 hW.size) ⟨q0, m0, k0, q1, m1, k1, q2, f.2.2.2.2.1.length, k2, rfl, r0.out.mono mn, r1.out.mono mn, r2.out.mono mn⟩
            rw [hn0e, ht1, ht2, ht3] at h
            refine h.mono ?_
            rintro e w' ⟨⟨vx, vy, rfl, ⟨a0, b0, z0, a1, b1, z1, a2, b2, z2, rfl, g0, g1, g2⟩, ⟨a3, b3, z3, a4, b4, z4, a5, b5, z5, rfl, _⟩⟩, hb⟩
            exact ⟨⟨a0, b0, z0, a1, b1, z1, a2, b2, z2, a3, b3, z3, a4, b4, z4, a5, b5, z5, rfl, g0, g1, g2⟩, hb⟩
          have hc9 : Hid (_ ∧ _ ∧ _ ∧ _ ∧ _ ∧ _ ∧ _ ∧ _ ∧ _ ∧ _) := ⟨c0, c1, c2, c3, c4, c5, c6, e1, e2, e3⟩
          go_upto_region 16 with fail
          go_cut [11, 12, 13] from 65 to 76 (fun s11 s12 s13 wq => ∃ X, s11 = .pointer (some ⟨X, 0, none⟩) ∧ FtBox wq w1.heap.size X x ∧ Below w9.heap.size w9 wq)
          case first =>
            refine reg16 hi3 hA hc9 hD ?_
            intro X s12 s13 s65 s66 s67 s68 s69 s70 s71 s72 s73 s74 s75 s76 wq hbx hbl
            go_wp2
            go_meet
            case rel => exact ⟨X, rfl, hbx, hbl⟩
          case rest =>
            obtain ⟨X, rfl, hxb, hb10⟩ := hcut
            have hbr : Below wr.heap.size wr wc := hb9r.out.trans (hb10.mono hb9r.out.size)
            replace hst : Hid (FtSt Go.Proofs.Try.prog 3 9 wc w1.heap.size f O C N (10 * i)) := hst.out.below hbr
            have hbw1 : Below w1.heap.size w1 wc := hbw.trans (hbr.mono hbw.size)
            replace e1 := cellBelow hb10 (Nat.le_refl _) e1
            replace e3 := cellBelow hb10 (Nat.le_refl _) e3
            clear c0 c1 c2 c3 c4 c5 c6 e2 hD hc9 hb9r hb10 hbr hbw r0 r1 r2
            replace hxb : Hid (FtBox wc w1.heap.size X x) := hxb
            replace hbw1 : Hid (Below w1.heap.size w1 wc) := hbw1
            have hnb : 1 ≤ near ∧ near ≤ 2000020 := by rw [← hne]; unfold nearF; omega
            go_upto_block 2 with fail
            go_cut [14] from 77 to 115 (fun s14 wq => ∃ O', FtSt Go.Proofs.Try.prog 3 9 wq w1.heap.size f O' (cameF C f d) (notedF N f d) (10 * i + 10) ∧ FtBox wq w1.heap.size X x ∧ Below w1.heap.size w1 wq ∧ wq.cell? ⟨B, Of, sp⟩ = some (.int .u8 t1))
            case first =>
              have hmax : 10 * i + 10 < maxLen := by unfold maxLen; omega
              have hm8 : (t1 : Int) % 8 = 0 ∨ (t1 : Int) % 8 = 1 ∨ (t1 : Int) % 8 = 2 ∨ (t1 : Int) % 8 = 3 ∨ (t1 : Int) % 8 = 4 ∨ (t1 : Int) % 8 = 5 ∨ (t1 : Int) % 8 = 6 ∨ (t1 : Int) % 8 = 7 := by omega
              have hcame : (t1 : Int) % 8 < 5 → cameF C f d = C := fun q => by unfold cameF; rw [if_neg (by rw [ht1]; omega)]
              have hnote : (t1 : Int) % 8 ≠ 1 → notedF N f d = N := fun q => by unfold notedF; rw [if_neg (by rw [ht1]; omega)]
              replace hcame := toHid hcame
              replace hnote := toHid hnote
              rcases hm8 with q | q | q | q | q | q | q | q
              case inl | inr.inr.inl | inr.inr.inr.inl | inr.inr.inr.inr.inl =>
                go_wp2
                go_meet
                case rel => exact ⟨O, by rw [hcame.out (by omega), hnote.out (by omega)]; exact hst.out.mono (by omega), hxb.out, hbw1.out, e1⟩
              case inr.inl =>
                have hn1 : notedF N f d = fun j => N j || decide (near ≤ j ∧ j < near + (t3 : Int) % 6) := by
                  unfold notedF; rw [if_pos (by rw [ht1]; exact q), ht3, ht2, hn0e, hne]
                replace hn1 := toHid hn1
                go_wp2
                go_loopw [14] (fun u14 wr2 => ∃ k : Int, u14 = .int .i64 k ∧ near ≤ k ∧ k ≤ near + (t3 : Int) % 6 ∧ FtSt Go.Proofs.Try.prog 3 9 wr2 w1.heap.size f O C (fun j => N j || decide (near ≤ j ∧ j < k)) (10 * i + (k - near).toNat) ∧ FtBox wr2 w1.heap.size X x ∧ Below w1.heap.size w1 wr2 ∧ wr2.cell? ⟨B, Of, sp⟩ = some (.int .u8 t1) ∧ wr2.cell? ⟨B, Of + 2, none⟩ = some (.int .u8 t3))
                  (fun u14 wr2 => (near + (t3 : Int) % 6 - intOf u14).toNat)
                case atStart => exact ⟨near, rfl, by omega, by omega, by rw [note0]; exact hst.out.mono (by omega), hxb.out, hbw1.out, e1, e3⟩
                case round =>
                  obtain ⟨k, rfl, hk1, hk2, hs, hx, hb, e1, e3⟩ := hrel
                  replace hs := toHid hs
                  replace hx := toHid hx
                  replace hb := toHid hb
                  by_cases hk : k < near + (t3 : Int) % 6
                  · obtain ⟨w2, hrun2, hs2, hT2⟩ := hs.out.note (mt := 31) (e := 4) rfl rfl (by omega) (a := k) (wfI (by omega) (by omega))
                    have mp := hs.out.nm.at
                    have mp' := hs2.nm.at
                    replace hs2 := toHid hs2
                    go_wp2
                    go_roundw
                    case rel =>
                      have h9 := hs2.out
                      rw [noteS N near k hk1] at h9
                      exact ⟨k + 1, rfl, by omega, by omega, h9.mono (by omega), hx.out.turned mp mp' hT2, hb.out.trans (mapTurned_below hT2 (by omega)), cell_turned e1 mp hT2, cell_turned e3 mp hT2⟩
                    case measure => simp [intOf]; omega
                  · have hk3 : k = near + (t3 : Int) % 6 := by omega
                    go_wp2
                    go_meet
                    case rel => exact ⟨O, by rw [hcame.out (by omega), hn1.out, ← hk3]; exact hs.out.mono (by omega), hx.out, hb.out, e1⟩
              all_goals
                have hc1 : cameF C f d = fun j t => C j t || (decide (j = near) && decide (t = b9.data.toList)) := by
                  unfold cameF; rw [if_pos (by rw [ht1]; omega), ht2, hn0e, hne, hb9, ht3]
                replace hc1 := toHid hc1
                have hs9 : b9.size ≤ maxLen := len_bytes hb9 (textF_len _) (by omega)
                have hl := hst.out.lookO (mt := 30) (e := 36) rfl rfl (by rfl) (k := near) (wfI (by omega) (by omega))
                cases hO : O near with
                | some b =>
                  rw [hO] at hl
                  obtain ⟨w2, hrun2, hs2, hT2⟩ := hst.out.come (mt := 36) (e := 4) rfl rfl (by omega) hO hs9
                  have mp := (hst.out.im near b hO).2.at
                  have mp' := (hs2.im near b hO).2.at
                  have hlt := (hst.out.im near b hO).1
                  replace hs2 := toHid hs2
                  go_wp2
                  go_simp
                  rename_i K9 hK9
                  refine hK9 _ _ ?_
                  clear hK9 K9
                  (try simp only [Act.put, Option.isNone_none, Option.isNone_some, List.setIfInBounds_toArray, List.set_cons_zero, List.set_cons_succ])
                  go_wp2
                  go_meet
                  case rel => exact ⟨O, by rw [hc1.out, hnote.out (by omega)]; exact hs2.out.mono (by omega), hxb.out.turned mp mp' hT2, hbw1.out.trans (mapTurned_below hT2 (by omega)), cell_turned e1 mp hT2⟩
                | none =>
                  rw [hO] at hl
                  have hmk3 : ∀ wx, (Instr.makeMap 36 none).run Go.Proofs.Try.prog wx = .ok (.map (some wx.heap.size)) (wx.alloc (.map #[] 0)) := fun wx => run_makeMap 36 wx
                  obtain ⟨w2, hrun2, hs2, hT2⟩ := hst.out.make (mt := 30) (e := 36) rfl rfl (by omega) hO (wfI (by omega) (by omega))
                  have hl2 := hs2.lookO (mt := 30) (e := 36) rfl rfl (by rfl) (k := near) (wfI (by omega) (by omega))
                  rw [if_pos rfl] at hl2
                  obtain ⟨w3, hrun3, hs3, hT3⟩ := hs2.come (mt := 36) (e := 4) rfl rfl (by omega) (if_pos rfl) hs9
                  have ba := (Below.refl _ wc).alloc (Nat.le_refl _) (.map #[] 0)
                  have mp := (hst.out.below ba).om.at
                  have mp' := hs2.om.at
                  have mq := (hs2.im near _ (if_pos rfl)).2.at
                  have mq' := (hs3.im near _ (if_pos rfl)).2.at
                  have hsz := hst.out.nm.lt
                  have hx3 := ((hxb.out.below ba).turned mp mp' hT2).turned mq mq' hT3
                  have he3 := cell_turned (cell_turned (cellBelow ba (Nat.le_refl _) e1) mp hT2) mq hT3
                  have hb3 := (hbw1.out.trans (ba.mono hbw1.out.size)).trans ((mapTurned_below hT2 (by omega)).trans (mapTurned_below hT3 (by omega)))
                  replace hs2 := toHid hs2
                  replace hs3 := toHid hs3
                  replace hx3 := toHid hx3
                  replace hb3 := toHid hb3
                  replace he3 := toHid he3
                  go_wp2
                  go_simp
                  rename_i K9 hK9
                  refine hK9 _ _ ?_
                  clear hK9 K9
                  (try simp only [Act.put, Option.isNone_none, Option.isNone_some, List.setIfInBounds_toArray, List.set_cons_zero, List.set_cons_succ])
                  go_wp2
                  go_meet
                  case rel => exact ⟨_, by rw [hc1.out, hnote.out (by omega)]; exact hs3.out.mono (by omega), hx3.out, hb3.out, he3.out⟩
            case rest =>
              obtain ⟨O', hst2, hxb2, hbw2, e1'⟩ := hcut
              clear e1 e3 hst hxb hbw1
              obtain ⟨a0, g0, y0', a1, g1, y1', a2, g2, y2', hxr, rx0, rx1, rx2⟩ := hxb2
              obtain ⟨hlx, hevs⟩ := evs_of rx2
              subst hlx
              obtain ⟨q0', m0', k0', q1', m1', k1', q2', m2', k2', hbox2, r0, r1, r2⟩ := hst2.box
              have hlf := (evs_of r2).1
              subst hlf
              clear r0 r1 r2
              have d4 := boxAt hxr 4 rfl
              have b4 := boxAt hbox2 4 rfl
              have hlt : ¬ ((x.2.2.2.2.1.length : Nat) : Int) < ((f.2.2.2.2.1.length : Nat) : Int) := by omega
              replace hst2 := toHid hst2
              replace hxr := toHid hxr
              replace rx0 := toHid rx0
              replace rx1 := toHid rx1
              replace rx2 := toHid rx2
              replace hbw2 := toHid hbw2
              replace hevs := toHid hevs
              clear hbox2
              go_wp2
              go_loopw [15] (fun u15 wr3 => ∃ k : Nat, u15 = .int .i64 (k : Int) ∧ f.2.2.2.2.1.length ≤ k ∧ k ≤ x.2.2.2.2.1.length ∧ Below wc.heap.size wc wr3) (fun u15 wr3 => x.2.2.2.2.1.length - (intOf u15).toNat)
              case atStart => exact ⟨_, rfl, Nat.le_refl _, hle, Below.refl _ _⟩
              case round =>
                obtain ⟨k, rfl, hk1, hk2, hb3⟩ := hrel
                replace d4 := cellBelow hb3 (Nat.le_refl _) d4
                have e1 := cellBelow hb3 (Nat.le_refl _) e1'
                clear b4 e1'
                by_cases hk : k < x.2.2.2.2.1.length
                · have hk' : (k : Int) < ((x.2.2.2.2.1.length : Nat) : Int) := by omega
                  obtain ⟨e, he⟩ : ∃ e, x.2.2.2.2.1[k]? = some e := ⟨_, List.getElem?_eq_getElem hk⟩
                  have hE := hev.out e (by
                    rw [List.mem_iff_getElem?]
                    exact ⟨k - f.2.2.2.2.1.length, by rw [List.getElem?_drop, Nat.add_sub_cancel' hk1]; exact he⟩)
                  obtain ⟨ad', B', O1, sp', bt, rfl, hbt, hA', _, v0, v1, v2, v3, v4⟩ := hevs.out k e he
                  replace v0 := cellBelow hb3 (Nat.le_refl _) v0
                  replace v1 := cellBelow hb3 (Nat.le_refl _) v1
                  replace v2 := cellBelow hb3 (Nat.le_refl _) v2
                  replace v3 := cellBelow hb3 (Nat.le_refl _) v3
                  replace v4 := cellBelow hb3 (Nat.le_refl _) v4
                  obtain ⟨kd, lo, hi9, tx, why⟩ := e
                  obtain ⟨E1, E2, E3, ⟨E4, E5, E6⟩, E7⟩ := hE
                  simp only at E1 E2 E3 E4 E5 E6 E7 hbt v0 v1 v2 v3 v4
                  have hs9 : bt.size ≤ maxLen := len_bytes hbt E7 (by omega)
                  have st3 := hst2.out.below hb3
                  have st4 := st3.below ((Below.refl _ wr).alloc (Nat.le_refl _) (.cells #[.int .i64 kd, .int .i64 lo, .int .i64 hi9, .string bt, .int .i64 why] 38))
                  have l1 := st4.lookO (mt := 30) (e := 36) rfl rfl (by rfl) (k := lo) (wfI (by omega) (by omega))
                  have l2 := st4.lookC (mt := 36) (e := 4) rfl rfl (by rfl) lo hs9
                  rw [hbt] at l2
                  replace st3 := toHid st3
                  replace st4 := toHid st4
                  replace hb3 := toHid hb3
                  replace E1 := toHid E1
                  replace E2 := toHid E2
                  replace E3 := toHid E3
                  replace he := toHid he
                  clear hs9 E7 hlt
                  have y0 := cellNew wr _ rfl #[.int .i64 kd, .int .i64 lo, .int .i64 hi9, .string bt, .int .i64 why] 38 0 _ rfl
                  have y1 := cellNew wr _ rfl #[.int .i64 kd, .int .i64 lo, .int .i64 hi9, .string bt, .int .i64 why] 38 1 _ rfl
                  have y2 := cellNew wr _ rfl #[.int .i64 kd, .int .i64 lo, .int .i64 hi9, .string bt, .int .i64 why] 38 2 _ rfl
                  have y3 := cellNew wr _ rfl #[.int .i64 kd, .int .i64 lo, .int .i64 hi9, .string bt, .int .i64 why] 38 3 _ rfl
                  have y4 := cellNew wr _ rfl #[.int .i64 kd, .int .i64 lo, .int .i64 hi9, .string bt, .int .i64 why] 38 4 _ rfl
                  have e1o := cellOld (.cells #[.int .i64 kd, .int .i64 lo, .int .i64 hi9, .string bt, .int .i64 why] 38) e1
                  have d4o := cellOld (.cells #[.int .i64 kd, .int .i64 lo, .int .i64 hi9, .string bt, .int .i64 why] 38) d4
                  go_upto_region 35 with fail
                  go_cut [182] from 138 to 181 (fun s182 wq => s182 = .bool false ∧ wq = wr.alloc (.cells #[.int .i64 kd, .int .i64 lo, .int .i64 hi9, .string bt, .int .i64 why] 38))
                  case first =>
                    by_cases K1 : kd = 1
                    · have E1' := E1.out K1
                      rw [E1'] at l2
                      subst K1
                      go_wp2
                      go_meet
                      case rel => exact ⟨rfl, rfl⟩
                    · have K1f : (kd == 1) = false := by simp [K1]
                      by_cases K2 : kd = 2
                      · by_cases K3 : why = 2
                        · obtain ⟨T3, D34⟩ := E2.out K2 K3
                          rw [ht1] at D34
                          subst K2
                          subst K3
                          rcases D34 with q | q
                          · go_wp2
                            go_meet
                            case rel => exact ⟨rfl, rfl⟩
                          · go_wp2
                            go_meet
                            case rel => exact ⟨rfl, rfl⟩
                        · have K3f : (why == 2) = false := by simp [K3]
                          subst K2
                          go_wp2
                          go_meet
                          case rel => exact ⟨rfl, rfl⟩
                      · have K2f : (kd == 2) = false := by simp [K2]
                        go_wp2
                        go_meet
                        case rel => exact ⟨rfl, rfl⟩
                  case rest =>
                    obtain ⟨rfl, rfl⟩ := hcut
                    have hb4 : Below _ _ _ := hb3.out.alloc hb3.out.size (.cells #[.int .i64 kd, .int .i64 lo, .int .i64 hi9, .string bt, .int .i64 why] 38)
                    clear l1 l2 v0 v1 v2 v3 v4 hA' e1 d4 e1o y1 y3
                    replace hb4 := toHid hb4
                    go_wp2
                    go_loopw [17] (fun u17 wr4 => ∃ n : Int, u17 = .int .i64 n ∧ lo ≤ n ∧ (n = lo ∨ n ≤ hi9 + 1) ∧ wr4 = wr.alloc (.cells #[.int .i64 kd, .int .i64 lo, .int .i64 hi9, .string bt, .int .i64 why] 38)) (fun u17 wr4 => (hi9 + 1 - intOf u17).toNat)
                    case atStart => exact ⟨lo, rfl, Int.le_refl _, .inl rfl, rfl⟩
                    case round =>
                      obtain ⟨n, rfl, hn1, hn2, rfl⟩ := hrel
                      by_cases hc : n ≤ hi9
                      · by_cases K2 : kd = 2
                        · by_cases K3 : why = 1
                          · have l3 := st4.out.lookN (mt := 31) (e := 4) rfl rfl (by rfl) (k := n) (wfI (by omega) (by omega))
                            rw [E3.out K2 K3 n hn1 hc] at l3
                            subst K2
                            subst K3
                            go_wp2
                            go_roundw
                            case rel => exact ⟨n + 1, rfl, by omega, .inr (by omega), by first | rfl | trivial⟩
                            case measure => simp [intOf]; omega
                          · have K3f : (why == 1) = false := by simp [K3]
                            subst K2
                            go_wp2
                            go_roundw
                            case rel => exact ⟨k + 1, by first | rfl | simp, by omega, by omega, hb4.out⟩
                            case measure =>
                              show _ - ((k : Int) + 1).toNat < _ - ((k : Int)).toNat
                              omega
                        · have K2f : (kd == 2) = false := by simp [K2]
                          go_wp2
                          go_roundw
                          case rel => exact ⟨k + 1, by first | rfl | simp, by omega, by omega, hb4.out⟩
                          case measure =>
                            show _ - ((k : Int) + 1).toNat < _ - ((k : Int)).toNat
                            omega
                      · have hc' : hi9 < n := by omega
                        go_wp2
                        go_roundw
                        case rel => exact ⟨k + 1, by first | rfl | simp, by omega, by omega, hb4.out⟩
                        case measure =>
                          show _ - ((k : Int) + 1).toNat < _ - ((k : Int)).toNat
                          omega
                · have hk3 : k = x.2.2.2.2.1.length := by omega
                  have st3 := hst2.out.below hb3
                  have mn : ∀ p, FtR wc w1.heap.size p → FtR wr w1.heap.size p ∧ wr.cell? p = wc.cell? p := fun p hp => ⟨⟨Nat.lt_of_lt_of_le hp.1 hb3.size, hp.2⟩, hb3.cell hp.1⟩
                  have r0 := rx0.out.mono mn
                  have r1 := rx1.out.mono mn
                  have r2 := rx2.out.mono mn
                  have xr := range_below hxr.out hb3
                  have x0 := boxAt xr 0 rfl
                  have x1 := boxAt xr 1 rfl
                  have x2 := boxAt xr 2 rfl
                  have x3 := boxAt xr 3 rfl
                  have x4 := boxAt xr 4 rfl
                  have x5 := boxAt xr 5 rfl
                  have x6 := boxAt xr 6 rfl
                  obtain ⟨q0'', m0'', k0'', q1'', m1'', k1'', q2'', m2'', k2'', br, _⟩ := st3.box
                  have z0 := boxAt br 0 rfl
                  have z1' := boxAt br 1 rfl
                  have z2 := boxAt br 2 rfl
                  have z3 := boxAt br 3 rfl
                  have z4 := boxAt br 4 rfl
                  have z5 := boxAt br 5 rfl
                  have z6 := boxAt br 6 rfl
                  have w0 := (st3.thr 0 (by omega)).2
                  have w1' := (st3.thr 1 (by omega)).2
                  have w2 := (st3.thr 2 (by omega)).2
                  have w3 := (st3.thr 3 (by omega)).2
                  have w4 := (st3.thr 4 (by omega)).2
                  have w5 := (st3.thr 5 (by omega)).2
                  have w6 := (st3.thr 6 (by omega)).2
                  simp only [Nat.zero_add, Nat.add_zero] at w0 w1' w2 w3 w4 w5 w6
                  have sN := st3.feed r0 r1 r2
                  have bN := below_setCells (Nat.le_refl w1.heap.size) [.int .i64 x.1, .int .i64 x.2.1, .slice a0 g0 y0', .slice a1 g1 y1', .slice a2 x.2.2.2.2.1.length y2', .int .i64 x.2.2.2.2.2.1, .int .i64 x.2.2.2.2.2.2] 0 wr (hbw2.out.trans (hb3.mono hbw2.out.size))
                  clear br xr
                  replace st3 := toHid st3
                  replace r0 := toHid r0
                  replace r1 := toHid r1
                  replace r2 := toHid r2
                  replace hb3 := toHid hb3
                  replace sN := toHid sN
                  replace bN := toHid bN
                  clear mn
                  go_wp2
                  refine ⟨⟨i + 1, now + (t3 : Int) % 4, x, O', cameF C f d, notedF N f d, rfl, by first | rfl | simp, by omega, by omega, by omega, ?_, ?_, bN.out⟩, ?_⟩
                  · rw [← ht3]; exact hok.out
                  · exact sN.out.mono (by omega)
                  · show _ - ((i : Int) + 1).toNat < _ - ((i : Int)).toNat
                    omega
    · have hi3 : ¬ (i : Int) < (l.length : Int) := by omega
      go_wp2
      go_ret
      exact ⟨rfl, hb1.trans (hbw.mono hb1.size)⟩
end Go.Abs
