/- The values, objects and states of an abstract machine beside the model's own, and how they stand to it. -/
import Derived.Orders
import Derived.Below
import Derived.Laws.Rows
import Derived.Laws.Append
import Derived.MapKept
namespace Go.Abs
open Go.RowKit
set_option linter.unusedVariables false
set_option linter.unusedSimpArgs false

/-- Types of values that Lean's own values stand for. -/
inductive Ty where
  | int (k : IntKind)
  | bool
  | str
  | list (e : Ty)
  | unit
  | pair (a b : Ty)
  | agg (t : Ty)
  | alt (t : Nat) (a r : Ty)
  | alt1 (t : Nat) (a : Ty)
  | inil
  deriving DecidableEq
@[reducible] def Ty.I : Ty → Type
  | .int _ => Int
  | .bool => Bool
  | .str => List UInt8
  | .list e => List e.I
  | .unit => Unit
  | .pair a b => a.I × b.I
  | .agg t => t.I
  | .alt _ a r => a.I ⊕ r.I
  | .alt1 _ a => a.I
  | .inil => Unit

structure TL where
  e : Ty
  l : List e.I
/-- What a map of numbers has. -/
structure TM where
  e : Ty
  l : List (Int × e.I)
structure TX where
  e : Ty
  x : e.I

def Ty.size : Ty → Nat
  | .int _ | .bool | .str | .list _ => 1
  | .unit => 0
  | .pair a b => a.size + b.size
  | .agg t => t.size
  | .alt _ _ _ | .alt1 _ _ | .inil => 1

inductive V where
  | undef
  | bool (b : Bool)
  | int (k : IntKind) (n : Int)
  | str (s : List UInt8)
  | snil
  | sl (n : Nat) (cells : List V)
  | cref (cells : List V)
  | own (t g off n : Nat)
  | ptr (t g off : Nat)
  | pnil
  | agg (cs : List V)
  | tup (vs : List V)
  | ifc (t : Nat) (v : V)
  | inil
  | fn (f : Nat) (caps : List V)
  | fnil
  | lst (L : TL)
  | eref (X : TX) (off : Nat)
  | eptr (t g sz i off : Nat)
  | acc (t g : Nat)
  | bs (b : Bool)
  | sz
  | nl (L : TL)
  | si (X : TX)
  | nwin (t g off n : Nat)
  | mp (t g : Nat)

/-- Cells as one value. -/
def vOf : Ty → List V → V
  | .agg _, cs => .agg cs
  | _, cs => cs.headD .pnil
/-- A value's cells, lists as their cells. -/
def cellsV : (t : Ty) → t.I → List V
  | .int k, n => [.int k n]
  | .bool, b => [.bool b]
  | .str, s => [.str s]
  | .list e, l => [.sl l.length (l.flatMap (cellsV e))]
  | .unit, _ => []
  | .pair a b, x => cellsV a x.1 ++ cellsV b x.2
  | .agg t, x => cellsV t x
  | .alt t a r, x => match x with
    | .inl y => [.ifc t (vOf a (cellsV a y))]
    | .inr z => [(cellsV r z).headD .pnil]
  | .alt1 t a, x => [.ifc t (vOf a (cellsV a x))]
  | .inil, _ => [.inil]
def Ty.dflt : (t : Ty) → t.I
  | .int _ => (0 : Int)
  | .bool => false
  | .str => ([] : List UInt8)
  | .list _ => []
  | .unit => ()
  | .pair a b => (a.dflt, b.dflt)
  | .agg t => t.dflt
  | .alt _ a _ => .inl a.dflt
  | .alt1 _ a => a.dflt
  | .inil => ()
/-- The same, lists as lists. -/
def cellsW : (t : Ty) → t.I → List V
  | .int k, n => [.int k n]
  | .bool, b => [.bs b]
  | .str, s => [.str s]
  | .list e, l => [.lst ⟨e, l⟩]
  | .unit, _ => []
  | .pair a b, x => cellsW a x.1 ++ cellsW b x.2
  | .agg t, x => cellsW t x
  | .alt t a r, x => [.si ⟨.alt t a r, x⟩]
  | .alt1 t a, x => [.ifc t (vOf a (cellsW a x))]
  | .inil, _ => [.inil]
def valW : (t : Ty) → t.I → V
  | .int k, n => .int k n
  | .bool, b => .bs b
  | .str, s => .str s
  | .list e, l => .lst ⟨e, l⟩
  | .agg t, x => .agg (cellsW t x)
  | .alt t a r, x => .si ⟨.alt t a r, x⟩
  | .alt1 t a, x => .ifc t (vOf a (cellsW a x))
  | .inil, _ => .inil
  | _, _ => .undef
theorem cellsV_length : ∀ (t : Ty) (x : t.I), (cellsV t x).length = t.size
  | .int _, _ | .bool, _ | .str, _ | .list _, _ | .unit, _ => rfl
  | .pair a b, x => by simp [cellsV, Ty.size, cellsV_length a x.1, cellsV_length b x.2]
  | .agg t, x => cellsV_length t x
  | .alt _ _ _, x => by cases x <;> rfl
  | .alt1 _ _, _ | .inil, _ => rfl
def TL.cells (L : TL) : List V := L.l.flatMap (cellsV L.e)
theorem flat_length (e : Ty) : ∀ l : List e.I, (l.flatMap (cellsV e)).length = l.length * e.size
  | [] => by simp
  | x :: r => by simp only [List.flatMap_cons, List.length_append, List.length_cons, cellsV_length, flat_length e r, Nat.succ_mul]; omega
theorem TL.cells_length (L : TL) : L.cells.length = L.l.length * L.e.size := flat_length L.e L.l

def V.cells : V → List V
  | .agg cs => cs
  | v => [v]
/-- One cell, for sure. -/
def V.cellOk : V → Bool
  | .agg _ | .tup _ | .undef => false
  | _ => true

inductive OK where
  | dead
  | box (ty : Nat) (cs : List V)
  | row (ty sz : Nat) (fz : Bool) (cs : List V)
  | iter (s : List UInt8) (pos : Nat)
  | nrow (ty : Nat) (fz nl : Bool) (L : TL)
  | mp (M : TM)

structure Ob where
  gen : Nat
  k : OK

def aget {α : Type} (d : α) : List (Nat × α) → Nat → α
  | [], _ => d
  | (k, v) :: r, t => if k = t then v else aget d r t
def aput {α : Type} (t : Nat) (v : α) : List (Nat × α) → List (Nat × α)
  | [] => [(t, v)]
  | (k, x) :: r => if k = t then (t, v) :: r else (k, x) :: aput t v r

theorem aget_aput {α : Type} (d v : α) (t u : Nat) : ∀ l : List (Nat × α), aget d (aput t v l) u = if t = u then v else aget d l u
  | [] => by simp [aput, aget]
  | (k, x) :: r => by
    by_cases hk : k = t
    · subst hk; by_cases hu : k = u <;> simp [aput, aget, hu]
    · by_cases hu : k = u
      · subst hu; simp [aput, aget, hk, Ne.symm hk]
      · simp [aput, aget, hk, hu, aget_aput d v t u r]

abbrev Tab := List (Nat × Ob)
def Tab.get (T : Tab) (t : Nat) : Ob := aget ⟨0, .dead⟩ T t
def Tab.put (T : Tab) (t : Nat) (o : Ob) : Tab := aput t o T
theorem Tab.get_put (T : Tab) (t u : Nat) (o : Ob) : (T.put t o).get u = if t = u then o else T.get u := aget_aput _ _ _ _ _

def OK.live : OK → Prop
  | .dead => False
  | .nrow _ _ nl L => ¬ (nl = true ∧ L.l = [])
  | _ => True
def Tab.live (T : Tab) (t : Nat) : Prop := (T.get t).k.live

/-- The cells of an object that nobody writes any more: those of a row that was handed on. -/
def OK.fzAt : OK → Nat → Prop
  | .row _ _ true cs, o => o < cs.length
  | .nrow _ true _ L, o => o < L.l.length * L.e.size
  | _, _ => False
/-- Which cells nobody writes: they were there, are of those that one may know of, and are none of the machine's own objects', or of a row's that was handed on. -/
def Stable (D : Addr → Prop) (T : Tab) (ι : Nat → Nat) (w : World) (p : Addr) : Prop :=
  D p ∧ p.block < w.heap.size ∧ ∀ t, T.live t → ι t = p.block → (T.get t).k.fzAt p.off

/-- A value that leads to no object of the machine's own. -/
inductive Rp (S : Addr → Prop) (w : World) : V → Value → Prop
  | bool (b) : Rp S w (.bool b) (.bool b)
  | int (k n) : Rp S w (.int k n) (.int k n)
  | str (b : ByteArray) (s : List UInt8) (h : b.data.toList = s) : Rp S w (.str s) (.string b)
  | snil : Rp S w .snil (.slice none 0 0)
  | sl {n : Nat} {cells : List V} {a : Addr} {c : Nat} {vs : List Value} (hc : n ≤ c)
      (hm : ∀ (i : Nat) (u : Value), vs[i]? = some u → S (a.add i) ∧ w.cell? (a.add i) = some u) (hl : cells.length = vs.length)
      (h : ∀ (i : Nat) (d : V) (u : Value), cells[i]? = some d → vs[i]? = some u → Rp S w d u) : Rp S w (.sl n cells) (.slice (some a) n c)
  | slz : Rp S w (.sl 0 []) (.slice none 0 0)
  | sz {p : Option Addr} : Rp S w .sz (.slice p 0 0)
  | bs {b : Bool} {v : Value} (h : Rp S w (.bool b) v) : Rp S w (.bs b) v
  | lst {L : TL} {v : Value} (h : Rp S w (.sl L.l.length L.cells) v) : Rp S w (.lst L) v
  | nl {L : TL} {a : Addr} {len cap : Nat} (h : Rp S w (.lst L) (.slice (some a) len cap)) : Rp S w (.nl L) (.slice (some a) len cap)
  | si {X : TX} {v : Value} (h : Rp S w ((cellsV X.e X.x).headD .pnil) v) : Rp S w (.si X) v
  | eref {X : TX} {off : Nat} {v : Value} (h : Rp S w (.cref ((cellsV X.e X.x).drop off)) v) : Rp S w (.eref X off) v
  | cref {cells : List V} {a : Addr} {vs : List Value}
      (hm : ∀ (i : Nat) (u : Value), vs[i]? = some u → S (a.add i) ∧ w.cell? (a.add i) = some u) (hl : cells.length = vs.length)
      (h : ∀ (i : Nat) (d : V) (u : Value), cells[i]? = some d → vs[i]? = some u → Rp S w d u) : Rp S w (.cref cells) (.pointer (some a))
  | pnil : Rp S w .pnil (.pointer none)
  | agg {cs : List V} {vs : List Value} (hl : cs.length = vs.length) (h : ∀ (i : Nat) (d : V) (u : Value), cs[i]? = some d → vs[i]? = some u → Rp S w d u) :
      Rp S w (.agg cs) (.agg ⟨vs⟩)
  | tup {cs : List V} {vs : List Value} (hl : cs.length = vs.length) (h : ∀ (i : Nat) (d : V) (u : Value), cs[i]? = some d → vs[i]? = some u → Rp S w d u) :
      Rp S w (.tup cs) (.tuple ⟨vs⟩)
  | ifc {t : Nat} {d : V} {u : Value} (h : Rp S w d u) : Rp S w (.ifc t d) (.iface t u)
  | inil : Rp S w .inil .nilIface
  | fn {f : Nat} {cs : List V} {vs : List Value} (hl : cs.length = vs.length) (h : ∀ (i : Nat) (d : V) (u : Value), cs[i]? = some d → vs[i]? = some u → Rp S w d u) :
      Rp S w (.fn f cs) (.func (.func f) #[] ⟨vs⟩)
  | fnil : Rp S w .fnil .nilFunc

/-- A window onto a row of the machine's own. -/
def Own (w : World) (b sz off n : Nat) (v : Value) : Prop :=
  ∃ a c cap arr ty fz, v = .slice (some a) n c ∧ a.block = b ∧ w.heap[b]? = some (.cells arr ty fz) ∧ arr.size = cap * sz ∧ off + n ≤ cap ∧ off + c = cap ∧
    (c ≠ 0 → a = ⟨b, off * sz, none⟩)

inductive Rv (T : Tab) (ι : Nat → Nat) (S : Addr → Prop) (w : World) : V → Value → Prop
  | pure {d : V} {v : Value} (h : Rp S w d v) : Rv T ι S w d v
  | undef (v : Value) : Rv T ι S w .undef v
  | own {t g off n : Nat} {v : Value} (hv : ∃ a c, v = .slice (some a) n c) (hg : g ≤ (T.get t).gen) (h : ∀ ty sz fz cs, T.get t = ⟨g, .row ty sz fz cs⟩ → Own w (ι t) sz off n v) :
      Rv T ι S w (.own t g off n) v
  | ptr {t g off : Nat} {v : Value} (hv : ∃ a, v = .pointer (some a)) (hg : g ≤ (T.get t).gen) (h : (T.get t).gen = g → T.live t → v = .pointer (some ⟨ι t, off, none⟩)) :
      Rv T ι S w (.ptr t g off) v
  | acc {t g : Nat} {v : Value} (hv : ∃ p n c, v = .slice p n c) (hg : g ≤ (T.get t).gen)
      (h : ∀ ty fz nl L, T.get t = ⟨g, .nrow ty fz nl L⟩ → (nl = true ∧ L.l = [] ∧ ∃ p, v = .slice p 0 0) ∨ (¬ (nl = true ∧ L.l = []) ∧ Own w (ι t) L.e.size 0 L.l.length v)) :
      Rv T ι S w (.acc t g) v
  | eptr {t g sz i off : Nat} {v : Value} (hv : ∃ a, v = .pointer (some a)) (hg : g ≤ (T.get t).gen)
      (h : ∀ ty fz nl L, T.get t = ⟨g, .nrow ty fz nl L⟩ → sz = L.e.size ∧ i < L.l.length ∧ v = .pointer (some ⟨ι t, i * sz + off, none⟩)) : Rv T ι S w (.eptr t g sz i off) v
  | nwin {t g off n : Nat} {v : Value} (hv : ∃ p n c, v = .slice p n c) (hg : g ≤ (T.get t).gen)
      (h : ∀ ty fz nl L, T.get t = ⟨g, .nrow ty fz nl L⟩ → off + n ≤ L.l.length ∧ ((nl = true ∧ L.l = [] ∧ ∃ p, v = .slice p 0 0) ∨ (¬ (nl = true ∧ L.l = []) ∧ Own w (ι t) L.e.size off n v))) :
      Rv T ι S w (.nwin t g off n) v
  | mp {t g : Nat} {v : Value} (hv : ∃ r, v = .map (some r)) (hg : g ≤ (T.get t).gen) (h : (T.get t).gen = g → T.live t → v = .map (some (ι t))) : Rv T ι S w (.mp t g) v
  | agg {cs : List V} {vs : List Value} (hl : cs.length = vs.length) (h : ∀ (i : Nat) (d : V) (u : Value), cs[i]? = some d → vs[i]? = some u → Rv T ι S w d u) :
      Rv T ι S w (.agg cs) (.agg ⟨vs⟩)
  | tup {cs : List V} {vs : List Value} (hl : cs.length = vs.length) (h : ∀ (i : Nat) (d : V) (u : Value), cs[i]? = some d → vs[i]? = some u → Rv T ι S w d u) :
      Rv T ι S w (.tup cs) (.tuple ⟨vs⟩)
  | ifc {t : Nat} {d : V} {u : Value} (h : Rv T ι S w d u) : Rv T ι S w (.ifc t d) (.iface t u)
  | fn {f : Nat} {cs : List V} {vs : List Value} (hl : cs.length = vs.length) (h : ∀ (i : Nat) (d : V) (u : Value), cs[i]? = some d → vs[i]? = some u → Rv T ι S w d u) :
      Rv T ι S w (.fn f cs) (.func (.func f) #[] ⟨vs⟩)

/-- What an object is in memory. -/
def ObRel (T : Tab) (ι : Nat → Nat) (S : Addr → Prop) (w : World) (b : Nat) : OK → Prop
  | .dead => True
  | .box ty cs => ∃ arr fz, w.heap[b]? = some (.cells arr ty fz) ∧ (∀ i, i < arr.size → ¬ (fz.1 ≤ i ∧ i < fz.2)) ∧ arr.size = cs.length ∧
      ∀ (i : Nat) (d : V) (u : Value), cs[i]? = some d → arr.toList[i]? = some u → Rv T ι S w d u
  | .row ty sz _ cs => ∃ arr fz cap, w.heap[b]? = some (.cells arr ty fz) ∧ (∀ i, (i < arr.size ∨ (sz ≠ 1 ∧ i ≤ arr.size)) → ¬ (fz.1 ≤ i ∧ i < fz.2)) ∧ arr.size = cap * sz ∧ 0 < sz ∧
      cs.length ≤ arr.size ∧ ∀ (i : Nat) (d : V) (u : Value), cs[i]? = some d → arr.toList[i]? = some u → Rv T ι S w d u
  | .iter s pos => w.heap[b]? = some (.stringIter ⟨⟨s⟩⟩ pos)
  | .mp M => ∃ es clock, w.heap[b]? = some (.map es clock) ∧ es.size = M.l.length ∧ ∀ (i : Nat) (p : Int × M.e.I) (x : MapEntry), M.l[i]? = some p → es.toList[i]? = some x →
      x.key = .int .i64 p.1 ∧ Rp S w (vOf M.e (cellsV M.e p.2)) x.val
  | .nrow ty _ nl L => (nl = true ∧ L.l = []) ∨ ∃ arr fz cap, w.heap[b]? = some (.cells arr ty fz) ∧ (∀ i, (i < arr.size ∨ (L.e.size ≠ 1 ∧ i ≤ arr.size)) → ¬ (fz.1 ≤ i ∧ i < fz.2)) ∧ arr.size = cap * L.e.size ∧ 0 < L.e.size ∧
      L.cells.length ≤ arr.size ∧ ∀ (i : Nat) (d : V) (u : Value), L.cells[i]? = some d → arr.toList[i]? = some u → Rv T ι S w d u

structure TR (D : Addr → Prop) (T : Tab) (ι : Nat → Nat) (w : World) : Prop where
  ob : ∀ t, ObRel T ι (Stable D T ι w) w (ι t) (T.get t).k
  inj : ∀ t u, T.live t → T.live u → ι t = ι u → t = u
  lt : ∀ t, T.live t → ι t < w.heap.size

/-- Rows of cells stay as long as they are. -/
def Shape (w w' : World) (k : Nat) : Prop := ∀ arr ty fz, w.heap[k]? = some (.cells arr ty fz) → ∃ arr' ty' fz', w'.heap[k]? = some (.cells arr' ty' fz') ∧ arr'.size = arr.size
theorem Shape.same {w w' : World} {k : Nat} (h : w'.heap[k]? = w.heap[k]?) : Shape w w' k := fun arr ty fz e => ⟨arr, ty, fz, h.trans e, rfl⟩
theorem Shape.of {w w' : World} {k ty ty' : Nat} {arr arr' : Array Value} {fz fz' : Nat × Nat} (h : w.heap[k]? = some (.cells arr ty fz)) (h' : w'.heap[k]? = some (.cells arr' ty' fz')) (hs : arr'.size = arr.size) : Shape w w' k :=
  fun a t f e => by rw [h] at e; injection e with e; injection e with e1 e2 e3; subst e1; exact ⟨_, _, _, h', hs⟩
theorem Shape.trans {a b c : World} {k : Nat} (h : Shape a b k) (h' : Shape b c k) : Shape a c k := fun arr ty fz e => by
  obtain ⟨a1, t1, f1, e1, s1⟩ := h arr ty fz e
  obtain ⟨a2, t2, f2, e2, s2⟩ := h' a1 t1 f1 e1
  exact ⟨a2, t2, f2, e2, s2.trans s1⟩
/-- Nothing that was there has turned, but perhaps the blocks X. -/
structure Kept (X : Nat → Prop) (w w' : World) : Prop where
  os : w'.os = w.os
  tape : w'.tape = w.tape
  output : w'.output = w.output
  size : w.heap.size ≤ w'.heap.size
  block : ∀ k, k < w.heap.size → ¬ X k → w'.heap[k]? = w.heap[k]?
  shape : ∀ k, k < w.heap.size → Shape w w' k

theorem Kept.refl (X : Nat → Prop) (w : World) : Kept X w w := ⟨rfl, rfl, rfl, Nat.le_refl _, fun _ _ _ => rfl, fun _ _ => .same rfl⟩
theorem Kept.trans {X : Nat → Prop} {a b c : World} (h : Kept X a b) (k : Kept X b c) : Kept X a c :=
  ⟨k.os.trans h.os, k.tape.trans h.tape, k.output.trans h.output, Nat.le_trans h.size k.size, fun i hi hx => (k.block i (Nat.lt_of_lt_of_le hi h.size) hx).trans (h.block i hi hx), fun i hi => (h.shape i hi).trans (k.shape i (Nat.lt_of_lt_of_le hi h.size))⟩
theorem Kept.mono {X Y : Nat → Prop} {a b : World} (h : Kept X a b) (hxy : ∀ k, k < a.heap.size → X k → Y k) : Kept Y a b :=
  ⟨h.os, h.tape, h.output, h.size, fun i hi hy => h.block i hi (fun hx => hy (hxy i hi hx)), h.shape⟩
theorem Kept.below {w w' : World} (h : Kept (fun _ => False) w w') : Below w.heap.size w w' :=
  ⟨h.os, h.tape, h.output, h.size, fun k hk => h.block k hk id⟩
/-- A step that may write the blocks Y: those that were there are X, or were not there when all began. -/
theorem Kept.then {X Y : Nat → Prop} {a b c : World} (h : Kept X a b) (k : Kept Y b c) (hy : ∀ i, i < b.heap.size → Y i → a.heap.size ≤ i ∨ X i) : Kept X a c :=
  ⟨k.os.trans h.os, k.tape.trans h.tape, k.output.trans h.output, Nat.le_trans h.size k.size, fun i hi hx =>
    (k.block i (Nat.lt_of_lt_of_le hi h.size) (fun y => by rcases hy i (Nat.lt_of_lt_of_le hi h.size) y with h1 | h1; exact absurd hi (by omega); exact hx h1)).trans (h.block i hi hx), fun i hi => (h.shape i hi).trans (k.shape i (Nat.lt_of_lt_of_le hi h.size))⟩

theorem cell_congr {w w' : World} {a : Addr} (h : w'.heap[a.block]? = w.heap[a.block]?) : w'.cell? a = w.cell? a := World.cell?_of_block h
theorem block_add (a : Addr) (n : Nat) : (a.add n).block = a.block := by unfold Addr.add; split <;> rfl
theorem add_add (a : Addr) (i j : Nat) : (a.add i).add j = a.add (i + j) := by
  unfold Addr.add
  by_cases hi : i = 0 <;> by_cases hj : j = 0 <;> simp [hi, hj, Nat.add_assoc]

theorem Rp.mono {S S' : Addr → Prop} {w w' : World} (hs : ∀ p, S p → S' p ∧ w'.cell? p = w.cell? p) {d : V} {v : Value} (h : Rp S w d v) : Rp S' w' d v := by
  induction h with
  | bool b => exact .bool b
  | int k n => exact .int k n
  | str b s h => exact .str b s h
  | snil => exact .snil
  | sl hc hm hl h ih => exact .sl hc (fun i u hu => ⟨(hs _ (hm i u hu).1).1, ((hs _ (hm i u hu).1).2).trans (hm i u hu).2⟩) hl ih
  | slz => exact .slz
  | sz => exact .sz
  | nl h ih => exact .nl ih
  | bs h ih => exact .bs ih
  | lst h ih => exact .lst ih
  | si h ih => exact .si ih
  | eref h ih => exact .eref ih
  | cref hm hl h ih => exact .cref (fun i u hu => ⟨(hs _ (hm i u hu).1).1, ((hs _ (hm i u hu).1).2).trans (hm i u hu).2⟩) hl ih
  | pnil => exact .pnil
  | agg hl h ih => exact .agg hl ih
  | tup hl h ih => exact .tup hl ih
  | ifc h ih => exact .ifc ih
  | inil => exact .inil
  | fn hl h ih => exact .fn hl ih
  | fnil => exact .fnil

/-- How the machine may go from one state of memory to another one without turning what a value says. -/
structure Goes (D : Addr → Prop) (T : Tab) (ι : Nat → Nat) (w : World) (T' : Tab) (ι' : Nat → Nat) (w' : World) : Prop where
  st : ∀ p, Stable D T ι w p → Stable D T' ι' w' p ∧ w'.cell? p = w.cell? p
  gen : ∀ t, (T.get t).gen ≤ (T'.get t).gen
  same : ∀ t, T'.live t → (T'.get t).gen = (T.get t).gen → T.live t ∧ ι' t = ι t
  row : ∀ t g ty sz fz' cs', T'.get t = ⟨g, .row ty sz fz' cs'⟩ → (T.get t).gen = g → (∃ ty' fz cs, T.get t = ⟨g, .row ty' sz fz cs⟩) ∧
    ∀ arr ty1 fz, w.heap[ι t]? = some (.cells arr ty1 fz) → ∃ arr' ty2 fz', w'.heap[ι t]? = some (.cells arr' ty2 fz') ∧ arr'.size = arr.size
  nrow : ∀ t g ty fz nl L, T'.get t = ⟨g, .nrow ty fz nl L⟩ → (T.get t).gen = g → (∃ ty0 fz0 nl0 L0, T.get t = ⟨g, .nrow ty0 fz0 nl0 L0⟩ ∧ L0.e = L.e ∧ L0.l.length = L.l.length ∧ nl0 = nl) ∧ (¬ (nl = true ∧ L.l = []) →
    ∀ arr ty1 fz, w.heap[ι t]? = some (.cells arr ty1 fz) → ∃ arr' ty2 fz', w'.heap[ι t]? = some (.cells arr' ty2 fz') ∧ arr'.size = arr.size)

theorem Goes.refl (D : Addr → Prop) (T : Tab) (ι : Nat → Nat) (w : World) : Goes D T ι w T ι w :=
  ⟨fun _ h => ⟨h, rfl⟩, fun _ => Nat.le_refl _, fun _ h _ => ⟨h, rfl⟩, fun t g ty sz fz' cs' h _ => ⟨⟨ty, fz', cs', h⟩, fun arr ty1 fz h => ⟨arr, ty1, fz, h, rfl⟩⟩,
    fun t g ty fz nl L h _ => ⟨⟨ty, fz, nl, L, h, rfl, rfl, rfl⟩, fun _ arr ty1 fz h => ⟨arr, ty1, fz, h, rfl⟩⟩⟩

theorem Rv.mono {D : Addr → Prop} {T T' : Tab} {ι ι' : Nat → Nat} {w w' : World} (H : Goes D T ι w T' ι' w') {d : V} {v : Value}
    (h : Rv T ι (Stable D T ι w) w d v) : Rv T' ι' (Stable D T' ι' w') w' d v := by
  induction h with
  | pure h => exact .pure (h.mono H.st)
  | undef v => exact .undef v
  | @own t g off n v hv hg h =>
    refine .own hv (Nat.le_trans hg (H.gen t)) fun ty sz fz' cs' hT => ?_
    by_cases hgen : (T.get t).gen = g
    · obtain ⟨⟨ty', fz0, cs, hcs⟩, harr⟩ := H.row t g ty sz fz' cs' hT hgen
      have hl : T'.live t := by simp [Tab.live, hT, OK.live]
      obtain ⟨_, hι⟩ := H.same t hl (by rw [hgen, hT])
      obtain ⟨a, c, cap, arr, ty1, fz, rfl, ha, hh, hsz, h1, h2, h3⟩ := h ty' sz fz0 cs hcs
      obtain ⟨arr', ty2, fz', hh', hsz'⟩ := harr arr ty1 fz hh
      rw [hι]
      exact ⟨a, c, cap, arr', ty2, fz', rfl, ha, hh', by omega, h1, h2, h3⟩
    · have h1 := H.gen t
      have h2 : (T'.get t).gen = g := by rw [hT]
      omega
  | @ptr t g off v hv hg h =>
    refine .ptr hv (Nat.le_trans hg (H.gen t)) fun hg' hl => ?_
    have h1 := H.gen t
    have hgen : (T.get t).gen = g := by omega
    obtain ⟨hl', hι⟩ := H.same t hl (by omega)
    rw [hι]
    exact h hgen hl'
  | @acc t g v hv hg h =>
    refine .acc hv (Nat.le_trans hg (H.gen t)) fun ty fz nl L hT => ?_
    by_cases hgen : (T.get t).gen = g
    · obtain ⟨⟨ty0, fz0, nl0, L0, e0, e1, e2, e3⟩, harr⟩ := H.nrow t g ty fz nl L hT hgen
      rcases h _ _ _ _ e0 with ⟨a1, a2, a3⟩ | ⟨hn, ho⟩
      · left
        rw [a2] at e2
        exact ⟨e3 ▸ a1, List.eq_nil_of_length_eq_zero e2.symm, a3⟩
      · have hn' : ¬ (nl = true ∧ L.l = []) := fun ⟨b1, b2⟩ => hn ⟨e3 ▸ b1, List.eq_nil_of_length_eq_zero (by rw [e2, b2]; rfl)⟩
        refine .inr ⟨hn', ?_⟩
        have hl : T'.live t := by simp only [Tab.live, hT, OK.live]; exact hn'
        obtain ⟨_, hι⟩ := H.same t hl (by rw [hgen, hT])
        obtain ⟨a, c, cap, arr, ty1, fz1, rfl, ha, hh, hsz, h1, h2, h3⟩ := ho
        obtain ⟨arr', ty2, fz', hh', hsz'⟩ := harr hn' arr ty1 fz1 hh
        rw [hι]
        exact ⟨a, c, cap, arr', ty2, fz', by rw [e2], ha, hh', by rw [hsz', hsz, e1], by omega, h2, by rw [← e1]; exact h3⟩
    · have h1 := H.gen t
      have h2 : (T'.get t).gen = g := by rw [hT]
      omega
  | @nwin t g off n v hv hg h =>
    refine .nwin hv (Nat.le_trans hg (H.gen t)) fun ty fz nl L hT => ?_
    by_cases hgen : (T.get t).gen = g
    · obtain ⟨⟨ty0, fz0, nl0, L0, e0, e1, e2, e3⟩, harr⟩ := H.nrow t g ty fz nl L hT hgen
      obtain ⟨hle, hh⟩ := h _ _ _ _ e0
      refine ⟨by omega, ?_⟩
      rcases hh with ⟨a1, a2, a3⟩ | ⟨hn, ho⟩
      · left
        rw [a2] at e2
        exact ⟨e3 ▸ a1, List.eq_nil_of_length_eq_zero e2.symm, a3⟩
      · have hn' : ¬ (nl = true ∧ L.l = []) := fun ⟨b1, b2⟩ => hn ⟨e3 ▸ b1, List.eq_nil_of_length_eq_zero (by rw [e2, b2]; rfl)⟩
        refine .inr ⟨hn', ?_⟩
        have hl : T'.live t := by simp only [Tab.live, hT, OK.live]; exact hn'
        obtain ⟨_, hι⟩ := H.same t hl (by rw [hgen, hT])
        obtain ⟨a, c, cap, arr, ty1, fz1, rfl, ha, hh, hsz, h1, h2, h3⟩ := ho
        obtain ⟨arr', ty2, fz', hh', hsz'⟩ := harr hn' arr ty1 fz1 hh
        rw [hι]
        exact ⟨a, c, cap, arr', ty2, fz', rfl, ha, hh', by rw [hsz', hsz, e1], h1, h2, by rw [← e1]; exact h3⟩
    · have h1 := H.gen t
      have h2 : (T'.get t).gen = g := by rw [hT]
      omega
  | @eptr t g sz i off v hv hg h =>
    refine .eptr hv (Nat.le_trans hg (H.gen t)) fun ty fz nl L hT => ?_
    have h1 := H.gen t
    have hgg : (T'.get t).gen = g := by rw [hT]
    have hgen : (T.get t).gen = g := by omega
    obtain ⟨⟨ty0, fz0, nl0, L0, e0, e1, e2, e3⟩, harr⟩ := H.nrow t g ty fz nl L hT hgen
    obtain ⟨a1, a2, a3⟩ := h _ _ _ _ e0
    have hl : T'.live t := by
      simp only [Tab.live, hT, OK.live]
      rintro ⟨_, b⟩
      rw [e2, b] at a2
      simp at a2
    obtain ⟨_, hι⟩ := H.same t hl (by omega)
    rw [hι]
    exact ⟨by rw [a1, e1], by omega, a3⟩
  | @mp t g v hv hg h =>
    refine .mp hv (Nat.le_trans hg (H.gen t)) fun hg' hl => ?_
    have h1 := H.gen t
    have hgen : (T.get t).gen = g := by omega
    obtain ⟨hl', hι⟩ := H.same t hl (by omega)
    rw [hι]
    exact h hgen hl'
  | agg hl h ih => exact .agg hl ih
  | tup hl h ih => exact .tup hl ih
  | ifc h ih => exact .ifc ih
  | fn hl h ih => exact .fn hl ih

/-- One site turns (or none): the general step. -/
theorem Goes.site {D : Addr → Prop} {T : Tab} {ι : Nat → Nat} {w w' : World} (htr : TR D T ι w) (s b : Nat) (o : Ob)
    (hb : (T.live s ∧ b = ι s) ∨ w.heap.size ≤ b) (hw : w.heap.size ≤ w'.heap.size) (hk : ∀ i, i ≠ b → i < w.heap.size → w'.heap[i]? = w.heap[i]?)
    (hgen : (T.get s).gen ≤ o.gen) (hsame : o.gen = (T.get s).gen → o.k.live → T.live s ∧ b = ι s)
    (hfz : b = ι s → T.live s → ∀ p : Addr, p.block = b → (T.get s).k.fzAt p.off → o.k.fzAt p.off ∧ w'.cell? p = w.cell? p)
    (hrow : ∀ ty sz fz' cs', o.k = .row ty sz fz' cs' → o.gen = (T.get s).gen → (∃ ty' fz cs, (T.get s).k = .row ty' sz fz cs) ∧
      ∀ arr ty1 fz, w.heap[b]? = some (.cells arr ty1 fz) → ∃ arr' ty2 fz', w'.heap[b]? = some (.cells arr' ty2 fz') ∧ arr'.size = arr.size)
    (hnrow : ∀ ty fz nl L, o.k = .nrow ty fz nl L → o.gen = (T.get s).gen → (∃ ty0 fz0 nl0 L0, (T.get s).k = .nrow ty0 fz0 nl0 L0 ∧ L0.e = L.e ∧ L0.l.length = L.l.length ∧ nl0 = nl) ∧ (¬ (nl = true ∧ L.l = []) →
      ∀ arr ty1 fz, w.heap[ι s]? = some (.cells arr ty1 fz) → ∃ arr' ty2 fz', w'.heap[ι s]? = some (.cells arr' ty2 fz') ∧ arr'.size = arr.size)) :
    Goes D T ι w (T.put s o) (fun t => if s = t then b else ι t) w' := by
  have notb : ∀ t, t ≠ s → T.live t → ι t ≠ b := by
    intro t hts hl e
    rcases hb with ⟨hs, hb⟩ | hb
    · exact hts (htr.inj t s hl hs (by rw [e, hb]))
    · have := htr.lt t hl; omega
  refine ⟨fun p hp => ?_, fun t => ?_, fun t hl hg => ?_, fun t g ty sz fz' cs' hT hg => ?_, fun t g ty fz nl L hT hg => ?_⟩
  · have hpn : p.block = b → b = ι s ∧ T.live s ∧ (T.get s).k.fzAt p.off := by
      intro e
      rcases hb with ⟨hs, hb⟩ | hb
      · exact ⟨hb, hs, hp.2.2 s hs (by rw [e, hb])⟩
      · have := hp.2.1; omega
    refine ⟨⟨hp.1, by have := hp.2.1; omega, fun t hl => ?_⟩, ?_⟩
    · simp only [Tab.live, Tab.get_put] at hl ⊢
      by_cases hst : s = t
      · subst hst
        simp only [if_true]
        intro e
        obtain ⟨h1, h2, h3⟩ := hpn e.symm
        exact (hfz h1 h2 p e.symm h3).1
      · rw [if_neg hst] at hl
        simp only [if_neg hst]
        exact hp.2.2 t hl
    · by_cases e : p.block = b
      · obtain ⟨h1, h2, h3⟩ := hpn e
        exact (hfz h1 h2 p e h3).2
      · exact cell_congr (hk _ e hp.2.1)
  · rw [Tab.get_put]; split
    · rename_i h; subst h; exact hgen
    · exact Nat.le_refl _
  · simp only [Tab.live, Tab.get_put] at hl hg ⊢
    by_cases hst : s = t
    · subst hst
      simp only [if_true] at hl hg ⊢
      exact hsame hg hl
    · simp only [if_neg hst] at hl ⊢
      exact ⟨hl, trivial⟩
  · rw [Tab.get_put] at hT
    by_cases hst : s = t
    · subst hst
      simp only [if_true] at hT
      have hok : o.k = .row ty sz fz' cs' := by rw [hT]
      have hog : o.gen = (T.get s).gen := by rw [hT, hg]
      obtain ⟨⟨ty', fz0, cs, h1⟩, h2⟩ := hrow ty sz fz' cs' hok hog
      have hbs := (hsame hog (by rw [hok]; trivial)).2
      refine ⟨⟨ty', fz0, cs, ?_⟩, ?_⟩
      · cases hTs : T.get s; rw [hTs] at h1 hg; simp at h1 hg; subst h1 hg; rfl
      · rw [← hbs]; exact h2
    · rw [if_neg hst] at hT
      refine ⟨⟨ty, fz', cs', hT⟩, fun arr ty1 fz h => ?_⟩
      have hl : T.live t := by simp [Tab.live, hT, OK.live]
      rw [hk (ι t) (notb t (Ne.symm hst) hl) (htr.lt t hl)]
      exact ⟨arr, ty1, fz, h, rfl⟩
  · rw [Tab.get_put] at hT
    by_cases hst : s = t
    · subst hst
      simp only [if_true] at hT
      have hok : o.k = .nrow ty fz nl L := by rw [hT]
      have hog : o.gen = (T.get s).gen := by rw [hT, hg]
      obtain ⟨⟨ty0, fz0, nl0, L0, h1, e1, e2, e3⟩, h2⟩ := hnrow ty fz nl L hok hog
      refine ⟨⟨ty0, fz0, nl0, L0, ?_, e1, e2, e3⟩, h2⟩
      cases hTs : T.get s; rw [hTs] at h1 hg; simp at h1 hg; subst h1 hg; rfl
    · rw [if_neg hst] at hT
      refine ⟨⟨ty, fz, nl, L, hT, rfl, rfl, rfl⟩, fun hn arr ty1 fz1 h => ?_⟩
      have hl : T.live t := by simp only [Tab.live, hT, OK.live]; exact hn
      rw [hk (ι t) (notb t (Ne.symm hst) hl) (htr.lt t hl)]
      exact ⟨arr, ty1, fz1, h, rfl⟩

theorem ObRel.mono {D : Addr → Prop} {T T' : Tab} {ι ι' : Nat → Nat} {w w' : World} (H : Goes D T ι w T' ι' w') {b : Nat} {k : OK} (hb : w'.heap[b]? = w.heap[b]?)
    (h : ObRel T ι (Stable D T ι w) w b k) : ObRel T' ι' (Stable D T' ι' w') w' b k := by
  cases k with
  | dead => trivial
  | box ty cs =>
    obtain ⟨arr, fz, h1, h2, h3, h4⟩ := h
    exact ⟨arr, fz, hb.trans h1, h2, h3, fun i d u hd hu => (h4 i d u hd hu).mono H⟩
  | row ty sz fz0 cs =>
    obtain ⟨arr, fz, cap, h1, h2, h3, h4, h5, h6⟩ := h
    exact ⟨arr, fz, cap, hb.trans h1, h2, h3, h4, h5, fun i d u hd hu => (h6 i d u hd hu).mono H⟩
  | iter s pos => exact hb.trans h
  | mp M =>
    obtain ⟨es, c, h1, h2, h3⟩ := h
    exact ⟨es, c, hb.trans h1, h2, fun i p x hp hx => ⟨(h3 i p x hp hx).1, (h3 i p x hp hx).2.mono H.st⟩⟩
  | nrow ty fz0 nl L =>
    rcases h with h | ⟨arr, fz, cap, h1, h2, h3, h4, h5, h6⟩
    · exact .inl h
    · exact .inr ⟨arr, fz, cap, hb.trans h1, h2, h3, h4, h5, fun i d u hd hu => (h6 i d u hd hu).mono H⟩

theorem TR.site {D : Addr → Prop} {T : Tab} {ι : Nat → Nat} {w w' : World} (htr : TR D T ι w) (s b : Nat) (o : Ob)
    (hb : (T.live s ∧ b = ι s) ∨ w.heap.size ≤ b) (hw : w.heap.size ≤ w'.heap.size) (hbw : b < w'.heap.size) (hk : ∀ i, i ≠ b → i < w.heap.size → w'.heap[i]? = w.heap[i]?)
    (H : Goes D T ι w (T.put s o) (fun t => if s = t then b else ι t) w')
    (hob : ObRel (T.put s o) (fun t => if s = t then b else ι t) (Stable D (T.put s o) (fun t => if s = t then b else ι t) w') w' b o.k) :
    TR D (T.put s o) (fun t => if s = t then b else ι t) w' := by
  have notb : ∀ t, t ≠ s → T.live t → ι t ≠ b := by
    intro t hts hl e
    rcases hb with ⟨hs, hb⟩ | hb
    · exact hts (htr.inj t s hl hs (by rw [e, hb]))
    · have := htr.lt t hl; omega
  refine ⟨fun t => ?_, fun t u ht hu e => ?_, fun t ht => ?_⟩
  · by_cases hst : s = t
    · subst hst
      simpa [Tab.get_put] using hob
    · simp only [Tab.get_put, if_neg hst]
      by_cases hl : T.live t
      · exact (htr.ob t).mono H (hk _ (notb t (Ne.symm hst) hl) (htr.lt t hl))
      · cases hkk : (T.get t).k with
        | dead => trivial
        | nrow ty fz nl L =>
          left
          by_cases hn : nl = true ∧ L.l = []
          · exact hn
          · exact absurd (by simp only [Tab.live, hkk, OK.live]; exact hn) hl
        | _ => exact absurd (by simp [Tab.live, hkk, OK.live]) hl
  · simp only [Tab.live, Tab.get_put] at ht hu
    by_cases hst : s = t <;> by_cases hsu : s = u
    · omega
    · subst hst
      simp only [if_true, if_neg hsu] at e hu
      exact absurd e.symm (notb u (Ne.symm hsu) hu)
    · subst hsu
      simp only [if_true, if_neg hst] at e ht
      exact absurd e (notb t (Ne.symm hst) ht)
    · simp only [if_neg hst, if_neg hsu] at e ht hu
      exact htr.inj t u ht hu e
  · simp only [Tab.live, Tab.get_put] at ht
    by_cases hst : s = t
    · simp only [if_pos hst]; exact hbw
    · rw [if_neg hst] at ht
      simp only [if_neg hst]
      have := htr.lt t ht
      omega

end Go.Abs
