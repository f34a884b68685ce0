/- Operators, conversions, parts of values. -/
import Derived.Test.YtiaoojocpcldmaaGreatAbsG
import Derived.Laws.StructEq
import Derived.Laws.IdiomStrings
import Derived.Laws.BytesString
import Derived.Laws.Runes
import Derived.Laws.BitsAllLaws
namespace Go.Abs
open Go.RowKit
set_option linter.unusedVariables false
set_option linter.unusedSimpArgs false

def lo : IntKind → Int
  | .i8 => -128 | .i16 => -32768 | .i32 => -2147483648 | .i64 => -9223372036854775808
  | _ => 0
def hi : IntKind → Int
  | .i8 => 127 | .i16 => 32767 | .i32 => 2147483647 | .i64 => 9223372036854775807
  | .u8 => 255 | .u16 => 65535 | .u32 => 4294967295 | .u64 => 18446744073709551615
/-- A number brought into its kind. -/
def wr (k : IntKind) (n : Int) : Int := if lo k ≤ n ∧ n ≤ hi k then n else k.wrap n
theorem wr_eq (k : IntKind) (n : Int) : wr k n = k.wrap n := by
  unfold wr
  split
  · rename_i h
    cases k <;> simp [lo, hi] at h <;> simp [IntKind.wrap, IntKind.bits, IntKind.signed] <;> omega
  · rfl
theorem wr_in {k : IntKind} {n : Int} (h : lo k ≤ n ∧ n ≤ hi k) : wr k n = n := if_pos h

def intBin (op : BinOp) (k : IntKind) (x y : Int) : Option V :=
  match op with
  | .add => some (.int k (wr k (x + y)))
  | .sub => some (.int k (wr k (x - y)))
  | .mul => some (.int k (wr k (x * y)))
  | .quo => if y = 0 then none else some (.int k (wr k (x.tdiv y)))
  | .rem => if y = 0 then none else some (.int k (x.tmod y))
  | .and => some (.int k (wr k (BitVec.ofInt k.bits x &&& BitVec.ofInt k.bits y).toNat))
  | .or => some (.int k (wr k (BitVec.ofInt k.bits x ||| BitVec.ofInt k.bits y).toNat))
  | .xor => some (.int k (wr k (BitVec.ofInt k.bits x ^^^ BitVec.ofInt k.bits y).toNat))
  | .andNot => some (.int k (wr k (BitVec.ofInt k.bits x &&& ~~~ BitVec.ofInt k.bits y).toNat))
  | .eql => some (.bool (decide (x = y)))
  | .neq => some (.bool (decide (x ≠ y)))
  | .lss => some (.bool (decide (x < y)))
  | .leq => some (.bool (decide (x ≤ y)))
  | .gtr => some (.bool (decide (y < x)))
  | .geq => some (.bool (decide (y ≤ x)))
  | _ => none

def strBin (op : BinOp) (x y : List UInt8) : Option V :=
  match op with
  | .add => if x.length + y.length ≤ 9223372036854775807 then some (.str (x ++ y)) else none
  | .eql => some (.bool (x == y))
  | .neq => some (.bool (!(x == y)))
  | .lss => some (.bool (Op.bytesLess x y))
  | .leq => some (.bool (Op.bytesLess x y || x == y))
  | .gtr => some (.bool (!(Op.bytesLess x y || x == y)))
  | .geq => some (.bool (!Op.bytesLess x y))
  | _ => none

/-- The fields of a struct, each one cell of a plain kind, cell by cell. -/
def flatFields (P : Program) : List Field → Nat → Bool
  | [], _ => true
  | f :: r, i => f.name != "_" && f.offset == i && (match P.underlying f.type with | some (.int _) | some .bool | some .string => true | _ => false) && flatFields P r (i + 1)
def eqCell (P : Program) (t : Nat) (x y : V) : Option Bool :=
  match P.underlying t, x, y with
  | some (.int _), .int k a, .int k' b => if k = k' then some (decide (a = b)) else none
  | some .bool, .bool a, .bool b => some (a == b)
  | some .string, .str a, .str b => some (a == b)
  | some .bool, .bs a, .bs b => some (a == b)
  | some .bool, .bs a, .bool b => some (a == b)
  | some .bool, .bool a, .bs b => some (a == b)
  | _, _, _ => none
def eqFields (P : Program) : List Field → List V → List V → Option Bool
  | [], [], [] => some true
  | f :: fs, x :: xs, y :: ys => match eqCell P f.type x y with
    | some true => eqFields P fs xs ys
    | some false => some false
    | none => none
  | _, _, _ => none
def eqStruct (P : Program) (t : Nat) (x y : List V) : Option Bool :=
  match P.underlying t with
  | some (.struct fs) => if flatFields P fs.toList 0 = true ∧ P.stoodInHeld t = false ∧ P.eqGuardType P.depth t = false then eqFields P fs.toList x y else none
  | _ => none

/-- A value against nil, or nil against a value. -/
def eqNil (P : Program) (t : Nat) (cst : Bool) (x y : V) : Option Bool :=
  match P.underlying t, x, y with
  | some (.slice _), .snil, .snil => some true
  | some (.slice _), .snil, .sl (_ + 1) _ => some false
  | some (.slice _), .snil, .own _ _ _ _ => some false
  | some (.slice _), .sl (_ + 1) _, .snil => some false
  | some (.slice _), .own _ _ _ _, .snil => some false
  | some (.slice _), .nl _, .snil => some false
  | some (.interface _), .inil, .inil => if cst then some true else none
  | some (.interface _), .inil, .ifc _ _ => some false
  | some (.interface _), .ifc _ _, .inil => some false
  | some (.pointer _), .pnil, .pnil => some true
  | some (.pointer _), .ptr _ _ _, .pnil => some false
  | some (.pointer _), .cref _, .pnil => some false
  | some (.pointer _), .pnil, .ptr _ _ _ => some false
  | some (.pointer _), .pnil, .cref _ => some false
  | some (.func _ _ _), .fnil, .fnil => some true
  | some (.func _ _ _), .fn _ _, .fnil => some false
  | some (.func _ _ _), .fnil, .fn _ _ => some false
  | some .bool, .bool a, .bool b => some (a == b)
  | _, .agg xs, .agg ys => eqStruct P t xs ys
  | _, _, _ => none

def isConstO : Operand → Bool
  | .const _ => true
  | _ => false

def aBin (P : Program) (op : BinOp) (t : Nat) (ox oy : Operand) (x y : V) : Option V :=
  match x, y with
  | .int k m, .int k' n => match op with
    | .shl => if n < 0 then none else some (.int k (wr k (m * 2 ^ (min n.toNat k.bits))))
    | .shr => if n < 0 then none else some (.int k (m.fdiv (2 ^ (min n.toNat k.bits))))
    | _ => if k = k' then intBin op k m n else none
  | .str a, .str b => strBin op a b
  | x, y => match op with
    | .eql => (eqNil P t (isConstO ox || isConstO oy) x y).map .bool
    | .neq => (eqNil P t (isConstO ox || isConstO oy) x y).map fun b => .bool (!b)
    | _ => none

section
variable {κ : Cx} {ι : Nat → Nat} {st : St} {a : Act} {w : World}

def sv : V → Value
  | .int k n => .int k n
  | .bool b => .bool b
  | .str s => .string ⟨⟨s⟩⟩
  | _ => undef
def isSv : V → Bool
  | .int _ _ | .bool _ | .str _ => true
  | _ => false
theorem sv_rp {S : Addr → Prop} {v : V} (h : isSv v = true) : Rp S w v (sv v) := by
  cases v <;> first | exact .int _ _ | exact .bool _ | exact .str _ _ rfl | cases h

theorem run_intBin {P : Program} {op : BinOp} {t : TypeId} {k : IntKind} {m n : Int} {v : V} (hs : op ≠ .shl) (hs' : op ≠ .shr) (hx : intBin op k m n = some v) :
    (binOp op t (.int k m) (.int k n)).run P w = .ok (sv v) w ∧ isSv v = true := by
  cases op <;> simp only [intBin] at hx <;> first
    | exact absurd rfl hs
    | exact absurd rfl hs'
    | cases hx; done
    | (split at hx
       · cases hx
       · rename_i h0
         injection hx with hx; subst hx
         refine ⟨?_, rfl⟩
         simp [binOp, Op.intDiv, h0, sv, wr_eq])
    | (injection hx with hx; subst hx
       refine ⟨?_, rfl⟩
       simp [binOp, Op.intArith, Op.intBits, Op.intCmp, sv, wr_eq, bne] <;> (rw [Bool.eq_iff_iff]; simp))

theorem run_strBin {P : Program} {op : BinOp} {t : TypeId} {x y : ByteArray} {v : V} (hx : strBin op x.data.toList y.data.toList = some v) :
    (binOp op t (.string x) (.string y)).run P w = .ok (sv v) w ∧ isSv v = true := by
  have e1 : x.toList = x.data.toList := ByteArray.toList_eq x
  have e2 : y.toList = y.data.toList := ByteArray.toList_eq y
  have e3 : x.size = x.data.toList.length := rfl
  have e4 : y.size = y.data.toList.length := rfl
  cases op <;> simp only [strBin] at hx <;> first
    | cases hx; done
    | (split at hx
       · rename_i h0
         injection hx with hx; subst hx
         refine ⟨?_, rfl⟩
         have h1 : ¬ (9223372036854775807 < (x.size : Int) + (y.size : Int)) := by rw [e3, e4]; omega
         have h2 : x ++ y = ⟨⟨x.data.toList ++ y.data.toList⟩⟩ := by
           obtain ⟨⟨x⟩⟩ := x; obtain ⟨⟨y⟩⟩ := y
           apply ByteArray.ext
           simp [ByteArray.data_append]
         simp [binOp, Op.stringOp, IntKind.max, IntKind.bits, IntKind.signed, h1, sv, h2]
       · cases hx)
    | (injection hx with hx; subst hx
       refine ⟨?_, rfl⟩
       simp [binOp, Op.stringOp, sv, e1, e2])

theorem run_eqCell {P : Program} {T : Tab} {S : Addr → Prop} {t d : Nat} {x y : V} {cx cy : Value} {b : Bool} (hx : Rv T ι S w x cx) (hy : Rv T ι S w y cy) (h : eqCell P t x y = some b) :
    (Op.equalIn (d + 1) t cx cy).run P w = .ok b w := by
  unfold eqCell at h
  split at h
  · rename_i k m k' n ht
    split at h
    · rename_i hk
      injection h with h; subst h hk
      rw [hx.int_, hy.int_, run_equalIn_int w d t _ _ m n ht]
      congr 1
    · cases h
  · rename_i p q ht
    injection h with h; subst h
    rw [hx.bool_, hy.bool_, run_equalIn_bool' w d t p q ht]
  · rename_i p q ht
    injection h with h; subst h
    obtain ⟨b1, rfl, h1⟩ := hx.str_
    obtain ⟨b2, rfl, h2⟩ := hy.str_
    rw [run_equalIn_string w d t b1 b2 ht, ByteArray.toList_eq, ByteArray.toList_eq, h1, h2]
  · rename_i p q ht
    injection h with h; subst h
    rw [hx.bs_, hy.bs_, run_equalIn_bool' w d t p q ht]
  · rename_i p q ht
    injection h with h; subst h
    rw [hx.bs_, hy.bool_, run_equalIn_bool' w d t p q ht]
  · rename_i p q ht
    injection h with h; subst h
    rw [hx.bool_, hy.bs_, run_equalIn_bool' w d t p q ht]
  · cases h

theorem run_eqFields {P : Program} {T : Tab} {S : Addr → Prop} {d : Nat} {vx vy : Array Value} : ∀ (fs : List Field) (i : Nat) (xs ys : List V) (b : Bool), flatFields P fs i = true →
    LR (Rv T ι S w) xs (vx.toList.drop i) → LR (Rv T ι S w) ys (vy.toList.drop i) → eqFields P fs xs ys = some b → (Op.eqFields (d + 1) vx vy fs).run P w = .ok b w
  | [], i, xs, ys, b, _, hx, hy, h => by
    unfold eqFields at h
    split at h <;> first | (injection h with h; subst h; simp [Op.eqFields]) | cases h | simp_all
  | f :: fs, i, xs, ys, b, hf, hx, hy, h => by
    simp only [flatFields, Bool.and_eq_true] at hf
    obtain ⟨⟨⟨hn, ho⟩, hk⟩, hr⟩ := hf
    have hne : f.name ≠ "_" := by simpa using hn
    have hoff : f.offset = i := by simpa using ho
    cases xs with
    | nil => simp [eqFields] at h
    | cons x xs =>
      cases ys with
      | nil => simp [eqFields] at h
      | cons y ys =>
        obtain ⟨cx, vx', ex, hcx, hxr⟩ := hx.head
        obtain ⟨cy, vy', ey, hcy, hyr⟩ := hy.head
        have hpart : ∀ (v : Array Value) (c : Value) (v' : List Value), v.toList.drop i = c :: v' → (part f.type v f.offset).run P w = .ok c w := by
          intro v c v' e
          have h0 : v[i]? = some c := by
            have : (v.toList.drop i)[0]? = some c := by rw [e]; rfl
            rw [List.getElem?_drop] at this
            simpa using this
          have hag : (isAgg f.type).run P w = .ok false w := by
            cases hu : P.underlying f.type with
            | none => rw [hu] at hk; simp at hk
            | some dd =>
              rw [run_isAgg hu]
              rw [hu] at hk
              cases dd <;> first | rfl | simp at hk
          rw [hoff]
          simp [part, hag, h0]
        have hdrop : ∀ (v : Array Value) (c : Value) (v' : List Value), v.toList.drop i = c :: v' → v.toList.drop (i + 1) = v' := by
          intro v c v' e
          have : (v.toList.drop i).drop 1 = v' := by rw [e]; rfl
          rwa [List.drop_drop] at this
        simp only [eqFields] at h
        simp only [Op.eqFields, hne, ne_eq, not_false_eq_true, if_true, Sem.run_bind, hpart vx cx vx' ex, hpart vy cy vy' ey, Result.andThen_ok]
        cases hc : eqCell P f.type x y with
        | none => simp [hc] at h
        | some r =>
          rw [run_eqCell (d := d) hcx hcy hc]
          cases r with
          | false => simp [hc] at h; subst h; simp
          | true =>
            simp [hc] at h
            simp
            exact run_eqFields fs (i + 1) xs ys b hr (by rw [hdrop vx cx vx' ex]; exact hxr) (by rw [hdrop vy cy vy' ey]; exact hyr) h

theorem run_eqStruct {P : Program} {T : Tab} {S : Addr → Prop} {t : Nat} {xs ys : List V} {cx cy : Value} {b : Bool} (hx : Rv T ι S w (.agg xs) cx) (hy : Rv T ι S w (.agg ys) cy) (h : eqStruct P t xs ys = some b) :
    (∀ (op : BinOp) (ox oy : Operand), (eqGuard op t ox oy cx cy).run P w = .ok () w) ∧ (Op.equal t cx cy).run P w = .ok b w ∧ ∃ vx vy, cx = .agg vx ∧ cy = .agg vy := by
  unfold eqStruct at h
  split at h
  · rename_i fs ht
    split at h
    · rename_i hc
      obtain ⟨hf, hp, hg⟩ := hc
      obtain ⟨vx, rfl, hlx, hrx⟩ := hx.agg_
      obtain ⟨vy, rfl, hly, hry⟩ := hy.agg_
      have hfo : P.fieldsOf t = fs := by simp [Program.fieldsOf, ht]
      refine ⟨fun op ox oy => ?_, ?_, _, _, rfl, rfl⟩
      · unfold eqGuard
        cases op <;> simp [hg]
      · unfold Op.equal
        rw [show Op.maxDepth = 9999 + 1 from rfl, run_equalIn_struct w 9999 t _ _ (by rw [hfo]; exact ht) hp, hfo]
        exact run_eqFields (d := 9998) fs.toList 0 xs ys b hf ⟨hlx, hrx⟩ ⟨hly, hry⟩ h
    · cases h
  · cases h

theorem eqGuard_other {P : Program} {op : BinOp} {t : Nat} {ox oy : Operand} {cx cy : Value} (h1 : ¬ (cx = .nilIface ∧ cy = .nilIface)) (h2 : ¬ ((∃ a, cx = .agg a) ∧ ∃ b, cy = .agg b)) :
    (eqGuard op t ox oy cx cy).run P w = .ok () w := by
  unfold eqGuard
  cases op <;> simp <;> (split <;> simp_all)

theorem run_eqNil {P : Program} {T : Tab} {S : Addr → Prop} {op : BinOp} {t : Nat} {ox oy : Operand} {x y : V} {cx cy : Value} {b : Bool} (hx : Rv T ι S w x cx) (hy : Rv T ι S w y cy)
    (h : eqNil P t (isConstO ox || isConstO oy) x y = some b) :
    (eqGuard op t ox oy cx cy).run P w = .ok () w ∧ (Op.equal t cx cy).run P w = .ok b w ∧ (∀ k n, cx ≠ .int k n) ∧ (∀ k n, cy ≠ .int k n) ∧ (∀ s, cx ≠ .string s) ∧ (∀ s, cy ≠ .string s) ∧
      (∀ k n, cx ≠ .float k n) ∧ (∀ k n m, cx ≠ .complex k n m) := by
  have ownv : ∀ {s g o n : Nat} {c : Value}, Rv T ι S w (.own s g o n) c → ∃ a c', c = .slice (some a) n c' := by
    intro s g o n c hc
    cases hc with
    | pure h => cases h
    | own hv _ _ => exact hv
  have ptrv : ∀ {s g o : Nat} {c : Value}, Rv T ι S w (.ptr s g o) c → ∃ a, c = .pointer (some a) := by
    intro s g o c hc
    cases hc with
    | pure h => cases h
    | ptr hv _ _ => exact hv
  obtain ⟨dd, hdd⟩ : ∃ d, Op.maxDepth = d + 1 := ⟨9999, rfl⟩
  unfold Op.equal
  rw [hdd]
  unfold eqNil at h
  split at h
  · rename_i e ht; injection h with h; subst h
    have := hx.snil_; subst this; have := hy.snil_; subst this
    exact ⟨eqGuard_other (by simp) (by simp), by simp [Op.equalIn, run_underlying ht], by simp, by simp, by simp, by simp, by simp, by simp⟩
  · rename_i e n cs ht; injection h with h; subst h
    have := hx.snil_; subst this; obtain ⟨_, _, _, rfl, _⟩ := hy.sl_.resolve_left (fun e => by omega)
    exact ⟨eqGuard_other (by simp) (by simp), by simp [Op.equalIn, run_underlying ht], by simp, by simp, by simp, by simp, by simp, by simp⟩
  · rename_i e _ _ _ _ ht; injection h with h; subst h
    have := hx.snil_; subst this; obtain ⟨_, _, rfl⟩ := ownv hy
    exact ⟨eqGuard_other (by simp) (by simp), by simp [Op.equalIn, run_underlying ht], by simp, by simp, by simp, by simp, by simp, by simp⟩
  · rename_i e n cs ht; injection h with h; subst h
    have := hy.snil_; subst this; obtain ⟨_, _, _, rfl, _⟩ := hx.sl_.resolve_left (fun e => by omega)
    exact ⟨eqGuard_other (by simp) (by simp), by simp [Op.equalIn, run_underlying ht], by simp, by simp, by simp, by simp, by simp, by simp⟩
  · rename_i e _ _ _ _ ht; injection h with h; subst h
    have := hy.snil_; subst this; obtain ⟨_, _, rfl⟩ := ownv hx
    exact ⟨eqGuard_other (by simp) (by simp), by simp [Op.equalIn, run_underlying ht], by simp, by simp, by simp, by simp, by simp, by simp⟩
  · rename_i e _ ht; injection h with h; subst h
    have := hy.snil_; subst this; obtain ⟨_, _, _, _, rfl⟩ := hx.nl_
    exact ⟨eqGuard_other (by simp) (by simp), by simp [Op.equalIn, run_underlying ht], by simp, by simp, by simp, by simp, by simp, by simp⟩
  · rename_i ms ht
    split at h
    · rename_i hc
      injection h with h; subst h
      have := hx.inil_; subst this; have := hy.inil_; subst this
      refine ⟨?_, by simp [Op.equalIn, run_underlying ht], by simp, by simp, by simp, by simp, by simp, by simp⟩
      unfold eqGuard
      cases ox <;> cases oy <;> simp [isConstO] at hc <;> cases op <;> simp
    · cases h
  · rename_i ms t' v ht; injection h with h; subst h
    have := hx.inil_; subst this; obtain ⟨_, rfl, _⟩ := hy.ifc_
    exact ⟨eqGuard_other (by simp) (by simp), by simp [Op.equalIn, run_underlying ht], by simp, by simp, by simp, by simp, by simp, by simp⟩
  · rename_i ms t' v ht; injection h with h; subst h
    have := hy.inil_; subst this; obtain ⟨_, rfl, _⟩ := hx.ifc_
    exact ⟨eqGuard_other (by simp) (by simp), by simp [Op.equalIn, run_underlying ht], by simp, by simp, by simp, by simp, by simp, by simp⟩
  · rename_i e ht; injection h with h; subst h
    have := hx.pnil_; subst this; have := hy.pnil_; subst this
    exact ⟨eqGuard_other (by simp) (by simp), by simp [Op.equalIn, run_underlying ht], by simp, by simp, by simp, by simp, by simp, by simp⟩
  · rename_i e _ _ _ ht; injection h with h; subst h
    have := hy.pnil_; subst this; obtain ⟨_, rfl⟩ := ptrv hx
    exact ⟨eqGuard_other (by simp) (by simp), by simp [Op.equalIn, run_underlying ht], by simp, by simp, by simp, by simp, by simp, by simp⟩
  · rename_i e _ ht; injection h with h; subst h
    have := hy.pnil_; subst this; obtain ⟨_, _, rfl, _⟩ := hx.cref_
    exact ⟨eqGuard_other (by simp) (by simp), by simp [Op.equalIn, run_underlying ht], by simp, by simp, by simp, by simp, by simp, by simp⟩
  · rename_i e _ _ _ ht; injection h with h; subst h
    have := hx.pnil_; subst this; obtain ⟨_, rfl⟩ := ptrv hy
    exact ⟨eqGuard_other (by simp) (by simp), by simp [Op.equalIn, run_underlying ht], by simp, by simp, by simp, by simp, by simp, by simp⟩
  · rename_i e _ ht; injection h with h; subst h
    have := hx.pnil_; subst this; obtain ⟨_, _, rfl, _⟩ := hy.cref_
    exact ⟨eqGuard_other (by simp) (by simp), by simp [Op.equalIn, run_underlying ht], by simp, by simp, by simp, by simp, by simp, by simp⟩
  · rename_i ht; injection h with h; subst h
    have := hx.fnil_; subst this; have := hy.fnil_; subst this
    exact ⟨eqGuard_other (by simp) (by simp), by simp [Op.equalIn, run_underlying ht], by simp, by simp, by simp, by simp, by simp, by simp⟩
  · rename_i ht; injection h with h; subst h
    have := hy.fnil_; subst this; obtain ⟨_, rfl, _⟩ := hx.fn_
    exact ⟨eqGuard_other (by simp) (by simp), by simp [Op.equalIn, run_underlying ht], by simp, by simp, by simp, by simp, by simp, by simp⟩
  · rename_i ht; injection h with h; subst h
    have := hx.fnil_; subst this; obtain ⟨_, rfl, _⟩ := hy.fn_
    exact ⟨eqGuard_other (by simp) (by simp), by simp [Op.equalIn, run_underlying ht], by simp, by simp, by simp, by simp, by simp, by simp⟩
  · rename_i p q ht; injection h with h; subst h
    have := hx.bool_; subst this; have := hy.bool_; subst this
    exact ⟨eqGuard_other (by simp) (by simp), by simp [Op.equalIn, run_underlying ht], by simp, by simp, by simp, by simp, by simp, by simp⟩
  · obtain ⟨hg, he, vx, vy, rfl, rfl⟩ := run_eqStruct hx hy h
    unfold Op.equal at he
    rw [hdd] at he
    refine ⟨hg op ox oy, he, by simp, by simp, by simp, by simp, by simp, by simp⟩
  · cases h

end
end Go.Abs
