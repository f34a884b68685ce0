/- Calls that were run before are known. -/
import Derived.Test.YtiaoojocpcldmaaGreatExtYD
import Derived.Lib.AppendZerosOnto
import Derived.Lib.Overlaps
namespace Go.Abs
open Go.RowKit
set_option linter.unusedVariables false
set_option linter.unusedSimpArgs false
noncomputable section
def eqKind (a b : IntKind) : Bool := decide (a = b)
def eqInt (a b : Int) : Bool := match a with
 | .ofNat m => match b with
  | .ofNat n => Nat.beq m n
  | _ => false
 | .negSucc m => match b with
  | .negSucc n => Nat.beq m n
  | _ => false
theorem eqInt_ok {a b : Int} (h : eqInt a b = true) : a = b := by
 cases a <;> cases b <;> simp only [eqInt] at h
 ·rw [Nat.eq_of_beq_eq_true h]
 ·cases h
 ·cases h
 ·rw [Nat.eq_of_beq_eq_true h]
def eqL {α : Type} (f : α → α → Bool) (a b : List α) : Bool :=
 List.rec (motive := fun _ => List α → Bool) (fun b => List.casesOn b true fun _ _ => false) (fun x _ ih b => List.casesOn b false fun y r => Bool.rec false (ih r) (f x y)) a b
theorem eqL_ok {α : Type} {f : α → α → Bool} (hf : ∀ x y, f x y = true → x = y) : ∀ (a b : List α), eqL f a b = true → a = b
 | [], [], _ => rfl
 | [], _ :: _, h => by cases h
 | _ :: _, [], h => by cases h
 | x :: a, y :: b, h => by
  have h' : (Bool.rec (motive := fun _ => Bool) false (eqL f a b) (f x y)) = true := h
  cases hx : f x y with
  | false => rw [hx] at h'; cases h'
  | true => rw [hx] at h'; rw [hf x y hx, eqL_ok hf a b h']
def eqU (a b : UInt8) : Bool := Nat.beq a.toNat b.toNat
theorem eqU_ok {a b : UInt8} (h : eqU a b = true) : a = b := UInt8.toNat_inj.1 (Nat.eq_of_beq_eq_true h)
def eqTL (L M : TL) : Bool := match L with
 | ⟨.str, l⟩ => match M with
  | ⟨.str, m⟩ => eqL (eqL eqU) l m
  | _ => false
 | _ => false
theorem eqTL_ok {L M : TL} (h : eqTL L M = true) : L = M := by
 obtain ⟨e, l⟩ := L
 obtain ⟨e', m⟩ := M
 cases e <;> first | (cases h; done) | skip
 cases e' <;> first | (cases h; done) | skip
 have := eqL_ok (f := eqL eqU) (fun x y => eqL_ok (fun x y => eqU_ok) x y) l m h
 rw [this]
def eqV (n : Nat) : V → V → Bool := Nat.rec (motive := fun _ => V → V → Bool) (fun _ _ => false) (fun _ ih a b => match a with
 | .bool x => match b with | .bool y => Bool.rec (Bool.rec true false y) y x | _ => false
 | .int k m => match b with | .int k' m' => Bool.rec false (eqKind k k') (eqInt m m') | _ => false
 | .str s => match b with | .str t => eqL eqU s t | _ => false
 | .snil => match b with | .snil => true | _ => false
 | .sl m cs => match b with | .sl m' ds => Bool.rec false (eqL ih cs ds) (Nat.beq m m') | _ => false
 | .pnil => match b with | .pnil => true | _ => false
 | .agg cs => match b with | .agg ds => eqL ih cs ds | _ => false
 | .tup cs => match b with | .tup ds => eqL ih cs ds | _ => false
 | .ifc t v => match b with | .ifc t' v' => Bool.rec false (ih v v') (Nat.beq t t') | _ => false
 | .inil => match b with | .inil => true | _ => false
 | .fnil => match b with | .fnil => true | _ => false
 | .fn f cs => match b with | .fn f' ds => Bool.rec false (eqL ih cs ds) (Nat.beq f f') | _ => false
 | .sz => match b with | .sz => true | _ => false
 | .lst L => match b with | .lst M => eqTL L M | _ => false
 | _ => false) n
theorem andrec {x y : Bool} (h : (Bool.rec (motive := fun _ => Bool) false y x) = true) : x = true ∧ y = true := by
 cases x with
 | false => cases h
 | true => exact ⟨rfl, h⟩
theorem eqV_ok : ∀ (n : Nat) (a b : V), eqV n a b = true → a = b
 | 0, a, b, h => by cases h
 | n + 1, a, b, h => by
  have ih := eqV_ok n
  have ihl := eqL_ok (f := eqV n) ih
  cases a <;> cases b <;> first | (cases h; done) | rfl | skip
  ·rename_i x y
   cases x <;> cases y <;> first | rfl | cases h
  ·rename_i k m k' m'
   obtain ⟨h1, h2⟩ := andrec h
   rw [eqInt_ok h1, of_decide_eq_true h2]
  ·rename_i s t
   rw [eqL_ok (fun x y => eqU_ok) s t h]
  ·rename_i m cs m' ds
   obtain ⟨h1, h2⟩ := andrec h
   rw [Nat.eq_of_beq_eq_true h1, ihl cs ds h2]
  ·rename_i cs ds
   rw [ihl cs ds h]
  ·rename_i cs ds
   rw [ihl cs ds h]
  ·rename_i t v t' v'
   obtain ⟨h1, h2⟩ := andrec h
   rw [Nat.eq_of_beq_eq_true h1, ih v v' h2]
  ·rename_i f cs f' ds
   obtain ⟨h1, h2⟩ := andrec h
   rw [Nat.eq_of_beq_eq_true h1, ihl cs ds h2]
  ·rw [eqTL_ok h]
def addM (f : Nat) (xs : List V) (r : V × List OK × List OK) (Ξ : Orc) : Orc := fun g ys lb => match lb with
 | [] => Bool.rec (motive := fun _ => Option (V × List OK × List OK)) (Ξ g ys []) (Bool.rec (motive := fun _ => Option (V × List OK × List OK)) (Ξ g ys []) (some r) (eqL (eqV 12) ys xs)) (Nat.beq g f)
 | lb => Ξ g ys lb
theorem addM_ok {P : Program} {J : InOrc} (hJ : InOk P J) {Ξ : Orc} {f : Nat} {xs : List V} {r : V × List OK × List OK} (hΞ : GammaOk2 P Ξ) (hm : P.follows .mixedOrders = true) (hP : progOk P = true) {inl : List Nat} {breath n : Nat} (h : (evOY J Ξ inl P breath n).1 f xs [] = some r) : GammaOk2 P (addM f xs r Ξ) := by
 intro g ys lb res lb' lf hx
 unfold addM at hx
 split at hx
 ·cases h1 : Nat.beq g f with
  | false => rw [h1] at hx; exact hΞ _ _ _ _ _ _ hx
  | true =>
   rw [h1] at hx
   cases h2 : eqL (eqV 12) ys xs with
   | false => rw [h2] at hx; exact hΞ _ _ _ _ _ _ hx
   | true =>
    rw [h2] at hx
    have e1 := Nat.eq_of_beq_eq_true h1
    have e2 := eqL_ok (eqV_ok 12) ys xs h2
    subst e1 e2
    have hx : some r = some (res, lb', lf) := hx
    injection hx with hx
    subst hx
    exact (evOY_ok hJ hΞ hm hP n).1 _ _ _ _ _ _ h
 ·exact hΞ _ _ _ _ _ _ hx
end
set_option linter.unusedSimpArgs false
section
variable {κ : Cx} {ι : Nat → Nat} {st : St} {a : Act} {w : World}
theorem To.newW {w' : World} (h : RelI κ ι st a w) (ho : w'.os = w.os) (ht : w'.tape = w.tape) (hout : w'.output = w.output) (hsz : w'.heap.size = w.heap.size + 1) (hkk : ∀ j, j < w.heap.size → w'.heap[j]? = w.heap[j]?)
  (s : Nat) (k : OK) (hob : ∀ T' ι', Goes κ.D st.o ι w T' ι' w' → ObRel T' ι' (Stable κ.D T' ι' w') w' w.heap.size k) :
  To κ st.o ι w (st.o.put s ⟨(st.o.get s).gen + 1, k⟩) (fun t => if s = t then w.heap.size else ι t) w' := by
 have hk : ∀ i, i ≠ w.heap.size → i < w.heap.size → w'.heap[i]? = w.heap[i]? := fun i _ hi => hkk i hi
 have H := Goes.site h.tr s w.heap.size ⟨(st.o.get s).gen + 1, k⟩ (w' := w') (.inr (Nat.le_refl _)) (by omega) hk (Nat.le_succ _) (fun e _ => absurd e (Nat.succ_ne_self _)) (fun e hl => absurd (h.tr.lt s hl) (by omega)) (fun _ _ _ _ _ e => absurd e (Nat.succ_ne_self _)) (fun _ _ _ _ _ e => absurd e (Nat.succ_ne_self _))
 refine ⟨H, TR.site h.tr s w.heap.size _ (.inr (Nat.le_refl _)) (by omega) (by omega) hk H (hob _ _ H), fun t hl => ?_, ?_⟩
 ·simp only [Tab.live, Tab.get_put] at hl
  by_cases hst : s = t
  ·simp only [if_pos hst]; exact .inl h.kept.size
  ·rw [if_neg hst] at hl; simp only [if_neg hst]; exact h.my t hl
 ·exact h.kept.trans ⟨ho, ht, hout, by omega, fun i hi _ => hk i (by omega) hi, fun i hi => .same (hk i (by omega) hi)⟩
end
end Go.Abs
