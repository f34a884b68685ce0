/- Calls of which all that is handed over leads to no object. -/
import Derived.Test.YtiaoojocpcldmaaGreatExtYB
namespace Go.Abs
open Go.RowKit
set_option linter.unusedVariables false
set_option linter.unusedSimpArgs false
noncomputable section
/-! Calls of which all arguments lead to no object of the machine's own. -/
theorem pureL_mem : ∀ {l : List V}, pureL l = true → ∀ v ∈ l, v.pure = true
  | [], _, v, hv => by cases hv
  | x :: l, h, v, hv => by
    simp only [pureL, Bool.and_eq_true] at h
    rcases List.mem_cons.1 hv with rfl | hv
    · exact h.1
    · exact pureL_mem h.2 v hv
theorem view_pure {n : Nat} {T : Tab} {v : V} (h : v.pure = true) : view (n + 1) T v = some (v, []) := by
  unfold view; rw [if_pos h]
theorem viewA1_pure {n : Nat} {T : Tab} {bs : List Nat} {v : V} (h : v.pure = true) : viewA1 (n + 1) T bs v = some (v, [], bs) := by
  unfold viewA1
  split
  · cases h
  · rw [view_pure h]
theorem viewL_pure {n : Nat} {T : Tab} {bs : List Nat} : ∀ {l : List V}, pureL l = true → viewL (viewA1 (n + 1) T) bs l = some (l, [], bs)
  | [], _ => rfl
  | v :: l, h => by
    simp only [pureL, Bool.and_eq_true] at h
    simp only [viewL, viewA1_pure h.1, viewL_pure h.2, List.nil_append]
theorem viewA_pure {n : Nat} {T : Tab} {bs : List Nat} {v : V} (h : v.pure = true) : viewA (n + 1) T bs v = some (v, [], bs) := by
  unfold viewA
  split
  · rename_i f cs
    simp only [V.pure] at h
    rw [viewL_pure h]
  · exact viewA1_pure h
theorem viewArgs_pure {n : Nat} {T : Tab} : ∀ {l : List V} {i : Nat}, pureL l = true → viewArgs (n + 1) T [] i [] l = some (l, [], [])
  | [], _, _ => rfl
  | v :: l, i, h => by
    simp only [pureL, Bool.and_eq_true] at h
    simp only [viewArgs, List.contains_nil, Bool.false_eq_true, if_false, viewA_pure h.1, viewArgs_pure (i := i + 1) h.2, List.nil_append]
theorem ren1_pure {T : Tab} {bs : List Nat} {d nf : Nat} {v : V} (h : v.pure = true) : ren1 T bs d nf v = some v := by
  unfold ren1
  split
  · cases h
  · cases h
  · cases h
  · rw [if_pos h]
theorem renL_pure {T : Tab} {bs : List Nat} {d nf : Nat} : ∀ {l : List V}, pureL l = true → renL T bs d nf l = some l
  | [], _ => rfl
  | v :: l, h => by
    simp only [pureL, Bool.and_eq_true] at h
    simp only [renL, ren1_pure h.1, renL_pure h.2]
theorem ren_pure {T : Tab} {bs : List Nat} {d nf : Nat} {v : V} (h : v.pure = true) : ren T bs d nf v = some v := by
  unfold ren
  split
  · simp only [V.pure] at h
    rw [renL_pure h]; rfl
  · exact ren1_pure h
def noL : Lend := fun _ => []
theorem aCall2_args {Γ : Orc} {T : Tab} {f d : Nat} {xs : List V} (h : pureL xs = true) : aCall2 Γ noL T f xs d = match Γ f xs [] with
    | some (res, lb', lf) => fin2 T [] [] d res lb' lf
    | none => none := by
  have e1 : viewArgs depth T (noL f) 0 [] xs = some (xs, [], []) := viewArgs_pure (n := 7) h
  unfold aCall2
  rw [e1]
  simp only [boxes2]
  rw [if_pos ⟨List.nodup_nil, by simp⟩]
  cases Γ f xs [] <;> rfl
theorem fin2_pure {T : Tab} {d : Nat} {res : V} (h : res.pure = true) : fin2 T [] [] d res [] [] = some (res, T) := by
  unfold fin2
  rw [if_pos ⟨by simp, by simp, by simp [lens2]⟩]
  have e : (if flatAll res [] [] = true then T else T.freezes []) = T := by split <;> rfl
  rw [e]
  simp only [revive2, fresh2, List.length_nil]
  rw [ren_pure h]; rfl

end
end Go.Abs
