/- New operations, by conditions. -/
import Derived.Test.YtiaoojocpcldmaaGreatExtO
namespace Go.Abs
open Go.RowKit
set_option linter.unusedVariables false
set_option linter.unusedSimpArgs false

/-! Interface values of Lean's own. -/
def unST : V → Tr V
  | .si X => siT X.e X.x
  | v => .ret v
theorem unST_run (v : V) : (unST v).run = some (unS v) := by
  cases v <;> first | rfl | exact siT_run _ _


def tyOf (P : Program) : Nat → TypeId → Option Ty
  | 0, _ => none
  | n + 1, t => match P.underlying t with
    | some .bool => some .bool
    | some (.int k) => some (.int k)
    | some .string => some .str
    | some (.slice u) => (tyOf P n u).map .list
    | some (.struct fs) => (flds (tyOf P n) (fs.toList.map (·.type))).map .agg
    | some (.array m u) => (flds (tyOf P n) (List.replicate m u)).map .agg
    | _ => none
where flds (f : TypeId → Option Ty) : List TypeId → Option Ty
  | [] => some .unit
  | [t] => f t
  | t :: u :: r => match f t, flds f (u :: r) with
    | some a, some b => some (.pair a b)
    | _, _ => none

section
variable {κ : Cx} {ι : Nat → Nat} {st : St} {a : Act} {w : World}

/-! Windows. -/
/-- A window's length. -/
def wLen (P : Program) (T : Tab) (t : Nat) (x : V) : Option V :=
  match P.underlying t, x with
  | some (.slice _), .nwin s g off n => (winOf T (.nwin s g off n)).map fun _ => .int .i64 n
  | _, _ => none
theorem wLen_ok (h : RelI κ ι st a w) {t ty : Nat} {x v : V} {cx : Value} {ts : Array TypeId} (hts : ts[0]? = some t) (hr : Rv st.o ι (Stable κ.D st.o ι w) w x cx) (hx : wLen κ.P st.o t x = some v) :
    SemOk κ ι st.o w (Builtin.len_ ts ty #[cx]) v none := by
  unfold wLen at hx
  split at hx
  · rename_i e s g off n ht
    cases hw : winOf st.o (.nwin s g off n) with
    | none => rw [hw] at hx; cases hx
    | some q =>
      obtain ⟨s', g', off', n', ty', fz, nl, L⟩ := q
      rw [hw] at hx
      simp only [Option.map_some, Option.some.injEq] at hx
      subst hx
      have hn : n' = n := by
        unfold winOf at hw
        simp only at hw
        split at hw
        · split at hw
          · injection hw with hw; simp only [Prod.mk.injEq] at hw; exact hw.2.2.2.1.symm
          · cases hw
        · cases hw
      subst hn
      obtain ⟨hT, _, hle, hor⟩ := winOf_ok hw hr
      have : ∃ p c, cx = .slice p n' c := by
        rcases hor with ⟨_, e0, p, rfl⟩ | ⟨_, ad, c, _, _, _, _, rfl, _⟩
        · have : n' = 0 := by rw [e0] at hle; simp at hle; omega
          exact ⟨p, 0, by rw [this]⟩
        · exact ⟨_, _, rfl⟩
      obtain ⟨p, c, rfl⟩ := this
      refine SemOk.same h (cv := .int .i64 n') ?_ (.pure (.int _ _))
      simp only [Builtin.len_, hts]
      simp [run_underlying ht, goInt]
  · cases hx
/-- An element of a window. -/
def wIndex (P : Program) (T : Tab) (t : Nat) (x ix : V) : Option (List Bool × V) :=
  match P.underlying t, x, ix with
  | some (.slice e), .nwin s g off n, .int _ i => match P.info? e, winOf T (.nwin s g off n) with
    | some inf, some (_, _, _, _, _, _, _, L) => if L.e.size = inf.size then some ([decide (0 ≤ i), decide (i < (n : Int))], .eptr s g inf.size (off + i.toNat) 0) else none
    | _, _ => none
  | _, _, _ => none
theorem wIndex_ok (h : RelI κ ι st a w) {t : Nat} {x ix v : V} {cx ci : Value} {bs : List Bool} (hr : Rv st.o ι (Stable κ.D st.o ι w) w x cx) (hi : Rv st.o ι (Stable κ.D st.o ι w) w ix ci)
    (hx : wIndex κ.P st.o t x ix = some (bs, v)) (hbs : bs.all id = true) : SemOk κ ι st.o w (Instr.indexAt t cx ci) v none := by
  unfold wIndex at hx
  split at hx
  case h_2 => cases hx
  rename_i e s g off n k i ht
  split at hx
  case h_2 => cases hx
  rename_i inf s' g' off' n' ty' fz nl L hinf hw
  split at hx
  case isFalse => cases hx
  rename_i hsz
  injection hx with hx
  simp only [Prod.mk.injEq] at hx
  obtain ⟨rfl, rfl⟩ := hx
  simp only [List.all_cons, List.all_nil, Bool.and_eq_true, id, decide_eq_true_eq, Bool.and_true] at hbs
  obtain ⟨h0, h1⟩ := hbs
  have hq : s' = s ∧ g' = g ∧ off' = off ∧ n' = n := by
    unfold winOf at hw
    simp only at hw
    split at hw
    · split at hw
      · injection hw with hw; simp only [Prod.mk.injEq] at hw; exact ⟨hw.1.symm, hw.2.1.symm, hw.2.2.1.symm, hw.2.2.2.1.symm⟩
      · cases hw
    · cases hw
  obtain ⟨rfl, rfl, rfl, rfl⟩ := hq
  obtain ⟨hT, _, hle, hor⟩ := winOf_ok hw hr
  have := hi.int_; subst this
  obtain ⟨hn, ad, c, cap, arr, ty1, fz1, rfl, hb, hmem, has, hnc, hcap, hpl⟩ := hor.resolve_left (fun ⟨_, e0, _⟩ => by rw [e0] at hle; simp at hle; omega)
  have := hpl (by omega); subst this
  refine SemOk.same h (cv := .pointer (some ((⟨ι s', off' * L.e.size, none⟩ : Addr).add (i.toNat * inf.size)))) ?_ ?_
  · simp [Instr.indexAt, asIntOf, run_underlying ht, h0, h1, run_size hinf]
  · refine .eptr ⟨_, rfl⟩ (by rw [hT]; exact Nat.le_refl _) fun ty2 fz2 nl2 L2 e2 => ?_
    rw [hT] at e2
    simp at e2
    obtain ⟨rfl, rfl, rfl, rfl⟩ := e2
    refine ⟨hsz.symm, by omega, ?_⟩
    congr 2
    unfold Addr.add
    split
    · rename_i e0; rw [Nat.add_mul, hsz, e0]; simp
    · simp only [Addr.mk.injEq, true_and]; rw [Nat.add_mul, hsz]; simp
end
end Go.Abs
