/- FeedEnds: for all arguments the call returns true. The law is brought to a function of Lean's own (W_..) by the machine of the texts beside it, and that is reckoned; no condition. -/
import Derived.Test.YtigmbfeeodggbaaExtYM
import Derived.Test.YtigmbfeeodggbaaExtIn
import Derived.Test.YtigmbfeeodggbaaExtDl
import Derived.Test.YtigmbfeeodggbaaExtL
import Derived.Test.YtigmbfeeodggbaaRows
import Derived.WalkKit
import Derived.ProofKit
import Derived.OpenShut
import Derived.ShutString
import Derived.ChangeOld
import Derived.Below
import Derived.Shelf.RegionOpenPlain
import Derived.Deep.RegionLaw
import Derived.Lib.Walk
import Derived.Shelf.RegionOpenPlain
import Derived.Lib.Walk
namespace Go.Proofs.Ytigmbfeeodggbaa.feedEndsX
open Go.Abs Go.RowKit Go.ChangeShapes Go.WideShapes Go.ChangeAt
set_option maxRecDepth 100000
set_option linter.unusedVariables false
set_option linter.unusedSimpArgs false
abbrev A0_ : Type := Int × List (Int × List UInt8) × List (Int × List UInt8) × List (Int × Int × Int × List UInt8 × Int) × Int × Int
abbrev A1_ : Type := Int × Int × Int × List UInt8 × Int
abbrev A2_ : Type := List (Int × List UInt8) × Int × A0_
abbrev A3_ : Type := List (Int × List UInt8) × Bool × Int × List UInt8
abbrev A4_ : Type := List (Int × Int) × Int × A0_
abbrev A5_ : Type := Bool × (Int × A0_) × Int × Int
abbrev A6_ : Type := List (Int × List UInt8) × Bool
abbrev A7_ : Type := Bool × (Int × A0_) × Int × A0_
abbrev T0_ : Ty := .pair (.int .i64) (.pair (.int .i64) (.pair (.list (.agg (.pair (.int .i64) .str))) (.pair (.list (.agg (.pair (.int .i64) .str))) (.pair (.list (.agg (.pair (.int .i64) (.pair (.int .i64) (.pair (.int .i64) (.pair .str (.int .i64))))))) (.agg (.pair (.int .i64) (.int .i64)))))))
abbrev T1_ : Ty := .agg (.pair (.int .i64) (.pair (.int .i64) (.pair (.int .i64) (.pair .str (.int .i64)))))
abbrev T2_ : Ty := .agg (.pair (.int .i64) .str)
abbrev T3_ : Ty := .pair (.int .i64) (.int .i64)
abbrev T4_ : Ty := .agg (.pair (.int .u8) (.pair (.int .u8) (.int .u8)))
noncomputable abbrev P0 : Program := Try.prog
noncomputable def bodyOf (fn : Func) : Code := fn.body.getD .skip
def L0 : Lend := fun f => aget [] [(53, [0]), (85, [0])] f
def kpL (l : List Bool) : Nat → Bool := fun j => l.getD j true
theorem own : ownKnob Try.prog.godebug = none := by kernel_rfl
theorem laidOut : laidOutB Try.prog = true := by kernel_rfl
theorem mixed : P0.follows .mixedOrders = true := by decide +kernel
theorem progOk_ : progOk P0 = true := by decide +kernel
set_option linter.unusedSimpArgs false
set_option linter.unusedVariables false

theorem insU53 : Try.prog.underlying 24 = some (.slice 28) := by kernel_rfl
theorem insI53 : Try.prog.underlying 3 = some (.int .i64) := by kernel_rfl
theorem insE53 : ∃ (inf : TypeInfo) (z : Value), Try.prog.info? 28 = some inf ∧ inf.size = 2 ∧ inf.zero = some z ∧ z.cells.size = 2 ∧ inf.bytes = 24 := insE_of (by kernel_rfl)
set_option maxHeartbeats 4000000 in
theorem insShift53 {inf : TypeInfo} (hinf : Try.prog.info? 28 = some inf) (hsz : inf.size = 2) (w : World) (b i n c vb vo vc : Nat) (arr : Array Value) (tb : Nat) (fz : Nat × Nat) (cs vs : List Value) (hmem : w.heap[b]? = some (.cells arr tb fz)) (hf : ∀ j, j < arr.size → ¬ (fz.1 ≤ j ∧ j < fz.2))
    (hi : i < n) (hroom : n + 1 ≤ c) (hsize : arr.size = c * 2) (hby : (n + 1) * 24 ≤ 140737488355328) (hbn : vb ≠ b)
    (hcs : cs = (arr.toList.take (n * 2)).drop (i * 2)) (hvl : vs.length = 2) (hvs : ∀ (j : Nat) (u : Value), vs[j]? = some u → w.cell? ⟨vb, vo + j, none⟩ = some u) (h1c : ∀ u ∈ cs, u.oneCell' = true) (h1v : ∀ u ∈ vs, u.oneCell' = true)
    (hov : ∀ y, (callFunc 80 #[.slice (some ⟨vb, vo, none⟩) 1 vc, .slice (some ⟨b, (i + 1) * 2, none⟩) (n - i) y]).run Try.prog w = .ok (.value (.bool false)) w) (A1 A2 : Array Value)
    (hA1 : A1 = (arr.toList.take ((i + 1) * 2) ++ (cs ++ arr.toList.drop ((i + 1) * 2 + cs.length))).toArray) (hA2 : A2 = (A1.toList.take (i * 2) ++ (vs ++ A1.toList.drop (i * 2 + vs.length))).toArray) :
    Calls Try.prog 53 #[.slice (some ⟨b, 0, none⟩) n c, .int .i64 (i : Nat), .slice (some ⟨vb, vo, none⟩) 1 vc] w fun e w' => e = .returned (.slice (some ⟨b, 0, none⟩) (n + 1) c) ∧ w' = (w.drew.setRow b A1).setRow b A2 := by
  have mixed := mixed
  have hz2 : ¬ ((i : Int) = (n : Int)) := by omega
  have hw1 : IntKind.i64.wrap ((i : Int) + (1 : Int)) = (i : Int) + (1 : Int) := by rw [IntKind.wrap_i64]; omega
  have hw2 : IntKind.i64.wrap ((n : Int) + (1 : Int)) = (n : Int) + (1 : Int) := by rw [IntKind.wrap_i64]; omega
  have hcl : cs.length = (n - i) * 2 := by rw [hcs]; simp; omega
  have hA1s : A1.size = arr.size := by rw [hA1]; simp [hcl]; omega
  have hcp1 : ∀ ty dc sc, (Builtin.copy_ #[24, 24] ty #[.slice (some ⟨b, (i + 1) * 2, none⟩) (n - i) dc, .slice (some ⟨b, i * 2, none⟩) (n + 1 - i) sc]).run Try.prog w.drew = .ok (.int .i64 ((n - i : Nat) : Int)) (w.drew.setRow b A1) := fun ty dc sc => by
    rw [hA1]
    refine run_copyR insU53 hinf w.drew (fz := fz) hmem hf _ _ _ (m := n + 1 - i) (k := n - i) (by omega) (lenOf_slice _ _ _ _) (run_firstCells_some w.drew _ _ _ _ _ _ (by rw [hsz]; exact hcl) (fun j v hj => ?_)) (by omega) h1c
    rw [hcs, List.getElem?_drop, List.getElem?_take] at hj
    split at hj
    · have : (⟨b, i * 2, none⟩ : Addr).add j = ⟨b, i * 2 + j, none⟩ := by unfold Addr.add; split <;> simp_all
      rw [this]
      have e : w.drew.cell? ⟨b, i * 2 + j, none⟩ = arr[i * 2 + j]? := by simp [World.cell?, show w.drew.heap = w.heap from rfl, hmem]
      rw [e]; simpa using hj
    · cases hj
  have hcp2 : ∀ (W : World), W.heap = (w.drew.setRow b A1).heap → ∀ ty dc, (Builtin.copy_ #[24, 24] ty #[.slice (some ⟨b, i * 2, none⟩) (n + 1 - i) dc, .slice (some ⟨vb, vo, none⟩) 1 vc]).run Try.prog W = .ok (.int .i64 ((1 : Nat) : Int)) (W.setRow b A2) := fun W hW ty dc => by
    rw [hA2]
    have hm1 : W.heap[b]? = some (.cells A1 tb fz) := by rw [hW]; exact setRow_heap w.drew b arr A1 tb fz hmem
    refine run_copyR insU53 hinf W (fz := fz) hm1 (by rw [hA1s]; exact hf) _ _ _ (m := 1) (k := 1) (by omega) (lenOf_slice _ _ _ _) (run_firstCells_some W _ _ _ _ _ _ (by rw [hsz]; exact hvl) (fun j v hj => ?_)) (by omega) h1v
    have : (⟨vb, vo, none⟩ : Addr).add j = ⟨vb, vo + j, none⟩ := by unfold Addr.add; split <;> simp_all
    rw [this]
    have e : W.cell? ⟨vb, vo + j, none⟩ = w.cell? ⟨vb, vo + j, none⟩ := cell_congr (by rw [hW]; exact setRow_other w.drew b vb A1 hbn)
    rw [e]; exact hvs j v hj
  have hb1 : (0 : Int) ≤ (i : Int) + 1 := by omega
  have hin : i ≤ n := by omega
  have hb2 : ¬ (c = i + 1) := by omega
  have hb4 : ¬ (c = i) := by omega
  have hb3 : (i : Int) ≤ (n : Int) + 1 := by omega
  clear hcs hA1 hA2
  go_enter Try.func53, Try.ntmps53
  go_wp2_with (simp only [hov])
  go_region_law_o (refine step_copy_runR rfl _ _ 24 24 rfl _ _ (by simp [Act.eval, Act.put]) (by simp [Act.eval, Act.put]) (hcp1 _ _ _) ?_)
  go_wp2_with (at_builtin; refine wpList_copy_runR _ rfl _ _ 24 24 rfl _ _ rfl rfl (hcp2 _ rfl _ _) ?_)
  go_ret
  exact ⟨rfl, rfl⟩
set_option maxHeartbeats 4000000 in
theorem insGrow53 {inf : TypeInfo} {z : Value} (hinf : Try.prog.info? 28 = some inf) (hsz : inf.size = 2) (hzz : inf.zero = some z) (hzs : z.cells.size = 2) (hbb : inf.bytes = 24) (w : World) (b i n c vb vo vc : Nat) (arr : Array Value) (tb : Nat) (fz : Nat × Nat) (cs vs : List Value) (hmem : w.heap[b]? = some (.cells arr tb fz))
    (hi : i < n) (hnc : n ≤ c) (hroom : ¬ (n + 1 ≤ c)) (hsize : arr.size = c * 2) (hby : (n + 1) * 24 ≤ 140737488355328) (va : Array Value) (tv : Nat) (fv : Nat × Nat) (hmemv : w.heap[vb]? = some (.cells va tv fv))
    (hcs : cs = (arr.toList.take (n * 2)).drop (i * 2)) (hvl : vs.length = 2) (hvs : ∀ (j : Nat) (u : Value), vs[j]? = some u → va[vo + j]? = some u) (h1c : ∀ u ∈ cs, u.oneCell' = true) (h1v : ∀ u ∈ vs, u.oneCell' = true)
    (G : Nat) (hG : G = grownCap w (n + 1) c 28) (ROW A1 A2 : Array Value)
    (hROW : ROW = (arr.toList.take (i * 2)).toArray ++ Builtin.zeroCells z.cells (n + 1 - i) ++ Builtin.zeroCells z.cells (G - (n + 1)))
    (hA1 : A1 = (ROW.toList.take (i * 2) ++ (vs ++ ROW.toList.drop (i * 2 + vs.length))).toArray) (hA2 : A2 = (A1.toList.take ((i + 1) * 2) ++ (cs ++ A1.toList.drop ((i + 1) * 2 + cs.length))).toArray) :
    Calls Try.prog 53 #[.slice (some ⟨b, 0, none⟩) n c, .int .i64 (i : Nat), .slice (some ⟨vb, vo, none⟩) 1 vc] w fun e w' => e = .returned (.slice (some ⟨w.heap.size, 0, none⟩) (n + 1) G) ∧ w' = (((w.drew.alloc (.cells ROW 28)).setRow w.heap.size A1).drew).setRow w.heap.size A2 := by
  have mixed := mixed
  have hz2 : ¬ ((i : Int) = (n : Int)) := by omega
  have hw1 : IntKind.i64.wrap ((i : Int) + (1 : Int)) = (i : Int) + (1 : Int) := by rw [IntKind.wrap_i64]; omega
  have hw2 : IntKind.i64.wrap ((n : Int) + (1 : Int)) = (n : Int) + (1 : Int) := by rw [IntKind.wrap_i64]; omega
  have hw3 : IntKind.i64.wrap ((n : Int) + (1 : Int) - (i : Int)) = (n : Int) + (1 : Int) - (i : Int) := by rw [IntKind.wrap_i64]; omega
  have hcl : cs.length = (n - i) * 2 := by rw [hcs]; simp; omega
  have hGn : n + 1 ≤ G := by rw [hG]; exact grownCap_ge w _ _ _
  have hbw : b < w.heap.size := (Array.getElem?_eq_some_iff.1 hmem).1
  have hvw : vb < w.heap.size := (Array.getElem?_eq_some_iff.1 hmemv).1
  have hzc : ∀ k, (Builtin.zeroCells z.cells k).size = k * 2 := fun k => by rw [size_zeroCells, hzs]
  have hRs : ROW.size = G * 2 := by
    rw [hROW]; simp only [Array.size_append, hzc, List.size_toArray, List.length_take, Array.length_toList]; omega
  have hA1s : A1.size = ROW.size := by rw [hA1]; simp [hvl]; omega
  have hold : (Builtin.firstCells inf.size i (.slice (some ⟨b, 0, none⟩) i c)).run Try.prog w.drew = .ok (arr.toList.take (i * 2)).toArray w.drew := by
    rw [hsz]
    refine run_firstCells_some w.drew 2 i ⟨b, 0, none⟩ i c (arr.toList.take (i * 2)) (by rw [List.length_take]; simp; omega) (fun j v hj => ?_)
    rw [List.getElem?_take] at hj
    split at hj
    · have : (⟨b, 0, none⟩ : Addr).add j = ⟨b, j, none⟩ := by unfold Addr.add; split <;> simp_all
      rw [this]
      have e : w.drew.cell? ⟨b, j, none⟩ = arr[j]? := by simp [World.cell?, show w.drew.heap = w.heap from rfl, hmem]
      rw [e]; simpa using hj
    · cases hj
  have hik : i + (n + 1 - i) = n + 1 := by omega
  have hkk : (n : Int) + 1 - (i : Int) = ((n + 1 - i : Nat) : Int) := by omega
  obtain ⟨W1, hW1⟩ : ∃ W1, W1 = w.drew.alloc (.cells ROW 28) := ⟨_, rfl⟩
  have hrz : ∀ ty, (Builtin.append_ #[24, 3] ty #[.slice (some ⟨b, 0, none⟩) i c, .int .i64 ((n : Int) + 1 - (i : Int))]).run Try.prog w = .ok (.slice (some ⟨w.heap.size, 0, none⟩) (n + 1) G) W1 := fun ty => by
    have hnx := nextslicecap_le (need := n + 1) (old := c) (by omega)
    have h := Lib.run_append_grow_zeros w 24 3 ty 28 inf z .i64 .i64 insU53 insI53 hinf hzz (some ⟨b, 0, none⟩) i c (arr.toList.take (i * 2)) hold (n + 1 - i) (by omega) (by omega) (by omega) (by omega) (by rw [hbb]; omega) (by rw [hbb, hik]; omega)
    rw [hik, ← hG, ← hROW, ← hW1] at h
    rw [hkk]
    exact h
  have hWn : W1.heap[w.heap.size]? = some (.cells ROW 28 (0, 0)) := by rw [hW1]; exact heap_alloc_new w.drew _
  have hWo : ∀ j, j < w.heap.size → W1.heap[j]? = w.heap[j]? := fun j hj => by rw [hW1]; exact heap_alloc_old w.drew _ hj
  have hcp1 : ∀ (W : World), W.heap = W1.heap → ∀ ty dc, (Builtin.copy_ #[24, 24] ty #[.slice (some ⟨w.heap.size, i * 2, none⟩) (n + 1 - i) dc, .slice (some ⟨vb, vo, none⟩) 1 vc]).run Try.prog W = .ok (.int .i64 ((1 : Nat) : Int)) (W.setRow w.heap.size A1) := fun W hW ty dc => by
    rw [hA1]
    refine run_copyR insU53 hinf W (fz := (0, 0)) (by rw [hW]; exact hWn) (fun j _ hj => by simp at hj) _ _ _ (m := 1) (k := 1) (by omega) (lenOf_slice _ _ _ _) (run_firstCells_some W _ _ _ _ _ _ (by rw [hsz]; exact hvl) (fun j v hj => ?_)) (by omega) h1v
    have : (⟨vb, vo, none⟩ : Addr).add j = ⟨vb, vo + j, none⟩ := by unfold Addr.add; split <;> simp_all
    rw [this]
    have e : W.cell? ⟨vb, vo + j, none⟩ = va[vo + j]? := by simp [World.cell?, hW, hWo vb hvw, hmemv]
    rw [e]; exact hvs j v hj
  have hcp2 : ∀ (W : World), W.heap = (W1.setRow w.heap.size A1).heap → ∀ ty dc sc, (Builtin.copy_ #[24, 24] ty #[.slice (some ⟨w.heap.size, (i + 1) * 2, none⟩) (n - i) dc, .slice (some ⟨b, i * 2, none⟩) (n - i) sc]).run Try.prog W = .ok (.int .i64 ((n - i : Nat) : Int)) (W.setRow w.heap.size A2) := fun W hW ty dc sc => by
    rw [hA2]
    have hm1 : W.heap[w.heap.size]? = some (.cells A1 28 (0, 0)) := by rw [hW]; exact setRow_heap W1 w.heap.size ROW A1 28 (0, 0) hWn
    refine run_copyR insU53 hinf W (fz := (0, 0)) hm1 (fun j _ hj => by simp at hj) _ _ _ (m := n - i) (k := n - i) (by omega) (lenOf_slice _ _ _ _) (run_firstCells_some W _ _ _ _ _ _ (by rw [hsz]; exact hcl) (fun j v hj => ?_)) (by omega) h1c
    rw [hcs, List.getElem?_drop, List.getElem?_take] at hj
    split at hj
    · have : (⟨b, i * 2, none⟩ : Addr).add j = ⟨b, i * 2 + j, none⟩ := by unfold Addr.add; split <;> simp_all
      rw [this]
      have e : W.cell? ⟨b, i * 2 + j, none⟩ = arr[i * 2 + j]? := by
        have e1 : W.heap[b]? = w.heap[b]? := by rw [hW, setRow_other W1 w.heap.size b A1 (by omega)]; exact hWo b hbw
        simp [World.cell?, e1, hmem]
      rw [e]; simpa using hj
    · cases hj
  have hb1 : (0 : Int) ≤ (i : Int) + 1 := by omega
  have hin : i ≤ n := by omega
  have hb2 : ¬ (G = i + 1) := by omega
  have hb4 : ¬ (c = i) := by omega
  have hb5 : ¬ (G = i) := by omega
  have hb3 : (i : Int) ≤ (n : Int) + 1 := by omega
  have hb6 : (c : Int) < (n : Int) + 1 := by omega
  have hb7 : i ≤ c := by omega
  rw [← hW1]
  clear hG hcs hA1 hA2 hW1 hold hROW hWn hWo hik hkk
  go_enter Try.func53, Try.ntmps53
  go_wp2_with (first
    | (at_builtin; refine Lib.wpList_append_run _ rfl _ _ _ _ rfl _ _ rfl rfl _ _ (hrz _) ?_)
    | (at_builtin; refine wpList_copy_runR _ rfl _ _ 24 24 rfl _ _ rfl rfl (hcp1 _ (by exact rfl) _ _) ?_))
  have hF : ((W1.setRow w.heap.size A1).drew).heap = (W1.setRow w.heap.size A1).heap := rfl
  go_region_law_o (refine step_copy_runR rfl _ _ 24 24 rfl (.slice (some ⟨w.heap.size, (i + 1) * 2, none⟩) (n - i) (G - (i + 1))) (.slice (some ⟨b, i * 2, none⟩) (n - i) (c - i)) (by simp [Act.eval, Act.put]) (by simp [Act.eval, Act.put]) (hcp2 _ hF 3 (G - (i + 1)) (c - i)) ?_)
  go_wp2
  go_ret
  exact ⟨rfl, rfl⟩
theorem insF53 : InsF Try.prog 53 28 2 24 := by
  intro w b i n c vb vo vc arr va tb tv fz fv vs hmem hsize hf hmemv hfv hbn hvl hvs h1v h1c hi hnc hby
  obtain ⟨inf, z, hinf, hsz, hzz, hzs, hbb⟩ := insE53
  obtain ⟨cs, hcs⟩ : ∃ cs, cs = (arr.toList.take (n * 2)).drop (i * 2) := ⟨_, rfl⟩
  have h1 : ∀ u ∈ cs, u.oneCell' = true := fun u hu => h1c u (by rw [hcs] at hu; exact List.mem_of_mem_drop hu)
  have hcl : cs.length = (n - i) * 2 := by rw [hcs]; simp; omega
  by_cases hroom : n + 1 ≤ c
  · have hvo : vo < va.size := by
      have := hvs 0 vs[0] (List.getElem?_eq_getElem (by omega))
      have := (Array.getElem?_eq_some_iff.1 this).1
      omega
    have hov : ∀ y, (callFunc 80 #[.slice (some ⟨vb, vo, none⟩) 1 vc, .slice (some ⟨b, (i + 1) * 2, none⟩) (n - i) y]).run Try.prog w = .ok (.value (.bool false)) w := fun y => by
      rw [run_callFunc_extern Try.func80 (by kernel_rfl) (by kernel_rfl) (by kernel_rfl) (e := Extern.SlicesOverlaps.overlaps #[24, 24] #[4]) (by kernel_rfl),
        Lib.run_overlaps_apart w 24 4 28 insU53 2 (fun w => by rw [run_size hinf, hsz]) ⟨vb, vo, none⟩ ⟨b, (i + 1) * 2, none⟩ 1 vc (n - i) y hbn tv tb va.size arr.size (by simp [World.shape?, hmemv]) (by simp [World.shape?, hmem]) (by omega)
          (by have := hfv vo (by omega); simp only [World.frozen?, hmemv]; simp; omega) (by have := hfv va.size (Nat.le_refl _); simp only [World.frozen?, hmemv]; simp; omega)]
      rfl
    refine (insShift53 hinf hsz w b i n c vb vo vc arr tb fz cs vs hmem (fun j hj => hf j (by omega)) hi hroom hsize hby hbn hcs hvl (fun j u hj => by simpa [World.cell?, hmemv] using hvs j u hj) h1 h1v hov _ _ rfl rfl).mono fun x w' => ?_
    rintro ⟨rfl, rfl⟩
    have hA1s : (arr.toList.take ((i + 1) * 2) ++ (cs ++ arr.toList.drop ((i + 1) * 2 + cs.length))).toArray.size = arr.size := by simp [hcl]; omega
    have hm1 := setRow_heap w.drew b arr (arr.toList.take ((i + 1) * 2) ++ (cs ++ arr.toList.drop ((i + 1) * 2 + cs.length))).toArray tb fz hmem
    generalize hA1 : (arr.toList.take ((i + 1) * 2) ++ (cs ++ arr.toList.drop ((i + 1) * 2 + cs.length))).toArray = A1 at *
    have hA2s : (A1.toList.take (i * 2) ++ (vs ++ A1.toList.drop (i * 2 + vs.length))).toArray.size = A1.size := by simp [hvl]; omega
    have hm2 := setRow_heap (w.drew.setRow b A1) b A1 (A1.toList.take (i * 2) ++ (vs ++ A1.toList.drop (i * 2 + vs.length))).toArray tb fz hm1
    refine ⟨b, c, tb, _, fz, rfl, rfl, rfl, rfl, hm2, fun j hj => hf j (by rw [hA2s, hA1s] at hj; exact hj), by rw [hA2s, hA1s]; exact hsize, hroom, ?_, .inl ⟨rfl, rfl, by rw [hA2s, hA1s], by rw [setRow_size, setRow_size]; rfl, fun j hj => ?_⟩⟩
    · subst hA1
      exact insShiftL arr.toList vs cs (i * 2) (n * 2) 2 ((i + 1) * 2) ((n + 1) * 2) (by omega) (by omega) (by omega) (by simp; omega) hvl hcs
    · rw [setRow_other _ _ _ _ hj, setRow_other _ _ _ _ hj]; rfl
  · refine (insGrow53 hinf hsz hzz hzs hbb w b i n c vb vo vc arr tb fz cs vs hmem hi hnc hroom hsize hby va tv fv hmemv hcs hvl hvs h1 h1v _ rfl _ _ _ rfl rfl rfl).mono fun x w' => ?_
    rintro ⟨rfl, rfl⟩
    have hGn : n + 1 ≤ grownCap w (n + 1) c 28 := grownCap_ge w _ _ _
    have hzc : ∀ k, (Builtin.zeroCells z.cells k).size = k * 2 := fun k => by rw [size_zeroCells, hzs]
    have hRs : ((arr.toList.take (i * 2)).toArray ++ Builtin.zeroCells z.cells (n + 1 - i) ++ Builtin.zeroCells z.cells (grownCap w (n + 1) c 28 - (n + 1))).size = grownCap w (n + 1) c 28 * 2 := by
      simp only [Array.size_append, hzc, List.size_toArray, List.length_take, Array.length_toList]; omega
    have hRt : ((arr.toList.take (i * 2)).toArray ++ Builtin.zeroCells z.cells (n + 1 - i) ++ Builtin.zeroCells z.cells (grownCap w (n + 1) c 28 - (n + 1))).toList.take (i * 2) = arr.toList.take (i * 2) := by
      simp only [Array.toList_append, List.append_assoc]
      exact List.take_left' (by simp; omega)
    generalize hG : grownCap w (n + 1) c 28 = G at *
    generalize hR : (arr.toList.take (i * 2)).toArray ++ Builtin.zeroCells z.cells (n + 1 - i) ++ Builtin.zeroCells z.cells (G - (n + 1)) = ROW at *
    have hm0 : (w.drew.alloc (.cells ROW 28)).heap[w.heap.size]? = some (.cells ROW 28 (0, 0)) := heap_alloc_new w.drew _
    have hA1s : (ROW.toList.take (i * 2) ++ (vs ++ ROW.toList.drop (i * 2 + vs.length))).toArray.size = ROW.size := by simp [hvl]; omega
    have hm1 := setRow_heap (w.drew.alloc (.cells ROW 28)) w.heap.size ROW (ROW.toList.take (i * 2) ++ (vs ++ ROW.toList.drop (i * 2 + vs.length))).toArray 28 (0, 0) hm0
    generalize hA1 : (ROW.toList.take (i * 2) ++ (vs ++ ROW.toList.drop (i * 2 + vs.length))).toArray = A1 at *
    have hA2s : (A1.toList.take ((i + 1) * 2) ++ (cs ++ A1.toList.drop ((i + 1) * 2 + cs.length))).toArray.size = A1.size := by simp [hcl]; omega
    have hm2 := setRow_heap ((w.drew.alloc (.cells ROW 28)).setRow w.heap.size A1).drew w.heap.size A1 (A1.toList.take ((i + 1) * 2) ++ (cs ++ A1.toList.drop ((i + 1) * 2 + cs.length))).toArray 28 (0, 0) hm1
    refine ⟨w.heap.size, G, 28, _, (0, 0), rfl, rfl, rfl, rfl, hm2, fun j _ hj => by simp at hj, by rw [hA2s, hA1s]; exact hRs, hGn, ?_, .inr ⟨rfl, rfl, ?_, fun j hj => ?_⟩⟩
    · subst hA1
      exact insGrowL arr.toList ROW.toList vs cs (i * 2) (n * 2) 2 ((i + 1) * 2) ((n + 1) * 2) (by omega) (by omega) (by omega) (by simp; omega) hvl hcs hRt
    · rw [setRow_size]
      show ((w.drew.alloc (.cells ROW 28)).setRow w.heap.size A1).heap.size = _
      rw [setRow_size]
      simp
    · rw [setRow_other _ _ _ _ (by omega)]
      show ((w.drew.alloc (.cells ROW 28)).setRow w.heap.size A1).heap[j]? = _
      rw [setRow_other _ _ _ _ (by omega)]
      exact heap_alloc_old w.drew _ hj


def insT : InsT := [(53, (28, 2, 24))]
theorem insT_ok : InsOk Try.prog insT := by
  intro f e sz bytes h
  by_cases h53 : f = 53
  · subst h53
    simp [insT, List.lookup] at h
    obtain ⟨rfl, rfl, rfl⟩ := h
    exact ⟨insF53, _, Try.func53, by kernel_rfl, by kernel_rfl⟩
  have e53 : (f == 53) = false := by simpa using h53
  simp [insT, List.lookup, e53] at h


theorem delU85 : Try.prog.underlying 24 = some (.slice 28) := by kernel_rfl
theorem delE85 : ∃ (inf : TypeInfo) (z : Value), Try.prog.info? 28 = some inf ∧ inf.size = 2 ∧ inf.zero = some z ∧ z.cells.size = 2 ∧ (∀ u ∈ z.cells.toList, u.oneCell' = true) := delE_of (by kernel_rfl)
set_option maxHeartbeats 4000000 in
theorem delW85 {inf : TypeInfo} {z : Value} (hinf : Try.prog.info? 28 = some inf) (hsz : inf.size = 2) (hzz : inf.zero = some z) (hzs : z.cells.size = 2) (hz1 : ∀ u ∈ z.cells.toList, u.oneCell' = true) (w : World) (b i k c : Nat) (arr : Array Value) (tb : Nat) (fz : Nat × Nat) (cs : List Value) (hmem : w.heap[b]? = some (.cells arr tb fz)) (hf : ∀ j, j < arr.size → ¬ (fz.1 ≤ j ∧ j < fz.2))
    (hi : i < k + 1) (hnc : k + 1 ≤ c) (hn : k + 1 ≤ 140737488355328) (hsize : arr.size = c * 2) (hcs : cs = (arr.toList.take ((k + 1) * 2)).drop ((i + 1) * 2)) (h1c : ∀ u ∈ cs, u.oneCell' = true) (A1 A2 : Array Value)
    (hA1 : A1 = (arr.toList.take (i * 2) ++ (cs ++ arr.toList.drop (i * 2 + cs.length))).toArray) (hA2 : A2 = (A1.toList.take (k * 2) ++ (z.cells.toList ++ A1.toList.drop (k * 2 + z.cells.toList.length))).toArray) :
    Calls Try.prog 85 #[.slice (some ⟨b, 0, none⟩) (k + 1) c, .int .i64 (i : Nat), .int .i64 ((i : Int) + 1)] w fun e w' => e = .returned (.slice (some ⟨b, 0, none⟩) k c) ∧ w' = (w.drew.setRow b A1).setRow b A2 := by
  have mixed := mixed
  have hz2 : ¬ ((i : Int) = (i : Int) + 1) := by omega
  have hcl : cs.length = (k - i) * 2 := by rw [hcs]; simp; omega
  have hA1s : A1.size = arr.size := by rw [hA1]; simp [hcl]; omega
  obtain ⟨Ad, hA, hsrc⟩ : ∃ Ad : Addr, (if c = i + 1 then (some ⟨b, 0, none⟩ : Option Addr) else some ⟨b, (i + 1) * 2, none⟩) = some Ad ∧ (∀ (t : Nat) (u : Value), cs[t]? = some u → w.drew.cell? (Ad.add t) = some u) := by
    by_cases h : c = i + 1
    · refine ⟨⟨b, 0, none⟩, by simp [h], fun t u hu => ?_⟩
      have h0 : cs = [] := List.eq_nil_of_length_eq_zero (by rw [hcl, show k - i = 0 by omega, Nat.zero_mul])
      rw [h0] at hu; simp at hu
    · refine ⟨⟨b, (i + 1) * 2, none⟩, by simp [h], fun t u hu => ?_⟩
      rw [hcs, List.getElem?_drop, List.getElem?_take] at hu
      split at hu
      · rw [Addr.add_lit]
        have e : w.drew.cell? ⟨b, (i + 1) * 2 + t, none⟩ = arr[(i + 1) * 2 + t]? := by simp [World.cell?, show w.drew.heap = w.heap from rfl, hmem]
        rw [e]; simpa using hu
      · cases hu
  obtain ⟨W1, hW1⟩ : ∃ W1, W1 = w.drew.setRow b A1 := ⟨_, rfl⟩
  have hm1 : W1.heap[b]? = some (.cells A1 tb fz) := by rw [hW1]; exact setRow_heap w.drew b arr A1 tb fz hmem
  have hap : ∀ ty m' c', m' = k - i → (Builtin.append_ #[24, 24] ty #[.slice (some ⟨b, 0, none⟩) i c, .slice (some Ad) m' c']).run Try.prog w.drew = .ok (.slice (some ⟨b, 0, none⟩) k c) W1 := fun ty m' c' hm => by
    subst hm
    have h := run_appendR (P := Try.prog) delU85 hinf w.drew hmem hf i c ty Ad (k - i) c' cs (by rw [hsz]; exact hcl) hsrc h1c (by omega) (by rw [hsize, hsz])
    rw [hsz] at h
    rw [h, hW1, hA1, show i + (k - i) = k by omega]
  have hclr : ∀ ty m' c', m' = 1 → (Builtin.clear_ #[24] ty #[.slice (some ⟨b, k * 2, none⟩) m' c']).run Try.prog W1 = .ok (.tuple #[]) (W1.setRow b A2) := fun ty m' c' hm => by
    subst hm
    rw [hA2]
    exact run_clearR (P := Try.prog) delU85 hinf hzz W1 hm1 (by rw [hA1s]; exact hf) (k * 2) c' ty hz1 (by simp [hzs]; rw [hA1s, hsize]; omega)
  have hic : i ≤ c := by omega
  have hjc : i + 1 ≤ c := by omega
  have hb3 : ¬ (c = k) := by omega
  have hb1 : (0 : Int) ≤ (i : Int) + 1 := by omega
  have hb4 : ((k + 1 : Nat) : Int) = (k : Int) + 1 := by omega
  have hb5 : (0 : Int) ≤ (k : Int) := by omega
  have hb6 : (k : Int) ≤ (k : Int) + 1 := by omega
  have hb7 : (k : Int) + 1 ≤ (c : Int) := by omega
  have hb8 : (i : Int) + 1 ≤ (k : Int) + 1 := by omega
  have hb2 : (i : Int) + 1 ≤ ((k + 1 : Nat) : Int) := by omega
  rw [← hW1]
  clear hcs hA1 hA2 hW1 hm1 hsrc hcl
  go_enter Try.func85, Try.ntmps85
  go_wp2_with fail
  go_region_law_o (refine step_append_runR rfl _ _ 24 24 rfl (.slice (some ⟨b, 0, none⟩) i c) (.slice (some Ad) (k - i) (c - (i + 1))) (by simp [Act.eval, Act.put]) (by simp [Act.eval, Act.put]) (hap _ _ _ rfl) ?_)
  go_wp2
  go_ret
  exact ⟨rfl, rfl⟩
theorem delF85 : DelF Try.prog 85 2 := by
  intro w b i n c arr tb fz hmem hsize hf h1c hi hnc hn
  obtain ⟨inf, z, hinf, hsz, hzz, hzs, hz1⟩ := delE85
  obtain ⟨k, rfl⟩ : ∃ k, n = k + 1 := ⟨n - 1, by omega⟩
  simp only [Nat.add_sub_cancel]
  obtain ⟨cs, hcs⟩ : ∃ cs, cs = (arr.toList.take ((k + 1) * 2)).drop ((i + 1) * 2) := ⟨_, rfl⟩
  have hsl : arr.toList.length = arr.size := Array.length_toList
  have hcl : cs.length = (k - i) * 2 := by rw [hcs, List.length_drop, List.length_take, hsl, hsize]; omega
  have hzl : z.cells.toList.length = 2 := by rw [Array.length_toList, hzs]
  refine (delW85 hinf hsz hzz hzs hz1 w b i k c arr tb fz cs hmem hf hi hnc hn hsize hcs (fun u hu => h1c u (by rw [hcs] at hu; exact List.mem_of_mem_drop hu)) _ _ rfl rfl).mono fun x w' => ?_
  rintro ⟨rfl, rfl⟩
  have hA1s : (arr.toList.take (i * 2) ++ (cs ++ arr.toList.drop (i * 2 + cs.length))).toArray.size = arr.size := by simp [hcl]; omega
  have hm1 := setRow_heap w.drew b arr (arr.toList.take (i * 2) ++ (cs ++ arr.toList.drop (i * 2 + cs.length))).toArray tb fz hmem
  have hA1t : (arr.toList.take (i * 2) ++ (cs ++ arr.toList.drop (i * 2 + cs.length))).toArray.toList.take (k * 2) = arr.toList.take (i * 2) ++ cs := by
    rw [List.toList_toArray, ← List.append_assoc]
    exact List.take_left' (by rw [List.length_append, List.length_take, hcl, hsl, hsize]; omega)
  generalize hA1 : (arr.toList.take (i * 2) ++ (cs ++ arr.toList.drop (i * 2 + cs.length))).toArray = A1 at *
  have hA1l : A1.toList.length = A1.size := Array.length_toList
  have hA2s : (A1.toList.take (k * 2) ++ (z.cells.toList ++ A1.toList.drop (k * 2 + z.cells.toList.length))).toArray.size = A1.size := by simp only [List.size_toArray, List.length_append, List.length_take, List.length_drop, hzl, hA1l, hA1s, hsize]; omega
  have hm2 := setRow_heap (w.drew.setRow b A1) b A1 (A1.toList.take (k * 2) ++ (z.cells.toList ++ A1.toList.drop (k * 2 + z.cells.toList.length))).toArray tb fz hm1
  refine ⟨rfl, rfl, rfl, rfl, _, hm2, by rw [hA2s, hA1s], ?_, by simp [World.setRow], fun j hj => ?_⟩
  · rw [List.toList_toArray, List.take_left' (by rw [List.length_take, hA1l, hA1s, hsize]; omega), hA1t, hcs]
  · rw [setRow_other _ _ _ _ hj, setRow_other _ _ _ _ hj]; rfl

set_option linter.unusedSimpArgs false
set_option linter.unusedVariables false

theorem iqU53 : Try.prog.underlying 24 = some (.slice 28) := by kernel_rfl
theorem iqI53 : Try.prog.underlying 3 = some (.int .i64) := by kernel_rfl
theorem iqE53 : ∃ (inf : TypeInfo) (z : Value), Try.prog.info? 28 = some inf ∧ inf.size = 2 ∧ inf.zero = some z ∧ z.cells.size = 2 ∧ inf.bytes = 24 := insE_of (by kernel_rfl)
set_option maxHeartbeats 4000000 in
theorem iqShift53 {inf : TypeInfo} (hinf : Try.prog.info? 28 = some inf) (hsz : inf.size = 2) (w : World) (b i n c vb vo vc : Nat) (arr : Array Value) (tb : Nat) (fz : Nat × Nat) (cs vs : List Value) (hmem : w.heap[b]? = some (.cells arr tb fz)) (hf : ∀ j, j < arr.size → ¬ (fz.1 ≤ j ∧ j < fz.2))
    (hi : i < n) (hroom : n + 1 ≤ c) (hsize : arr.size = c * 2) (hby : (n + 1) * 24 ≤ 140737488355328) (hbn : vb ≠ b)
    (hcs : cs = (arr.toList.take (n * 2)).drop (i * 2)) (hvl : vs.length = 2) (hvs : ∀ (j : Nat) (u : Value), vs[j]? = some u → w.cell? ⟨vb, vo + j, none⟩ = some u) (h1c : ∀ u ∈ cs, u.oneCell' = true) (h1v : ∀ u ∈ vs, u.oneCell' = true)
    (hov : ∀ y, (callFunc 80 #[.slice (some ⟨vb, vo, none⟩) 1 vc, .slice (some ⟨b, (i + 1) * 2, none⟩) (n - i) y]).run Try.prog w = .ok (.value (.bool false)) w) (A1 A2 : Array Value)
    (hA1 : A1 = (arr.toList.take ((i + 1) * 2) ++ (cs ++ arr.toList.drop ((i + 1) * 2 + cs.length))).toArray) (hA2 : A2 = (A1.toList.take (i * 2) ++ (vs ++ A1.toList.drop (i * 2 + vs.length))).toArray) :
    Calls Try.prog 53 #[.slice (some ⟨b, 0, none⟩) n c, .int .i64 (i : Nat), .slice (some ⟨vb, vo, none⟩) 1 vc] w fun e w' => e = .returned (.slice (some ⟨b, 0, none⟩) (n + 1) c) ∧ w' = (w.drew.setRow b A1).setRow b A2 := by
  have mixed := mixed
  have hz2 : ¬ ((i : Int) = (n : Int)) := by omega
  have hw1 : IntKind.i64.wrap ((i : Int) + (1 : Int)) = (i : Int) + (1 : Int) := by rw [IntKind.wrap_i64]; omega
  have hw2 : IntKind.i64.wrap ((n : Int) + (1 : Int)) = (n : Int) + (1 : Int) := by rw [IntKind.wrap_i64]; omega
  have hcl : cs.length = (n - i) * 2 := by rw [hcs]; simp; omega
  have hA1s : A1.size = arr.size := by rw [hA1]; simp [hcl]; omega
  have hcp1 : ∀ ty dc sc, (Builtin.copy_ #[24, 24] ty #[.slice (some ⟨b, (i + 1) * 2, none⟩) (n - i) dc, .slice (some ⟨b, i * 2, none⟩) (n + 1 - i) sc]).run Try.prog w.drew = .ok (.int .i64 ((n - i : Nat) : Int)) (w.drew.setRow b A1) := fun ty dc sc => by
    rw [hA1]
    refine run_copyR iqU53 hinf w.drew (fz := fz) hmem hf _ _ _ (m := n + 1 - i) (k := n - i) (by omega) (lenOf_slice _ _ _ _) (run_firstCells_some w.drew _ _ _ _ _ _ (by rw [hsz]; exact hcl) (fun j v hj => ?_)) (by omega) h1c
    rw [hcs, List.getElem?_drop, List.getElem?_take] at hj
    split at hj
    · have : (⟨b, i * 2, none⟩ : Addr).add j = ⟨b, i * 2 + j, none⟩ := by unfold Addr.add; split <;> simp_all
      rw [this]
      have e : w.drew.cell? ⟨b, i * 2 + j, none⟩ = arr[i * 2 + j]? := by simp [World.cell?, show w.drew.heap = w.heap from rfl, hmem]
      rw [e]; simpa using hj
    · cases hj
  have hcp2 : ∀ (W : World), W.heap = (w.drew.setRow b A1).heap → ∀ ty dc, (Builtin.copy_ #[24, 24] ty #[.slice (some ⟨b, i * 2, none⟩) (n + 1 - i) dc, .slice (some ⟨vb, vo, none⟩) 1 vc]).run Try.prog W = .ok (.int .i64 ((1 : Nat) : Int)) (W.setRow b A2) := fun W hW ty dc => by
    rw [hA2]
    have hm1 : W.heap[b]? = some (.cells A1 tb fz) := by rw [hW]; exact setRow_heap w.drew b arr A1 tb fz hmem
    refine run_copyR iqU53 hinf W (fz := fz) hm1 (by rw [hA1s]; exact hf) _ _ _ (m := 1) (k := 1) (by omega) (lenOf_slice _ _ _ _) (run_firstCells_some W _ _ _ _ _ _ (by rw [hsz]; exact hvl) (fun j v hj => ?_)) (by omega) h1v
    have : (⟨vb, vo, none⟩ : Addr).add j = ⟨vb, vo + j, none⟩ := by unfold Addr.add; split <;> simp_all
    rw [this]
    have e : W.cell? ⟨vb, vo + j, none⟩ = w.cell? ⟨vb, vo + j, none⟩ := cell_congr (by rw [hW]; exact setRow_other w.drew b vb A1 hbn)
    rw [e]; exact hvs j v hj
  have hb1 : (0 : Int) ≤ (i : Int) + 1 := by omega
  have hin : i ≤ n := by omega
  have hb2 : ¬ (c = i + 1) := by omega
  have hb4 : ¬ (c = i) := by omega
  have hb3 : (i : Int) ≤ (n : Int) + 1 := by omega
  clear hcs hA1 hA2
  go_enter Try.func53, Try.ntmps53
  go_wp2_with (simp only [hov])
  go_region_law_o (refine step_copy_runR rfl _ _ 24 24 rfl _ _ (by simp [Act.eval, Act.put]) (by simp [Act.eval, Act.put]) (hcp1 _ _ _) ?_)
  go_wp2_with (at_builtin; refine wpList_copy_runR _ rfl _ _ 24 24 rfl _ _ rfl rfl (hcp2 _ rfl _ _) ?_)
  go_ret
  exact ⟨rfl, rfl⟩
set_option maxHeartbeats 4000000 in
theorem iqGrow53 {inf : TypeInfo} {z : Value} (hinf : Try.prog.info? 28 = some inf) (hsz : inf.size = 2) (hzz : inf.zero = some z) (hzs : z.cells.size = 2) (hbb : inf.bytes = 24) (w : World) (b i n c vb vo vc : Nat) (arr : Array Value) (tb : Nat) (fz : Nat × Nat) (cs vs : List Value) (hmem : w.heap[b]? = some (.cells arr tb fz))
    (hi : i < n) (hnc : n ≤ c) (hroom : ¬ (n + 1 ≤ c)) (hsize : arr.size = c * 2) (hby : (n + 1) * 24 ≤ 140737488355328) (va : Array Value) (tv : Nat) (fv : Nat × Nat) (hmemv : w.heap[vb]? = some (.cells va tv fv))
    (hcs : cs = (arr.toList.take (n * 2)).drop (i * 2)) (hvl : vs.length = 2) (hvs : ∀ (j : Nat) (u : Value), vs[j]? = some u → va[vo + j]? = some u) (h1c : ∀ u ∈ cs, u.oneCell' = true) (h1v : ∀ u ∈ vs, u.oneCell' = true)
    (G : Nat) (hG : G = grownCap w (n + 1) c 28) (ROW A1 A2 : Array Value)
    (hROW : ROW = (arr.toList.take (i * 2)).toArray ++ Builtin.zeroCells z.cells (n + 1 - i) ++ Builtin.zeroCells z.cells (G - (n + 1)))
    (hA1 : A1 = (ROW.toList.take (i * 2) ++ (vs ++ ROW.toList.drop (i * 2 + vs.length))).toArray) (hA2 : A2 = (A1.toList.take ((i + 1) * 2) ++ (cs ++ A1.toList.drop ((i + 1) * 2 + cs.length))).toArray) :
    Calls Try.prog 53 #[.slice (some ⟨b, 0, none⟩) n c, .int .i64 (i : Nat), .slice (some ⟨vb, vo, none⟩) 1 vc] w fun e w' => e = .returned (.slice (some ⟨w.heap.size, 0, none⟩) (n + 1) G) ∧ w' = (((w.drew.alloc (.cells ROW 28)).setRow w.heap.size A1).drew).setRow w.heap.size A2 := by
  have mixed := mixed
  have hz2 : ¬ ((i : Int) = (n : Int)) := by omega
  have hw1 : IntKind.i64.wrap ((i : Int) + (1 : Int)) = (i : Int) + (1 : Int) := by rw [IntKind.wrap_i64]; omega
  have hw2 : IntKind.i64.wrap ((n : Int) + (1 : Int)) = (n : Int) + (1 : Int) := by rw [IntKind.wrap_i64]; omega
  have hw3 : IntKind.i64.wrap ((n : Int) + (1 : Int) - (i : Int)) = (n : Int) + (1 : Int) - (i : Int) := by rw [IntKind.wrap_i64]; omega
  have hcl : cs.length = (n - i) * 2 := by rw [hcs]; simp; omega
  have hGn : n + 1 ≤ G := by rw [hG]; exact grownCap_ge w _ _ _
  have hbw : b < w.heap.size := (Array.getElem?_eq_some_iff.1 hmem).1
  have hvw : vb < w.heap.size := (Array.getElem?_eq_some_iff.1 hmemv).1
  have hzc : ∀ k, (Builtin.zeroCells z.cells k).size = k * 2 := fun k => by rw [size_zeroCells, hzs]
  have hRs : ROW.size = G * 2 := by
    rw [hROW]; simp only [Array.size_append, hzc, List.size_toArray, List.length_take, Array.length_toList]; omega
  have hA1s : A1.size = ROW.size := by rw [hA1]; simp [hvl]; omega
  have hold : (Builtin.firstCells inf.size i (.slice (some ⟨b, 0, none⟩) i c)).run Try.prog w.drew = .ok (arr.toList.take (i * 2)).toArray w.drew := by
    rw [hsz]
    refine run_firstCells_some w.drew 2 i ⟨b, 0, none⟩ i c (arr.toList.take (i * 2)) (by rw [List.length_take]; simp; omega) (fun j v hj => ?_)
    rw [List.getElem?_take] at hj
    split at hj
    · have : (⟨b, 0, none⟩ : Addr).add j = ⟨b, j, none⟩ := by unfold Addr.add; split <;> simp_all
      rw [this]
      have e : w.drew.cell? ⟨b, j, none⟩ = arr[j]? := by simp [World.cell?, show w.drew.heap = w.heap from rfl, hmem]
      rw [e]; simpa using hj
    · cases hj
  have hik : i + (n + 1 - i) = n + 1 := by omega
  have hkk : (n : Int) + 1 - (i : Int) = ((n + 1 - i : Nat) : Int) := by omega
  obtain ⟨W1, hW1⟩ : ∃ W1, W1 = w.drew.alloc (.cells ROW 28) := ⟨_, rfl⟩
  have hrz : ∀ ty, (Builtin.append_ #[24, 3] ty #[.slice (some ⟨b, 0, none⟩) i c, .int .i64 ((n : Int) + 1 - (i : Int))]).run Try.prog w = .ok (.slice (some ⟨w.heap.size, 0, none⟩) (n + 1) G) W1 := fun ty => by
    have hnx := nextslicecap_le (need := n + 1) (old := c) (by omega)
    have h := Lib.run_append_grow_zeros w 24 3 ty 28 inf z .i64 .i64 iqU53 iqI53 hinf hzz (some ⟨b, 0, none⟩) i c (arr.toList.take (i * 2)) hold (n + 1 - i) (by omega) (by omega) (by omega) (by omega) (by rw [hbb]; omega) (by rw [hbb, hik]; omega)
    rw [hik, ← hG, ← hROW, ← hW1] at h
    rw [hkk]
    exact h
  have hWn : W1.heap[w.heap.size]? = some (.cells ROW 28 (0, 0)) := by rw [hW1]; exact heap_alloc_new w.drew _
  have hWo : ∀ j, j < w.heap.size → W1.heap[j]? = w.heap[j]? := fun j hj => by rw [hW1]; exact heap_alloc_old w.drew _ hj
  have hcp1 : ∀ (W : World), W.heap = W1.heap → ∀ ty dc, (Builtin.copy_ #[24, 24] ty #[.slice (some ⟨w.heap.size, i * 2, none⟩) (n + 1 - i) dc, .slice (some ⟨vb, vo, none⟩) 1 vc]).run Try.prog W = .ok (.int .i64 ((1 : Nat) : Int)) (W.setRow w.heap.size A1) := fun W hW ty dc => by
    rw [hA1]
    refine run_copyR iqU53 hinf W (fz := (0, 0)) (by rw [hW]; exact hWn) (fun j _ hj => by simp at hj) _ _ _ (m := 1) (k := 1) (by omega) (lenOf_slice _ _ _ _) (run_firstCells_some W _ _ _ _ _ _ (by rw [hsz]; exact hvl) (fun j v hj => ?_)) (by omega) h1v
    have : (⟨vb, vo, none⟩ : Addr).add j = ⟨vb, vo + j, none⟩ := by unfold Addr.add; split <;> simp_all
    rw [this]
    have e : W.cell? ⟨vb, vo + j, none⟩ = va[vo + j]? := by simp [World.cell?, hW, hWo vb hvw, hmemv]
    rw [e]; exact hvs j v hj
  have hcp2 : ∀ (W : World), W.heap = (W1.setRow w.heap.size A1).heap → ∀ ty dc sc, (Builtin.copy_ #[24, 24] ty #[.slice (some ⟨w.heap.size, (i + 1) * 2, none⟩) (n - i) dc, .slice (some ⟨b, i * 2, none⟩) (n - i) sc]).run Try.prog W = .ok (.int .i64 ((n - i : Nat) : Int)) (W.setRow w.heap.size A2) := fun W hW ty dc sc => by
    rw [hA2]
    have hm1 : W.heap[w.heap.size]? = some (.cells A1 28 (0, 0)) := by rw [hW]; exact setRow_heap W1 w.heap.size ROW A1 28 (0, 0) hWn
    refine run_copyR iqU53 hinf W (fz := (0, 0)) hm1 (fun j _ hj => by simp at hj) _ _ _ (m := n - i) (k := n - i) (by omega) (lenOf_slice _ _ _ _) (run_firstCells_some W _ _ _ _ _ _ (by rw [hsz]; exact hcl) (fun j v hj => ?_)) (by omega) h1c
    rw [hcs, List.getElem?_drop, List.getElem?_take] at hj
    split at hj
    · have : (⟨b, i * 2, none⟩ : Addr).add j = ⟨b, i * 2 + j, none⟩ := by unfold Addr.add; split <;> simp_all
      rw [this]
      have e : W.cell? ⟨b, i * 2 + j, none⟩ = arr[i * 2 + j]? := by
        have e1 : W.heap[b]? = w.heap[b]? := by rw [hW, setRow_other W1 w.heap.size b A1 (by omega)]; exact hWo b hbw
        simp [World.cell?, e1, hmem]
      rw [e]; simpa using hj
    · cases hj
  have hb1 : (0 : Int) ≤ (i : Int) + 1 := by omega
  have hin : i ≤ n := by omega
  have hb2 : ¬ (G = i + 1) := by omega
  have hb4 : ¬ (c = i) := by omega
  have hb5 : ¬ (G = i) := by omega
  have hb3 : (i : Int) ≤ (n : Int) + 1 := by omega
  have hb6 : (c : Int) < (n : Int) + 1 := by omega
  have hb7 : i ≤ c := by omega
  rw [← hW1]
  clear hG hcs hA1 hA2 hW1 hold hROW hWn hWo hik hkk
  go_enter Try.func53, Try.ntmps53
  go_wp2_with (first
    | (at_builtin; refine Lib.wpList_append_run _ rfl _ _ _ _ rfl _ _ rfl rfl _ _ (hrz _) ?_)
    | (at_builtin; refine wpList_copy_runR _ rfl _ _ 24 24 rfl _ _ rfl rfl (hcp1 _ (by exact rfl) _ _) ?_))
  have hF : ((W1.setRow w.heap.size A1).drew).heap = (W1.setRow w.heap.size A1).heap := rfl
  go_region_law_o (refine step_copy_runR rfl _ _ 24 24 rfl (.slice (some ⟨w.heap.size, (i + 1) * 2, none⟩) (n - i) (G - (i + 1))) (.slice (some ⟨b, i * 2, none⟩) (n - i) (c - i)) (by simp [Act.eval, Act.put]) (by simp [Act.eval, Act.put]) (hcp2 _ hF 3 (G - (i + 1)) (c - i)) ?_)
  go_wp2
  go_ret
  exact ⟨rfl, rfl⟩
theorem insP53 : InsP Try.prog 53 28 2 24 := by
  intro w b i n c vb vo vc arr va tb tv fz fv vs hmem hsize hf hmemv hbn hvl hvs h1v h1c hi hnc hby
  obtain ⟨inf, z, hinf, hsz, hzz, hzs, hbb⟩ := iqE53
  obtain ⟨cs, hcs⟩ : ∃ cs, cs = (arr.toList.take (n * 2)).drop (i * 2) := ⟨_, rfl⟩
  have h1 : ∀ u ∈ cs, u.oneCell' = true := fun u hu => h1c u (by rw [hcs] at hu; exact List.mem_of_mem_drop hu)
  have hcl : cs.length = (n - i) * 2 := by rw [hcs]; simp; omega
  by_cases hroom : n + 1 ≤ c
  · have hvo : vo < va.size := by
      have := hvs 0 vs[0] (List.getElem?_eq_getElem (by omega))
      have := (Array.getElem?_eq_some_iff.1 this).1
      omega
    have hov : ∀ y, (callFunc 80 #[.slice (some ⟨vb, vo, none⟩) 1 vc, .slice (some ⟨b, (i + 1) * 2, none⟩) (n - i) y]).run Try.prog w = .ok (.value (.bool false)) w := fun y => by
      rw [run_callFunc_extern Try.func80 (by kernel_rfl) (by kernel_rfl) (by kernel_rfl) (e := Extern.SlicesOverlaps.overlaps #[24, 24] #[4]) (by kernel_rfl),
        overlaps_apart2 w 24 4 28 iqU53 2 (fun w => by rw [run_size hinf, hsz]) ⟨vb, vo, none⟩ ⟨b, (i + 1) * 2, none⟩ 1 vc (n - i) y hbn tv tb va.size arr.size (by simp [World.shape?, hmemv]) (by simp [World.shape?, hmem]) (by omega)
          (by have := hf ((i + 1) * 2) (by omega); simp only [World.frozen?, hmem]; simp; omega) (by have := hf arr.size (Nat.le_refl _); simp only [World.frozen?, hmem]; simp; omega)]
      rfl
    refine (iqShift53 hinf hsz w b i n c vb vo vc arr tb fz cs vs hmem (fun j hj => hf j (by omega)) hi hroom hsize hby hbn hcs hvl (fun j u hj => by simpa [World.cell?, hmemv] using hvs j u hj) h1 h1v hov _ _ rfl rfl).mono fun x w' => ?_
    rintro ⟨rfl, rfl⟩
    have hA1s : (arr.toList.take ((i + 1) * 2) ++ (cs ++ arr.toList.drop ((i + 1) * 2 + cs.length))).toArray.size = arr.size := by simp [hcl]; omega
    have hm1 := setRow_heap w.drew b arr (arr.toList.take ((i + 1) * 2) ++ (cs ++ arr.toList.drop ((i + 1) * 2 + cs.length))).toArray tb fz hmem
    generalize hA1 : (arr.toList.take ((i + 1) * 2) ++ (cs ++ arr.toList.drop ((i + 1) * 2 + cs.length))).toArray = A1 at *
    have hA2s : (A1.toList.take (i * 2) ++ (vs ++ A1.toList.drop (i * 2 + vs.length))).toArray.size = A1.size := by simp [hvl]; omega
    have hm2 := setRow_heap (w.drew.setRow b A1) b A1 (A1.toList.take (i * 2) ++ (vs ++ A1.toList.drop (i * 2 + vs.length))).toArray tb fz hm1
    refine ⟨b, c, tb, _, fz, rfl, rfl, rfl, rfl, hm2, fun j hj => hf j (by rw [hA2s, hA1s] at hj; exact hj), by rw [hA2s, hA1s]; exact hsize, hroom, ?_, .inl ⟨rfl, rfl, by rw [hA2s, hA1s], by rw [setRow_size, setRow_size]; rfl, fun j hj => ?_⟩⟩
    · subst hA1
      exact insShiftL arr.toList vs cs (i * 2) (n * 2) 2 ((i + 1) * 2) ((n + 1) * 2) (by omega) (by omega) (by omega) (by simp; omega) hvl hcs
    · rw [setRow_other _ _ _ _ hj, setRow_other _ _ _ _ hj]; rfl
  · refine (iqGrow53 hinf hsz hzz hzs hbb w b i n c vb vo vc arr tb fz cs vs hmem hi hnc hroom hsize hby va tv fv hmemv hcs hvl hvs h1 h1v _ rfl _ _ _ rfl rfl rfl).mono fun x w' => ?_
    rintro ⟨rfl, rfl⟩
    have hGn : n + 1 ≤ grownCap w (n + 1) c 28 := grownCap_ge w _ _ _
    have hzc : ∀ k, (Builtin.zeroCells z.cells k).size = k * 2 := fun k => by rw [size_zeroCells, hzs]
    have hRs : ((arr.toList.take (i * 2)).toArray ++ Builtin.zeroCells z.cells (n + 1 - i) ++ Builtin.zeroCells z.cells (grownCap w (n + 1) c 28 - (n + 1))).size = grownCap w (n + 1) c 28 * 2 := by
      simp only [Array.size_append, hzc, List.size_toArray, List.length_take, Array.length_toList]; omega
    have hRt : ((arr.toList.take (i * 2)).toArray ++ Builtin.zeroCells z.cells (n + 1 - i) ++ Builtin.zeroCells z.cells (grownCap w (n + 1) c 28 - (n + 1))).toList.take (i * 2) = arr.toList.take (i * 2) := by
      simp only [Array.toList_append, List.append_assoc]
      exact List.take_left' (by simp; omega)
    generalize hG : grownCap w (n + 1) c 28 = G at *
    generalize hR : (arr.toList.take (i * 2)).toArray ++ Builtin.zeroCells z.cells (n + 1 - i) ++ Builtin.zeroCells z.cells (G - (n + 1)) = ROW at *
    have hm0 : (w.drew.alloc (.cells ROW 28)).heap[w.heap.size]? = some (.cells ROW 28 (0, 0)) := heap_alloc_new w.drew _
    have hA1s : (ROW.toList.take (i * 2) ++ (vs ++ ROW.toList.drop (i * 2 + vs.length))).toArray.size = ROW.size := by simp [hvl]; omega
    have hm1 := setRow_heap (w.drew.alloc (.cells ROW 28)) w.heap.size ROW (ROW.toList.take (i * 2) ++ (vs ++ ROW.toList.drop (i * 2 + vs.length))).toArray 28 (0, 0) hm0
    generalize hA1 : (ROW.toList.take (i * 2) ++ (vs ++ ROW.toList.drop (i * 2 + vs.length))).toArray = A1 at *
    have hA2s : (A1.toList.take ((i + 1) * 2) ++ (cs ++ A1.toList.drop ((i + 1) * 2 + cs.length))).toArray.size = A1.size := by simp [hcl]; omega
    have hm2 := setRow_heap ((w.drew.alloc (.cells ROW 28)).setRow w.heap.size A1).drew w.heap.size A1 (A1.toList.take ((i + 1) * 2) ++ (cs ++ A1.toList.drop ((i + 1) * 2 + cs.length))).toArray 28 (0, 0) hm1
    refine ⟨w.heap.size, G, 28, _, (0, 0), rfl, rfl, rfl, rfl, hm2, fun j _ hj => by simp at hj, by rw [hA2s, hA1s]; exact hRs, hGn, ?_, .inr ⟨rfl, rfl, ?_, fun j hj => ?_⟩⟩
    · subst hA1
      exact insGrowL arr.toList ROW.toList vs cs (i * 2) (n * 2) 2 ((i + 1) * 2) ((n + 1) * 2) (by omega) (by omega) (by omega) (by simp; omega) hvl hcs hRt
    · rw [setRow_size]
      show ((w.drew.alloc (.cells ROW 28)).setRow w.heap.size A1).heap.size = _
      rw [setRow_size]
      simp
    · rw [setRow_other _ _ _ _ (by omega)]
      show ((w.drew.alloc (.cells ROW 28)).setRow w.heap.size A1).heap[j]? = _
      rw [setRow_other _ _ _ _ (by omega)]
      exact heap_alloc_old w.drew _ hj


set_option maxHeartbeats 4000000 in
theorem insEndN53 (w : World) (n c : Nat) (a : Addr) (vc : Nat) (hnc : n ≤ c) (hc0 : c = 0) (hn : n ≤ 140737488355328) (x : Option Addr) (m k : Nat) {w1 : World}
    (hap : ∀ ty, (Builtin.append_ #[24, 24] ty #[.slice none n c, .slice (some a) 1 vc]).run Try.prog w = .ok (.slice x m k) w1) :
    Calls Try.prog 53 #[.slice none n c, .int .i64 (n : Nat), .slice (some a) 1 vc] w fun e w' => e = .returned (.slice x m k) ∧ w' = w1 := by
  have mixed := mixed
  have hb1 : (0 : Int) ≤ (n : Int) := by omega
  have hb2 : (n : Int) ≤ (n : Int) := Int.le_refl _
  have hb7 : (n : Int) ≤ (c : Int) := by omega
  have hn0 : n = 0 := by omega
  subst hc0 hn0
  all_goals
    go_enter Try.func53, Try.ntmps53
    go_wp2_with (at_builtin; refine Lib.wpList_append_run _ rfl _ _ _ _ rfl _ _ rfl rfl _ _ (hap _) ?_)
    all_goals
      go_ret
      exact ⟨rfl, rfl⟩


set_option maxHeartbeats 4000000 in
theorem insEndS53 (w : World) (b : Addr) (n c : Nat) (a : Addr) (vc : Nat) (hnc : n ≤ c) (hn : n ≤ 140737488355328) (x : Option Addr) (m k : Nat) {w1 : World}
    (hap : ∀ ty, (Builtin.append_ #[24, 24] ty #[.slice (some b) n c, .slice (some a) 1 vc]).run Try.prog w = .ok (.slice x m k) w1) :
    Calls Try.prog 53 #[.slice (some b) n c, .int .i64 (n : Nat), .slice (some a) 1 vc] w fun e w' => e = .returned (.slice x m k) ∧ w' = w1 := by
  have mixed := mixed
  have hb1 : (0 : Int) ≤ (n : Int) := by omega
  have hb2 : (n : Int) ≤ (n : Int) := Int.le_refl _
  have hb7 : (n : Int) ≤ (c : Int) := by omega
  have hb8 : True := trivial
  by_cases hcn : c = n
  all_goals
    go_enter Try.func53, Try.ntmps53
    go_wp2_with (at_builtin; refine Lib.wpList_append_run _ rfl _ _ _ _ rfl _ _ rfl rfl _ _ (hap _) ?_)
    all_goals
      go_ret
      exact ⟨rfl, rfl⟩


theorem insN53 : InsE Try.prog 53 24 28 2 24 := by
  refine ⟨iqU53, ?_, fun w base n c a vc hnc hbn hn x m k w1 hap => ?_⟩
  · obtain ⟨inf, z, h1, h2, h3, h4, h5⟩ := iqE53
    exact ⟨inf, z, h1, h2, h3, h4, h5⟩
  · cases base with
    | none => exact insEndN53 w n c a vc hnc (hbn rfl) hn x m k hap
    | some b => exact insEndS53 w b n c a vc hnc hn x m k hap

def tyN : Nat → Ty
  | 0 => .unit
  | n + 1 => .pair (.int .i64) (tyN n)
theorem cA51 : isA ((evOY nonJ noneΞ [85,63,81,87,88] P0 100000 60).1 51 [.snil] []) = true := by kernel_rfl
theorem cB51 : isB ((evOY nonJ noneΞ [85,63,81,87,88] P0 100000 60).1 51 [.nl ⟨tyN 2, []⟩] []) = true := by kernel_rfl
noncomputable def YC0 : Orc := addC 51 noneΞ
theorem okYC0 : GammaOk2 P0 YC0 := addC_ok (noneΞ_ok2 _) (evOY_ok (nonJ_ok _) (noneΞ_ok2 _) mixed progOk_ 60).1 cA51 cB51
theorem cA79 : isA ((evOY nonJ noneΞ [85,63,81,87,88] P0 100000 60).1 79 [.snil] []) = true := by kernel_rfl
theorem cB79 : isB ((evOY nonJ noneΞ [85,63,81,87,88] P0 100000 60).1 79 [.nl ⟨tyN 5, []⟩] []) = true := by kernel_rfl
noncomputable def YC1 : Orc := addC 79 YC0
theorem okYC1 : GammaOk2 P0 YC1 := addC_ok okYC0 (evOY_ok (nonJ_ok _) (noneΞ_ok2 _) mixed progOk_ 60).1 cA79 cB79
noncomputable def con_law18_begun (N : Nat) : Con := ⟨37, [], [], Unit, fun _ => some (), fun _ => (.bs true, [], [])⟩
theorem con_law18_begun_ok (N : Nat) : Con.ok P0 (con_law18_begun N) := closed_con2 (insIn_ok insT_ok) mixed progOk_ okYC1 (inl := [85,63,81,87,88]) (breath := 100000) (n := 60) (by kernel_rfl)
def as_feed_read : List AS := [.val (.agg T0_)]
def bs_feed_read : List BS := []
def pout_feed_read : Pat := ⟨[(2, .val (.alt 109 (.agg (.int .i64)) (.alt1 122 (.agg .unit))))], []⟩
noncomputable def G_feed_read  (N : Nat) : OrcT := orcOf []
noncomputable def F_feed_read  (N : Nat) (x : Int × A0_) : Option (Int ⊕ Unit) :=
  (evT (G_feed_read  N) L0 P0 []
    [] N 400 (bodyOf Try.f75) ⟨12, slots 0 (argsOf as_feed_read bs_feed_read x), tabU (lbOf as_feed_read bs_feed_read x) [], []⟩).elim (kRet 12 pout_feed_read (kpL []) (lbOf as_feed_read bs_feed_read x))
def out_feed_read (y : Int ⊕ Unit) : V × List OK × List OK := (valW (.alt 109 (.agg (.int .i64)) (.alt1 122 (.agg .unit))) y, [], [])
noncomputable def V_feed_read  (N : Nat) (x : Int × A0_) : Option (Int ⊕ Unit) :=
  cnd (decide (x.1 < (1:Int))) (some (Sum.inr ())) (some (Sum.inl x.1))
theorem FV_feed_read_eq  (N : Nat) (x : Int × A0_) : F_feed_read  N x = V_feed_read  N x := by kernel_rfl
noncomputable def W_feed_read (N : Nat) (x : Int × A0_) : Option (Int ⊕ Unit) := V_feed_read  N x
theorem F_feed_read_eq (N : Nat) (x : Int × A0_) : F_feed_read  N x = W_feed_read N x := (FV_feed_read_eq  N x).trans (by kernel_rfl)
noncomputable def conw_feed_read (w : Int × Int × List (Int × List UInt8) × List (Int × List UInt8) × List A1_ × Int × Int → Option (Int ⊕ Unit)) : Con := ⟨75, as_feed_read, bs_feed_read, Int ⊕ Unit, w, out_feed_read⟩
noncomputable def con_feed_read (N : Nat) : Con := conw_feed_read (W_feed_read N)
theorem R_feed_read_eq (x : Int × A0_) (y : Int ⊕ Unit) : retOf2 P0 Try.f75 (kpL []) (lbOf as_feed_read bs_feed_read x) (patS ⟨12, [], [], []⟩ pout_feed_read y) = some (out_feed_read y) := by kernel_rfl
theorem con_feed_read_ok (N : Nat) : Con.ok P0 (con_feed_read N) := ⟨⟨Try.f75, Try.func75, by kernel_rfl, by kernel_rfl⟩, fun (x : Int × A0_) (r : Int ⊕ Unit) (hr : W_feed_read N x = some r) =>
  spec2_evT (Γ := G_feed_read N) (Λ := L0) (pout := pout_feed_read) (kp := kpL []) mixed (orcOf_ok [] (by simp)) Try.func75 (c := bodyOf Try.f75) (by kernel_rfl) (by kernel_rfl) (of_decide_eq_true (by kernel_rfl)) ((F_feed_read_eq N x).trans hr) (R_feed_read_eq x r)⟩
def as_slices_Clone_api_Item : List AS := [.val (.list T2_)]
def bs_slices_Clone_api_Item : List BS := []
def pout_slices_Clone_api_Item : Pat := ⟨[(2, .acc 700005)], [(700005, .nrow 28 T2_ false true)]⟩
noncomputable def G_slices_Clone_api_Item  (N : Nat) : OrcT := orcOf []
noncomputable def F_slices_Clone_api_Item  (N : Nat) (x : List (Int × List UInt8)) : Option (List (Int × List UInt8)) :=
  (evT (G_slices_Clone_api_Item  N) L0 P0 []
    [] N 400 (bodyOf Try.f51) ⟨8, slots 0 [.nl ⟨T2_, x⟩], tabU (lbOf as_slices_Clone_api_Item bs_slices_Clone_api_Item x) [], []⟩).elim (kRet 8 pout_slices_Clone_api_Item (kpL []) (lbOf as_slices_Clone_api_Item bs_slices_Clone_api_Item x))
def out_slices_Clone_api_Item (y : List (Int × List UInt8)) : V × List OK × List OK := (.acc 2000000 0, [], [.nrow 28 false true ⟨T2_, y⟩])
noncomputable def V_slices_Clone_api_Item  (N : Nat) (x : List (Int × List UInt8)) : Option (List (Int × List UInt8)) :=
  cnd (decide (List.length x * (24:Nat) ≤ (140737488355328:Nat))) (some x) none
theorem FV_slices_Clone_api_Item_eq  (N : Nat) (x : List (Int × List UInt8)) : F_slices_Clone_api_Item  N x = V_slices_Clone_api_Item  N x := by kernel_rfl
noncomputable def W_slices_Clone_api_Item (N : Nat) (x : List (Int × List UInt8)) : Option (List (Int × List UInt8)) := V_slices_Clone_api_Item  N x
theorem F_slices_Clone_api_Item_eq (N : Nat) (x : List (Int × List UInt8)) : F_slices_Clone_api_Item  N x = W_slices_Clone_api_Item N x := (FV_slices_Clone_api_Item_eq  N x).trans (by kernel_rfl)
noncomputable def conw_slices_Clone_api_Item (w : List (Int × List UInt8) → Option (List (Int × List UInt8))) : Con := ⟨51, as_slices_Clone_api_Item, bs_slices_Clone_api_Item, List (Int × List UInt8), w, out_slices_Clone_api_Item⟩
noncomputable def con_slices_Clone_api_Item (N : Nat) : Con := conw_slices_Clone_api_Item (W_slices_Clone_api_Item N)
theorem R_slices_Clone_api_Item_eq (x : List (Int × List UInt8)) (y : List (Int × List UInt8)) : retOf2 P0 Try.f51 (kpL []) (lbOf as_slices_Clone_api_Item bs_slices_Clone_api_Item x) (patS ⟨8, [], [], []⟩ pout_slices_Clone_api_Item y) = some (out_slices_Clone_api_Item y) := by kernel_rfl
noncomputable def FA_slices_Clone_api_Item : Option (List (Int × List UInt8)) := (evT (G_slices_Clone_api_Item 1) L0 P0 [] [] 1 400 (bodyOf Try.f51) ⟨8, slots 0 [.snil], tabU [] [], []⟩).elim (kRet 8 pout_slices_Clone_api_Item (kpL []) [])
theorem FA_slices_Clone_api_Item_eq : FA_slices_Clone_api_Item = some [] := by kernel_rfl
theorem WN_slices_Clone_api_Item (N : Nat) (r : List (Int × List UInt8)) (h : W_slices_Clone_api_Item N [] = some r) : r = [] := by
  have e : W_slices_Clone_api_Item N [] = some [] := by kernel_rfl
  rw [e] at h; injection h with h; exact h.symm
theorem con_slices_Clone_api_Item_ok (N : Nat) : Con.ok P0 (con_slices_Clone_api_Item N) := ⟨⟨Try.f51, Try.func51, by kernel_rfl, by kernel_rfl⟩, fun (x : List (Int × List UInt8)) (r : List (Int × List UInt8)) (hr : W_slices_Clone_api_Item N x = some r) =>
  clone_split (e := T2_) (ty := 28) (l := x) (r := r)
    (spec2_evT (Γ := G_slices_Clone_api_Item 1) (Λ := L0) (lb := []) (pout := pout_slices_Clone_api_Item) (kp := kpL []) mixed (orcOf_ok [] (by simp)) Try.func51 (c := bodyOf Try.f51) (by kernel_rfl) (by kernel_rfl) (of_decide_eq_true (by kernel_rfl)) FA_slices_Clone_api_Item_eq (R_slices_Clone_api_Item_eq x []))
    (spec2_evT (Γ := G_slices_Clone_api_Item N) (Λ := L0) (lb := []) (pout := pout_slices_Clone_api_Item) (kp := kpL []) mixed (orcOf_ok [] (by simp)) Try.func51 (c := bodyOf Try.f51) (by kernel_rfl) (by kernel_rfl) (of_decide_eq_true (by kernel_rfl)) ((F_slices_Clone_api_Item_eq N x).trans hr) (R_slices_Clone_api_Item_eq x r))
    (fun h => by subst h; exact WN_slices_Clone_api_Item N r hr)⟩
def as_slices_Clone_api_Event : List AS := [.val (.list T1_)]
def bs_slices_Clone_api_Event : List BS := []
def pout_slices_Clone_api_Event : Pat := ⟨[(2, .acc 700005)], [(700005, .nrow 57 T1_ false true)]⟩
noncomputable def G_slices_Clone_api_Event  (N : Nat) : OrcT := orcOf []
noncomputable def F_slices_Clone_api_Event  (N : Nat) (x : List A1_) : Option (List A1_) :=
  (evT (G_slices_Clone_api_Event  N) L0 P0 []
    [] N 400 (bodyOf Try.f79) ⟨8, slots 0 [.nl ⟨T1_, x⟩], tabU (lbOf as_slices_Clone_api_Event bs_slices_Clone_api_Event x) [], []⟩).elim (kRet 8 pout_slices_Clone_api_Event (kpL []) (lbOf as_slices_Clone_api_Event bs_slices_Clone_api_Event x))
def out_slices_Clone_api_Event (y : List A1_) : V × List OK × List OK := (.acc 2000000 0, [], [.nrow 57 false true ⟨T1_, y⟩])
noncomputable def V_slices_Clone_api_Event  (N : Nat) (x : List A1_) : Option (List A1_) :=
  cnd (decide (List.length x * (48:Nat) ≤ (140737488355328:Nat))) (some x) none
theorem FV_slices_Clone_api_Event_eq  (N : Nat) (x : List A1_) : F_slices_Clone_api_Event  N x = V_slices_Clone_api_Event  N x := by kernel_rfl
noncomputable def W_slices_Clone_api_Event (N : Nat) (x : List A1_) : Option (List A1_) := V_slices_Clone_api_Event  N x
theorem F_slices_Clone_api_Event_eq (N : Nat) (x : List A1_) : F_slices_Clone_api_Event  N x = W_slices_Clone_api_Event N x := (FV_slices_Clone_api_Event_eq  N x).trans (by kernel_rfl)
noncomputable def conw_slices_Clone_api_Event (w : List A1_ → Option (List A1_)) : Con := ⟨79, as_slices_Clone_api_Event, bs_slices_Clone_api_Event, List A1_, w, out_slices_Clone_api_Event⟩
noncomputable def con_slices_Clone_api_Event (N : Nat) : Con := conw_slices_Clone_api_Event (W_slices_Clone_api_Event N)
theorem R_slices_Clone_api_Event_eq (x : List A1_) (y : List A1_) : retOf2 P0 Try.f79 (kpL []) (lbOf as_slices_Clone_api_Event bs_slices_Clone_api_Event x) (patS ⟨8, [], [], []⟩ pout_slices_Clone_api_Event y) = some (out_slices_Clone_api_Event y) := by kernel_rfl
noncomputable def FA_slices_Clone_api_Event : Option (List A1_) := (evT (G_slices_Clone_api_Event 1) L0 P0 [] [] 1 400 (bodyOf Try.f79) ⟨8, slots 0 [.snil], tabU [] [], []⟩).elim (kRet 8 pout_slices_Clone_api_Event (kpL []) [])
theorem FA_slices_Clone_api_Event_eq : FA_slices_Clone_api_Event = some [] := by kernel_rfl
theorem WN_slices_Clone_api_Event (N : Nat) (r : List A1_) (h : W_slices_Clone_api_Event N [] = some r) : r = [] := by
  have e : W_slices_Clone_api_Event N [] = some [] := by kernel_rfl
  rw [e] at h; injection h with h; exact h.symm
theorem con_slices_Clone_api_Event_ok (N : Nat) : Con.ok P0 (con_slices_Clone_api_Event N) := ⟨⟨Try.f79, Try.func79, by kernel_rfl, by kernel_rfl⟩, fun (x : List A1_) (r : List A1_) (hr : W_slices_Clone_api_Event N x = some r) =>
  clone_split (e := T1_) (ty := 57) (l := x) (r := r)
    (spec2_evT (Γ := G_slices_Clone_api_Event 1) (Λ := L0) (lb := []) (pout := pout_slices_Clone_api_Event) (kp := kpL []) mixed (orcOf_ok [] (by simp)) Try.func79 (c := bodyOf Try.f79) (by kernel_rfl) (by kernel_rfl) (of_decide_eq_true (by kernel_rfl)) FA_slices_Clone_api_Event_eq (R_slices_Clone_api_Event_eq x []))
    (spec2_evT (Γ := G_slices_Clone_api_Event N) (Λ := L0) (lb := []) (pout := pout_slices_Clone_api_Event) (kp := kpL []) mixed (orcOf_ok [] (by simp)) Try.func79 (c := bodyOf Try.f79) (by kernel_rfl) (by kernel_rfl) (of_decide_eq_true (by kernel_rfl)) ((F_slices_Clone_api_Event_eq N x).trans hr) (R_slices_Clone_api_Event_eq x r))
    (fun h => by subst h; exact WN_slices_Clone_api_Event N r hr)⟩
def as_twin_Feed : List AS := [.val (.agg T0_)]
def bs_twin_Feed : List BS := []
def pout_twin_Feed : Pat := ⟨[(2, .ptr 600002 0)], [(600002, .box 35 (.val T0_))]⟩
noncomputable def G_twin_Feed (w_slices_Clone_api_Item : List (Int × List UInt8) → Option (List (Int × List UInt8))) (w_slices_Clone_api_Event : List A1_ → Option (List A1_)) (N : Nat) : OrcT := orcOf [conw_slices_Clone_api_Item w_slices_Clone_api_Item, conw_slices_Clone_api_Event w_slices_Clone_api_Event]
noncomputable def F_twin_Feed (w_slices_Clone_api_Item : List (Int × List UInt8) → Option (List (Int × List UInt8))) (w_slices_Clone_api_Event : List A1_ → Option (List A1_)) (N : Nat) (x : Int × A0_) : Option (Int × A0_) :=
  (evT (G_twin_Feed w_slices_Clone_api_Item w_slices_Clone_api_Event N) L0 P0 []
    [] N 400 (bodyOf Try.f62) ⟨16, slots 0 (argsOf as_twin_Feed bs_twin_Feed x), tabU (lbOf as_twin_Feed bs_twin_Feed x) [], []⟩).elim (kRet 16 pout_twin_Feed (kpL []) (lbOf as_twin_Feed bs_twin_Feed x))
def out_twin_Feed (y : Int × A0_) : V × List OK × List OK := (valW (.agg T0_) y, [], [])
noncomputable def V_twin_Feed (w_slices_Clone_api_Item : List (Int × List UInt8) → Option (List (Int × List UInt8))) (w_slices_Clone_api_Event : List A1_ → Option (List A1_)) (N : Nat) (x : Int × A0_) : Option (Int × A0_) :=
  obind (w_slices_Clone_api_Item x.2.2.1) fun b => obind (w_slices_Clone_api_Item x.2.2.2.1) fun b_1 => obind (w_slices_Clone_api_Event x.2.2.2.2.1) fun b_2 => some (x.1, x.2.1, b, b_1, b_2, x.2.2.2.2.2)
theorem FV_twin_Feed_eq (w_slices_Clone_api_Item : List (Int × List UInt8) → Option (List (Int × List UInt8))) (w_slices_Clone_api_Event : List A1_ → Option (List A1_)) (N : Nat) (x : Int × A0_) : F_twin_Feed w_slices_Clone_api_Item w_slices_Clone_api_Event N x = V_twin_Feed w_slices_Clone_api_Item w_slices_Clone_api_Event N x := by kernel_rfl
noncomputable def W_twin_Feed (N : Nat) (x : Int × A0_) : Option (Int × A0_) := V_twin_Feed (W_slices_Clone_api_Item N) (W_slices_Clone_api_Event N) N x
theorem F_twin_Feed_eq (N : Nat) (x : Int × A0_) : F_twin_Feed (W_slices_Clone_api_Item N) (W_slices_Clone_api_Event N) N x = W_twin_Feed N x := (FV_twin_Feed_eq (W_slices_Clone_api_Item N) (W_slices_Clone_api_Event N) N x).trans (by kernel_rfl)
noncomputable def conw_twin_Feed (w : Int × Int × List (Int × List UInt8) × List (Int × List UInt8) × List A1_ × Int × Int → Option (Int × A0_)) : Con := ⟨62, as_twin_Feed, bs_twin_Feed, Int × Int × List (Int × List UInt8) × List (Int × List UInt8) × List A1_ × Int × Int, w, out_twin_Feed⟩
noncomputable def con_twin_Feed (N : Nat) : Con := conw_twin_Feed (W_twin_Feed N)
theorem R_twin_Feed_eq (x : Int × A0_) (y : Int × A0_) : retOf2 P0 Try.f62 (kpL []) (lbOf as_twin_Feed bs_twin_Feed x) (patS ⟨16, [], [], []⟩ pout_twin_Feed y) = some (out_twin_Feed y) := by kernel_rfl
theorem con_twin_Feed_ok (N : Nat) : Con.ok P0 (con_twin_Feed N) := ⟨⟨Try.f62, Try.func62, by kernel_rfl, by kernel_rfl⟩, fun (x : Int × A0_) (r : Int × A0_) (hr : W_twin_Feed N x = some r) =>
  spec2_evT (Γ := G_twin_Feed (W_slices_Clone_api_Item N) (W_slices_Clone_api_Event N) N) (Λ := L0) (pout := pout_twin_Feed) (kp := kpL []) mixed (orcOf_ok _ (by simp only [List.mem_cons, List.not_mem_nil, or_false, forall_eq_or_imp, forall_eq]; exact ⟨con_slices_Clone_api_Item_ok N, con_slices_Clone_api_Event_ok N⟩)) Try.func62 (c := bodyOf Try.f62) (by kernel_rfl) (by kernel_rfl) (of_decide_eq_true (by kernel_rfl)) ((F_twin_Feed_eq N x).trans hr) (R_twin_Feed_eq x r)⟩
def as_feed_Knows : List AS := [.val (.agg T0_), .val (.int .i64)]
def bs_feed_Knows : List BS := []
def pout_feed_Knows : Pat := ⟨[(4, .ptr 600004 0)], [(600004, .box 35 (.val T0_))]⟩
noncomputable def G_feed_Knows (w_twin_Feed : Int × Int × List (Int × List UInt8) × List (Int × List UInt8) × List A1_ × Int × Int → Option (Int × A0_)) (w_feed_read : Int × Int × List (Int × List UInt8) × List (Int × List UInt8) × List A1_ × Int × Int → Option (Int ⊕ Unit)) (N : Nat) : OrcT := orcOf [conw_twin_Feed w_twin_Feed, conw_feed_read w_feed_read]
noncomputable def F_feed_Knows (w_twin_Feed : Int × Int × List (Int × List UInt8) × List (Int × List UInt8) × List A1_ × Int × Int → Option (Int × A0_)) (w_feed_read : Int × Int × List (Int × List UInt8) × List (Int × List UInt8) × List A1_ × Int × Int → Option (Int ⊕ Unit)) (N : Nat) (x : (Int × A0_) × Int) : Option (Int × A0_) :=
  (evT (G_feed_Knows w_twin_Feed w_feed_read N) L0 P0 []
    [] N 400 (bodyOf Try.f46) ⟨27, slots 0 (argsOf as_feed_Knows bs_feed_Knows x), tabU (lbOf as_feed_Knows bs_feed_Knows x) [], []⟩).elim (kRet 27 pout_feed_Knows (kpL []) (lbOf as_feed_Knows bs_feed_Knows x))
def out_feed_Knows (y : Int × A0_) : V × List OK × List OK := (valW (.agg T0_) y, [], [])
noncomputable def V_feed_Knows (w_twin_Feed : Int × Int × List (Int × List UInt8) × List (Int × List UInt8) × List A1_ × Int × Int → Option (Int × A0_)) (w_feed_read : Int × Int × List (Int × List UInt8) × List (Int × List UInt8) × List A1_ × Int × Int → Option (Int ⊕ Unit)) (N : Nat) (x : (Int × A0_) × Int) : Option (Int × A0_) :=
  obind (w_twin_Feed x.1) fun b => obind (w_feed_read x.1) fun b_1 => selim (fun (b_2 : Int) => cnd (decide (x.2 ≤ (1000000:Int))) (some (b.1, max b.2.1 x.2, b.2.2)) (some b)) (fun (c : PUnit) => some b) b_1
theorem FV_feed_Knows_eq (w_twin_Feed : Int × Int × List (Int × List UInt8) × List (Int × List UInt8) × List A1_ × Int × Int → Option (Int × A0_)) (w_feed_read : Int × Int × List (Int × List UInt8) × List (Int × List UInt8) × List A1_ × Int × Int → Option (Int ⊕ Unit)) (N : Nat) (x : (Int × A0_) × Int) : F_feed_Knows w_twin_Feed w_feed_read N x = V_feed_Knows w_twin_Feed w_feed_read N x := by kernel_rfl
noncomputable def W_feed_Knows (N : Nat) (x : (Int × A0_) × Int) : Option (Int × A0_) := V_feed_Knows (W_twin_Feed N) (W_feed_read N) N x
theorem F_feed_Knows_eq (N : Nat) (x : (Int × A0_) × Int) : F_feed_Knows (W_twin_Feed N) (W_feed_read N) N x = W_feed_Knows N x := (FV_feed_Knows_eq (W_twin_Feed N) (W_feed_read N) N x).trans (by kernel_rfl)
noncomputable def conw_feed_Knows (w : (Int × A0_) × Int → Option (Int × A0_)) : Con := ⟨46, as_feed_Knows, bs_feed_Knows, Int × Int × List (Int × List UInt8) × List (Int × List UInt8) × List A1_ × Int × Int, w, out_feed_Knows⟩
noncomputable def con_feed_Knows (N : Nat) : Con := conw_feed_Knows (W_feed_Knows N)
theorem R_feed_Knows_eq (x : (Int × A0_) × Int) (y : Int × A0_) : retOf2 P0 Try.f46 (kpL []) (lbOf as_feed_Knows bs_feed_Knows x) (patS ⟨27, [], [], []⟩ pout_feed_Knows y) = some (out_feed_Knows y) := by kernel_rfl
theorem con_feed_Knows_ok (N : Nat) : Con.ok P0 (con_feed_Knows N) := ⟨⟨Try.f46, Try.func46, by kernel_rfl, by kernel_rfl⟩, fun (x : (Int × A0_) × Int) (r : Int × A0_) (hr : W_feed_Knows N x = some r) =>
  spec2_evT (Γ := G_feed_Knows (W_twin_Feed N) (W_feed_read N) N) (Λ := L0) (pout := pout_feed_Knows) (kp := kpL []) mixed (orcOf_ok _ (by simp only [List.mem_cons, List.not_mem_nil, or_false, forall_eq_or_imp, forall_eq]; exact ⟨con_twin_Feed_ok N, con_feed_read_ok N⟩)) Try.func46 (c := bodyOf Try.f46) (by kernel_rfl) (by kernel_rfl) (of_decide_eq_true (by kernel_rfl)) ((F_feed_Knows_eq N x).trans hr) (R_feed_Knows_eq x r)⟩
def as_feed_Begin : List AS := [.val (.agg T0_), .val (.int .i64)]
def bs_feed_Begin : List BS := []
def pout_feed_Begin : Pat := ⟨[(4, .ptr 600004 0)], [(600004, .box 35 (.val T0_))]⟩
noncomputable def G_feed_Begin (w_feed_read : Int × Int × List (Int × List UInt8) × List (Int × List UInt8) × List A1_ × Int × Int → Option (Int ⊕ Unit)) (w_feed_Knows : (Int × A0_) × Int → Option (Int × A0_)) (w_twin_Feed : Int × Int × List (Int × List UInt8) × List (Int × List UInt8) × List A1_ × Int × Int → Option (Int × A0_)) (N : Nat) : OrcT := orcOf [conw_feed_read w_feed_read, conw_feed_Knows w_feed_Knows, conw_twin_Feed w_twin_Feed]
noncomputable def F_feed_Begin (w_feed_read : Int × Int × List (Int × List UInt8) × List (Int × List UInt8) × List A1_ × Int × Int → Option (Int ⊕ Unit)) (w_feed_Knows : (Int × A0_) × Int → Option (Int × A0_)) (w_twin_Feed : Int × Int × List (Int × List UInt8) × List (Int × List UInt8) × List A1_ × Int × Int → Option (Int × A0_)) (N : Nat) (x : (Int × A0_) × Int) : Option (Int × A0_) :=
  (evT (G_feed_Begin w_feed_read w_feed_Knows w_twin_Feed N) L0 P0 []
    [] N 400 (bodyOf Try.f38) ⟨30, slots 0 (argsOf as_feed_Begin bs_feed_Begin x), tabU (lbOf as_feed_Begin bs_feed_Begin x) [], []⟩).elim (kRet 30 pout_feed_Begin (kpL []) (lbOf as_feed_Begin bs_feed_Begin x))
def out_feed_Begin (y : Int × A0_) : V × List OK × List OK := (valW (.agg T0_) y, [], [])
noncomputable def V_feed_Begin (w_feed_read : Int × Int × List (Int × List UInt8) × List (Int × List UInt8) × List A1_ × Int × Int → Option (Int ⊕ Unit)) (w_feed_Knows : (Int × A0_) × Int → Option (Int × A0_)) (w_twin_Feed : Int × Int × List (Int × List UInt8) × List (Int × List UInt8) × List A1_ × Int × Int → Option (Int × A0_)) (N : Nat) (x : (Int × A0_) × Int) : Option (Int × A0_) :=
  obind (w_feed_read x.1) fun b => selim (fun (b : Int) => obind (w_feed_Knows (x.1, wr .i64 (x.2 - (1:Int)))) fun b => some b) (fun (c : PUnit) => obind (w_twin_Feed x.1) fun b => cnd (decide ((1:Int) ≤ x.2)) (cnd (decide (x.2 ≤ (1000000:Int))) (some (x.2, b.2)) (some b)) (some b)) b
theorem FV_feed_Begin_eq (w_feed_read : Int × Int × List (Int × List UInt8) × List (Int × List UInt8) × List A1_ × Int × Int → Option (Int ⊕ Unit)) (w_feed_Knows : (Int × A0_) × Int → Option (Int × A0_)) (w_twin_Feed : Int × Int × List (Int × List UInt8) × List (Int × List UInt8) × List A1_ × Int × Int → Option (Int × A0_)) (N : Nat) (x : (Int × A0_) × Int) : F_feed_Begin w_feed_read w_feed_Knows w_twin_Feed N x = V_feed_Begin w_feed_read w_feed_Knows w_twin_Feed N x := by kernel_rfl
noncomputable def W_feed_Begin (N : Nat) (x : (Int × A0_) × Int) : Option (Int × A0_) := V_feed_Begin (W_feed_read N) (W_feed_Knows N) (W_twin_Feed N) N x
theorem F_feed_Begin_eq (N : Nat) (x : (Int × A0_) × Int) : F_feed_Begin (W_feed_read N) (W_feed_Knows N) (W_twin_Feed N) N x = W_feed_Begin N x := (FV_feed_Begin_eq (W_feed_read N) (W_feed_Knows N) (W_twin_Feed N) N x).trans (by kernel_rfl)
noncomputable def conw_feed_Begin (w : (Int × A0_) × Int → Option (Int × A0_)) : Con := ⟨38, as_feed_Begin, bs_feed_Begin, Int × Int × List (Int × List UInt8) × List (Int × List UInt8) × List A1_ × Int × Int, w, out_feed_Begin⟩
noncomputable def con_feed_Begin (N : Nat) : Con := conw_feed_Begin (W_feed_Begin N)
theorem R_feed_Begin_eq (x : (Int × A0_) × Int) (y : Int × A0_) : retOf2 P0 Try.f38 (kpL []) (lbOf as_feed_Begin bs_feed_Begin x) (patS ⟨30, [], [], []⟩ pout_feed_Begin y) = some (out_feed_Begin y) := by kernel_rfl
theorem con_feed_Begin_ok (N : Nat) : Con.ok P0 (con_feed_Begin N) := ⟨⟨Try.f38, Try.func38, by kernel_rfl, by kernel_rfl⟩, fun (x : (Int × A0_) × Int) (r : Int × A0_) (hr : W_feed_Begin N x = some r) =>
  spec2_evT (Γ := G_feed_Begin (W_feed_read N) (W_feed_Knows N) (W_twin_Feed N) N) (Λ := L0) (pout := pout_feed_Begin) (kp := kpL []) mixed (orcOf_ok _ (by simp only [List.mem_cons, List.not_mem_nil, or_false, forall_eq_or_imp, forall_eq]; exact ⟨con_feed_read_ok N, con_feed_Knows_ok N, con_twin_Feed_ok N⟩)) Try.func38 (c := bodyOf Try.f38) (by kernel_rfl) (by kernel_rfl) (of_decide_eq_true (by kernel_rfl)) ((F_feed_Begin_eq N x).trans hr) (R_feed_Begin_eq x r)⟩
def as_ref13_Knows : List AS := [.val (.agg T0_), .val (.int .i64)]
def bs_ref13_Knows : List BS := []
def pout_ref13_Knows : Pat := ⟨[(4, .ptr 600004 0)], [(600004, .box 35 (.val T0_))]⟩
noncomputable def G_ref13_Knows  (N : Nat) : OrcT := orcOf []
noncomputable def F_ref13_Knows  (N : Nat) (x : (Int × A0_) × Int) : Option (Int × A0_) :=
  (evT (G_ref13_Knows  N) L0 P0 []
    [] N 400 (bodyOf Try.f47) ⟨18, slots 0 (argsOf as_ref13_Knows bs_ref13_Knows x), tabU (lbOf as_ref13_Knows bs_ref13_Knows x) [], []⟩).elim (kRet 18 pout_ref13_Knows (kpL []) (lbOf as_ref13_Knows bs_ref13_Knows x))
def out_ref13_Knows (y : Int × A0_) : V × List OK × List OK := (valW (.agg T0_) y, [], [])
noncomputable def V_ref13_Knows  (N : Nat) (x : (Int × A0_) × Int) : Option (Int × A0_) :=
  cnd (decide ((0:Int) < x.1.1)) (cnd (decide (x.2 ≤ (1000000:Int))) (some (x.1.1, max x.1.2.1 x.2, x.1.2.2)) (some x.1)) (some x.1)
theorem FV_ref13_Knows_eq  (N : Nat) (x : (Int × A0_) × Int) : F_ref13_Knows  N x = V_ref13_Knows  N x := by kernel_rfl
noncomputable def W_ref13_Knows (N : Nat) (x : (Int × A0_) × Int) : Option (Int × A0_) := V_ref13_Knows  N x
theorem F_ref13_Knows_eq (N : Nat) (x : (Int × A0_) × Int) : F_ref13_Knows  N x = W_ref13_Knows N x := (FV_ref13_Knows_eq  N x).trans (by kernel_rfl)
noncomputable def conw_ref13_Knows (w : (Int × A0_) × Int → Option (Int × A0_)) : Con := ⟨47, as_ref13_Knows, bs_ref13_Knows, Int × Int × List (Int × List UInt8) × List (Int × List UInt8) × List A1_ × Int × Int, w, out_ref13_Knows⟩
noncomputable def con_ref13_Knows (N : Nat) : Con := conw_ref13_Knows (W_ref13_Knows N)
theorem R_ref13_Knows_eq (x : (Int × A0_) × Int) (y : Int × A0_) : retOf2 P0 Try.f47 (kpL []) (lbOf as_ref13_Knows bs_ref13_Knows x) (patS ⟨18, [], [], []⟩ pout_ref13_Knows y) = some (out_ref13_Knows y) := by kernel_rfl
theorem con_ref13_Knows_ok (N : Nat) : Con.ok P0 (con_ref13_Knows N) := ⟨⟨Try.f47, Try.func47, by kernel_rfl, by kernel_rfl⟩, fun (x : (Int × A0_) × Int) (r : Int × A0_) (hr : W_ref13_Knows N x = some r) =>
  spec2_evT (Γ := G_ref13_Knows N) (Λ := L0) (pout := pout_ref13_Knows) (kp := kpL []) mixed (orcOf_ok [] (by simp)) Try.func47 (c := bodyOf Try.f47) (by kernel_rfl) (by kernel_rfl) (of_decide_eq_true (by kernel_rfl)) ((F_ref13_Knows_eq N x).trans hr) (R_ref13_Knows_eq x r)⟩
def as_ref13_Begin : List AS := [.val (.agg T0_), .val (.int .i64)]
def bs_ref13_Begin : List BS := []
def pout_ref13_Begin : Pat := ⟨[(4, .ptr 600004 0)], [(600004, .box 35 (.val T0_))]⟩
noncomputable def G_ref13_Begin (w_ref13_Knows : (Int × A0_) × Int → Option (Int × A0_)) (N : Nat) : OrcT := orcOf [conw_ref13_Knows w_ref13_Knows]
noncomputable def F_ref13_Begin (w_ref13_Knows : (Int × A0_) × Int → Option (Int × A0_)) (N : Nat) (x : (Int × A0_) × Int) : Option (Int × A0_) :=
  (evT (G_ref13_Begin w_ref13_Knows N) L0 P0 []
    [] N 400 (bodyOf Try.f44) ⟨21, slots 0 (argsOf as_ref13_Begin bs_ref13_Begin x), tabU (lbOf as_ref13_Begin bs_ref13_Begin x) [], []⟩).elim (kRet 21 pout_ref13_Begin (kpL []) (lbOf as_ref13_Begin bs_ref13_Begin x))
def out_ref13_Begin (y : Int × A0_) : V × List OK × List OK := (valW (.agg T0_) y, [], [])
noncomputable def V_ref13_Begin (w_ref13_Knows : (Int × A0_) × Int → Option (Int × A0_)) (N : Nat) (x : (Int × A0_) × Int) : Option (Int × A0_) :=
  cnd (decide ((0:Int) < x.1.1)) (obind (w_ref13_Knows (x.1, wr .i64 (x.2 - (1:Int)))) fun b => some b) (cnd (decide ((1:Int) ≤ x.2)) (cnd (decide (x.2 ≤ (1000000:Int))) (some (x.2, x.1.2)) (some x.1)) (some x.1))
theorem FV_ref13_Begin_eq (w_ref13_Knows : (Int × A0_) × Int → Option (Int × A0_)) (N : Nat) (x : (Int × A0_) × Int) : F_ref13_Begin w_ref13_Knows N x = V_ref13_Begin w_ref13_Knows N x := by kernel_rfl
noncomputable def W_ref13_Begin (N : Nat) (x : (Int × A0_) × Int) : Option (Int × A0_) := V_ref13_Begin (W_ref13_Knows N) N x
theorem F_ref13_Begin_eq (N : Nat) (x : (Int × A0_) × Int) : F_ref13_Begin (W_ref13_Knows N) N x = W_ref13_Begin N x := (FV_ref13_Begin_eq (W_ref13_Knows N) N x).trans (by kernel_rfl)
noncomputable def conw_ref13_Begin (w : (Int × A0_) × Int → Option (Int × A0_)) : Con := ⟨44, as_ref13_Begin, bs_ref13_Begin, Int × Int × List (Int × List UInt8) × List (Int × List UInt8) × List A1_ × Int × Int, w, out_ref13_Begin⟩
noncomputable def con_ref13_Begin (N : Nat) : Con := conw_ref13_Begin (W_ref13_Begin N)
theorem R_ref13_Begin_eq (x : (Int × A0_) × Int) (y : Int × A0_) : retOf2 P0 Try.f44 (kpL []) (lbOf as_ref13_Begin bs_ref13_Begin x) (patS ⟨21, [], [], []⟩ pout_ref13_Begin y) = some (out_ref13_Begin y) := by kernel_rfl
theorem con_ref13_Begin_ok (N : Nat) : Con.ok P0 (con_ref13_Begin N) := ⟨⟨Try.f44, Try.func44, by kernel_rfl, by kernel_rfl⟩, fun (x : (Int × A0_) × Int) (r : Int × A0_) (hr : W_ref13_Begin N x = some r) =>
  spec2_evT (Γ := G_ref13_Begin (W_ref13_Knows N) N) (Λ := L0) (pout := pout_ref13_Begin) (kp := kpL []) mixed (orcOf_ok _ (by simp only [List.mem_cons, List.not_mem_nil, or_false, forall_eq_or_imp, forall_eq]; exact con_ref13_Knows_ok N)) Try.func44 (c := bodyOf Try.f44) (by kernel_rfl) (by kernel_rfl) (of_decide_eq_true (by kernel_rfl)) ((F_ref13_Begin_eq N x).trans hr) (R_ref13_Begin_eq x r)⟩
def as_win_First : List AS := [.val (.list T2_)]
def bs_win_First : List BS := []
def pout_win_First : Pat := ⟨[(2, .val (.int .i64))], []⟩
noncomputable def G_win_First  (N : Nat) : OrcT := orcOf []
noncomputable def F_win_First  (N : Nat) (x : List (Int × List UInt8)) : Option (Int) :=
  (evT (G_win_First  N) L0 P0 []
    [] N 400 (bodyOf Try.f50) ⟨10, slots 0 (argsOf as_win_First bs_win_First x), tabU (lbOf as_win_First bs_win_First x) [], []⟩).elim (kRet 10 pout_win_First (kpL []) (lbOf as_win_First bs_win_First x))
def out_win_First (y : Int) : V × List OK × List OK := (valW (.int .i64) y, [], [])
noncomputable def V_win_First  (N : Nat) (x : List (Int × List UInt8)) : Option (Int) :=
  cnd (decide ((↑(List.length x) : Int) = (0:Int))) (some (0:Int)) (cnd (decide ((0:Int) ≤ (0:Int)) && decide ((0:Int) < (↑(List.length x) : Int))) (some (Prod.fst (List.getD x (0:Nat) ((0:Int), [])))) none)
theorem FV_win_First_eq  (N : Nat) (x : List (Int × List UInt8)) : F_win_First  N x = V_win_First  N x := by kernel_rfl
noncomputable def W_win_First (N : Nat) (x : List (Int × List UInt8)) : Option (Int) := V_win_First  N x
theorem F_win_First_eq (N : Nat) (x : List (Int × List UInt8)) : F_win_First  N x = W_win_First N x := (FV_win_First_eq  N x).trans (by kernel_rfl)
noncomputable def conw_win_First (w : List (Int × List UInt8) → Option (Int)) : Con := ⟨50, as_win_First, bs_win_First, Int, w, out_win_First⟩
noncomputable def con_win_First (N : Nat) : Con := conw_win_First (W_win_First N)
theorem R_win_First_eq (x : List (Int × List UInt8)) (y : Int) : retOf2 P0 Try.f50 (kpL []) (lbOf as_win_First bs_win_First x) (patS ⟨10, [], [], []⟩ pout_win_First y) = some (out_win_First y) := by kernel_rfl
theorem con_win_First_ok (N : Nat) : Con.ok P0 (con_win_First N) := ⟨⟨Try.f50, Try.func50, by kernel_rfl, by kernel_rfl⟩, fun (x : List (Int × List UInt8)) (r : Int) (hr : W_win_First N x = some r) =>
  spec2_evT (Γ := G_win_First N) (Λ := L0) (pout := pout_win_First) (kp := kpL []) mixed (orcOf_ok [] (by simp)) Try.func50 (c := bodyOf Try.f50) (by kernel_rfl) (by kernel_rfl) (of_decide_eq_true (by kernel_rfl)) ((F_win_First_eq N x).trans hr) (R_win_First_eq x r)⟩
def as_nak_first : List AS := [.val (.agg T0_)]
def bs_nak_first : List BS := []
def pout_nak_first : Pat := ⟨[(2, .val (.alt 95 (.int .i64) (.alt1 118 (.agg .unit))))], []⟩
noncomputable def G_nak_first (w_win_First : List (Int × List UInt8) → Option (Int)) (N : Nat) : OrcT := orcOf [conw_win_First w_win_First]
noncomputable def F_nak_first (w_win_First : List (Int × List UInt8) → Option (Int)) (N : Nat) (x : Int × A0_) : Option (Int ⊕ Unit) :=
  (evT (G_nak_first w_win_First N) L0 P0 []
    [] N 400 (bodyOf Try.f58) ⟨19, slots 0 (argsOf as_nak_first bs_nak_first x), tabU (lbOf as_nak_first bs_nak_first x) [], []⟩).elim (kRet 19 pout_nak_first (kpL []) (lbOf as_nak_first bs_nak_first x))
def out_nak_first (y : Int ⊕ Unit) : V × List OK × List OK := (valW (.alt 95 (.int .i64) (.alt1 118 (.agg .unit))) y, [], [])
noncomputable def V_nak_first (w_win_First : List (Int × List UInt8) → Option (Int)) (N : Nat) (x : Int × A0_) : Option (Int ⊕ Unit) :=
  obind (w_win_First x.2.2.2.1) fun b => cnd (decide (x.1 ≤ b)) (cnd (decide ((0:Int) < b)) (some (Sum.inl b)) (some (Sum.inr ()))) (some (Sum.inr ()))
theorem FV_nak_first_eq (w_win_First : List (Int × List UInt8) → Option (Int)) (N : Nat) (x : Int × A0_) : F_nak_first w_win_First N x = V_nak_first w_win_First N x := by kernel_rfl
noncomputable def W_nak_first (N : Nat) (x : Int × A0_) : Option (Int ⊕ Unit) := V_nak_first (W_win_First N) N x
theorem F_nak_first_eq (N : Nat) (x : Int × A0_) : F_nak_first (W_win_First N) N x = W_nak_first N x := (FV_nak_first_eq (W_win_First N) N x).trans (by kernel_rfl)
noncomputable def conw_nak_first (w : Int × Int × List (Int × List UInt8) × List (Int × List UInt8) × List A1_ × Int × Int → Option (Int ⊕ Unit)) : Con := ⟨58, as_nak_first, bs_nak_first, Int ⊕ Unit, w, out_nak_first⟩
noncomputable def con_nak_first (N : Nat) : Con := conw_nak_first (W_nak_first N)
theorem R_nak_first_eq (x : Int × A0_) (y : Int ⊕ Unit) : retOf2 P0 Try.f58 (kpL []) (lbOf as_nak_first bs_nak_first x) (patS ⟨19, [], [], []⟩ pout_nak_first y) = some (out_nak_first y) := by kernel_rfl
theorem con_nak_first_ok (N : Nat) : Con.ok P0 (con_nak_first N) := ⟨⟨Try.f58, Try.func58, by kernel_rfl, by kernel_rfl⟩, fun (x : Int × A0_) (r : Int ⊕ Unit) (hr : W_nak_first N x = some r) =>
  spec2_evT (Γ := G_nak_first (W_win_First N) N) (Λ := L0) (pout := pout_nak_first) (kp := kpL []) mixed (orcOf_ok _ (by simp only [List.mem_cons, List.not_mem_nil, or_false, forall_eq_or_imp, forall_eq]; exact con_win_First_ok N)) Try.func58 (c := bodyOf Try.f58) (by kernel_rfl) (by kernel_rfl) (of_decide_eq_true (by kernel_rfl)) ((F_nak_first_eq N x).trans hr) (R_nak_first_eq x r)⟩
def as_log_Skip : List AS := [.val (.list T1_), .val (.int .i64), .val (.int .i64), .val (.int .i64)]
def bs_log_Skip : List BS := []
def pout_log_Skip : Pat := ⟨[(8, .val (.list T1_))], []⟩
noncomputable def G_log_Skip (w_slices_Clone_api_Event : List A1_ → Option (List A1_)) (N : Nat) : OrcT := orcOf [conw_slices_Clone_api_Event w_slices_Clone_api_Event]
noncomputable def F_log_Skip (w_slices_Clone_api_Event : List A1_ → Option (List A1_)) (N : Nat) (x : List A1_ × Int × Int × Int) : Option (List A1_) :=
  (evT (G_log_Skip w_slices_Clone_api_Event N) L0 P0 []
    [] N 400 (bodyOf Try.f64) ⟨17, slots 0 (argsOf as_log_Skip bs_log_Skip x), tabU (lbOf as_log_Skip bs_log_Skip x) [], []⟩).elim (kRet 17 pout_log_Skip (kpL []) (lbOf as_log_Skip bs_log_Skip x))
def out_log_Skip (y : List A1_) : V × List OK × List OK := (valW (.list T1_) y, [], [])
noncomputable def V_log_Skip (w_slices_Clone_api_Event : List A1_ → Option (List A1_)) (N : Nat) (x : List A1_ × Int × Int × Int) : Option (List A1_) :=
  obind (w_slices_Clone_api_Event x.1) fun b => cnd (decide ((List.length b + (1:Nat)) * (48:Nat) ≤ (140737488355328:Nat))) (some (b ++ [((2:Int), x.2.1, x.2.2.1, [], x.2.2.2)])) none
theorem FV_log_Skip_eq (w_slices_Clone_api_Event : List A1_ → Option (List A1_)) (N : Nat) (x : List A1_ × Int × Int × Int) : F_log_Skip w_slices_Clone_api_Event N x = V_log_Skip w_slices_Clone_api_Event N x := by kernel_rfl
noncomputable def W_log_Skip (N : Nat) (x : List A1_ × Int × Int × Int) : Option (List A1_) := V_log_Skip (W_slices_Clone_api_Event N) N x
theorem F_log_Skip_eq (N : Nat) (x : List A1_ × Int × Int × Int) : F_log_Skip (W_slices_Clone_api_Event N) N x = W_log_Skip N x := (FV_log_Skip_eq (W_slices_Clone_api_Event N) N x).trans (by kernel_rfl)
noncomputable def conw_log_Skip (w : List A1_ × Int × Int × Int → Option (List A1_)) : Con := ⟨64, as_log_Skip, bs_log_Skip, List A1_, w, out_log_Skip⟩
noncomputable def con_log_Skip (N : Nat) : Con := conw_log_Skip (W_log_Skip N)
theorem R_log_Skip_eq (x : List A1_ × Int × Int × Int) (y : List A1_) : retOf2 P0 Try.f64 (kpL []) (lbOf as_log_Skip bs_log_Skip x) (patS ⟨17, [], [], []⟩ pout_log_Skip y) = some (out_log_Skip y) := by kernel_rfl
theorem con_log_Skip_ok (N : Nat) : Con.ok P0 (con_log_Skip N) := ⟨⟨Try.f64, Try.func64, by kernel_rfl, by kernel_rfl⟩, fun (x : List A1_ × Int × Int × Int) (r : List A1_) (hr : W_log_Skip N x = some r) =>
  spec2_evT (Γ := G_log_Skip (W_slices_Clone_api_Event N) N) (Λ := L0) (pout := pout_log_Skip) (kp := kpL []) mixed (orcOf_ok _ (by simp only [List.mem_cons, List.not_mem_nil, or_false, forall_eq_or_imp, forall_eq]; exact con_slices_Clone_api_Event_ok N)) Try.func64 (c := bodyOf Try.f64) (by kernel_rfl) (by kernel_rfl) (of_decide_eq_true (by kernel_rfl)) ((F_log_Skip_eq N x).trans hr) (R_log_Skip_eq x r)⟩
def as_win_Take : List AS := [.val (.list T2_), .val (.int .i64)]
def bs_win_Take : List BS := []
def pout_win_Take : Pat := ⟨[(4, .val (.list T2_)), (5, .ptr 600005 0), (6, .val .bool)], [(600005, .box 28 (.val (.pair (.int .i64) .str)))]⟩
noncomputable def G_win_Take (w_slices_Clone_api_Item : List (Int × List UInt8) → Option (List (Int × List UInt8))) (N : Nat) : OrcT := orcOf [conw_slices_Clone_api_Item w_slices_Clone_api_Item]
noncomputable def F_win_Take (w_slices_Clone_api_Item : List (Int × List UInt8) → Option (List (Int × List UInt8))) (N : Nat) (x : List (Int × List UInt8) × Int) : Option A3_ :=
  (evT (G_win_Take w_slices_Clone_api_Item N) L0 P0 []
    [] N 400 (bodyOf Try.f49) ⟨27, slots 0 (argsOf as_win_Take bs_win_Take x), tabU (lbOf as_win_Take bs_win_Take x) [], []⟩).elim (kRet 27 pout_win_Take (kpL []) (lbOf as_win_Take bs_win_Take x))
def out_win_Take (y : A3_) : V × List OK × List OK := (.tup [valW (.list T2_) y.1, valW T2_ y.2.2, valW .bool y.2.1], [], [])
noncomputable def V_win_Take (w_slices_Clone_api_Item : List (Int × List UInt8) → Option (List (Int × List UInt8))) (N : Nat) (x : List (Int × List UInt8) × Int) : Option A3_ :=
  cnd (decide ((↑(List.length x.1) : Int) = (0:Int))) (obind (w_slices_Clone_api_Item x.1) fun b => some (b, false, (0:Int), [])) (cnd (decide
    ((0:Int) ≤ (0:Int)) && decide ((0:Int) < (↑(List.length x.1) : Int))) (cnd (decide (Prod.fst (List.getD x.1 (0:Nat) ((0:Int), [])) ≠ x.2)) (obind
    (w_slices_Clone_api_Item x.1) fun b => some (b, false, (0:Int), [])) (cnd (decide ((0:Int) ≤ (1:Int)) && decide ((1:Int) ≤ (↑(List.length x.1) :
    Int))) (obind (w_slices_Clone_api_Item (List.drop (1:Nat) (List.take (List.length x.1) x.1))) fun b => cnd (decide ((0:Int) ≤ (0:Int)) && decide
    ((0:Int) < (↑(List.length x.1) : Int))) (some (b, true, Prod.fst (List.getD x.1 (0:Nat) ((0:Int), [])), Prod.snd (List.getD x.1 (0:Nat) ((0:Int),
    [])))) none) none)) none)
theorem FV_win_Take_eq (w_slices_Clone_api_Item : List (Int × List UInt8) → Option (List (Int × List UInt8))) (N : Nat) (x : List (Int × List UInt8) × Int) : F_win_Take w_slices_Clone_api_Item N x = V_win_Take w_slices_Clone_api_Item N x := by kernel_rfl
noncomputable def W_win_Take (N : Nat) (x : List (Int × List UInt8) × Int) : Option A3_ := V_win_Take (W_slices_Clone_api_Item N) N x
theorem F_win_Take_eq (N : Nat) (x : List (Int × List UInt8) × Int) : F_win_Take (W_slices_Clone_api_Item N) N x = W_win_Take N x := (FV_win_Take_eq (W_slices_Clone_api_Item N) N x).trans (by kernel_rfl)
noncomputable def conw_win_Take (w : List (Int × List UInt8) × Int → Option A3_) : Con := ⟨49, as_win_Take, bs_win_Take, List (Int × List UInt8) × Bool × Int × List UInt8, w, out_win_Take⟩
noncomputable def con_win_Take (N : Nat) : Con := conw_win_Take (W_win_Take N)
theorem R_win_Take_eq (x : List (Int × List UInt8) × Int) (y : A3_) : retOf2 P0 Try.f49 (kpL []) (lbOf as_win_Take bs_win_Take x) (patS ⟨27, [], [], []⟩ pout_win_Take y) = some (out_win_Take y) := by kernel_rfl
theorem con_win_Take_ok (N : Nat) : Con.ok P0 (con_win_Take N) := ⟨⟨Try.f49, Try.func49, by kernel_rfl, by kernel_rfl⟩, fun (x : List (Int × List UInt8) × Int) (r : A3_) (hr : W_win_Take N x = some r) =>
  spec2_evT (Γ := G_win_Take (W_slices_Clone_api_Item N) N) (Λ := L0) (pout := pout_win_Take) (kp := kpL []) mixed (orcOf_ok _ (by simp only [List.mem_cons, List.not_mem_nil, or_false, forall_eq_or_imp, forall_eq]; exact con_slices_Clone_api_Item_ok N)) Try.func49 (c := bodyOf Try.f49) (by kernel_rfl) (by kernel_rfl) (of_decide_eq_true (by kernel_rfl)) ((F_win_Take_eq N x).trans hr) (R_win_Take_eq x r)⟩
def as_log_Tell : List AS := [.val (.list T1_), .val (.int .i64), .val .str]
def bs_log_Tell : List BS := []
def pout_log_Tell : Pat := ⟨[(6, .val (.list T1_))], []⟩
noncomputable def G_log_Tell (w_slices_Clone_api_Event : List A1_ → Option (List A1_)) (N : Nat) : OrcT := orcOf [conw_slices_Clone_api_Event w_slices_Clone_api_Event]
noncomputable def F_log_Tell (w_slices_Clone_api_Event : List A1_ → Option (List A1_)) (N : Nat) (x : List A1_ × Int × List UInt8) : Option (List A1_) :=
  (evT (G_log_Tell w_slices_Clone_api_Event N) L0 P0 []
    [] N 400 (bodyOf Try.f67) ⟨15, slots 0 (argsOf as_log_Tell bs_log_Tell x), tabU (lbOf as_log_Tell bs_log_Tell x) [], []⟩).elim (kRet 15 pout_log_Tell (kpL []) (lbOf as_log_Tell bs_log_Tell x))
def out_log_Tell (y : List A1_) : V × List OK × List OK := (valW (.list T1_) y, [], [])
noncomputable def V_log_Tell (w_slices_Clone_api_Event : List A1_ → Option (List A1_)) (N : Nat) (x : List A1_ × Int × List UInt8) : Option (List A1_) :=
  obind (w_slices_Clone_api_Event x.1) fun b => cnd (decide ((List.length b + List.length [((1:Int), x.2.1, x.2.1, x.2.2, (0:Int))]) * (48:Nat) ≤ (140737488355328:Nat))) (some (b ++ [((1:Int), x.2.1, x.2.1, x.2.2, (0:Int))])) none
theorem FV_log_Tell_eq (w_slices_Clone_api_Event : List A1_ → Option (List A1_)) (N : Nat) (x : List A1_ × Int × List UInt8) : F_log_Tell w_slices_Clone_api_Event N x = V_log_Tell w_slices_Clone_api_Event N x := by kernel_rfl
noncomputable def W_log_Tell (N : Nat) (x : List A1_ × Int × List UInt8) : Option (List A1_) := V_log_Tell (W_slices_Clone_api_Event N) N x
theorem F_log_Tell_eq (N : Nat) (x : List A1_ × Int × List UInt8) : F_log_Tell (W_slices_Clone_api_Event N) N x = W_log_Tell N x := (FV_log_Tell_eq (W_slices_Clone_api_Event N) N x).trans (by kernel_rfl)
noncomputable def conw_log_Tell (w : List A1_ × Int × List UInt8 → Option (List A1_)) : Con := ⟨67, as_log_Tell, bs_log_Tell, List A1_, w, out_log_Tell⟩
noncomputable def con_log_Tell (N : Nat) : Con := conw_log_Tell (W_log_Tell N)
theorem R_log_Tell_eq (x : List A1_ × Int × List UInt8) (y : List A1_) : retOf2 P0 Try.f67 (kpL []) (lbOf as_log_Tell bs_log_Tell x) (patS ⟨15, [], [], []⟩ pout_log_Tell y) = some (out_log_Tell y) := by kernel_rfl
theorem con_log_Tell_ok (N : Nat) : Con.ok P0 (con_log_Tell N) := ⟨⟨Try.f67, Try.func67, by kernel_rfl, by kernel_rfl⟩, fun (x : List A1_ × Int × List UInt8) (r : List A1_) (hr : W_log_Tell N x = some r) =>
  spec2_evT (Γ := G_log_Tell (W_slices_Clone_api_Event N) N) (Λ := L0) (pout := pout_log_Tell) (kp := kpL []) mixed (orcOf_ok _ (by simp only [List.mem_cons, List.not_mem_nil, or_false, forall_eq_or_imp, forall_eq]; exact con_slices_Clone_api_Event_ok N)) Try.func67 (c := bodyOf Try.f67) (by kernel_rfl) (by kernel_rfl) (of_decide_eq_true (by kernel_rfl)) ((F_log_Tell_eq N x).trans hr) (R_log_Tell_eq x r)⟩
def as_slices_Delete_api_Item : List AS := [.acc 0, .val (.int .i64), .val (.int .i64)]
def bs_slices_Delete_api_Item : List BS := [.nrow 28 T2_ true]
def out_slices_Delete_api_Item (y : List (Int × List UInt8)) : V × List OK × List OK := (.acc 2000000 0, [.dead], [.nrow 28 false true ⟨T2_, y⟩])
noncomputable def W_slices_Delete_api_Item (N : Nat) (x : Int × Int × List (Int × List UInt8)) : Option (List (Int × List UInt8)) :=
  cnd (decide ((0:Int) ≤ x.1) && decide (x.1 < ((↑(List.length x.2.2) : Int) : Int)) && decide (x.2.1 = x.1 + (1:Int)) && decide (List.length x.2.2 ≤
    (140737488355328:Nat)) && decide ((2:Nat) ≤ List.length x.2.2)) (some (List.take (Int.toNat x.1) x.2.2 ++ List.drop (Int.toNat x.1 + (1:Nat))
    x.2.2)) none
noncomputable def conw_slices_Delete_api_Item (w : Int × Int × List (Int × List UInt8) → Option (List (Int × List UInt8))) : Con := ⟨85, as_slices_Delete_api_Item, bs_slices_Delete_api_Item, List (Int × List UInt8), w, out_slices_Delete_api_Item⟩
noncomputable def con_slices_Delete_api_Item (N : Nat) : Con := conw_slices_Delete_api_Item (W_slices_Delete_api_Item N)
theorem con_slices_Delete_api_Item_ok (N : Nat) : Con.ok P0 (con_slices_Delete_api_Item N) := ⟨⟨Try.f85, Try.func85, by kernel_rfl, by kernel_rfl⟩, fun (x : Int × Int × List (Int × List UInt8)) (r : List (Int × List UInt8)) (hr : W_slices_Delete_api_Item N x = some r) => by
  obtain ⟨i, j, l⟩ := x
  exact del_con2 (e := T2_) (ty := 28) (nl := true) (l := l) (r := r) (i := i) (j := j) delF85 rfl (by decide) hr⟩
def as_ring_Add : List AS := [.val (.list T2_), .val T2_]
def bs_ring_Add : List BS := []
def pout_ring_Add : Pat := ⟨[(4, .val (.list T2_))], []⟩
noncomputable def G_ring_Add (w_slices_Clone_api_Item : List (Int × List UInt8) → Option (List (Int × List UInt8))) (w_slices_Delete_api_Item : Int × Int × List (Int × List UInt8) → Option (List (Int × List UInt8))) (N : Nat) : OrcT := orcOf [conw_slices_Clone_api_Item w_slices_Clone_api_Item, conw_slices_Delete_api_Item w_slices_Delete_api_Item]
noncomputable def F_ring_Add (w_slices_Clone_api_Item : List (Int × List UInt8) → Option (List (Int × List UInt8))) (w_slices_Delete_api_Item : Int × Int × List (Int × List UInt8) → Option (List (Int × List UInt8))) (N : Nat) (x : List (Int × List UInt8) × Int × List UInt8) : Option (List (Int × List UInt8)) :=
  (evT (G_ring_Add w_slices_Clone_api_Item w_slices_Delete_api_Item N) L0 P0 []
    [] N 400 (bodyOf Try.f68) ⟨34, slots 0 (argsOf as_ring_Add bs_ring_Add x), tabU (lbOf as_ring_Add bs_ring_Add x) [], []⟩).elim (kRet 34 pout_ring_Add (kpL []) (lbOf as_ring_Add bs_ring_Add x))
def out_ring_Add (y : List (Int × List UInt8)) : V × List OK × List OK := (valW (.list T2_) y, [], [])
noncomputable def V_ring_Add (w_slices_Clone_api_Item : List (Int × List UInt8) → Option (List (Int × List UInt8))) (w_slices_Delete_api_Item : Int × Int × List (Int × List UInt8) → Option (List (Int × List UInt8))) (N : Nat) (x : List (Int × List UInt8) × Int × List UInt8) : Option (List (Int × List UInt8)) :=
  obind (w_slices_Clone_api_Item x.1) fun b => cnd (decide ((0:Int) < (↑(List.length x.1) : Int))) (cnd (decide ((0:Int) ≤ wr .i64 ((↑(List.length
    x.1) : Int) - (1:Int))) && decide (wr .i64 ((↑(List.length x.1) : Int) - (1:Int)) < (↑(List.length x.1) : Int))) (cnd (decide (x.2.1 ≤ Prod.fst
    (List.getD x.1 (Int.toNat (wr .i64 ((↑(List.length x.1) : Int) - (1:Int)))) ((0:Int), [])))) (some b) (cnd (decide ((List.length b + List.length
    [x.2]) * (24:Nat) ≤ (140737488355328:Nat))) (cnd (decide ((6:Int) < (↑(List.length (b ++ [x.2])) : Int))) (obind (w_slices_Delete_api_Item
    ((0:Int), (1:Int), b ++ [x.2])) fun b => some b) (some (b ++ [x.2]))) none)) none) (cnd (decide ((List.length b + List.length [x.2]) * (24:Nat) ≤
    (140737488355328:Nat))) (cnd (decide ((6:Int) < (↑(List.length (b ++ [x.2])) : Int))) (obind (w_slices_Delete_api_Item ((0:Int), (1:Int), b ++
    [x.2])) fun b => some b) (some (b ++ [x.2]))) none)
theorem FV_ring_Add_eq (w_slices_Clone_api_Item : List (Int × List UInt8) → Option (List (Int × List UInt8))) (w_slices_Delete_api_Item : Int × Int × List (Int × List UInt8) → Option (List (Int × List UInt8))) (N : Nat) (x : List (Int × List UInt8) × Int × List UInt8) : F_ring_Add w_slices_Clone_api_Item w_slices_Delete_api_Item N x = V_ring_Add w_slices_Clone_api_Item w_slices_Delete_api_Item N x := by kernel_rfl
noncomputable def W_ring_Add (N : Nat) (x : List (Int × List UInt8) × Int × List UInt8) : Option (List (Int × List UInt8)) := V_ring_Add (W_slices_Clone_api_Item N) (W_slices_Delete_api_Item N) N x
theorem F_ring_Add_eq (N : Nat) (x : List (Int × List UInt8) × Int × List UInt8) : F_ring_Add (W_slices_Clone_api_Item N) (W_slices_Delete_api_Item N) N x = W_ring_Add N x := (FV_ring_Add_eq (W_slices_Clone_api_Item N) (W_slices_Delete_api_Item N) N x).trans (by kernel_rfl)
noncomputable def conw_ring_Add (w : List (Int × List UInt8) × Int × List UInt8 → Option (List (Int × List UInt8))) : Con := ⟨68, as_ring_Add, bs_ring_Add, List (Int × List UInt8), w, out_ring_Add⟩
noncomputable def con_ring_Add (N : Nat) : Con := conw_ring_Add (W_ring_Add N)
theorem R_ring_Add_eq (x : List (Int × List UInt8) × Int × List UInt8) (y : List (Int × List UInt8)) : retOf2 P0 Try.f68 (kpL []) (lbOf as_ring_Add bs_ring_Add x) (patS ⟨34, [], [], []⟩ pout_ring_Add y) = some (out_ring_Add y) := by kernel_rfl
theorem con_ring_Add_ok (N : Nat) : Con.ok P0 (con_ring_Add N) := ⟨⟨Try.f68, Try.func68, by kernel_rfl, by kernel_rfl⟩, fun (x : List (Int × List UInt8) × Int × List UInt8) (r : List (Int × List UInt8)) (hr : W_ring_Add N x = some r) =>
  spec2_evT (Γ := G_ring_Add (W_slices_Clone_api_Item N) (W_slices_Delete_api_Item N) N) (Λ := L0) (pout := pout_ring_Add) (kp := kpL []) mixed (orcOf_ok _ (by simp only [List.mem_cons, List.not_mem_nil, or_false, forall_eq_or_imp, forall_eq]; exact ⟨con_slices_Clone_api_Item_ok N, con_slices_Delete_api_Item_ok N⟩)) Try.func68 (c := bodyOf Try.f68) (by kernel_rfl) (by kernel_rfl) (of_decide_eq_true (by kernel_rfl)) ((F_ring_Add_eq N x).trans hr) (R_ring_Add_eq x r)⟩
def as_wait_Start : List AS := []
def bs_wait_Start : List BS := []
def pout_wait_Start : Pat := ⟨[(0, .ptr 600000 0)], [(600000, .box 33 (.val T3_))]⟩
noncomputable def G_wait_Start  (N : Nat) : OrcT := orcOf []
noncomputable def F_wait_Start  (N : Nat) (x : Unit) : Option (Int × Int) :=
  (evT (G_wait_Start  N) L0 P0 []
    [] N 400 (bodyOf Try.f65) ⟨2, slots 0 (argsOf as_wait_Start bs_wait_Start x), tabU (lbOf as_wait_Start bs_wait_Start x) [], []⟩).elim (kRet 2 pout_wait_Start (kpL []) (lbOf as_wait_Start bs_wait_Start x))
def out_wait_Start (y : Int × Int) : V × List OK × List OK := (valW (.agg T3_) y, [], [])
noncomputable def V_wait_Start  (N : Nat) (x : Unit) : Option (Int × Int) :=
  some ((0:Int), (0:Int))
theorem FV_wait_Start_eq  (N : Nat) (x : Unit) : F_wait_Start  N x = V_wait_Start  N x := by kernel_rfl
noncomputable def W_wait_Start (N : Nat) (x : Unit) : Option (Int × Int) := V_wait_Start  N x
theorem F_wait_Start_eq (N : Nat) (x : Unit) : F_wait_Start  N x = W_wait_Start N x := (FV_wait_Start_eq  N x).trans (by kernel_rfl)
noncomputable def conw_wait_Start (w : Unit → Option (Int × Int)) : Con := ⟨65, as_wait_Start, bs_wait_Start, Int × Int, w, out_wait_Start⟩
noncomputable def con_wait_Start (N : Nat) : Con := conw_wait_Start (W_wait_Start N)
theorem R_wait_Start_eq (x : Unit) (y : Int × Int) : retOf2 P0 Try.f65 (kpL []) (lbOf as_wait_Start bs_wait_Start x) (patS ⟨2, [], [], []⟩ pout_wait_Start y) = some (out_wait_Start y) := by kernel_rfl
theorem con_wait_Start_ok (N : Nat) : Con.ok P0 (con_wait_Start N) := ⟨⟨Try.f65, Try.func65, by kernel_rfl, by kernel_rfl⟩, fun (x : Unit) (r : Int × Int) (hr : W_wait_Start N x = some r) =>
  spec2_evT (Γ := G_wait_Start N) (Λ := L0) (pout := pout_wait_Start) (kp := kpL []) mixed (orcOf_ok [] (by simp)) Try.func65 (c := bodyOf Try.f65) (by kernel_rfl) (by kernel_rfl) (of_decide_eq_true (by kernel_rfl)) ((F_wait_Start_eq N x).trans hr) (R_wait_Start_eq x r)⟩
def as_nak_Goes : List AS := [.val (.agg T0_)]
def bs_nak_Goes : List BS := []
def pout_nak_Goes : Pat := ⟨[(2, .ptr 600002 0), (3, .val (.list T2_))], [(600002, .box 35 (.val T0_))]⟩
noncomputable def G_nak_Goes (w_twin_Feed : Int × Int × List (Int × List UInt8) × List (Int × List UInt8) × List A1_ × Int × Int → Option (Int × A0_)) (w_win_Take : List (Int × List UInt8) × Int → Option A3_) (w_log_Tell : List A1_ × Int × List UInt8 → Option (List A1_)) (w_ring_Add : List (Int × List UInt8) × Int × List UInt8 → Option (List (Int × List UInt8))) (w_wait_Start : Unit → Option (Int × Int)) (N : Nat) : OrcT := orcOf [conw_twin_Feed w_twin_Feed, conw_win_Take w_win_Take, conw_log_Tell w_log_Tell, conw_ring_Add w_ring_Add, conw_wait_Start w_wait_Start]
noncomputable def F_nak_Goes (w_twin_Feed : Int × Int × List (Int × List UInt8) × List (Int × List UInt8) × List A1_ × Int × Int → Option (Int × A0_)) (w_win_Take : List (Int × List UInt8) × Int → Option A3_) (w_log_Tell : List A1_ × Int × List UInt8 → Option (List A1_)) (w_ring_Add : List (Int × List UInt8) × Int × List UInt8 → Option (List (Int × List UInt8))) (w_wait_Start : Unit → Option (Int × Int)) (N : Nat) (x : Int × A0_) : Option A2_ :=
  (evT (G_nak_Goes w_twin_Feed w_win_Take w_log_Tell w_ring_Add w_wait_Start N) L0 P0 [(3, .loop [] ⟨[(2, .ptr 600002 0), (4, .ptr 600004 0), (5, .acc 700005)], [(600002, .box 35 (.val T0_)), (600004, .box 35 (.val T0_)), (700005, .nrow 28 T2_ true true)]⟩ [(.exit 0, ⟨[(2, .ptr 600002 0), (4, .ptr 600004 0), (5, .val (.list T2_))], [(600002, .box 35 (.val T0_)), (600004, .box 35 (.val T0_))]⟩)])]
    [] N 400 (bodyOf Try.f28) ⟨52, slots 0 (argsOf as_nak_Goes bs_nak_Goes x), tabU (lbOf as_nak_Goes bs_nak_Goes x) [], []⟩).elim (kRet 52 pout_nak_Goes (kpL []) (lbOf as_nak_Goes bs_nak_Goes x))
def out_nak_Goes (y : A2_) : V × List OK × List OK := (.tup [valW (.agg T0_) y.2, valW (.list T2_) y.1], [], [])
noncomputable def V_nak_Goes (w_twin_Feed : Int × Int × List (Int × List UInt8) × List (Int × List UInt8) × List A1_ × Int × Int → Option (Int × A0_)) (w_win_Take : List (Int × List UInt8) × Int → Option A3_) (w_log_Tell : List A1_ × Int × List UInt8 → Option (List A1_)) (w_ring_Add : List (Int × List UInt8) × Int × List UInt8 → Option (List (Int × List UInt8))) (w_wait_Start : Unit → Option (Int × Int)) (N : Nat) (x : Int × A0_) : Option A2_ :=
  obind (w_twin_Feed x) fun b => obind (loopN N (fun (v : (Int × A0_) × (Int × A0_) × List (Int × List UInt8)) => obind (w_win_Take (v.2.1.2.2.2.1, v.2.1.1)) fun b => cnd (!b.2.1) (some (Sum.inr (v.2.2, v.1, v.2.1))) (obind
    (w_log_Tell (v.2.1.2.2.2.2.1, b.2.2)) fun b_1 => obind (w_ring_Add (v.2.1.2.2.1, b.2.2)) fun b_2 => cnd (decide ((List.length v.2.2 +
    List.length [b.2.2]) * (24:Nat) ≤ (140737488355328:Nat))) (some (Sum.inl (v.1, (wr .i64 (v.2.1.1 + (1:Int)), v.2.1.2.1, b_2, b.1, b_1,
    v.2.1.2.2.2.2.2), v.2.2 ++ [b.2.2]))) none)) (((0:Int), (0:Int), [], [], [], (0:Int), (0:Int)), b, [])) fun (b : List (Int × List UInt8) × (Int × A0_) × Int × A0_) => cnd (decide ((0:Int) < (↑(List.length b.1) : Int)))
    (obind (w_wait_Start ()) fun b_1 => some (b.1, b.2.2.1, b.2.2.2.1, b.2.2.2.2.1, b.2.2.2.2.2.1, b.2.2.2.2.2.2.1, b_1)) (some (b.1, b.2.2))
theorem FV_nak_Goes_eq (w_twin_Feed : Int × Int × List (Int × List UInt8) × List (Int × List UInt8) × List A1_ × Int × Int → Option (Int × A0_)) (w_win_Take : List (Int × List UInt8) × Int → Option A3_) (w_log_Tell : List A1_ × Int × List UInt8 → Option (List A1_)) (w_ring_Add : List (Int × List UInt8) × Int × List UInt8 → Option (List (Int × List UInt8))) (w_wait_Start : Unit → Option (Int × Int)) (N : Nat) (x : Int × A0_) : F_nak_Goes w_twin_Feed w_win_Take w_log_Tell w_ring_Add w_wait_Start N x = V_nak_Goes w_twin_Feed w_win_Take w_log_Tell w_ring_Add w_wait_Start N x := by kernel_rfl
noncomputable def W_nak_Goes (N : Nat) (x : Int × A0_) : Option A2_ := V_nak_Goes (W_twin_Feed N) (W_win_Take N) (W_log_Tell N) (W_ring_Add N) (W_wait_Start N) N x
theorem F_nak_Goes_eq (N : Nat) (x : Int × A0_) : F_nak_Goes (W_twin_Feed N) (W_win_Take N) (W_log_Tell N) (W_ring_Add N) (W_wait_Start N) N x = W_nak_Goes N x := (FV_nak_Goes_eq (W_twin_Feed N) (W_win_Take N) (W_log_Tell N) (W_ring_Add N) (W_wait_Start N) N x).trans (by kernel_rfl)
noncomputable def conw_nak_Goes (w : Int × Int × List (Int × List UInt8) × List (Int × List UInt8) × List A1_ × Int × Int → Option A2_) : Con := ⟨28, as_nak_Goes, bs_nak_Goes, List (Int × List UInt8) × Int × Int × List (Int × List UInt8) × List (Int × List UInt8) × List A1_ × Int × Int, w, out_nak_Goes⟩
noncomputable def con_nak_Goes (N : Nat) : Con := conw_nak_Goes (W_nak_Goes N)
theorem R_nak_Goes_eq (x : Int × A0_) (y : A2_) : retOf2 P0 Try.f28 (kpL []) (lbOf as_nak_Goes bs_nak_Goes x) (patS ⟨52, [], [], []⟩ pout_nak_Goes y) = some (out_nak_Goes y) := by kernel_rfl
theorem con_nak_Goes_ok (N : Nat) : Con.ok P0 (con_nak_Goes N) := ⟨⟨Try.f28, Try.func28, by kernel_rfl, by kernel_rfl⟩, fun (x : Int × A0_) (r : A2_) (hr : W_nak_Goes N x = some r) =>
  spec2_evT (Γ := G_nak_Goes (W_twin_Feed N) (W_win_Take N) (W_log_Tell N) (W_ring_Add N) (W_wait_Start N) N) (Λ := L0) (pout := pout_nak_Goes) (kp := kpL []) mixed (orcOf_ok _ (by simp only [List.mem_cons, List.not_mem_nil, or_false, forall_eq_or_imp, forall_eq]; exact ⟨con_twin_Feed_ok N, con_win_Take_ok N, con_log_Tell_ok N, con_ring_Add_ok N, con_wait_Start_ok N⟩)) Try.func28 (c := bodyOf Try.f28) (by kernel_rfl) (by kernel_rfl) (of_decide_eq_true (by kernel_rfl)) ((F_nak_Goes_eq N x).trans hr) (R_nak_Goes_eq x r)⟩
def as_nak_Skips : List AS := [.val (.agg T0_), .val (.int .i64), .val (.int .i64)]
def bs_nak_Skips : List BS := []
def pout_nak_Skips : Pat := ⟨[(6, .ptr 600006 0), (7, .val (.list (.agg T3_)))], [(600006, .box 35 (.val T0_))]⟩
noncomputable def G_nak_Skips (w_twin_Feed : Int × Int × List (Int × List UInt8) × List (Int × List UInt8) × List A1_ × Int × Int → Option (Int × A0_)) (w_nak_first : Int × Int × List (Int × List UInt8) × List (Int × List UInt8) × List A1_ × Int × Int → Option (Int ⊕ Unit)) (w_log_Skip : List A1_ × Int × Int × Int → Option (List A1_)) (w_nak_Goes : Int × Int × List (Int × List UInt8) × List (Int × List UInt8) × List A1_ × Int × Int → Option A2_) (w_wait_Start : Unit → Option (Int × Int)) (N : Nat) : OrcT := orcOf [conw_twin_Feed w_twin_Feed, conw_nak_first w_nak_first, conw_log_Skip w_log_Skip, conw_nak_Goes w_nak_Goes, conw_wait_Start w_wait_Start]
noncomputable def F_nak_Skips (w_twin_Feed : Int × Int × List (Int × List UInt8) × List (Int × List UInt8) × List A1_ × Int × Int → Option (Int × A0_)) (w_nak_first : Int × Int × List (Int × List UInt8) × List (Int × List UInt8) × List A1_ × Int × Int → Option (Int ⊕ Unit)) (w_log_Skip : List A1_ × Int × Int × Int → Option (List A1_)) (w_nak_Goes : Int × Int × List (Int × List UInt8) × List (Int × List UInt8) × List A1_ × Int × Int → Option A2_) (w_wait_Start : Unit → Option (Int × Int)) (N : Nat) (x : (Int × A0_) × Int × Int) : Option A4_ :=
  (evT (G_nak_Skips w_twin_Feed w_nak_first w_log_Skip w_nak_Goes w_wait_Start N) L0 P0 [(6, .loop [] ⟨[(3, .ptr 600003 0), (6, .ptr 600006 0), (8, .ptr 600008 0), (9, .ptr 600009 0), (10, .fn 63 [600008, 600005, 600009])], [(600003, .box 35 (.val T0_)), (600006, .box 35 (.val T0_)), (600008, .box 35 (.val T0_)), (600009, .box 44 (.acc 601009)), (601009, .nrow 40 (.agg T3_) true true), (600005, .box 3 (.val (.int .i64)))]⟩ [(.exit 0, ⟨[(3, .ptr 600003 0), (6, .ptr 600006 0), (8, .ptr 600008 0), (9, .ptr 600009 0)], [(600003, .box 35 (.val T0_)), (600006, .box 35 (.val T0_)), (600008, .box 35 (.val T0_)), (600009, .box 44 (.acc 601009)), (601009, .nrow 40 (.agg T3_) true true)]⟩)])]
    [(12, .cut [] [(.normal, ⟨[(3, .ptr 600003 0), (6, .ptr 600006 0), (8, .ptr 600008 0), (9, .ptr 600009 0), (10, .fn 63 [600008, 600005, 600009])], [(600003, .box 35 (.val T0_)), (600006, .box 35 (.val T0_)), (600008, .box 35 (.val T0_)), (600009, .box 44 (.acc 601009)), (601009, .nrow 40 (.agg T3_) true true), (600005, .box 3 (.val (.int .i64)))]⟩)])] N 400 (bodyOf Try.f25) ⟨66, slots 0 (argsOf as_nak_Skips bs_nak_Skips x), tabU (lbOf as_nak_Skips bs_nak_Skips x) [], []⟩).elim (kRet 66 pout_nak_Skips (kpL []) (lbOf as_nak_Skips bs_nak_Skips x))
def out_nak_Skips (y : A4_) : V × List OK × List OK := (.tup [valW (.agg T0_) y.2, valW (.list (.agg T3_)) y.1], [], [])
noncomputable def V_nak_Skips (w_twin_Feed : Int × Int × List (Int × List UInt8) × List (Int × List UInt8) × List A1_ × Int × Int → Option (Int × A0_)) (w_nak_first : Int × Int × List (Int × List UInt8) × List (Int × List UInt8) × List A1_ × Int × Int → Option (Int ⊕ Unit)) (w_log_Skip : List A1_ × Int × Int × Int → Option (List A1_)) (w_nak_Goes : Int × Int × List (Int × List UInt8) × List (Int × List UInt8) × List A1_ × Int × Int → Option A2_) (w_wait_Start : Unit → Option (Int × Int)) (N : Nat) (x : (Int × A0_) × Int × Int) : Option A4_ :=
  obind (w_twin_Feed x.1) fun b => cnd (decide (x.1.1 < (1:Int))) (some ([], b)) (cnd (decide ((1000000:Int) < x.2.1)) (some ([], b)) (obind (loopN N
    (fun (v : (Int × A0_) × (Int × A0_) × (Int × A0_) × List (Int × Int) × Int) => cnd (decide (v.2.2.1.1 ≤ x.2.1))
    (obind (w_nak_first v.2.2.1) fun b => selim (fun (b : Int) => cnd (decide (x.2.1 < b)) (obind (w_log_Skip (v.2.2.1.2.2.2.2.1, v.2.2.1.1, x.2.1,
    v.2.2.2.2)) fun b => cnd (decide ((List.length v.2.2.2.1 + List.length [(v.2.2.1.1, x.2.1)]) * (16:Nat) ≤ (140737488355328:Nat))) (some (Sum.inl
    (v.1, v.2.1, (wr .i64 (x.2.1 + (1:Int)), v.2.2.1.2.1, v.2.2.1.2.2.1, v.2.2.1.2.2.2.1, b, v.2.2.1.2.2.2.2.2), v.2.2.2.1 ++ [(v.2.2.1.1, x.2.1)],
    v.2.2.2.2))) none) (obind (cnd (decide (v.2.2.1.1 < b)) (obind (w_log_Skip (v.2.2.1.2.2.2.2.1, v.2.2.1.1, wr .i64 (b - (1:Int)), v.2.2.2.2)) fun
    b_1 => cnd (decide ((List.length v.2.2.2.1 + List.length [(v.2.2.1.1, wr .i64 (b - (1:Int)))]) * (16:Nat) ≤ (140737488355328:Nat))) (some (v.1,
    v.2.1, (wr .i64 (wr .i64 (b - (1:Int)) + (1:Int)), v.2.2.1.2.1, v.2.2.1.2.2.1, v.2.2.1.2.2.2.1, b_1, v.2.2.1.2.2.2.2.2), v.2.2.2.1 ++ [(v.2.2.1.1,
    wr .i64 (b - (1:Int)))], v.2.2.2.2)) none) (some v)) fun (b : (Int × A0_) × (Int × A0_) × (Int × A0_) × List (Int × Int) × Int) => obind (w_nak_Goes b.2.2.1) fun b_1 => some (Sum.inl (b.1, b.2.1, b_1.2, b.2.2.2)))) (fun (c : PUnit) => obind (w_log_Skip
    (v.2.2.1.2.2.2.2.1, v.2.2.1.1, x.2.1, v.2.2.2.2)) fun b => cnd (decide ((List.length v.2.2.2.1 + List.length [(v.2.2.1.1, x.2.1)]) * (16:Nat) ≤
    (140737488355328:Nat))) (some (Sum.inl (v.1, v.2.1, (wr .i64 (x.2.1 + (1:Int)), v.2.2.1.2.1, v.2.2.1.2.2.1, v.2.2.1.2.2.2.1, b, v.2.2.1.2.2.2.2.2),
    v.2.2.2.1 ++ [(v.2.2.1.1, x.2.1)], v.2.2.2.2))) none) b) (some (Sum.inr (v.1, v.2.1, v.2.2.1, v.2.2.2.1)))) (x.1, ((0:Int), (0:Int), [], [], [],
    (0:Int), (0:Int)), b, [], x.2.2)) fun (b : (Int × A0_) × (Int × A0_) × (Int × A0_) × List (Int × Int)) => cnd (decide
    (b.2.2.1.1 ≠ b.1.1)) (obind (w_wait_Start ()) fun b_1 => some (b.2.2.2, b.2.2.1.1, b.2.2.1.2.1, b.2.2.1.2.2.1, b.2.2.1.2.2.2.1, b.2.2.1.2.2.2.2.1,
    b_1)) (some (b.2.2.2, b.2.2.1))))
theorem FV_nak_Skips_eq (w_twin_Feed : Int × Int × List (Int × List UInt8) × List (Int × List UInt8) × List A1_ × Int × Int → Option (Int × A0_)) (w_nak_first : Int × Int × List (Int × List UInt8) × List (Int × List UInt8) × List A1_ × Int × Int → Option (Int ⊕ Unit)) (w_log_Skip : List A1_ × Int × Int × Int → Option (List A1_)) (w_nak_Goes : Int × Int × List (Int × List UInt8) × List (Int × List UInt8) × List A1_ × Int × Int → Option A2_) (w_wait_Start : Unit → Option (Int × Int)) (N : Nat) (x : (Int × A0_) × Int × Int) : F_nak_Skips w_twin_Feed w_nak_first w_log_Skip w_nak_Goes w_wait_Start N x = V_nak_Skips w_twin_Feed w_nak_first w_log_Skip w_nak_Goes w_wait_Start N x := by kernel_rfl
noncomputable def W_nak_Skips (N : Nat) (x : (Int × A0_) × Int × Int) : Option A4_ := V_nak_Skips (W_twin_Feed N) (W_nak_first N) (W_log_Skip N) (W_nak_Goes N) (W_wait_Start N) N x
theorem F_nak_Skips_eq (N : Nat) (x : (Int × A0_) × Int × Int) : F_nak_Skips (W_twin_Feed N) (W_nak_first N) (W_log_Skip N) (W_nak_Goes N) (W_wait_Start N) N x = W_nak_Skips N x := (FV_nak_Skips_eq (W_twin_Feed N) (W_nak_first N) (W_log_Skip N) (W_nak_Goes N) (W_wait_Start N) N x).trans (by kernel_rfl)
noncomputable def conw_nak_Skips (w : (Int × A0_) × Int × Int → Option A4_) : Con := ⟨25, as_nak_Skips, bs_nak_Skips, List (Int × Int) × Int × Int × List (Int × List UInt8) × List (Int × List UInt8) × List A1_ × Int × Int, w, out_nak_Skips⟩
noncomputable def con_nak_Skips (N : Nat) : Con := conw_nak_Skips (W_nak_Skips N)
theorem R_nak_Skips_eq (x : (Int × A0_) × Int × Int) (y : A4_) : retOf2 P0 Try.f25 (kpL []) (lbOf as_nak_Skips bs_nak_Skips x) (patS ⟨66, [], [], []⟩ pout_nak_Skips y) = some (out_nak_Skips y) := by kernel_rfl
theorem con_nak_Skips_ok (N : Nat) : Con.ok P0 (con_nak_Skips N) := ⟨⟨Try.f25, Try.func25, by kernel_rfl, by kernel_rfl⟩, fun (x : (Int × A0_) × Int × Int) (r : A4_) (hr : W_nak_Skips N x = some r) =>
  spec2_evT (Γ := G_nak_Skips (W_twin_Feed N) (W_nak_first N) (W_log_Skip N) (W_nak_Goes N) (W_wait_Start N) N) (Λ := L0) (pout := pout_nak_Skips) (kp := kpL []) mixed (orcOf_ok _ (by simp only [List.mem_cons, List.not_mem_nil, or_false, forall_eq_or_imp, forall_eq]; exact ⟨con_twin_Feed_ok N, con_nak_first_ok N, con_log_Skip_ok N, con_nak_Goes_ok N, con_wait_Start_ok N⟩)) Try.func25 (c := bodyOf Try.f25) (by kernel_rfl) (by kernel_rfl) (of_decide_eq_true (by kernel_rfl)) ((F_nak_Skips_eq N x).trans hr) (R_nak_Skips_eq x r)⟩
def as_feed_Notes : List AS := [.val (.agg T0_), .val (.int .i64), .val (.int .i64)]
def bs_feed_Notes : List BS := []
def pout_feed_Notes : Pat := ⟨[(6, .ptr 600006 0)], [(600006, .box 35 (.val T0_))]⟩
noncomputable def G_feed_Notes (w_feed_read : Int × Int × List (Int × List UInt8) × List (Int × List UInt8) × List A1_ × Int × Int → Option (Int ⊕ Unit)) (w_twin_Feed : Int × Int × List (Int × List UInt8) × List (Int × List UInt8) × List A1_ × Int × Int → Option (Int × A0_)) (w_feed_Knows : (Int × A0_) × Int → Option (Int × A0_)) (w_nak_Skips : (Int × A0_) × Int × Int → Option A4_) (w_nak_Goes : Int × Int × List (Int × List UInt8) × List (Int × List UInt8) × List A1_ × Int × Int → Option A2_) (N : Nat) : OrcT := orcOf [conw_feed_read w_feed_read, conw_twin_Feed w_twin_Feed, conw_feed_Knows w_feed_Knows, conw_nak_Skips w_nak_Skips, conw_nak_Goes w_nak_Goes]
noncomputable def F_feed_Notes (w_feed_read : Int × Int × List (Int × List UInt8) × List (Int × List UInt8) × List A1_ × Int × Int → Option (Int ⊕ Unit)) (w_twin_Feed : Int × Int × List (Int × List UInt8) × List (Int × List UInt8) × List A1_ × Int × Int → Option (Int × A0_)) (w_feed_Knows : (Int × A0_) × Int → Option (Int × A0_)) (w_nak_Skips : (Int × A0_) × Int × Int → Option A4_) (w_nak_Goes : Int × Int × List (Int × List UInt8) × List (Int × List UInt8) × List A1_ × Int × Int → Option A2_) (N : Nat) (x : (Int × A0_) × Int × Int) : Option (Int × A0_) :=
  (evT (G_feed_Notes w_feed_read w_twin_Feed w_feed_Knows w_nak_Skips w_nak_Goes N) L0 P0 []
    [(1000002, .reg [(6, [], ⟨[(3, .ptr 600003 0), (6, .ptr 600006 0), (7, .ptr 600007 0), (21, .val .bool)], [(600003, .box 35 (.val T0_)), (600006, .box 35 (.val T0_)), (600007, .box 109 (.val (.int .i64)))]⟩), (5, [], ⟨[(3, .ptr 600003 0), (6, .ptr 600006 0), (7, .ptr 600007 0), (26, .val .bool)], [(600003, .box 35 (.val T0_)), (600006, .box 35 (.val T0_)), (600007, .box 109 (.val (.int .i64)))]⟩)])] N 400 (bodyOf Try.f45) ⟨59, slots 0 (argsOf as_feed_Notes bs_feed_Notes x), tabU (lbOf as_feed_Notes bs_feed_Notes x) [], []⟩).elim (kRet 59 pout_feed_Notes (kpL []) (lbOf as_feed_Notes bs_feed_Notes x))
def out_feed_Notes (y : Int × A0_) : V × List OK × List OK := (valW (.agg T0_) y, [], [])
noncomputable def V_feed_Notes (w_feed_read : Int × Int × List (Int × List UInt8) × List (Int × List UInt8) × List A1_ × Int × Int → Option (Int ⊕ Unit)) (w_twin_Feed : Int × Int × List (Int × List UInt8) × List (Int × List UInt8) × List A1_ × Int × Int → Option (Int × A0_)) (w_feed_Knows : (Int × A0_) × Int → Option (Int × A0_)) (w_nak_Skips : (Int × A0_) × Int × Int → Option A4_) (w_nak_Goes : Int × Int × List (Int × List UInt8) × List (Int × List UInt8) × List A1_ × Int × Int → Option A2_) (N : Nat) (x : (Int × A0_) × Int × Int) : Option (Int × A0_) :=
  obind (w_feed_read x.1) fun b => selim (fun (b : Int) => obind (cnd (decide (x.2.1 < (1:Int))) (some (true, x.1, ((0:Int), (0:Int), [], [], [],
    (0:Int), (0:Int)), b)) (some (decide (x.2.2 < x.2.1), x.1, ((0:Int), (0:Int), [], [], [], (0:Int), (0:Int)), b))) fun (b : Bool × (Int × A0_) × (Int × A0_) × Int) => cnd b.1 (obind (w_twin_Feed b.2.1) fun b => some b) (cnd
    (decide ((1000000:Int) < x.2.2)) (obind (w_twin_Feed b.2.1) fun b => some b) (obind (w_feed_Knows (b.2.1, x.2.2)) fun b_1 => cnd (decide
    (b.2.2.2 < x.2.1)) (some b_1) (cnd (decide (x.2.2 < b.2.2.2)) (some b_1) (obind (w_nak_Skips (b_1, x.2.2, (1:Int))) fun b => obind (w_nak_Goes
    b.2) fun b => some b.2))))) (fun (c : PUnit) => obind (cnd true (some (true, x.1, ((0:Int), (0:Int), [], [], [], (0:Int), (0:Int)), (0:Int))) (some
    (decide (x.2.2 < x.2.1), x.1, ((0:Int), (0:Int), [], [], [], (0:Int), (0:Int)), (0:Int)))) fun (b : Bool × (Int × A0_) × (Int × A0_) × Int) => cnd b.1 (obind (w_twin_Feed b.2.1) fun b => some b) (cnd (decide ((1000000:Int) <
    x.2.2)) (obind (w_twin_Feed b.2.1) fun b => some b) (obind (w_feed_Knows (b.2.1, x.2.2)) fun b_1 => cnd (decide (b.2.2.2 < x.2.1)) (some b_1)
    (cnd (decide (x.2.2 < b.2.2.2)) (some b_1) (obind (w_nak_Skips (b_1, x.2.2, (1:Int))) fun b => obind (w_nak_Goes b.2) fun b => some b.2))))) b
theorem FV_feed_Notes_eq (w_feed_read : Int × Int × List (Int × List UInt8) × List (Int × List UInt8) × List A1_ × Int × Int → Option (Int ⊕ Unit)) (w_twin_Feed : Int × Int × List (Int × List UInt8) × List (Int × List UInt8) × List A1_ × Int × Int → Option (Int × A0_)) (w_feed_Knows : (Int × A0_) × Int → Option (Int × A0_)) (w_nak_Skips : (Int × A0_) × Int × Int → Option A4_) (w_nak_Goes : Int × Int × List (Int × List UInt8) × List (Int × List UInt8) × List A1_ × Int × Int → Option A2_) (N : Nat) (x : (Int × A0_) × Int × Int) : F_feed_Notes w_feed_read w_twin_Feed w_feed_Knows w_nak_Skips w_nak_Goes N x = V_feed_Notes w_feed_read w_twin_Feed w_feed_Knows w_nak_Skips w_nak_Goes N x := by kernel_rfl
noncomputable def W_feed_Notes (N : Nat) (x : (Int × A0_) × Int × Int) : Option (Int × A0_) := V_feed_Notes (W_feed_read N) (W_twin_Feed N) (W_feed_Knows N) (W_nak_Skips N) (W_nak_Goes N) N x
theorem F_feed_Notes_eq (N : Nat) (x : (Int × A0_) × Int × Int) : F_feed_Notes (W_feed_read N) (W_twin_Feed N) (W_feed_Knows N) (W_nak_Skips N) (W_nak_Goes N) N x = W_feed_Notes N x := (FV_feed_Notes_eq (W_feed_read N) (W_twin_Feed N) (W_feed_Knows N) (W_nak_Skips N) (W_nak_Goes N) N x).trans (by kernel_rfl)
noncomputable def conw_feed_Notes (w : (Int × A0_) × Int × Int → Option (Int × A0_)) : Con := ⟨45, as_feed_Notes, bs_feed_Notes, Int × Int × List (Int × List UInt8) × List (Int × List UInt8) × List A1_ × Int × Int, w, out_feed_Notes⟩
noncomputable def con_feed_Notes (N : Nat) : Con := conw_feed_Notes (W_feed_Notes N)
theorem R_feed_Notes_eq (x : (Int × A0_) × Int × Int) (y : Int × A0_) : retOf2 P0 Try.f45 (kpL []) (lbOf as_feed_Notes bs_feed_Notes x) (patS ⟨59, [], [], []⟩ pout_feed_Notes y) = some (out_feed_Notes y) := by kernel_rfl
theorem con_feed_Notes_ok (N : Nat) : Con.ok P0 (con_feed_Notes N) := ⟨⟨Try.f45, Try.func45, by kernel_rfl, by kernel_rfl⟩, fun (x : (Int × A0_) × Int × Int) (r : Int × A0_) (hr : W_feed_Notes N x = some r) =>
  spec2_evT (Γ := G_feed_Notes (W_feed_read N) (W_twin_Feed N) (W_feed_Knows N) (W_nak_Skips N) (W_nak_Goes N) N) (Λ := L0) (pout := pout_feed_Notes) (kp := kpL []) mixed (orcOf_ok _ (by simp only [List.mem_cons, List.not_mem_nil, or_false, forall_eq_or_imp, forall_eq]; exact ⟨con_feed_read_ok N, con_twin_Feed_ok N, con_feed_Knows_ok N, con_nak_Skips_ok N, con_nak_Goes_ok N⟩)) Try.func45 (c := bodyOf Try.f45) (by kernel_rfl) (by kernel_rfl) (of_decide_eq_true (by kernel_rfl)) ((F_feed_Notes_eq N x).trans hr) (R_feed_Notes_eq x r)⟩
def as_ref1_MaySpan : List AS := [.val (.agg T3_)]
def bs_ref1_MaySpan : List BS := []
def pout_ref1_MaySpan : Pat := ⟨[(2, .val .bool)], []⟩
noncomputable def G_ref1_MaySpan  (N : Nat) : OrcT := orcOf []
noncomputable def F_ref1_MaySpan  (N : Nat) (x : Int × Int) : Option (Bool) :=
  (evT (G_ref1_MaySpan  N) L0 P0 []
    [(1000001, .reg [(10, [], ⟨[(1, .ptr 600001 0), (12, .val .bool)], [(600001, .box 40 (.val T3_))]⟩)])] N 400 (bodyOf Try.f73) ⟨18, slots 0 (argsOf as_ref1_MaySpan bs_ref1_MaySpan x), tabU (lbOf as_ref1_MaySpan bs_ref1_MaySpan x) [], []⟩).elim (kRet 18 pout_ref1_MaySpan (kpL []) (lbOf as_ref1_MaySpan bs_ref1_MaySpan x))
def out_ref1_MaySpan (y : Bool) : V × List OK × List OK := (valW .bool y, [], [])
noncomputable def V_ref1_MaySpan  (N : Nat) (x : Int × Int) : Option (Bool) :=
  obind (cnd (decide ((1:Int) ≤ x.1)) (some (decide (x.1 ≤ x.2), x)) (some (false, x))) fun (b : Bool × Int × Int) => cnd b.1 (some (decide (b.2.2 ≤ (1000000:Int)))) (some false)
theorem FV_ref1_MaySpan_eq  (N : Nat) (x : Int × Int) : F_ref1_MaySpan  N x = V_ref1_MaySpan  N x := by kernel_rfl
noncomputable def W_ref1_MaySpan (N : Nat) (x : Int × Int) : Option (Bool) := V_ref1_MaySpan  N x
theorem F_ref1_MaySpan_eq (N : Nat) (x : Int × Int) : F_ref1_MaySpan  N x = W_ref1_MaySpan N x := (FV_ref1_MaySpan_eq  N x).trans (by kernel_rfl)
noncomputable def conw_ref1_MaySpan (w : Int × Int → Option (Bool)) : Con := ⟨73, as_ref1_MaySpan, bs_ref1_MaySpan, Bool, w, out_ref1_MaySpan⟩
noncomputable def con_ref1_MaySpan (N : Nat) : Con := conw_ref1_MaySpan (W_ref1_MaySpan N)
theorem R_ref1_MaySpan_eq (x : Int × Int) (y : Bool) : retOf2 P0 Try.f73 (kpL []) (lbOf as_ref1_MaySpan bs_ref1_MaySpan x) (patS ⟨18, [], [], []⟩ pout_ref1_MaySpan y) = some (out_ref1_MaySpan y) := by kernel_rfl
theorem con_ref1_MaySpan_ok (N : Nat) : Con.ok P0 (con_ref1_MaySpan N) := ⟨⟨Try.f73, Try.func73, by kernel_rfl, by kernel_rfl⟩, fun (x : Int × Int) (r : Bool) (hr : W_ref1_MaySpan N x = some r) =>
  spec2_evT (Γ := G_ref1_MaySpan N) (Λ := L0) (pout := pout_ref1_MaySpan) (kp := kpL []) mixed (orcOf_ok [] (by simp)) Try.func73 (c := bodyOf Try.f73) (by kernel_rfl) (by kernel_rfl) (of_decide_eq_true (by kernel_rfl)) ((F_ref1_MaySpan_eq N x).trans hr) (R_ref1_MaySpan_eq x r)⟩
def as_ref13_First : List AS := [.val (.list T2_)]
def bs_ref13_First : List BS := []
def pout_ref13_First : Pat := ⟨[(2, .val (.int .i64))], []⟩
noncomputable def G_ref13_First  (N : Nat) : OrcT := orcOf []
noncomputable def F_ref13_First  (N : Nat) (x : List (Int × List UInt8)) : Option (Int) :=
  (evT (G_ref13_First  N) L0 P0 []
    [] N 400 (bodyOf Try.f59) ⟨10, slots 0 (argsOf as_ref13_First bs_ref13_First x), tabU (lbOf as_ref13_First bs_ref13_First x) [], []⟩).elim (kRet 10 pout_ref13_First (kpL []) (lbOf as_ref13_First bs_ref13_First x))
def out_ref13_First (y : Int) : V × List OK × List OK := (valW (.int .i64) y, [], [])
noncomputable def V_ref13_First  (N : Nat) (x : List (Int × List UInt8)) : Option (Int) :=
  cnd (decide ((↑(List.length x) : Int) = (0:Int))) (some (0:Int)) (cnd (decide ((0:Int) ≤ (0:Int)) && decide ((0:Int) < (↑(List.length x) : Int))) (some (Prod.fst (List.getD x (0:Nat) ((0:Int), [])))) none)
theorem FV_ref13_First_eq  (N : Nat) (x : List (Int × List UInt8)) : F_ref13_First  N x = V_ref13_First  N x := by kernel_rfl
noncomputable def W_ref13_First (N : Nat) (x : List (Int × List UInt8)) : Option (Int) := V_ref13_First  N x
theorem F_ref13_First_eq (N : Nat) (x : List (Int × List UInt8)) : F_ref13_First  N x = W_ref13_First N x := (FV_ref13_First_eq  N x).trans (by kernel_rfl)
noncomputable def conw_ref13_First (w : List (Int × List UInt8) → Option (Int)) : Con := ⟨59, as_ref13_First, bs_ref13_First, Int, w, out_ref13_First⟩
noncomputable def con_ref13_First (N : Nat) : Con := conw_ref13_First (W_ref13_First N)
theorem R_ref13_First_eq (x : List (Int × List UInt8)) (y : Int) : retOf2 P0 Try.f59 (kpL []) (lbOf as_ref13_First bs_ref13_First x) (patS ⟨10, [], [], []⟩ pout_ref13_First y) = some (out_ref13_First y) := by kernel_rfl
theorem con_ref13_First_ok (N : Nat) : Con.ok P0 (con_ref13_First N) := ⟨⟨Try.f59, Try.func59, by kernel_rfl, by kernel_rfl⟩, fun (x : List (Int × List UInt8)) (r : Int) (hr : W_ref13_First N x = some r) =>
  spec2_evT (Γ := G_ref13_First N) (Λ := L0) (pout := pout_ref13_First) (kp := kpL []) mixed (orcOf_ok [] (by simp)) Try.func59 (c := bodyOf Try.f59) (by kernel_rfl) (by kernel_rfl) (of_decide_eq_true (by kernel_rfl)) ((F_ref13_First_eq N x).trans hr) (R_ref13_First_eq x r)⟩
def as_ref13_Skip : List AS := [.val (.list T1_), .val (.int .i64), .val (.int .i64), .val (.int .i64)]
def bs_ref13_Skip : List BS := []
def pout_ref13_Skip : Pat := ⟨[(8, .val (.list T1_))], []⟩
noncomputable def G_ref13_Skip  (N : Nat) : OrcT := orcOf []
noncomputable def F_ref13_Skip  (N : Nat) (x : List A1_ × Int × Int × Int) : Option (List A1_) :=
  (evT (G_ref13_Skip  N) L0 P0 []
    [] N 400 (bodyOf Try.f66) ⟨18, slots 0 (argsOf as_ref13_Skip bs_ref13_Skip x), tabU (lbOf as_ref13_Skip bs_ref13_Skip x) [], []⟩).elim (kRet 18 pout_ref13_Skip (kpL []) (lbOf as_ref13_Skip bs_ref13_Skip x))
def out_ref13_Skip (y : List A1_) : V × List OK × List OK := (valW (.list T1_) y, [], [])
noncomputable def V_ref13_Skip  (N : Nat) (x : List A1_ × Int × Int × Int) : Option (List A1_) :=
  cnd (decide (List.length x.1 * (48:Nat) ≤ (140737488355328:Nat))) (cnd (decide ((List.length x.1 + (1:Nat)) * (48:Nat) ≤ (140737488355328:Nat))) (some (x.1 ++ [((2:Int), x.2.1, x.2.2.1, [], x.2.2.2)])) none) none
theorem FV_ref13_Skip_eq  (N : Nat) (x : List A1_ × Int × Int × Int) : F_ref13_Skip  N x = V_ref13_Skip  N x := by kernel_rfl
noncomputable def W_ref13_Skip (N : Nat) (x : List A1_ × Int × Int × Int) : Option (List A1_) := V_ref13_Skip  N x
theorem F_ref13_Skip_eq (N : Nat) (x : List A1_ × Int × Int × Int) : F_ref13_Skip  N x = W_ref13_Skip N x := (FV_ref13_Skip_eq  N x).trans (by kernel_rfl)
noncomputable def conw_ref13_Skip (w : List A1_ × Int × Int × Int → Option (List A1_)) : Con := ⟨66, as_ref13_Skip, bs_ref13_Skip, List A1_, w, out_ref13_Skip⟩
noncomputable def con_ref13_Skip (N : Nat) : Con := conw_ref13_Skip (W_ref13_Skip N)
theorem R_ref13_Skip_eq (x : List A1_ × Int × Int × Int) (y : List A1_) : retOf2 P0 Try.f66 (kpL []) (lbOf as_ref13_Skip bs_ref13_Skip x) (patS ⟨18, [], [], []⟩ pout_ref13_Skip y) = some (out_ref13_Skip y) := by kernel_rfl
theorem con_ref13_Skip_ok (N : Nat) : Con.ok P0 (con_ref13_Skip N) := ⟨⟨Try.f66, Try.func66, by kernel_rfl, by kernel_rfl⟩, fun (x : List A1_ × Int × Int × Int) (r : List A1_) (hr : W_ref13_Skip N x = some r) =>
  spec2_evT (Γ := G_ref13_Skip N) (Λ := L0) (pout := pout_ref13_Skip) (kp := kpL []) mixed (orcOf_ok [] (by simp)) Try.func66 (c := bodyOf Try.f66) (by kernel_rfl) (by kernel_rfl) (of_decide_eq_true (by kernel_rfl)) ((F_ref13_Skip_eq N x).trans hr) (R_ref13_Skip_eq x r)⟩
def as_ref13_TakeWin : List AS := [.val (.list T2_), .val (.int .i64)]
def bs_ref13_TakeWin : List BS := []
def pout_ref13_TakeWin : Pat := ⟨[(4, .val (.list T2_)), (5, .ptr 600005 0), (6, .val .bool)], [(600005, .box 28 (.val (.pair (.int .i64) .str)))]⟩
noncomputable def G_ref13_TakeWin  (N : Nat) : OrcT := orcOf []
noncomputable def F_ref13_TakeWin  (N : Nat) (x : List (Int × List UInt8) × Int) : Option A3_ :=
  (evT (G_ref13_TakeWin  N) L0 P0 []
    [] N 400 (bodyOf Try.f69) ⟨27, slots 0 (argsOf as_ref13_TakeWin bs_ref13_TakeWin x), tabU (lbOf as_ref13_TakeWin bs_ref13_TakeWin x) [], []⟩).elim (kRet 27 pout_ref13_TakeWin (kpL []) (lbOf as_ref13_TakeWin bs_ref13_TakeWin x))
def out_ref13_TakeWin (y : A3_) : V × List OK × List OK := (.tup [valW (.list T2_) y.1, valW T2_ y.2.2, valW .bool y.2.1], [], [])
noncomputable def V_ref13_TakeWin  (N : Nat) (x : List (Int × List UInt8) × Int) : Option A3_ :=
  cnd (decide ((↑(List.length x.1) : Int) = (0:Int))) (some (x.1, false, (0:Int), [])) (cnd (decide ((0:Int) ≤ (0:Int)) && decide ((0:Int) <
    (↑(List.length x.1) : Int))) (cnd (decide (Prod.fst (List.getD x.1 (0:Nat) ((0:Int), [])) ≠ x.2)) (some (x.1, false, (0:Int), [])) (cnd (decide
    ((0:Int) ≤ (1:Int)) && decide ((1:Int) ≤ (↑(List.length x.1) : Int))) (cnd (decide (List.length (List.drop (1:Nat) (List.take (List.length x.1)
    x.1)) * (24:Nat) ≤ (140737488355328:Nat))) (cnd (decide ((0:Int) ≤ (0:Int)) && decide ((0:Int) < (↑(List.length x.1) : Int))) (some (List.drop
    (1:Nat) (List.take (List.length x.1) x.1), true, Prod.fst (List.getD x.1 (0:Nat) ((0:Int), [])), Prod.snd (List.getD x.1 (0:Nat) ((0:Int), []))))
    none) none) none)) none)
theorem FV_ref13_TakeWin_eq  (N : Nat) (x : List (Int × List UInt8) × Int) : F_ref13_TakeWin  N x = V_ref13_TakeWin  N x := by kernel_rfl
noncomputable def W_ref13_TakeWin (N : Nat) (x : List (Int × List UInt8) × Int) : Option A3_ := V_ref13_TakeWin  N x
theorem F_ref13_TakeWin_eq (N : Nat) (x : List (Int × List UInt8) × Int) : F_ref13_TakeWin  N x = W_ref13_TakeWin N x := (FV_ref13_TakeWin_eq  N x).trans (by kernel_rfl)
noncomputable def conw_ref13_TakeWin (w : List (Int × List UInt8) × Int → Option A3_) : Con := ⟨69, as_ref13_TakeWin, bs_ref13_TakeWin, List (Int × List UInt8) × Bool × Int × List UInt8, w, out_ref13_TakeWin⟩
noncomputable def con_ref13_TakeWin (N : Nat) : Con := conw_ref13_TakeWin (W_ref13_TakeWin N)
theorem R_ref13_TakeWin_eq (x : List (Int × List UInt8) × Int) (y : A3_) : retOf2 P0 Try.f69 (kpL []) (lbOf as_ref13_TakeWin bs_ref13_TakeWin x) (patS ⟨27, [], [], []⟩ pout_ref13_TakeWin y) = some (out_ref13_TakeWin y) := by kernel_rfl
theorem con_ref13_TakeWin_ok (N : Nat) : Con.ok P0 (con_ref13_TakeWin N) := ⟨⟨Try.f69, Try.func69, by kernel_rfl, by kernel_rfl⟩, fun (x : List (Int × List UInt8) × Int) (r : A3_) (hr : W_ref13_TakeWin N x = some r) =>
  spec2_evT (Γ := G_ref13_TakeWin N) (Λ := L0) (pout := pout_ref13_TakeWin) (kp := kpL []) mixed (orcOf_ok [] (by simp)) Try.func69 (c := bodyOf Try.f69) (by kernel_rfl) (by kernel_rfl) (of_decide_eq_true (by kernel_rfl)) ((F_ref13_TakeWin_eq N x).trans hr) (R_ref13_TakeWin_eq x r)⟩
def as_ref13_Tell : List AS := [.val (.list T1_), .val (.int .i64), .val .str]
def bs_ref13_Tell : List BS := []
def pout_ref13_Tell : Pat := ⟨[(6, .val (.list T1_))], []⟩
noncomputable def G_ref13_Tell  (N : Nat) : OrcT := orcOf []
noncomputable def F_ref13_Tell  (N : Nat) (x : List A1_ × Int × List UInt8) : Option (List A1_) :=
  (evT (G_ref13_Tell  N) L0 P0 []
    [] N 400 (bodyOf Try.f70) ⟨16, slots 0 (argsOf as_ref13_Tell bs_ref13_Tell x), tabU (lbOf as_ref13_Tell bs_ref13_Tell x) [], []⟩).elim (kRet 16 pout_ref13_Tell (kpL []) (lbOf as_ref13_Tell bs_ref13_Tell x))
def out_ref13_Tell (y : List A1_) : V × List OK × List OK := (valW (.list T1_) y, [], [])
noncomputable def V_ref13_Tell  (N : Nat) (x : List A1_ × Int × List UInt8) : Option (List A1_) :=
  cnd (decide (List.length x.1 * (48:Nat) ≤ (140737488355328:Nat))) (cnd (decide ((List.length x.1 + List.length [((1:Int), x.2.1, x.2.1, x.2.2, (0:Int))]) * (48:Nat) ≤ (140737488355328:Nat))) (some (x.1 ++ [((1:Int), x.2.1, x.2.1, x.2.2, (0:Int))])) none) none
theorem FV_ref13_Tell_eq  (N : Nat) (x : List A1_ × Int × List UInt8) : F_ref13_Tell  N x = V_ref13_Tell  N x := by kernel_rfl
noncomputable def W_ref13_Tell (N : Nat) (x : List A1_ × Int × List UInt8) : Option (List A1_) := V_ref13_Tell  N x
theorem F_ref13_Tell_eq (N : Nat) (x : List A1_ × Int × List UInt8) : F_ref13_Tell  N x = W_ref13_Tell N x := (FV_ref13_Tell_eq  N x).trans (by kernel_rfl)
noncomputable def conw_ref13_Tell (w : List A1_ × Int × List UInt8 → Option (List A1_)) : Con := ⟨70, as_ref13_Tell, bs_ref13_Tell, List A1_, w, out_ref13_Tell⟩
noncomputable def con_ref13_Tell (N : Nat) : Con := conw_ref13_Tell (W_ref13_Tell N)
theorem R_ref13_Tell_eq (x : List A1_ × Int × List UInt8) (y : List A1_) : retOf2 P0 Try.f70 (kpL []) (lbOf as_ref13_Tell bs_ref13_Tell x) (patS ⟨16, [], [], []⟩ pout_ref13_Tell y) = some (out_ref13_Tell y) := by kernel_rfl
theorem con_ref13_Tell_ok (N : Nat) : Con.ok P0 (con_ref13_Tell N) := ⟨⟨Try.f70, Try.func70, by kernel_rfl, by kernel_rfl⟩, fun (x : List A1_ × Int × List UInt8) (r : List A1_) (hr : W_ref13_Tell N x = some r) =>
  spec2_evT (Γ := G_ref13_Tell N) (Λ := L0) (pout := pout_ref13_Tell) (kp := kpL []) mixed (orcOf_ok [] (by simp)) Try.func70 (c := bodyOf Try.f70) (by kernel_rfl) (by kernel_rfl) (of_decide_eq_true (by kernel_rfl)) ((F_ref13_Tell_eq N x).trans hr) (R_ref13_Tell_eq x r)⟩
def as_ref13_AddRing : List AS := [.val (.list T2_), .val T2_]
def bs_ref13_AddRing : List BS := []
def pout_ref13_AddRing : Pat := ⟨[(4, .val (.list T2_))], []⟩
noncomputable def G_ref13_AddRing  (N : Nat) : OrcT := orcOf []
noncomputable def F_ref13_AddRing  (N : Nat) (x : List (Int × List UInt8) × Int × List UInt8) : Option (List (Int × List UInt8)) :=
  (evT (G_ref13_AddRing  N) L0 P0 []
    [] N 400 (bodyOf Try.f71) ⟨35, slots 0 (argsOf as_ref13_AddRing bs_ref13_AddRing x), tabU (lbOf as_ref13_AddRing bs_ref13_AddRing x) [], []⟩).elim (kRet 35 pout_ref13_AddRing (kpL []) (lbOf as_ref13_AddRing bs_ref13_AddRing x))
def out_ref13_AddRing (y : List (Int × List UInt8)) : V × List OK × List OK := (valW (.list T2_) y, [], [])
noncomputable def V_ref13_AddRing  (N : Nat) (x : List (Int × List UInt8) × Int × List UInt8) : Option (List (Int × List UInt8)) :=
  cnd (decide (List.length x.1 * (24:Nat) ≤ (140737488355328:Nat))) (cnd (decide ((0:Int) < (↑(List.length x.1) : Int))) (cnd (decide ((0:Int) ≤ wr .i64
    ((↑(List.length x.1) : Int) - (1:Int))) && decide (wr .i64 ((↑(List.length x.1) : Int) - (1:Int)) < (↑(List.length x.1) : Int))) (cnd (decide (x.2.1
    ≤ Prod.fst (List.getD x.1 (Int.toNat (wr .i64 ((↑(List.length x.1) : Int) - (1:Int)))) ((0:Int), [])))) (some x.1) (cnd (decide ((List.length x.1 +
    List.length [x.2]) * (24:Nat) ≤ (140737488355328:Nat))) (cnd (decide ((6:Int) < (↑(List.length (x.1 ++ [x.2])) : Int))) (cnd (decide (Option.getD
    (some (1:Int)) (0:Int) ≤ (↑(List.length (x.1 ++ [x.2])) : Int))) (some (List.drop ((0:Nat) + Prod.fst (Prod.snd (cutT (0:Nat) (List.length (x.1 ++
    [x.2])) (List.length (x.1 ++ [x.2])) (some (1:Int)) none))) (List.take ((0:Nat) + Prod.fst (Prod.snd (cutT (0:Nat) (List.length (x.1 ++ [x.2]))
    (List.length (x.1 ++ [x.2])) (some (1:Int)) none)) + (Prod.snd (Prod.snd (cutT (0:Nat) (List.length (x.1 ++ [x.2])) (List.length (x.1 ++ [x.2]))
    (some (1:Int)) none)) - Prod.fst (Prod.snd (cutT (0:Nat) (List.length (x.1 ++ [x.2])) (List.length (x.1 ++ [x.2])) (some (1:Int)) none)))) (x.1 ++
    [x.2])))) none) (some (x.1 ++ [x.2]))) none)) none) (cnd (decide ((List.length x.1 + List.length [x.2]) * (24:Nat) ≤ (140737488355328:Nat))) (cnd
    (decide ((6:Int) < (↑(List.length (x.1 ++ [x.2])) : Int))) (cnd (decide (Option.getD (some (1:Int)) (0:Int) ≤ (↑(List.length (x.1 ++ [x.2])) :
    Int))) (some (List.drop ((0:Nat) + Prod.fst (Prod.snd (cutT (0:Nat) (List.length (x.1 ++ [x.2])) (List.length (x.1 ++ [x.2])) (some (1:Int)) none)))
    (List.take ((0:Nat) + Prod.fst (Prod.snd (cutT (0:Nat) (List.length (x.1 ++ [x.2])) (List.length (x.1 ++ [x.2])) (some (1:Int)) none)) + (Prod.snd
    (Prod.snd (cutT (0:Nat) (List.length (x.1 ++ [x.2])) (List.length (x.1 ++ [x.2])) (some (1:Int)) none)) - Prod.fst (Prod.snd (cutT (0:Nat)
    (List.length (x.1 ++ [x.2])) (List.length (x.1 ++ [x.2])) (some (1:Int)) none)))) (x.1 ++ [x.2])))) none) (some (x.1 ++ [x.2]))) none)) none
theorem FV_ref13_AddRing_eq  (N : Nat) (x : List (Int × List UInt8) × Int × List UInt8) : F_ref13_AddRing  N x = V_ref13_AddRing  N x := by kernel_rfl
noncomputable def W_ref13_AddRing (N : Nat) (x : List (Int × List UInt8) × Int × List UInt8) : Option (List (Int × List UInt8)) := V_ref13_AddRing  N x
theorem F_ref13_AddRing_eq (N : Nat) (x : List (Int × List UInt8) × Int × List UInt8) : F_ref13_AddRing  N x = W_ref13_AddRing N x := (FV_ref13_AddRing_eq  N x).trans (by kernel_rfl)
noncomputable def conw_ref13_AddRing (w : List (Int × List UInt8) × Int × List UInt8 → Option (List (Int × List UInt8))) : Con := ⟨71, as_ref13_AddRing, bs_ref13_AddRing, List (Int × List UInt8), w, out_ref13_AddRing⟩
noncomputable def con_ref13_AddRing (N : Nat) : Con := conw_ref13_AddRing (W_ref13_AddRing N)
theorem R_ref13_AddRing_eq (x : List (Int × List UInt8) × Int × List UInt8) (y : List (Int × List UInt8)) : retOf2 P0 Try.f71 (kpL []) (lbOf as_ref13_AddRing bs_ref13_AddRing x) (patS ⟨35, [], [], []⟩ pout_ref13_AddRing y) = some (out_ref13_AddRing y) := by kernel_rfl
theorem con_ref13_AddRing_ok (N : Nat) : Con.ok P0 (con_ref13_AddRing N) := ⟨⟨Try.f71, Try.func71, by kernel_rfl, by kernel_rfl⟩, fun (x : List (Int × List UInt8) × Int × List UInt8) (r : List (Int × List UInt8)) (hr : W_ref13_AddRing N x = some r) =>
  spec2_evT (Γ := G_ref13_AddRing N) (Λ := L0) (pout := pout_ref13_AddRing) (kp := kpL []) mixed (orcOf_ok [] (by simp)) Try.func71 (c := bodyOf Try.f71) (by kernel_rfl) (by kernel_rfl) (of_decide_eq_true (by kernel_rfl)) ((F_ref13_AddRing_eq N x).trans hr) (R_ref13_AddRing_eq x r)⟩
def as_ref13_Goes : List AS := [.val (.agg T0_)]
def bs_ref13_Goes : List BS := []
def pout_ref13_Goes : Pat := ⟨[(2, .ptr 600002 0), (3, .val (.list T2_))], [(600002, .box 35 (.val T0_))]⟩
noncomputable def G_ref13_Goes (w_ref13_TakeWin : List (Int × List UInt8) × Int → Option A3_) (w_ref13_Tell : List A1_ × Int × List UInt8 → Option (List A1_)) (w_ref13_AddRing : List (Int × List UInt8) × Int × List UInt8 → Option (List (Int × List UInt8))) (N : Nat) : OrcT := orcOf [conw_ref13_TakeWin w_ref13_TakeWin, conw_ref13_Tell w_ref13_Tell, conw_ref13_AddRing w_ref13_AddRing]
noncomputable def F_ref13_Goes (w_ref13_TakeWin : List (Int × List UInt8) × Int → Option A3_) (w_ref13_Tell : List A1_ × Int × List UInt8 → Option (List A1_)) (w_ref13_AddRing : List (Int × List UInt8) × Int × List UInt8 → Option (List (Int × List UInt8))) (N : Nat) (x : Int × A0_) : Option A2_ :=
  (evT (G_ref13_Goes w_ref13_TakeWin w_ref13_Tell w_ref13_AddRing N) L0 P0 [(2, .loop [] ⟨[(1, .ptr 600001 0), (2, .ptr 600002 0), (4, .acc 700004)], [(600001, .box 35 (.val T0_)), (600002, .box 35 (.val T0_)), (700004, .nrow 28 T2_ true true)]⟩ [(.ret, ⟨[(2, .ptr 600002 0), (3, .val (.list T2_))], [(600002, .box 35 (.val T0_))]⟩)])]
    [] N 400 (bodyOf Try.f29) ⟨46, slots 0 (argsOf as_ref13_Goes bs_ref13_Goes x), tabU (lbOf as_ref13_Goes bs_ref13_Goes x) [], []⟩).elim (kRet 46 pout_ref13_Goes (kpL []) (lbOf as_ref13_Goes bs_ref13_Goes x))
def out_ref13_Goes (y : A2_) : V × List OK × List OK := (.tup [valW (.agg T0_) y.2, valW (.list T2_) y.1], [], [])
noncomputable def V_ref13_Goes (w_ref13_TakeWin : List (Int × List UInt8) × Int → Option A3_) (w_ref13_Tell : List A1_ × Int × List UInt8 → Option (List A1_)) (w_ref13_AddRing : List (Int × List UInt8) × Int × List UInt8 → Option (List (Int × List UInt8))) (N : Nat) (x : Int × A0_) : Option A2_ :=
  obind (loopN N (fun (v : (Int × A0_) × (Int × A0_) × List (Int × List UInt8))
    => obind (w_ref13_TakeWin (v.1.2.2.2.1, v.1.1)) fun b => cnd (!b.2.1) (some (Sum.inr (v.2.2, v.1))) (obind (w_ref13_Tell (v.1.2.2.2.2.1, b.2.2))
    fun b_1 => obind (w_ref13_AddRing (v.1.2.2.1, b.2.2)) fun b_2 => cnd (decide ((List.length v.2.2 + List.length [b.2.2]) * (24:Nat) ≤
    (140737488355328:Nat))) (some (Sum.inl ((wr .i64 (v.1.1 + (1:Int)), v.1.2.1, b_2, b.1, b_1, (0:Int), (0:Int)), v.2.1, v.2.2 ++ [b.2.2]))) none)) (x,
    ((0:Int), (0:Int), [], [], [], (0:Int), (0:Int)), [])) fun (b : A2_) => some b
theorem FV_ref13_Goes_eq (w_ref13_TakeWin : List (Int × List UInt8) × Int → Option A3_) (w_ref13_Tell : List A1_ × Int × List UInt8 → Option (List A1_)) (w_ref13_AddRing : List (Int × List UInt8) × Int × List UInt8 → Option (List (Int × List UInt8))) (N : Nat) (x : Int × A0_) : F_ref13_Goes w_ref13_TakeWin w_ref13_Tell w_ref13_AddRing N x = V_ref13_Goes w_ref13_TakeWin w_ref13_Tell w_ref13_AddRing N x := by kernel_rfl
noncomputable def W_ref13_Goes (N : Nat) (x : Int × A0_) : Option A2_ := V_ref13_Goes (W_ref13_TakeWin N) (W_ref13_Tell N) (W_ref13_AddRing N) N x
theorem F_ref13_Goes_eq (N : Nat) (x : Int × A0_) : F_ref13_Goes (W_ref13_TakeWin N) (W_ref13_Tell N) (W_ref13_AddRing N) N x = W_ref13_Goes N x := (FV_ref13_Goes_eq (W_ref13_TakeWin N) (W_ref13_Tell N) (W_ref13_AddRing N) N x).trans (by kernel_rfl)
noncomputable def conw_ref13_Goes (w : Int × Int × List (Int × List UInt8) × List (Int × List UInt8) × List A1_ × Int × Int → Option A2_) : Con := ⟨29, as_ref13_Goes, bs_ref13_Goes, List (Int × List UInt8) × Int × Int × List (Int × List UInt8) × List (Int × List UInt8) × List A1_ × Int × Int, w, out_ref13_Goes⟩
noncomputable def con_ref13_Goes (N : Nat) : Con := conw_ref13_Goes (W_ref13_Goes N)
theorem R_ref13_Goes_eq (x : Int × A0_) (y : A2_) : retOf2 P0 Try.f29 (kpL []) (lbOf as_ref13_Goes bs_ref13_Goes x) (patS ⟨46, [], [], []⟩ pout_ref13_Goes y) = some (out_ref13_Goes y) := by kernel_rfl
theorem con_ref13_Goes_ok (N : Nat) : Con.ok P0 (con_ref13_Goes N) := ⟨⟨Try.f29, Try.func29, by kernel_rfl, by kernel_rfl⟩, fun (x : Int × A0_) (r : A2_) (hr : W_ref13_Goes N x = some r) =>
  spec2_evT (Γ := G_ref13_Goes (W_ref13_TakeWin N) (W_ref13_Tell N) (W_ref13_AddRing N) N) (Λ := L0) (pout := pout_ref13_Goes) (kp := kpL []) mixed (orcOf_ok _ (by simp only [List.mem_cons, List.not_mem_nil, or_false, forall_eq_or_imp, forall_eq]; exact ⟨con_ref13_TakeWin_ok N, con_ref13_Tell_ok N, con_ref13_AddRing_ok N⟩)) Try.func29 (c := bodyOf Try.f29) (by kernel_rfl) (by kernel_rfl) (of_decide_eq_true (by kernel_rfl)) ((F_ref13_Goes_eq N x).trans hr) (R_ref13_Goes_eq x r)⟩
def as_ref13_Skips : List AS := [.val (.agg T0_), .val (.int .i64), .val (.int .i64)]
def bs_ref13_Skips : List BS := []
def pout_ref13_Skips : Pat := ⟨[(6, .ptr 600006 0), (7, .val (.list (.agg T3_)))], [(600006, .box 35 (.val T0_))]⟩
noncomputable def G_ref13_Skips (w_ref13_First : List (Int × List UInt8) → Option (Int)) (w_ref13_Skip : List A1_ × Int × Int × Int → Option (List A1_)) (w_ref13_Goes : Int × Int × List (Int × List UInt8) × List (Int × List UInt8) × List A1_ × Int × Int → Option A2_) (N : Nat) : OrcT := orcOf [conw_ref13_First w_ref13_First, conw_ref13_Skip w_ref13_Skip, conw_ref13_Goes w_ref13_Goes]
noncomputable def F_ref13_Skips (w_ref13_First : List (Int × List UInt8) → Option (Int)) (w_ref13_Skip : List A1_ × Int × Int × Int → Option (List A1_)) (w_ref13_Goes : Int × Int × List (Int × List UInt8) × List (Int × List UInt8) × List A1_ × Int × Int → Option A2_) (N : Nat) (x : (Int × A0_) × Int × Int) : Option A4_ :=
  (evT (G_ref13_Skips w_ref13_First w_ref13_Skip w_ref13_Goes N) L0 P0 [(4, .loop [] ⟨[(3, .ptr 600003 0), (6, .ptr 600006 0), (8, .acc 700008)], [(600003, .box 35 (.val T0_)), (600006, .box 35 (.val T0_)), (700008, .nrow 40 (.agg T3_) true true)]⟩ [(.exit 0, ⟨[(3, .ptr 600003 0), (6, .ptr 600006 0), (8, .val (.list (.agg T3_)))], [(600003, .box 35 (.val T0_)), (600006, .box 35 (.val T0_))]⟩)])]
    [(13, .cut [] [(.normal, ⟨[(3, .ptr 600003 0), (6, .ptr 600006 0), (8, .acc 700008)], [(600003, .box 35 (.val T0_)), (600006, .box 35 (.val T0_)), (700008, .nrow 40 (.agg T3_) true true)]⟩)]),
    (9, .cut [] [(.normal, ⟨[(3, .ptr 600003 0), (6, .ptr 600006 0), (8, .acc 700008), (9, .val (.int .i64))], [(600003, .box 35 (.val T0_)), (600006, .box 35 (.val T0_)), (700008, .nrow 40 (.agg T3_) true true)]⟩)])] N 400 (bodyOf Try.f26) ⟨73, slots 0 (argsOf as_ref13_Skips bs_ref13_Skips x), tabU (lbOf as_ref13_Skips bs_ref13_Skips x) [], []⟩).elim (kRet 73 pout_ref13_Skips (kpL []) (lbOf as_ref13_Skips bs_ref13_Skips x))
def out_ref13_Skips (y : A4_) : V × List OK × List OK := (.tup [valW (.agg T0_) y.2, valW (.list (.agg T3_)) y.1], [], [])
noncomputable def V_ref13_Skips (w_ref13_First : List (Int × List UInt8) → Option (Int)) (w_ref13_Skip : List A1_ × Int × Int × Int → Option (List A1_)) (w_ref13_Goes : Int × Int × List (Int × List UInt8) × List (Int × List UInt8) × List A1_ × Int × Int → Option A2_) (N : Nat) (x : (Int × A0_) × Int × Int) : Option A4_ :=
  cnd (decide (x.1.1 < (1:Int))) (some ([], x.1)) (cnd (decide ((1000000:Int) < x.2.1)) (some ([], x.1)) (obind (loopN N (fun (v : (Int × A0_) × (Int × A0_) × List (Int × Int)) => cnd (decide (v.1.1 ≤ x.2.1)) (obind (cnd (decide
    ((0:Int) < (↑(List.length v.1.2.2.2.1) : Int))) (obind (w_ref13_First v.1.2.2.2.1) fun b => cnd (decide (b ≤ x.2.1)) (obind (w_ref13_First
    v.1.2.2.2.1) fun b => some (wr .i64 (b - (1:Int)), (v.1.1, v.1.2.1, v.1.2.2.1, v.1.2.2.2.1, v.1.2.2.2.2.1, (0:Int), (0:Int)), v.2)) (some (x.2.1,
    (v.1.1, v.1.2.1, v.1.2.2.1, v.1.2.2.2.1, v.1.2.2.2.2.1, (0:Int), (0:Int)), v.2))) (some (x.2.1, (v.1.1, v.1.2.1, v.1.2.2.1, v.1.2.2.2.1,
    v.1.2.2.2.2.1, (0:Int), (0:Int)), v.2))) fun (b : Int × (Int × A0_) × (Int × A0_) × List (Int × Int)) => obind (cnd (decide (b.2.1.1 ≤ b.1)) (obind (w_ref13_Skip (b.2.1.2.2.2.2.1, b.2.1.1, b.1, x.2.2)) fun b_1 => cnd
    (decide ((List.length b.2.2.2 + List.length [(b.2.1.1, b.1)]) * (16:Nat) ≤ (140737488355328:Nat))) (some ((wr .i64 (b.1 + (1:Int)), b.2.1.2.1,
    b.2.1.2.2.1, b.2.1.2.2.2.1, b_1, b.2.1.2.2.2.2.2), b.2.2.1, b.2.2.2 ++ [(b.2.1.1, b.1)])) none) (some b.2)) fun (b : (Int × A0_) × (Int × A0_) × List (Int × Int)) => cnd (decide (b.1.1 ≤ x.2.1)) (obind (w_ref13_Goes b.1) fun
    b_1 => some (Sum.inl (b_1.2, b.2))) (some (Sum.inl b))) (some (Sum.inr (v.2.2, v.1, v.2.1)))) (x.1, ((0:Int), (0:Int), [], [], [], (0:Int),
    (0:Int)), [])) fun (b : List (Int × Int) × (Int × A0_) × Int × A0_) => some
    (b.1, b.2.1)))
theorem FV_ref13_Skips_eq (w_ref13_First : List (Int × List UInt8) → Option (Int)) (w_ref13_Skip : List A1_ × Int × Int × Int → Option (List A1_)) (w_ref13_Goes : Int × Int × List (Int × List UInt8) × List (Int × List UInt8) × List A1_ × Int × Int → Option A2_) (N : Nat) (x : (Int × A0_) × Int × Int) : F_ref13_Skips w_ref13_First w_ref13_Skip w_ref13_Goes N x = V_ref13_Skips w_ref13_First w_ref13_Skip w_ref13_Goes N x := by kernel_rfl
noncomputable def W_ref13_Skips (N : Nat) (x : (Int × A0_) × Int × Int) : Option A4_ := V_ref13_Skips (W_ref13_First N) (W_ref13_Skip N) (W_ref13_Goes N) N x
theorem F_ref13_Skips_eq (N : Nat) (x : (Int × A0_) × Int × Int) : F_ref13_Skips (W_ref13_First N) (W_ref13_Skip N) (W_ref13_Goes N) N x = W_ref13_Skips N x := (FV_ref13_Skips_eq (W_ref13_First N) (W_ref13_Skip N) (W_ref13_Goes N) N x).trans (by kernel_rfl)
noncomputable def conw_ref13_Skips (w : (Int × A0_) × Int × Int → Option A4_) : Con := ⟨26, as_ref13_Skips, bs_ref13_Skips, List (Int × Int) × Int × Int × List (Int × List UInt8) × List (Int × List UInt8) × List A1_ × Int × Int, w, out_ref13_Skips⟩
noncomputable def con_ref13_Skips (N : Nat) : Con := conw_ref13_Skips (W_ref13_Skips N)
theorem R_ref13_Skips_eq (x : (Int × A0_) × Int × Int) (y : A4_) : retOf2 P0 Try.f26 (kpL []) (lbOf as_ref13_Skips bs_ref13_Skips x) (patS ⟨73, [], [], []⟩ pout_ref13_Skips y) = some (out_ref13_Skips y) := by kernel_rfl
theorem con_ref13_Skips_ok (N : Nat) : Con.ok P0 (con_ref13_Skips N) := ⟨⟨Try.f26, Try.func26, by kernel_rfl, by kernel_rfl⟩, fun (x : (Int × A0_) × Int × Int) (r : A4_) (hr : W_ref13_Skips N x = some r) =>
  spec2_evT (Γ := G_ref13_Skips (W_ref13_First N) (W_ref13_Skip N) (W_ref13_Goes N) N) (Λ := L0) (pout := pout_ref13_Skips) (kp := kpL []) mixed (orcOf_ok _ (by simp only [List.mem_cons, List.not_mem_nil, or_false, forall_eq_or_imp, forall_eq]; exact ⟨con_ref13_First_ok N, con_ref13_Skip_ok N, con_ref13_Goes_ok N⟩)) Try.func26 (c := bodyOf Try.f26) (by kernel_rfl) (by kernel_rfl) (of_decide_eq_true (by kernel_rfl)) ((F_ref13_Skips_eq N x).trans hr) (R_ref13_Skips_eq x r)⟩
def as_ref13_Notes : List AS := [.val (.agg T0_), .val (.int .i64), .val (.int .i64)]
def bs_ref13_Notes : List BS := []
def pout_ref13_Notes : Pat := ⟨[(6, .ptr 600006 0)], [(600006, .box 35 (.val T0_))]⟩
noncomputable def G_ref13_Notes (w_ref1_MaySpan : Int × Int → Option (Bool)) (w_ref13_Knows : (Int × A0_) × Int → Option (Int × A0_)) (w_ref13_Skips : (Int × A0_) × Int × Int → Option A4_) (w_ref13_Goes : Int × Int × List (Int × List UInt8) × List (Int × List UInt8) × List A1_ × Int × Int → Option A2_) (N : Nat) : OrcT := orcOf [conw_ref1_MaySpan w_ref1_MaySpan, conw_ref13_Knows w_ref13_Knows, conw_ref13_Skips w_ref13_Skips, conw_ref13_Goes w_ref13_Goes]
noncomputable def F_ref13_Notes (w_ref1_MaySpan : Int × Int → Option (Bool)) (w_ref13_Knows : (Int × A0_) × Int → Option (Int × A0_)) (w_ref13_Skips : (Int × A0_) × Int × Int → Option A4_) (w_ref13_Goes : Int × Int × List (Int × List UInt8) × List (Int × List UInt8) × List A1_ × Int × Int → Option A2_) (N : Nat) (x : (Int × A0_) × Int × Int) : Option (Int × A0_) :=
  (evT (G_ref13_Notes w_ref1_MaySpan w_ref13_Knows w_ref13_Skips w_ref13_Goes N) L0 P0 []
    [] N 400 (bodyOf Try.f31) ⟨44, slots 0 (argsOf as_ref13_Notes bs_ref13_Notes x), tabU (lbOf as_ref13_Notes bs_ref13_Notes x) [], []⟩).elim (kRet 44 pout_ref13_Notes (kpL []) (lbOf as_ref13_Notes bs_ref13_Notes x))
def out_ref13_Notes (y : Int × A0_) : V × List OK × List OK := (valW (.agg T0_) y, [], [])
noncomputable def V_ref13_Notes (w_ref1_MaySpan : Int × Int → Option (Bool)) (w_ref13_Knows : (Int × A0_) × Int → Option (Int × A0_)) (w_ref13_Skips : (Int × A0_) × Int × Int → Option A4_) (w_ref13_Goes : Int × Int × List (Int × List UInt8) × List (Int × List UInt8) × List A1_ × Int × Int → Option A2_) (N : Nat) (x : (Int × A0_) × Int × Int) : Option (Int × A0_) :=
  cnd (decide (x.1.1 = (0:Int))) (some x.1) (obind (w_ref1_MaySpan x.2) fun b => cnd (!b) (some x.1) (obind (w_ref13_Knows (x.1, x.2.2)) fun b =>
    cnd (decide (b.1 < x.2.1)) (some b) (cnd (decide (x.2.2 < b.1)) (some b) (obind (w_ref13_Skips (b, x.2.2, (1:Int))) fun b => obind (w_ref13_Goes
    b.2) fun b => some b.2))))
theorem FV_ref13_Notes_eq (w_ref1_MaySpan : Int × Int → Option (Bool)) (w_ref13_Knows : (Int × A0_) × Int → Option (Int × A0_)) (w_ref13_Skips : (Int × A0_) × Int × Int → Option A4_) (w_ref13_Goes : Int × Int × List (Int × List UInt8) × List (Int × List UInt8) × List A1_ × Int × Int → Option A2_) (N : Nat) (x : (Int × A0_) × Int × Int) : F_ref13_Notes w_ref1_MaySpan w_ref13_Knows w_ref13_Skips w_ref13_Goes N x = V_ref13_Notes w_ref1_MaySpan w_ref13_Knows w_ref13_Skips w_ref13_Goes N x := by kernel_rfl
noncomputable def W_ref13_Notes (N : Nat) (x : (Int × A0_) × Int × Int) : Option (Int × A0_) := V_ref13_Notes (W_ref1_MaySpan N) (W_ref13_Knows N) (W_ref13_Skips N) (W_ref13_Goes N) N x
theorem F_ref13_Notes_eq (N : Nat) (x : (Int × A0_) × Int × Int) : F_ref13_Notes (W_ref1_MaySpan N) (W_ref13_Knows N) (W_ref13_Skips N) (W_ref13_Goes N) N x = W_ref13_Notes N x := (FV_ref13_Notes_eq (W_ref1_MaySpan N) (W_ref13_Knows N) (W_ref13_Skips N) (W_ref13_Goes N) N x).trans (by kernel_rfl)
noncomputable def conw_ref13_Notes (w : (Int × A0_) × Int × Int → Option (Int × A0_)) : Con := ⟨31, as_ref13_Notes, bs_ref13_Notes, Int × Int × List (Int × List UInt8) × List (Int × List UInt8) × List A1_ × Int × Int, w, out_ref13_Notes⟩
noncomputable def con_ref13_Notes (N : Nat) : Con := conw_ref13_Notes (W_ref13_Notes N)
theorem R_ref13_Notes_eq (x : (Int × A0_) × Int × Int) (y : Int × A0_) : retOf2 P0 Try.f31 (kpL []) (lbOf as_ref13_Notes bs_ref13_Notes x) (patS ⟨44, [], [], []⟩ pout_ref13_Notes y) = some (out_ref13_Notes y) := by kernel_rfl
theorem con_ref13_Notes_ok (N : Nat) : Con.ok P0 (con_ref13_Notes N) := ⟨⟨Try.f31, Try.func31, by kernel_rfl, by kernel_rfl⟩, fun (x : (Int × A0_) × Int × Int) (r : Int × A0_) (hr : W_ref13_Notes N x = some r) =>
  spec2_evT (Γ := G_ref13_Notes (W_ref1_MaySpan N) (W_ref13_Knows N) (W_ref13_Skips N) (W_ref13_Goes N) N) (Λ := L0) (pout := pout_ref13_Notes) (kp := kpL []) mixed (orcOf_ok _ (by simp only [List.mem_cons, List.not_mem_nil, or_false, forall_eq_or_imp, forall_eq]; exact ⟨con_ref1_MaySpan_ok N, con_ref13_Knows_ok N, con_ref13_Skips_ok N, con_ref13_Goes_ok N⟩)) Try.func31 (c := bodyOf Try.f31) (by kernel_rfl) (by kernel_rfl) (of_decide_eq_true (by kernel_rfl)) ((F_ref13_Notes_eq N x).trans hr) (R_ref13_Notes_eq x r)⟩
def as_nak_Wants : List AS := [.val (.agg T0_)]
def bs_nak_Wants : List BS := []
def pout_nak_Wants : Pat := ⟨[(2, .ptr 600002 0), (3, .val .bool)], [(600002, .box 40 (.val T3_))]⟩
noncomputable def G_nak_Wants (w_nak_first : Int × Int × List (Int × List UInt8) × List (Int × List UInt8) × List A1_ × Int × Int → Option (Int ⊕ Unit)) (N : Nat) : OrcT := orcOf [conw_nak_first w_nak_first]
noncomputable def F_nak_Wants (w_nak_first : Int × Int × List (Int × List UInt8) × List (Int × List UInt8) × List A1_ × Int × Int → Option (Int ⊕ Unit)) (N : Nat) (x : Int × A0_) : Option (Bool × Int × Int) :=
  (evT (G_nak_Wants w_nak_first N) L0 P0 []
    [(5, .cut [] [(.normal, ⟨[(1, .ptr 600001 0), (2, .ptr 600002 0), (4, .ptr 600004 0)], [(600001, .box 35 (.val T0_)), (600002, .box 40 (.val T3_)), (600004, .box 40 (.val T3_))]⟩)])] N 400 (bodyOf Try.f20) ⟨34, slots 0 (argsOf as_nak_Wants bs_nak_Wants x), tabU (lbOf as_nak_Wants bs_nak_Wants x) [], []⟩).elim (kRet 34 pout_nak_Wants (kpL []) (lbOf as_nak_Wants bs_nak_Wants x))
def out_nak_Wants (y : Bool × Int × Int) : V × List OK × List OK := (.tup [valW (.agg T3_) y.2, valW .bool y.1], [], [])
noncomputable def V_nak_Wants (w_nak_first : Int × Int × List (Int × List UInt8) × List (Int × List UInt8) × List A1_ × Int × Int → Option (Int ⊕ Unit)) (N : Nat) (x : Int × A0_) : Option (Bool × Int × Int) :=
  obind (obind (w_nak_first x) fun b => selim (fun (b : Int) => some (x, ((0:Int), (0:Int)), x.1, wr .i64 (b - (1:Int)))) (fun (c : PUnit) => some (x,
    ((0:Int), (0:Int)), x.1, x.2.1)) b) fun (b : (Int × A0_) × (Int × Int) × Int × Int) => cnd (decide (b.1.1 < (1:Int))) (some (false, (0:Int), (0:Int))) (cnd (decide (b.2.2.2 < b.2.2.1))
    (some (false, (0:Int), (0:Int))) (some (true, b.2.2)))
theorem FV_nak_Wants_eq (w_nak_first : Int × Int × List (Int × List UInt8) × List (Int × List UInt8) × List A1_ × Int × Int → Option (Int ⊕ Unit)) (N : Nat) (x : Int × A0_) : F_nak_Wants w_nak_first N x = V_nak_Wants w_nak_first N x := by kernel_rfl
noncomputable def W_nak_Wants (N : Nat) (x : Int × A0_) : Option (Bool × Int × Int) := V_nak_Wants (W_nak_first N) N x
theorem F_nak_Wants_eq (N : Nat) (x : Int × A0_) : F_nak_Wants (W_nak_first N) N x = W_nak_Wants N x := (FV_nak_Wants_eq (W_nak_first N) N x).trans (by kernel_rfl)
noncomputable def conw_nak_Wants (w : Int × Int × List (Int × List UInt8) × List (Int × List UInt8) × List A1_ × Int × Int → Option (Bool × Int × Int)) : Con := ⟨20, as_nak_Wants, bs_nak_Wants, Bool × Int × Int, w, out_nak_Wants⟩
noncomputable def con_nak_Wants (N : Nat) : Con := conw_nak_Wants (W_nak_Wants N)
theorem R_nak_Wants_eq (x : Int × A0_) (y : Bool × Int × Int) : retOf2 P0 Try.f20 (kpL []) (lbOf as_nak_Wants bs_nak_Wants x) (patS ⟨34, [], [], []⟩ pout_nak_Wants y) = some (out_nak_Wants y) := by kernel_rfl
theorem con_nak_Wants_ok (N : Nat) : Con.ok P0 (con_nak_Wants N) := ⟨⟨Try.f20, Try.func20, by kernel_rfl, by kernel_rfl⟩, fun (x : Int × A0_) (r : Bool × Int × Int) (hr : W_nak_Wants N x = some r) =>
  spec2_evT (Γ := G_nak_Wants (W_nak_first N) N) (Λ := L0) (pout := pout_nak_Wants) (kp := kpL []) mixed (orcOf_ok _ (by simp only [List.mem_cons, List.not_mem_nil, or_false, forall_eq_or_imp, forall_eq]; exact con_nak_first_ok N)) Try.func20 (c := bodyOf Try.f20) (by kernel_rfl) (by kernel_rfl) (of_decide_eq_true (by kernel_rfl)) ((F_nak_Wants_eq N x).trans hr) (R_nak_Wants_eq x r)⟩
def as_wait_read : List AS := [.val (.agg T3_)]
def bs_wait_read : List BS := []
def pout_wait_read : Pat := ⟨[(2, .val (.alt 124 (.agg T3_) (.alt1 128 (.agg .unit))))], []⟩
noncomputable def G_wait_read  (N : Nat) : OrcT := orcOf []
noncomputable def F_wait_read  (N : Nat) (x : Int × Int) : Option ((Int × Int) ⊕ Unit) :=
  (evT (G_wait_read  N) L0 P0 []
    [] N 400 (bodyOf Try.f86) ⟨14, slots 0 (argsOf as_wait_read bs_wait_read x), tabU (lbOf as_wait_read bs_wait_read x) [], []⟩).elim (kRet 14 pout_wait_read (kpL []) (lbOf as_wait_read bs_wait_read x))
def out_wait_read (y : (Int × Int) ⊕ Unit) : V × List OK × List OK := (valW (.alt 124 (.agg T3_) (.alt1 128 (.agg .unit))) y, [], [])
noncomputable def V_wait_read  (N : Nat) (x : Int × Int) : Option ((Int × Int) ⊕ Unit) :=
  cnd (decide (x.1 = (0:Int))) (some (Sum.inr ())) (some (Sum.inl x))
theorem FV_wait_read_eq  (N : Nat) (x : Int × Int) : F_wait_read  N x = V_wait_read  N x := by kernel_rfl
noncomputable def W_wait_read (N : Nat) (x : Int × Int) : Option ((Int × Int) ⊕ Unit) := V_wait_read  N x
theorem F_wait_read_eq (N : Nat) (x : Int × Int) : F_wait_read  N x = W_wait_read N x := (FV_wait_read_eq  N x).trans (by kernel_rfl)
noncomputable def conw_wait_read (w : Int × Int → Option ((Int × Int) ⊕ Unit)) : Con := ⟨86, as_wait_read, bs_wait_read, (Int × Int) ⊕ Unit, w, out_wait_read⟩
noncomputable def con_wait_read (N : Nat) : Con := conw_wait_read (W_wait_read N)
theorem R_wait_read_eq (x : Int × Int) (y : (Int × Int) ⊕ Unit) : retOf2 P0 Try.f86 (kpL []) (lbOf as_wait_read bs_wait_read x) (patS ⟨14, [], [], []⟩ pout_wait_read y) = some (out_wait_read y) := by kernel_rfl
theorem con_wait_read_ok (N : Nat) : Con.ok P0 (con_wait_read N) := ⟨⟨Try.f86, Try.func86, by kernel_rfl, by kernel_rfl⟩, fun (x : Int × Int) (r : (Int × Int) ⊕ Unit) (hr : W_wait_read N x = some r) =>
  spec2_evT (Γ := G_wait_read N) (Λ := L0) (pout := pout_wait_read) (kp := kpL []) mixed (orcOf_ok [] (by simp)) Try.func86 (c := bodyOf Try.f86) (by kernel_rfl) (by kernel_rfl) (of_decide_eq_true (by kernel_rfl)) ((F_wait_read_eq N x).trans hr) (R_wait_read_eq x r)⟩
def as_wait_Now : List AS := [.val (.agg T3_), .val (.int .i64)]
def bs_wait_Now : List BS := []
def pout_wait_Now : Pat := ⟨[(4, .val .bool)], []⟩
noncomputable def G_wait_Now (w_wait_read : Int × Int → Option ((Int × Int) ⊕ Unit)) (N : Nat) : OrcT := orcOf [conw_wait_read w_wait_read]
noncomputable def F_wait_Now (w_wait_read : Int × Int → Option ((Int × Int) ⊕ Unit)) (N : Nat) (x : (Int × Int) × Int) : Option (Bool) :=
  (evT (G_wait_Now w_wait_read N) L0 P0 []
    [] N 400 (bodyOf Try.f76) ⟨21, slots 0 (argsOf as_wait_Now bs_wait_Now x), tabU (lbOf as_wait_Now bs_wait_Now x) [], []⟩).elim (kRet 21 pout_wait_Now (kpL []) (lbOf as_wait_Now bs_wait_Now x))
def out_wait_Now (y : Bool) : V × List OK × List OK := (valW .bool y, [], [])
noncomputable def V_wait_Now (w_wait_read : Int × Int → Option ((Int × Int) ⊕ Unit)) (N : Nat) (x : (Int × Int) × Int) : Option (Bool) :=
  obind (w_wait_read x.1) fun b => selim (fun (b : Int × Int) => some (decide (b.2 ≤ x.2))) (fun (c : PUnit) => some true) b
theorem FV_wait_Now_eq (w_wait_read : Int × Int → Option ((Int × Int) ⊕ Unit)) (N : Nat) (x : (Int × Int) × Int) : F_wait_Now w_wait_read N x = V_wait_Now w_wait_read N x := by kernel_rfl
noncomputable def W_wait_Now (N : Nat) (x : (Int × Int) × Int) : Option (Bool) := V_wait_Now (W_wait_read N) N x
theorem F_wait_Now_eq (N : Nat) (x : (Int × Int) × Int) : F_wait_Now (W_wait_read N) N x = W_wait_Now N x := (FV_wait_Now_eq (W_wait_read N) N x).trans (by kernel_rfl)
noncomputable def conw_wait_Now (w : (Int × Int) × Int → Option (Bool)) : Con := ⟨76, as_wait_Now, bs_wait_Now, Bool, w, out_wait_Now⟩
noncomputable def con_wait_Now (N : Nat) : Con := conw_wait_Now (W_wait_Now N)
theorem R_wait_Now_eq (x : (Int × Int) × Int) (y : Bool) : retOf2 P0 Try.f76 (kpL []) (lbOf as_wait_Now bs_wait_Now x) (patS ⟨21, [], [], []⟩ pout_wait_Now y) = some (out_wait_Now y) := by kernel_rfl
theorem con_wait_Now_ok (N : Nat) : Con.ok P0 (con_wait_Now N) := ⟨⟨Try.f76, Try.func76, by kernel_rfl, by kernel_rfl⟩, fun (x : (Int × Int) × Int) (r : Bool) (hr : W_wait_Now N x = some r) =>
  spec2_evT (Γ := G_wait_Now (W_wait_read N) N) (Λ := L0) (pout := pout_wait_Now) (kp := kpL []) mixed (orcOf_ok _ (by simp only [List.mem_cons, List.not_mem_nil, or_false, forall_eq_or_imp, forall_eq]; exact con_wait_read_ok N)) Try.func76 (c := bodyOf Try.f76) (by kernel_rfl) (by kernel_rfl) (of_decide_eq_true (by kernel_rfl)) ((F_wait_Now_eq N x).trans hr) (R_wait_Now_eq x r)⟩
def as_wait_Tired : List AS := [.val (.agg T3_)]
def bs_wait_Tired : List BS := []
def pout_wait_Tired : Pat := ⟨[(2, .val .bool)], []⟩
noncomputable def G_wait_Tired (w_wait_read : Int × Int → Option ((Int × Int) ⊕ Unit)) (N : Nat) : OrcT := orcOf [conw_wait_read w_wait_read]
noncomputable def F_wait_Tired (w_wait_read : Int × Int → Option ((Int × Int) ⊕ Unit)) (N : Nat) (x : Int × Int) : Option (Bool) :=
  (evT (G_wait_Tired w_wait_read N) L0 P0 []
    [] N 400 (bodyOf Try.f77) ⟨17, slots 0 (argsOf as_wait_Tired bs_wait_Tired x), tabU (lbOf as_wait_Tired bs_wait_Tired x) [], []⟩).elim (kRet 17 pout_wait_Tired (kpL []) (lbOf as_wait_Tired bs_wait_Tired x))
def out_wait_Tired (y : Bool) : V × List OK × List OK := (valW .bool y, [], [])
noncomputable def V_wait_Tired (w_wait_read : Int × Int → Option ((Int × Int) ⊕ Unit)) (N : Nat) (x : Int × Int) : Option (Bool) :=
  obind (w_wait_read x) fun b => selim (fun (b : Int × Int) => some (decide ((3:Int) ≤ b.1))) (fun (c : PUnit) => some false) b
theorem FV_wait_Tired_eq (w_wait_read : Int × Int → Option ((Int × Int) ⊕ Unit)) (N : Nat) (x : Int × Int) : F_wait_Tired w_wait_read N x = V_wait_Tired w_wait_read N x := by kernel_rfl
noncomputable def W_wait_Tired (N : Nat) (x : Int × Int) : Option (Bool) := V_wait_Tired (W_wait_read N) N x
theorem F_wait_Tired_eq (N : Nat) (x : Int × Int) : F_wait_Tired (W_wait_read N) N x = W_wait_Tired N x := (FV_wait_Tired_eq (W_wait_read N) N x).trans (by kernel_rfl)
noncomputable def conw_wait_Tired (w : Int × Int → Option (Bool)) : Con := ⟨77, as_wait_Tired, bs_wait_Tired, Bool, w, out_wait_Tired⟩
noncomputable def con_wait_Tired (N : Nat) : Con := conw_wait_Tired (W_wait_Tired N)
theorem R_wait_Tired_eq (x : Int × Int) (y : Bool) : retOf2 P0 Try.f77 (kpL []) (lbOf as_wait_Tired bs_wait_Tired x) (patS ⟨17, [], [], []⟩ pout_wait_Tired y) = some (out_wait_Tired y) := by kernel_rfl
theorem con_wait_Tired_ok (N : Nat) : Con.ok P0 (con_wait_Tired N) := ⟨⟨Try.f77, Try.func77, by kernel_rfl, by kernel_rfl⟩, fun (x : Int × Int) (r : Bool) (hr : W_wait_Tired N x = some r) =>
  spec2_evT (Γ := G_wait_Tired (W_wait_read N) N) (Λ := L0) (pout := pout_wait_Tired) (kp := kpL []) mixed (orcOf_ok _ (by simp only [List.mem_cons, List.not_mem_nil, or_false, forall_eq_or_imp, forall_eq]; exact con_wait_read_ok N)) Try.func77 (c := bodyOf Try.f77) (by kernel_rfl) (by kernel_rfl) (of_decide_eq_true (by kernel_rfl)) ((F_wait_Tired_eq N x).trans hr) (R_wait_Tired_eq x r)⟩
def as_wait_Tried : List AS := [.val (.agg T3_), .val (.int .i64)]
def bs_wait_Tried : List BS := []
def pout_wait_Tried : Pat := ⟨[(4, .ptr 600004 0)], [(600004, .box 33 (.val T3_))]⟩
noncomputable def G_wait_Tried (w_wait_read : Int × Int → Option ((Int × Int) ⊕ Unit)) (N : Nat) : OrcT := orcOf [conw_wait_read w_wait_read]
noncomputable def F_wait_Tried (w_wait_read : Int × Int → Option ((Int × Int) ⊕ Unit)) (N : Nat) (x : (Int × Int) × Int) : Option (Int × Int) :=
  (evT (G_wait_Tried w_wait_read N) L0 P0 []
    [] N 400 (bodyOf Try.f78) ⟨26, slots 0 (argsOf as_wait_Tried bs_wait_Tried x), tabU (lbOf as_wait_Tried bs_wait_Tried x) [], []⟩).elim (kRet 26 pout_wait_Tried (kpL []) (lbOf as_wait_Tried bs_wait_Tried x))
def out_wait_Tried (y : Int × Int) : V × List OK × List OK := (valW (.agg T3_) y, [], [])
noncomputable def V_wait_Tried (w_wait_read : Int × Int → Option ((Int × Int) ⊕ Unit)) (N : Nat) (x : (Int × Int) × Int) : Option (Int × Int) :=
  obind (w_wait_read x.1) fun b => selim (fun (b : Int × Int) => cnd (!decide (min (max b.1 (0:Int)) (3:Int) < (0:Int))) (some (wr .i64 (b.1 +
    (1:Int)), wr .i64 (x.2 + wr .i64 ((2:Int) * (2:Int) ^ min (Int.toNat (min (max b.1 (0:Int)) (3:Int))) (64:Nat))))) none) (fun (c : PUnit) => some
    (wr .i64 ((0:Int) + (1:Int)), wr .i64 (x.2 + wr .i64 ((2:Int) * (2:Int) ^ (0:Nat))))) b
theorem FV_wait_Tried_eq (w_wait_read : Int × Int → Option ((Int × Int) ⊕ Unit)) (N : Nat) (x : (Int × Int) × Int) : F_wait_Tried w_wait_read N x = V_wait_Tried w_wait_read N x := by kernel_rfl
noncomputable def W_wait_Tried (N : Nat) (x : (Int × Int) × Int) : Option (Int × Int) := V_wait_Tried (W_wait_read N) N x
theorem F_wait_Tried_eq (N : Nat) (x : (Int × Int) × Int) : F_wait_Tried (W_wait_read N) N x = W_wait_Tried N x := (FV_wait_Tried_eq (W_wait_read N) N x).trans (by kernel_rfl)
noncomputable def conw_wait_Tried (w : (Int × Int) × Int → Option (Int × Int)) : Con := ⟨78, as_wait_Tried, bs_wait_Tried, Int × Int, w, out_wait_Tried⟩
noncomputable def con_wait_Tried (N : Nat) : Con := conw_wait_Tried (W_wait_Tried N)
theorem R_wait_Tried_eq (x : (Int × Int) × Int) (y : Int × Int) : retOf2 P0 Try.f78 (kpL []) (lbOf as_wait_Tried bs_wait_Tried x) (patS ⟨26, [], [], []⟩ pout_wait_Tried y) = some (out_wait_Tried y) := by kernel_rfl
theorem con_wait_Tried_ok (N : Nat) : Con.ok P0 (con_wait_Tried N) := ⟨⟨Try.f78, Try.func78, by kernel_rfl, by kernel_rfl⟩, fun (x : (Int × Int) × Int) (r : Int × Int) (hr : W_wait_Tried N x = some r) =>
  spec2_evT (Γ := G_wait_Tried (W_wait_read N) N) (Λ := L0) (pout := pout_wait_Tried) (kp := kpL []) mixed (orcOf_ok _ (by simp only [List.mem_cons, List.not_mem_nil, or_false, forall_eq_or_imp, forall_eq]; exact con_wait_read_ok N)) Try.func78 (c := bodyOf Try.f78) (by kernel_rfl) (by kernel_rfl) (of_decide_eq_true (by kernel_rfl)) ((F_wait_Tried_eq N x).trans hr) (R_wait_Tried_eq x r)⟩
def as_feed_Tick : List AS := [.val (.agg T0_), .val (.int .i64)]
def bs_feed_Tick : List BS := []
def pout_feed_Tick : Pat := ⟨[(4, .ptr 600004 0), (5, .ptr 600005 0), (6, .val .bool)], [(600004, .box 35 (.val T0_)), (600005, .box 40 (.val T3_))]⟩
noncomputable def G_feed_Tick (w_twin_Feed : Int × Int × List (Int × List UInt8) × List (Int × List UInt8) × List A1_ × Int × Int → Option (Int × A0_)) (w_nak_Wants : Int × Int × List (Int × List UInt8) × List (Int × List UInt8) × List A1_ × Int × Int → Option (Bool × Int × Int)) (w_wait_Now : (Int × Int) × Int → Option (Bool)) (w_wait_Tired : Int × Int → Option (Bool)) (w_nak_Skips : (Int × A0_) × Int × Int → Option A4_) (w_nak_Goes : Int × Int × List (Int × List UInt8) × List (Int × List UInt8) × List A1_ × Int × Int → Option A2_) (w_wait_Tried : (Int × Int) × Int → Option (Int × Int)) (N : Nat) : OrcT := orcOf [conw_twin_Feed w_twin_Feed, conw_nak_Wants w_nak_Wants, conw_wait_Now w_wait_Now, conw_wait_Tired w_wait_Tired, conw_nak_Skips w_nak_Skips, conw_nak_Goes w_nak_Goes, conw_wait_Tried w_wait_Tried]
noncomputable def F_feed_Tick (w_twin_Feed : Int × Int × List (Int × List UInt8) × List (Int × List UInt8) × List A1_ × Int × Int → Option (Int × A0_)) (w_nak_Wants : Int × Int × List (Int × List UInt8) × List (Int × List UInt8) × List A1_ × Int × Int → Option (Bool × Int × Int)) (w_wait_Now : (Int × Int) × Int → Option (Bool)) (w_wait_Tired : Int × Int → Option (Bool)) (w_nak_Skips : (Int × A0_) × Int × Int → Option A4_) (w_nak_Goes : Int × Int × List (Int × List UInt8) × List (Int × List UInt8) × List A1_ × Int × Int → Option A2_) (w_wait_Tried : (Int × Int) × Int → Option (Int × Int)) (N : Nat) (x : (Int × A0_) × Int) : Option A5_ :=
  (evT (G_feed_Tick w_twin_Feed w_nak_Wants w_wait_Now w_wait_Tired w_nak_Skips w_nak_Goes w_wait_Tried N) L0 P0 []
    [] N 400 (bodyOf Try.f42) ⟨52, slots 0 (argsOf as_feed_Tick bs_feed_Tick x), tabU (lbOf as_feed_Tick bs_feed_Tick x) [], []⟩).elim (kRet 52 pout_feed_Tick (kpL []) (lbOf as_feed_Tick bs_feed_Tick x))
def out_feed_Tick (y : A5_) : V × List OK × List OK := (.tup [valW (.agg T0_) y.2.1, valW (.agg T3_) y.2.2, valW .bool y.1], [], [])
noncomputable def V_feed_Tick (w_twin_Feed : Int × Int × List (Int × List UInt8) × List (Int × List UInt8) × List A1_ × Int × Int → Option (Int × A0_)) (w_nak_Wants : Int × Int × List (Int × List UInt8) × List (Int × List UInt8) × List A1_ × Int × Int → Option (Bool × Int × Int)) (w_wait_Now : (Int × Int) × Int → Option (Bool)) (w_wait_Tired : Int × Int → Option (Bool)) (w_nak_Skips : (Int × A0_) × Int × Int → Option A4_) (w_nak_Goes : Int × Int × List (Int × List UInt8) × List (Int × List UInt8) × List A1_ × Int × Int → Option A2_) (w_wait_Tried : (Int × Int) × Int → Option (Int × Int)) (N : Nat) (x : (Int × A0_) × Int) : Option A5_ :=
  obind (w_twin_Feed x.1) fun b => obind (w_nak_Wants x.1) fun b_1 => cnd (!b_1.1) (some (false, b, (0:Int), (0:Int))) (obind (w_wait_Now
    (x.1.2.2.2.2.2, x.2)) fun b_2 => cnd (!b_2) (some (false, b, (0:Int), (0:Int))) (obind (w_wait_Tired x.1.2.2.2.2.2) fun b_3 => cnd b_3 (obind
    (w_nak_Skips (b, b_1.2.2, (2:Int))) fun b => obind (w_nak_Goes b.2) fun b => some (false, b.2, (0:Int), (0:Int))) (obind (w_wait_Tried
    (x.1.2.2.2.2.2, x.2)) fun b_4 => some (true, (b.1, b.2.1, b.2.2.1, b.2.2.2.1, b.2.2.2.2.1, b_4), b_1.2))))
theorem FV_feed_Tick_eq (w_twin_Feed : Int × Int × List (Int × List UInt8) × List (Int × List UInt8) × List A1_ × Int × Int → Option (Int × A0_)) (w_nak_Wants : Int × Int × List (Int × List UInt8) × List (Int × List UInt8) × List A1_ × Int × Int → Option (Bool × Int × Int)) (w_wait_Now : (Int × Int) × Int → Option (Bool)) (w_wait_Tired : Int × Int → Option (Bool)) (w_nak_Skips : (Int × A0_) × Int × Int → Option A4_) (w_nak_Goes : Int × Int × List (Int × List UInt8) × List (Int × List UInt8) × List A1_ × Int × Int → Option A2_) (w_wait_Tried : (Int × Int) × Int → Option (Int × Int)) (N : Nat) (x : (Int × A0_) × Int) : F_feed_Tick w_twin_Feed w_nak_Wants w_wait_Now w_wait_Tired w_nak_Skips w_nak_Goes w_wait_Tried N x = V_feed_Tick w_twin_Feed w_nak_Wants w_wait_Now w_wait_Tired w_nak_Skips w_nak_Goes w_wait_Tried N x := by kernel_rfl
noncomputable def W_feed_Tick (N : Nat) (x : (Int × A0_) × Int) : Option A5_ := V_feed_Tick (W_twin_Feed N) (W_nak_Wants N) (W_wait_Now N) (W_wait_Tired N) (W_nak_Skips N) (W_nak_Goes N) (W_wait_Tried N) N x
theorem F_feed_Tick_eq (N : Nat) (x : (Int × A0_) × Int) : F_feed_Tick (W_twin_Feed N) (W_nak_Wants N) (W_wait_Now N) (W_wait_Tired N) (W_nak_Skips N) (W_nak_Goes N) (W_wait_Tried N) N x = W_feed_Tick N x := (FV_feed_Tick_eq (W_twin_Feed N) (W_nak_Wants N) (W_wait_Now N) (W_wait_Tired N) (W_nak_Skips N) (W_nak_Goes N) (W_wait_Tried N) N x).trans (by kernel_rfl)
noncomputable def conw_feed_Tick (w : (Int × A0_) × Int → Option A5_) : Con := ⟨42, as_feed_Tick, bs_feed_Tick, Bool × (Int × A0_) × Int × Int, w, out_feed_Tick⟩
noncomputable def con_feed_Tick (N : Nat) : Con := conw_feed_Tick (W_feed_Tick N)
theorem R_feed_Tick_eq (x : (Int × A0_) × Int) (y : A5_) : retOf2 P0 Try.f42 (kpL []) (lbOf as_feed_Tick bs_feed_Tick x) (patS ⟨52, [], [], []⟩ pout_feed_Tick y) = some (out_feed_Tick y) := by kernel_rfl
theorem con_feed_Tick_ok (N : Nat) : Con.ok P0 (con_feed_Tick N) := ⟨⟨Try.f42, Try.func42, by kernel_rfl, by kernel_rfl⟩, fun (x : (Int × A0_) × Int) (r : A5_) (hr : W_feed_Tick N x = some r) =>
  spec2_evT (Γ := G_feed_Tick (W_twin_Feed N) (W_nak_Wants N) (W_wait_Now N) (W_wait_Tired N) (W_nak_Skips N) (W_nak_Goes N) (W_wait_Tried N) N) (Λ := L0) (pout := pout_feed_Tick) (kp := kpL []) mixed (orcOf_ok _ (by simp only [List.mem_cons, List.not_mem_nil, or_false, forall_eq_or_imp, forall_eq]; exact ⟨con_twin_Feed_ok N, con_nak_Wants_ok N, con_wait_Now_ok N, con_wait_Tired_ok N, con_nak_Skips_ok N, con_nak_Goes_ok N, con_wait_Tried_ok N⟩)) Try.func42 (c := bodyOf Try.f42) (by kernel_rfl) (by kernel_rfl) (of_decide_eq_true (by kernel_rfl)) ((F_feed_Tick_eq N x).trans hr) (R_feed_Tick_eq x r)⟩
def as_ref13_Wants : List AS := [.val (.agg T0_)]
def bs_ref13_Wants : List BS := []
def pout_ref13_Wants : Pat := ⟨[(2, .ptr 600002 0), (3, .val .bool)], [(600002, .box 40 (.val T3_))]⟩
noncomputable def G_ref13_Wants (w_ref13_First : List (Int × List UInt8) → Option (Int)) (N : Nat) : OrcT := orcOf [conw_ref13_First w_ref13_First]
noncomputable def F_ref13_Wants (w_ref13_First : List (Int × List UInt8) → Option (Int)) (N : Nat) (x : Int × A0_) : Option (Bool × Int × Int) :=
  (evT (G_ref13_Wants w_ref13_First N) L0 P0 []
    [(4, .cut [] [(.normal, ⟨[(1, .ptr 600001 0), (2, .ptr 600002 0), (4, .val (.int .i64))], [(600001, .box 35 (.val T0_)), (600002, .box 40 (.val T3_))]⟩)])] N 400 (bodyOf Try.f21) ⟨29, slots 0 (argsOf as_ref13_Wants bs_ref13_Wants x), tabU (lbOf as_ref13_Wants bs_ref13_Wants x) [], []⟩).elim (kRet 29 pout_ref13_Wants (kpL []) (lbOf as_ref13_Wants bs_ref13_Wants x))
def out_ref13_Wants (y : Bool × Int × Int) : V × List OK × List OK := (.tup [valW (.agg T3_) y.2, valW .bool y.1], [], [])
noncomputable def V_ref13_Wants (w_ref13_First : List (Int × List UInt8) → Option (Int)) (N : Nat) (x : Int × A0_) : Option (Bool × Int × Int) :=
  obind (cnd (decide ((0:Int) < (↑(List.length x.2.2.2.1) : Int))) (obind (w_ref13_First x.2.2.2.1) fun b => some (wr .i64 (b - (1:Int)), x, (0:Int),
    (0:Int))) (some (x.2.1, x, (0:Int), (0:Int)))) fun (b : Int × (Int × A0_) × Int × Int) => cnd (decide (b.2.1.1 = (0:Int))) (some (false, (0:Int), (0:Int))) (cnd (decide (b.1 < b.2.1.1))
    (some (false, (0:Int), (0:Int))) (some (true, b.2.1.1, b.1)))
theorem FV_ref13_Wants_eq (w_ref13_First : List (Int × List UInt8) → Option (Int)) (N : Nat) (x : Int × A0_) : F_ref13_Wants w_ref13_First N x = V_ref13_Wants w_ref13_First N x := by kernel_rfl
noncomputable def W_ref13_Wants (N : Nat) (x : Int × A0_) : Option (Bool × Int × Int) := V_ref13_Wants (W_ref13_First N) N x
theorem F_ref13_Wants_eq (N : Nat) (x : Int × A0_) : F_ref13_Wants (W_ref13_First N) N x = W_ref13_Wants N x := (FV_ref13_Wants_eq (W_ref13_First N) N x).trans (by kernel_rfl)
noncomputable def conw_ref13_Wants (w : Int × Int × List (Int × List UInt8) × List (Int × List UInt8) × List A1_ × Int × Int → Option (Bool × Int × Int)) : Con := ⟨21, as_ref13_Wants, bs_ref13_Wants, Bool × Int × Int, w, out_ref13_Wants⟩
noncomputable def con_ref13_Wants (N : Nat) : Con := conw_ref13_Wants (W_ref13_Wants N)
theorem R_ref13_Wants_eq (x : Int × A0_) (y : Bool × Int × Int) : retOf2 P0 Try.f21 (kpL []) (lbOf as_ref13_Wants bs_ref13_Wants x) (patS ⟨29, [], [], []⟩ pout_ref13_Wants y) = some (out_ref13_Wants y) := by kernel_rfl
theorem con_ref13_Wants_ok (N : Nat) : Con.ok P0 (con_ref13_Wants N) := ⟨⟨Try.f21, Try.func21, by kernel_rfl, by kernel_rfl⟩, fun (x : Int × A0_) (r : Bool × Int × Int) (hr : W_ref13_Wants N x = some r) =>
  spec2_evT (Γ := G_ref13_Wants (W_ref13_First N) N) (Λ := L0) (pout := pout_ref13_Wants) (kp := kpL []) mixed (orcOf_ok _ (by simp only [List.mem_cons, List.not_mem_nil, or_false, forall_eq_or_imp, forall_eq]; exact con_ref13_First_ok N)) Try.func21 (c := bodyOf Try.f21) (by kernel_rfl) (by kernel_rfl) (of_decide_eq_true (by kernel_rfl)) ((F_ref13_Wants_eq N x).trans hr) (R_ref13_Wants_eq x r)⟩
def as_ref1_Now : List AS := [.val (.agg T3_), .val (.int .i64)]
def bs_ref1_Now : List BS := []
def pout_ref1_Now : Pat := ⟨[(4, .val .bool)], []⟩
noncomputable def G_ref1_Now  (N : Nat) : OrcT := orcOf []
noncomputable def F_ref1_Now  (N : Nat) (x : (Int × Int) × Int) : Option (Bool) :=
  (evT (G_ref1_Now  N) L0 P0 []
    [] N 400 (bodyOf Try.f82) ⟨14, slots 0 (argsOf as_ref1_Now bs_ref1_Now x), tabU (lbOf as_ref1_Now bs_ref1_Now x) [], []⟩).elim (kRet 14 pout_ref1_Now (kpL []) (lbOf as_ref1_Now bs_ref1_Now x))
def out_ref1_Now (y : Bool) : V × List OK × List OK := (valW .bool y, [], [])
noncomputable def V_ref1_Now  (N : Nat) (x : (Int × Int) × Int) : Option (Bool) :=
  cnd (decide (x.1.1 = (0:Int))) (some true) (some (decide (x.1.2 ≤ x.2)))
theorem FV_ref1_Now_eq  (N : Nat) (x : (Int × Int) × Int) : F_ref1_Now  N x = V_ref1_Now  N x := by kernel_rfl
noncomputable def W_ref1_Now (N : Nat) (x : (Int × Int) × Int) : Option (Bool) := V_ref1_Now  N x
theorem F_ref1_Now_eq (N : Nat) (x : (Int × Int) × Int) : F_ref1_Now  N x = W_ref1_Now N x := (FV_ref1_Now_eq  N x).trans (by kernel_rfl)
noncomputable def conw_ref1_Now (w : (Int × Int) × Int → Option (Bool)) : Con := ⟨82, as_ref1_Now, bs_ref1_Now, Bool, w, out_ref1_Now⟩
noncomputable def con_ref1_Now (N : Nat) : Con := conw_ref1_Now (W_ref1_Now N)
theorem R_ref1_Now_eq (x : (Int × Int) × Int) (y : Bool) : retOf2 P0 Try.f82 (kpL []) (lbOf as_ref1_Now bs_ref1_Now x) (patS ⟨14, [], [], []⟩ pout_ref1_Now y) = some (out_ref1_Now y) := by kernel_rfl
theorem con_ref1_Now_ok (N : Nat) : Con.ok P0 (con_ref1_Now N) := ⟨⟨Try.f82, Try.func82, by kernel_rfl, by kernel_rfl⟩, fun (x : (Int × Int) × Int) (r : Bool) (hr : W_ref1_Now N x = some r) =>
  spec2_evT (Γ := G_ref1_Now N) (Λ := L0) (pout := pout_ref1_Now) (kp := kpL []) mixed (orcOf_ok [] (by simp)) Try.func82 (c := bodyOf Try.f82) (by kernel_rfl) (by kernel_rfl) (of_decide_eq_true (by kernel_rfl)) ((F_ref1_Now_eq N x).trans hr) (R_ref1_Now_eq x r)⟩
def as_ref1_Tried : List AS := [.val (.agg T3_), .val (.int .i64)]
def bs_ref1_Tried : List BS := []
def pout_ref1_Tried : Pat := ⟨[(4, .ptr 600004 0)], [(600004, .box 33 (.val T3_))]⟩
noncomputable def G_ref1_Tried  (N : Nat) : OrcT := orcOf []
noncomputable def F_ref1_Tried  (N : Nat) (x : (Int × Int) × Int) : Option (Int × Int) :=
  (evT (G_ref1_Tried  N) L0 P0 [(3, .loop [] ⟨[(2, .ptr 600002 0), (4, .ptr 600004 0), (5, .val (.int .i64)), (6, .val (.int .i64))], [(600002, .box 33 (.val T3_)), (600004, .box 33 (.val T3_))]⟩ [(.exit 0, ⟨[(2, .ptr 600002 0), (4, .ptr 600004 0), (5, .val (.int .i64))], [(600002, .box 33 (.val T3_)), (600004, .box 33 (.val T3_))]⟩)])]
    [] N 400 (bodyOf Try.f83) ⟨26, slots 0 (argsOf as_ref1_Tried bs_ref1_Tried x), tabU (lbOf as_ref1_Tried bs_ref1_Tried x) [], []⟩).elim (kRet 26 pout_ref1_Tried (kpL []) (lbOf as_ref1_Tried bs_ref1_Tried x))
def out_ref1_Tried (y : Int × Int) : V × List OK × List OK := (valW (.agg T3_) y, [], [])
noncomputable def V_ref1_Tried  (N : Nat) (x : (Int × Int) × Int) : Option (Int × Int) :=
  obind (loopN N (fun (v : Int × Int × (Int × Int) × Int × Int) => cnd (decide (v.2.1 < v.2.2.1.1)) (cnd (decide (v.2.1 < (3:Int))) (some (Sum.inl (wr
    .i64 (v.1 * (2:Int)), wr .i64 (v.2.1 + (1:Int)), v.2.2))) (some (Sum.inr (v.1, v.2.2)))) (some (Sum.inr (v.1, v.2.2)))) ((2:Int), (0:Int), x.1,
    (0:Int), (0:Int))) fun (b : Int × (Int × Int) × Int × Int) => some (wr .i64 (b.2.1.1 + (1:Int)), wr .i64 (x.2 + b.1))
theorem FV_ref1_Tried_eq  (N : Nat) (x : (Int × Int) × Int) : F_ref1_Tried  N x = V_ref1_Tried  N x := by kernel_rfl
noncomputable def W_ref1_Tried (N : Nat) (x : (Int × Int) × Int) : Option (Int × Int) := V_ref1_Tried  N x
theorem F_ref1_Tried_eq (N : Nat) (x : (Int × Int) × Int) : F_ref1_Tried  N x = W_ref1_Tried N x := (FV_ref1_Tried_eq  N x).trans (by kernel_rfl)
noncomputable def conw_ref1_Tried (w : (Int × Int) × Int → Option (Int × Int)) : Con := ⟨83, as_ref1_Tried, bs_ref1_Tried, Int × Int, w, out_ref1_Tried⟩
noncomputable def con_ref1_Tried (N : Nat) : Con := conw_ref1_Tried (W_ref1_Tried N)
theorem R_ref1_Tried_eq (x : (Int × Int) × Int) (y : Int × Int) : retOf2 P0 Try.f83 (kpL []) (lbOf as_ref1_Tried bs_ref1_Tried x) (patS ⟨26, [], [], []⟩ pout_ref1_Tried y) = some (out_ref1_Tried y) := by kernel_rfl
theorem con_ref1_Tried_ok (N : Nat) : Con.ok P0 (con_ref1_Tried N) := ⟨⟨Try.f83, Try.func83, by kernel_rfl, by kernel_rfl⟩, fun (x : (Int × Int) × Int) (r : Int × Int) (hr : W_ref1_Tried N x = some r) =>
  spec2_evT (Γ := G_ref1_Tried N) (Λ := L0) (pout := pout_ref1_Tried) (kp := kpL []) mixed (orcOf_ok [] (by simp)) Try.func83 (c := bodyOf Try.f83) (by kernel_rfl) (by kernel_rfl) (of_decide_eq_true (by kernel_rfl)) ((F_ref1_Tried_eq N x).trans hr) (R_ref1_Tried_eq x r)⟩
def as_ref13_Tick : List AS := [.val (.agg T0_), .val (.int .i64)]
def bs_ref13_Tick : List BS := []
def pout_ref13_Tick : Pat := ⟨[(4, .ptr 600004 0), (5, .ptr 600005 0), (6, .val .bool)], [(600004, .box 35 (.val T0_)), (600005, .box 40 (.val T3_))]⟩
noncomputable def G_ref13_Tick (w_ref13_Wants : Int × Int × List (Int × List UInt8) × List (Int × List UInt8) × List A1_ × Int × Int → Option (Bool × Int × Int)) (w_ref1_Now : (Int × Int) × Int → Option (Bool)) (w_ref13_Skips : (Int × A0_) × Int × Int → Option A4_) (w_ref13_Goes : Int × Int × List (Int × List UInt8) × List (Int × List UInt8) × List A1_ × Int × Int → Option A2_) (w_ref1_Tried : (Int × Int) × Int → Option (Int × Int)) (N : Nat) : OrcT := orcOf [conw_ref13_Wants w_ref13_Wants, conw_ref1_Now w_ref1_Now, conw_ref13_Skips w_ref13_Skips, conw_ref13_Goes w_ref13_Goes, conw_ref1_Tried w_ref1_Tried]
noncomputable def F_ref13_Tick (w_ref13_Wants : Int × Int × List (Int × List UInt8) × List (Int × List UInt8) × List A1_ × Int × Int → Option (Bool × Int × Int)) (w_ref1_Now : (Int × Int) × Int → Option (Bool)) (w_ref13_Skips : (Int × A0_) × Int × Int → Option A4_) (w_ref13_Goes : Int × Int × List (Int × List UInt8) × List (Int × List UInt8) × List A1_ × Int × Int → Option A2_) (w_ref1_Tried : (Int × Int) × Int → Option (Int × Int)) (N : Nat) (x : (Int × A0_) × Int) : Option A5_ :=
  (evT (G_ref13_Tick w_ref13_Wants w_ref1_Now w_ref13_Skips w_ref13_Goes w_ref1_Tried N) L0 P0 []
    [] N 400 (bodyOf Try.f56) ⟨50, slots 0 (argsOf as_ref13_Tick bs_ref13_Tick x), tabU (lbOf as_ref13_Tick bs_ref13_Tick x) [], []⟩).elim (kRet 50 pout_ref13_Tick (kpL []) (lbOf as_ref13_Tick bs_ref13_Tick x))
def out_ref13_Tick (y : A5_) : V × List OK × List OK := (.tup [valW (.agg T0_) y.2.1, valW (.agg T3_) y.2.2, valW .bool y.1], [], [])
noncomputable def V_ref13_Tick (w_ref13_Wants : Int × Int × List (Int × List UInt8) × List (Int × List UInt8) × List A1_ × Int × Int → Option (Bool × Int × Int)) (w_ref1_Now : (Int × Int) × Int → Option (Bool)) (w_ref13_Skips : (Int × A0_) × Int × Int → Option A4_) (w_ref13_Goes : Int × Int × List (Int × List UInt8) × List (Int × List UInt8) × List A1_ × Int × Int → Option A2_) (w_ref1_Tried : (Int × Int) × Int → Option (Int × Int)) (N : Nat) (x : (Int × A0_) × Int) : Option A5_ :=
  obind (w_ref13_Wants x.1) fun b => cnd (!b.1) (some (false, x.1, (0:Int), (0:Int))) (obind (w_ref1_Now (x.1.2.2.2.2.2, x.2)) fun b_1 => cnd (!b_1)
    (some (false, x.1, (0:Int), (0:Int))) (cnd (decide ((3:Int) ≤ x.1.2.2.2.2.2.1)) (obind (w_ref13_Skips (x.1, b.2.2, (2:Int))) fun b => obind
    (w_ref13_Goes b.2) fun b => some (false, b.2, (0:Int), (0:Int))) (obind (w_ref1_Tried (x.1.2.2.2.2.2, x.2)) fun b_2 => some (true, (x.1.1,
    x.1.2.1, x.1.2.2.1, x.1.2.2.2.1, x.1.2.2.2.2.1, b_2), b.2))))
theorem FV_ref13_Tick_eq (w_ref13_Wants : Int × Int × List (Int × List UInt8) × List (Int × List UInt8) × List A1_ × Int × Int → Option (Bool × Int × Int)) (w_ref1_Now : (Int × Int) × Int → Option (Bool)) (w_ref13_Skips : (Int × A0_) × Int × Int → Option A4_) (w_ref13_Goes : Int × Int × List (Int × List UInt8) × List (Int × List UInt8) × List A1_ × Int × Int → Option A2_) (w_ref1_Tried : (Int × Int) × Int → Option (Int × Int)) (N : Nat) (x : (Int × A0_) × Int) : F_ref13_Tick w_ref13_Wants w_ref1_Now w_ref13_Skips w_ref13_Goes w_ref1_Tried N x = V_ref13_Tick w_ref13_Wants w_ref1_Now w_ref13_Skips w_ref13_Goes w_ref1_Tried N x := by kernel_rfl
noncomputable def W_ref13_Tick (N : Nat) (x : (Int × A0_) × Int) : Option A5_ := V_ref13_Tick (W_ref13_Wants N) (W_ref1_Now N) (W_ref13_Skips N) (W_ref13_Goes N) (W_ref1_Tried N) N x
theorem F_ref13_Tick_eq (N : Nat) (x : (Int × A0_) × Int) : F_ref13_Tick (W_ref13_Wants N) (W_ref1_Now N) (W_ref13_Skips N) (W_ref13_Goes N) (W_ref1_Tried N) N x = W_ref13_Tick N x := (FV_ref13_Tick_eq (W_ref13_Wants N) (W_ref1_Now N) (W_ref13_Skips N) (W_ref13_Goes N) (W_ref1_Tried N) N x).trans (by kernel_rfl)
noncomputable def conw_ref13_Tick (w : (Int × A0_) × Int → Option A5_) : Con := ⟨56, as_ref13_Tick, bs_ref13_Tick, Bool × (Int × A0_) × Int × Int, w, out_ref13_Tick⟩
noncomputable def con_ref13_Tick (N : Nat) : Con := conw_ref13_Tick (W_ref13_Tick N)
theorem R_ref13_Tick_eq (x : (Int × A0_) × Int) (y : A5_) : retOf2 P0 Try.f56 (kpL []) (lbOf as_ref13_Tick bs_ref13_Tick x) (patS ⟨50, [], [], []⟩ pout_ref13_Tick y) = some (out_ref13_Tick y) := by kernel_rfl
theorem con_ref13_Tick_ok (N : Nat) : Con.ok P0 (con_ref13_Tick N) := ⟨⟨Try.f56, Try.func56, by kernel_rfl, by kernel_rfl⟩, fun (x : (Int × A0_) × Int) (r : A5_) (hr : W_ref13_Tick N x = some r) =>
  spec2_evT (Γ := G_ref13_Tick (W_ref13_Wants N) (W_ref1_Now N) (W_ref13_Skips N) (W_ref13_Goes N) (W_ref1_Tried N) N) (Λ := L0) (pout := pout_ref13_Tick) (kp := kpL []) mixed (orcOf_ok _ (by simp only [List.mem_cons, List.not_mem_nil, or_false, forall_eq_or_imp, forall_eq]; exact ⟨con_ref13_Wants_ok N, con_ref1_Now_ok N, con_ref13_Skips_ok N, con_ref13_Goes_ok N, con_ref1_Tried_ok N⟩)) Try.func56 (c := bodyOf Try.f56) (by kernel_rfl) (by kernel_rfl) (of_decide_eq_true (by kernel_rfl)) ((F_ref13_Tick_eq N x).trans hr) (R_ref13_Tick_eq x r)⟩
def as_win_place : List AS := [.val (.list T2_), .val (.int .i64)]
def bs_win_place : List BS := []
def pout_win_place : Pat := ⟨[(4, .val (.alt 87 (.agg (.int .i64)) (.alt1 116 (.agg .unit))))], []⟩
noncomputable def G_win_place  (N : Nat) : OrcT := orcOf []
noncomputable def F_win_place  (N : Nat) (x : List (Int × List UInt8) × Int) : Option (Int ⊕ Unit) :=
  (evT (G_win_place  N) L0 P0 [(2, .loop [7] ⟨[(9, .val (.int .i64))], []⟩ [(.exit 0, ⟨[], []⟩), (.ret, ⟨[(4, .val (.alt 87 (.agg (.int .i64)) (.alt1 116 (.agg .unit))))], []⟩)])]
    [] N 400 (bodyOf Try.f52) ⟨32, slots 0 (argsOf as_win_place bs_win_place x), tabU (lbOf as_win_place bs_win_place x) [], []⟩).elim (kRet 32 pout_win_place (kpL []) (lbOf as_win_place bs_win_place x))
def out_win_place (y : Int ⊕ Unit) : V × List OK × List OK := (valW (.alt 87 (.agg (.int .i64)) (.alt1 116 (.agg .unit))) y, [], [])
noncomputable def V_win_place  (N : Nat) (x : List (Int × List UInt8) × Int) : Option (Int ⊕ Unit) :=
  obind (loopN N (fun (v : Int) => cnd (decide (v < (↑(List.length x.1) : Int))) (cnd (decide ((0:Int) ≤ v) && decide (v < (↑(List.length x.1) : Int)))
    (cnd (decide (Prod.fst (List.getD x.1 (Int.toNat v) ((0:Int), [])) = x.2)) (some (Sum.inr (Sum.inr (Sum.inr ())))) (cnd (decide (x.2 < Prod.fst
    (List.getD x.1 (Int.toNat v) ((0:Int), [])))) (some (Sum.inr (Sum.inr (Sum.inl v)))) (some (Sum.inl (wr .i64 (v + (1:Int))))))) none) (some (Sum.inr
    (Sum.inl ())))) (Int.ofNat (0:Nat))) fun (b : PUnit ⊕ Int ⊕ PUnit) => selim (fun (b : PUnit) => some (Sum.inl (↑(List.length x.1) : Int))) (fun (c :
    Int ⊕ PUnit) => some c) b
theorem FV_win_place_eq  (N : Nat) (x : List (Int × List UInt8) × Int) : F_win_place  N x = V_win_place  N x := by kernel_rfl
noncomputable def W_win_place (N : Nat) (x : List (Int × List UInt8) × Int) : Option (Int ⊕ Unit) := V_win_place  N x
theorem F_win_place_eq (N : Nat) (x : List (Int × List UInt8) × Int) : F_win_place  N x = W_win_place N x := (FV_win_place_eq  N x).trans (by kernel_rfl)
noncomputable def conw_win_place (w : List (Int × List UInt8) × Int → Option (Int ⊕ Unit)) : Con := ⟨52, as_win_place, bs_win_place, Int ⊕ Unit, w, out_win_place⟩
noncomputable def con_win_place (N : Nat) : Con := conw_win_place (W_win_place N)
theorem R_win_place_eq (x : List (Int × List UInt8) × Int) (y : Int ⊕ Unit) : retOf2 P0 Try.f52 (kpL []) (lbOf as_win_place bs_win_place x) (patS ⟨32, [], [], []⟩ pout_win_place y) = some (out_win_place y) := by kernel_rfl
theorem con_win_place_ok (N : Nat) : Con.ok P0 (con_win_place N) := ⟨⟨Try.f52, Try.func52, by kernel_rfl, by kernel_rfl⟩, fun (x : List (Int × List UInt8) × Int) (r : Int ⊕ Unit) (hr : W_win_place N x = some r) =>
  spec2_evT (Γ := G_win_place N) (Λ := L0) (pout := pout_win_place) (kp := kpL []) mixed (orcOf_ok [] (by simp)) Try.func52 (c := bodyOf Try.f52) (by kernel_rfl) (by kernel_rfl) (of_decide_eq_true (by kernel_rfl)) ((F_win_place_eq N x).trans hr) (R_win_place_eq x r)⟩
def as_slices_Insert_api_Item : List AS := [.acc 0, .val (.int .i64), .val (.list T2_)]
def bs_slices_Insert_api_Item : List BS := [.nrow 28 T2_ true]
def out_slices_Insert_api_Item (y : List (Int × List UInt8)) : V × List OK × List OK := (.acc 2000000 0, [.dead], [.nrow 28 false true ⟨T2_, y⟩])
noncomputable def W_slices_Insert_api_Item (N : Nat) (x : Int × List (Int × List UInt8) × List (Int × List UInt8)) : Option (List (Int × List UInt8)) :=
  cnd (decide ((0:Int) ≤ x.1) && decide (x.1 ≤ ((↑(List.length x.2.2) : Int) : Int)) && decide (List.length x.2.1 = (1:Nat)) && decide ((List.length x.2.2 + (1:Nat)) * (24:Nat) ≤ (140737488355328:Nat))) (some (List.take (Int.toNat x.1) x.2.2 ++ (x.2.1 ++ List.drop (Int.toNat x.1) x.2.2))) none
noncomputable def conw_slices_Insert_api_Item (w : Int × List (Int × List UInt8) × List (Int × List UInt8) → Option (List (Int × List UInt8))) : Con := ⟨53, as_slices_Insert_api_Item, bs_slices_Insert_api_Item, List (Int × List UInt8), w, out_slices_Insert_api_Item⟩
noncomputable def con_slices_Insert_api_Item (N : Nat) : Con := conw_slices_Insert_api_Item (W_slices_Insert_api_Item N)
theorem con_slices_Insert_api_Item_ok (N : Nat) : Con.ok P0 (con_slices_Insert_api_Item N) := ⟨⟨Try.f53, Try.func53, by kernel_rfl, by kernel_rfl⟩, fun (x : Int × List (Int × List UInt8) × List (Int × List UInt8)) (r : List (Int × List UInt8)) (hr : W_slices_Insert_api_Item N x = some r) => by
  obtain ⟨i, s, l⟩ := x
  exact ins_con (e := T2_) (t := 24) (ty := 28) (bytes := 24) (nl := true) (l := l) (r := s) (q := r) (i := i) insN53 insP53 rfl (by decide) (by decide) (by decide) hr⟩
def as_win_Put : List AS := [.val (.list T2_), .val (.int .i64), .val T2_]
def bs_win_Put : List BS := []
def pout_win_Put : Pat := ⟨[(6, .val (.list T2_)), (7, .val .bool)], []⟩
noncomputable def G_win_Put (w_slices_Clone_api_Item : List (Int × List UInt8) → Option (List (Int × List UInt8))) (w_win_place : List (Int × List UInt8) × Int → Option (Int ⊕ Unit)) (w_slices_Insert_api_Item : Int × List (Int × List UInt8) × List (Int × List UInt8) → Option (List (Int × List UInt8))) (N : Nat) : OrcT := orcOf [conw_slices_Clone_api_Item w_slices_Clone_api_Item, conw_win_place w_win_place, conw_slices_Insert_api_Item w_slices_Insert_api_Item]
noncomputable def F_win_Put (w_slices_Clone_api_Item : List (Int × List UInt8) → Option (List (Int × List UInt8))) (w_win_place : List (Int × List UInt8) × Int → Option (Int ⊕ Unit)) (w_slices_Insert_api_Item : Int × List (Int × List UInt8) × List (Int × List UInt8) → Option (List (Int × List UInt8))) (N : Nat) (x : List (Int × List UInt8) × Int × Int × List UInt8) : Option A6_ :=
  (evT (G_win_Put w_slices_Clone_api_Item w_win_place w_slices_Insert_api_Item N) L0 P0 []
    [(1000003, .reg [(8, [], ⟨[(5, .ptr 600005 0), (8, .acc 700042), (9, .ptr 600009 0), (28, .val .bool)], [(600005, .box 28 (.val (.pair (.int .i64) .str))), (700042, .nrow 28 T2_ false true), (600009, .box 87 (.val (.int .i64)))]⟩)])] N 400 (bodyOf Try.f15) ⟨43, slots 0 (argsOf as_win_Put bs_win_Put x), tabU (lbOf as_win_Put bs_win_Put x) [], []⟩).elim (kRet 43 pout_win_Put (kpL []) (lbOf as_win_Put bs_win_Put x))
def out_win_Put (y : A6_) : V × List OK × List OK := (.tup [valW (.list T2_) y.1, valW .bool y.2], [], [])
noncomputable def V_win_Put (w_slices_Clone_api_Item : List (Int × List UInt8) → Option (List (Int × List UInt8))) (w_win_place : List (Int × List UInt8) × Int → Option (Int ⊕ Unit)) (w_slices_Insert_api_Item : Int × List (Int × List UInt8) × List (Int × List UInt8) → Option (List (Int × List UInt8))) (N : Nat) (x : List (Int × List UInt8) × Int × Int × List UInt8) : Option A6_ :=
  obind (w_slices_Clone_api_Item x.1) fun b => obind (w_win_place (x.1, x.2.2.1)) fun b_1 => selim (fun (b_2 : Int) => cnd (decide (x.2.2.1 <
    x.2.1)) (some (b, false)) (cnd (decide (wr .i64 (x.2.1 + (8:Int)) ≤ x.2.2.1)) (some (b, false)) (obind (w_slices_Insert_api_Item (b_2, [x.2.2],
    b)) fun b => some (b, true)))) (fun (c : PUnit) => cnd true (some (b, false)) (cnd (decide (wr .i64 (x.2.1 + (8:Int)) ≤ x.2.2.1)) (some (b, false))
    (obind (w_slices_Insert_api_Item ((0:Int), [x.2.2], b)) fun b => some (b, true)))) b_1
theorem FV_win_Put_eq (w_slices_Clone_api_Item : List (Int × List UInt8) → Option (List (Int × List UInt8))) (w_win_place : List (Int × List UInt8) × Int → Option (Int ⊕ Unit)) (w_slices_Insert_api_Item : Int × List (Int × List UInt8) × List (Int × List UInt8) → Option (List (Int × List UInt8))) (N : Nat) (x : List (Int × List UInt8) × Int × Int × List UInt8) : F_win_Put w_slices_Clone_api_Item w_win_place w_slices_Insert_api_Item N x = V_win_Put w_slices_Clone_api_Item w_win_place w_slices_Insert_api_Item N x := by kernel_rfl
noncomputable def W_win_Put (N : Nat) (x : List (Int × List UInt8) × Int × Int × List UInt8) : Option A6_ := V_win_Put (W_slices_Clone_api_Item N) (W_win_place N) (W_slices_Insert_api_Item N) N x
theorem F_win_Put_eq (N : Nat) (x : List (Int × List UInt8) × Int × Int × List UInt8) : F_win_Put (W_slices_Clone_api_Item N) (W_win_place N) (W_slices_Insert_api_Item N) N x = W_win_Put N x := (FV_win_Put_eq (W_slices_Clone_api_Item N) (W_win_place N) (W_slices_Insert_api_Item N) N x).trans (by kernel_rfl)
noncomputable def conw_win_Put (w : List (Int × List UInt8) × Int × Int × List UInt8 → Option A6_) : Con := ⟨15, as_win_Put, bs_win_Put, List (Int × List UInt8) × Bool, w, out_win_Put⟩
noncomputable def con_win_Put (N : Nat) : Con := conw_win_Put (W_win_Put N)
theorem R_win_Put_eq (x : List (Int × List UInt8) × Int × Int × List UInt8) (y : A6_) : retOf2 P0 Try.f15 (kpL []) (lbOf as_win_Put bs_win_Put x) (patS ⟨43, [], [], []⟩ pout_win_Put y) = some (out_win_Put y) := by kernel_rfl
theorem con_win_Put_ok (N : Nat) : Con.ok P0 (con_win_Put N) := ⟨⟨Try.f15, Try.func15, by kernel_rfl, by kernel_rfl⟩, fun (x : List (Int × List UInt8) × Int × Int × List UInt8) (r : A6_) (hr : W_win_Put N x = some r) =>
  spec2_evT (Γ := G_win_Put (W_slices_Clone_api_Item N) (W_win_place N) (W_slices_Insert_api_Item N) N) (Λ := L0) (pout := pout_win_Put) (kp := kpL []) mixed (orcOf_ok _ (by simp only [List.mem_cons, List.not_mem_nil, or_false, forall_eq_or_imp, forall_eq]; exact ⟨con_slices_Clone_api_Item_ok N, con_win_place_ok N, con_slices_Insert_api_Item_ok N⟩)) Try.func15 (c := bodyOf Try.f15) (by kernel_rfl) (by kernel_rfl) (of_decide_eq_true (by kernel_rfl)) ((F_win_Put_eq N x).trans hr) (R_win_Put_eq x r)⟩
def as_feed_Comes : List AS := [.val (.agg T0_), .val T2_]
def bs_feed_Comes : List BS := []
def pout_feed_Comes : Pat := ⟨[(4, .ptr 600004 0)], [(600004, .box 35 (.val T0_))]⟩
noncomputable def G_feed_Comes (w_feed_read : Int × Int × List (Int × List UInt8) × List (Int × List UInt8) × List A1_ × Int × Int → Option (Int ⊕ Unit)) (w_twin_Feed : Int × Int × List (Int × List UInt8) × List (Int × List UInt8) × List A1_ × Int × Int → Option (Int × A0_)) (w_feed_Knows : (Int × A0_) × Int → Option (Int × A0_)) (w_win_Put : List (Int × List UInt8) × Int × Int × List UInt8 → Option A6_) (w_nak_Goes : Int × Int × List (Int × List UInt8) × List (Int × List UInt8) × List A1_ × Int × Int → Option A2_) (N : Nat) : OrcT := orcOf [conw_feed_read w_feed_read, conw_twin_Feed w_twin_Feed, conw_feed_Knows w_feed_Knows, conw_win_Put w_win_Put, conw_nak_Goes w_nak_Goes]
noncomputable def F_feed_Comes (w_feed_read : Int × Int × List (Int × List UInt8) × List (Int × List UInt8) × List A1_ × Int × Int → Option (Int ⊕ Unit)) (w_twin_Feed : Int × Int × List (Int × List UInt8) × List (Int × List UInt8) × List A1_ × Int × Int → Option (Int × A0_)) (w_feed_Knows : (Int × A0_) × Int → Option (Int × A0_)) (w_win_Put : List (Int × List UInt8) × Int × Int × List UInt8 → Option A6_) (w_nak_Goes : Int × Int × List (Int × List UInt8) × List (Int × List UInt8) × List A1_ × Int × Int → Option A2_) (N : Nat) (x : (Int × A0_) × Int × List UInt8) : Option (Int × A0_) :=
  (evT (G_feed_Comes w_feed_read w_twin_Feed w_feed_Knows w_win_Put w_nak_Goes N) L0 P0 []
    [(1000002, .reg [(7, [], ⟨[(2, .ptr 600002 0), (3, .ptr 600003 0), (4, .ptr 600004 0), (20, .val .bool)], [(600002, .box 35 (.val T0_)), (600003, .box 28 (.val (.pair (.int .i64) .str))), (600004, .box 35 (.val T0_))]⟩), (5, [], ⟨[(2, .ptr 600002 0), (3, .ptr 600003 0), (4, .ptr 600004 0), (25, .val .bool)], [(600002, .box 35 (.val T0_)), (600003, .box 28 (.val (.pair (.int .i64) .str))), (600004, .box 35 (.val T0_))]⟩)])] N 400 (bodyOf Try.f39) ⟨54, slots 0 (argsOf as_feed_Comes bs_feed_Comes x), tabU (lbOf as_feed_Comes bs_feed_Comes x) [], []⟩).elim (kRet 54 pout_feed_Comes (kpL []) (lbOf as_feed_Comes bs_feed_Comes x))
def out_feed_Comes (y : Int × A0_) : V × List OK × List OK := (valW (.agg T0_) y, [], [])
noncomputable def V_feed_Comes (w_feed_read : Int × Int × List (Int × List UInt8) × List (Int × List UInt8) × List A1_ × Int × Int → Option (Int ⊕ Unit)) (w_twin_Feed : Int × Int × List (Int × List UInt8) × List (Int × List UInt8) × List A1_ × Int × Int → Option (Int × A0_)) (w_feed_Knows : (Int × A0_) × Int → Option (Int × A0_)) (w_win_Put : List (Int × List UInt8) × Int × Int × List UInt8 → Option A6_) (w_nak_Goes : Int × Int × List (Int × List UInt8) × List (Int × List UInt8) × List A1_ × Int × Int → Option A2_) (N : Nat) (x : (Int × A0_) × Int × List UInt8) : Option (Int × A0_) :=
  obind (w_feed_read x.1) fun b => selim (fun (b : Int) => obind (cnd (decide (x.2.1 < (1:Int))) (some (true, x.1, x.2, (0:Int), (0:Int), [], [], [],
    (0:Int), (0:Int))) (some (decide ((1000000:Int) < x.2.1), x.1, x.2, (0:Int), (0:Int), [], [], [], (0:Int), (0:Int)))) fun (b : Bool × (Int × A0_) × (Int × List UInt8) × Int × A0_) => cnd b.1 (obind (w_twin_Feed b.2.1) fun b
    => some b) (cnd (decide ((12:Int) < (↑(List.length b.2.2.1.2) : Int))) (obind (w_twin_Feed b.2.1) fun b => some b) (obind (w_feed_Knows (b.2.1,
    b.2.2.1.1)) fun b_1 => obind (w_win_Put (b_1.2.2.2.1, b_1.1, b.2.2.1)) fun b => obind (w_nak_Goes (b_1.1, b_1.2.1, b_1.2.2.1, b.1, b_1.2.2.2.2))
    fun b => some b.2))) (fun (c : PUnit) => obind (cnd true (some (true, x.1, x.2, (0:Int), (0:Int), [], [], [], (0:Int), (0:Int))) (some (decide
    ((1000000:Int) < x.2.1), x.1, x.2, (0:Int), (0:Int), [], [], [], (0:Int), (0:Int)))) fun (b : Bool × (Int × A0_) × (Int × List UInt8) × Int × A0_) => cnd b.1 (obind (w_twin_Feed b.2.1) fun b => some b) (cnd (decide ((12:Int)
    < (↑(List.length b.2.2.1.2) : Int))) (obind (w_twin_Feed b.2.1) fun b => some b) (obind (w_feed_Knows (b.2.1, b.2.2.1.1)) fun b_1 => obind
    (w_win_Put (b_1.2.2.2.1, b_1.1, b.2.2.1)) fun b => obind (w_nak_Goes (b_1.1, b_1.2.1, b_1.2.2.1, b.1, b_1.2.2.2.2)) fun b => some b.2))) b
theorem FV_feed_Comes_eq (w_feed_read : Int × Int × List (Int × List UInt8) × List (Int × List UInt8) × List A1_ × Int × Int → Option (Int ⊕ Unit)) (w_twin_Feed : Int × Int × List (Int × List UInt8) × List (Int × List UInt8) × List A1_ × Int × Int → Option (Int × A0_)) (w_feed_Knows : (Int × A0_) × Int → Option (Int × A0_)) (w_win_Put : List (Int × List UInt8) × Int × Int × List UInt8 → Option A6_) (w_nak_Goes : Int × Int × List (Int × List UInt8) × List (Int × List UInt8) × List A1_ × Int × Int → Option A2_) (N : Nat) (x : (Int × A0_) × Int × List UInt8) : F_feed_Comes w_feed_read w_twin_Feed w_feed_Knows w_win_Put w_nak_Goes N x = V_feed_Comes w_feed_read w_twin_Feed w_feed_Knows w_win_Put w_nak_Goes N x := by kernel_rfl
noncomputable def W_feed_Comes (N : Nat) (x : (Int × A0_) × Int × List UInt8) : Option (Int × A0_) := V_feed_Comes (W_feed_read N) (W_twin_Feed N) (W_feed_Knows N) (W_win_Put N) (W_nak_Goes N) N x
theorem F_feed_Comes_eq (N : Nat) (x : (Int × A0_) × Int × List UInt8) : F_feed_Comes (W_feed_read N) (W_twin_Feed N) (W_feed_Knows N) (W_win_Put N) (W_nak_Goes N) N x = W_feed_Comes N x := (FV_feed_Comes_eq (W_feed_read N) (W_twin_Feed N) (W_feed_Knows N) (W_win_Put N) (W_nak_Goes N) N x).trans (by kernel_rfl)
noncomputable def conw_feed_Comes (w : (Int × A0_) × Int × List UInt8 → Option (Int × A0_)) : Con := ⟨39, as_feed_Comes, bs_feed_Comes, Int × Int × List (Int × List UInt8) × List (Int × List UInt8) × List A1_ × Int × Int, w, out_feed_Comes⟩
noncomputable def con_feed_Comes (N : Nat) : Con := conw_feed_Comes (W_feed_Comes N)
theorem R_feed_Comes_eq (x : (Int × A0_) × Int × List UInt8) (y : Int × A0_) : retOf2 P0 Try.f39 (kpL []) (lbOf as_feed_Comes bs_feed_Comes x) (patS ⟨54, [], [], []⟩ pout_feed_Comes y) = some (out_feed_Comes y) := by kernel_rfl
theorem con_feed_Comes_ok (N : Nat) : Con.ok P0 (con_feed_Comes N) := ⟨⟨Try.f39, Try.func39, by kernel_rfl, by kernel_rfl⟩, fun (x : (Int × A0_) × Int × List UInt8) (r : Int × A0_) (hr : W_feed_Comes N x = some r) =>
  spec2_evT (Γ := G_feed_Comes (W_feed_read N) (W_twin_Feed N) (W_feed_Knows N) (W_win_Put N) (W_nak_Goes N) N) (Λ := L0) (pout := pout_feed_Comes) (kp := kpL []) mixed (orcOf_ok _ (by simp only [List.mem_cons, List.not_mem_nil, or_false, forall_eq_or_imp, forall_eq]; exact ⟨con_feed_read_ok N, con_twin_Feed_ok N, con_feed_Knows_ok N, con_win_Put_ok N, con_nak_Goes_ok N⟩)) Try.func39 (c := bodyOf Try.f39) (by kernel_rfl) (by kernel_rfl) (of_decide_eq_true (by kernel_rfl)) ((F_feed_Comes_eq N x).trans hr) (R_feed_Comes_eq x r)⟩
def as_ref13_Get : List AS := [.val (.list T2_), .val (.int .i64)]
def bs_ref13_Get : List BS := []
def pout_ref13_Get : Pat := ⟨[(4, .val .str), (5, .val .bool)], []⟩
noncomputable def G_ref13_Get  (N : Nat) : OrcT := orcOf []
noncomputable def F_ref13_Get  (N : Nat) (x : List (Int × List UInt8) × Int) : Option (List UInt8 × Bool) :=
  (evT (G_ref13_Get  N) L0 P0 [(2, .loop [] ⟨[(6, .val (.int .i64))], []⟩ [(.exit 0, ⟨[], []⟩), (.ret, ⟨[(4, .val .str), (5, .val .bool)], []⟩)])]
    [] N 400 (bodyOf Try.f32) ⟨25, slots 0 (argsOf as_ref13_Get bs_ref13_Get x), tabU (lbOf as_ref13_Get bs_ref13_Get x) [], []⟩).elim (kRet 25 pout_ref13_Get (kpL []) (lbOf as_ref13_Get bs_ref13_Get x))
def out_ref13_Get (y : List UInt8 × Bool) : V × List OK × List OK := (.tup [valW .str y.1, valW .bool y.2], [], [])
noncomputable def V_ref13_Get  (N : Nat) (x : List (Int × List UInt8) × Int) : Option (List UInt8 × Bool) :=
  obind (loopN N (fun (v : Int) => cnd (decide (v < (↑(List.length x.1) : Int))) (cnd (decide ((0:Int) ≤ v) && decide (v < (↑(List.length x.1) : Int)))
    (cnd (decide (Prod.fst (List.getD x.1 (Int.toNat v) ((0:Int), [])) = x.2)) (cnd (decide ((0:Int) ≤ v) && decide (v < (↑(List.length x.1) : Int)))
    (some (Sum.inr (Sum.inr (Prod.snd (List.getD x.1 (Int.toNat v) ((0:Int), [])), true)))) none) (some (Sum.inl (wr .i64 (v + (1:Int)))))) none) (some
    (Sum.inr (Sum.inl ())))) (Int.ofNat (0:Nat))) fun (b : PUnit ⊕ List UInt8 × Bool) => selim (fun (b : PUnit) => some ([], false)) (fun (c : List UInt8 × Bool) => some c) b
theorem FV_ref13_Get_eq  (N : Nat) (x : List (Int × List UInt8) × Int) : F_ref13_Get  N x = V_ref13_Get  N x := by kernel_rfl
noncomputable def W_ref13_Get (N : Nat) (x : List (Int × List UInt8) × Int) : Option (List UInt8 × Bool) := V_ref13_Get  N x
theorem F_ref13_Get_eq (N : Nat) (x : List (Int × List UInt8) × Int) : F_ref13_Get  N x = W_ref13_Get N x := (FV_ref13_Get_eq  N x).trans (by kernel_rfl)
noncomputable def conw_ref13_Get (w : List (Int × List UInt8) × Int → Option (List UInt8 × Bool)) : Con := ⟨32, as_ref13_Get, bs_ref13_Get, List UInt8 × Bool, w, out_ref13_Get⟩
noncomputable def con_ref13_Get (N : Nat) : Con := conw_ref13_Get (W_ref13_Get N)
theorem R_ref13_Get_eq (x : List (Int × List UInt8) × Int) (y : List UInt8 × Bool) : retOf2 P0 Try.f32 (kpL []) (lbOf as_ref13_Get bs_ref13_Get x) (patS ⟨25, [], [], []⟩ pout_ref13_Get y) = some (out_ref13_Get y) := by kernel_rfl
theorem con_ref13_Get_ok (N : Nat) : Con.ok P0 (con_ref13_Get N) := ⟨⟨Try.f32, Try.func32, by kernel_rfl, by kernel_rfl⟩, fun (x : List (Int × List UInt8) × Int) (r : List UInt8 × Bool) (hr : W_ref13_Get N x = some r) =>
  spec2_evT (Γ := G_ref13_Get N) (Λ := L0) (pout := pout_ref13_Get) (kp := kpL []) mixed (orcOf_ok [] (by simp)) Try.func32 (c := bodyOf Try.f32) (by kernel_rfl) (by kernel_rfl) (of_decide_eq_true (by kernel_rfl)) ((F_ref13_Get_eq N x).trans hr) (R_ref13_Get_eq x r)⟩
def as_ref13_PutWin : List AS := [.val (.list T2_), .val (.int .i64), .val T2_]
def bs_ref13_PutWin : List BS := []
def pout_ref13_PutWin : Pat := ⟨[(6, .val (.list T2_)), (7, .val .bool)], []⟩
noncomputable def G_ref13_PutWin (w_ref13_Get : List (Int × List UInt8) × Int → Option (List UInt8 × Bool)) (N : Nat) : OrcT := orcOf [conw_ref13_Get w_ref13_Get]
noncomputable def F_ref13_PutWin (w_ref13_Get : List (Int × List UInt8) × Int → Option (List UInt8 × Bool)) (N : Nat) (x : List (Int × List UInt8) × Int × Int × List UInt8) : Option A6_ :=
  (evT (G_ref13_PutWin w_ref13_Get N) L0 P0 [(7, .loop [] ⟨[(5, .ptr 600005 0), (10, .acc 700010), (11, .val .bool), (12, .val (.int .i64))], [(600005, .box 28 (.val (.pair (.int .i64) .str))), (700010, .nrow 28 T2_ true true)]⟩ [(.exit 0, ⟨[(5, .ptr 600005 0), (10, .acc 700010), (11, .val .bool)], [(600005, .box 28 (.val (.pair (.int .i64) .str))), (700010, .nrow 28 T2_ true true)]⟩)])]
    [(11, .cut [] [(.normal, ⟨[(5, .ptr 600005 0), (10, .acc 700010), (11, .val .bool)], [(600005, .box 28 (.val (.pair (.int .i64) .str))), (700010, .nrow 28 T2_ true true)]⟩)])] N 400 (bodyOf Try.f72) ⟨71, slots 0 (argsOf as_ref13_PutWin bs_ref13_PutWin x), tabU (lbOf as_ref13_PutWin bs_ref13_PutWin x) [], []⟩).elim (kRet 71 pout_ref13_PutWin (kpL []) (lbOf as_ref13_PutWin bs_ref13_PutWin x))
def out_ref13_PutWin (y : A6_) : V × List OK × List OK := (.tup [valW (.list T2_) y.1, valW .bool y.2], [], [])
noncomputable def V_ref13_PutWin (w_ref13_Get : List (Int × List UInt8) × Int → Option (List UInt8 × Bool)) (N : Nat) (x : List (Int × List UInt8) × Int × Int × List UInt8) : Option A6_ :=
  obind (w_ref13_Get (x.1, x.2.2.1)) fun b => cnd (decide (x.2.2.1 < x.2.1)) (some (x.1, false)) (cnd (decide ((8:Int) ≤ wr .i64 (x.2.2.1 - x.2.1)))
    (some (x.1, false)) (cnd b.2 (some (x.1, false)) (obind (loopN N (fun (v : Bool × Int × (Int × List UInt8) × List (Int × List UInt8)) => cnd (decide
    (v.2.1 < (↑(List.length x.1) : Int))) (obind (cnd (!v.1) (cnd (decide ((0:Int) ≤ v.2.1) && decide (v.2.1 < (↑(List.length x.1) : Int))) (cnd (decide
    (v.2.2.1.1 < Prod.fst (List.getD x.1 (Int.toNat v.2.1) ((0:Int), [])))) (cnd (decide ((List.length v.2.2.2 + List.length [v.2.2.1]) * (24:Nat) ≤
    (140737488355328:Nat))) (some (true, v.2.2.1, v.2.2.2 ++ [v.2.2.1])) none) (some (v.1, v.2.2))) none) (some (v.1, v.2.2))) fun (b : Bool × (Int × List UInt8) × List (Int × List UInt8)) => cnd (decide ((0:Int) ≤ v.2.1) && decide (v.2.1 < (↑(List.length x.1) : Int))) (cnd (decide ((List.length
    b.2.2 + (1:Nat)) * (24:Nat) ≤ (140737488355328:Nat))) (some (Sum.inl (b.1, wr .i64 (v.2.1 + (1:Int)), b.2.1, b.2.2 ++ [(Prod.fst (List.getD x.1
    (Int.toNat v.2.1) ((0:Int), [])), Prod.snd (List.getD x.1 (Int.toNat v.2.1) ((0:Int), [])))]))) none) none) (some (Sum.inr (v.1, v.2.2)))) (false,
    (0:Int), x.2.2, [])) fun (b : Bool × (Int × List UInt8) × List (Int × List UInt8)) => cnd (!b.1) (cnd (decide ((List.length b.2.2 + List.length
    [b.2.1]) * (24:Nat) ≤ (140737488355328:Nat))) (some (b.2.2 ++ [b.2.1], true)) none) (some (b.2.2, true)))))
theorem FV_ref13_PutWin_eq (w_ref13_Get : List (Int × List UInt8) × Int → Option (List UInt8 × Bool)) (N : Nat) (x : List (Int × List UInt8) × Int × Int × List UInt8) : F_ref13_PutWin w_ref13_Get N x = V_ref13_PutWin w_ref13_Get N x := by kernel_rfl
noncomputable def W_ref13_PutWin (N : Nat) (x : List (Int × List UInt8) × Int × Int × List UInt8) : Option A6_ := V_ref13_PutWin (W_ref13_Get N) N x
theorem F_ref13_PutWin_eq (N : Nat) (x : List (Int × List UInt8) × Int × Int × List UInt8) : F_ref13_PutWin (W_ref13_Get N) N x = W_ref13_PutWin N x := (FV_ref13_PutWin_eq (W_ref13_Get N) N x).trans (by kernel_rfl)
noncomputable def conw_ref13_PutWin (w : List (Int × List UInt8) × Int × Int × List UInt8 → Option A6_) : Con := ⟨72, as_ref13_PutWin, bs_ref13_PutWin, List (Int × List UInt8) × Bool, w, out_ref13_PutWin⟩
noncomputable def con_ref13_PutWin (N : Nat) : Con := conw_ref13_PutWin (W_ref13_PutWin N)
theorem R_ref13_PutWin_eq (x : List (Int × List UInt8) × Int × Int × List UInt8) (y : A6_) : retOf2 P0 Try.f72 (kpL []) (lbOf as_ref13_PutWin bs_ref13_PutWin x) (patS ⟨71, [], [], []⟩ pout_ref13_PutWin y) = some (out_ref13_PutWin y) := by kernel_rfl
theorem con_ref13_PutWin_ok (N : Nat) : Con.ok P0 (con_ref13_PutWin N) := ⟨⟨Try.f72, Try.func72, by kernel_rfl, by kernel_rfl⟩, fun (x : List (Int × List UInt8) × Int × Int × List UInt8) (r : A6_) (hr : W_ref13_PutWin N x = some r) =>
  spec2_evT (Γ := G_ref13_PutWin (W_ref13_Get N) N) (Λ := L0) (pout := pout_ref13_PutWin) (kp := kpL []) mixed (orcOf_ok _ (by simp only [List.mem_cons, List.not_mem_nil, or_false, forall_eq_or_imp, forall_eq]; exact con_ref13_Get_ok N)) Try.func72 (c := bodyOf Try.f72) (by kernel_rfl) (by kernel_rfl) (of_decide_eq_true (by kernel_rfl)) ((F_ref13_PutWin_eq N x).trans hr) (R_ref13_PutWin_eq x r)⟩
def as_ref13_Comes : List AS := [.val (.agg T0_), .val T2_]
def bs_ref13_Comes : List BS := []
def pout_ref13_Comes : Pat := ⟨[(4, .ptr 600004 0)], [(600004, .box 35 (.val T0_))]⟩
noncomputable def G_ref13_Comes (w_ref13_Knows : (Int × A0_) × Int → Option (Int × A0_)) (w_ref13_PutWin : List (Int × List UInt8) × Int × Int × List UInt8 → Option A6_) (w_ref13_Goes : Int × Int × List (Int × List UInt8) × List (Int × List UInt8) × List A1_ × Int × Int → Option A2_) (N : Nat) : OrcT := orcOf [conw_ref13_Knows w_ref13_Knows, conw_ref13_PutWin w_ref13_PutWin, conw_ref13_Goes w_ref13_Goes]
noncomputable def F_ref13_Comes (w_ref13_Knows : (Int × A0_) × Int → Option (Int × A0_)) (w_ref13_PutWin : List (Int × List UInt8) × Int × Int × List UInt8 → Option A6_) (w_ref13_Goes : Int × Int × List (Int × List UInt8) × List (Int × List UInt8) × List A1_ × Int × Int → Option A2_) (N : Nat) (x : (Int × A0_) × Int × List UInt8) : Option (Int × A0_) :=
  (evT (G_ref13_Comes w_ref13_Knows w_ref13_PutWin w_ref13_Goes N) L0 P0 []
    [(1000001, .reg [(8, [], ⟨[(2, .ptr 600002 0), (3, .ptr 600003 0), (4, .ptr 600004 0), (12, .val .bool)], [(600002, .box 35 (.val T0_)), (600003, .box 28 (.val (.pair (.int .i64) .str))), (600004, .box 35 (.val T0_))]⟩), (5, [], ⟨[(2, .ptr 600002 0), (3, .ptr 600003 0), (4, .ptr 600004 0), (17, .val .bool)], [(600002, .box 35 (.val T0_)), (600003, .box 28 (.val (.pair (.int .i64) .str))), (600004, .box 35 (.val T0_))]⟩)])] N 400 (bodyOf Try.f30) ⟨45, slots 0 (argsOf as_ref13_Comes bs_ref13_Comes x), tabU (lbOf as_ref13_Comes bs_ref13_Comes x) [], []⟩).elim (kRet 45 pout_ref13_Comes (kpL []) (lbOf as_ref13_Comes bs_ref13_Comes x))
def out_ref13_Comes (y : Int × A0_) : V × List OK × List OK := (valW (.agg T0_) y, [], [])
noncomputable def V_ref13_Comes (w_ref13_Knows : (Int × A0_) × Int → Option (Int × A0_)) (w_ref13_PutWin : List (Int × List UInt8) × Int × Int × List UInt8 → Option A6_) (w_ref13_Goes : Int × Int × List (Int × List UInt8) × List (Int × List UInt8) × List A1_ × Int × Int → Option A2_) (N : Nat) (x : (Int × A0_) × Int × List UInt8) : Option (Int × A0_) :=
  obind (cnd (decide (x.1.1 = (0:Int))) (some (true, x.1, x.2, (0:Int), (0:Int), [], [], [], (0:Int), (0:Int))) (some (decide (x.2.1 < (1:Int)), x.1,
    x.2, (0:Int), (0:Int), [], [], [], (0:Int), (0:Int)))) fun (b : Bool × (Int × A0_) × (Int × List UInt8) × Int × A0_) => obind (cnd b.1 (some (true, b.2)) (some (decide ((1000000:Int) < b.2.2.1.1), b.2))) fun (b : Bool × (Int × A0_) × (Int × List UInt8) × Int × A0_) => cnd b.1 (some b.2.1) (cnd (decide
    ((12:Int) < (↑(List.length b.2.2.1.2) : Int))) (some b.2.1) (obind (w_ref13_Knows (b.2.1, b.2.2.1.1)) fun b_1 => obind (w_ref13_PutWin
    (b_1.2.2.2.1, b_1.1, b.2.2.1)) fun b => obind (w_ref13_Goes (b_1.1, b_1.2.1, b_1.2.2.1, b.1, b_1.2.2.2.2)) fun b => some b.2))
theorem FV_ref13_Comes_eq (w_ref13_Knows : (Int × A0_) × Int → Option (Int × A0_)) (w_ref13_PutWin : List (Int × List UInt8) × Int × Int × List UInt8 → Option A6_) (w_ref13_Goes : Int × Int × List (Int × List UInt8) × List (Int × List UInt8) × List A1_ × Int × Int → Option A2_) (N : Nat) (x : (Int × A0_) × Int × List UInt8) : F_ref13_Comes w_ref13_Knows w_ref13_PutWin w_ref13_Goes N x = V_ref13_Comes w_ref13_Knows w_ref13_PutWin w_ref13_Goes N x := by kernel_rfl
noncomputable def W_ref13_Comes (N : Nat) (x : (Int × A0_) × Int × List UInt8) : Option (Int × A0_) := V_ref13_Comes (W_ref13_Knows N) (W_ref13_PutWin N) (W_ref13_Goes N) N x
theorem F_ref13_Comes_eq (N : Nat) (x : (Int × A0_) × Int × List UInt8) : F_ref13_Comes (W_ref13_Knows N) (W_ref13_PutWin N) (W_ref13_Goes N) N x = W_ref13_Comes N x := (FV_ref13_Comes_eq (W_ref13_Knows N) (W_ref13_PutWin N) (W_ref13_Goes N) N x).trans (by kernel_rfl)
noncomputable def conw_ref13_Comes (w : (Int × A0_) × Int × List UInt8 → Option (Int × A0_)) : Con := ⟨30, as_ref13_Comes, bs_ref13_Comes, Int × Int × List (Int × List UInt8) × List (Int × List UInt8) × List A1_ × Int × Int, w, out_ref13_Comes⟩
noncomputable def con_ref13_Comes (N : Nat) : Con := conw_ref13_Comes (W_ref13_Comes N)
theorem R_ref13_Comes_eq (x : (Int × A0_) × Int × List UInt8) (y : Int × A0_) : retOf2 P0 Try.f30 (kpL []) (lbOf as_ref13_Comes bs_ref13_Comes x) (patS ⟨45, [], [], []⟩ pout_ref13_Comes y) = some (out_ref13_Comes y) := by kernel_rfl
theorem con_ref13_Comes_ok (N : Nat) : Con.ok P0 (con_ref13_Comes N) := ⟨⟨Try.f30, Try.func30, by kernel_rfl, by kernel_rfl⟩, fun (x : (Int × A0_) × Int × List UInt8) (r : Int × A0_) (hr : W_ref13_Comes N x = some r) =>
  spec2_evT (Γ := G_ref13_Comes (W_ref13_Knows N) (W_ref13_PutWin N) (W_ref13_Goes N) N) (Λ := L0) (pout := pout_ref13_Comes) (kp := kpL []) mixed (orcOf_ok _ (by simp only [List.mem_cons, List.not_mem_nil, or_false, forall_eq_or_imp, forall_eq]; exact ⟨con_ref13_Knows_ok N, con_ref13_PutWin_ok N, con_ref13_Goes_ok N⟩)) Try.func30 (c := bodyOf Try.f30) (by kernel_rfl) (by kernel_rfl) (of_decide_eq_true (by kernel_rfl)) ((F_ref13_Comes_eq N x).trans hr) (R_ref13_Comes_eq x r)⟩
def as_law18_deed : List AS := [.val (.agg T0_), .val (.agg T0_), .val T4_, .val (.int .i64)]
def bs_law18_deed : List BS := []
def pout_law18_deed : Pat := ⟨[(8, .ptr 600008 0), (9, .ptr 600009 0), (10, .val .bool)], [(600008, .box 35 (.val T0_)), (600009, .box 35 (.val T0_))]⟩
noncomputable def G_law18_deed (w_feed_Begin : (Int × A0_) × Int → Option (Int × A0_)) (w_ref13_Begin : (Int × A0_) × Int → Option (Int × A0_)) (w_feed_Notes : (Int × A0_) × Int × Int → Option (Int × A0_)) (w_ref13_Notes : (Int × A0_) × Int × Int → Option (Int × A0_)) (w_feed_Knows : (Int × A0_) × Int → Option (Int × A0_)) (w_ref13_Knows : (Int × A0_) × Int → Option (Int × A0_)) (w_feed_Tick : (Int × A0_) × Int → Option A5_) (w_ref13_Tick : (Int × A0_) × Int → Option A5_) (w_feed_Comes : (Int × A0_) × Int × List UInt8 → Option (Int × A0_)) (w_ref13_Comes : (Int × A0_) × Int × List UInt8 → Option (Int × A0_)) (N : Nat) : OrcT := orcOf [conw_feed_Begin w_feed_Begin, conw_ref13_Begin w_ref13_Begin, conw_feed_Notes w_feed_Notes, conw_ref13_Notes w_ref13_Notes, conw_feed_Knows w_feed_Knows, conw_ref13_Knows w_ref13_Knows, conw_feed_Tick w_feed_Tick, conw_ref13_Tick w_ref13_Tick, conw_feed_Comes w_feed_Comes, conw_ref13_Comes w_ref13_Comes]
noncomputable def F_law18_deed (w_feed_Begin : (Int × A0_) × Int → Option (Int × A0_)) (w_ref13_Begin : (Int × A0_) × Int → Option (Int × A0_)) (w_feed_Notes : (Int × A0_) × Int × Int → Option (Int × A0_)) (w_ref13_Notes : (Int × A0_) × Int × Int → Option (Int × A0_)) (w_feed_Knows : (Int × A0_) × Int → Option (Int × A0_)) (w_ref13_Knows : (Int × A0_) × Int → Option (Int × A0_)) (w_feed_Tick : (Int × A0_) × Int → Option A5_) (w_ref13_Tick : (Int × A0_) × Int → Option A5_) (w_feed_Comes : (Int × A0_) × Int × List UInt8 → Option (Int × A0_)) (w_ref13_Comes : (Int × A0_) × Int × List UInt8 → Option (Int × A0_)) (N : Nat) (x : (Int × A0_) × (Int × A0_) × (Int × Int × Int) × Int) : Option A7_ :=
  (evT (G_law18_deed w_feed_Begin w_ref13_Begin w_feed_Notes w_ref13_Notes w_feed_Knows w_ref13_Knows w_feed_Tick w_ref13_Tick w_feed_Comes w_ref13_Comes N) L0 P0 []
    [(14, .cut [] [(.normal, ⟨[(4, .ptr 600004 0), (5, .ptr 600005 0), (8, .ptr 600008 0), (9, .ptr 600009 0), (74, .val .bool)], [(600004, .box 35 (.val T0_)), (600005, .box 35 (.val T0_)), (600008, .box 35 (.val T0_)), (600009, .box 35 (.val T0_))]⟩)])] N 400 (bodyOf Try.f41) ⟨110, slots 0 (argsOf as_law18_deed bs_law18_deed x), tabU (lbOf as_law18_deed bs_law18_deed x) [], []⟩).elim (kRet 110 pout_law18_deed (kpL []) (lbOf as_law18_deed bs_law18_deed x))
def out_law18_deed (y : A7_) : V × List OK × List OK := (.tup [valW (.agg T0_) y.2.1, valW (.agg T0_) y.2.2, valW .bool y.1], [], [])
noncomputable def V_law18_deed (w_feed_Begin : (Int × A0_) × Int → Option (Int × A0_)) (w_ref13_Begin : (Int × A0_) × Int → Option (Int × A0_)) (w_feed_Notes : (Int × A0_) × Int × Int → Option (Int × A0_)) (w_ref13_Notes : (Int × A0_) × Int × Int → Option (Int × A0_)) (w_feed_Knows : (Int × A0_) × Int → Option (Int × A0_)) (w_ref13_Knows : (Int × A0_) × Int → Option (Int × A0_)) (w_feed_Tick : (Int × A0_) × Int → Option A5_) (w_ref13_Tick : (Int × A0_) × Int → Option A5_) (w_feed_Comes : (Int × A0_) × Int × List UInt8 → Option (Int × A0_)) (w_ref13_Comes : (Int × A0_) × Int × List UInt8 → Option (Int × A0_)) (N : Nat) (x : (Int × A0_) × (Int × A0_) × (Int × Int × Int) × Int) : Option A7_ :=
  cnd (decide ((0:Int) ≤ Int.tmod x.2.2.1.2.2 (5:Int))) (cnd (decide (Int.tmod x.2.2.1.2.2 (5:Int) < (↑(5:Nat) : Int))) (cnd (decide (Int.tmod x.2.2.1.1
    (8:Int) = (0:Int))) (obind (w_feed_Begin (x.1, max (1:Int) (wr .i64 (wr .i64 (x.2.1.1 - (2:Int)) + wr .i64 (Int.tmod x.2.2.1.2.1 (12:Int)))))) fun
    b => obind (w_ref13_Begin (x.2.1, max (1:Int) (wr .i64 (wr .i64 (x.2.1.1 - (2:Int)) + wr .i64 (Int.tmod x.2.2.1.2.1 (12:Int)))))) fun b_1 => some
    (true, b, b_1)) (cnd (decide (Int.tmod x.2.2.1.1 (8:Int) = (1:Int))) (obind (w_feed_Notes (x.1, max (1:Int) (wr .i64 (wr .i64 (x.2.1.1 - (2:Int))
    + wr .i64 (Int.tmod x.2.2.1.2.1 (12:Int)))), wr .i64 (wr .i64 (max (1:Int) (wr .i64 (wr .i64 (x.2.1.1 - (2:Int)) + wr .i64 (Int.tmod x.2.2.1.2.1
    (12:Int)))) + wr .i64 (Int.tmod x.2.2.1.2.2 (6:Int))) - (1:Int)))) fun b => obind (w_ref13_Notes (x.2.1, max (1:Int) (wr .i64 (wr .i64 (x.2.1.1 -
    (2:Int)) + wr .i64 (Int.tmod x.2.2.1.2.1 (12:Int)))), wr .i64 (wr .i64 (max (1:Int) (wr .i64 (wr .i64 (x.2.1.1 - (2:Int)) + wr .i64 (Int.tmod
    x.2.2.1.2.1 (12:Int)))) + wr .i64 (Int.tmod x.2.2.1.2.2 (6:Int))) - (1:Int)))) fun b_1 => some (true, b, b_1)) (cnd (decide (Int.tmod x.2.2.1.1
    (8:Int) = (2:Int))) (obind (w_feed_Knows (x.1, max (1:Int) (wr .i64 (wr .i64 (x.2.1.1 - (2:Int)) + wr .i64 (Int.tmod x.2.2.1.2.1 (12:Int)))))) fun
    b => obind (w_ref13_Knows (x.2.1, max (1:Int) (wr .i64 (wr .i64 (x.2.1.1 - (2:Int)) + wr .i64 (Int.tmod x.2.2.1.2.1 (12:Int)))))) fun b_1 => some
    (true, b, b_1)) (obind (cnd (decide (Int.tmod x.2.2.1.1 (8:Int) = (3:Int))) (some (decide (Int.tmod x.2.2.1.1 (8:Int) = (3:Int)), x.1, x.2.1,
    ((0:Int), (0:Int), [], [], [], (0:Int), (0:Int)), (0:Int), (0:Int), [], [], [], (0:Int), (0:Int))) (some (decide (Int.tmod x.2.2.1.1 (8:Int) =
    (4:Int)), x.1, x.2.1, ((0:Int), (0:Int), [], [], [], (0:Int), (0:Int)), (0:Int), (0:Int), [], [], [], (0:Int), (0:Int)))) fun (b : Bool × (Int × A0_) × (Int × A0_) × (Int × A0_) × Int × A0_) => cnd b.1 (obind (w_feed_Tick (b.2.1, x.2.2.2)) fun b_1 => obind (w_ref13_Tick (b.2.2.1, x.2.2.2)) fun b => cnd
    (decide (b_1.2.2.1 = b.2.2.1) && decide (b_1.2.2.2 = b.2.2.2)) (some (b_1.1 == b.1, b_1.2.1, b.2.1)) (some (false, b_1.2.1, b.2.1))) (obind
    (w_feed_Comes (b.2.1, max (1:Int) (wr .i64 (wr .i64 (x.2.1.1 - (2:Int)) + wr .i64 (Int.tmod x.2.2.1.2.1 (12:Int)))), List.getD [[], [(97 :
    UInt8)], [(98 : UInt8), (99 : UInt8)], [(104 : UInt8), (101 : UInt8), (108 : UInt8), (108 : UInt8), (111 : UInt8)], [(116 : UInt8), (104 : UInt8),
    (105 : UInt8), (114 : UInt8), (116 : UInt8), (101 : UInt8), (101 : UInt8), (110 : UInt8), (32 : UInt8), (98 : UInt8), (121 : UInt8), (116 : UInt8),
    (101 : UInt8)]] (Int.toNat (Int.tmod x.2.2.1.2.2 (5:Int))) [])) fun b_1 => obind (w_ref13_Comes (b.2.2.1, max (1:Int) (wr .i64 (wr .i64 (x.2.1.1 -
    (2:Int)) + wr .i64 (Int.tmod x.2.2.1.2.1 (12:Int)))), List.getD [[], [(97 : UInt8)], [(98 : UInt8), (99 : UInt8)], [(104 : UInt8), (101 : UInt8),
    (108 : UInt8), (108 : UInt8), (111 : UInt8)], [(116 : UInt8), (104 : UInt8), (105 : UInt8), (114 : UInt8), (116 : UInt8), (101 : UInt8), (101 :
    UInt8), (110 : UInt8), (32 : UInt8), (98 : UInt8), (121 : UInt8), (116 : UInt8), (101 : UInt8)]] (Int.toNat (Int.tmod x.2.2.1.2.2 (5:Int))) [])) fun
    b => some (true, b_1, b)))))) none) none
theorem FV_law18_deed_eq (w_feed_Begin : (Int × A0_) × Int → Option (Int × A0_)) (w_ref13_Begin : (Int × A0_) × Int → Option (Int × A0_)) (w_feed_Notes : (Int × A0_) × Int × Int → Option (Int × A0_)) (w_ref13_Notes : (Int × A0_) × Int × Int → Option (Int × A0_)) (w_feed_Knows : (Int × A0_) × Int → Option (Int × A0_)) (w_ref13_Knows : (Int × A0_) × Int → Option (Int × A0_)) (w_feed_Tick : (Int × A0_) × Int → Option A5_) (w_ref13_Tick : (Int × A0_) × Int → Option A5_) (w_feed_Comes : (Int × A0_) × Int × List UInt8 → Option (Int × A0_)) (w_ref13_Comes : (Int × A0_) × Int × List UInt8 → Option (Int × A0_)) (N : Nat) (x : (Int × A0_) × (Int × A0_) × (Int × Int × Int) × Int) : F_law18_deed w_feed_Begin w_ref13_Begin w_feed_Notes w_ref13_Notes w_feed_Knows w_ref13_Knows w_feed_Tick w_ref13_Tick w_feed_Comes w_ref13_Comes N x = V_law18_deed w_feed_Begin w_ref13_Begin w_feed_Notes w_ref13_Notes w_feed_Knows w_ref13_Knows w_feed_Tick w_ref13_Tick w_feed_Comes w_ref13_Comes N x := by kernel_rfl
noncomputable def W_law18_deed (N : Nat) (x : (Int × A0_) × (Int × A0_) × (Int × Int × Int) × Int) : Option A7_ := V_law18_deed (W_feed_Begin N) (W_ref13_Begin N) (W_feed_Notes N) (W_ref13_Notes N) (W_feed_Knows N) (W_ref13_Knows N) (W_feed_Tick N) (W_ref13_Tick N) (W_feed_Comes N) (W_ref13_Comes N) N x
theorem F_law18_deed_eq (N : Nat) (x : (Int × A0_) × (Int × A0_) × (Int × Int × Int) × Int) : F_law18_deed (W_feed_Begin N) (W_ref13_Begin N) (W_feed_Notes N) (W_ref13_Notes N) (W_feed_Knows N) (W_ref13_Knows N) (W_feed_Tick N) (W_ref13_Tick N) (W_feed_Comes N) (W_ref13_Comes N) N x = W_law18_deed N x := (FV_law18_deed_eq (W_feed_Begin N) (W_ref13_Begin N) (W_feed_Notes N) (W_ref13_Notes N) (W_feed_Knows N) (W_ref13_Knows N) (W_feed_Tick N) (W_ref13_Tick N) (W_feed_Comes N) (W_ref13_Comes N) N x).trans (by kernel_rfl)
noncomputable def conw_law18_deed (w : (Int × A0_) × (Int × A0_) × (Int × Int × Int) × Int → Option A7_) : Con := ⟨41, as_law18_deed, bs_law18_deed, Bool × (Int × A0_) × Int × Int × List (Int × List UInt8) × List (Int × List UInt8) × List A1_ × Int × Int, w, out_law18_deed⟩
noncomputable def con_law18_deed (N : Nat) : Con := conw_law18_deed (W_law18_deed N)
theorem R_law18_deed_eq (x : (Int × A0_) × (Int × A0_) × (Int × Int × Int) × Int) (y : A7_) : retOf2 P0 Try.f41 (kpL []) (lbOf as_law18_deed bs_law18_deed x) (patS ⟨110, [], [], []⟩ pout_law18_deed y) = some (out_law18_deed y) := by kernel_rfl
theorem con_law18_deed_ok (N : Nat) : Con.ok P0 (con_law18_deed N) := ⟨⟨Try.f41, Try.func41, by kernel_rfl, by kernel_rfl⟩, fun (x : (Int × A0_) × (Int × A0_) × (Int × Int × Int) × Int) (r : A7_) (hr : W_law18_deed N x = some r) =>
  spec2_evT (Γ := G_law18_deed (W_feed_Begin N) (W_ref13_Begin N) (W_feed_Notes N) (W_ref13_Notes N) (W_feed_Knows N) (W_ref13_Knows N) (W_feed_Tick N) (W_ref13_Tick N) (W_feed_Comes N) (W_ref13_Comes N) N) (Λ := L0) (pout := pout_law18_deed) (kp := kpL []) mixed (orcOf_ok _ (by simp only [List.mem_cons, List.not_mem_nil, or_false, forall_eq_or_imp, forall_eq]; exact ⟨con_feed_Begin_ok N, con_ref13_Begin_ok N, con_feed_Notes_ok N, con_ref13_Notes_ok N, con_feed_Knows_ok N, con_ref13_Knows_ok N, con_feed_Tick_ok N, con_ref13_Tick_ok N, con_feed_Comes_ok N, con_ref13_Comes_ok N⟩)) Try.func41 (c := bodyOf Try.f41) (by kernel_rfl) (by kernel_rfl) (of_decide_eq_true (by kernel_rfl)) ((F_law18_deed_eq N x).trans hr) (R_law18_deed_eq x r)⟩
def as_law18_FeedEnds : List AS := [.val (.list T4_)]
def bs_law18_FeedEnds : List BS := []
def pout_law18_FeedEnds : Pat := ⟨[(2, .val .bool)], []⟩
noncomputable def G_law18_FeedEnds (w_law18_deed : (Int × A0_) × (Int × A0_) × (Int × Int × Int) × Int → Option A7_) (w_feed_Tick : (Int × A0_) × Int → Option A5_) (N : Nat) : OrcT := orcOf [con_law18_begun N, conw_law18_deed w_law18_deed, conw_feed_Tick w_feed_Tick]
noncomputable def F_law18_FeedEnds (w_law18_deed : (Int × A0_) × (Int × A0_) × (Int × Int × Int) × Int → Option A7_) (w_feed_Tick : (Int × A0_) × Int → Option A5_) (N : Nat) (x : List (Int × Int × Int)) : Option (Bool) :=
  (evT (G_law18_FeedEnds w_law18_deed w_feed_Tick N) L0 P0 [(8, .loop [] ⟨[(3, .ptr 600003 0), (4, .val (.int .i64)), (5, .val (.int .i64))], [(600003, .box 35 (.val T0_))]⟩ [(.exit 0, ⟨[(3, .ptr 600003 0), (4, .val (.int .i64))], [(600003, .box 35 (.val T0_))]⟩)]),
    (16, .loop [] ⟨[(3, .ptr 600003 0), (6, .val (.int .i64)), (7, .val (.int .i64))], [(600003, .box 35 (.val T0_))]⟩ [(.exit 2, ⟨[(3, .ptr 600003 0)], [(600003, .box 35 (.val T0_))]⟩), (.ret, ⟨[(2, .val .bool)], []⟩)])]
    [(23, .cut [] [(.normal, ⟨[(3, .ptr 600003 0), (6, .val (.int .i64)), (8, .ptr 600008 0)], [(600003, .box 35 (.val T0_)), (600008, .box 35 (.val T0_))]⟩)]),
    (21, .cut [] [(.normal, ⟨[(3, .ptr 600003 0), (6, .val (.int .i64)), (8, .ptr 600008 0)], [(600003, .box 35 (.val T0_)), (600008, .box 35 (.val T0_))]⟩)])] N 400 (bodyOf Try.f10) ⟨96, slots 0 (argsOf as_law18_FeedEnds bs_law18_FeedEnds x), tabU (lbOf as_law18_FeedEnds bs_law18_FeedEnds x) [], []⟩).elim (kRet 96 pout_law18_FeedEnds (kpL []) (lbOf as_law18_FeedEnds bs_law18_FeedEnds x))
def out_law18_FeedEnds (y : Bool) : V × List OK × List OK := (valW .bool y, [], [])
noncomputable def V_law18_FeedEnds (w_law18_deed : (Int × A0_) × (Int × A0_) × (Int × Int × Int) × Int → Option A7_) (w_feed_Tick : (Int × A0_) × Int → Option A5_) (N : Nat) (x : List (Int × Int × Int)) : Option (Bool) :=
  cnd (decide ((60:Int) < (↑(List.length x) : Int))) (some true) (obind (loopN N (fun (v : Int × Int × Int × A0_) => cnd (decide (v.2.1 < (↑(List.length x) : Int))) (cnd (decide ((0:Int) ≤
    v.2.1) && decide (v.2.1 < (↑(List.length x) : Int))) (cnd (decide ((0:Int) ≤ v.2.1) && decide (v.2.1 < (↑(List.length x) : Int))) (obind
    (w_law18_deed (v.2.2, v.2.2, (Prod.fst (List.getD x (Int.toNat v.2.1) ((0:Int), (0:Int), (0:Int))), Prod.fst (Prod.snd (List.getD x (Int.toNat
    v.2.1) ((0:Int), (0:Int), (0:Int)))), Prod.snd (Prod.snd (List.getD x (Int.toNat v.2.1) ((0:Int), (0:Int), (0:Int))))), wr .i64 (v.1 + wr .i64
    (Int.tmod (Prod.snd (Prod.snd (List.getD x (Int.toNat v.2.1) ((0:Int), (0:Int), (0:Int))))) (4:Int))))) fun b => some (Sum.inl (wr .i64 (v.1 + wr
    .i64 (Int.tmod (Prod.snd (Prod.snd (List.getD x (Int.toNat v.2.1) ((0:Int), (0:Int), (0:Int))))) (4:Int))), wr .i64 (v.2.1 + (1:Int)), b.2.1)))
    none) none) (some (Sum.inr (v.1, v.2.2)))) ((0:Int), (0:Int), (0:Int), (0:Int), [], [], [], (0:Int), (0:Int))) fun (b : Int × Int × A0_) => cnd (decide (b.2.1 = (0:Int))) (some true)
    (obind (loopN N (fun (v : Int × Int × Int × A0_) => cnd (decide (v.2.1 < (600:Int))) (cnd (decide (v.2.2.1 ≤ v.2.2.2.1)) (obind (w_feed_Tick (v.2.2, wr .i64 (b.1 + v.2.1))) fun b =>
    obind (cnd b.1 (some (wr .i64 (v.1 + (1:Int)), v.2.2, b.2.1)) (some (v.1, v.2.2, b.2.1))) fun (b : Int × (Int × A0_) × Int × A0_) => obind (cnd (decide (b.2.1.1 < b.2.2.1)) (some ((0:Int), b.2)) (some b)) fun (b : Int × (Int × A0_) × Int × A0_) => cnd (decide ((3:Int) < b.1)) (some (Sum.inr (Sum.inr
    false))) (cnd (decide (b.2.2.2.1 ≠ b.2.1.2.1)) (some (Sum.inr (Sum.inr false))) (some (Sum.inl (b.1, wr .i64 (v.2.1 + (1:Int)), b.2.2))))) (some
    (Sum.inr (Sum.inl v.2.2)))) (some (Sum.inr (Sum.inl v.2.2)))) ((0:Int), (0:Int), b.2)) fun (b : Int × Int × List (Int × List UInt8) × List (Int × List UInt8) × List A1_ × Int × Int ⊕ Bool) => selim (fun (b : Int × A0_) => cnd (decide (b.2.1 < b.1)) (some (decide ((↑(List.length b.2.2.2.1) : Int) =
    (0:Int)))) (some false)) (fun (c : Bool) => some c) b))
theorem FV_law18_FeedEnds_eq (w_law18_deed : (Int × A0_) × (Int × A0_) × (Int × Int × Int) × Int → Option A7_) (w_feed_Tick : (Int × A0_) × Int → Option A5_) (N : Nat) (x : List (Int × Int × Int)) : F_law18_FeedEnds w_law18_deed w_feed_Tick N x = V_law18_FeedEnds w_law18_deed w_feed_Tick N x := by kernel_rfl
noncomputable def W_law18_FeedEnds (N : Nat) (x : List (Int × Int × Int)) : Option (Bool) := V_law18_FeedEnds (W_law18_deed N) (W_feed_Tick N) N x
theorem F_law18_FeedEnds_eq (N : Nat) (x : List (Int × Int × Int)) : F_law18_FeedEnds (W_law18_deed N) (W_feed_Tick N) N x = W_law18_FeedEnds N x := (FV_law18_FeedEnds_eq (W_law18_deed N) (W_feed_Tick N) N x).trans (by kernel_rfl)
noncomputable def conw_law18_FeedEnds (w : List (Int × Int × Int) → Option (Bool)) : Con := ⟨10, as_law18_FeedEnds, bs_law18_FeedEnds, Bool, w, out_law18_FeedEnds⟩
noncomputable def con_law18_FeedEnds (N : Nat) : Con := conw_law18_FeedEnds (W_law18_FeedEnds N)
theorem R_law18_FeedEnds_eq (x : List (Int × Int × Int)) (y : Bool) : retOf2 P0 Try.f10 (kpL []) (lbOf as_law18_FeedEnds bs_law18_FeedEnds x) (patS ⟨96, [], [], []⟩ pout_law18_FeedEnds y) = some (out_law18_FeedEnds y) := by kernel_rfl
theorem con_law18_FeedEnds_ok (N : Nat) : Con.ok P0 (con_law18_FeedEnds N) := ⟨⟨Try.f10, Try.func10, by kernel_rfl, by kernel_rfl⟩, fun (x : List (Int × Int × Int)) (r : Bool) (hr : W_law18_FeedEnds N x = some r) =>
  spec2_evT (Γ := G_law18_FeedEnds (W_law18_deed N) (W_feed_Tick N) N) (Λ := L0) (pout := pout_law18_FeedEnds) (kp := kpL []) mixed (orcOf_ok _ (by simp only [List.mem_cons, List.not_mem_nil, or_false, forall_eq_or_imp, forall_eq]; exact ⟨con_law18_begun_ok N, con_law18_deed_ok N, con_feed_Tick_ok N⟩)) Try.func10 (c := bodyOf Try.f10) (by kernel_rfl) (by kernel_rfl) (of_decide_eq_true (by kernel_rfl)) ((F_law18_FeedEnds_eq N x).trans hr) (R_law18_FeedEnds_eq x r)⟩
end Go.Proofs.Ytigmbfeeodggbaa.feedEndsX
