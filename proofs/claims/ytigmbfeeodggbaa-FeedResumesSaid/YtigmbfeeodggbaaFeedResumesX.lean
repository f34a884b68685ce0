/- FeedResumes: for all arguments the call returns true. The law is brought to a function of Lean's own (W_..) by the machine of the texts beside it, and that is reckoned; no condition. -/
import Derived.Test.YtigmbfeeodggbaaExtYM
import Derived.Test.YtigmbfeeodggbaaExtIn
import Derived.Test.YtigmbfeeodggbaaExtDl
import Derived.Test.YtigmbfeeodggbaaExtL
import Derived.Test.YtigmbfeeodggbaaRows
import Derived.WalkKit
import Derived.ProofKit
import Derived.OpenShut
import Derived.ShutString
import Derived.ChangeOld
import Derived.Below
import Derived.Shelf.RegionOpenPlain
import Derived.Deep.RegionLaw
import Derived.Lib.Walk
import Derived.Shelf.RegionOpenPlain
import Derived.Lib.Walk
namespace Go.Proofs.Ytigmbfeeodggbaa.feedResumesX
open Go.Abs Go.RowKit Go.ChangeShapes Go.WideShapes Go.ChangeAt
set_option maxRecDepth 100000
set_option linter.unusedVariables false
set_option linter.unusedSimpArgs false
abbrev A0_ : Type := Int × List (Int × List UInt8) × List (Int × List UInt8) × List (Int × Int × Int × List UInt8 × Int) × Int × Int
abbrev A1_ : Type := Int × Int × Int × List UInt8 × Int
abbrev A2_ : Type := List (Int × List UInt8) × Bool × Int × List UInt8
abbrev A3_ : Type := List (Int × List UInt8) × Int × A0_
abbrev A4_ : Type := List (Int × List UInt8) × Bool
abbrev T0_ : Ty := .pair (.int .i64) (.pair (.int .i64) (.pair (.list (.agg (.pair (.int .i64) .str))) (.pair (.list (.agg (.pair (.int .i64) .str))) (.pair (.list (.agg (.pair (.int .i64) (.pair (.int .i64) (.pair (.int .i64) (.pair .str (.int .i64))))))) (.agg (.pair (.int .i64) (.int .i64)))))))
abbrev T1_ : Ty := .agg (.pair (.int .i64) .str)
abbrev T2_ : Ty := .agg (.pair (.int .i64) (.pair (.int .i64) (.pair (.int .i64) (.pair .str (.int .i64)))))
noncomputable abbrev P0 : Program := Try.prog
noncomputable def bodyOf (fn : Func) : Code := fn.body.getD .skip
def L0 : Lend := fun f => aget [] [(53, [0]), (85, [0])] f
def kpL (l : List Bool) : Nat → Bool := fun j => l.getD j true
theorem own : ownKnob Try.prog.godebug = none := by kernel_rfl
theorem laidOut : laidOutB Try.prog = true := by kernel_rfl
theorem mixed : P0.follows .mixedOrders = true := by decide +kernel
theorem progOk_ : progOk P0 = true := by decide +kernel
set_option linter.unusedSimpArgs false
set_option linter.unusedVariables false

theorem insU53 : Try.prog.underlying 24 = some (.slice 28) := by kernel_rfl
theorem insI53 : Try.prog.underlying 3 = some (.int .i64) := by kernel_rfl
theorem insE53 : ∃ (inf : TypeInfo) (z : Value), Try.prog.info? 28 = some inf ∧ inf.size = 2 ∧ inf.zero = some z ∧ z.cells.size = 2 ∧ inf.bytes = 24 := insE_of (by kernel_rfl)
set_option maxHeartbeats 4000000 in
theorem insShift53 {inf : TypeInfo} (hinf : Try.prog.info? 28 = some inf) (hsz : inf.size = 2) (w : World) (b i n c vb vo vc : Nat) (arr : Array Value) (tb : Nat) (fz : Nat × Nat) (cs vs : List Value) (hmem : w.heap[b]? = some (.cells arr tb fz)) (hf : ∀ j, j < arr.size → ¬ (fz.1 ≤ j ∧ j < fz.2))
    (hi : i < n) (hroom : n + 1 ≤ c) (hsize : arr.size = c * 2) (hby : (n + 1) * 24 ≤ 140737488355328) (hbn : vb ≠ b)
    (hcs : cs = (arr.toList.take (n * 2)).drop (i * 2)) (hvl : vs.length = 2) (hvs : ∀ (j : Nat) (u : Value), vs[j]? = some u → w.cell? ⟨vb, vo + j, none⟩ = some u) (h1c : ∀ u ∈ cs, u.oneCell' = true) (h1v : ∀ u ∈ vs, u.oneCell' = true)
    (hov : ∀ y, (callFunc 80 #[.slice (some ⟨vb, vo, none⟩) 1 vc, .slice (some ⟨b, (i + 1) * 2, none⟩) (n - i) y]).run Try.prog w = .ok (.value (.bool false)) w) (A1 A2 : Array Value)
    (hA1 : A1 = (arr.toList.take ((i + 1) * 2) ++ (cs ++ arr.toList.drop ((i + 1) * 2 + cs.length))).toArray) (hA2 : A2 = (A1.toList.take (i * 2) ++ (vs ++ A1.toList.drop (i * 2 + vs.length))).toArray) :
    Calls Try.prog 53 #[.slice (some ⟨b, 0, none⟩) n c, .int .i64 (i : Nat), .slice (some ⟨vb, vo, none⟩) 1 vc] w fun e w' => e = .returned (.slice (some ⟨b, 0, none⟩) (n + 1) c) ∧ w' = (w.drew.setRow b A1).setRow b A2 := by
  have mixed := mixed
  have hz2 : ¬ ((i : Int) = (n : Int)) := by omega
  have hw1 : IntKind.i64.wrap ((i : Int) + (1 : Int)) = (i : Int) + (1 : Int) := by rw [IntKind.wrap_i64]; omega
  have hw2 : IntKind.i64.wrap ((n : Int) + (1 : Int)) = (n : Int) + (1 : Int) := by rw [IntKind.wrap_i64]; omega
  have hcl : cs.length = (n - i) * 2 := by rw [hcs]; simp; omega
  have hA1s : A1.size = arr.size := by rw [hA1]; simp [hcl]; omega
  have hcp1 : ∀ ty dc sc, (Builtin.copy_ #[24, 24] ty #[.slice (some ⟨b, (i + 1) * 2, none⟩) (n - i) dc, .slice (some ⟨b, i * 2, none⟩) (n + 1 - i) sc]).run Try.prog w.drew = .ok (.int .i64 ((n - i : Nat) : Int)) (w.drew.setRow b A1) := fun ty dc sc => by
    rw [hA1]
    refine run_copyR insU53 hinf w.drew (fz := fz) hmem hf _ _ _ (m := n + 1 - i) (k := n - i) (by omega) (lenOf_slice _ _ _ _) (run_firstCells_some w.drew _ _ _ _ _ _ (by rw [hsz]; exact hcl) (fun j v hj => ?_)) (by omega) h1c
    rw [hcs, List.getElem?_drop, List.getElem?_take] at hj
    split at hj
    · have : (⟨b, i * 2, none⟩ : Addr).add j = ⟨b, i * 2 + j, none⟩ := by unfold Addr.add; split <;> simp_all
      rw [this]
      have e : w.drew.cell? ⟨b, i * 2 + j, none⟩ = arr[i * 2 + j]? := by simp [World.cell?, show w.drew.heap = w.heap from rfl, hmem]
      rw [e]; simpa using hj
    · cases hj
  have hcp2 : ∀ (W : World), W.heap = (w.drew.setRow b A1).heap → ∀ ty dc, (Builtin.copy_ #[24, 24] ty #[.slice (some ⟨b, i * 2, none⟩) (n + 1 - i) dc, .slice (some ⟨vb, vo, none⟩) 1 vc]).run Try.prog W = .ok (.int .i64 ((1 : Nat) : Int)) (W.setRow b A2) := fun W hW ty dc => by
    rw [hA2]
    have hm1 : W.heap[b]? = some (.cells A1 tb fz) := by rw [hW]; exact setRow_heap w.drew b arr A1 tb fz hmem
    refine run_copyR insU53 hinf W (fz := fz) hm1 (by rw [hA1s]; exact hf) _ _ _ (m := 1) (k := 1) (by omega) (lenOf_slice _ _ _ _) (run_firstCells_some W _ _ _ _ _ _ (by rw [hsz]; exact hvl) (fun j v hj => ?_)) (by omega) h1v
    have : (⟨vb, vo, none⟩ : Addr).add j = ⟨vb, vo + j, none⟩ := by unfold Addr.add; split <;> simp_all
    rw [this]
    have e : W.cell? ⟨vb, vo + j, none⟩ = w.cell? ⟨vb, vo + j, none⟩ := cell_congr (by rw [hW]; exact setRow_other w.drew b vb A1 hbn)
    rw [e]; exact hvs j v hj
  have hb1 : (0 : Int) ≤ (i : Int) + 1 := by omega
  have hin : i ≤ n := by omega
  have hb2 : ¬ (c = i + 1) := by omega
  have hb4 : ¬ (c = i) := by omega
  have hb3 : (i : Int) ≤ (n : Int) + 1 := by omega
  clear hcs hA1 hA2
  go_enter Try.func53, Try.ntmps53
  go_wp2_with (simp only [hov])
  go_region_law_o (refine step_copy_runR rfl _ _ 24 24 rfl _ _ (by simp [Act.eval, Act.put]) (by simp [Act.eval, Act.put]) (hcp1 _ _ _) ?_)
  go_wp2_with (at_builtin; refine wpList_copy_runR _ rfl _ _ 24 24 rfl _ _ rfl rfl (hcp2 _ rfl _ _) ?_)
  go_ret
  exact ⟨rfl, rfl⟩
set_option maxHeartbeats 4000000 in
theorem insGrow53 {inf : TypeInfo} {z : Value} (hinf : Try.prog.info? 28 = some inf) (hsz : inf.size = 2) (hzz : inf.zero = some z) (hzs : z.cells.size = 2) (hbb : inf.bytes = 24) (w : World) (b i n c vb vo vc : Nat) (arr : Array Value) (tb : Nat) (fz : Nat × Nat) (cs vs : List Value) (hmem : w.heap[b]? = some (.cells arr tb fz))
    (hi : i < n) (hnc : n ≤ c) (hroom : ¬ (n + 1 ≤ c)) (hsize : arr.size = c * 2) (hby : (n + 1) * 24 ≤ 140737488355328) (va : Array Value) (tv : Nat) (fv : Nat × Nat) (hmemv : w.heap[vb]? = some (.cells va tv fv))
    (hcs : cs = (arr.toList.take (n * 2)).drop (i * 2)) (hvl : vs.length = 2) (hvs : ∀ (j : Nat) (u : Value), vs[j]? = some u → va[vo + j]? = some u) (h1c : ∀ u ∈ cs, u.oneCell' = true) (h1v : ∀ u ∈ vs, u.oneCell' = true)
    (G : Nat) (hG : G = grownCap w (n + 1) c 28) (ROW A1 A2 : Array Value)
    (hROW : ROW = (arr.toList.take (i * 2)).toArray ++ Builtin.zeroCells z.cells (n + 1 - i) ++ Builtin.zeroCells z.cells (G - (n + 1)))
    (hA1 : A1 = (ROW.toList.take (i * 2) ++ (vs ++ ROW.toList.drop (i * 2 + vs.length))).toArray) (hA2 : A2 = (A1.toList.take ((i + 1) * 2) ++ (cs ++ A1.toList.drop ((i + 1) * 2 + cs.length))).toArray) :
    Calls Try.prog 53 #[.slice (some ⟨b, 0, none⟩) n c, .int .i64 (i : Nat), .slice (some ⟨vb, vo, none⟩) 1 vc] w fun e w' => e = .returned (.slice (some ⟨w.heap.size, 0, none⟩) (n + 1) G) ∧ w' = (((w.drew.alloc (.cells ROW 28)).setRow w.heap.size A1).drew).setRow w.heap.size A2 := by
  have mixed := mixed
  have hz2 : ¬ ((i : Int) = (n : Int)) := by omega
  have hw1 : IntKind.i64.wrap ((i : Int) + (1 : Int)) = (i : Int) + (1 : Int) := by rw [IntKind.wrap_i64]; omega
  have hw2 : IntKind.i64.wrap ((n : Int) + (1 : Int)) = (n : Int) + (1 : Int) := by rw [IntKind.wrap_i64]; omega
  have hw3 : IntKind.i64.wrap ((n : Int) + (1 : Int) - (i : Int)) = (n : Int) + (1 : Int) - (i : Int) := by rw [IntKind.wrap_i64]; omega
  have hcl : cs.length = (n - i) * 2 := by rw [hcs]; simp; omega
  have hGn : n + 1 ≤ G := by rw [hG]; exact grownCap_ge w _ _ _
  have hbw : b < w.heap.size := (Array.getElem?_eq_some_iff.1 hmem).1
  have hvw : vb < w.heap.size := (Array.getElem?_eq_some_iff.1 hmemv).1
  have hzc : ∀ k, (Builtin.zeroCells z.cells k).size = k * 2 := fun k => by rw [size_zeroCells, hzs]
  have hRs : ROW.size = G * 2 := by
    rw [hROW]; simp only [Array.size_append, hzc, List.size_toArray, List.length_take, Array.length_toList]; omega
  have hA1s : A1.size = ROW.size := by rw [hA1]; simp [hvl]; omega
  have hold : (Builtin.firstCells inf.size i (.slice (some ⟨b, 0, none⟩) i c)).run Try.prog w.drew = .ok (arr.toList.take (i * 2)).toArray w.drew := by
    rw [hsz]
    refine run_firstCells_some w.drew 2 i ⟨b, 0, none⟩ i c (arr.toList.take (i * 2)) (by rw [List.length_take]; simp; omega) (fun j v hj => ?_)
    rw [List.getElem?_take] at hj
    split at hj
    · have : (⟨b, 0, none⟩ : Addr).add j = ⟨b, j, none⟩ := by unfold Addr.add; split <;> simp_all
      rw [this]
      have e : w.drew.cell? ⟨b, j, none⟩ = arr[j]? := by simp [World.cell?, show w.drew.heap = w.heap from rfl, hmem]
      rw [e]; simpa using hj
    · cases hj
  have hik : i + (n + 1 - i) = n + 1 := by omega
  have hkk : (n : Int) + 1 - (i : Int) = ((n + 1 - i : Nat) : Int) := by omega
  obtain ⟨W1, hW1⟩ : ∃ W1, W1 = w.drew.alloc (.cells ROW 28) := ⟨_, rfl⟩
  have hrz : ∀ ty, (Builtin.append_ #[24, 3] ty #[.slice (some ⟨b, 0, none⟩) i c, .int .i64 ((n : Int) + 1 - (i : Int))]).run Try.prog w = .ok (.slice (some ⟨w.heap.size, 0, none⟩) (n + 1) G) W1 := fun ty => by
    have hnx := nextslicecap_le (need := n + 1) (old := c) (by omega)
    have h := Lib.run_append_grow_zeros w 24 3 ty 28 inf z .i64 .i64 insU53 insI53 hinf hzz (some ⟨b, 0, none⟩) i c (arr.toList.take (i * 2)) hold (n + 1 - i) (by omega) (by omega) (by omega) (by omega) (by rw [hbb]; omega) (by rw [hbb, hik]; omega)
    rw [hik, ← hG, ← hROW, ← hW1] at h
    rw [hkk]
    exact h
  have hWn : W1.heap[w.heap.size]? = some (.cells ROW 28 (0, 0)) := by rw [hW1]; exact heap_alloc_new w.drew _
  have hWo : ∀ j, j < w.heap.size → W1.heap[j]? = w.heap[j]? := fun j hj => by rw [hW1]; exact heap_alloc_old w.drew _ hj
  have hcp1 : ∀ (W : World), W.heap = W1.heap → ∀ ty dc, (Builtin.copy_ #[24, 24] ty #[.slice (some ⟨w.heap.size, i * 2, none⟩) (n + 1 - i) dc, .slice (some ⟨vb, vo, none⟩) 1 vc]).run Try.prog W = .ok (.int .i64 ((1 : Nat) : Int)) (W.setRow w.heap.size A1) := fun W hW ty dc => by
    rw [hA1]
    refine run_copyR insU53 hinf W (fz := (0, 0)) (by rw [hW]; exact hWn) (fun j _ hj => by simp at hj) _ _ _ (m := 1) (k := 1) (by omega) (lenOf_slice _ _ _ _) (run_firstCells_some W _ _ _ _ _ _ (by rw [hsz]; exact hvl) (fun j v hj => ?_)) (by omega) h1v
    have : (⟨vb, vo, none⟩ : Addr).add j = ⟨vb, vo + j, none⟩ := by unfold Addr.add; split <;> simp_all
    rw [this]
    have e : W.cell? ⟨vb, vo + j, none⟩ = va[vo + j]? := by simp [World.cell?, hW, hWo vb hvw, hmemv]
    rw [e]; exact hvs j v hj
  have hcp2 : ∀ (W : World), W.heap = (W1.setRow w.heap.size A1).heap → ∀ ty dc sc, (Builtin.copy_ #[24, 24] ty #[.slice (some ⟨w.heap.size, (i + 1) * 2, none⟩) (n - i) dc, .slice (some ⟨b, i * 2, none⟩) (n - i) sc]).run Try.prog W = .ok (.int .i64 ((n - i : Nat) : Int)) (W.setRow w.heap.size A2) := fun W hW ty dc sc => by
    rw [hA2]
    have hm1 : W.heap[w.heap.size]? = some (.cells A1 28 (0, 0)) := by rw [hW]; exact setRow_heap W1 w.heap.size ROW A1 28 (0, 0) hWn
    refine run_copyR insU53 hinf W (fz := (0, 0)) hm1 (fun j _ hj => by simp at hj) _ _ _ (m := n - i) (k := n - i) (by omega) (lenOf_slice _ _ _ _) (run_firstCells_some W _ _ _ _ _ _ (by rw [hsz]; exact hcl) (fun j v hj => ?_)) (by omega) h1c
    rw [hcs, List.getElem?_drop, List.getElem?_take] at hj
    split at hj
    · have : (⟨b, i * 2, none⟩ : Addr).add j = ⟨b, i * 2 + j, none⟩ := by unfold Addr.add; split <;> simp_all
      rw [this]
      have e : W.cell? ⟨b, i * 2 + j, none⟩ = arr[i * 2 + j]? := by
        have e1 : W.heap[b]? = w.heap[b]? := by rw [hW, setRow_other W1 w.heap.size b A1 (by omega)]; exact hWo b hbw
        simp [World.cell?, e1, hmem]
      rw [e]; simpa using hj
    · cases hj
  have hb1 : (0 : Int) ≤ (i : Int) + 1 := by omega
  have hin : i ≤ n := by omega
  have hb2 : ¬ (G = i + 1) := by omega
  have hb4 : ¬ (c = i) := by omega
  have hb5 : ¬ (G = i) := by omega
  have hb3 : (i : Int) ≤ (n : Int) + 1 := by omega
  have hb6 : (c : Int) < (n : Int) + 1 := by omega
  have hb7 : i ≤ c := by omega
  rw [← hW1]
  clear hG hcs hA1 hA2 hW1 hold hROW hWn hWo hik hkk
  go_enter Try.func53, Try.ntmps53
  go_wp2_with (first
    | (at_builtin; refine Lib.wpList_append_run _ rfl _ _ _ _ rfl _ _ rfl rfl _ _ (hrz _) ?_)
    | (at_builtin; refine wpList_copy_runR _ rfl _ _ 24 24 rfl _ _ rfl rfl (hcp1 _ (by exact rfl) _ _) ?_))
  have hF : ((W1.setRow w.heap.size A1).drew).heap = (W1.setRow w.heap.size A1).heap := rfl
  go_region_law_o (refine step_copy_runR rfl _ _ 24 24 rfl (.slice (some ⟨w.heap.size, (i + 1) * 2, none⟩) (n - i) (G - (i + 1))) (.slice (some ⟨b, i * 2, none⟩) (n - i) (c - i)) (by simp [Act.eval, Act.put]) (by simp [Act.eval, Act.put]) (hcp2 _ hF 3 (G - (i + 1)) (c - i)) ?_)
  go_wp2
  go_ret
  exact ⟨rfl, rfl⟩
theorem insF53 : InsF Try.prog 53 28 2 24 := by
  intro w b i n c vb vo vc arr va tb tv fz fv vs hmem hsize hf hmemv hfv hbn hvl hvs h1v h1c hi hnc hby
  obtain ⟨inf, z, hinf, hsz, hzz, hzs, hbb⟩ := insE53
  obtain ⟨cs, hcs⟩ : ∃ cs, cs = (arr.toList.take (n * 2)).drop (i * 2) := ⟨_, rfl⟩
  have h1 : ∀ u ∈ cs, u.oneCell' = true := fun u hu => h1c u (by rw [hcs] at hu; exact List.mem_of_mem_drop hu)
  have hcl : cs.length = (n - i) * 2 := by rw [hcs]; simp; omega
  by_cases hroom : n + 1 ≤ c
  · have hvo : vo < va.size := by
      have := hvs 0 vs[0] (List.getElem?_eq_getElem (by omega))
      have := (Array.getElem?_eq_some_iff.1 this).1
      omega
    have hov : ∀ y, (callFunc 80 #[.slice (some ⟨vb, vo, none⟩) 1 vc, .slice (some ⟨b, (i + 1) * 2, none⟩) (n - i) y]).run Try.prog w = .ok (.value (.bool false)) w := fun y => by
      rw [run_callFunc_extern Try.func80 (by kernel_rfl) (by kernel_rfl) (by kernel_rfl) (e := Extern.SlicesOverlaps.overlaps #[24, 24] #[4]) (by kernel_rfl),
        Lib.run_overlaps_apart w 24 4 28 insU53 2 (fun w => by rw [run_size hinf, hsz]) ⟨vb, vo, none⟩ ⟨b, (i + 1) * 2, none⟩ 1 vc (n - i) y hbn tv tb va.size arr.size (by simp [World.shape?, hmemv]) (by simp [World.shape?, hmem]) (by omega)
          (by have := hfv vo (by omega); simp only [World.frozen?, hmemv]; simp; omega) (by have := hfv va.size (Nat.le_refl _); simp only [World.frozen?, hmemv]; simp; omega)]
      rfl
    refine (insShift53 hinf hsz w b i n c vb vo vc arr tb fz cs vs hmem (fun j hj => hf j (by omega)) hi hroom hsize hby hbn hcs hvl (fun j u hj => by simpa [World.cell?, hmemv] using hvs j u hj) h1 h1v hov _ _ rfl rfl).mono fun x w' => ?_
    rintro ⟨rfl, rfl⟩
    have hA1s : (arr.toList.take ((i + 1) * 2) ++ (cs ++ arr.toList.drop ((i + 1) * 2 + cs.length))).toArray.size = arr.size := by simp [hcl]; omega
    have hm1 := setRow_heap w.drew b arr (arr.toList.take ((i + 1) * 2) ++ (cs ++ arr.toList.drop ((i + 1) * 2 + cs.length))).toArray tb fz hmem
    generalize hA1 : (arr.toList.take ((i + 1) * 2) ++ (cs ++ arr.toList.drop ((i + 1) * 2 + cs.length))).toArray = A1 at *
    have hA2s : (A1.toList.take (i * 2) ++ (vs ++ A1.toList.drop (i * 2 + vs.length))).toArray.size = A1.size := by simp [hvl]; omega
    have hm2 := setRow_heap (w.drew.setRow b A1) b A1 (A1.toList.take (i * 2) ++ (vs ++ A1.toList.drop (i * 2 + vs.length))).toArray tb fz hm1
    refine ⟨b, c, tb, _, fz, rfl, rfl, rfl, rfl, hm2, fun j hj => hf j (by rw [hA2s, hA1s] at hj; exact hj), by rw [hA2s, hA1s]; exact hsize, hroom, ?_, .inl ⟨rfl, rfl, by rw [hA2s, hA1s], by rw [setRow_size, setRow_size]; rfl, fun j hj => ?_⟩⟩
    · subst hA1
      exact insShiftL arr.toList vs cs (i * 2) (n * 2) 2 ((i + 1) * 2) ((n + 1) * 2) (by omega) (by omega) (by omega) (by simp; omega) hvl hcs
    · rw [setRow_other _ _ _ _ hj, setRow_other _ _ _ _ hj]; rfl
  · refine (insGrow53 hinf hsz hzz hzs hbb w b i n c vb vo vc arr tb fz cs vs hmem hi hnc hroom hsize hby va tv fv hmemv hcs hvl hvs h1 h1v _ rfl _ _ _ rfl rfl rfl).mono fun x w' => ?_
    rintro ⟨rfl, rfl⟩
    have hGn : n + 1 ≤ grownCap w (n + 1) c 28 := grownCap_ge w _ _ _
    have hzc : ∀ k, (Builtin.zeroCells z.cells k).size = k * 2 := fun k => by rw [size_zeroCells, hzs]
    have hRs : ((arr.toList.take (i * 2)).toArray ++ Builtin.zeroCells z.cells (n + 1 - i) ++ Builtin.zeroCells z.cells (grownCap w (n + 1) c 28 - (n + 1))).size = grownCap w (n + 1) c 28 * 2 := by
      simp only [Array.size_append, hzc, List.size_toArray, List.length_take, Array.length_toList]; omega
    have hRt : ((arr.toList.take (i * 2)).toArray ++ Builtin.zeroCells z.cells (n + 1 - i) ++ Builtin.zeroCells z.cells (grownCap w (n + 1) c 28 - (n + 1))).toList.take (i * 2) = arr.toList.take (i * 2) := by
      simp only [Array.toList_append, List.append_assoc]
      exact List.take_left' (by simp; omega)
    generalize hG : grownCap w (n + 1) c 28 = G at *
    generalize hR : (arr.toList.take (i * 2)).toArray ++ Builtin.zeroCells z.cells (n + 1 - i) ++ Builtin.zeroCells z.cells (G - (n + 1)) = ROW at *
    have hm0 : (w.drew.alloc (.cells ROW 28)).heap[w.heap.size]? = some (.cells ROW 28 (0, 0)) := heap_alloc_new w.drew _
    have hA1s : (ROW.toList.take (i * 2) ++ (vs ++ ROW.toList.drop (i * 2 + vs.length))).toArray.size = ROW.size := by simp [hvl]; omega
    have hm1 := setRow_heap (w.drew.alloc (.cells ROW 28)) w.heap.size ROW (ROW.toList.take (i * 2) ++ (vs ++ ROW.toList.drop (i * 2 + vs.length))).toArray 28 (0, 0) hm0
    generalize hA1 : (ROW.toList.take (i * 2) ++ (vs ++ ROW.toList.drop (i * 2 + vs.length))).toArray = A1 at *
    have hA2s : (A1.toList.take ((i + 1) * 2) ++ (cs ++ A1.toList.drop ((i + 1) * 2 + cs.length))).toArray.size = A1.size := by simp [hcl]; omega
    have hm2 := setRow_heap ((w.drew.alloc (.cells ROW 28)).setRow w.heap.size A1).drew w.heap.size A1 (A1.toList.take ((i + 1) * 2) ++ (cs ++ A1.toList.drop ((i + 1) * 2 + cs.length))).toArray 28 (0, 0) hm1
    refine ⟨w.heap.size, G, 28, _, (0, 0), rfl, rfl, rfl, rfl, hm2, fun j _ hj => by simp at hj, by rw [hA2s, hA1s]; exact hRs, hGn, ?_, .inr ⟨rfl, rfl, ?_, fun j hj => ?_⟩⟩
    · subst hA1
      exact insGrowL arr.toList ROW.toList vs cs (i * 2) (n * 2) 2 ((i + 1) * 2) ((n + 1) * 2) (by omega) (by omega) (by omega) (by simp; omega) hvl hcs hRt
    · rw [setRow_size]
      show ((w.drew.alloc (.cells ROW 28)).setRow w.heap.size A1).heap.size = _
      rw [setRow_size]
      simp
    · rw [setRow_other _ _ _ _ (by omega)]
      show ((w.drew.alloc (.cells ROW 28)).setRow w.heap.size A1).heap[j]? = _
      rw [setRow_other _ _ _ _ (by omega)]
      exact heap_alloc_old w.drew _ hj


def insT : InsT := [(53, (28, 2, 24))]
theorem insT_ok : InsOk Try.prog insT := by
  intro f e sz bytes h
  by_cases h53 : f = 53
  · subst h53
    simp [insT, List.lookup] at h
    obtain ⟨rfl, rfl, rfl⟩ := h
    exact ⟨insF53, _, Try.func53, by kernel_rfl, by kernel_rfl⟩
  have e53 : (f == 53) = false := by simpa using h53
  simp [insT, List.lookup, e53] at h


theorem delU85 : Try.prog.underlying 24 = some (.slice 28) := by kernel_rfl
theorem delE85 : ∃ (inf : TypeInfo) (z : Value), Try.prog.info? 28 = some inf ∧ inf.size = 2 ∧ inf.zero = some z ∧ z.cells.size = 2 ∧ (∀ u ∈ z.cells.toList, u.oneCell' = true) := delE_of (by kernel_rfl)
set_option maxHeartbeats 4000000 in
theorem delW85 {inf : TypeInfo} {z : Value} (hinf : Try.prog.info? 28 = some inf) (hsz : inf.size = 2) (hzz : inf.zero = some z) (hzs : z.cells.size = 2) (hz1 : ∀ u ∈ z.cells.toList, u.oneCell' = true) (w : World) (b i k c : Nat) (arr : Array Value) (tb : Nat) (fz : Nat × Nat) (cs : List Value) (hmem : w.heap[b]? = some (.cells arr tb fz)) (hf : ∀ j, j < arr.size → ¬ (fz.1 ≤ j ∧ j < fz.2))
    (hi : i < k + 1) (hnc : k + 1 ≤ c) (hn : k + 1 ≤ 140737488355328) (hsize : arr.size = c * 2) (hcs : cs = (arr.toList.take ((k + 1) * 2)).drop ((i + 1) * 2)) (h1c : ∀ u ∈ cs, u.oneCell' = true) (A1 A2 : Array Value)
    (hA1 : A1 = (arr.toList.take (i * 2) ++ (cs ++ arr.toList.drop (i * 2 + cs.length))).toArray) (hA2 : A2 = (A1.toList.take (k * 2) ++ (z.cells.toList ++ A1.toList.drop (k * 2 + z.cells.toList.length))).toArray) :
    Calls Try.prog 85 #[.slice (some ⟨b, 0, none⟩) (k + 1) c, .int .i64 (i : Nat), .int .i64 ((i : Int) + 1)] w fun e w' => e = .returned (.slice (some ⟨b, 0, none⟩) k c) ∧ w' = (w.drew.setRow b A1).setRow b A2 := by
  have mixed := mixed
  have hz2 : ¬ ((i : Int) = (i : Int) + 1) := by omega
  have hcl : cs.length = (k - i) * 2 := by rw [hcs]; simp; omega
  have hA1s : A1.size = arr.size := by rw [hA1]; simp [hcl]; omega
  obtain ⟨Ad, hA, hsrc⟩ : ∃ Ad : Addr, (if c = i + 1 then (some ⟨b, 0, none⟩ : Option Addr) else some ⟨b, (i + 1) * 2, none⟩) = some Ad ∧ (∀ (t : Nat) (u : Value), cs[t]? = some u → w.drew.cell? (Ad.add t) = some u) := by
    by_cases h : c = i + 1
    · refine ⟨⟨b, 0, none⟩, by simp [h], fun t u hu => ?_⟩
      have h0 : cs = [] := List.eq_nil_of_length_eq_zero (by rw [hcl, show k - i = 0 by omega, Nat.zero_mul])
      rw [h0] at hu; simp at hu
    · refine ⟨⟨b, (i + 1) * 2, none⟩, by simp [h], fun t u hu => ?_⟩
      rw [hcs, List.getElem?_drop, List.getElem?_take] at hu
      split at hu
      · rw [Addr.add_lit]
        have e : w.drew.cell? ⟨b, (i + 1) * 2 + t, none⟩ = arr[(i + 1) * 2 + t]? := by simp [World.cell?, show w.drew.heap = w.heap from rfl, hmem]
        rw [e]; simpa using hu
      · cases hu
  obtain ⟨W1, hW1⟩ : ∃ W1, W1 = w.drew.setRow b A1 := ⟨_, rfl⟩
  have hm1 : W1.heap[b]? = some (.cells A1 tb fz) := by rw [hW1]; exact setRow_heap w.drew b arr A1 tb fz hmem
  have hap : ∀ ty m' c', m' = k - i → (Builtin.append_ #[24, 24] ty #[.slice (some ⟨b, 0, none⟩) i c, .slice (some Ad) m' c']).run Try.prog w.drew = .ok (.slice (some ⟨b, 0, none⟩) k c) W1 := fun ty m' c' hm => by
    subst hm
    have h := run_appendR (P := Try.prog) delU85 hinf w.drew hmem hf i c ty Ad (k - i) c' cs (by rw [hsz]; exact hcl) hsrc h1c (by omega) (by rw [hsize, hsz])
    rw [hsz] at h
    rw [h, hW1, hA1, show i + (k - i) = k by omega]
  have hclr : ∀ ty m' c', m' = 1 → (Builtin.clear_ #[24] ty #[.slice (some ⟨b, k * 2, none⟩) m' c']).run Try.prog W1 = .ok (.tuple #[]) (W1.setRow b A2) := fun ty m' c' hm => by
    subst hm
    rw [hA2]
    exact run_clearR (P := Try.prog) delU85 hinf hzz W1 hm1 (by rw [hA1s]; exact hf) (k * 2) c' ty hz1 (by simp [hzs]; rw [hA1s, hsize]; omega)
  have hic : i ≤ c := by omega
  have hjc : i + 1 ≤ c := by omega
  have hb3 : ¬ (c = k) := by omega
  have hb1 : (0 : Int) ≤ (i : Int) + 1 := by omega
  have hb4 : ((k + 1 : Nat) : Int) = (k : Int) + 1 := by omega
  have hb5 : (0 : Int) ≤ (k : Int) := by omega
  have hb6 : (k : Int) ≤ (k : Int) + 1 := by omega
  have hb7 : (k : Int) + 1 ≤ (c : Int) := by omega
  have hb8 : (i : Int) + 1 ≤ (k : Int) + 1 := by omega
  have hb2 : (i : Int) + 1 ≤ ((k + 1 : Nat) : Int) := by omega
  rw [← hW1]
  clear hcs hA1 hA2 hW1 hm1 hsrc hcl
  go_enter Try.func85, Try.ntmps85
  go_wp2_with fail
  go_region_law_o (refine step_append_runR rfl _ _ 24 24 rfl (.slice (some ⟨b, 0, none⟩) i c) (.slice (some Ad) (k - i) (c - (i + 1))) (by simp [Act.eval, Act.put]) (by simp [Act.eval, Act.put]) (hap _ _ _ rfl) ?_)
  go_wp2
  go_ret
  exact ⟨rfl, rfl⟩
theorem delF85 : DelF Try.prog 85 2 := by
  intro w b i n c arr tb fz hmem hsize hf h1c hi hnc hn
  obtain ⟨inf, z, hinf, hsz, hzz, hzs, hz1⟩ := delE85
  obtain ⟨k, rfl⟩ : ∃ k, n = k + 1 := ⟨n - 1, by omega⟩
  simp only [Nat.add_sub_cancel]
  obtain ⟨cs, hcs⟩ : ∃ cs, cs = (arr.toList.take ((k + 1) * 2)).drop ((i + 1) * 2) := ⟨_, rfl⟩
  have hsl : arr.toList.length = arr.size := Array.length_toList
  have hcl : cs.length = (k - i) * 2 := by rw [hcs, List.length_drop, List.length_take, hsl, hsize]; omega
  have hzl : z.cells.toList.length = 2 := by rw [Array.length_toList, hzs]
  refine (delW85 hinf hsz hzz hzs hz1 w b i k c arr tb fz cs hmem hf hi hnc hn hsize hcs (fun u hu => h1c u (by rw [hcs] at hu; exact List.mem_of_mem_drop hu)) _ _ rfl rfl).mono fun x w' => ?_
  rintro ⟨rfl, rfl⟩
  have hA1s : (arr.toList.take (i * 2) ++ (cs ++ arr.toList.drop (i * 2 + cs.length))).toArray.size = arr.size := by simp [hcl]; omega
  have hm1 := setRow_heap w.drew b arr (arr.toList.take (i * 2) ++ (cs ++ arr.toList.drop (i * 2 + cs.length))).toArray tb fz hmem
  have hA1t : (arr.toList.take (i * 2) ++ (cs ++ arr.toList.drop (i * 2 + cs.length))).toArray.toList.take (k * 2) = arr.toList.take (i * 2) ++ cs := by
    rw [List.toList_toArray, ← List.append_assoc]
    exact List.take_left' (by rw [List.length_append, List.length_take, hcl, hsl, hsize]; omega)
  generalize hA1 : (arr.toList.take (i * 2) ++ (cs ++ arr.toList.drop (i * 2 + cs.length))).toArray = A1 at *
  have hA1l : A1.toList.length = A1.size := Array.length_toList
  have hA2s : (A1.toList.take (k * 2) ++ (z.cells.toList ++ A1.toList.drop (k * 2 + z.cells.toList.length))).toArray.size = A1.size := by simp only [List.size_toArray, List.length_append, List.length_take, List.length_drop, hzl, hA1l, hA1s, hsize]; omega
  have hm2 := setRow_heap (w.drew.setRow b A1) b A1 (A1.toList.take (k * 2) ++ (z.cells.toList ++ A1.toList.drop (k * 2 + z.cells.toList.length))).toArray tb fz hm1
  refine ⟨rfl, rfl, rfl, rfl, _, hm2, by rw [hA2s, hA1s], ?_, by simp [World.setRow], fun j hj => ?_⟩
  · rw [List.toList_toArray, List.take_left' (by rw [List.length_take, hA1l, hA1s, hsize]; omega), hA1t, hcs]
  · rw [setRow_other _ _ _ _ hj, setRow_other _ _ _ _ hj]; rfl

set_option linter.unusedSimpArgs false
set_option linter.unusedVariables false

theorem iqU53 : Try.prog.underlying 24 = some (.slice 28) := by kernel_rfl
theorem iqI53 : Try.prog.underlying 3 = some (.int .i64) := by kernel_rfl
theorem iqE53 : ∃ (inf : TypeInfo) (z : Value), Try.prog.info? 28 = some inf ∧ inf.size = 2 ∧ inf.zero = some z ∧ z.cells.size = 2 ∧ inf.bytes = 24 := insE_of (by kernel_rfl)
set_option maxHeartbeats 4000000 in
theorem iqShift53 {inf : TypeInfo} (hinf : Try.prog.info? 28 = some inf) (hsz : inf.size = 2) (w : World) (b i n c vb vo vc : Nat) (arr : Array Value) (tb : Nat) (fz : Nat × Nat) (cs vs : List Value) (hmem : w.heap[b]? = some (.cells arr tb fz)) (hf : ∀ j, j < arr.size → ¬ (fz.1 ≤ j ∧ j < fz.2))
    (hi : i < n) (hroom : n + 1 ≤ c) (hsize : arr.size = c * 2) (hby : (n + 1) * 24 ≤ 140737488355328) (hbn : vb ≠ b)
    (hcs : cs = (arr.toList.take (n * 2)).drop (i * 2)) (hvl : vs.length = 2) (hvs : ∀ (j : Nat) (u : Value), vs[j]? = some u → w.cell? ⟨vb, vo + j, none⟩ = some u) (h1c : ∀ u ∈ cs, u.oneCell' = true) (h1v : ∀ u ∈ vs, u.oneCell' = true)
    (hov : ∀ y, (callFunc 80 #[.slice (some ⟨vb, vo, none⟩) 1 vc, .slice (some ⟨b, (i + 1) * 2, none⟩) (n - i) y]).run Try.prog w = .ok (.value (.bool false)) w) (A1 A2 : Array Value)
    (hA1 : A1 = (arr.toList.take ((i + 1) * 2) ++ (cs ++ arr.toList.drop ((i + 1) * 2 + cs.length))).toArray) (hA2 : A2 = (A1.toList.take (i * 2) ++ (vs ++ A1.toList.drop (i * 2 + vs.length))).toArray) :
    Calls Try.prog 53 #[.slice (some ⟨b, 0, none⟩) n c, .int .i64 (i : Nat), .slice (some ⟨vb, vo, none⟩) 1 vc] w fun e w' => e = .returned (.slice (some ⟨b, 0, none⟩) (n + 1) c) ∧ w' = (w.drew.setRow b A1).setRow b A2 := by
  have mixed := mixed
  have hz2 : ¬ ((i : Int) = (n : Int)) := by omega
  have hw1 : IntKind.i64.wrap ((i : Int) + (1 : Int)) = (i : Int) + (1 : Int) := by rw [IntKind.wrap_i64]; omega
  have hw2 : IntKind.i64.wrap ((n : Int) + (1 : Int)) = (n : Int) + (1 : Int) := by rw [IntKind.wrap_i64]; omega
  have hcl : cs.length = (n - i) * 2 := by rw [hcs]; simp; omega
  have hA1s : A1.size = arr.size := by rw [hA1]; simp [hcl]; omega
  have hcp1 : ∀ ty dc sc, (Builtin.copy_ #[24, 24] ty #[.slice (some ⟨b, (i + 1) * 2, none⟩) (n - i) dc, .slice (some ⟨b, i * 2, none⟩) (n + 1 - i) sc]).run Try.prog w.drew = .ok (.int .i64 ((n - i : Nat) : Int)) (w.drew.setRow b A1) := fun ty dc sc => by
    rw [hA1]
    refine run_copyR iqU53 hinf w.drew (fz := fz) hmem hf _ _ _ (m := n + 1 - i) (k := n - i) (by omega) (lenOf_slice _ _ _ _) (run_firstCells_some w.drew _ _ _ _ _ _ (by rw [hsz]; exact hcl) (fun j v hj => ?_)) (by omega) h1c
    rw [hcs, List.getElem?_drop, List.getElem?_take] at hj
    split at hj
    · have : (⟨b, i * 2, none⟩ : Addr).add j = ⟨b, i * 2 + j, none⟩ := by unfold Addr.add; split <;> simp_all
      rw [this]
      have e : w.drew.cell? ⟨b, i * 2 + j, none⟩ = arr[i * 2 + j]? := by simp [World.cell?, show w.drew.heap = w.heap from rfl, hmem]
      rw [e]; simpa using hj
    · cases hj
  have hcp2 : ∀ (W : World), W.heap = (w.drew.setRow b A1).heap → ∀ ty dc, (Builtin.copy_ #[24, 24] ty #[.slice (some ⟨b, i * 2, none⟩) (n + 1 - i) dc, .slice (some ⟨vb, vo, none⟩) 1 vc]).run Try.prog W = .ok (.int .i64 ((1 : Nat) : Int)) (W.setRow b A2) := fun W hW ty dc => by
    rw [hA2]
    have hm1 : W.heap[b]? = some (.cells A1 tb fz) := by rw [hW]; exact setRow_heap w.drew b arr A1 tb fz hmem
    refine run_copyR iqU53 hinf W (fz := fz) hm1 (by rw [hA1s]; exact hf) _ _ _ (m := 1) (k := 1) (by omega) (lenOf_slice _ _ _ _) (run_firstCells_some W _ _ _ _ _ _ (by rw [hsz]; exact hvl) (fun j v hj => ?_)) (by omega) h1v
    have : (⟨vb, vo, none⟩ : Addr).add j = ⟨vb, vo + j, none⟩ := by unfold Addr.add; split <;> simp_all
    rw [this]
    have e : W.cell? ⟨vb, vo + j, none⟩ = w.cell? ⟨vb, vo + j, none⟩ := cell_congr (by rw [hW]; exact setRow_other w.drew b vb A1 hbn)
    rw [e]; exact hvs j v hj
  have hb1 : (0 : Int) ≤ (i : Int) + 1 := by omega
  have hin : i ≤ n := by omega
  have hb2 : ¬ (c = i + 1) := by omega
  have hb4 : ¬ (c = i) := by omega
  have hb3 : (i : Int) ≤ (n : Int) + 1 := by omega
  clear hcs hA1 hA2
  go_enter Try.func53, Try.ntmps53
  go_wp2_with (simp only [hov])
  go_region_law_o (refine step_copy_runR rfl _ _ 24 24 rfl _ _ (by simp [Act.eval, Act.put]) (by simp [Act.eval, Act.put]) (hcp1 _ _ _) ?_)
  go_wp2_with (at_builtin; refine wpList_copy_runR _ rfl _ _ 24 24 rfl _ _ rfl rfl (hcp2 _ rfl _ _) ?_)
  go_ret
  exact ⟨rfl, rfl⟩
set_option maxHeartbeats 4000000 in
theorem iqGrow53 {inf : TypeInfo} {z : Value} (hinf : Try.prog.info? 28 = some inf) (hsz : inf.size = 2) (hzz : inf.zero = some z) (hzs : z.cells.size = 2) (hbb : inf.bytes = 24) (w : World) (b i n c vb vo vc : Nat) (arr : Array Value) (tb : Nat) (fz : Nat × Nat) (cs vs : List Value) (hmem : w.heap[b]? = some (.cells arr tb fz))
    (hi : i < n) (hnc : n ≤ c) (hroom : ¬ (n + 1 ≤ c)) (hsize : arr.size = c * 2) (hby : (n + 1) * 24 ≤ 140737488355328) (va : Array Value) (tv : Nat) (fv : Nat × Nat) (hmemv : w.heap[vb]? = some (.cells va tv fv))
    (hcs : cs = (arr.toList.take (n * 2)).drop (i * 2)) (hvl : vs.length = 2) (hvs : ∀ (j : Nat) (u : Value), vs[j]? = some u → va[vo + j]? = some u) (h1c : ∀ u ∈ cs, u.oneCell' = true) (h1v : ∀ u ∈ vs, u.oneCell' = true)
    (G : Nat) (hG : G = grownCap w (n + 1) c 28) (ROW A1 A2 : Array Value)
    (hROW : ROW = (arr.toList.take (i * 2)).toArray ++ Builtin.zeroCells z.cells (n + 1 - i) ++ Builtin.zeroCells z.cells (G - (n + 1)))
    (hA1 : A1 = (ROW.toList.take (i * 2) ++ (vs ++ ROW.toList.drop (i * 2 + vs.length))).toArray) (hA2 : A2 = (A1.toList.take ((i + 1) * 2) ++ (cs ++ A1.toList.drop ((i + 1) * 2 + cs.length))).toArray) :
    Calls Try.prog 53 #[.slice (some ⟨b, 0, none⟩) n c, .int .i64 (i : Nat), .slice (some ⟨vb, vo, none⟩) 1 vc] w fun e w' => e = .returned (.slice (some ⟨w.heap.size, 0, none⟩) (n + 1) G) ∧ w' = (((w.drew.alloc (.cells ROW 28)).setRow w.heap.size A1).drew).setRow w.heap.size A2 := by
  have mixed := mixed
  have hz2 : ¬ ((i : Int) = (n : Int)) := by omega
  have hw1 : IntKind.i64.wrap ((i : Int) + (1 : Int)) = (i : Int) + (1 : Int) := by rw [IntKind.wrap_i64]; omega
  have hw2 : IntKind.i64.wrap ((n : Int) + (1 : Int)) = (n : Int) + (1 : Int) := by rw [IntKind.wrap_i64]; omega
  have hw3 : IntKind.i64.wrap ((n : Int) + (1 : Int) - (i : Int)) = (n : Int) + (1 : Int) - (i : Int) := by rw [IntKind.wrap_i64]; omega
  have hcl : cs.length = (n - i) * 2 := by rw [hcs]; simp; omega
  have hGn : n + 1 ≤ G := by rw [hG]; exact grownCap_ge w _ _ _
  have hbw : b < w.heap.size := (Array.getElem?_eq_some_iff.1 hmem).1
  have hvw : vb < w.heap.size := (Array.getElem?_eq_some_iff.1 hmemv).1
  have hzc : ∀ k, (Builtin.zeroCells z.cells k).size = k * 2 := fun k => by rw [size_zeroCells, hzs]
  have hRs : ROW.size = G * 2 := by
    rw [hROW]; simp only [Array.size_append, hzc, List.size_toArray, List.length_take, Array.length_toList]; omega
  have hA1s : A1.size = ROW.size := by rw [hA1]; simp [hvl]; omega
  have hold : (Builtin.firstCells inf.size i (.slice (some ⟨b, 0, none⟩) i c)).run Try.prog w.drew = .ok (arr.toList.take (i * 2)).toArray w.drew := by
    rw [hsz]
    refine run_firstCells_some w.drew 2 i ⟨b, 0, none⟩ i c (arr.toList.take (i * 2)) (by rw [List.length_take]; simp; omega) (fun j v hj => ?_)
    rw [List.getElem?_take] at hj
    split at hj
    · have : (⟨b, 0, none⟩ : Addr).add j = ⟨b, j, none⟩ := by unfold Addr.add; split <;> simp_all
      rw [this]
      have e : w.drew.cell? ⟨b, j, none⟩ = arr[j]? := by simp [World.cell?, show w.drew.heap = w.heap from rfl, hmem]
      rw [e]; simpa using hj
    · cases hj
  have hik : i + (n + 1 - i) = n + 1 := by omega
  have hkk : (n : Int) + 1 - (i : Int) = ((n + 1 - i : Nat) : Int) := by omega
  obtain ⟨W1, hW1⟩ : ∃ W1, W1 = w.drew.alloc (.cells ROW 28) := ⟨_, rfl⟩
  have hrz : ∀ ty, (Builtin.append_ #[24, 3] ty #[.slice (some ⟨b, 0, none⟩) i c, .int .i64 ((n : Int) + 1 - (i : Int))]).run Try.prog w = .ok (.slice (some ⟨w.heap.size, 0, none⟩) (n + 1) G) W1 := fun ty => by
    have hnx := nextslicecap_le (need := n + 1) (old := c) (by omega)
    have h := Lib.run_append_grow_zeros w 24 3 ty 28 inf z .i64 .i64 iqU53 iqI53 hinf hzz (some ⟨b, 0, none⟩) i c (arr.toList.take (i * 2)) hold (n + 1 - i) (by omega) (by omega) (by omega) (by omega) (by rw [hbb]; omega) (by rw [hbb, hik]; omega)
    rw [hik, ← hG, ← hROW, ← hW1] at h
    rw [hkk]
    exact h
  have hWn : W1.heap[w.heap.size]? = some (.cells ROW 28 (0, 0)) := by rw [hW1]; exact heap_alloc_new w.drew _
  have hWo : ∀ j, j < w.heap.size → W1.heap[j]? = w.heap[j]? := fun j hj => by rw [hW1]; exact heap_alloc_old w.drew _ hj
  have hcp1 : ∀ (W : World), W.heap = W1.heap → ∀ ty dc, (Builtin.copy_ #[24, 24] ty #[.slice (some ⟨w.heap.size, i * 2, none⟩) (n + 1 - i) dc, .slice (some ⟨vb, vo, none⟩) 1 vc]).run Try.prog W = .ok (.int .i64 ((1 : Nat) : Int)) (W.setRow w.heap.size A1) := fun W hW ty dc => by
    rw [hA1]
    refine run_copyR iqU53 hinf W (fz := (0, 0)) (by rw [hW]; exact hWn) (fun j _ hj => by simp at hj) _ _ _ (m := 1) (k := 1) (by omega) (lenOf_slice _ _ _ _) (run_firstCells_some W _ _ _ _ _ _ (by rw [hsz]; exact hvl) (fun j v hj => ?_)) (by omega) h1v
    have : (⟨vb, vo, none⟩ : Addr).add j = ⟨vb, vo + j, none⟩ := by unfold Addr.add; split <;> simp_all
    rw [this]
    have e : W.cell? ⟨vb, vo + j, none⟩ = va[vo + j]? := by simp [World.cell?, hW, hWo vb hvw, hmemv]
    rw [e]; exact hvs j v hj
  have hcp2 : ∀ (W : World), W.heap = (W1.setRow w.heap.size A1).heap → ∀ ty dc sc, (Builtin.copy_ #[24, 24] ty #[.slice (some ⟨w.heap.size, (i + 1) * 2, none⟩) (n - i) dc, .slice (some ⟨b, i * 2, none⟩) (n - i) sc]).run Try.prog W = .ok (.int .i64 ((n - i : Nat) : Int)) (W.setRow w.heap.size A2) := fun W hW ty dc sc => by
    rw [hA2]
    have hm1 : W.heap[w.heap.size]? = some (.cells A1 28 (0, 0)) := by rw [hW]; exact setRow_heap W1 w.heap.size ROW A1 28 (0, 0) hWn
    refine run_copyR iqU53 hinf W (fz := (0, 0)) hm1 (fun j _ hj => by simp at hj) _ _ _ (m := n - i) (k := n - i) (by omega) (lenOf_slice _ _ _ _) (run_firstCells_some W _ _ _ _ _ _ (by rw [hsz]; exact hcl) (fun j v hj => ?_)) (by omega) h1c
    rw [hcs, List.getElem?_drop, List.getElem?_take] at hj
    split at hj
    · have : (⟨b, i * 2, none⟩ : Addr).add j = ⟨b, i * 2 + j, none⟩ := by unfold Addr.add; split <;> simp_all
      rw [this]
      have e : W.cell? ⟨b, i * 2 + j, none⟩ = arr[i * 2 + j]? := by
        have e1 : W.heap[b]? = w.heap[b]? := by rw [hW, setRow_other W1 w.heap.size b A1 (by omega)]; exact hWo b hbw
        simp [World.cell?, e1, hmem]
      rw [e]; simpa using hj
    · cases hj
  have hb1 : (0 : Int) ≤ (i : Int) + 1 := by omega
  have hin : i ≤ n := by omega
  have hb2 : ¬ (G = i + 1) := by omega
  have hb4 : ¬ (c = i) := by omega
  have hb5 : ¬ (G = i) := by omega
  have hb3 : (i : Int) ≤ (n : Int) + 1 := by omega
  have hb6 : (c : Int) < (n : Int) + 1 := by omega
  have hb7 : i ≤ c := by omega
  rw [← hW1]
  clear hG hcs hA1 hA2 hW1 hold hROW hWn hWo hik hkk
  go_enter Try.func53, Try.ntmps53
  go_wp2_with (first
    | (at_builtin; refine Lib.wpList_append_run _ rfl _ _ _ _ rfl _ _ rfl rfl _ _ (hrz _) ?_)
    | (at_builtin; refine wpList_copy_runR _ rfl _ _ 24 24 rfl _ _ rfl rfl (hcp1 _ (by exact rfl) _ _) ?_))
  have hF : ((W1.setRow w.heap.size A1).drew).heap = (W1.setRow w.heap.size A1).heap := rfl
  go_region_law_o (refine step_copy_runR rfl _ _ 24 24 rfl (.slice (some ⟨w.heap.size, (i + 1) * 2, none⟩) (n - i) (G - (i + 1))) (.slice (some ⟨b, i * 2, none⟩) (n - i) (c - i)) (by simp [Act.eval, Act.put]) (by simp [Act.eval, Act.put]) (hcp2 _ hF 3 (G - (i + 1)) (c - i)) ?_)
  go_wp2
  go_ret
  exact ⟨rfl, rfl⟩
theorem insP53 : InsP Try.prog 53 28 2 24 := by
  intro w b i n c vb vo vc arr va tb tv fz fv vs hmem hsize hf hmemv hbn hvl hvs h1v h1c hi hnc hby
  obtain ⟨inf, z, hinf, hsz, hzz, hzs, hbb⟩ := iqE53
  obtain ⟨cs, hcs⟩ : ∃ cs, cs = (arr.toList.take (n * 2)).drop (i * 2) := ⟨_, rfl⟩
  have h1 : ∀ u ∈ cs, u.oneCell' = true := fun u hu => h1c u (by rw [hcs] at hu; exact List.mem_of_mem_drop hu)
  have hcl : cs.length = (n - i) * 2 := by rw [hcs]; simp; omega
  by_cases hroom : n + 1 ≤ c
  · have hvo : vo < va.size := by
      have := hvs 0 vs[0] (List.getElem?_eq_getElem (by omega))
      have := (Array.getElem?_eq_some_iff.1 this).1
      omega
    have hov : ∀ y, (callFunc 80 #[.slice (some ⟨vb, vo, none⟩) 1 vc, .slice (some ⟨b, (i + 1) * 2, none⟩) (n - i) y]).run Try.prog w = .ok (.value (.bool false)) w := fun y => by
      rw [run_callFunc_extern Try.func80 (by kernel_rfl) (by kernel_rfl) (by kernel_rfl) (e := Extern.SlicesOverlaps.overlaps #[24, 24] #[4]) (by kernel_rfl),
        overlaps_apart2 w 24 4 28 iqU53 2 (fun w => by rw [run_size hinf, hsz]) ⟨vb, vo, none⟩ ⟨b, (i + 1) * 2, none⟩ 1 vc (n - i) y hbn tv tb va.size arr.size (by simp [World.shape?, hmemv]) (by simp [World.shape?, hmem]) (by omega)
          (by have := hf ((i + 1) * 2) (by omega); simp only [World.frozen?, hmem]; simp; omega) (by have := hf arr.size (Nat.le_refl _); simp only [World.frozen?, hmem]; simp; omega)]
      rfl
    refine (iqShift53 hinf hsz w b i n c vb vo vc arr tb fz cs vs hmem (fun j hj => hf j (by omega)) hi hroom hsize hby hbn hcs hvl (fun j u hj => by simpa [World.cell?, hmemv] using hvs j u hj) h1 h1v hov _ _ rfl rfl).mono fun x w' => ?_
    rintro ⟨rfl, rfl⟩
    have hA1s : (arr.toList.take ((i + 1) * 2) ++ (cs ++ arr.toList.drop ((i + 1) * 2 + cs.length))).toArray.size = arr.size := by simp [hcl]; omega
    have hm1 := setRow_heap w.drew b arr (arr.toList.take ((i + 1) * 2) ++ (cs ++ arr.toList.drop ((i + 1) * 2 + cs.length))).toArray tb fz hmem
    generalize hA1 : (arr.toList.take ((i + 1) * 2) ++ (cs ++ arr.toList.drop ((i + 1) * 2 + cs.length))).toArray = A1 at *
    have hA2s : (A1.toList.take (i * 2) ++ (vs ++ A1.toList.drop (i * 2 + vs.length))).toArray.size = A1.size := by simp [hvl]; omega
    have hm2 := setRow_heap (w.drew.setRow b A1) b A1 (A1.toList.take (i * 2) ++ (vs ++ A1.toList.drop (i * 2 + vs.length))).toArray tb fz hm1
    refine ⟨b, c, tb, _, fz, rfl, rfl, rfl, rfl, hm2, fun j hj => hf j (by rw [hA2s, hA1s] at hj; exact hj), by rw [hA2s, hA1s]; exact hsize, hroom, ?_, .inl ⟨rfl, rfl, by rw [hA2s, hA1s], by rw [setRow_size, setRow_size]; rfl, fun j hj => ?_⟩⟩
    · subst hA1
      exact insShiftL arr.toList vs cs (i * 2) (n * 2) 2 ((i + 1) * 2) ((n + 1) * 2) (by omega) (by omega) (by omega) (by simp; omega) hvl hcs
    · rw [setRow_other _ _ _ _ hj, setRow_other _ _ _ _ hj]; rfl
  · refine (iqGrow53 hinf hsz hzz hzs hbb w b i n c vb vo vc arr tb fz cs vs hmem hi hnc hroom hsize hby va tv fv hmemv hcs hvl hvs h1 h1v _ rfl _ _ _ rfl rfl rfl).mono fun x w' => ?_
    rintro ⟨rfl, rfl⟩
    have hGn : n + 1 ≤ grownCap w (n + 1) c 28 := grownCap_ge w _ _ _
    have hzc : ∀ k, (Builtin.zeroCells z.cells k).size = k * 2 := fun k => by rw [size_zeroCells, hzs]
    have hRs : ((arr.toList.take (i * 2)).toArray ++ Builtin.zeroCells z.cells (n + 1 - i) ++ Builtin.zeroCells z.cells (grownCap w (n + 1) c 28 - (n + 1))).size = grownCap w (n + 1) c 28 * 2 := by
      simp only [Array.size_append, hzc, List.size_toArray, List.length_take, Array.length_toList]; omega
    have hRt : ((arr.toList.take (i * 2)).toArray ++ Builtin.zeroCells z.cells (n + 1 - i) ++ Builtin.zeroCells z.cells (grownCap w (n + 1) c 28 - (n + 1))).toList.take (i * 2) = arr.toList.take (i * 2) := by
      simp only [Array.toList_append, List.append_assoc]
      exact List.take_left' (by simp; omega)
    generalize hG : grownCap w (n + 1) c 28 = G at *
    generalize hR : (arr.toList.take (i * 2)).toArray ++ Builtin.zeroCells z.cells (n + 1 - i) ++ Builtin.zeroCells z.cells (G - (n + 1)) = ROW at *
    have hm0 : (w.drew.alloc (.cells ROW 28)).heap[w.heap.size]? = some (.cells ROW 28 (0, 0)) := heap_alloc_new w.drew _
    have hA1s : (ROW.toList.take (i * 2) ++ (vs ++ ROW.toList.drop (i * 2 + vs.length))).toArray.size = ROW.size := by simp [hvl]; omega
    have hm1 := setRow_heap (w.drew.alloc (.cells ROW 28)) w.heap.size ROW (ROW.toList.take (i * 2) ++ (vs ++ ROW.toList.drop (i * 2 + vs.length))).toArray 28 (0, 0) hm0
    generalize hA1 : (ROW.toList.take (i * 2) ++ (vs ++ ROW.toList.drop (i * 2 + vs.length))).toArray = A1 at *
    have hA2s : (A1.toList.take ((i + 1) * 2) ++ (cs ++ A1.toList.drop ((i + 1) * 2 + cs.length))).toArray.size = A1.size := by simp [hcl]; omega
    have hm2 := setRow_heap ((w.drew.alloc (.cells ROW 28)).setRow w.heap.size A1).drew w.heap.size A1 (A1.toList.take ((i + 1) * 2) ++ (cs ++ A1.toList.drop ((i + 1) * 2 + cs.length))).toArray 28 (0, 0) hm1
    refine ⟨w.heap.size, G, 28, _, (0, 0), rfl, rfl, rfl, rfl, hm2, fun j _ hj => by simp at hj, by rw [hA2s, hA1s]; exact hRs, hGn, ?_, .inr ⟨rfl, rfl, ?_, fun j hj => ?_⟩⟩
    · subst hA1
      exact insGrowL arr.toList ROW.toList vs cs (i * 2) (n * 2) 2 ((i + 1) * 2) ((n + 1) * 2) (by omega) (by omega) (by omega) (by simp; omega) hvl hcs hRt
    · rw [setRow_size]
      show ((w.drew.alloc (.cells ROW 28)).setRow w.heap.size A1).heap.size = _
      rw [setRow_size]
      simp
    · rw [setRow_other _ _ _ _ (by omega)]
      show ((w.drew.alloc (.cells ROW 28)).setRow w.heap.size A1).heap[j]? = _
      rw [setRow_other _ _ _ _ (by omega)]
      exact heap_alloc_old w.drew _ hj


set_option maxHeartbeats 4000000 in
theorem insEndN53 (w : World) (n c : Nat) (a : Addr) (vc : Nat) (hnc : n ≤ c) (hc0 : c = 0) (hn : n ≤ 140737488355328) (x : Option Addr) (m k : Nat) {w1 : World}
    (hap : ∀ ty, (Builtin.append_ #[24, 24] ty #[.slice none n c, .slice (some a) 1 vc]).run Try.prog w = .ok (.slice x m k) w1) :
    Calls Try.prog 53 #[.slice none n c, .int .i64 (n : Nat), .slice (some a) 1 vc] w fun e w' => e = .returned (.slice x m k) ∧ w' = w1 := by
  have mixed := mixed
  have hb1 : (0 : Int) ≤ (n : Int) := by omega
  have hb2 : (n : Int) ≤ (n : Int) := Int.le_refl _
  have hb7 : (n : Int) ≤ (c : Int) := by omega
  have hn0 : n = 0 := by omega
  subst hc0 hn0
  all_goals
    go_enter Try.func53, Try.ntmps53
    go_wp2_with (at_builtin; refine Lib.wpList_append_run _ rfl _ _ _ _ rfl _ _ rfl rfl _ _ (hap _) ?_)
    all_goals
      go_ret
      exact ⟨rfl, rfl⟩


set_option maxHeartbeats 4000000 in
theorem insEndS53 (w : World) (b : Addr) (n c : Nat) (a : Addr) (vc : Nat) (hnc : n ≤ c) (hn : n ≤ 140737488355328) (x : Option Addr) (m k : Nat) {w1 : World}
    (hap : ∀ ty, (Builtin.append_ #[24, 24] ty #[.slice (some b) n c, .slice (some a) 1 vc]).run Try.prog w = .ok (.slice x m k) w1) :
    Calls Try.prog 53 #[.slice (some b) n c, .int .i64 (n : Nat), .slice (some a) 1 vc] w fun e w' => e = .returned (.slice x m k) ∧ w' = w1 := by
  have mixed := mixed
  have hb1 : (0 : Int) ≤ (n : Int) := by omega
  have hb2 : (n : Int) ≤ (n : Int) := Int.le_refl _
  have hb7 : (n : Int) ≤ (c : Int) := by omega
  have hb8 : True := trivial
  by_cases hcn : c = n
  all_goals
    go_enter Try.func53, Try.ntmps53
    go_wp2_with (at_builtin; refine Lib.wpList_append_run _ rfl _ _ _ _ rfl _ _ rfl rfl _ _ (hap _) ?_)
    all_goals
      go_ret
      exact ⟨rfl, rfl⟩


theorem insN53 : InsE Try.prog 53 24 28 2 24 := by
  refine ⟨iqU53, ?_, fun w base n c a vc hnc hbn hn x m k w1 hap => ?_⟩
  · obtain ⟨inf, z, h1, h2, h3, h4, h5⟩ := iqE53
    exact ⟨inf, z, h1, h2, h3, h4, h5⟩
  · cases base with
    | none => exact insEndN53 w n c a vc hnc (hbn rfl) hn x m k hap
    | some b => exact insEndS53 w b n c a vc hnc hn x m k hap

def tyN : Nat → Ty
  | 0 => .unit
  | n + 1 => .pair (.int .i64) (tyN n)
theorem cA51 : isA ((evOY nonJ noneΞ [85,63,81,87,88] P0 100000 60).1 51 [.snil] []) = true := by kernel_rfl
theorem cB51 : isB ((evOY nonJ noneΞ [85,63,81,87,88] P0 100000 60).1 51 [.nl ⟨tyN 2, []⟩] []) = true := by kernel_rfl
noncomputable def YC0 : Orc := addC 51 noneΞ
theorem okYC0 : GammaOk2 P0 YC0 := addC_ok (noneΞ_ok2 _) (evOY_ok (nonJ_ok _) (noneΞ_ok2 _) mixed progOk_ 60).1 cA51 cB51
theorem cA79 : isA ((evOY nonJ noneΞ [85,63,81,87,88] P0 100000 60).1 79 [.snil] []) = true := by kernel_rfl
theorem cB79 : isB ((evOY nonJ noneΞ [85,63,81,87,88] P0 100000 60).1 79 [.nl ⟨tyN 5, []⟩] []) = true := by kernel_rfl
noncomputable def YC1 : Orc := addC 79 YC0
theorem okYC1 : GammaOk2 P0 YC1 := addC_ok okYC0 (evOY_ok (nonJ_ok _) (noneΞ_ok2 _) mixed progOk_ 60).1 cA79 cB79
noncomputable def con_law18_begun (N : Nat) : Con := ⟨37, [], [], Unit, fun _ => some (), fun _ => (.bs true, [], [])⟩
theorem con_law18_begun_ok (N : Nat) : Con.ok P0 (con_law18_begun N) := closed_con2 (insIn_ok insT_ok) mixed progOk_ okYC1 (inl := [85,63,81,87,88]) (breath := 100000) (n := 60) (by kernel_rfl)
def as_feed_read : List AS := [.val (.agg T0_)]
def bs_feed_read : List BS := []
def pout_feed_read : Pat := ⟨[(2, .val (.alt 109 (.agg (.int .i64)) (.alt1 122 (.agg .unit))))], []⟩
noncomputable def G_feed_read  (N : Nat) : OrcT := orcOf []
noncomputable def F_feed_read  (N : Nat) (x : Int × A0_) : Option (Int ⊕ Unit) :=
  (evT (G_feed_read  N) L0 P0 []
    [] N 400 (bodyOf Try.f75) ⟨12, slots 0 (argsOf as_feed_read bs_feed_read x), tabU (lbOf as_feed_read bs_feed_read x) [], []⟩).elim (kRet 12 pout_feed_read (kpL []) (lbOf as_feed_read bs_feed_read x))
def out_feed_read (y : Int ⊕ Unit) : V × List OK × List OK := (valW (.alt 109 (.agg (.int .i64)) (.alt1 122 (.agg .unit))) y, [], [])
noncomputable def V_feed_read  (N : Nat) (x : Int × A0_) : Option (Int ⊕ Unit) :=
  cnd (decide (x.1 < (1:Int))) (some (Sum.inr ())) (some (Sum.inl x.1))
theorem FV_feed_read_eq  (N : Nat) (x : Int × A0_) : F_feed_read  N x = V_feed_read  N x := by kernel_rfl
noncomputable def W_feed_read (N : Nat) (x : Int × A0_) : Option (Int ⊕ Unit) := V_feed_read  N x
theorem F_feed_read_eq (N : Nat) (x : Int × A0_) : F_feed_read  N x = W_feed_read N x := (FV_feed_read_eq  N x).trans (by kernel_rfl)
noncomputable def conw_feed_read (w : Int × Int × List (Int × List UInt8) × List (Int × List UInt8) × List A1_ × Int × Int → Option (Int ⊕ Unit)) : Con := ⟨75, as_feed_read, bs_feed_read, Int ⊕ Unit, w, out_feed_read⟩
noncomputable def con_feed_read (N : Nat) : Con := conw_feed_read (W_feed_read N)
theorem R_feed_read_eq (x : Int × A0_) (y : Int ⊕ Unit) : retOf2 P0 Try.f75 (kpL []) (lbOf as_feed_read bs_feed_read x) (patS ⟨12, [], [], []⟩ pout_feed_read y) = some (out_feed_read y) := by kernel_rfl
theorem con_feed_read_ok (N : Nat) : Con.ok P0 (con_feed_read N) := ⟨⟨Try.f75, Try.func75, by kernel_rfl, by kernel_rfl⟩, fun (x : Int × A0_) (r : Int ⊕ Unit) (hr : W_feed_read N x = some r) =>
  spec2_evT (Γ := G_feed_read N) (Λ := L0) (pout := pout_feed_read) (kp := kpL []) mixed (orcOf_ok [] (by simp)) Try.func75 (c := bodyOf Try.f75) (by kernel_rfl) (by kernel_rfl) (of_decide_eq_true (by kernel_rfl)) ((F_feed_read_eq N x).trans hr) (R_feed_read_eq x r)⟩
def as_slices_Clone_api_Item : List AS := [.val (.list T1_)]
def bs_slices_Clone_api_Item : List BS := []
def pout_slices_Clone_api_Item : Pat := ⟨[(2, .acc 700005)], [(700005, .nrow 28 T1_ false true)]⟩
noncomputable def G_slices_Clone_api_Item  (N : Nat) : OrcT := orcOf []
noncomputable def F_slices_Clone_api_Item  (N : Nat) (x : List (Int × List UInt8)) : Option (List (Int × List UInt8)) :=
  (evT (G_slices_Clone_api_Item  N) L0 P0 []
    [] N 400 (bodyOf Try.f51) ⟨8, slots 0 [.nl ⟨T1_, x⟩], tabU (lbOf as_slices_Clone_api_Item bs_slices_Clone_api_Item x) [], []⟩).elim (kRet 8 pout_slices_Clone_api_Item (kpL []) (lbOf as_slices_Clone_api_Item bs_slices_Clone_api_Item x))
def out_slices_Clone_api_Item (y : List (Int × List UInt8)) : V × List OK × List OK := (.acc 2000000 0, [], [.nrow 28 false true ⟨T1_, y⟩])
noncomputable def V_slices_Clone_api_Item  (N : Nat) (x : List (Int × List UInt8)) : Option (List (Int × List UInt8)) :=
  cnd (decide (List.length x * (24:Nat) ≤ (140737488355328:Nat))) (some x) none
theorem FV_slices_Clone_api_Item_eq  (N : Nat) (x : List (Int × List UInt8)) : F_slices_Clone_api_Item  N x = V_slices_Clone_api_Item  N x := by kernel_rfl
noncomputable def W_slices_Clone_api_Item (N : Nat) (x : List (Int × List UInt8)) : Option (List (Int × List UInt8)) := V_slices_Clone_api_Item  N x
theorem F_slices_Clone_api_Item_eq (N : Nat) (x : List (Int × List UInt8)) : F_slices_Clone_api_Item  N x = W_slices_Clone_api_Item N x := (FV_slices_Clone_api_Item_eq  N x).trans (by kernel_rfl)
noncomputable def conw_slices_Clone_api_Item (w : List (Int × List UInt8) → Option (List (Int × List UInt8))) : Con := ⟨51, as_slices_Clone_api_Item, bs_slices_Clone_api_Item, List (Int × List UInt8), w, out_slices_Clone_api_Item⟩
noncomputable def con_slices_Clone_api_Item (N : Nat) : Con := conw_slices_Clone_api_Item (W_slices_Clone_api_Item N)
theorem R_slices_Clone_api_Item_eq (x : List (Int × List UInt8)) (y : List (Int × List UInt8)) : retOf2 P0 Try.f51 (kpL []) (lbOf as_slices_Clone_api_Item bs_slices_Clone_api_Item x) (patS ⟨8, [], [], []⟩ pout_slices_Clone_api_Item y) = some (out_slices_Clone_api_Item y) := by kernel_rfl
noncomputable def FA_slices_Clone_api_Item : Option (List (Int × List UInt8)) := (evT (G_slices_Clone_api_Item 1) L0 P0 [] [] 1 400 (bodyOf Try.f51) ⟨8, slots 0 [.snil], tabU [] [], []⟩).elim (kRet 8 pout_slices_Clone_api_Item (kpL []) [])
theorem FA_slices_Clone_api_Item_eq : FA_slices_Clone_api_Item = some [] := by kernel_rfl
theorem WN_slices_Clone_api_Item (N : Nat) (r : List (Int × List UInt8)) (h : W_slices_Clone_api_Item N [] = some r) : r = [] := by
  have e : W_slices_Clone_api_Item N [] = some [] := by kernel_rfl
  rw [e] at h; injection h with h; exact h.symm
theorem con_slices_Clone_api_Item_ok (N : Nat) : Con.ok P0 (con_slices_Clone_api_Item N) := ⟨⟨Try.f51, Try.func51, by kernel_rfl, by kernel_rfl⟩, fun (x : List (Int × List UInt8)) (r : List (Int × List UInt8)) (hr : W_slices_Clone_api_Item N x = some r) =>
  clone_split (e := T1_) (ty := 28) (l := x) (r := r)
    (spec2_evT (Γ := G_slices_Clone_api_Item 1) (Λ := L0) (lb := []) (pout := pout_slices_Clone_api_Item) (kp := kpL []) mixed (orcOf_ok [] (by simp)) Try.func51 (c := bodyOf Try.f51) (by kernel_rfl) (by kernel_rfl) (of_decide_eq_true (by kernel_rfl)) FA_slices_Clone_api_Item_eq (R_slices_Clone_api_Item_eq x []))
    (spec2_evT (Γ := G_slices_Clone_api_Item N) (Λ := L0) (lb := []) (pout := pout_slices_Clone_api_Item) (kp := kpL []) mixed (orcOf_ok [] (by simp)) Try.func51 (c := bodyOf Try.f51) (by kernel_rfl) (by kernel_rfl) (of_decide_eq_true (by kernel_rfl)) ((F_slices_Clone_api_Item_eq N x).trans hr) (R_slices_Clone_api_Item_eq x r))
    (fun h => by subst h; exact WN_slices_Clone_api_Item N r hr)⟩
def as_slices_Clone_api_Event : List AS := [.val (.list T2_)]
def bs_slices_Clone_api_Event : List BS := []
def pout_slices_Clone_api_Event : Pat := ⟨[(2, .acc 700005)], [(700005, .nrow 57 T2_ false true)]⟩
noncomputable def G_slices_Clone_api_Event  (N : Nat) : OrcT := orcOf []
noncomputable def F_slices_Clone_api_Event  (N : Nat) (x : List A1_) : Option (List A1_) :=
  (evT (G_slices_Clone_api_Event  N) L0 P0 []
    [] N 400 (bodyOf Try.f79) ⟨8, slots 0 [.nl ⟨T2_, x⟩], tabU (lbOf as_slices_Clone_api_Event bs_slices_Clone_api_Event x) [], []⟩).elim (kRet 8 pout_slices_Clone_api_Event (kpL []) (lbOf as_slices_Clone_api_Event bs_slices_Clone_api_Event x))
def out_slices_Clone_api_Event (y : List A1_) : V × List OK × List OK := (.acc 2000000 0, [], [.nrow 57 false true ⟨T2_, y⟩])
noncomputable def V_slices_Clone_api_Event  (N : Nat) (x : List A1_) : Option (List A1_) :=
  cnd (decide (List.length x * (48:Nat) ≤ (140737488355328:Nat))) (some x) none
theorem FV_slices_Clone_api_Event_eq  (N : Nat) (x : List A1_) : F_slices_Clone_api_Event  N x = V_slices_Clone_api_Event  N x := by kernel_rfl
noncomputable def W_slices_Clone_api_Event (N : Nat) (x : List A1_) : Option (List A1_) := V_slices_Clone_api_Event  N x
theorem F_slices_Clone_api_Event_eq (N : Nat) (x : List A1_) : F_slices_Clone_api_Event  N x = W_slices_Clone_api_Event N x := (FV_slices_Clone_api_Event_eq  N x).trans (by kernel_rfl)
noncomputable def conw_slices_Clone_api_Event (w : List A1_ → Option (List A1_)) : Con := ⟨79, as_slices_Clone_api_Event, bs_slices_Clone_api_Event, List A1_, w, out_slices_Clone_api_Event⟩
noncomputable def con_slices_Clone_api_Event (N : Nat) : Con := conw_slices_Clone_api_Event (W_slices_Clone_api_Event N)
theorem R_slices_Clone_api_Event_eq (x : List A1_) (y : List A1_) : retOf2 P0 Try.f79 (kpL []) (lbOf as_slices_Clone_api_Event bs_slices_Clone_api_Event x) (patS ⟨8, [], [], []⟩ pout_slices_Clone_api_Event y) = some (out_slices_Clone_api_Event y) := by kernel_rfl
noncomputable def FA_slices_Clone_api_Event : Option (List A1_) := (evT (G_slices_Clone_api_Event 1) L0 P0 [] [] 1 400 (bodyOf Try.f79) ⟨8, slots 0 [.snil], tabU [] [], []⟩).elim (kRet 8 pout_slices_Clone_api_Event (kpL []) [])
theorem FA_slices_Clone_api_Event_eq : FA_slices_Clone_api_Event = some [] := by kernel_rfl
theorem WN_slices_Clone_api_Event (N : Nat) (r : List A1_) (h : W_slices_Clone_api_Event N [] = some r) : r = [] := by
  have e : W_slices_Clone_api_Event N [] = some [] := by kernel_rfl
  rw [e] at h; injection h with h; exact h.symm
theorem con_slices_Clone_api_Event_ok (N : Nat) : Con.ok P0 (con_slices_Clone_api_Event N) := ⟨⟨Try.f79, Try.func79, by kernel_rfl, by kernel_rfl⟩, fun (x : List A1_) (r : List A1_) (hr : W_slices_Clone_api_Event N x = some r) =>
  clone_split (e := T2_) (ty := 57) (l := x) (r := r)
    (spec2_evT (Γ := G_slices_Clone_api_Event 1) (Λ := L0) (lb := []) (pout := pout_slices_Clone_api_Event) (kp := kpL []) mixed (orcOf_ok [] (by simp)) Try.func79 (c := bodyOf Try.f79) (by kernel_rfl) (by kernel_rfl) (of_decide_eq_true (by kernel_rfl)) FA_slices_Clone_api_Event_eq (R_slices_Clone_api_Event_eq x []))
    (spec2_evT (Γ := G_slices_Clone_api_Event N) (Λ := L0) (lb := []) (pout := pout_slices_Clone_api_Event) (kp := kpL []) mixed (orcOf_ok [] (by simp)) Try.func79 (c := bodyOf Try.f79) (by kernel_rfl) (by kernel_rfl) (of_decide_eq_true (by kernel_rfl)) ((F_slices_Clone_api_Event_eq N x).trans hr) (R_slices_Clone_api_Event_eq x r))
    (fun h => by subst h; exact WN_slices_Clone_api_Event N r hr)⟩
def as_twin_Feed : List AS := [.val (.agg T0_)]
def bs_twin_Feed : List BS := []
def pout_twin_Feed : Pat := ⟨[(2, .ptr 600002 0)], [(600002, .box 35 (.val T0_))]⟩
noncomputable def G_twin_Feed (w_slices_Clone_api_Item : List (Int × List UInt8) → Option (List (Int × List UInt8))) (w_slices_Clone_api_Event : List A1_ → Option (List A1_)) (N : Nat) : OrcT := orcOf [conw_slices_Clone_api_Item w_slices_Clone_api_Item, conw_slices_Clone_api_Event w_slices_Clone_api_Event]
noncomputable def F_twin_Feed (w_slices_Clone_api_Item : List (Int × List UInt8) → Option (List (Int × List UInt8))) (w_slices_Clone_api_Event : List A1_ → Option (List A1_)) (N : Nat) (x : Int × A0_) : Option (Int × A0_) :=
  (evT (G_twin_Feed w_slices_Clone_api_Item w_slices_Clone_api_Event N) L0 P0 []
    [] N 400 (bodyOf Try.f62) ⟨16, slots 0 (argsOf as_twin_Feed bs_twin_Feed x), tabU (lbOf as_twin_Feed bs_twin_Feed x) [], []⟩).elim (kRet 16 pout_twin_Feed (kpL []) (lbOf as_twin_Feed bs_twin_Feed x))
def out_twin_Feed (y : Int × A0_) : V × List OK × List OK := (valW (.agg T0_) y, [], [])
noncomputable def V_twin_Feed (w_slices_Clone_api_Item : List (Int × List UInt8) → Option (List (Int × List UInt8))) (w_slices_Clone_api_Event : List A1_ → Option (List A1_)) (N : Nat) (x : Int × A0_) : Option (Int × A0_) :=
  obind (w_slices_Clone_api_Item x.2.2.1) fun b => obind (w_slices_Clone_api_Item x.2.2.2.1) fun b_1 => obind (w_slices_Clone_api_Event x.2.2.2.2.1) fun b_2 => some (x.1, x.2.1, b, b_1, b_2, x.2.2.2.2.2)
theorem FV_twin_Feed_eq (w_slices_Clone_api_Item : List (Int × List UInt8) → Option (List (Int × List UInt8))) (w_slices_Clone_api_Event : List A1_ → Option (List A1_)) (N : Nat) (x : Int × A0_) : F_twin_Feed w_slices_Clone_api_Item w_slices_Clone_api_Event N x = V_twin_Feed w_slices_Clone_api_Item w_slices_Clone_api_Event N x := by kernel_rfl
noncomputable def W_twin_Feed (N : Nat) (x : Int × A0_) : Option (Int × A0_) := V_twin_Feed (W_slices_Clone_api_Item N) (W_slices_Clone_api_Event N) N x
theorem F_twin_Feed_eq (N : Nat) (x : Int × A0_) : F_twin_Feed (W_slices_Clone_api_Item N) (W_slices_Clone_api_Event N) N x = W_twin_Feed N x := (FV_twin_Feed_eq (W_slices_Clone_api_Item N) (W_slices_Clone_api_Event N) N x).trans (by kernel_rfl)
noncomputable def conw_twin_Feed (w : Int × Int × List (Int × List UInt8) × List (Int × List UInt8) × List A1_ × Int × Int → Option (Int × A0_)) : Con := ⟨62, as_twin_Feed, bs_twin_Feed, Int × Int × List (Int × List UInt8) × List (Int × List UInt8) × List A1_ × Int × Int, w, out_twin_Feed⟩
noncomputable def con_twin_Feed (N : Nat) : Con := conw_twin_Feed (W_twin_Feed N)
theorem R_twin_Feed_eq (x : Int × A0_) (y : Int × A0_) : retOf2 P0 Try.f62 (kpL []) (lbOf as_twin_Feed bs_twin_Feed x) (patS ⟨16, [], [], []⟩ pout_twin_Feed y) = some (out_twin_Feed y) := by kernel_rfl
theorem con_twin_Feed_ok (N : Nat) : Con.ok P0 (con_twin_Feed N) := ⟨⟨Try.f62, Try.func62, by kernel_rfl, by kernel_rfl⟩, fun (x : Int × A0_) (r : Int × A0_) (hr : W_twin_Feed N x = some r) =>
  spec2_evT (Γ := G_twin_Feed (W_slices_Clone_api_Item N) (W_slices_Clone_api_Event N) N) (Λ := L0) (pout := pout_twin_Feed) (kp := kpL []) mixed (orcOf_ok _ (by simp only [List.mem_cons, List.not_mem_nil, or_false, forall_eq_or_imp, forall_eq]; exact ⟨con_slices_Clone_api_Item_ok N, con_slices_Clone_api_Event_ok N⟩)) Try.func62 (c := bodyOf Try.f62) (by kernel_rfl) (by kernel_rfl) (of_decide_eq_true (by kernel_rfl)) ((F_twin_Feed_eq N x).trans hr) (R_twin_Feed_eq x r)⟩
def as_feed_Knows : List AS := [.val (.agg T0_), .val (.int .i64)]
def bs_feed_Knows : List BS := []
def pout_feed_Knows : Pat := ⟨[(4, .ptr 600004 0)], [(600004, .box 35 (.val T0_))]⟩
noncomputable def G_feed_Knows (w_twin_Feed : Int × Int × List (Int × List UInt8) × List (Int × List UInt8) × List A1_ × Int × Int → Option (Int × A0_)) (w_feed_read : Int × Int × List (Int × List UInt8) × List (Int × List UInt8) × List A1_ × Int × Int → Option (Int ⊕ Unit)) (N : Nat) : OrcT := orcOf [conw_twin_Feed w_twin_Feed, conw_feed_read w_feed_read]
noncomputable def F_feed_Knows (w_twin_Feed : Int × Int × List (Int × List UInt8) × List (Int × List UInt8) × List A1_ × Int × Int → Option (Int × A0_)) (w_feed_read : Int × Int × List (Int × List UInt8) × List (Int × List UInt8) × List A1_ × Int × Int → Option (Int ⊕ Unit)) (N : Nat) (x : (Int × A0_) × Int) : Option (Int × A0_) :=
  (evT (G_feed_Knows w_twin_Feed w_feed_read N) L0 P0 []
    [] N 400 (bodyOf Try.f46) ⟨27, slots 0 (argsOf as_feed_Knows bs_feed_Knows x), tabU (lbOf as_feed_Knows bs_feed_Knows x) [], []⟩).elim (kRet 27 pout_feed_Knows (kpL []) (lbOf as_feed_Knows bs_feed_Knows x))
def out_feed_Knows (y : Int × A0_) : V × List OK × List OK := (valW (.agg T0_) y, [], [])
noncomputable def V_feed_Knows (w_twin_Feed : Int × Int × List (Int × List UInt8) × List (Int × List UInt8) × List A1_ × Int × Int → Option (Int × A0_)) (w_feed_read : Int × Int × List (Int × List UInt8) × List (Int × List UInt8) × List A1_ × Int × Int → Option (Int ⊕ Unit)) (N : Nat) (x : (Int × A0_) × Int) : Option (Int × A0_) :=
  obind (w_twin_Feed x.1) fun b => obind (w_feed_read x.1) fun b_1 => selim (fun (b_2 : Int) => cnd (decide (x.2 ≤ (1000000:Int))) (some (b.1, max b.2.1 x.2, b.2.2)) (some b)) (fun (c : PUnit) => some b) b_1
theorem FV_feed_Knows_eq (w_twin_Feed : Int × Int × List (Int × List UInt8) × List (Int × List UInt8) × List A1_ × Int × Int → Option (Int × A0_)) (w_feed_read : Int × Int × List (Int × List UInt8) × List (Int × List UInt8) × List A1_ × Int × Int → Option (Int ⊕ Unit)) (N : Nat) (x : (Int × A0_) × Int) : F_feed_Knows w_twin_Feed w_feed_read N x = V_feed_Knows w_twin_Feed w_feed_read N x := by kernel_rfl
noncomputable def W_feed_Knows (N : Nat) (x : (Int × A0_) × Int) : Option (Int × A0_) := V_feed_Knows (W_twin_Feed N) (W_feed_read N) N x
theorem F_feed_Knows_eq (N : Nat) (x : (Int × A0_) × Int) : F_feed_Knows (W_twin_Feed N) (W_feed_read N) N x = W_feed_Knows N x := (FV_feed_Knows_eq (W_twin_Feed N) (W_feed_read N) N x).trans (by kernel_rfl)
noncomputable def conw_feed_Knows (w : (Int × A0_) × Int → Option (Int × A0_)) : Con := ⟨46, as_feed_Knows, bs_feed_Knows, Int × Int × List (Int × List UInt8) × List (Int × List UInt8) × List A1_ × Int × Int, w, out_feed_Knows⟩
noncomputable def con_feed_Knows (N : Nat) : Con := conw_feed_Knows (W_feed_Knows N)
theorem R_feed_Knows_eq (x : (Int × A0_) × Int) (y : Int × A0_) : retOf2 P0 Try.f46 (kpL []) (lbOf as_feed_Knows bs_feed_Knows x) (patS ⟨27, [], [], []⟩ pout_feed_Knows y) = some (out_feed_Knows y) := by kernel_rfl
theorem con_feed_Knows_ok (N : Nat) : Con.ok P0 (con_feed_Knows N) := ⟨⟨Try.f46, Try.func46, by kernel_rfl, by kernel_rfl⟩, fun (x : (Int × A0_) × Int) (r : Int × A0_) (hr : W_feed_Knows N x = some r) =>
  spec2_evT (Γ := G_feed_Knows (W_twin_Feed N) (W_feed_read N) N) (Λ := L0) (pout := pout_feed_Knows) (kp := kpL []) mixed (orcOf_ok _ (by simp only [List.mem_cons, List.not_mem_nil, or_false, forall_eq_or_imp, forall_eq]; exact ⟨con_twin_Feed_ok N, con_feed_read_ok N⟩)) Try.func46 (c := bodyOf Try.f46) (by kernel_rfl) (by kernel_rfl) (of_decide_eq_true (by kernel_rfl)) ((F_feed_Knows_eq N x).trans hr) (R_feed_Knows_eq x r)⟩
def as_feed_Begin : List AS := [.val (.agg T0_), .val (.int .i64)]
def bs_feed_Begin : List BS := []
def pout_feed_Begin : Pat := ⟨[(4, .ptr 600004 0)], [(600004, .box 35 (.val T0_))]⟩
noncomputable def G_feed_Begin (w_feed_read : Int × Int × List (Int × List UInt8) × List (Int × List UInt8) × List A1_ × Int × Int → Option (Int ⊕ Unit)) (w_feed_Knows : (Int × A0_) × Int → Option (Int × A0_)) (w_twin_Feed : Int × Int × List (Int × List UInt8) × List (Int × List UInt8) × List A1_ × Int × Int → Option (Int × A0_)) (N : Nat) : OrcT := orcOf [conw_feed_read w_feed_read, conw_feed_Knows w_feed_Knows, conw_twin_Feed w_twin_Feed]
noncomputable def F_feed_Begin (w_feed_read : Int × Int × List (Int × List UInt8) × List (Int × List UInt8) × List A1_ × Int × Int → Option (Int ⊕ Unit)) (w_feed_Knows : (Int × A0_) × Int → Option (Int × A0_)) (w_twin_Feed : Int × Int × List (Int × List UInt8) × List (Int × List UInt8) × List A1_ × Int × Int → Option (Int × A0_)) (N : Nat) (x : (Int × A0_) × Int) : Option (Int × A0_) :=
  (evT (G_feed_Begin w_feed_read w_feed_Knows w_twin_Feed N) L0 P0 []
    [] N 400 (bodyOf Try.f38) ⟨30, slots 0 (argsOf as_feed_Begin bs_feed_Begin x), tabU (lbOf as_feed_Begin bs_feed_Begin x) [], []⟩).elim (kRet 30 pout_feed_Begin (kpL []) (lbOf as_feed_Begin bs_feed_Begin x))
def out_feed_Begin (y : Int × A0_) : V × List OK × List OK := (valW (.agg T0_) y, [], [])
noncomputable def V_feed_Begin (w_feed_read : Int × Int × List (Int × List UInt8) × List (Int × List UInt8) × List A1_ × Int × Int → Option (Int ⊕ Unit)) (w_feed_Knows : (Int × A0_) × Int → Option (Int × A0_)) (w_twin_Feed : Int × Int × List (Int × List UInt8) × List (Int × List UInt8) × List A1_ × Int × Int → Option (Int × A0_)) (N : Nat) (x : (Int × A0_) × Int) : Option (Int × A0_) :=
  obind (w_feed_read x.1) fun b => selim (fun (b : Int) => obind (w_feed_Knows (x.1, wr .i64 (x.2 - (1:Int)))) fun b => some b) (fun (c : PUnit) => obind (w_twin_Feed x.1) fun b => cnd (decide ((1:Int) ≤ x.2)) (cnd (decide (x.2 ≤ (1000000:Int))) (some (x.2, b.2)) (some b)) (some b)) b
theorem FV_feed_Begin_eq (w_feed_read : Int × Int × List (Int × List UInt8) × List (Int × List UInt8) × List A1_ × Int × Int → Option (Int ⊕ Unit)) (w_feed_Knows : (Int × A0_) × Int → Option (Int × A0_)) (w_twin_Feed : Int × Int × List (Int × List UInt8) × List (Int × List UInt8) × List A1_ × Int × Int → Option (Int × A0_)) (N : Nat) (x : (Int × A0_) × Int) : F_feed_Begin w_feed_read w_feed_Knows w_twin_Feed N x = V_feed_Begin w_feed_read w_feed_Knows w_twin_Feed N x := by kernel_rfl
noncomputable def W_feed_Begin (N : Nat) (x : (Int × A0_) × Int) : Option (Int × A0_) := V_feed_Begin (W_feed_read N) (W_feed_Knows N) (W_twin_Feed N) N x
theorem F_feed_Begin_eq (N : Nat) (x : (Int × A0_) × Int) : F_feed_Begin (W_feed_read N) (W_feed_Knows N) (W_twin_Feed N) N x = W_feed_Begin N x := (FV_feed_Begin_eq (W_feed_read N) (W_feed_Knows N) (W_twin_Feed N) N x).trans (by kernel_rfl)
noncomputable def conw_feed_Begin (w : (Int × A0_) × Int → Option (Int × A0_)) : Con := ⟨38, as_feed_Begin, bs_feed_Begin, Int × Int × List (Int × List UInt8) × List (Int × List UInt8) × List A1_ × Int × Int, w, out_feed_Begin⟩
noncomputable def con_feed_Begin (N : Nat) : Con := conw_feed_Begin (W_feed_Begin N)
theorem R_feed_Begin_eq (x : (Int × A0_) × Int) (y : Int × A0_) : retOf2 P0 Try.f38 (kpL []) (lbOf as_feed_Begin bs_feed_Begin x) (patS ⟨30, [], [], []⟩ pout_feed_Begin y) = some (out_feed_Begin y) := by kernel_rfl
theorem con_feed_Begin_ok (N : Nat) : Con.ok P0 (con_feed_Begin N) := ⟨⟨Try.f38, Try.func38, by kernel_rfl, by kernel_rfl⟩, fun (x : (Int × A0_) × Int) (r : Int × A0_) (hr : W_feed_Begin N x = some r) =>
  spec2_evT (Γ := G_feed_Begin (W_feed_read N) (W_feed_Knows N) (W_twin_Feed N) N) (Λ := L0) (pout := pout_feed_Begin) (kp := kpL []) mixed (orcOf_ok _ (by simp only [List.mem_cons, List.not_mem_nil, or_false, forall_eq_or_imp, forall_eq]; exact ⟨con_feed_read_ok N, con_feed_Knows_ok N, con_twin_Feed_ok N⟩)) Try.func38 (c := bodyOf Try.f38) (by kernel_rfl) (by kernel_rfl) (of_decide_eq_true (by kernel_rfl)) ((F_feed_Begin_eq N x).trans hr) (R_feed_Begin_eq x r)⟩
def as_law18_one : List AS := [.val (.int .i64)]
def bs_law18_one : List BS := []
def pout_law18_one : Pat := ⟨[(2, .val .str)], []⟩
noncomputable def G_law18_one  (N : Nat) : OrcT := orcOf []
noncomputable def F_law18_one  (N : Nat) (x : Int) : Option (List UInt8) :=
  (evT (G_law18_one  N) L0 P0 []
    [] N 400 (bodyOf Try.f40) ⟨14, slots 0 (argsOf as_law18_one bs_law18_one x), tabU (lbOf as_law18_one bs_law18_one x) [], []⟩).elim (kRet 14 pout_law18_one (kpL []) (lbOf as_law18_one bs_law18_one x))
def out_law18_one (y : List UInt8) : V × List OK × List OK := (valW .str y, [], [])
noncomputable def V_law18_one  (N : Nat) (x : Int) : Option (List UInt8) :=
  cnd (List.all [wr .u8 (wr .i64 ((97:Int) + Int.tmod x (26:Int))), wr .u8 (wr .i64 ((97:Int) + Int.tmod (wr .i64 (Int.tdiv x (26:Int))) (26:Int)))] fun
    (n : Int) => decide ((0:Int) ≤ n) && decide (n < (256:Int))) (some (bytesI [wr .u8 (wr .i64 ((97:Int) + Int.tmod x (26:Int))), wr .u8 (wr .i64
    ((97:Int) + Int.tmod (wr .i64 (Int.tdiv x (26:Int))) (26:Int)))])) none
theorem FV_law18_one_eq  (N : Nat) (x : Int) : F_law18_one  N x = V_law18_one  N x := by kernel_rfl
noncomputable def W_law18_one (N : Nat) (x : Int) : Option (List UInt8) := V_law18_one  N x
theorem F_law18_one_eq (N : Nat) (x : Int) : F_law18_one  N x = W_law18_one N x := (FV_law18_one_eq  N x).trans (by kernel_rfl)
noncomputable def conw_law18_one (w : Int → Option (List UInt8)) : Con := ⟨40, as_law18_one, bs_law18_one, List UInt8, w, out_law18_one⟩
noncomputable def con_law18_one (N : Nat) : Con := conw_law18_one (W_law18_one N)
theorem R_law18_one_eq (x : Int) (y : List UInt8) : retOf2 P0 Try.f40 (kpL []) (lbOf as_law18_one bs_law18_one x) (patS ⟨14, [], [], []⟩ pout_law18_one y) = some (out_law18_one y) := by kernel_rfl
theorem con_law18_one_ok (N : Nat) : Con.ok P0 (con_law18_one N) := ⟨⟨Try.f40, Try.func40, by kernel_rfl, by kernel_rfl⟩, fun (x : Int) (r : List UInt8) (hr : W_law18_one N x = some r) =>
  spec2_evT (Γ := G_law18_one N) (Λ := L0) (pout := pout_law18_one) (kp := kpL []) mixed (orcOf_ok [] (by simp)) Try.func40 (c := bodyOf Try.f40) (by kernel_rfl) (by kernel_rfl) (of_decide_eq_true (by kernel_rfl)) ((F_law18_one_eq N x).trans hr) (R_law18_one_eq x r)⟩
def as_win_place : List AS := [.val (.list T1_), .val (.int .i64)]
def bs_win_place : List BS := []
def pout_win_place : Pat := ⟨[(4, .val (.alt 87 (.agg (.int .i64)) (.alt1 116 (.agg .unit))))], []⟩
noncomputable def G_win_place  (N : Nat) : OrcT := orcOf []
noncomputable def F_win_place  (N : Nat) (x : List (Int × List UInt8) × Int) : Option (Int ⊕ Unit) :=
  (evT (G_win_place  N) L0 P0 [(2, .loop [7] ⟨[(9, .val (.int .i64))], []⟩ [(.exit 0, ⟨[], []⟩), (.ret, ⟨[(4, .val (.alt 87 (.agg (.int .i64)) (.alt1 116 (.agg .unit))))], []⟩)])]
    [] N 400 (bodyOf Try.f52) ⟨32, slots 0 (argsOf as_win_place bs_win_place x), tabU (lbOf as_win_place bs_win_place x) [], []⟩).elim (kRet 32 pout_win_place (kpL []) (lbOf as_win_place bs_win_place x))
def out_win_place (y : Int ⊕ Unit) : V × List OK × List OK := (valW (.alt 87 (.agg (.int .i64)) (.alt1 116 (.agg .unit))) y, [], [])
noncomputable def V_win_place  (N : Nat) (x : List (Int × List UInt8) × Int) : Option (Int ⊕ Unit) :=
  obind (loopN N (fun (v : Int) => cnd (decide (v < (↑(List.length x.1) : Int))) (cnd (decide ((0:Int) ≤ v) && decide (v < (↑(List.length x.1) : Int)))
    (cnd (decide (Prod.fst (List.getD x.1 (Int.toNat v) ((0:Int), [])) = x.2)) (some (Sum.inr (Sum.inr (Sum.inr ())))) (cnd (decide (x.2 < Prod.fst
    (List.getD x.1 (Int.toNat v) ((0:Int), [])))) (some (Sum.inr (Sum.inr (Sum.inl v)))) (some (Sum.inl (wr .i64 (v + (1:Int))))))) none) (some (Sum.inr
    (Sum.inl ())))) (Int.ofNat (0:Nat))) fun (b : PUnit ⊕ Int ⊕ PUnit) => selim (fun (b : PUnit) => some (Sum.inl (↑(List.length x.1) : Int))) (fun (c :
    Int ⊕ PUnit) => some c) b
theorem FV_win_place_eq  (N : Nat) (x : List (Int × List UInt8) × Int) : F_win_place  N x = V_win_place  N x := by kernel_rfl
noncomputable def W_win_place (N : Nat) (x : List (Int × List UInt8) × Int) : Option (Int ⊕ Unit) := V_win_place  N x
theorem F_win_place_eq (N : Nat) (x : List (Int × List UInt8) × Int) : F_win_place  N x = W_win_place N x := (FV_win_place_eq  N x).trans (by kernel_rfl)
noncomputable def conw_win_place (w : List (Int × List UInt8) × Int → Option (Int ⊕ Unit)) : Con := ⟨52, as_win_place, bs_win_place, Int ⊕ Unit, w, out_win_place⟩
noncomputable def con_win_place (N : Nat) : Con := conw_win_place (W_win_place N)
theorem R_win_place_eq (x : List (Int × List UInt8) × Int) (y : Int ⊕ Unit) : retOf2 P0 Try.f52 (kpL []) (lbOf as_win_place bs_win_place x) (patS ⟨32, [], [], []⟩ pout_win_place y) = some (out_win_place y) := by kernel_rfl
theorem con_win_place_ok (N : Nat) : Con.ok P0 (con_win_place N) := ⟨⟨Try.f52, Try.func52, by kernel_rfl, by kernel_rfl⟩, fun (x : List (Int × List UInt8) × Int) (r : Int ⊕ Unit) (hr : W_win_place N x = some r) =>
  spec2_evT (Γ := G_win_place N) (Λ := L0) (pout := pout_win_place) (kp := kpL []) mixed (orcOf_ok [] (by simp)) Try.func52 (c := bodyOf Try.f52) (by kernel_rfl) (by kernel_rfl) (of_decide_eq_true (by kernel_rfl)) ((F_win_place_eq N x).trans hr) (R_win_place_eq x r)⟩
def as_slices_Insert_api_Item : List AS := [.acc 0, .val (.int .i64), .val (.list T1_)]
def bs_slices_Insert_api_Item : List BS := [.nrow 28 T1_ true]
def out_slices_Insert_api_Item (y : List (Int × List UInt8)) : V × List OK × List OK := (.acc 2000000 0, [.dead], [.nrow 28 false true ⟨T1_, y⟩])
noncomputable def W_slices_Insert_api_Item (N : Nat) (x : Int × List (Int × List UInt8) × List (Int × List UInt8)) : Option (List (Int × List UInt8)) :=
  cnd (decide ((0:Int) ≤ x.1) && decide (x.1 ≤ ((↑(List.length x.2.2) : Int) : Int)) && decide (List.length x.2.1 = (1:Nat)) && decide ((List.length x.2.2 + (1:Nat)) * (24:Nat) ≤ (140737488355328:Nat))) (some (List.take (Int.toNat x.1) x.2.2 ++ (x.2.1 ++ List.drop (Int.toNat x.1) x.2.2))) none
noncomputable def conw_slices_Insert_api_Item (w : Int × List (Int × List UInt8) × List (Int × List UInt8) → Option (List (Int × List UInt8))) : Con := ⟨53, as_slices_Insert_api_Item, bs_slices_Insert_api_Item, List (Int × List UInt8), w, out_slices_Insert_api_Item⟩
noncomputable def con_slices_Insert_api_Item (N : Nat) : Con := conw_slices_Insert_api_Item (W_slices_Insert_api_Item N)
theorem con_slices_Insert_api_Item_ok (N : Nat) : Con.ok P0 (con_slices_Insert_api_Item N) := ⟨⟨Try.f53, Try.func53, by kernel_rfl, by kernel_rfl⟩, fun (x : Int × List (Int × List UInt8) × List (Int × List UInt8)) (r : List (Int × List UInt8)) (hr : W_slices_Insert_api_Item N x = some r) => by
  obtain ⟨i, s, l⟩ := x
  exact ins_con (e := T1_) (t := 24) (ty := 28) (bytes := 24) (nl := true) (l := l) (r := s) (q := r) (i := i) insN53 insP53 rfl (by decide) (by decide) (by decide) hr⟩
def as_win_Put : List AS := [.val (.list T1_), .val (.int .i64), .val T1_]
def bs_win_Put : List BS := []
def pout_win_Put : Pat := ⟨[(6, .val (.list T1_)), (7, .val .bool)], []⟩
noncomputable def G_win_Put (w_slices_Clone_api_Item : List (Int × List UInt8) → Option (List (Int × List UInt8))) (w_win_place : List (Int × List UInt8) × Int → Option (Int ⊕ Unit)) (w_slices_Insert_api_Item : Int × List (Int × List UInt8) × List (Int × List UInt8) → Option (List (Int × List UInt8))) (N : Nat) : OrcT := orcOf [conw_slices_Clone_api_Item w_slices_Clone_api_Item, conw_win_place w_win_place, conw_slices_Insert_api_Item w_slices_Insert_api_Item]
noncomputable def F_win_Put (w_slices_Clone_api_Item : List (Int × List UInt8) → Option (List (Int × List UInt8))) (w_win_place : List (Int × List UInt8) × Int → Option (Int ⊕ Unit)) (w_slices_Insert_api_Item : Int × List (Int × List UInt8) × List (Int × List UInt8) → Option (List (Int × List UInt8))) (N : Nat) (x : List (Int × List UInt8) × Int × Int × List UInt8) : Option A4_ :=
  (evT (G_win_Put w_slices_Clone_api_Item w_win_place w_slices_Insert_api_Item N) L0 P0 []
    [(1000003, .reg [(8, [], ⟨[(5, .ptr 600005 0), (8, .acc 700042), (9, .ptr 600009 0), (28, .val .bool)], [(600005, .box 28 (.val (.pair (.int .i64) .str))), (700042, .nrow 28 T1_ false true), (600009, .box 87 (.val (.int .i64)))]⟩)])] N 400 (bodyOf Try.f15) ⟨43, slots 0 (argsOf as_win_Put bs_win_Put x), tabU (lbOf as_win_Put bs_win_Put x) [], []⟩).elim (kRet 43 pout_win_Put (kpL []) (lbOf as_win_Put bs_win_Put x))
def out_win_Put (y : A4_) : V × List OK × List OK := (.tup [valW (.list T1_) y.1, valW .bool y.2], [], [])
noncomputable def V_win_Put (w_slices_Clone_api_Item : List (Int × List UInt8) → Option (List (Int × List UInt8))) (w_win_place : List (Int × List UInt8) × Int → Option (Int ⊕ Unit)) (w_slices_Insert_api_Item : Int × List (Int × List UInt8) × List (Int × List UInt8) → Option (List (Int × List UInt8))) (N : Nat) (x : List (Int × List UInt8) × Int × Int × List UInt8) : Option A4_ :=
  obind (w_slices_Clone_api_Item x.1) fun b => obind (w_win_place (x.1, x.2.2.1)) fun b_1 => selim (fun (b_2 : Int) => cnd (decide (x.2.2.1 <
    x.2.1)) (some (b, false)) (cnd (decide (wr .i64 (x.2.1 + (8:Int)) ≤ x.2.2.1)) (some (b, false)) (obind (w_slices_Insert_api_Item (b_2, [x.2.2],
    b)) fun b => some (b, true)))) (fun (c : PUnit) => cnd true (some (b, false)) (cnd (decide (wr .i64 (x.2.1 + (8:Int)) ≤ x.2.2.1)) (some (b, false))
    (obind (w_slices_Insert_api_Item ((0:Int), [x.2.2], b)) fun b => some (b, true)))) b_1
theorem FV_win_Put_eq (w_slices_Clone_api_Item : List (Int × List UInt8) → Option (List (Int × List UInt8))) (w_win_place : List (Int × List UInt8) × Int → Option (Int ⊕ Unit)) (w_slices_Insert_api_Item : Int × List (Int × List UInt8) × List (Int × List UInt8) → Option (List (Int × List UInt8))) (N : Nat) (x : List (Int × List UInt8) × Int × Int × List UInt8) : F_win_Put w_slices_Clone_api_Item w_win_place w_slices_Insert_api_Item N x = V_win_Put w_slices_Clone_api_Item w_win_place w_slices_Insert_api_Item N x := by kernel_rfl
noncomputable def W_win_Put (N : Nat) (x : List (Int × List UInt8) × Int × Int × List UInt8) : Option A4_ := V_win_Put (W_slices_Clone_api_Item N) (W_win_place N) (W_slices_Insert_api_Item N) N x
theorem F_win_Put_eq (N : Nat) (x : List (Int × List UInt8) × Int × Int × List UInt8) : F_win_Put (W_slices_Clone_api_Item N) (W_win_place N) (W_slices_Insert_api_Item N) N x = W_win_Put N x := (FV_win_Put_eq (W_slices_Clone_api_Item N) (W_win_place N) (W_slices_Insert_api_Item N) N x).trans (by kernel_rfl)
noncomputable def conw_win_Put (w : List (Int × List UInt8) × Int × Int × List UInt8 → Option A4_) : Con := ⟨15, as_win_Put, bs_win_Put, List (Int × List UInt8) × Bool, w, out_win_Put⟩
noncomputable def con_win_Put (N : Nat) : Con := conw_win_Put (W_win_Put N)
theorem R_win_Put_eq (x : List (Int × List UInt8) × Int × Int × List UInt8) (y : A4_) : retOf2 P0 Try.f15 (kpL []) (lbOf as_win_Put bs_win_Put x) (patS ⟨43, [], [], []⟩ pout_win_Put y) = some (out_win_Put y) := by kernel_rfl
theorem con_win_Put_ok (N : Nat) : Con.ok P0 (con_win_Put N) := ⟨⟨Try.f15, Try.func15, by kernel_rfl, by kernel_rfl⟩, fun (x : List (Int × List UInt8) × Int × Int × List UInt8) (r : A4_) (hr : W_win_Put N x = some r) =>
  spec2_evT (Γ := G_win_Put (W_slices_Clone_api_Item N) (W_win_place N) (W_slices_Insert_api_Item N) N) (Λ := L0) (pout := pout_win_Put) (kp := kpL []) mixed (orcOf_ok _ (by simp only [List.mem_cons, List.not_mem_nil, or_false, forall_eq_or_imp, forall_eq]; exact ⟨con_slices_Clone_api_Item_ok N, con_win_place_ok N, con_slices_Insert_api_Item_ok N⟩)) Try.func15 (c := bodyOf Try.f15) (by kernel_rfl) (by kernel_rfl) (of_decide_eq_true (by kernel_rfl)) ((F_win_Put_eq N x).trans hr) (R_win_Put_eq x r)⟩
def as_win_Take : List AS := [.val (.list T1_), .val (.int .i64)]
def bs_win_Take : List BS := []
def pout_win_Take : Pat := ⟨[(4, .val (.list T1_)), (5, .ptr 600005 0), (6, .val .bool)], [(600005, .box 28 (.val (.pair (.int .i64) .str)))]⟩
noncomputable def G_win_Take (w_slices_Clone_api_Item : List (Int × List UInt8) → Option (List (Int × List UInt8))) (N : Nat) : OrcT := orcOf [conw_slices_Clone_api_Item w_slices_Clone_api_Item]
noncomputable def F_win_Take (w_slices_Clone_api_Item : List (Int × List UInt8) → Option (List (Int × List UInt8))) (N : Nat) (x : List (Int × List UInt8) × Int) : Option A2_ :=
  (evT (G_win_Take w_slices_Clone_api_Item N) L0 P0 []
    [] N 400 (bodyOf Try.f49) ⟨27, slots 0 (argsOf as_win_Take bs_win_Take x), tabU (lbOf as_win_Take bs_win_Take x) [], []⟩).elim (kRet 27 pout_win_Take (kpL []) (lbOf as_win_Take bs_win_Take x))
def out_win_Take (y : A2_) : V × List OK × List OK := (.tup [valW (.list T1_) y.1, valW T1_ y.2.2, valW .bool y.2.1], [], [])
noncomputable def V_win_Take (w_slices_Clone_api_Item : List (Int × List UInt8) → Option (List (Int × List UInt8))) (N : Nat) (x : List (Int × List UInt8) × Int) : Option A2_ :=
  cnd (decide ((↑(List.length x.1) : Int) = (0:Int))) (obind (w_slices_Clone_api_Item x.1) fun b => some (b, false, (0:Int), [])) (cnd (decide
    ((0:Int) ≤ (0:Int)) && decide ((0:Int) < (↑(List.length x.1) : Int))) (cnd (decide (Prod.fst (List.getD x.1 (0:Nat) ((0:Int), [])) ≠ x.2)) (obind
    (w_slices_Clone_api_Item x.1) fun b => some (b, false, (0:Int), [])) (cnd (decide ((0:Int) ≤ (1:Int)) && decide ((1:Int) ≤ (↑(List.length x.1) :
    Int))) (obind (w_slices_Clone_api_Item (List.drop (1:Nat) (List.take (List.length x.1) x.1))) fun b => cnd (decide ((0:Int) ≤ (0:Int)) && decide
    ((0:Int) < (↑(List.length x.1) : Int))) (some (b, true, Prod.fst (List.getD x.1 (0:Nat) ((0:Int), [])), Prod.snd (List.getD x.1 (0:Nat) ((0:Int),
    [])))) none) none)) none)
theorem FV_win_Take_eq (w_slices_Clone_api_Item : List (Int × List UInt8) → Option (List (Int × List UInt8))) (N : Nat) (x : List (Int × List UInt8) × Int) : F_win_Take w_slices_Clone_api_Item N x = V_win_Take w_slices_Clone_api_Item N x := by kernel_rfl
noncomputable def W_win_Take (N : Nat) (x : List (Int × List UInt8) × Int) : Option A2_ := V_win_Take (W_slices_Clone_api_Item N) N x
theorem F_win_Take_eq (N : Nat) (x : List (Int × List UInt8) × Int) : F_win_Take (W_slices_Clone_api_Item N) N x = W_win_Take N x := (FV_win_Take_eq (W_slices_Clone_api_Item N) N x).trans (by kernel_rfl)
noncomputable def conw_win_Take (w : List (Int × List UInt8) × Int → Option A2_) : Con := ⟨49, as_win_Take, bs_win_Take, List (Int × List UInt8) × Bool × Int × List UInt8, w, out_win_Take⟩
noncomputable def con_win_Take (N : Nat) : Con := conw_win_Take (W_win_Take N)
theorem R_win_Take_eq (x : List (Int × List UInt8) × Int) (y : A2_) : retOf2 P0 Try.f49 (kpL []) (lbOf as_win_Take bs_win_Take x) (patS ⟨27, [], [], []⟩ pout_win_Take y) = some (out_win_Take y) := by kernel_rfl
theorem con_win_Take_ok (N : Nat) : Con.ok P0 (con_win_Take N) := ⟨⟨Try.f49, Try.func49, by kernel_rfl, by kernel_rfl⟩, fun (x : List (Int × List UInt8) × Int) (r : A2_) (hr : W_win_Take N x = some r) =>
  spec2_evT (Γ := G_win_Take (W_slices_Clone_api_Item N) N) (Λ := L0) (pout := pout_win_Take) (kp := kpL []) mixed (orcOf_ok _ (by simp only [List.mem_cons, List.not_mem_nil, or_false, forall_eq_or_imp, forall_eq]; exact con_slices_Clone_api_Item_ok N)) Try.func49 (c := bodyOf Try.f49) (by kernel_rfl) (by kernel_rfl) (of_decide_eq_true (by kernel_rfl)) ((F_win_Take_eq N x).trans hr) (R_win_Take_eq x r)⟩
def as_log_Tell : List AS := [.val (.list T2_), .val (.int .i64), .val .str]
def bs_log_Tell : List BS := []
def pout_log_Tell : Pat := ⟨[(6, .val (.list T2_))], []⟩
noncomputable def G_log_Tell (w_slices_Clone_api_Event : List A1_ → Option (List A1_)) (N : Nat) : OrcT := orcOf [conw_slices_Clone_api_Event w_slices_Clone_api_Event]
noncomputable def F_log_Tell (w_slices_Clone_api_Event : List A1_ → Option (List A1_)) (N : Nat) (x : List A1_ × Int × List UInt8) : Option (List A1_) :=
  (evT (G_log_Tell w_slices_Clone_api_Event N) L0 P0 []
    [] N 400 (bodyOf Try.f67) ⟨15, slots 0 (argsOf as_log_Tell bs_log_Tell x), tabU (lbOf as_log_Tell bs_log_Tell x) [], []⟩).elim (kRet 15 pout_log_Tell (kpL []) (lbOf as_log_Tell bs_log_Tell x))
def out_log_Tell (y : List A1_) : V × List OK × List OK := (valW (.list T2_) y, [], [])
noncomputable def V_log_Tell (w_slices_Clone_api_Event : List A1_ → Option (List A1_)) (N : Nat) (x : List A1_ × Int × List UInt8) : Option (List A1_) :=
  obind (w_slices_Clone_api_Event x.1) fun b => cnd (decide ((List.length b + List.length [((1:Int), x.2.1, x.2.1, x.2.2, (0:Int))]) * (48:Nat) ≤ (140737488355328:Nat))) (some (b ++ [((1:Int), x.2.1, x.2.1, x.2.2, (0:Int))])) none
theorem FV_log_Tell_eq (w_slices_Clone_api_Event : List A1_ → Option (List A1_)) (N : Nat) (x : List A1_ × Int × List UInt8) : F_log_Tell w_slices_Clone_api_Event N x = V_log_Tell w_slices_Clone_api_Event N x := by kernel_rfl
noncomputable def W_log_Tell (N : Nat) (x : List A1_ × Int × List UInt8) : Option (List A1_) := V_log_Tell (W_slices_Clone_api_Event N) N x
theorem F_log_Tell_eq (N : Nat) (x : List A1_ × Int × List UInt8) : F_log_Tell (W_slices_Clone_api_Event N) N x = W_log_Tell N x := (FV_log_Tell_eq (W_slices_Clone_api_Event N) N x).trans (by kernel_rfl)
noncomputable def conw_log_Tell (w : List A1_ × Int × List UInt8 → Option (List A1_)) : Con := ⟨67, as_log_Tell, bs_log_Tell, List A1_, w, out_log_Tell⟩
noncomputable def con_log_Tell (N : Nat) : Con := conw_log_Tell (W_log_Tell N)
theorem R_log_Tell_eq (x : List A1_ × Int × List UInt8) (y : List A1_) : retOf2 P0 Try.f67 (kpL []) (lbOf as_log_Tell bs_log_Tell x) (patS ⟨15, [], [], []⟩ pout_log_Tell y) = some (out_log_Tell y) := by kernel_rfl
theorem con_log_Tell_ok (N : Nat) : Con.ok P0 (con_log_Tell N) := ⟨⟨Try.f67, Try.func67, by kernel_rfl, by kernel_rfl⟩, fun (x : List A1_ × Int × List UInt8) (r : List A1_) (hr : W_log_Tell N x = some r) =>
  spec2_evT (Γ := G_log_Tell (W_slices_Clone_api_Event N) N) (Λ := L0) (pout := pout_log_Tell) (kp := kpL []) mixed (orcOf_ok _ (by simp only [List.mem_cons, List.not_mem_nil, or_false, forall_eq_or_imp, forall_eq]; exact con_slices_Clone_api_Event_ok N)) Try.func67 (c := bodyOf Try.f67) (by kernel_rfl) (by kernel_rfl) (of_decide_eq_true (by kernel_rfl)) ((F_log_Tell_eq N x).trans hr) (R_log_Tell_eq x r)⟩
def as_slices_Delete_api_Item : List AS := [.acc 0, .val (.int .i64), .val (.int .i64)]
def bs_slices_Delete_api_Item : List BS := [.nrow 28 T1_ true]
def out_slices_Delete_api_Item (y : List (Int × List UInt8)) : V × List OK × List OK := (.acc 2000000 0, [.dead], [.nrow 28 false true ⟨T1_, y⟩])
noncomputable def W_slices_Delete_api_Item (N : Nat) (x : Int × Int × List (Int × List UInt8)) : Option (List (Int × List UInt8)) :=
  cnd (decide ((0:Int) ≤ x.1) && decide (x.1 < ((↑(List.length x.2.2) : Int) : Int)) && decide (x.2.1 = x.1 + (1:Int)) && decide (List.length x.2.2 ≤
    (140737488355328:Nat)) && decide ((2:Nat) ≤ List.length x.2.2)) (some (List.take (Int.toNat x.1) x.2.2 ++ List.drop (Int.toNat x.1 + (1:Nat))
    x.2.2)) none
noncomputable def conw_slices_Delete_api_Item (w : Int × Int × List (Int × List UInt8) → Option (List (Int × List UInt8))) : Con := ⟨85, as_slices_Delete_api_Item, bs_slices_Delete_api_Item, List (Int × List UInt8), w, out_slices_Delete_api_Item⟩
noncomputable def con_slices_Delete_api_Item (N : Nat) : Con := conw_slices_Delete_api_Item (W_slices_Delete_api_Item N)
theorem con_slices_Delete_api_Item_ok (N : Nat) : Con.ok P0 (con_slices_Delete_api_Item N) := ⟨⟨Try.f85, Try.func85, by kernel_rfl, by kernel_rfl⟩, fun (x : Int × Int × List (Int × List UInt8)) (r : List (Int × List UInt8)) (hr : W_slices_Delete_api_Item N x = some r) => by
  obtain ⟨i, j, l⟩ := x
  exact del_con2 (e := T1_) (ty := 28) (nl := true) (l := l) (r := r) (i := i) (j := j) delF85 rfl (by decide) hr⟩
def as_ring_Add : List AS := [.val (.list T1_), .val T1_]
def bs_ring_Add : List BS := []
def pout_ring_Add : Pat := ⟨[(4, .val (.list T1_))], []⟩
noncomputable def G_ring_Add (w_slices_Clone_api_Item : List (Int × List UInt8) → Option (List (Int × List UInt8))) (w_slices_Delete_api_Item : Int × Int × List (Int × List UInt8) → Option (List (Int × List UInt8))) (N : Nat) : OrcT := orcOf [conw_slices_Clone_api_Item w_slices_Clone_api_Item, conw_slices_Delete_api_Item w_slices_Delete_api_Item]
noncomputable def F_ring_Add (w_slices_Clone_api_Item : List (Int × List UInt8) → Option (List (Int × List UInt8))) (w_slices_Delete_api_Item : Int × Int × List (Int × List UInt8) → Option (List (Int × List UInt8))) (N : Nat) (x : List (Int × List UInt8) × Int × List UInt8) : Option (List (Int × List UInt8)) :=
  (evT (G_ring_Add w_slices_Clone_api_Item w_slices_Delete_api_Item N) L0 P0 []
    [] N 400 (bodyOf Try.f68) ⟨34, slots 0 (argsOf as_ring_Add bs_ring_Add x), tabU (lbOf as_ring_Add bs_ring_Add x) [], []⟩).elim (kRet 34 pout_ring_Add (kpL []) (lbOf as_ring_Add bs_ring_Add x))
def out_ring_Add (y : List (Int × List UInt8)) : V × List OK × List OK := (valW (.list T1_) y, [], [])
noncomputable def V_ring_Add (w_slices_Clone_api_Item : List (Int × List UInt8) → Option (List (Int × List UInt8))) (w_slices_Delete_api_Item : Int × Int × List (Int × List UInt8) → Option (List (Int × List UInt8))) (N : Nat) (x : List (Int × List UInt8) × Int × List UInt8) : Option (List (Int × List UInt8)) :=
  obind (w_slices_Clone_api_Item x.1) fun b => cnd (decide ((0:Int) < (↑(List.length x.1) : Int))) (cnd (decide ((0:Int) ≤ wr .i64 ((↑(List.length
    x.1) : Int) - (1:Int))) && decide (wr .i64 ((↑(List.length x.1) : Int) - (1:Int)) < (↑(List.length x.1) : Int))) (cnd (decide (x.2.1 ≤ Prod.fst
    (List.getD x.1 (Int.toNat (wr .i64 ((↑(List.length x.1) : Int) - (1:Int)))) ((0:Int), [])))) (some b) (cnd (decide ((List.length b + List.length
    [x.2]) * (24:Nat) ≤ (140737488355328:Nat))) (cnd (decide ((6:Int) < (↑(List.length (b ++ [x.2])) : Int))) (obind (w_slices_Delete_api_Item
    ((0:Int), (1:Int), b ++ [x.2])) fun b => some b) (some (b ++ [x.2]))) none)) none) (cnd (decide ((List.length b + List.length [x.2]) * (24:Nat) ≤
    (140737488355328:Nat))) (cnd (decide ((6:Int) < (↑(List.length (b ++ [x.2])) : Int))) (obind (w_slices_Delete_api_Item ((0:Int), (1:Int), b ++
    [x.2])) fun b => some b) (some (b ++ [x.2]))) none)
theorem FV_ring_Add_eq (w_slices_Clone_api_Item : List (Int × List UInt8) → Option (List (Int × List UInt8))) (w_slices_Delete_api_Item : Int × Int × List (Int × List UInt8) → Option (List (Int × List UInt8))) (N : Nat) (x : List (Int × List UInt8) × Int × List UInt8) : F_ring_Add w_slices_Clone_api_Item w_slices_Delete_api_Item N x = V_ring_Add w_slices_Clone_api_Item w_slices_Delete_api_Item N x := by kernel_rfl
noncomputable def W_ring_Add (N : Nat) (x : List (Int × List UInt8) × Int × List UInt8) : Option (List (Int × List UInt8)) := V_ring_Add (W_slices_Clone_api_Item N) (W_slices_Delete_api_Item N) N x
theorem F_ring_Add_eq (N : Nat) (x : List (Int × List UInt8) × Int × List UInt8) : F_ring_Add (W_slices_Clone_api_Item N) (W_slices_Delete_api_Item N) N x = W_ring_Add N x := (FV_ring_Add_eq (W_slices_Clone_api_Item N) (W_slices_Delete_api_Item N) N x).trans (by kernel_rfl)
noncomputable def conw_ring_Add (w : List (Int × List UInt8) × Int × List UInt8 → Option (List (Int × List UInt8))) : Con := ⟨68, as_ring_Add, bs_ring_Add, List (Int × List UInt8), w, out_ring_Add⟩
noncomputable def con_ring_Add (N : Nat) : Con := conw_ring_Add (W_ring_Add N)
theorem R_ring_Add_eq (x : List (Int × List UInt8) × Int × List UInt8) (y : List (Int × List UInt8)) : retOf2 P0 Try.f68 (kpL []) (lbOf as_ring_Add bs_ring_Add x) (patS ⟨34, [], [], []⟩ pout_ring_Add y) = some (out_ring_Add y) := by kernel_rfl
theorem con_ring_Add_ok (N : Nat) : Con.ok P0 (con_ring_Add N) := ⟨⟨Try.f68, Try.func68, by kernel_rfl, by kernel_rfl⟩, fun (x : List (Int × List UInt8) × Int × List UInt8) (r : List (Int × List UInt8)) (hr : W_ring_Add N x = some r) =>
  spec2_evT (Γ := G_ring_Add (W_slices_Clone_api_Item N) (W_slices_Delete_api_Item N) N) (Λ := L0) (pout := pout_ring_Add) (kp := kpL []) mixed (orcOf_ok _ (by simp only [List.mem_cons, List.not_mem_nil, or_false, forall_eq_or_imp, forall_eq]; exact ⟨con_slices_Clone_api_Item_ok N, con_slices_Delete_api_Item_ok N⟩)) Try.func68 (c := bodyOf Try.f68) (by kernel_rfl) (by kernel_rfl) (of_decide_eq_true (by kernel_rfl)) ((F_ring_Add_eq N x).trans hr) (R_ring_Add_eq x r)⟩
def as_wait_Start : List AS := []
def bs_wait_Start : List BS := []
def pout_wait_Start : Pat := ⟨[(0, .ptr 600000 0)], [(600000, .box 33 (.val (.pair (.int .i64) (.int .i64))))]⟩
noncomputable def G_wait_Start  (N : Nat) : OrcT := orcOf []
noncomputable def F_wait_Start  (N : Nat) (x : Unit) : Option (Int × Int) :=
  (evT (G_wait_Start  N) L0 P0 []
    [] N 400 (bodyOf Try.f65) ⟨2, slots 0 (argsOf as_wait_Start bs_wait_Start x), tabU (lbOf as_wait_Start bs_wait_Start x) [], []⟩).elim (kRet 2 pout_wait_Start (kpL []) (lbOf as_wait_Start bs_wait_Start x))
def out_wait_Start (y : Int × Int) : V × List OK × List OK := (valW (.agg (.pair (.int .i64) (.int .i64))) y, [], [])
noncomputable def V_wait_Start  (N : Nat) (x : Unit) : Option (Int × Int) :=
  some ((0:Int), (0:Int))
theorem FV_wait_Start_eq  (N : Nat) (x : Unit) : F_wait_Start  N x = V_wait_Start  N x := by kernel_rfl
noncomputable def W_wait_Start (N : Nat) (x : Unit) : Option (Int × Int) := V_wait_Start  N x
theorem F_wait_Start_eq (N : Nat) (x : Unit) : F_wait_Start  N x = W_wait_Start N x := (FV_wait_Start_eq  N x).trans (by kernel_rfl)
noncomputable def conw_wait_Start (w : Unit → Option (Int × Int)) : Con := ⟨65, as_wait_Start, bs_wait_Start, Int × Int, w, out_wait_Start⟩
noncomputable def con_wait_Start (N : Nat) : Con := conw_wait_Start (W_wait_Start N)
theorem R_wait_Start_eq (x : Unit) (y : Int × Int) : retOf2 P0 Try.f65 (kpL []) (lbOf as_wait_Start bs_wait_Start x) (patS ⟨2, [], [], []⟩ pout_wait_Start y) = some (out_wait_Start y) := by kernel_rfl
theorem con_wait_Start_ok (N : Nat) : Con.ok P0 (con_wait_Start N) := ⟨⟨Try.f65, Try.func65, by kernel_rfl, by kernel_rfl⟩, fun (x : Unit) (r : Int × Int) (hr : W_wait_Start N x = some r) =>
  spec2_evT (Γ := G_wait_Start N) (Λ := L0) (pout := pout_wait_Start) (kp := kpL []) mixed (orcOf_ok [] (by simp)) Try.func65 (c := bodyOf Try.f65) (by kernel_rfl) (by kernel_rfl) (of_decide_eq_true (by kernel_rfl)) ((F_wait_Start_eq N x).trans hr) (R_wait_Start_eq x r)⟩
def as_nak_Goes : List AS := [.val (.agg T0_)]
def bs_nak_Goes : List BS := []
def pout_nak_Goes : Pat := ⟨[(2, .ptr 600002 0), (3, .val (.list T1_))], [(600002, .box 35 (.val T0_))]⟩
noncomputable def G_nak_Goes (w_twin_Feed : Int × Int × List (Int × List UInt8) × List (Int × List UInt8) × List A1_ × Int × Int → Option (Int × A0_)) (w_win_Take : List (Int × List UInt8) × Int → Option A2_) (w_log_Tell : List A1_ × Int × List UInt8 → Option (List A1_)) (w_ring_Add : List (Int × List UInt8) × Int × List UInt8 → Option (List (Int × List UInt8))) (w_wait_Start : Unit → Option (Int × Int)) (N : Nat) : OrcT := orcOf [conw_twin_Feed w_twin_Feed, conw_win_Take w_win_Take, conw_log_Tell w_log_Tell, conw_ring_Add w_ring_Add, conw_wait_Start w_wait_Start]
noncomputable def F_nak_Goes (w_twin_Feed : Int × Int × List (Int × List UInt8) × List (Int × List UInt8) × List A1_ × Int × Int → Option (Int × A0_)) (w_win_Take : List (Int × List UInt8) × Int → Option A2_) (w_log_Tell : List A1_ × Int × List UInt8 → Option (List A1_)) (w_ring_Add : List (Int × List UInt8) × Int × List UInt8 → Option (List (Int × List UInt8))) (w_wait_Start : Unit → Option (Int × Int)) (N : Nat) (x : Int × A0_) : Option A3_ :=
  (evT (G_nak_Goes w_twin_Feed w_win_Take w_log_Tell w_ring_Add w_wait_Start N) L0 P0 [(3, .loop [] ⟨[(2, .ptr 600002 0), (4, .ptr 600004 0), (5, .acc 700005)], [(600002, .box 35 (.val T0_)), (600004, .box 35 (.val T0_)), (700005, .nrow 28 T1_ true true)]⟩ [(.exit 0, ⟨[(2, .ptr 600002 0), (4, .ptr 600004 0), (5, .val (.list T1_))], [(600002, .box 35 (.val T0_)), (600004, .box 35 (.val T0_))]⟩)])]
    [] N 400 (bodyOf Try.f28) ⟨52, slots 0 (argsOf as_nak_Goes bs_nak_Goes x), tabU (lbOf as_nak_Goes bs_nak_Goes x) [], []⟩).elim (kRet 52 pout_nak_Goes (kpL []) (lbOf as_nak_Goes bs_nak_Goes x))
def out_nak_Goes (y : A3_) : V × List OK × List OK := (.tup [valW (.agg T0_) y.2, valW (.list T1_) y.1], [], [])
noncomputable def V_nak_Goes (w_twin_Feed : Int × Int × List (Int × List UInt8) × List (Int × List UInt8) × List A1_ × Int × Int → Option (Int × A0_)) (w_win_Take : List (Int × List UInt8) × Int → Option A2_) (w_log_Tell : List A1_ × Int × List UInt8 → Option (List A1_)) (w_ring_Add : List (Int × List UInt8) × Int × List UInt8 → Option (List (Int × List UInt8))) (w_wait_Start : Unit → Option (Int × Int)) (N : Nat) (x : Int × A0_) : Option A3_ :=
  obind (w_twin_Feed x) fun b => obind (loopN N (fun (v : (Int × A0_) × (Int × A0_) × List (Int × List UInt8)) => obind (w_win_Take (v.2.1.2.2.2.1, v.2.1.1)) fun b => cnd (!b.2.1) (some (Sum.inr (v.2.2, v.1, v.2.1))) (obind
    (w_log_Tell (v.2.1.2.2.2.2.1, b.2.2)) fun b_1 => obind (w_ring_Add (v.2.1.2.2.1, b.2.2)) fun b_2 => cnd (decide ((List.length v.2.2 +
    List.length [b.2.2]) * (24:Nat) ≤ (140737488355328:Nat))) (some (Sum.inl (v.1, (wr .i64 (v.2.1.1 + (1:Int)), v.2.1.2.1, b_2, b.1, b_1,
    v.2.1.2.2.2.2.2), v.2.2 ++ [b.2.2]))) none)) (((0:Int), (0:Int), [], [], [], (0:Int), (0:Int)), b, [])) fun (b : List (Int × List UInt8) × (Int × A0_) × Int × A0_) => cnd (decide ((0:Int) < (↑(List.length b.1) : Int)))
    (obind (w_wait_Start ()) fun b_1 => some (b.1, b.2.2.1, b.2.2.2.1, b.2.2.2.2.1, b.2.2.2.2.2.1, b.2.2.2.2.2.2.1, b_1)) (some (b.1, b.2.2))
theorem FV_nak_Goes_eq (w_twin_Feed : Int × Int × List (Int × List UInt8) × List (Int × List UInt8) × List A1_ × Int × Int → Option (Int × A0_)) (w_win_Take : List (Int × List UInt8) × Int → Option A2_) (w_log_Tell : List A1_ × Int × List UInt8 → Option (List A1_)) (w_ring_Add : List (Int × List UInt8) × Int × List UInt8 → Option (List (Int × List UInt8))) (w_wait_Start : Unit → Option (Int × Int)) (N : Nat) (x : Int × A0_) : F_nak_Goes w_twin_Feed w_win_Take w_log_Tell w_ring_Add w_wait_Start N x = V_nak_Goes w_twin_Feed w_win_Take w_log_Tell w_ring_Add w_wait_Start N x := by kernel_rfl
noncomputable def W_nak_Goes (N : Nat) (x : Int × A0_) : Option A3_ := V_nak_Goes (W_twin_Feed N) (W_win_Take N) (W_log_Tell N) (W_ring_Add N) (W_wait_Start N) N x
theorem F_nak_Goes_eq (N : Nat) (x : Int × A0_) : F_nak_Goes (W_twin_Feed N) (W_win_Take N) (W_log_Tell N) (W_ring_Add N) (W_wait_Start N) N x = W_nak_Goes N x := (FV_nak_Goes_eq (W_twin_Feed N) (W_win_Take N) (W_log_Tell N) (W_ring_Add N) (W_wait_Start N) N x).trans (by kernel_rfl)
noncomputable def conw_nak_Goes (w : Int × Int × List (Int × List UInt8) × List (Int × List UInt8) × List A1_ × Int × Int → Option A3_) : Con := ⟨28, as_nak_Goes, bs_nak_Goes, List (Int × List UInt8) × Int × Int × List (Int × List UInt8) × List (Int × List UInt8) × List A1_ × Int × Int, w, out_nak_Goes⟩
noncomputable def con_nak_Goes (N : Nat) : Con := conw_nak_Goes (W_nak_Goes N)
theorem R_nak_Goes_eq (x : Int × A0_) (y : A3_) : retOf2 P0 Try.f28 (kpL []) (lbOf as_nak_Goes bs_nak_Goes x) (patS ⟨52, [], [], []⟩ pout_nak_Goes y) = some (out_nak_Goes y) := by kernel_rfl
theorem con_nak_Goes_ok (N : Nat) : Con.ok P0 (con_nak_Goes N) := ⟨⟨Try.f28, Try.func28, by kernel_rfl, by kernel_rfl⟩, fun (x : Int × A0_) (r : A3_) (hr : W_nak_Goes N x = some r) =>
  spec2_evT (Γ := G_nak_Goes (W_twin_Feed N) (W_win_Take N) (W_log_Tell N) (W_ring_Add N) (W_wait_Start N) N) (Λ := L0) (pout := pout_nak_Goes) (kp := kpL []) mixed (orcOf_ok _ (by simp only [List.mem_cons, List.not_mem_nil, or_false, forall_eq_or_imp, forall_eq]; exact ⟨con_twin_Feed_ok N, con_win_Take_ok N, con_log_Tell_ok N, con_ring_Add_ok N, con_wait_Start_ok N⟩)) Try.func28 (c := bodyOf Try.f28) (by kernel_rfl) (by kernel_rfl) (of_decide_eq_true (by kernel_rfl)) ((F_nak_Goes_eq N x).trans hr) (R_nak_Goes_eq x r)⟩
def as_feed_Comes : List AS := [.val (.agg T0_), .val T1_]
def bs_feed_Comes : List BS := []
def pout_feed_Comes : Pat := ⟨[(4, .ptr 600004 0)], [(600004, .box 35 (.val T0_))]⟩
noncomputable def G_feed_Comes (w_feed_read : Int × Int × List (Int × List UInt8) × List (Int × List UInt8) × List A1_ × Int × Int → Option (Int ⊕ Unit)) (w_twin_Feed : Int × Int × List (Int × List UInt8) × List (Int × List UInt8) × List A1_ × Int × Int → Option (Int × A0_)) (w_feed_Knows : (Int × A0_) × Int → Option (Int × A0_)) (w_win_Put : List (Int × List UInt8) × Int × Int × List UInt8 → Option A4_) (w_nak_Goes : Int × Int × List (Int × List UInt8) × List (Int × List UInt8) × List A1_ × Int × Int → Option A3_) (N : Nat) : OrcT := orcOf [conw_feed_read w_feed_read, conw_twin_Feed w_twin_Feed, conw_feed_Knows w_feed_Knows, conw_win_Put w_win_Put, conw_nak_Goes w_nak_Goes]
noncomputable def F_feed_Comes (w_feed_read : Int × Int × List (Int × List UInt8) × List (Int × List UInt8) × List A1_ × Int × Int → Option (Int ⊕ Unit)) (w_twin_Feed : Int × Int × List (Int × List UInt8) × List (Int × List UInt8) × List A1_ × Int × Int → Option (Int × A0_)) (w_feed_Knows : (Int × A0_) × Int → Option (Int × A0_)) (w_win_Put : List (Int × List UInt8) × Int × Int × List UInt8 → Option A4_) (w_nak_Goes : Int × Int × List (Int × List UInt8) × List (Int × List UInt8) × List A1_ × Int × Int → Option A3_) (N : Nat) (x : (Int × A0_) × Int × List UInt8) : Option (Int × A0_) :=
  (evT (G_feed_Comes w_feed_read w_twin_Feed w_feed_Knows w_win_Put w_nak_Goes N) L0 P0 []
    [(1000002, .reg [(7, [], ⟨[(2, .ptr 600002 0), (3, .ptr 600003 0), (4, .ptr 600004 0), (20, .val .bool)], [(600002, .box 35 (.val T0_)), (600003, .box 28 (.val (.pair (.int .i64) .str))), (600004, .box 35 (.val T0_))]⟩), (5, [], ⟨[(2, .ptr 600002 0), (3, .ptr 600003 0), (4, .ptr 600004 0), (25, .val .bool)], [(600002, .box 35 (.val T0_)), (600003, .box 28 (.val (.pair (.int .i64) .str))), (600004, .box 35 (.val T0_))]⟩)])] N 400 (bodyOf Try.f39) ⟨54, slots 0 (argsOf as_feed_Comes bs_feed_Comes x), tabU (lbOf as_feed_Comes bs_feed_Comes x) [], []⟩).elim (kRet 54 pout_feed_Comes (kpL []) (lbOf as_feed_Comes bs_feed_Comes x))
def out_feed_Comes (y : Int × A0_) : V × List OK × List OK := (valW (.agg T0_) y, [], [])
noncomputable def V_feed_Comes (w_feed_read : Int × Int × List (Int × List UInt8) × List (Int × List UInt8) × List A1_ × Int × Int → Option (Int ⊕ Unit)) (w_twin_Feed : Int × Int × List (Int × List UInt8) × List (Int × List UInt8) × List A1_ × Int × Int → Option (Int × A0_)) (w_feed_Knows : (Int × A0_) × Int → Option (Int × A0_)) (w_win_Put : List (Int × List UInt8) × Int × Int × List UInt8 → Option A4_) (w_nak_Goes : Int × Int × List (Int × List UInt8) × List (Int × List UInt8) × List A1_ × Int × Int → Option A3_) (N : Nat) (x : (Int × A0_) × Int × List UInt8) : Option (Int × A0_) :=
  obind (w_feed_read x.1) fun b => selim (fun (b : Int) => obind (cnd (decide (x.2.1 < (1:Int))) (some (true, x.1, x.2, (0:Int), (0:Int), [], [], [],
    (0:Int), (0:Int))) (some (decide ((1000000:Int) < x.2.1), x.1, x.2, (0:Int), (0:Int), [], [], [], (0:Int), (0:Int)))) fun (b : Bool × (Int × A0_) × (Int × List UInt8) × Int × A0_) => cnd b.1 (obind (w_twin_Feed b.2.1) fun b
    => some b) (cnd (decide ((12:Int) < (↑(List.length b.2.2.1.2) : Int))) (obind (w_twin_Feed b.2.1) fun b => some b) (obind (w_feed_Knows (b.2.1,
    b.2.2.1.1)) fun b_1 => obind (w_win_Put (b_1.2.2.2.1, b_1.1, b.2.2.1)) fun b => obind (w_nak_Goes (b_1.1, b_1.2.1, b_1.2.2.1, b.1, b_1.2.2.2.2))
    fun b => some b.2))) (fun (c : PUnit) => obind (cnd true (some (true, x.1, x.2, (0:Int), (0:Int), [], [], [], (0:Int), (0:Int))) (some (decide
    ((1000000:Int) < x.2.1), x.1, x.2, (0:Int), (0:Int), [], [], [], (0:Int), (0:Int)))) fun (b : Bool × (Int × A0_) × (Int × List UInt8) × Int × A0_) => cnd b.1 (obind (w_twin_Feed b.2.1) fun b => some b) (cnd (decide ((12:Int)
    < (↑(List.length b.2.2.1.2) : Int))) (obind (w_twin_Feed b.2.1) fun b => some b) (obind (w_feed_Knows (b.2.1, b.2.2.1.1)) fun b_1 => obind
    (w_win_Put (b_1.2.2.2.1, b_1.1, b.2.2.1)) fun b => obind (w_nak_Goes (b_1.1, b_1.2.1, b_1.2.2.1, b.1, b_1.2.2.2.2)) fun b => some b.2))) b
theorem FV_feed_Comes_eq (w_feed_read : Int × Int × List (Int × List UInt8) × List (Int × List UInt8) × List A1_ × Int × Int → Option (Int ⊕ Unit)) (w_twin_Feed : Int × Int × List (Int × List UInt8) × List (Int × List UInt8) × List A1_ × Int × Int → Option (Int × A0_)) (w_feed_Knows : (Int × A0_) × Int → Option (Int × A0_)) (w_win_Put : List (Int × List UInt8) × Int × Int × List UInt8 → Option A4_) (w_nak_Goes : Int × Int × List (Int × List UInt8) × List (Int × List UInt8) × List A1_ × Int × Int → Option A3_) (N : Nat) (x : (Int × A0_) × Int × List UInt8) : F_feed_Comes w_feed_read w_twin_Feed w_feed_Knows w_win_Put w_nak_Goes N x = V_feed_Comes w_feed_read w_twin_Feed w_feed_Knows w_win_Put w_nak_Goes N x := by kernel_rfl
noncomputable def W_feed_Comes (N : Nat) (x : (Int × A0_) × Int × List UInt8) : Option (Int × A0_) := V_feed_Comes (W_feed_read N) (W_twin_Feed N) (W_feed_Knows N) (W_win_Put N) (W_nak_Goes N) N x
theorem F_feed_Comes_eq (N : Nat) (x : (Int × A0_) × Int × List UInt8) : F_feed_Comes (W_feed_read N) (W_twin_Feed N) (W_feed_Knows N) (W_win_Put N) (W_nak_Goes N) N x = W_feed_Comes N x := (FV_feed_Comes_eq (W_feed_read N) (W_twin_Feed N) (W_feed_Knows N) (W_win_Put N) (W_nak_Goes N) N x).trans (by kernel_rfl)
noncomputable def conw_feed_Comes (w : (Int × A0_) × Int × List UInt8 → Option (Int × A0_)) : Con := ⟨39, as_feed_Comes, bs_feed_Comes, Int × Int × List (Int × List UInt8) × List (Int × List UInt8) × List A1_ × Int × Int, w, out_feed_Comes⟩
noncomputable def con_feed_Comes (N : Nat) : Con := conw_feed_Comes (W_feed_Comes N)
theorem R_feed_Comes_eq (x : (Int × A0_) × Int × List UInt8) (y : Int × A0_) : retOf2 P0 Try.f39 (kpL []) (lbOf as_feed_Comes bs_feed_Comes x) (patS ⟨54, [], [], []⟩ pout_feed_Comes y) = some (out_feed_Comes y) := by kernel_rfl
theorem con_feed_Comes_ok (N : Nat) : Con.ok P0 (con_feed_Comes N) := ⟨⟨Try.f39, Try.func39, by kernel_rfl, by kernel_rfl⟩, fun (x : (Int × A0_) × Int × List UInt8) (r : Int × A0_) (hr : W_feed_Comes N x = some r) =>
  spec2_evT (Γ := G_feed_Comes (W_feed_read N) (W_twin_Feed N) (W_feed_Knows N) (W_win_Put N) (W_nak_Goes N) N) (Λ := L0) (pout := pout_feed_Comes) (kp := kpL []) mixed (orcOf_ok _ (by simp only [List.mem_cons, List.not_mem_nil, or_false, forall_eq_or_imp, forall_eq]; exact ⟨con_feed_read_ok N, con_twin_Feed_ok N, con_feed_Knows_ok N, con_win_Put_ok N, con_nak_Goes_ok N⟩)) Try.func39 (c := bodyOf Try.f39) (by kernel_rfl) (by kernel_rfl) (of_decide_eq_true (by kernel_rfl)) ((F_feed_Comes_eq N x).trans hr) (R_feed_Comes_eq x r)⟩
def as_law18_FeedResumes : List AS := [.val (.list (.int .u8)), .val (.list (.int .u8)), .val (.int .u8)]
def bs_law18_FeedResumes : List BS := []
def pout_law18_FeedResumes : Pat := ⟨[(6, .val .bool)], []⟩
noncomputable def G_law18_FeedResumes (w_feed_Begin : (Int × A0_) × Int → Option (Int × A0_)) (w_law18_one : Int → Option (List UInt8)) (w_feed_Comes : (Int × A0_) × Int × List UInt8 → Option (Int × A0_)) (N : Nat) : OrcT := orcOf [con_law18_begun N, conw_feed_Begin w_feed_Begin, conw_law18_one w_law18_one, conw_feed_Comes w_feed_Comes]
noncomputable def F_law18_FeedResumes (w_feed_Begin : (Int × A0_) × Int → Option (Int × A0_)) (w_law18_one : Int → Option (List UInt8)) (w_feed_Comes : (Int × A0_) × Int × List UInt8 → Option (Int × A0_)) (N : Nat) (x : List Int × List Int × Int) : Option (Bool) :=
  (evT (G_law18_FeedResumes w_feed_Begin w_law18_one w_feed_Comes N) L0 P0 [(7, .loop [] ⟨[(7, .ptr 600007 0), (8, .val (.int .i64))], [(600007, .box 35 (.val T0_))]⟩ [(.exit 0, ⟨[(7, .ptr 600007 0)], [(600007, .box 35 (.val T0_))]⟩)]),
    (16, .loop [] ⟨[(7, .ptr 600007 0), (11, .val (.int .i64))], [(600007, .box 35 (.val T0_))]⟩ [(.exit 2, ⟨[(7, .ptr 600007 0)], [(600007, .box 35 (.val T0_))]⟩)]),
    (23, .loop [] ⟨[(7, .ptr 600007 0), (13, .val (.int .i64))], [(600007, .box 35 (.val T0_))]⟩ [(.exit 4, ⟨[], []⟩), (.ret, ⟨[(6, .val .bool)], []⟩)])]
    [] N 400 (bodyOf Try.f9) ⟨128, slots 0 (argsOf as_law18_FeedResumes bs_law18_FeedResumes x), tabU (lbOf as_law18_FeedResumes bs_law18_FeedResumes x) [], []⟩).elim (kRet 128 pout_law18_FeedResumes (kpL []) (lbOf as_law18_FeedResumes bs_law18_FeedResumes x))
def out_law18_FeedResumes (y : Bool) : V × List OK × List OK := (valW .bool y, [], [])
noncomputable def V_law18_FeedResumes (w_feed_Begin : (Int × A0_) × Int → Option (Int × A0_)) (w_law18_one : Int → Option (List UInt8)) (w_feed_Comes : (Int × A0_) × Int × List UInt8 → Option (Int × A0_)) (N : Nat) (x : List Int × List Int × Int) : Option (Bool) :=
  cnd (decide ((20:Int) < (↑(List.length x.1) : Int))) (some true) (cnd (decide ((20:Int) < (↑(List.length x.2.1) : Int))) (some true) (obind
    (w_feed_Begin (((0:Int), (0:Int), [], [], [], (0:Int), (0:Int)), (1:Int))) fun b => obind (loopN N (fun (v : Int × Int × A0_) => cnd (decide (v.1 < (↑(List.length x.1) : Int))) (cnd
    (decide ((0:Int) ≤ v.1) && decide (v.1 < (↑(List.length x.1) : Int))) (obind (w_law18_one (wr .i64 ((1:Int) + wr .i64 (Int.tmod (List.getD x.1
    (Int.toNat v.1) (0:Int)) (12:Int))))) fun b => obind (w_feed_Comes (v.2, wr .i64 ((1:Int) + wr .i64 (Int.tmod (List.getD x.1 (Int.toNat v.1)
    (0:Int)) (12:Int))), b)) fun b => some (Sum.inl (wr .i64 (v.1 + (1:Int)), b))) none) (some (Sum.inr v.2))) ((0:Int), b)) fun (b : Int × A0_) => obind (w_feed_Begin (b, wr .i64 ((1:Int)
    + wr .i64 (Int.tmod x.2.2 (15:Int))))) fun b => cnd (decide (b.2.1 < wr .i64 (Int.tmod x.2.2 (15:Int)))) (some false) (obind (loopN N (fun (v : Int × Int × A0_) => cnd (decide (v.1 <
    (↑(List.length x.2.1) : Int))) (cnd (decide ((0:Int) ≤ v.1) && decide (v.1 < (↑(List.length x.2.1) : Int))) (obind (w_law18_one (wr .i64 ((1:Int)
    + wr .i64 (Int.tmod (List.getD x.2.1 (Int.toNat v.1) (0:Int)) (15:Int))))) fun b => obind (w_feed_Comes (v.2, wr .i64 ((1:Int) + wr .i64 (Int.tmod
    (List.getD x.2.1 (Int.toNat v.1) (0:Int)) (15:Int))), b)) fun b => some (Sum.inl (wr .i64 (v.1 + (1:Int)), b))) none) (some (Sum.inr v.2)))
    ((0:Int), b)) fun (b_1 : Int × A0_) =>
    cnd (decide (b_1.1 < b.1)) (some false) (cnd (decide ((↑(List.length b_1.2.2.2.2.1) : Int) ≠ wr .i64 (b_1.1 - (1:Int)))) (some false) (obind (loopN
    N (fun (v : Int × Int × A0_) => cnd
    (decide (v.1 < (↑(List.length v.2.2.2.2.2.1) : Int))) (cnd (decide ((0:Int) ≤ v.1) && decide (v.1 < (↑(List.length v.2.2.2.2.2.1) : Int))) (cnd
    (decide (Prod.fst (List.getD v.2.2.2.2.2.1 (Int.toNat v.1) ((0:Int), (0:Int), (0:Int), [], (0:Int))) ≠ (1:Int))) (some (Sum.inr (Sum.inr false)))
    (cnd (decide ((0:Int) ≤ v.1) && decide (v.1 < (↑(List.length v.2.2.2.2.2.1) : Int))) (cnd (decide (Prod.fst (Prod.snd (List.getD v.2.2.2.2.2.1
    (Int.toNat v.1) ((0:Int), (0:Int), (0:Int), [], (0:Int)))) ≠ wr .i64 (v.1 + (1:Int)))) (some (Sum.inr (Sum.inr false))) (cnd (decide ((0:Int) ≤ v.1)
    && decide (v.1 < (↑(List.length v.2.2.2.2.2.1) : Int))) (obind (w_law18_one (wr .i64 (v.1 + (1:Int)))) fun b => cnd (!Prod.fst (Prod.snd (Prod.snd
    (Prod.snd (List.getD v.2.2.2.2.2.1 (Int.toNat v.1) ((0:Int), (0:Int), (0:Int), [], (0:Int)))))) == b) (some (Sum.inr (Sum.inr false))) (some
    (Sum.inl (wr .i64 (v.1 + (1:Int)), v.2)))) none)) none)) none) (some (Sum.inr (Sum.inl ())))) ((0:Int), b_1)) fun (b : PUnit ⊕ Bool) => selim (fun
    (b : PUnit) => some true) (fun (c : Bool) => some c) b)))))
theorem FV_law18_FeedResumes_eq (w_feed_Begin : (Int × A0_) × Int → Option (Int × A0_)) (w_law18_one : Int → Option (List UInt8)) (w_feed_Comes : (Int × A0_) × Int × List UInt8 → Option (Int × A0_)) (N : Nat) (x : List Int × List Int × Int) : F_law18_FeedResumes w_feed_Begin w_law18_one w_feed_Comes N x = V_law18_FeedResumes w_feed_Begin w_law18_one w_feed_Comes N x := by kernel_rfl
noncomputable def W_law18_FeedResumes (N : Nat) (x : List Int × List Int × Int) : Option (Bool) := V_law18_FeedResumes (W_feed_Begin N) (W_law18_one N) (W_feed_Comes N) N x
theorem F_law18_FeedResumes_eq (N : Nat) (x : List Int × List Int × Int) : F_law18_FeedResumes (W_feed_Begin N) (W_law18_one N) (W_feed_Comes N) N x = W_law18_FeedResumes N x := (FV_law18_FeedResumes_eq (W_feed_Begin N) (W_law18_one N) (W_feed_Comes N) N x).trans (by kernel_rfl)
noncomputable def conw_law18_FeedResumes (w : List Int × List Int × Int → Option (Bool)) : Con := ⟨9, as_law18_FeedResumes, bs_law18_FeedResumes, Bool, w, out_law18_FeedResumes⟩
noncomputable def con_law18_FeedResumes (N : Nat) : Con := conw_law18_FeedResumes (W_law18_FeedResumes N)
theorem R_law18_FeedResumes_eq (x : List Int × List Int × Int) (y : Bool) : retOf2 P0 Try.f9 (kpL []) (lbOf as_law18_FeedResumes bs_law18_FeedResumes x) (patS ⟨128, [], [], []⟩ pout_law18_FeedResumes y) = some (out_law18_FeedResumes y) := by kernel_rfl
theorem con_law18_FeedResumes_ok (N : Nat) : Con.ok P0 (con_law18_FeedResumes N) := ⟨⟨Try.f9, Try.func9, by kernel_rfl, by kernel_rfl⟩, fun (x : List Int × List Int × Int) (r : Bool) (hr : W_law18_FeedResumes N x = some r) =>
  spec2_evT (Γ := G_law18_FeedResumes (W_feed_Begin N) (W_law18_one N) (W_feed_Comes N) N) (Λ := L0) (pout := pout_law18_FeedResumes) (kp := kpL []) mixed (orcOf_ok _ (by simp only [List.mem_cons, List.not_mem_nil, or_false, forall_eq_or_imp, forall_eq]; exact ⟨con_law18_begun_ok N, con_feed_Begin_ok N, con_law18_one_ok N, con_feed_Comes_ok N⟩)) Try.func9 (c := bodyOf Try.f9) (by kernel_rfl) (by kernel_rfl) (of_decide_eq_true (by kernel_rfl)) ((F_law18_FeedResumes_eq N x).trans hr) (R_law18_FeedResumes_eq x r)⟩
/-! What is reckoned. -/
-- PURE
theorem wr_m {z : Int} (h : -140737488355328 ≤ z) (h2 : z ≤ 140737488355328) : wr .i64 z = z := wr_i64 (by omega) (by omega)
theorem cnd_T {α : Type} {p : Prop} {i : Decidable p} {x y : α} (h : p) : cnd (@decide p i) x y = x := by rw [decide_eq_true h]; rfl
theorem cnd_F {α : Type} {p : Prop} {i : Decidable p} {x y : α} (h : ¬ p) : cnd (@decide p i) x y = y := by rw [decide_eq_false h]; rfl
theorem loopG {σ ρ : Type} {f : σ → Option (σ ⊕ ρ)} (I : Nat → σ → Prop) (B : Nat) (J : ρ → Prop) (hb : ∀ k x, I k x → k ≤ B) (hs : ∀ k x, I k x → (∃ y, f x = some (.inl y) ∧ I (k + 1) y) ∨ ∃ r, f x = some (.inr r) ∧ J r) :
    ∀ (M k : Nat) (x : σ), I k x → B < M + k → ∃ r, loopN M f x = some r ∧ J r
  | 0, k, x, h, hm => by have := hb k x h; omega
  | M + 1, k, x, h, hm => by
    rcases hs k x h with ⟨y, h1, h2⟩ | ⟨r, h1, h2⟩
    · obtain ⟨r, h4, h5⟩ := loopG I B J hb hs M (k + 1) y h2 (by omega)
      exact ⟨r, by simp only [loopN, h1]; exact h4, h5⟩
    · exact ⟨r, by simp only [loopN, h1], h2⟩
theorem loop_G {σ ρ β : Type} {f : σ → Option (σ ⊕ ρ)} {g : ρ → Option β} {x : σ} {N : Nat} (Q : Option β → Prop) (I : Nat → σ → Prop) (B : Nat) (J : ρ → Prop) (hx : I 0 x) (hm : B < N) (hk : ∀ r, J r → Q (g r)) (hb : ∀ k x, I k x → k ≤ B)
    (hs : ∀ k x, I k x → (∃ y, f x = some (.inl y) ∧ I (k + 1) y) ∨ ∃ r, f x = some (.inr r) ∧ J r) : Q (obind (loopN N f x) g) := by
  obtain ⟨r, h1, h2⟩ := loopG I B J hb hs N 0 x hx (by omega)
  rw [h1]; exact hk r h2
abbrev It := Int × List UInt8
abbrev iD : It := ((0 : Int), ([] : List UInt8))
abbrev Ev := Int × Int × Int × List UInt8 × Int
abbrev Fd := Int × Int × List It × List It × List Ev × Int × Int
def z7 : Fd := (0, 0, [], [], [], 0, 0)
def addR (l : List It) (e : It) : List It := if 6 ≤ l.length then (l ++ [e]).drop 1 else l ++ [e]
theorem addR_len (l : List It) (e : It) (hl : l.length ≤ 6) : (addR l e).length = min (l.length + 1) 6 := by
  unfold addR
  split <;> simp <;> omega
theorem drop_consI {l : List It} {i : Nat} (h : i < l.length) : l.drop i = l.getD i iD :: l.drop (i + 1) := by
  rw [List.drop_eq_getElem_cons h, List.getD_eq_getElem?_getD, List.getElem?_eq_getElem h]; rfl
/-- What a row has under a number. -/
def getF : List It → Int → List UInt8 × Bool
  | [], _ => ([], false)
  | w :: r, s => if w.1 = s then (w.2, true) else getF r s
/-- Rising from n on, up to K. -/
def Wk (n K : Int) : List It → Prop
  | [] => True
  | w :: r => n ≤ w.1 ∧ w.1 ≤ K ∧ Wk (w.1 + 1) K r
theorem Wk.mono : ∀ {l : List It} {n n' K K' : Int}, Wk n K l → n' ≤ n → K ≤ K' → Wk n' K' l
  | [], _, _, _, _, _, _, _ => trivial
  | w :: r, n, n', K, K', h, h1, h2 => ⟨by have := h.1; omega, by have := h.2.1; omega, h.2.2.mono (Int.le_refl _) h2⟩
theorem Wk.len : ∀ {l : List It} {n K : Int}, Wk n K l → n ≤ K + 1 → (l.length : Int) ≤ K + 1 - n
  | [], _, _, _, _ => by simp; omega
  | w :: r, n, K, h, h1 => by
    have := h.2.2.len (by have := h.2.1; omega)
    have := h.1
    simp only [List.length_cons]; omega
theorem Wk.mem : ∀ {l : List It} {n K : Int}, Wk n K l → ∀ w ∈ l, n ≤ w.1 ∧ w.1 ≤ K
  | [], _, _, _, _, h => by simp at h
  | x :: r, n, K, h, w, hw => by
    rcases List.mem_cons.1 hw with rfl | hw
    · exact ⟨h.1, h.2.1⟩
    · have := h.2.2.mem w hw; have := h.1; omega
theorem Wk.last : ∀ {l : List It} {n K : Int}, Wk n K l → ∀ _ : 0 < l.length, (l.getD (l.length - 1) iD).1 ≤ K := by
  intro l n K h hl
  have : l.getD (l.length - 1) iD ∈ l := by
    rw [List.getD_eq_getElem?_getD, List.getElem?_eq_getElem (by omega)]; exact List.getElem_mem (by omega)
  exact (h.mem _ this).2
theorem Wk.snoc : ∀ {l : List It} {n K K' : Int} {e : It}, Wk n K l → n ≤ e.1 → K < e.1 → e.1 ≤ K' → Wk n K' (l ++ [e])
  | [], _, _, _, _, _, h1, _, h3 => ⟨h1, h3, trivial⟩
  | w :: r, n, K, K', e, h, h1, h2, h3 => by
    have := h.2.1
    exact ⟨h.1, by omega, h.2.2.snoc (by omega) h2 h3⟩
theorem Wk.drop1 : ∀ {l : List It} {n K : Int}, Wk n K l → Wk n K (l.drop 1)
  | [], _, _, _ => trivial
  | w :: r, n, K, h => h.2.2.mono (by have := h.1; omega) (Int.le_refl _)
theorem Wk.ring {l : List It} {n : Int} {e : It} {K : Int} (h : Wk 1 (n - 1) l) (h1 : 1 ≤ n) (he : e.1 = n) (hK : n ≤ K) : Wk 1 K (addR l e) := by
  have := h.snoc (e := e) (K' := K) (by omega) (by omega) (by omega)
  unfold addR
  split
  · exact this.drop1
  · exact this
theorem getF_none : ∀ {l : List It} {n K : Int}, Wk n K l → ∀ s, s < n → getF l s = ([], false)
  | [], _, _, _, _, _ => rfl
  | w :: r, n, K, h, s, hs => by
    have := h.1
    simp only [getF]
    rw [if_neg (by omega)]
    exact getF_none h.2.2 s (by omega)
def insW (x : It) : List It → List It
  | [] => [x]
  | w :: r => if x.1 < w.1 then x :: w :: r else w :: insW x r
theorem Wk.ins : ∀ {l : List It} {n K : Int} {x : It}, Wk n K l → n ≤ x.1 → x.1 ≤ K → (getF l x.1).2 = false → Wk n K (insW x l)
  | [], n, K, x, _, h1, h2, _ => ⟨h1, h2, trivial⟩
  | w :: r, n, K, x, h, h1, h2, h3 => by
    simp only [getF] at h3
    by_cases c : w.1 = x.1
    · rw [if_pos c] at h3; cases h3
    rw [if_neg c] at h3
    simp only [insW]
    split
    · exact ⟨h1, h2, by omega, h.2.1, h.2.2⟩
    · exact ⟨h.1, h.2.1, h.2.2.ins (by omega) h2 h3⟩
/-- What an item is put to. -/
def putM (l : List It) (n : Int) (x : It) : List It × Bool :=
  if x.1 < n ∨ 8 ≤ x.1 - n ∨ (getF l x.1).2 = true then (l, false) else (insW x l, true)
/-- What is told whose turn it is: items, next, ring, window, log. -/
def goM : List It → Int → List It → List Ev → List It × Int × List It × List It × List Ev
  | [], n, R, L => ([], n, R, [], L)
  | w :: r, n, R, L => if w.1 = n then (w :: (goM r (n + 1) (addR R w) (L ++ [(1, w.1, w.1, w.2, 0)])).1, (goM r (n + 1) (addR R w) (L ++ [(1, w.1, w.1, w.2, 0)])).2) else ([], n, R, w :: r, L)
def goesM (f : Fd) : List It × Fd :=
  let q := goM f.2.2.2.1 f.1 f.2.2.1 f.2.2.2.2.1
  (q.1, q.2.1, f.2.1, q.2.2.1, q.2.2.2.1, q.2.2.2.2, if q.1 = [] then f.2.2.2.2.2 else (0, 0))
/-- One turn of what is skipped: to hi, or to the first one ahead, and what goes then. -/
def knowsM (f : Fd) (t : Int) : Fd := if 0 < f.1 ∧ t ≤ 1000000 then (f.1, max f.2.1 t, f.2.2) else f
def beginM (f : Fd) (n : Int) : Fd := if 0 < f.1 then knowsM f (n - 1) else if 1 ≤ n ∧ n ≤ 1000000 then (n, f.2) else f
def comesM (f : Fd) (x : It) : Fd :=
  if f.1 = 0 ∨ x.1 < 1 ∨ 1000000 < x.1 ∨ (12 : Int) < x.2.length then f else
    let g := knowsM f x.1
    (goesM (g.1, g.2.1, g.2.2.1, (putM g.2.2.2.1 g.1 x).1, g.2.2.2.2)).2
/-- A log that goes from n up to m. -/
def Ch : Int → List Ev → Int → Prop
  | n, [], m => n = m
  | n, e :: r, m => e.2.1 = n ∧ e.2.1 ≤ e.2.2.1 ∧ Ch (e.2.2.1 + 1) r m
theorem Ch.len : ∀ {L : List Ev} {n m : Int}, Ch n L m → (L.length : Int) ≤ m - n
  | [], _, _, h => by have h' : _ = _ := h; simp; omega
  | e :: r, n, m, h => by
    have := h.2.2.len; have := h.1; have := h.2.1
    simp only [List.length_cons]; omega
theorem Ch.snoc : ∀ {L : List Ev} {n m : Int} {e : Ev}, Ch n L m → e.2.1 = m → m ≤ e.2.2.1 → Ch n (L ++ [e]) (e.2.2.1 + 1)
  | [], _, _, e, h, h1, h2 => by have h' : _ = _ := h; exact ⟨by omega, by omega, rfl⟩
  | x :: r, n, m, e, h, h1, h2 => ⟨h.1, h.2.1, h.2.2.snoc h1 h2⟩
/-- Such parts of a feed as may be. -/
structure Fp (K c n : Int) (R W : List It) (L : List Ev) : Prop where
  nx : 1 ≤ n ∧ n ≤ K + 1
  rk : Wk 1 (n - 1) R
  rl : R.length ≤ 6
  wk : Wk n (min K (n + 7)) W
  ch : Ch c L n
  c0 : 0 ≤ c
theorem Fp.tell {K c n : Int} {R r : List It} {w : It} {L : List Ev} (h : Fp K c n R (w :: r) L) (hw : w.1 = n) : Fp K c (n + 1) (addR R w) r (L ++ [(1, w.1, w.1, w.2, 0)]) := by
  obtain ⟨⟨a, b⟩, rk, rl, wk, ch, c0⟩ := h
  have hk := wk.2.1
  refine ⟨⟨by omega, by omega⟩, rk.ring a hw (by omega), by rw [addR_len _ _ rl]; omega, wk.2.2.mono (by omega) (by omega), ?_, c0⟩
  have := ch.snoc (e := (1, w.1, w.1, w.2, 0)) hw (by simp only; omega)
  simp only at this
  rw [hw] at this ⊢
  exact this
/-- What goes is as it may be; how far it went. -/
theorem goM_ok {K c : Int} : ∀ (W : List It) (n : Int) (R : List It) (L : List Ev), Fp K c n R W L → Fp K c (goM W n R L).2.1 (goM W n R L).2.2.1 (goM W n R L).2.2.2.1 (goM W n R L).2.2.2.2 ∧
    Wk ((goM W n R L).2.1 + 1) (min K ((goM W n R L).2.1 + 7)) (goM W n R L).2.2.2.1 ∧ n + (goM W n R L).1.length = (goM W n R L).2.1 ∧ (goM W n R L).1 ++ (goM W n R L).2.2.2.1 = W ∧ (goM W n R L).2.2.2.2 = L ++ (goM W n R L).1.map fun w => (1, w.1, w.1, w.2, 0)
  | [], n, R, L, h => ⟨h, trivial, by simp [goM], rfl, by simp [goM]⟩
  | w :: r, n, R, L, h => by
    unfold goM
    by_cases c1 : w.1 = n
    · rw [if_pos c1]
      obtain ⟨h1, h2, h3, h4, h5⟩ := goM_ok r (n + 1) _ _ (h.tell c1)
      refine ⟨h1, h2, by simp only [List.length_cons]; omega, by simp only [List.cons_append, h4], ?_⟩
      simp only [h5, List.map_cons, List.append_assoc, List.cons_append, List.nil_append]
    · rw [if_neg c1]
      have := h.wk.1
      refine ⟨h, ⟨by simp only; omega, h.wk.2⟩, by simp, rfl, by simp⟩
theorem Fp.lens {K c n : Int} {R W : List It} {L : List Ev} (h : Fp K c n R W L) (hK : K ≤ 10000000) : W.length ≤ 8 ∧ L.length ≤ 10000001 ∧ ∀ _ : 0 < R.length, (R.getD (R.length - 1) iD).1 < n := by
  have a := h.wk.len (by have := h.nx; omega)
  have b := h.ch.len
  have d := h.c0
  have e := h.nx
  refine ⟨by omega, by omega, fun q => ?_⟩
  have := h.rk.last q
  omega
theorem goM_eq (w : It) (r R : List It) (L : List Ev) : goM (w :: r) w.1 R L = (w :: (goM r (w.1 + 1) (addR R w) (L ++ [(1, w.1, w.1, w.2, 0)])).1, (goM r (w.1 + 1) (addR R w) (L ++ [(1, w.1, w.1, w.2, 0)])).2) := by
  conv => lhs; unfold goM
  rw [if_pos rfl]
theorem goM_ne {w : It} {n : Int} (h : w.1 ≠ n) (r R : List It) (L : List Ev) : goM (w :: r) n R L = ([], n, R, w :: r, L) := by
  conv => lhs; unfold goM
  rw [if_neg h]
/-- Such a feed as may be. -/
structure FI (K c : Int) (f : Fd) : Prop where
  n0 : 0 ≤ f.1
  tp : 0 ≤ f.2.1 ∧ f.2.1 ≤ K
  p : 1 ≤ f.1 → Fp K c f.1 f.2.2.1 f.2.2.2.1 f.2.2.2.2.1
  ask : 0 ≤ f.2.2.2.2.2.1 ∧ f.2.2.2.2.2.1 ≤ 3
  z : f.1 = 0 → f.2.2.1 = [] ∧ f.2.2.2.1 = [] ∧ f.2.2.2.2.1 = []
theorem FI.knows {K c : Int} {f : Fd} (h : FI K c f) (t : Int) (ht : t ≤ 1000000 → t ≤ K) : FI K c (knowsM f t) ∧ (knowsM f t).1 = f.1 := by
  unfold knowsM
  split
  · rename_i q
    have := h.tp
    have := ht q.2
    exact ⟨⟨h.n0, ⟨by simp only; omega, by simp only; omega⟩, h.p, h.ask, h.z⟩, rfl⟩
  · exact ⟨h, rfl⟩
theorem FI.goes {K c : Int} {f : Fd} (h : FI K c f) (h1 : 1 ≤ f.1) : FI K c (goesM f).2 ∧ f.1 ≤ (goesM f).2.1 ∧ Wk ((goesM f).2.1 + 1) (min K ((goesM f).2.1 + 7)) (goesM f).2.2.2.2.1 := by
  obtain ⟨g1, g2, g3, g4, g5⟩ := goM_ok _ _ _ _ (h.p h1)
  unfold goesM
  refine ⟨⟨by simp only; omega, h.tp, fun _ => g1, ?_, fun q => by simp only at q; omega⟩, by simp only; omega, g2⟩
  simp only
  split
  · exact h.ask
  · exact ⟨by simp, by simp⟩
theorem pCloneI (N : Nat) (l : List It) (hl : l.length ≤ 100000000) : W_slices_Clone_api_Item N l = some l := by
  unfold W_slices_Clone_api_Item V_slices_Clone_api_Item
  rw [cnd_T (by omega)]
theorem pCloneE (N : Nat) (l : List Ev) (hl : l.length ≤ 100000000) : W_slices_Clone_api_Event N l = some l := by
  unfold W_slices_Clone_api_Event V_slices_Clone_api_Event
  rw [cnd_T (by omega)]
theorem pTell (N : Nat) (a : List Ev) (n : Int) (t : List UInt8) (hl : a.length ≤ 100000000) : W_log_Tell N (a, n, t) = some (a ++ [(1, n, n, t, 0)]) := by
  unfold W_log_Tell V_log_Tell
  simp only
  rw [pCloneE N a hl, obind_s, cnd_T (by simp only [List.length_cons, List.length_nil]; omega)]
theorem pAdd (N : Nat) (l : List It) (e : It) (hl : l.length ≤ 6) (hs : ∀ h : 0 < l.length, (l.getD (l.length - 1) iD).1 < e.1) : W_ring_Add N (l, e.1, e.2) = some (addR l e) := by
  unfold W_ring_Add V_ring_Add
  simp only
  rw [pCloneI N l (by omega), obind_s]
  have tail : cnd (decide ((List.length l + List.length [(e.1, e.2)]) * (24 : Nat) ≤ (140737488355328 : Nat)))
      (cnd (decide ((6 : Int) < (↑(List.length (l ++ [(e.1, e.2)])) : Int))) (obind (W_slices_Delete_api_Item N ((0 : Int), (1 : Int), l ++ [(e.1, e.2)])) fun (b : List It) => some b) (some (l ++ [(e.1, e.2)]))) none = some (addR l e) := by
    rw [cnd_T (by simp only [List.length_singleton]; omega)]
    unfold addR
    by_cases h6 : 6 ≤ l.length
    · rw [if_pos h6, cnd_T (by simp only [List.length_append, List.length_singleton]; omega)]
      unfold W_slices_Delete_api_Item
      simp only
      rw [dT (by omega), dT (by simp only [List.length_append, List.length_singleton]; omega), dT (by omega), dT (by simp only [List.length_append, List.length_singleton]; omega), dT (by simp only [List.length_append, List.length_singleton]; omega)]
      simp only [Bool.and_self, cnd_t, obind_s]
      rfl
    · rw [if_neg h6, cnd_F (by simp only [List.length_append, List.length_singleton]; omega)]
  by_cases h0 : (0 : Int) < l.length
  · have w1 : wr .i64 ((l.length : Int) - 1) = ((l.length - 1 : Nat) : Int) := by rw [wr_m (by omega) (by omega)]; omega
    have h1 := hs (by omega)
    rw [dT h0, cnd_t, w1, dT (by omega), dT (by omega), Bool.and_self, cnd_t, Int.toNat_natCast, dF (by show ¬ e.1 ≤ (l.getD (l.length - 1) iD).1; omega), cnd_f]
    exact tail
  · rw [dF h0, cnd_f]
    exact tail
theorem Take_nil (N : Nat) (n : Int) : W_win_Take N ([], n) = some ([], false, 0, []) := by
  unfold W_win_Take V_win_Take
  simp only [List.length_nil]
  rw [dT (by omega), cnd_t, pCloneI N [] (by simp), obind_s]
theorem Take_no (N : Nat) (w : It) (r : List It) (n : Int) (h : w.1 ≠ n) (hr : r.length ≤ 1000) : W_win_Take N (w :: r, n) = some (w :: r, false, 0, []) := by
  unfold W_win_Take V_win_Take
  simp only [List.length_cons]
  rw [dF (by omega), cnd_f, dT (by omega), dT (by omega), Bool.and_self, cnd_t]
  have e : (List.getD (w :: r) 0 ((0 : Int), ([] : List UInt8))) = w := rfl
  rw [e, dT h, cnd_t, pCloneI N (w :: r) (by simp only [List.length_cons]; omega), obind_s]
theorem Take_yes (N : Nat) (w : It) (r : List It) (hr : r.length ≤ 1000) : W_win_Take N (w :: r, w.1) = some (r, true, w.1, w.2) := by
  unfold W_win_Take V_win_Take
  simp only [List.length_cons]
  have e : (List.getD (w :: r) 0 ((0 : Int), ([] : List UInt8))) = w := rfl
  have e2 : List.drop 1 (List.take (r.length + 1) (w :: r)) = r := by simp
  rw [dF (by omega), cnd_f, dT (by omega), dT (by omega), Bool.and_self, cnd_t, e, dF (fun q => q rfl), cnd_f, dT (by omega), dT (by omega), Bool.and_self, cnd_t, e2, pCloneI N r (by omega), obind_s, cnd_t]
theorem pTwin (N : Nat) (f : Fd) (h1 : f.2.2.1.length ≤ 100000000) (h2 : f.2.2.2.1.length ≤ 100000000) (h3 : f.2.2.2.2.1.length ≤ 100000000) : W_twin_Feed N f = some f := by
  obtain ⟨n, t, R, Wn, L, a, b⟩ := f
  unfold W_twin_Feed V_twin_Feed
  simp only at h1 h2 h3 ⊢
  rw [pCloneI N R h1, obind_s, pCloneI N Wn h2, obind_s, pCloneE N L h3, obind_s]
theorem Fp.twin (N : Nat) {K c : Int} {f : Fd} (h : Fp K c f.1 f.2.2.1 f.2.2.2.1 f.2.2.2.2.1) (hK : K ≤ 10000000) : W_twin_Feed N f = some f := by
  obtain ⟨a, b, _⟩ := h.lens hK
  exact pTwin N f (by have := h.rl; omega) (by omega) (by omega)
theorem FI.twin (N : Nat) {K c : Int} {f : Fd} (h : FI K c f) (hK : K ≤ 10000000) : W_twin_Feed N f = some f := by
  by_cases q : 1 ≤ f.1
  · exact (h.p q).twin N hK
  · obtain ⟨a, b, d⟩ := h.z (by have := h.n0; omega)
    exact pTwin N f (by rw [a]; simp) (by rw [b]; simp) (by rw [d]; simp)
theorem pStart (N : Nat) : W_wait_Start N () = some (0, 0) := rfl
theorem pGoes_eq (N : Nat) (hN : 2000 ≤ N) {K c : Int} {f : Fd} (h : Fp K c f.1 f.2.2.1 f.2.2.2.1 f.2.2.2.2.1) (hK : K ≤ 10000000) : W_nak_Goes N f = some (goesM f) := by
  have ht := h.twin N hK
  obtain ⟨nx, tp, R, Wn, Lg, a, b⟩ := f
  unfold W_nak_Goes V_nak_Goes goesM
  simp only at h ⊢
  rw [ht, obind_s]
  have hwl := (h.lens hK).1
  refine loop_G (N := N) (x := (z7, (nx, tp, R, Wn, Lg, a, b), [])) (fun q => q = some ((goM Wn nx R Lg).1, (goM Wn nx R Lg).2.1, tp, (goM Wn nx R Lg).2.2.1, (goM Wn nx R Lg).2.2.2.1, (goM Wn nx R Lg).2.2.2.2, if (goM Wn nx R Lg).1 = [] then (a, b) else (0, 0)))
    (fun k (v : Fd × Fd × List It) => v.1 = z7 ∧ Fp K c v.2.1.1 v.2.1.2.2.1 v.2.1.2.2.2.1 v.2.1.2.2.2.2.1 ∧ v.2.1.2.1 = tp ∧ v.2.1.2.2.2.1.length + k = Wn.length ∧ v.2.2.length = k ∧ (v.2.2 ++ (goM v.2.1.2.2.2.1 v.2.1.1 v.2.1.2.2.1 v.2.1.2.2.2.2.1).1, (goM v.2.1.2.2.2.1 v.2.1.1 v.2.1.2.2.1 v.2.1.2.2.2.2.1).2) = goM Wn nx R Lg ∧ v.2.1.2.2.2.2.2 = (a, b)) Wn.length
    (fun r : List It × Fd × Fd => r.1 = (goM Wn nx R Lg).1 ∧ r.2.2 = ((goM Wn nx R Lg).2.1, tp, (goM Wn nx R Lg).2.2.1, (goM Wn nx R Lg).2.2.2.1, (goM Wn nx R Lg).2.2.2.2, a, b)) ⟨rfl, h, rfl, by simp, rfl, by simp, rfl⟩ (by omega) ?_ (fun k v h => by have := h.2.2.2.1; omega) ?_
  · rintro ⟨o, z, f⟩ ⟨rfl, rfl⟩
    simp only
    cases hq : (goM Wn nx R Lg).1 with
    | nil => rw [dF (by simp), cnd_f, if_pos rfl]
    | cons x l => rw [dT (by simp only [List.length_cons]; omega), cnd_t, pStart, obind_s, if_neg (by simp)]
  · rintro k ⟨z, ⟨n', t', R', W', L', a', b'⟩, o⟩ ⟨rfl, hf, rfl, hwk, hol, hq, hab⟩
    simp only at hf hwk hol hq hab ⊢
    cases hab
    obtain ⟨l1, l2, l3⟩ := hf.lens hK
    have hnx := hf.nx
    cases W' with
    | nil =>
      right
      rw [Take_nil, obind_s]
      simp only [Bool.not_false, cnd_t]
      refine ⟨_, rfl, ?_⟩
      simp only [goM, List.append_nil] at hq
      rw [← hq]
      exact ⟨rfl, rfl⟩
    | cons w r =>
      simp only [List.length_cons] at hwk l1
      by_cases cw : w.1 = n'
      · left
        obtain rfl : n' = w.1 := cw.symm
        rw [Take_yes N w r (by omega), obind_s]
        simp only [Bool.not_true, cnd_f]
        rw [pTell N L' w.1 w.2 (by omega), obind_s, pAdd N R' (w.1, w.2) hf.rl l3, obind_s]
        have hs := hf.tell rfl
        rw [goM_eq] at hq
        refine ⟨_, cnd_T (by simp only [List.length_cons, List.length_nil]; omega), rfl, ?_, rfl, by simp only; omega, by simp [hol], ?_, rfl⟩
        · simp only
          rw [wr_m (by omega) (by omega)]
          exact hs
        · simp only
          rw [wr_m (by omega) (by omega), ← hq]
          simp only [List.append_assoc, List.cons_append, List.nil_append]
      · right
        rw [Take_no N w r n' cw (by omega), obind_s]
        simp only [Bool.not_false, cnd_t]
        rw [goM_ne cw] at hq
        refine ⟨_, rfl, ?_⟩
        simp only [List.append_nil] at hq
        rw [← hq]
        exact ⟨rfl, rfl⟩
theorem pRead0 (N : Nat) {f : Fd} (h : f.1 < 1) : W_feed_read N f = some (.inr ()) := by
  unfold W_feed_read V_feed_read
  rw [dT h, cnd_t]
theorem pRead1 (N : Nat) {f : Fd} (h : ¬ f.1 < 1) : W_feed_read N f = some (.inl f.1) := by
  unfold W_feed_read V_feed_read
  rw [dF h, cnd_f]
theorem pKnows_eq (N : Nat) (f : Fd) (t : Int) (ht : W_twin_Feed N f = some f) : W_feed_Knows N (f, t) = some (knowsM f t) := by
  have r0 := @pRead0 N f; have r1 := @pRead1 N f
  obtain ⟨nx, tp, R, Wn, Lg, a, b⟩ := f
  unfold W_feed_Knows V_feed_Knows knowsM
  simp only at r0 r1 ⊢
  rw [ht, obind_s]
  by_cases c1 : nx < 1
  · rw [r0 c1, obind_s, selim_r, if_neg (by omega)]
  · rw [r1 c1, obind_s, selim_l]
    by_cases c2 : t ≤ 1000000
    · rw [dT c2, cnd_t, if_pos ⟨by omega, c2⟩]
    · rw [dF c2, cnd_f, if_neg (fun q => c2 q.2)]
theorem pBegin_eq (N : Nat) (f : Fd) (n : Int) (ht : W_twin_Feed N f = some f) (hw : 0 < f.1 → knowsM f (wr .i64 (n - 1)) = knowsM f (n - 1)) : W_feed_Begin N (f, n) = some (beginM f n) := by
  have hk := pKnows_eq N f (wr .i64 (n - 1)) ht
  have r0 := @pRead0 N f; have r1 := @pRead1 N f
  obtain ⟨nx, tp, R, Wn, Lg, a, b⟩ := f
  unfold W_feed_Begin V_feed_Begin beginM
  simp only at r0 r1 hw ⊢
  by_cases c1 : nx < 1
  · rw [r0 c1, obind_s, selim_r, ht, obind_s, if_neg (by omega)]
    by_cases c2 : 1 ≤ n
    · rw [dT c2, cnd_t]
      by_cases c3 : n ≤ 1000000
      · rw [dT c3, cnd_t, if_pos ⟨c2, c3⟩]
      · rw [dF c3, cnd_f, if_neg (fun q => c3 q.2)]
    · rw [dF c2, cnd_f, if_neg (fun q => c2 q.1)]
  · rw [r1 c1, obind_s, selim_l, hk, obind_s, if_pos (by omega), hw (by omega)]
/-- Where an item has its place. -/
def insN (x : Int) : List It → Nat
  | [] => 0
  | w :: r => if x < w.1 then 0 else insN x r + 1
theorem insN_eq (x : It) : ∀ l, List.take (insN x.1 l) l ++ ([x] ++ List.drop (insN x.1 l) l) = insW x l
  | [] => rfl
  | w :: r => by
    simp only [insN, insW]
    by_cases q : x.1 < w.1
    · rw [if_pos q, if_pos q]; rfl
    · rw [if_neg q, if_neg q]
      simp only [List.take_succ_cons, List.drop_succ_cons, List.cons_append]
      rw [← insN_eq x r]; rfl
theorem insN_le (x : Int) : ∀ l, insN x l ≤ l.length
  | [] => by simp [insN]
  | w :: r => by
    simp only [insN, List.length_cons]
    have := insN_le x r
    split <;> omega
theorem Wk.drop : ∀ {l : List It} {n K : Int}, Wk n K l → ∀ k, Wk n K (l.drop k)
  | l, _, _, h, 0 => by simpa using h
  | [], _, _, _, k + 1 => by simp; trivial
  | w :: r, n, K, h, k + 1 => (h.2.2.drop k).mono (by have := h.1; omega) (Int.le_refl _)
theorem pPlace_eq (N : Nat) (hN : 2000 ≤ N) (l : List It) (s n K : Int) (hw : Wk n K l) (hl : l.length ≤ 1000) : W_win_place N (l, s) = some (if (getF l s).2 = true then .inr () else .inl (insN s l : Int)) := by
  unfold W_win_place V_win_place
  simp only
  refine loop_G (N := N) (fun o => o = some (if (getF l s).2 = true then (.inr () : Int ⊕ PUnit) else .inl (insN s l : Int))) (fun k (v : Int) => v = k ∧ k ≤ l.length ∧ getF (l.drop k) s = getF l s ∧ insN s (l.drop k) + k = insN s l) l.length (fun r : PUnit ⊕ Int ⊕ PUnit => (r = .inl () ∧ (getF l s).2 = false ∧ insN s l = l.length) ∨ (r = .inr (if (getF l s).2 = true then (.inr () : Int ⊕ PUnit) else .inl (insN s l : Int)))) ⟨rfl, by omega, rfl, by simp⟩ (by omega) ?_ (fun k v h => h.2.1) ?_
  · rintro r (⟨rfl, h, h2⟩ | rfl)
    · rw [selim_l, h, if_neg (by simp), h2]
    · rw [selim_r]
  · rintro k v ⟨e, hk, hg, hi⟩
    subst e
    by_cases c : (k : Int) < l.length
    case neg =>
      right
      rw [dF c, cnd_f]
      rw [List.drop_eq_nil_of_le (by omega)] at hg hi
      exact ⟨_, rfl, .inl ⟨rfl, by rw [← hg]; rfl, by simp only [insN] at hi; omega⟩⟩
    have hwd := hw.drop k
    rw [drop_consI (by omega)] at hg hi hwd
    simp only [getF, insN] at hg hi
    rw [dT c, cnd_t, dT (by omega), Bool.and_self, cnd_t, Int.toNat_natCast]
    by_cases c2 : (l.getD k iD).1 = s
    · right
      rw [if_pos c2] at hg
      rw [dT c2, cnd_t]
      exact ⟨_, rfl, .inr (by rw [← hg]; rfl)⟩
    rw [if_neg c2] at hg
    rw [dF c2, cnd_f]
    by_cases c3 : s < (l.getD k iD).1
    · right
      rw [if_pos c3] at hi
      rw [dT c3, cnd_t]
      have := getF_none hwd.2.2 s (by omega)
      rw [this] at hg
      refine ⟨_, rfl, .inr ?_⟩
      rw [← hg, if_neg (by simp)]
      congr 2; omega
    · left
      rw [if_neg c3] at hi
      rw [dF c3, cnd_f, wr_m (by omega) (by omega)]
      exact ⟨_, rfl, by omega, by omega, hg, by omega⟩
theorem pPut_eq (N : Nat) (hN : 2000 ≤ N) (l : List It) (n m K : Int) (x : It) (hw : Wk m K l) (hl : l.length ≤ 1000) (hn : 0 ≤ n) (hn2 : n ≤ 10000001) : W_win_Put N (l, n, x) = some (putM l n x) := by
  unfold W_win_Put V_win_Put putM
  simp only
  rw [pCloneI N l (by omega), obind_s, pPlace_eq N hN l x.1 m K hw hl, obind_s]
  by_cases c1 : (getF l x.1).2 = true
  · rw [if_pos c1, selim_r, cnd_t, if_pos (.inr (.inr c1))]
  rw [if_neg c1, selim_l]
  by_cases c2 : x.1 < n
  · rw [dT c2, cnd_t, if_pos (.inl c2)]
  rw [dF c2, cnd_f, wr_m (by omega) (by omega)]
  by_cases c3 : n + 8 ≤ x.1
  · rw [dT c3, cnd_t, if_pos (.inr (.inl (by omega)))]
  rw [dF c3, cnd_f, if_neg (by rintro (q | q | q) <;> first | omega | exact c1 q)]
  have h1 := insN_le x.1 l
  unfold W_slices_Insert_api_Item
  simp only
  rw [dT (by omega), dT (by omega), dT (by rfl), dT (by omega)]
  simp only [Bool.and_self, cnd_t, obind_s, Int.toNat_natCast]
  rw [insN_eq]
theorem FI.put {K c : Int} {f : Fd} (h : FI K c f) (h1 : 1 ≤ f.1) (x : It) (hx : x.1 ≤ K) : FI K c (f.1, f.2.1, f.2.2.1, (putM f.2.2.2.1 f.1 x).1, f.2.2.2.2) := by
  have hp := h.p h1
  refine ⟨h.n0, h.tp, fun _ => ⟨hp.nx, hp.rk, hp.rl, ?_, hp.ch, hp.c0⟩, h.ask, fun q => by simp only at q; omega⟩
  simp only
  unfold putM
  by_cases c1 : x.1 < f.1 ∨ 8 ≤ x.1 - f.1 ∨ (getF f.2.2.2.1 x.1).2 = true
  · rw [if_pos c1]; exact hp.wk
  · rw [if_neg c1]
    exact hp.wk.ins (by omega) (by omega) (by have : ¬ (getF f.2.2.2.1 x.1).2 = true := fun q => c1 (.inr (.inr q)); simpa using this)
theorem pComes_eq (N : Nat) (hN : 2000 ≤ N) {K c : Int} {f : Fd} (h : FI K c f) (hK : K ≤ 10000000) (x : It) (hx : x.1 ≤ 1000000 → x.1 ≤ K) : W_feed_Comes N (f, x) = some (comesM f x) := by
  obtain ⟨k1, k2⟩ := h.knows x.1 hx
  have ht := h.twin N hK
  have hkn := pKnows_eq N f x.1 ht
  have h0 := h.n0
  have r0 := @pRead0 N f; have r1 := @pRead1 N f
  obtain ⟨nx, tp, R, Wn, Lg, a, b⟩ := f
  unfold W_feed_Comes V_feed_Comes comesM
  simp only at k2 h0 r0 r1 ⊢
  by_cases c0 : nx < 1
  · rw [r0 c0, obind_s, selim_r, cnd_t, obind_s]
    simp only [cnd_t]
    rw [ht, obind_s, if_pos (.inl (by omega))]
  rw [r1 c0, obind_s, selim_l]
  by_cases c1 : x.1 < 1
  · rw [dT c1, cnd_t, obind_s]
    simp only [cnd_t]
    rw [ht, obind_s, if_pos (.inr (.inl c1))]
  rw [dF c1, cnd_f, obind_s]
  simp only
  by_cases c2 : 1000000 < x.1
  · rw [dT c2, cnd_t, ht, obind_s, if_pos (.inr (.inr (.inl c2)))]
  rw [dF c2, cnd_f]
  by_cases c3 : (12 : Int) < x.2.length
  · rw [dT c3, cnd_t, ht, obind_s, if_pos (.inr (.inr (.inr c3)))]
  rw [dF c3, cnd_f, if_neg (by omega), hkn, obind_s]
  obtain ⟨g, hg⟩ : ∃ g, knowsM (nx, tp, R, Wn, Lg, a, b) x.1 = g := ⟨_, rfl⟩
  rw [hg] at k1 k2 ⊢
  have hg1 : 1 ≤ g.1 := by omega
  have hp := k1.p hg1
  have hn := hp.nx
  have hl := hp.lens hK
  have e1 := pPut_eq N hN g.2.2.2.1 g.1 _ _ x hp.wk (by omega) (by omega) (by omega)
  have hF := k1.put hg1 x (hx (by omega))
  have e2 := pGoes_eq N hN (hF.p hg1) hK
  show obind (W_win_Put N (g.2.2.2.1, g.1, x)) _ = _
  rw [e1, obind_s]
  show obind (W_nak_Goes N (g.1, g.2.1, g.2.2.1, (putM g.2.2.2.1 g.1 x).1, g.2.2.2.2)) _ = _
  rw [e2, obind_s]
theorem FI.comes {K c : Int} {f : Fd} (h : FI K c f) (x : It) (hx : x.1 ≤ 1000000 → x.1 ≤ K) : FI K c (comesM f x) := by
  unfold comesM
  split
  · exact h
  rename_i q
  have hg := h.knows x.1 hx
  have h0 := h.n0
  exact ((hg.1.put (by omega) x (hx (by omega))).goes (by simp only; omega)).1
/-- A feed that has gone on. -/
def Le (f g : Fd) : Prop := f.1 ≤ g.1 ∧ f.2.1 ≤ g.2.1 ∧ ∃ e, g.2.2.2.2.1 = f.2.2.2.2.1 ++ e
theorem Le.refl (f : Fd) : Le f f := ⟨Int.le_refl _, Int.le_refl _, [], by simp⟩
theorem Le.trans {f g h : Fd} (a : Le f g) (b : Le g h) : Le f h := by
  obtain ⟨a1, a2, e1, a3⟩ := a
  obtain ⟨b1, b2, e2, b3⟩ := b
  exact ⟨by omega, by omega, e1 ++ e2, by rw [b3, a3, List.append_assoc]⟩
theorem knows_Le (f : Fd) (t : Int) : Le f (knowsM f t) := by
  unfold knowsM
  split
  · exact ⟨Int.le_refl _, by simp only; omega, [], by simp⟩
  · exact Le.refl f
theorem goM_pre : ∀ (W : List It) (n : Int) (R : List It) (L : List Ev), n ≤ (goM W n R L).2.1 ∧ ∃ e, (goM W n R L).2.2.2.2 = L ++ e
  | [], n, R, L => ⟨Int.le_refl _, [], by simp [goM]⟩
  | w :: r, n, R, L => by
    by_cases c : w.1 = n
    · subst c
      rw [goM_eq]
      obtain ⟨a, e, b⟩ := goM_pre r (w.1 + 1) (addR R w) (L ++ [(1, w.1, w.1, w.2, 0)])
      exact ⟨by simp only; omega, (1, w.1, w.1, w.2, 0) :: e, by simp only; rw [b, List.append_assoc]; rfl⟩
    · rw [goM_ne c]; exact ⟨Int.le_refl _, [], by simp⟩
theorem goes_Le (f : Fd) : Le f (goesM f).2 := by
  obtain ⟨a, e, b⟩ := goM_pre f.2.2.2.1 f.1 f.2.2.1 f.2.2.2.2.1
  exact ⟨a, Int.le_refl _, e, b⟩
theorem comes_Le (f : Fd) (x : It) : Le f (comesM f x) := by
  unfold comesM
  split
  · exact Le.refl f
  · exact ((knows_Le f x.1).trans ⟨Int.le_refl _, Int.le_refl _, [], by simp⟩).trans (goes_Le _)
/-- One of many deeds. -/
theorem tm (x k : Int) (h : 0 ≤ x) : Int.tmod x k = x % k := Int.tmod_eq_emod_of_nonneg h
theorem FI.lens {K c : Int} {f : Fd} (h : FI K c f) (hK : K ≤ 10000000) : f.2.2.1.length ≤ 6 ∧ f.2.2.2.1.length ≤ 8 ∧ f.2.2.2.2.1.length ≤ 10000001 := by
  by_cases q : 1 ≤ f.1
  · obtain ⟨a, b, _⟩ := (h.p q).lens hK
    exact ⟨(h.p q).rl, a, b⟩
  · obtain ⟨a, b, e⟩ := h.z (by have := h.n0; omega)
    rw [a, b, e]; simp
theorem FI.nx {K c : Int} {f : Fd} (h : FI K c f) (hK : 0 ≤ K) : 0 ≤ f.1 ∧ f.1 ≤ K + 1 := by
  refine ⟨h.n0, ?_⟩
  by_cases q : 1 ≤ f.1
  · exact (h.p q).nx.2
  · omega
theorem FI_z7 : FI 1000000 0 z7 := ⟨by decide, ⟨by decide, by decide⟩, fun q => by simp [z7] at q, ⟨by decide, by decide⟩, fun _ => ⟨rfl, rfl, rfl⟩⟩
/-- All items and events of a feed. -/
structure FA (P : It → Prop) (Q : Ev → Prop) (f : Fd) : Prop where
  w : ∀ x ∈ f.2.2.2.1, P x
  r : ∀ x ∈ f.2.2.1, P x
  l : ∀ e ∈ f.2.2.2.2.1, Q e
theorem addR_all {P : It → Prop} {R : List It} {w : It} (h : ∀ x ∈ R, P x) (hw : P w) : ∀ x ∈ addR R w, P x := by
  intro x hx
  have : x ∈ R ++ [w] := by
    unfold addR at hx
    split at hx
    · exact List.mem_of_mem_drop hx
    · exact hx
  rcases List.mem_append.1 this with h1 | h1
  · exact h x h1
  · rw [List.mem_singleton.1 h1]; exact hw
theorem goM_all {P : It → Prop} {Q : Ev → Prop} (hPQ : ∀ w : It, P w → Q (1, w.1, w.1, w.2, 0)) : ∀ (W : List It) (n : Int) (R : List It) (L : List Ev), (∀ x ∈ W, P x) → (∀ x ∈ R, P x) → (∀ e ∈ L, Q e) →
    (∀ x ∈ (goM W n R L).2.2.2.1, P x) ∧ (∀ x ∈ (goM W n R L).2.2.1, P x) ∧ (∀ e ∈ (goM W n R L).2.2.2.2, Q e)
  | [], n, R, L, h1, h2, h3 => ⟨h1, h2, h3⟩
  | w :: r, n, R, L, h1, h2, h3 => by
    have hw := h1 w (by simp)
    by_cases c : w.1 = n
    · subst c
      rw [goM_eq]
      exact goM_all hPQ r _ _ _ (fun x hx => h1 x (by simp [hx])) (addR_all h2 hw) (fun e he => by
        rcases List.mem_append.1 he with he | he
        · exact h3 e he
        · rw [List.mem_singleton.1 he]; exact hPQ w hw)
    · rw [goM_ne c]; exact ⟨h1, h2, h3⟩
theorem FA.knows {P : It → Prop} {Q : Ev → Prop} {f : Fd} (h : FA P Q f) (t : Int) : FA P Q (knowsM f t) := by
  unfold knowsM
  split
  · exact ⟨h.w, h.r, h.l⟩
  · exact h
theorem FA.goes {P : It → Prop} {Q : Ev → Prop} (hPQ : ∀ w : It, P w → Q (1, w.1, w.1, w.2, 0)) {f : Fd} (h : FA P Q f) : FA P Q (goesM f).2 := by
  obtain ⟨a, b, c⟩ := goM_all hPQ _ f.1 _ _ h.w h.r h.l
  exact ⟨a, b, c⟩
theorem insW_mem (x : It) : ∀ (l : List It) (w : It), w ∈ insW x l → w = x ∨ w ∈ l
  | [], w, h => by simp [insW] at h; exact .inl h
  | y :: r, w, h => by
    simp only [insW] at h
    split at h
    · rcases List.mem_cons.1 h with h | h
      · exact .inl h
      · exact .inr h
    · rcases List.mem_cons.1 h with h | h
      · exact .inr (by simp [h])
      · rcases insW_mem x r w h with h | h
        · exact .inl h
        · exact .inr (by simp [h])
theorem FA.put {P : It → Prop} {Q : Ev → Prop} {f : Fd} (h : FA P Q f) (x : It) (hx : P x) : FA P Q (f.1, f.2.1, f.2.2.1, (putM f.2.2.2.1 f.1 x).1, f.2.2.2.2) := by
  refine ⟨fun w hw => ?_, h.r, h.l⟩
  simp only at hw
  unfold putM at hw
  split at hw
  · exact h.w w hw
  · rcases insW_mem x _ w hw with rfl | hw
    · exact hx
    · exact h.w w hw
theorem FA.comes {P : It → Prop} {Q : Ev → Prop} (hPQ : ∀ w : It, P w → Q (1, w.1, w.1, w.2, 0)) {f : Fd} (h : FA P Q f) (x : It) (hx : (1 ≤ x.1 ∧ x.1 ≤ 1000000 ∧ x.2.length ≤ 12) → P x) : FA P Q (comesM f x) := by
  unfold comesM
  split
  · exact h
  · rename_i q
    exact ((h.knows x.1).put x (hx ⟨by omega, by omega, by omega⟩)).goes hPQ
/-- A window that is ahead. -/
def FS (K : Int) (f : Fd) : Prop := Wk (f.1 + 1) (min K (f.1 + 7)) f.2.2.2.1
theorem FS.knows {K : Int} {f : Fd} (h : FS K f) (t : Int) : FS K (knowsM f t) := by
  unfold knowsM
  split
  · exact h
  · exact h
theorem FS.comes {K c : Int} {f : Fd} (hf : FI K c f) (h : FS K f) (x : It) (hx : x.1 ≤ 1000000 → x.1 ≤ K) : FS K (comesM f x) := by
  unfold comesM
  split
  · exact h
  rename_i q
  have hg := hf.knows x.1 hx
  have h0 := hf.n0
  exact ((hg.1.put (by omega) x (hx (by omega))).goes (by simp only; omega)).2.2
def eD : Ev := ((0 : Int), (0 : Int), (0 : Int), ([] : List UInt8), (0 : Int))
theorem getD_memE {l : List Ev} {i : Nat} (h : i < l.length) : l.getD i eD ∈ l := by
  rw [List.getD_eq_getElem?_getD, List.getElem?_eq_getElem h]; exact List.getElem_mem h
theorem Ch.last : ∀ {L : List Ev} {n m : Int}, Ch n L m → L ≠ [] → (L.getD (L.length - 1) eD).2.2.1 + 1 = m
  | [], _, _, _, h => absurd rfl h
  | [e], n, m, h, _ => by have h' : _ = _ := h.2.2; simpa using h'
  | e :: x :: r, n, m, h, _ => by
    have := h.2.2.last (by simp)
    simpa using this
theorem Wk.at : ∀ {l : List It} {n K : Int}, Wk n K l → ∀ j, j + 1 < l.length → (l.getD j iD).1 < (l.getD (j + 1) iD).1
  | [], _, _, _, j, hj => by simp at hj
  | [w], _, _, _, j, hj => by simp at hj
  | w :: x :: r, n, K, h, 0, _ => by have := h.2.2.1; simp; omega
  | w :: x :: r, n, K, h, j + 1, hj => by
    have := h.2.2.at j (by simp at hj ⊢; omega)
    simpa using this
theorem getD_mem {l : List Int} {j : Nat} (h : j < l.length) : l.getD j 0 ∈ l := by
  rw [List.getD_eq_getElem?_getD, List.getElem?_eq_getElem h]; exact List.getElem_mem h
theorem Fp.mono {K K' c n : Int} {R W : List It} {L : List Ev} (h : Fp K c n R W L) (hK : K ≤ K') : Fp K' c n R W L :=
  ⟨⟨h.nx.1, by have := h.nx.2; omega⟩, h.rk, h.rl, h.wk.mono (Int.le_refl _) (by omega), h.ch, h.c0⟩
theorem FI.mono {K K' c : Int} {f : Fd} (h : FI K c f) (hK : K ≤ K') : FI K' c f :=
  ⟨h.n0, ⟨h.tp.1, by have := h.tp.2; omega⟩, fun q => (h.p q).mono hK, h.ask, h.z⟩
theorem FS.mono {K K' : Int} {f : Fd} (h : FS K f) (hK : K ≤ K') : FS K' f := Wk.mono h (Int.le_refl _) (by omega)
/-- A made feed, behind j deeds. -/
theorem wr_u8m {z : Int} : wr .u8 z = z % 256 := by rw [wr_eq]; simp [IntKind.wrap, IntKind.bits, IntKind.signed]
theorem goM_sub : ∀ (W : List It) (n : Int) (R : List It) (L : List Ev), ∀ w ∈ (goM W n R L).2.2.2.1, w ∈ W
  | [], n, R, L, w, h => h
  | x :: r, n, R, L, w, h => by
    by_cases c : x.1 = n
    · subst c
      rw [goM_eq] at h
      exact List.mem_cons_of_mem _ (goM_sub r _ _ _ w h)
    · rw [goM_ne c] at h; exact h
/-- What is in the window is known of. -/
def FB (f : Fd) : Prop := ∀ w ∈ f.2.2.2.1, w.1 ≤ f.2.1
theorem FB.knows {f : Fd} (h : FB f) (t : Int) : FB (knowsM f t) := by
  unfold knowsM
  split
  · intro w hw; have := h w hw; simp only; omega
  · exact h
theorem FB.goes {f : Fd} (h : FB f) : FB (goesM f).2 := fun w hw => h w (goM_sub _ _ _ _ w hw)
theorem FB.comes {f : Fd} (h : FB f) (h0 : 0 ≤ f.1) (x : It) : FB (comesM f x) := by
  unfold comesM
  split
  · exact h
  · rename_i q
    have hk := h.knows x.1
    have ht : x.1 ≤ (knowsM f x.1).2.1 := by unfold knowsM; rw [if_pos ⟨by omega, by omega⟩]; simp only; omega
    refine FB.goes (f := ((knowsM f x.1).1, (knowsM f x.1).2.1, (knowsM f x.1).2.2.1, (putM (knowsM f x.1).2.2.2.1 (knowsM f x.1).1 x).1, (knowsM f x.1).2.2.2.2)) fun w hw => ?_
    simp only at hw ⊢
    unfold putM at hw
    split at hw
    · exact hk w hw
    · rcases insW_mem x _ w hw with rfl | hw
      · exact ht
      · exact hk w hw
/-- When it is asked again: not too late. -/
def FDu (t : Int) (f : Fd) : Prop := f.2.2.2.2.2.2 ≤ t + 16
theorem FDu.mono {t t' : Int} {f : Fd} (h : FDu t f) (ht : t ≤ t') : FDu t' f := by unfold FDu at *; omega
theorem FDu.knows {t : Int} {f : Fd} (h : FDu t f) (x : Int) : FDu t (knowsM f x) := by
  unfold knowsM
  split
  · exact h
  · exact h
theorem FDu.goes {t : Int} {f : Fd} (ht : 0 ≤ t) (h : FDu t f) : FDu t (goesM f).2 := by
  unfold goesM FDu at *
  simp only
  split
  · exact h
  · simp only; omega
/-- A feed behind many deeds. -/
def oneM (n : Int) : List UInt8 := bytesI [wr IntKind.u8 (wr .i64 ((97 : Int) + Int.tmod n (26 : Int))), wr IntKind.u8 (wr .i64 ((97 : Int) + Int.tmod (wr .i64 (Int.tdiv n (26 : Int))) (26 : Int)))]
theorem u8_in (z : Int) : ((0 : Int) ≤ wr .u8 z) ∧ wr .u8 z < 256 := by rw [wr_u8m]; omega
theorem one_eq (N : Nat) (n : Int) : W_law18_one N n = some (oneM n) := by
  unfold W_law18_one V_law18_one oneM
  have h1 := u8_in (wr .i64 ((97 : Int) + Int.tmod n (26 : Int)))
  have h2 := u8_in (wr .i64 ((97 : Int) + Int.tmod (wr .i64 (Int.tdiv n (26 : Int))) (26 : Int)))
  generalize wr IntKind.u8 (wr .i64 ((97 : Int) + Int.tmod n (26 : Int))) = a at *
  generalize wr IntKind.u8 (wr .i64 ((97 : Int) + Int.tmod (wr .i64 (Int.tdiv n (26 : Int))) (26 : Int))) = b at *
  have : List.all [a, b] (fun (n : Int) => decide ((0 : Int) ≤ n) && decide (n < (256 : Int))) = true := by
    simp only [List.all_cons, List.all_nil, Bool.and_true]
    rw [dT h1.1, dT h1.2, dT h2.1, dT h2.2]; rfl
  rw [this, cnd_t]
theorem oneM_len (n : Int) : (oneM n).length = 2 := rfl
abbrev Po (w : It) : Prop := w.2 = oneM w.1
abbrev Qo (e : Ev) : Prop := e.1 = 1 ∧ e.2.2.1 = e.2.1 ∧ e.2.2.2.1 = oneM e.2.1 ∧ e.2.2.2.2 = 0
theorem hpo (w : It) (h : Po w) : Qo (1, w.1, w.1, w.2, 0) := ⟨rfl, rfl, h, rfl⟩
theorem goM_ring : ∀ (W : List It) (n : Int) (R : List It) (L : List Ev), R.length = min L.length 6 → (goM W n R L).2.2.1.length = min (goM W n R L).2.2.2.2.length 6
  | [], n, R, L, h => h
  | w :: r, n, R, L, h => by
    by_cases c : w.1 = n
    · subst c
      rw [goM_eq]
      refine goM_ring r _ _ _ ?_
      rw [addR_len _ _ (by omega), List.length_append, List.length_singleton]
      omega
    · rw [goM_ne c]; exact h
theorem goM_next (T : Int) : ∀ (W : List It) (n : Int) (R : List It) (L : List Ev), (∀ w ∈ W, w.1 ≤ T) → (goM W n R L).2.1 = n ∨ (goM W n R L).2.1 ≤ T + 1
  | [], n, R, L, _ => .inl rfl
  | w :: r, n, R, L, h => by
    by_cases c : w.1 = n
    · subst c
      rw [goM_eq]
      have := h w (by simp)
      rcases goM_next T r (w.1 + 1) (addR R w) (L ++ [(1, w.1, w.1, w.2, 0)]) (fun x hx => h x (by simp [hx])) with q | q
      · right; simp only; omega
      · right; exact q
    · rw [goM_ne c]; exact .inl rfl
/-- A feed in which all is told. -/
structure Fq (c : Int) (f : Fd) : Prop where
  fi : FI 1000000 c f
  fs : FS 1000000 f
  fb : FB f
  fa : FA Po Qo f
  fr : f.2.2.1.length = min f.2.2.2.2.1.length 6
  fn : f.1 = c ∨ f.1 ≤ f.2.1 + 1
  f1 : 1 ≤ f.1
theorem Fq.knows {c : Int} {f : Fd} (h : Fq c f) (t : Int) : Fq c (knowsM f t) ∧ (t ≤ 1000000 → (knowsM f t).2.1 = max f.2.1 t) ∧ (knowsM f t).1 = f.1 := by
  have h1 := h.fi.knows t (fun q => q)
  have h2 := knows_Le f t
  have h3 : (knowsM f t).2.2 = f.2.2 := by unfold knowsM; split <;> rfl
  refine ⟨⟨h1.1, h.fs.knows t, h.fb.knows t, h.fa.knows t, by rw [h3]; exact h.fr, ?_, by rw [h1.2]; exact h.f1⟩, fun q => ?_, h1.2⟩
  · rcases h.fn with q | q
    · left; rw [h1.2]; exact q
    · right; have := h2.2.1; rw [h1.2]; omega
  · unfold knowsM; rw [if_pos ⟨by have := h.f1; omega, q⟩]
theorem Fq.comes {c : Int} {f : Fd} (h : Fq c f) (n : Int) (h1 : 1 ≤ n) (h2 : n ≤ 1000000) : Fq c (comesM f (n, oneM n)) ∧ (comesM f (n, oneM n)).2.1 = max f.2.1 n ∧ f.1 ≤ (comesM f (n, oneM n)).1 ∧ (n = f.1 → f.1 < (comesM f (n, oneM n)).1) := by
  have hf1 := h.f1
  have hle := comes_Le f (n, oneM n)
  have hfi := h.fi.comes (n, oneM n) (fun q => q)
  have hfs := h.fs.comes h.fi (n, oneM n) (fun q => q)
  have hfb := h.fb.comes h.fi.n0 (n, oneM n)
  have hfa := h.fa.comes hpo (n, oneM n) (fun _ => rfl)
  have e : comesM f (n, oneM n) = (goesM ((knowsM f n).1, (knowsM f n).2.1, (knowsM f n).2.2.1, (putM (knowsM f n).2.2.2.1 (knowsM f n).1 (n, oneM n)).1, (knowsM f n).2.2.2.2)).2 := by
    conv => lhs; unfold comesM
    rw [if_neg (by simp only [oneM_len]; omega)]
  obtain ⟨k1, k2, k3⟩ := h.knows n
  have k2 := k2 h2
  have htop : (comesM f (n, oneM n)).2.1 = max f.2.1 n := by rw [e]; exact k2
  have hgt : n = f.1 → f.1 < (comesM f (n, oneM n)).1 := by
    intro q
    have hs := k1.fs
    rw [e]
    generalize knowsM f n = g at *
    unfold FS at hs
    have hp : (putM g.2.2.2.1 g.1 (n, oneM n)).1 = (n, oneM n) :: g.2.2.2.1 := by
      have hg := getF_none hs n (by omega)
      unfold putM
      rw [if_neg (by simp only; rw [hg]; simp; omega)]
      simp only
      cases hW : g.2.2.2.1 with
      | nil => rfl
      | cons w r =>
        rw [hW] at hs
        have := hs.1
        simp only [insW]
        rw [if_pos (by omega)]
    unfold goesM
    simp only [hp]
    have e2 : g.1 = (n, oneM n).1 := by simp only; omega
    rw [e2, goM_eq]
    have := (goM_pre g.2.2.2.1 ((n, oneM n).1 + 1) (addR g.2.2.1 (n, oneM n)) (g.2.2.2.2.1 ++ [(1, (n, oneM n).1, (n, oneM n).1, (n, oneM n).2, 0)])).1
    simp only at this ⊢
    omega
  refine ⟨⟨hfi, hfs, hfb, hfa, ?_, ?_, by have := hle.1; omega⟩, htop, hle.1, hgt⟩
  · rw [e]
    exact goM_ring _ _ _ _ k1.fr
  · have hput : ∀ w ∈ (putM (knowsM f n).2.2.2.1 (knowsM f n).1 (n, oneM n)).1, w.1 ≤ (knowsM f n).2.1 := by
      intro w hw
      unfold putM at hw
      split at hw
      · exact k1.fb w hw
      · rcases insW_mem _ _ w hw with rfl | hw
        · simp only; omega
        · exact k1.fb w hw
    have := goM_next (knowsM f n).2.1 _ (knowsM f n).1 (knowsM f n).2.2.1 (knowsM f n).2.2.2.2.1 hput
    rw [htop, ← k2]
    rw [e]
    have fn := h.fn
    rcases this with q | q
    · have q2 : (goesM ((knowsM f n).1, (knowsM f n).2.1, (knowsM f n).2.2.1, (putM (knowsM f n).2.2.2.1 (knowsM f n).1 (n, oneM n)).1, (knowsM f n).2.2.2.2)).2.1 = (knowsM f n).1 := q
      rw [q2, k3]
      rcases fn with fn | fn
      · left; exact fn
      · right; omega
    · right; exact q
theorem Ch.lenE : ∀ {L : List Ev} {n m : Int}, Ch n L m → (∀ e ∈ L, e.2.2.1 = e.2.1) → (L.length : Int) = m - n
  | [], _, _, h, _ => by have h' : _ = _ := h; simp; omega
  | e :: r, n, m, h, hE => by
    have := h.2.2.lenE (fun x hx => hE x (by simp [hx])); have := h.1; have := hE e (by simp)
    simp only [List.length_cons]; omega
theorem Ch.atE : ∀ {L : List Ev} {n m : Int}, Ch n L m → (∀ e ∈ L, e.2.2.1 = e.2.1) → ∀ i, i < L.length → (L.getD i eD).2.1 = n + i
  | [], _, _, _, _, i, hi => by simp at hi
  | e :: r, n, m, h, hE, 0, _ => by have := h.1; simpa using this
  | e :: r, n, m, h, hE, i + 1, hi => by
    have h1 := h.2.2.atE (fun x hx => hE x (by simp [hx])) i (by simpa using hi)
    have h2 := h.1; have h3 := hE e (by simp)
    rw [List.getD_cons_succ, h1]; omega
theorem Fq.all {c : Int} {f : Fd} (h : Fq c f) : (f.2.2.2.2.1.length : Int) = f.1 - c ∧ ∀ i, i < f.2.2.2.2.1.length → f.2.2.2.2.1.getD i eD = (1, c + i, c + i, oneM (c + i), 0) := by
  have hc := (h.fi.p h.f1).ch
  have hE : ∀ e ∈ f.2.2.2.2.1, e.2.2.1 = e.2.1 := fun e he => (h.fa.l e he).2.1
  refine ⟨hc.lenE hE, fun i hi => ?_⟩
  have h1 := hc.atE hE i hi
  obtain ⟨q1, q2, q3, q4⟩ := h.fa.l _ (getD_memE hi)
  generalize f.2.2.2.2.1.getD i eD = e at *
  obtain ⟨e1, e2, e3, e4, e5⟩ := e
  simp only at h1 q1 q2 q3 q4
  subst q1 q2 q3 q4 h1
  rfl
theorem Fq_begin (n : Int) (h1 : 1 ≤ n) (h2 : n ≤ 1000000) : beginM z7 n = (n, 0, [], [], [], 0, 0) ∧ Fq n (n, 0, [], [], [], 0, 0) := by
  refine ⟨?_, ⟨⟨by simp only; omega, ⟨by simp, by simp⟩, fun _ => ⟨⟨by simp only; omega, by simp only; omega⟩, trivial, by simp, trivial, rfl, by omega⟩, ⟨by simp, by simp⟩, fun q => by simp only at q; omega⟩, trivial, fun x hx => by simp at hx, ⟨fun x hx => by simp at hx, fun x hx => by simp at hx, fun x hx => by simp at hx⟩, by simp, .inl rfl, h1⟩⟩
  unfold beginM
  rw [if_neg (by decide), if_pos ⟨h1, h2⟩]
  rfl
theorem law_aux (N : Nat) (hN : 20000000 ≤ N) (l l2 : List Int) (hel : ∀ x ∈ l, 0 ≤ x ∧ x ≤ 255) (hel2 : ∀ x ∈ l2, 0 ≤ x ∧ x ≤ 255) (st : Int) (h1 : 0 ≤ st) (h2 : st ≤ 255) : W_law18_FeedResumes N (l, l2, st) = some true := by
  unfold W_law18_FeedResumes V_law18_FeedResumes
  simp only
  by_cases h20 : (20 : Int) < l.length
  · rw [dT h20, cnd_t]
  rw [dF h20, cnd_f]
  by_cases h20b : (20 : Int) < l2.length
  · rw [dT h20b, cnd_t]
  rw [dF h20b, cnd_f]
  rw [tm _ _ h1, wr_m (z := st % 15) (by omega) (by omega), wr_m (z := 1 + st % 15) (by omega) (by omega)]
  obtain ⟨b1, b2⟩ := Fq_begin 1 (by omega) (by omega)
  have eB := pBegin_eq N z7 1 (FI_z7.twin N (by omega)) (fun q => by simp [z7] at q)
  rw [b1] at eB
  show obind (W_feed_Begin N (z7, 1)) _ = _
  rw [eB, obind_s]
  refine loop_G (N := N) (x := (0, (1, 0, [], [], [], 0, 0))) (fun o => o = some true) (fun k (v : Int × Fd) => v.1 = k ∧ k ≤ l.length ∧ Fq 1 v.2) l.length (fun r : Fd => Fq 1 r) ⟨rfl, by omega, b2⟩ (by omega) ?_ (fun k v h => h.2.1) ?_
  rotate_left
  · rintro k ⟨i, f⟩ ⟨e1, hk, hf⟩
    simp only at e1 hf ⊢
    subst e1
    by_cases q : (k : Int) < l.length
    case neg =>
      right
      rw [dF q, cnd_f]
      exact ⟨_, rfl, hf⟩
    left
    have hx := hel (l.getD k 0) (getD_mem (by omega))
    rw [dT q, cnd_t, dT (by omega), Bool.and_self, cnd_t, Int.toNat_natCast, tm _ _ hx.1, wr_m (z := l.getD k 0 % 12) (by omega) (by omega), wr_m (z := 1 + l.getD k 0 % 12) (by omega) (by omega), one_eq, obind_s, wr_m (z := (k : Int) + 1) (by omega) (by omega)]
    obtain ⟨a1, _⟩ := hf.comes (1 + l.getD k 0 % 12) (by omega) (by omega)
    show ∃ y, obind (W_feed_Comes N (f, 1 + l.getD k 0 % 12, oneM (1 + l.getD k 0 % 12))) _ = _ ∧ _
    rw [pComes_eq N (by omega) hf.fi (by omega) _ (fun q => q), obind_s]
    exact ⟨_, rfl, by simp only; omega, by omega, a1⟩
  rintro f hf
  have hf1 := hf.f1
  obtain ⟨k1, k2, k3⟩ := hf.knows (st % 15)
  have k2 := k2 (by omega)
  have eB2 := pBegin_eq N f (1 + st % 15) (hf.fi.twin N (by omega)) (fun _ => by rw [wr_m (by omega) (by omega)])
  have eb : beginM f (1 + st % 15) = knowsM f (st % 15) := by
    unfold beginM
    rw [if_pos (by omega), show 1 + st % 15 - 1 = st % 15 by omega]
  rw [eb] at eB2
  rw [eB2, obind_s]
  generalize knowsM f (st % 15) = g at *
  rw [dF (by omega), cnd_f]
  clear eB2 eb
  refine loop_G (N := N) (x := (0, g)) (fun o => o = some true) (fun k (v : Int × Fd) => v.1 = k ∧ k ≤ l2.length ∧ Fq 1 v.2 ∧ g.1 ≤ v.2.1) l2.length (fun r : Fd => Fq 1 r ∧ g.1 ≤ r.1) ⟨rfl, by omega, k1, Int.le_refl _⟩ (by omega) ?_ (fun k v h => h.2.1) ?_
  rotate_left
  · rintro k ⟨i, f⟩ ⟨e1, hk, hf, hg⟩
    simp only at e1 hf hg ⊢
    subst e1
    by_cases q : (k : Int) < l2.length
    case neg =>
      right
      rw [dF q, cnd_f]
      exact ⟨_, rfl, hf, hg⟩
    left
    have hx := hel2 (l2.getD k 0) (getD_mem (by omega))
    rw [dT q, cnd_t, dT (by omega), Bool.and_self, cnd_t, Int.toNat_natCast, tm _ _ hx.1, wr_m (z := l2.getD k 0 % 15) (by omega) (by omega), wr_m (z := 1 + l2.getD k 0 % 15) (by omega) (by omega), one_eq, obind_s, wr_m (z := (k : Int) + 1) (by omega) (by omega)]
    obtain ⟨a1, a2, a3, _⟩ := hf.comes (1 + l2.getD k 0 % 15) (by omega) (by omega)
    show ∃ y, obind (W_feed_Comes N (f, 1 + l2.getD k 0 % 15, oneM (1 + l2.getD k 0 % 15))) _ = _ ∧ _
    rw [pComes_eq N (by omega) hf.fi (by omega) _ (fun q => q), obind_s]
    exact ⟨_, rfl, by simp only; omega, by omega, a1, by simp only; omega⟩
  rintro h ⟨hh, hg⟩
  obtain ⟨al, aa⟩ := hh.all
  have hhn := hh.fi.nx (by omega)
  rw [dF (by omega), cnd_f, wr_m (z := h.1 - 1) (by omega) (by omega), dF (by omega), cnd_f]
  refine loop_G (N := N) (x := (0, h)) (fun o => o = some true) (fun k (v : Int × Fd) => v = (↑k, h) ∧ k ≤ h.2.2.2.2.1.length) h.2.2.2.2.1.length (fun r : PUnit ⊕ Bool => r = .inl ()) ⟨rfl, by omega⟩ (by omega) ?_ (fun k v h => h.2) ?_
  · rintro r rfl
    rw [selim_l]
  · rintro k v ⟨rfl, hk⟩
    simp only
    by_cases q : (k : Int) < h.2.2.2.2.1.length
    case neg => right; rw [dF q, cnd_f]; exact ⟨_, rfl, rfl⟩
    left
    have ha : h.2.2.2.2.1.getD k ((0 : Int), (0 : Int), (0 : Int), ([] : List UInt8), (0 : Int)) = _ := aa k (by omega)
    rw [dT q, cnd_t, dT (by omega), Bool.and_self, cnd_t, Int.toNat_natCast, ha, wr_m (z := (k : Int) + 1) (by omega) (by omega), one_eq]
    simp only
    rw [dF (by omega), cnd_f, cnd_t, dF (by omega), cnd_f, cnd_t, obind_s, show (1 : Int) + (k : Int) = (k : Int) + 1 by omega]
    simp only [beq_self_eq_true, Bool.not_true, cnd_f]
    exact ⟨_, rfl, rfl, by omega⟩
def NN : Nat := 20000000
theorem law_true (y0 : List Int) (y1 : List Int) (y2 : Int) (h0 : Twf (.list (.int .u8)) y0) (h1 : Twf (.list (.int .u8)) y1) (h2 : Twf (.int .u8) y2) : W_law18_FeedResumes NN (y0, y1, y2) = some true := by
  refine law_aux NN (Nat.le_refl _) y0 y1 (fun x hx => ?_) (fun x hx => ?_) y2 h2.1 (by have : y2 ≤ 255 := h2.2; omega)
  · have := h0.2 x hx
    exact ⟨this.1, this.2⟩
  · have := h1.2 x hx
    exact ⟨this.1, this.2⟩

theorem spec (y0 : List Int) (y1 : List Int) (y2 : Int) (h0 : Twf (.list (.int .u8)) y0) (h1 : Twf (.list (.int .u8)) y1) (h2 : Twf (.int .u8) y2) : Spec2 P0 9 [valW (.list (.int .u8)) y0, valW (.list (.int .u8)) y1, valW (.int .u8) y2] [] (.bs true) [] [] := (con_law18_FeedResumes_ok NN).2 (y0, y1, y2) true (law_true y0 y1 y2 h0 h1 h2)
theorem lifted (os : Os) (started : os.Started) (H : Type) (enc : TypeId × Value → H) :
    ReturnsInHanded {} Try.checked os 9 .any (Rows.feedResumesSpec.pre6 enc Try.prog Try.f9 Rows.feedResumesRow.domain false) (Rows.feedResumesSpec.post enc Try.prog Try.f9 false true false false) := by
  refine returnsInHanded_of_change (C := Try.checked) own started (by kernel_rfl) Try.func9
    (ChangeSpec.witness6 (enc := enc) (C := Try.checked) false ⟨#[], #[.slice none 0 0, .slice none 0 0, .int .u8 0], []⟩ 8 (by kernel_rfl) (by kernel_rfl) (by kernel_rfl) (by kernel_rfl)) ?_
  intro W base args ds gs before hval0 hW hcnd _
  have hval : ∀ (j : Nat) t v, Try.f9.params[j]? = some t → args[j]? = some v → Value.okWide Try.prog W .any base t v := hval0
  have hW' := hW
  obtain ⟨p, q, hA0, hV, rfl, hfz, hnd⟩ := hW
  have hA : DataW.TrodAll enc Try.prog W 0 (fun _ => true) true Try.f9.params.toList args.toList ds p := hA0
  rw [Try.params9] at hA hval
  obtain ⟨v0, vs0, d0, ds0, p0, q0, hargs, rfl, rfl, h0, r0⟩ := trodAll_cons hA
  obtain ⟨v1, vs1, d1, ds1, p1, q1, rfl, rfl, rfl, h1, r1⟩ := trodAll_cons r0
  obtain ⟨v2, vs2, d2, ds2, p2, q2, rfl, rfl, rfl, h2, r2⟩ := trodAll_cons r1
  obtain ⟨rfl, rfl, rfl⟩ := trodAll_nil r2
  obtain rfl : args = #[v0, v1, v2] := by cases args; simp_all
  obtain ⟨rfl, rfl⟩ := trodVars_none hV
  have k0 := h0
  have lt0 : ∀ x ∈ p0, x.block < W.heap.size := by obtain ⟨m, hm⟩ := k0; exact DataW.trod_lt m _ _ _ hm
  obtain ⟨y0, rp0, wf0⟩ := arg_ok (n := 12) (ty := (.list (.int .u8))) (by kernel_rfl) (hval 0 _ v0 rfl rfl) h0
  have k1 := h1
  have lt1 : ∀ x ∈ p1, x.block < W.heap.size := by obtain ⟨m, hm⟩ := k1; exact DataW.trod_lt m _ _ _ hm
  obtain ⟨y1, rp1, wf1⟩ := arg_ok (n := 12) (ty := (.list (.int .u8))) (by kernel_rfl) (hval 1 _ v1 rfl rfl) h1
  have k2 := h2
  have lt2 : ∀ x ∈ p2, x.block < W.heap.size := by obtain ⟨m, hm⟩ := k2; exact DataW.trod_lt m _ _ _ hm
  obtain ⟨y2, rp2, wf2⟩ := arg_ok (n := 12) (ty := (.int .u8)) (by kernel_rfl) (hval 2 _ v2 rfl rfl) h2
  clear hA0 hval0
  refine (law_of2 (spec y0 y1 y2 wf0 wf1 wf2) W #[v0, v1, v2] (.cons rp0 (.cons rp1 (.cons rp2 .nil)))).mono fun e W' ⟨he, bel⟩ => ?_
  subst he
  exact ⟨_, rfl, _, _, _, [], _, [], hW', trodAll_mk1 (shut_bool Try.underlying4 _), (trodAll_cons_mk (Below.trod laidOut (by kernel_rfl) (of_decide_eq_true (by kernel_rfl)) k0 bel lt0) (trodAll_cons_mk (Below.trod laidOut (by kernel_rfl) (of_decide_eq_true (by kernel_rfl)) k1 bel lt1) (trodAll_cons_mk (Below.trod laidOut (by kernel_rfl) (of_decide_eq_true (by kernel_rfl)) k2 bel lt2) trodAll_mk0))), rfl, bel.frame _, fun h => by cases h⟩

theorem over : Rows.feedResumesRow.holds Try.pinned (OpenSpec.ofChange Rows.feedResumesSpec) :=
  OpenClaim.holds_of_wide 9 Try.f9 rfl rfl rfl rfl rfl rfl rfl ⟨rfl, rfl, rfl, rfl, rfl⟩ rfl rfl rfl rfl rfl (by kernel_rfl) Try.func9 (by kernel_rfl)
    (of_decide_eq_true (by kernel_rfl)) (by unfold Func.isWrapper; first | (rw [if_pos (by decide +kernel)]; kernel_rfl) | (rw [if_neg (by decide +kernel)]; exact ⟨rfl, rfl⟩))
    (fun os started H enc _ => lifted os started H enc)

theorem holds : Rows.FeedResumesSaid := over
end Go.Proofs.Ytigmbfeeodggbaa.feedResumesX
