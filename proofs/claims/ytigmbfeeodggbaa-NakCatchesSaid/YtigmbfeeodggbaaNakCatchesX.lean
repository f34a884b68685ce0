/- NakCatches: for all arguments the call returns true. The law is brought to a function of Lean's own (W_..) by the machine of the texts beside it, and that is reckoned; no condition. -/
import Derived.Test.YtigmbfeeodggbaaExtYM
import Derived.Test.YtigmbfeeodggbaaExtL
import Derived.Test.YtigmbfeeodggbaaRows
import Derived.WalkKit
import Derived.ProofKit
import Derived.OpenShut
import Derived.ShutString
import Derived.ChangeOld
import Derived.Below
import Derived.Shelf.RegionOpenPlain
import Derived.Lib.Walk
namespace Go.Proofs.Ytigmbfeeodggbaa.nakCatchesX
open Go.Abs Go.RowKit Go.ChangeShapes Go.WideShapes Go.ChangeAt
set_option maxRecDepth 100000
set_option linter.unusedVariables false
set_option linter.unusedSimpArgs false
abbrev A0_ : Type := Int × List (Int × List UInt8) × List (Int × List UInt8) × List (Int × Int × Int × List UInt8 × Int) × Int × Int
abbrev A1_ : Type := Int × Int × Int × List UInt8 × Int
abbrev A2_ : Type := List (Int × List UInt8) × Int × A0_
abbrev A3_ : Type := List (Int × List UInt8) × Bool × Int × List UInt8
abbrev A4_ : Type := List (Int × List UInt8) × List (Int × Int)
abbrev A5_ : Type := List (Int × Int) × Int × A0_
abbrev A6_ : Type := Bool × (Int × A0_) × Int × Int
abbrev A7_ : Type := List (Int × List UInt8) × Bool
abbrev T0_ : Ty := .pair (.int .i64) (.pair (.int .i64) (.pair (.list (.agg (.pair (.int .i64) .str))) (.pair (.list (.agg (.pair (.int .i64) .str))) (.pair (.list (.agg (.pair (.int .i64) (.pair (.int .i64) (.pair (.int .i64) (.pair .str (.int .i64))))))) (.agg (.pair (.int .i64) (.int .i64)))))))
abbrev T1_ : Ty := .pair (.int .i64) (.int .i64)
abbrev T2_ : Ty := .agg (.pair (.int .i64) .str)
abbrev T3_ : Ty := .list (.agg (.pair (.int .i64) (.pair (.int .i64) (.pair (.int .i64) (.pair .str (.int .i64))))))
abbrev T4_ : Ty := .pair (.list (.int .u8)) (.int .i64)
noncomputable abbrev P0 : Program := Try.prog
noncomputable def bodyOf (fn : Func) : Code := fn.body.getD .skip
def L0 : Lend := fun f => aget [] [(53, [0]), (85, [0])] f
def kpL (l : List Bool) : Nat → Bool := fun j => l.getD j true
theorem own : ownKnob Try.prog.godebug = none := by kernel_rfl
theorem laidOut : laidOutB Try.prog = true := by kernel_rfl
theorem mixed : P0.follows .mixedOrders = true := by decide +kernel
theorem progOk_ : progOk P0 = true := by decide +kernel
set_option linter.unusedSimpArgs false
set_option linter.unusedVariables false

theorem insU53 : Try.prog.underlying 24 = some (.slice 28) := by kernel_rfl
theorem insI53 : Try.prog.underlying 3 = some (.int .i64) := by kernel_rfl
theorem insE53 : ∃ (inf : TypeInfo) (z : Value), Try.prog.info? 28 = some inf ∧ inf.size = 2 ∧ inf.zero = some z ∧ z.cells.size = 2 ∧ inf.bytes = 24 := insE_of (by kernel_rfl)
set_option maxHeartbeats 4000000 in
theorem insShift53 {inf : TypeInfo} (hinf : Try.prog.info? 28 = some inf) (hsz : inf.size = 2) (w : World) (b i n c vb vo vc : Nat) (arr : Array Value) (tb : Nat) (fz : Nat × Nat) (cs vs : List Value) (hmem : w.heap[b]? = some (.cells arr tb fz)) (hf : ∀ j, j < arr.size → ¬ (fz.1 ≤ j ∧ j < fz.2))
    (hi : i < n) (hroom : n + 1 ≤ c) (hsize : arr.size = c * 2) (hby : (n + 1) * 24 ≤ 140737488355328) (hbn : vb ≠ b)
    (hcs : cs = (arr.toList.take (n * 2)).drop (i * 2)) (hvl : vs.length = 2) (hvs : ∀ (j : Nat) (u : Value), vs[j]? = some u → w.cell? ⟨vb, vo + j, none⟩ = some u) (h1c : ∀ u ∈ cs, u.oneCell' = true) (h1v : ∀ u ∈ vs, u.oneCell' = true)
    (hov : ∀ y, (callFunc 80 #[.slice (some ⟨vb, vo, none⟩) 1 vc, .slice (some ⟨b, (i + 1) * 2, none⟩) (n - i) y]).run Try.prog w = .ok (.value (.bool false)) w) (A1 A2 : Array Value)
    (hA1 : A1 = (arr.toList.take ((i + 1) * 2) ++ (cs ++ arr.toList.drop ((i + 1) * 2 + cs.length))).toArray) (hA2 : A2 = (A1.toList.take (i * 2) ++ (vs ++ A1.toList.drop (i * 2 + vs.length))).toArray) :
    Calls Try.prog 53 #[.slice (some ⟨b, 0, none⟩) n c, .int .i64 (i : Nat), .slice (some ⟨vb, vo, none⟩) 1 vc] w fun e w' => e = .returned (.slice (some ⟨b, 0, none⟩) (n + 1) c) ∧ w' = (w.drew.setRow b A1).setRow b A2 := by
  have mixed := mixed
  have hz2 : ¬ ((i : Int) = (n : Int)) := by omega
  have hw1 : IntKind.i64.wrap ((i : Int) + (1 : Int)) = (i : Int) + (1 : Int) := by rw [IntKind.wrap_i64]; omega
  have hw2 : IntKind.i64.wrap ((n : Int) + (1 : Int)) = (n : Int) + (1 : Int) := by rw [IntKind.wrap_i64]; omega
  have hcl : cs.length = (n - i) * 2 := by rw [hcs]; simp; omega
  have hA1s : A1.size = arr.size := by rw [hA1]; simp [hcl]; omega
  have hcp1 : ∀ ty dc sc, (Builtin.copy_ #[24, 24] ty #[.slice (some ⟨b, (i + 1) * 2, none⟩) (n - i) dc, .slice (some ⟨b, i * 2, none⟩) (n + 1 - i) sc]).run Try.prog w.drew = .ok (.int .i64 ((n - i : Nat) : Int)) (w.drew.setRow b A1) := fun ty dc sc => by
    rw [hA1]
    refine run_copyR insU53 hinf w.drew (fz := fz) hmem hf _ _ _ (m := n + 1 - i) (k := n - i) (by omega) (lenOf_slice _ _ _ _) (run_firstCells_some w.drew _ _ _ _ _ _ (by rw [hsz]; exact hcl) (fun j v hj => ?_)) (by omega) h1c
    rw [hcs, List.getElem?_drop, List.getElem?_take] at hj
    split at hj
    · have : (⟨b, i * 2, none⟩ : Addr).add j = ⟨b, i * 2 + j, none⟩ := by unfold Addr.add; split <;> simp_all
      rw [this]
      have e : w.drew.cell? ⟨b, i * 2 + j, none⟩ = arr[i * 2 + j]? := by simp [World.cell?, show w.drew.heap = w.heap from rfl, hmem]
      rw [e]; simpa using hj
    · cases hj
  have hcp2 : ∀ (W : World), W.heap = (w.drew.setRow b A1).heap → ∀ ty dc, (Builtin.copy_ #[24, 24] ty #[.slice (some ⟨b, i * 2, none⟩) (n + 1 - i) dc, .slice (some ⟨vb, vo, none⟩) 1 vc]).run Try.prog W = .ok (.int .i64 ((1 : Nat) : Int)) (W.setRow b A2) := fun W hW ty dc => by
    rw [hA2]
    have hm1 : W.heap[b]? = some (.cells A1 tb fz) := by rw [hW]; exact setRow_heap w.drew b arr A1 tb fz hmem
    refine run_copyR insU53 hinf W (fz := fz) hm1 (by rw [hA1s]; exact hf) _ _ _ (m := 1) (k := 1) (by omega) (lenOf_slice _ _ _ _) (run_firstCells_some W _ _ _ _ _ _ (by rw [hsz]; exact hvl) (fun j v hj => ?_)) (by omega) h1v
    have : (⟨vb, vo, none⟩ : Addr).add j = ⟨vb, vo + j, none⟩ := by unfold Addr.add; split <;> simp_all
    rw [this]
    have e : W.cell? ⟨vb, vo + j, none⟩ = w.cell? ⟨vb, vo + j, none⟩ := cell_congr (by rw [hW]; exact setRow_other w.drew b vb A1 hbn)
    rw [e]; exact hvs j v hj
  have hb1 : (0 : Int) ≤ (i : Int) + 1 := by omega
  have hin : i ≤ n := by omega
  have hb2 : ¬ (c = i + 1) := by omega
  have hb4 : ¬ (c = i) := by omega
  have hb3 : (i : Int) ≤ (n : Int) + 1 := by omega
  clear hcs hA1 hA2
  go_enter Try.func53, Try.ntmps53
  go_wp2_with (simp only [hov])
  go_region_law_o (refine step_copy_runR rfl _ _ 24 24 rfl _ _ (by simp [Act.eval, Act.put]) (by simp [Act.eval, Act.put]) (hcp1 _ _ _) ?_)
  go_wp2_with (at_builtin; refine wpList_copy_runR _ rfl _ _ 24 24 rfl _ _ rfl rfl (hcp2 _ rfl _ _) ?_)
  go_ret
  exact ⟨rfl, rfl⟩
set_option maxHeartbeats 4000000 in
theorem insGrow53 {inf : TypeInfo} {z : Value} (hinf : Try.prog.info? 28 = some inf) (hsz : inf.size = 2) (hzz : inf.zero = some z) (hzs : z.cells.size = 2) (hbb : inf.bytes = 24) (w : World) (b i n c vb vo vc : Nat) (arr : Array Value) (tb : Nat) (fz : Nat × Nat) (cs vs : List Value) (hmem : w.heap[b]? = some (.cells arr tb fz))
    (hi : i < n) (hnc : n ≤ c) (hroom : ¬ (n + 1 ≤ c)) (hsize : arr.size = c * 2) (hby : (n + 1) * 24 ≤ 140737488355328) (va : Array Value) (tv : Nat) (fv : Nat × Nat) (hmemv : w.heap[vb]? = some (.cells va tv fv))
    (hcs : cs = (arr.toList.take (n * 2)).drop (i * 2)) (hvl : vs.length = 2) (hvs : ∀ (j : Nat) (u : Value), vs[j]? = some u → va[vo + j]? = some u) (h1c : ∀ u ∈ cs, u.oneCell' = true) (h1v : ∀ u ∈ vs, u.oneCell' = true)
    (G : Nat) (hG : G = grownCap w (n + 1) c 28) (ROW A1 A2 : Array Value)
    (hROW : ROW = (arr.toList.take (i * 2)).toArray ++ Builtin.zeroCells z.cells (n + 1 - i) ++ Builtin.zeroCells z.cells (G - (n + 1)))
    (hA1 : A1 = (ROW.toList.take (i * 2) ++ (vs ++ ROW.toList.drop (i * 2 + vs.length))).toArray) (hA2 : A2 = (A1.toList.take ((i + 1) * 2) ++ (cs ++ A1.toList.drop ((i + 1) * 2 + cs.length))).toArray) :
    Calls Try.prog 53 #[.slice (some ⟨b, 0, none⟩) n c, .int .i64 (i : Nat), .slice (some ⟨vb, vo, none⟩) 1 vc] w fun e w' => e = .returned (.slice (some ⟨w.heap.size, 0, none⟩) (n + 1) G) ∧ w' = (((w.drew.alloc (.cells ROW 28)).setRow w.heap.size A1).drew).setRow w.heap.size A2 := by
  have mixed := mixed
  have hz2 : ¬ ((i : Int) = (n : Int)) := by omega
  have hw1 : IntKind.i64.wrap ((i : Int) + (1 : Int)) = (i : Int) + (1 : Int) := by rw [IntKind.wrap_i64]; omega
  have hw2 : IntKind.i64.wrap ((n : Int) + (1 : Int)) = (n : Int) + (1 : Int) := by rw [IntKind.wrap_i64]; omega
  have hw3 : IntKind.i64.wrap ((n : Int) + (1 : Int) - (i : Int)) = (n : Int) + (1 : Int) - (i : Int) := by rw [IntKind.wrap_i64]; omega
  have hcl : cs.length = (n - i) * 2 := by rw [hcs]; simp; omega
  have hGn : n + 1 ≤ G := by rw [hG]; exact grownCap_ge w _ _ _
  have hbw : b < w.heap.size := (Array.getElem?_eq_some_iff.1 hmem).1
  have hvw : vb < w.heap.size := (Array.getElem?_eq_some_iff.1 hmemv).1
  have hzc : ∀ k, (Builtin.zeroCells z.cells k).size = k * 2 := fun k => by rw [size_zeroCells, hzs]
  have hRs : ROW.size = G * 2 := by
    rw [hROW]; simp only [Array.size_append, hzc, List.size_toArray, List.length_take, Array.length_toList]; omega
  have hA1s : A1.size = ROW.size := by rw [hA1]; simp [hvl]; omega
  have hold : (Builtin.firstCells inf.size i (.slice (some ⟨b, 0, none⟩) i c)).run Try.prog w.drew = .ok (arr.toList.take (i * 2)).toArray w.drew := by
    rw [hsz]
    refine run_firstCells_some w.drew 2 i ⟨b, 0, none⟩ i c (arr.toList.take (i * 2)) (by rw [List.length_take]; simp; omega) (fun j v hj => ?_)
    rw [List.getElem?_take] at hj
    split at hj
    · have : (⟨b, 0, none⟩ : Addr).add j = ⟨b, j, none⟩ := by unfold Addr.add; split <;> simp_all
      rw [this]
      have e : w.drew.cell? ⟨b, j, none⟩ = arr[j]? := by simp [World.cell?, show w.drew.heap = w.heap from rfl, hmem]
      rw [e]; simpa using hj
    · cases hj
  have hik : i + (n + 1 - i) = n + 1 := by omega
  have hkk : (n : Int) + 1 - (i : Int) = ((n + 1 - i : Nat) : Int) := by omega
  obtain ⟨W1, hW1⟩ : ∃ W1, W1 = w.drew.alloc (.cells ROW 28) := ⟨_, rfl⟩
  have hrz : ∀ ty, (Builtin.append_ #[24, 3] ty #[.slice (some ⟨b, 0, none⟩) i c, .int .i64 ((n : Int) + 1 - (i : Int))]).run Try.prog w = .ok (.slice (some ⟨w.heap.size, 0, none⟩) (n + 1) G) W1 := fun ty => by
    have hnx := nextslicecap_le (need := n + 1) (old := c) (by omega)
    have h := Lib.run_append_grow_zeros w 24 3 ty 28 inf z .i64 .i64 insU53 insI53 hinf hzz (some ⟨b, 0, none⟩) i c (arr.toList.take (i * 2)) hold (n + 1 - i) (by omega) (by omega) (by omega) (by omega) (by rw [hbb]; omega) (by rw [hbb, hik]; omega)
    rw [hik, ← hG, ← hROW, ← hW1] at h
    rw [hkk]
    exact h
  have hWn : W1.heap[w.heap.size]? = some (.cells ROW 28 (0, 0)) := by rw [hW1]; exact heap_alloc_new w.drew _
  have hWo : ∀ j, j < w.heap.size → W1.heap[j]? = w.heap[j]? := fun j hj => by rw [hW1]; exact heap_alloc_old w.drew _ hj
  have hcp1 : ∀ (W : World), W.heap = W1.heap → ∀ ty dc, (Builtin.copy_ #[24, 24] ty #[.slice (some ⟨w.heap.size, i * 2, none⟩) (n + 1 - i) dc, .slice (some ⟨vb, vo, none⟩) 1 vc]).run Try.prog W = .ok (.int .i64 ((1 : Nat) : Int)) (W.setRow w.heap.size A1) := fun W hW ty dc => by
    rw [hA1]
    refine run_copyR insU53 hinf W (fz := (0, 0)) (by rw [hW]; exact hWn) (fun j _ hj => by simp at hj) _ _ _ (m := 1) (k := 1) (by omega) (lenOf_slice _ _ _ _) (run_firstCells_some W _ _ _ _ _ _ (by rw [hsz]; exact hvl) (fun j v hj => ?_)) (by omega) h1v
    have : (⟨vb, vo, none⟩ : Addr).add j = ⟨vb, vo + j, none⟩ := by unfold Addr.add; split <;> simp_all
    rw [this]
    have e : W.cell? ⟨vb, vo + j, none⟩ = va[vo + j]? := by simp [World.cell?, hW, hWo vb hvw, hmemv]
    rw [e]; exact hvs j v hj
  have hcp2 : ∀ (W : World), W.heap = (W1.setRow w.heap.size A1).heap → ∀ ty dc sc, (Builtin.copy_ #[24, 24] ty #[.slice (some ⟨w.heap.size, (i + 1) * 2, none⟩) (n - i) dc, .slice (some ⟨b, i * 2, none⟩) (n - i) sc]).run Try.prog W = .ok (.int .i64 ((n - i : Nat) : Int)) (W.setRow w.heap.size A2) := fun W hW ty dc sc => by
    rw [hA2]
    have hm1 : W.heap[w.heap.size]? = some (.cells A1 28 (0, 0)) := by rw [hW]; exact setRow_heap W1 w.heap.size ROW A1 28 (0, 0) hWn
    refine run_copyR insU53 hinf W (fz := (0, 0)) hm1 (fun j _ hj => by simp at hj) _ _ _ (m := n - i) (k := n - i) (by omega) (lenOf_slice _ _ _ _) (run_firstCells_some W _ _ _ _ _ _ (by rw [hsz]; exact hcl) (fun j v hj => ?_)) (by omega) h1c
    rw [hcs, List.getElem?_drop, List.getElem?_take] at hj
    split at hj
    · have : (⟨b, i * 2, none⟩ : Addr).add j = ⟨b, i * 2 + j, none⟩ := by unfold Addr.add; split <;> simp_all
      rw [this]
      have e : W.cell? ⟨b, i * 2 + j, none⟩ = arr[i * 2 + j]? := by
        have e1 : W.heap[b]? = w.heap[b]? := by rw [hW, setRow_other W1 w.heap.size b A1 (by omega)]; exact hWo b hbw
        simp [World.cell?, e1, hmem]
      rw [e]; simpa using hj
    · cases hj
  have hb1 : (0 : Int) ≤ (i : Int) + 1 := by omega
  have hin : i ≤ n := by omega
  have hb2 : ¬ (G = i + 1) := by omega
  have hb4 : ¬ (c = i) := by omega
  have hb5 : ¬ (G = i) := by omega
  have hb3 : (i : Int) ≤ (n : Int) + 1 := by omega
  have hb6 : (c : Int) < (n : Int) + 1 := by omega
  have hb7 : i ≤ c := by omega
  rw [← hW1]
  clear hG hcs hA1 hA2 hW1 hold hROW hWn hWo hik hkk
  go_enter Try.func53, Try.ntmps53
  go_wp2_with (first
    | (at_builtin; refine Lib.wpList_append_run _ rfl _ _ _ _ rfl _ _ rfl rfl _ _ (hrz _) ?_)
    | (at_builtin; refine wpList_copy_runR _ rfl _ _ 24 24 rfl _ _ rfl rfl (hcp1 _ (by exact rfl) _ _) ?_))
  have hF : ((W1.setRow w.heap.size A1).drew).heap = (W1.setRow w.heap.size A1).heap := rfl
  go_region_law_o (refine step_copy_runR rfl _ _ 24 24 rfl (.slice (some ⟨w.heap.size, (i + 1) * 2, none⟩) (n - i) (G - (i + 1))) (.slice (some ⟨b, i * 2, none⟩) (n - i) (c - i)) (by simp [Act.eval, Act.put]) (by simp [Act.eval, Act.put]) (hcp2 _ hF 3 (G - (i + 1)) (c - i)) ?_)
  go_wp2
  go_ret
  exact ⟨rfl, rfl⟩
theorem insF53 : InsF Try.prog 53 28 2 24 := by
  intro w b i n c vb vo vc arr va tb tv fz fv vs hmem hsize hf hmemv hfv hbn hvl hvs h1v h1c hi hnc hby
  obtain ⟨inf, z, hinf, hsz, hzz, hzs, hbb⟩ := insE53
  obtain ⟨cs, hcs⟩ : ∃ cs, cs = (arr.toList.take (n * 2)).drop (i * 2) := ⟨_, rfl⟩
  have h1 : ∀ u ∈ cs, u.oneCell' = true := fun u hu => h1c u (by rw [hcs] at hu; exact List.mem_of_mem_drop hu)
  have hcl : cs.length = (n - i) * 2 := by rw [hcs]; simp; omega
  by_cases hroom : n + 1 ≤ c
  · have hvo : vo < va.size := by
      have := hvs 0 vs[0] (List.getElem?_eq_getElem (by omega))
      have := (Array.getElem?_eq_some_iff.1 this).1
      omega
    have hov : ∀ y, (callFunc 80 #[.slice (some ⟨vb, vo, none⟩) 1 vc, .slice (some ⟨b, (i + 1) * 2, none⟩) (n - i) y]).run Try.prog w = .ok (.value (.bool false)) w := fun y => by
      rw [run_callFunc_extern Try.func80 (by kernel_rfl) (by kernel_rfl) (by kernel_rfl) (e := Extern.SlicesOverlaps.overlaps #[24, 24] #[4]) (by kernel_rfl),
        Lib.run_overlaps_apart w 24 4 28 insU53 2 (fun w => by rw [run_size hinf, hsz]) ⟨vb, vo, none⟩ ⟨b, (i + 1) * 2, none⟩ 1 vc (n - i) y hbn tv tb va.size arr.size (by simp [World.shape?, hmemv]) (by simp [World.shape?, hmem]) (by omega)
          (by have := hfv vo (by omega); simp only [World.frozen?, hmemv]; simp; omega) (by have := hfv va.size (Nat.le_refl _); simp only [World.frozen?, hmemv]; simp; omega)]
      rfl
    refine (insShift53 hinf hsz w b i n c vb vo vc arr tb fz cs vs hmem (fun j hj => hf j (by omega)) hi hroom hsize hby hbn hcs hvl (fun j u hj => by simpa [World.cell?, hmemv] using hvs j u hj) h1 h1v hov _ _ rfl rfl).mono fun x w' => ?_
    rintro ⟨rfl, rfl⟩
    have hA1s : (arr.toList.take ((i + 1) * 2) ++ (cs ++ arr.toList.drop ((i + 1) * 2 + cs.length))).toArray.size = arr.size := by simp [hcl]; omega
    have hm1 := setRow_heap w.drew b arr (arr.toList.take ((i + 1) * 2) ++ (cs ++ arr.toList.drop ((i + 1) * 2 + cs.length))).toArray tb fz hmem
    generalize hA1 : (arr.toList.take ((i + 1) * 2) ++ (cs ++ arr.toList.drop ((i + 1) * 2 + cs.length))).toArray = A1 at *
    have hA2s : (A1.toList.take (i * 2) ++ (vs ++ A1.toList.drop (i * 2 + vs.length))).toArray.size = A1.size := by simp [hvl]; omega
    have hm2 := setRow_heap (w.drew.setRow b A1) b A1 (A1.toList.take (i * 2) ++ (vs ++ A1.toList.drop (i * 2 + vs.length))).toArray tb fz hm1
    refine ⟨b, c, tb, _, fz, rfl, rfl, rfl, rfl, hm2, fun j hj => hf j (by rw [hA2s, hA1s] at hj; exact hj), by rw [hA2s, hA1s]; exact hsize, hroom, ?_, .inl ⟨rfl, rfl, by rw [hA2s, hA1s], by rw [setRow_size, setRow_size]; rfl, fun j hj => ?_⟩⟩
    · subst hA1
      exact insShiftL arr.toList vs cs (i * 2) (n * 2) 2 ((i + 1) * 2) ((n + 1) * 2) (by omega) (by omega) (by omega) (by simp; omega) hvl hcs
    · rw [setRow_other _ _ _ _ hj, setRow_other _ _ _ _ hj]; rfl
  · refine (insGrow53 hinf hsz hzz hzs hbb w b i n c vb vo vc arr tb fz cs vs hmem hi hnc hroom hsize hby va tv fv hmemv hcs hvl hvs h1 h1v _ rfl _ _ _ rfl rfl rfl).mono fun x w' => ?_
    rintro ⟨rfl, rfl⟩
    have hGn : n + 1 ≤ grownCap w (n + 1) c 28 := grownCap_ge w _ _ _
    have hzc : ∀ k, (Builtin.zeroCells z.cells k).size = k * 2 := fun k => by rw [size_zeroCells, hzs]
    have hRs : ((arr.toList.take (i * 2)).toArray ++ Builtin.zeroCells z.cells (n + 1 - i) ++ Builtin.zeroCells z.cells (grownCap w (n + 1) c 28 - (n + 1))).size = grownCap w (n + 1) c 28 * 2 := by
      simp only [Array.size_append, hzc, List.size_toArray, List.length_take, Array.length_toList]; omega
    have hRt : ((arr.toList.take (i * 2)).toArray ++ Builtin.zeroCells z.cells (n + 1 - i) ++ Builtin.zeroCells z.cells (grownCap w (n + 1) c 28 - (n + 1))).toList.take (i * 2) = arr.toList.take (i * 2) := by
      simp only [Array.toList_append, List.append_assoc]
      exact List.take_left' (by simp; omega)
    generalize hG : grownCap w (n + 1) c 28 = G at *
    generalize hR : (arr.toList.take (i * 2)).toArray ++ Builtin.zeroCells z.cells (n + 1 - i) ++ Builtin.zeroCells z.cells (G - (n + 1)) = ROW at *
    have hm0 : (w.drew.alloc (.cells ROW 28)).heap[w.heap.size]? = some (.cells ROW 28 (0, 0)) := heap_alloc_new w.drew _
    have hA1s : (ROW.toList.take (i * 2) ++ (vs ++ ROW.toList.drop (i * 2 + vs.length))).toArray.size = ROW.size := by simp [hvl]; omega
    have hm1 := setRow_heap (w.drew.alloc (.cells ROW 28)) w.heap.size ROW (ROW.toList.take (i * 2) ++ (vs ++ ROW.toList.drop (i * 2 + vs.length))).toArray 28 (0, 0) hm0
    generalize hA1 : (ROW.toList.take (i * 2) ++ (vs ++ ROW.toList.drop (i * 2 + vs.length))).toArray = A1 at *
    have hA2s : (A1.toList.take ((i + 1) * 2) ++ (cs ++ A1.toList.drop ((i + 1) * 2 + cs.length))).toArray.size = A1.size := by simp [hcl]; omega
    have hm2 := setRow_heap ((w.drew.alloc (.cells ROW 28)).setRow w.heap.size A1).drew w.heap.size A1 (A1.toList.take ((i + 1) * 2) ++ (cs ++ A1.toList.drop ((i + 1) * 2 + cs.length))).toArray 28 (0, 0) hm1
    refine ⟨w.heap.size, G, 28, _, (0, 0), rfl, rfl, rfl, rfl, hm2, fun j _ hj => by simp at hj, by rw [hA2s, hA1s]; exact hRs, hGn, ?_, .inr ⟨rfl, rfl, ?_, fun j hj => ?_⟩⟩
    · subst hA1
      exact insGrowL arr.toList ROW.toList vs cs (i * 2) (n * 2) 2 ((i + 1) * 2) ((n + 1) * 2) (by omega) (by omega) (by omega) (by simp; omega) hvl hcs hRt
    · rw [setRow_size]
      show ((w.drew.alloc (.cells ROW 28)).setRow w.heap.size A1).heap.size = _
      rw [setRow_size]
      simp
    · rw [setRow_other _ _ _ _ (by omega)]
      show ((w.drew.alloc (.cells ROW 28)).setRow w.heap.size A1).heap[j]? = _
      rw [setRow_other _ _ _ _ (by omega)]
      exact heap_alloc_old w.drew _ hj


def insT : InsT := [(53, (28, 2, 24))]
theorem insT_ok : InsOk Try.prog insT := by
  intro f e sz bytes h
  by_cases h53 : f = 53
  · subst h53
    simp [insT, List.lookup] at h
    obtain ⟨rfl, rfl, rfl⟩ := h
    exact ⟨insF53, _, Try.func53, by kernel_rfl, by kernel_rfl⟩
  have e53 : (f == 53) = false := by simpa using h53
  simp [insT, List.lookup, e53] at h

def tyN : Nat → Ty
  | 0 => .unit
  | n + 1 => .pair (.int .i64) (tyN n)
theorem cA51 : isA ((evOY nonJ noneΞ [85,63,81,87,88] P0 100000 60).1 51 [.snil] []) = true := by kernel_rfl
theorem cB51 : isB ((evOY nonJ noneΞ [85,63,81,87,88] P0 100000 60).1 51 [.nl ⟨tyN 2, []⟩] []) = true := by kernel_rfl
noncomputable def YC0 : Orc := addC 51 noneΞ
theorem okYC0 : GammaOk2 P0 YC0 := addC_ok (noneΞ_ok2 _) (evOY_ok (nonJ_ok _) (noneΞ_ok2 _) mixed progOk_ 60).1 cA51 cB51
theorem cA79 : isA ((evOY nonJ noneΞ [85,63,81,87,88] P0 100000 60).1 79 [.snil] []) = true := by kernel_rfl
theorem cB79 : isB ((evOY nonJ noneΞ [85,63,81,87,88] P0 100000 60).1 79 [.nl ⟨tyN 5, []⟩] []) = true := by kernel_rfl
noncomputable def YC1 : Orc := addC 79 YC0
theorem okYC1 : GammaOk2 P0 YC1 := addC_ok okYC0 (evOY_ok (nonJ_ok _) (noneΞ_ok2 _) mixed progOk_ 60).1 cA79 cB79
noncomputable def con_law17_begun (N : Nat) : Con := ⟨17, [], [], Unit, fun _ => some (), fun _ => (.bs true, [], [])⟩
theorem con_law17_begun_ok (N : Nat) : Con.ok P0 (con_law17_begun N) := closed_con2 (insIn_ok insT_ok) mixed progOk_ okYC1 (inl := [85,63,81,87,88]) (breath := 100000) (n := 60) (by kernel_rfl)
def as_Made : List AS := [.val (.list (.int .u8))]
def bs_Made : List BS := []
def pout_Made : Pat := ⟨[(2, .ptr 600005 0)], [(600005, .box 92 (.val T4_))]⟩
noncomputable def G_Made  (N : Nat) : OrcT := orcOf []
noncomputable def F_Made  (N : Nat) (x : List Int) : Option (List Int × Int) :=
  (evT (G_Made  N) L0 P0 []
    [] N 400 (bodyOf Try.f18) ⟨6, slots 0 (argsOf as_Made bs_Made x), tabU (lbOf as_Made bs_Made x) [], []⟩).elim (kRet 6 pout_Made (kpL []) (lbOf as_Made bs_Made x))
def out_Made (y : List Int × Int) : V × List OK × List OK := (.ptr 2000000 0 0, [], [.box 92 (cellsW T4_ y)])
noncomputable def V_Made  (N : Nat) (x : List Int) : Option (List Int × Int) :=
  some (x, (0:Int))
theorem FV_Made_eq  (N : Nat) (x : List Int) : F_Made  N x = V_Made  N x := by kernel_rfl
noncomputable def W_Made (N : Nat) (x : List Int) : Option (List Int × Int) := V_Made  N x
theorem F_Made_eq (N : Nat) (x : List Int) : F_Made  N x = W_Made N x := (FV_Made_eq  N x).trans (by kernel_rfl)
noncomputable def conw_Made (w : List Int → Option (List Int × Int)) : Con := ⟨18, as_Made, bs_Made, List Int × Int, w, out_Made⟩
noncomputable def con_Made (N : Nat) : Con := conw_Made (W_Made N)
theorem R_Made_eq (x : List Int) (y : List Int × Int) : retOf2 P0 Try.f18 (kpL []) (lbOf as_Made bs_Made x) (patS ⟨6, [], [], []⟩ pout_Made y) = some (out_Made y) := by kernel_rfl
theorem con_Made_ok (N : Nat) : Con.ok P0 (con_Made N) := ⟨⟨Try.f18, Try.func18, by kernel_rfl, by kernel_rfl⟩, fun (x : List Int) (r : List Int × Int) (hr : W_Made N x = some r) =>
  spec2_evT (Γ := G_Made N) (Λ := L0) (pout := pout_Made) (kp := kpL []) mixed (orcOf_ok [] (by simp)) Try.func18 (c := bodyOf Try.f18) (by kernel_rfl) (by kernel_rfl) (of_decide_eq_true (by kernel_rfl)) ((F_Made_eq N x).trans hr) (R_Made_eq x r)⟩
def as_Picks_Num : List AS := [.ptr 0 0, .val (.int .i64)]
def bs_Picks_Num : List BS := [.box 92 T4_]
def pout_Picks_Num : Pat := ⟨[(0, .ptr 1000000 0), (4, .val (.int .i64))], [(1000000, .box 92 (.val T4_))]⟩
noncomputable def G_Picks_Num  (N : Nat) : OrcT := orcOf []
noncomputable def F_Picks_Num  (N : Nat) (x : Int × List Int × Int) : Option (Int × List Int × Int) :=
  (evT (G_Picks_Num  N) L0 P0 []
    [] N 400 (bodyOf Try.f54) ⟨40, slots 0 (argsOf as_Picks_Num bs_Picks_Num x), tabU (lbOf as_Picks_Num bs_Picks_Num x) [], []⟩).elim (kRet 40 pout_Picks_Num (kpL [true]) (lbOf as_Picks_Num bs_Picks_Num x))
def out_Picks_Num (y : Int × List Int × Int) : V × List OK × List OK := (valW (.int .i64) y.1, [.box 92 (cellsW T4_ y.2)], [])
noncomputable def V_Picks_Num  (N : Nat) (x : Int × List Int × Int) : Option (Int × List Int × Int) :=
  cnd (decide ((↑(List.length x.2.1) : Int) ≤ x.2.2)) (some ((0:Int), x.2)) (cnd (decide (x.1 < (1:Int))) (some ((0:Int), x.2)) (cnd (decide ((0:Int) ≤
    wr .i64 (wr .i64 (x.2.2 + (1:Int)) - (1:Int))) && decide (wr .i64 (wr .i64 (x.2.2 + (1:Int)) - (1:Int)) < (↑(List.length x.2.1) : Int))) (cnd
    (!decide (x.1 = (0:Int))) (some (Int.tmod (wr .i64 (List.getD x.2.1 (Int.toNat (wr .i64 (wr .i64 (x.2.2 + (1:Int)) - (1:Int)))) (0:Int))) x.1,
    x.2.1, wr .i64 (x.2.2 + (1:Int)))) none) none))
theorem FV_Picks_Num_eq  (N : Nat) (x : Int × List Int × Int) : F_Picks_Num  N x = V_Picks_Num  N x := by kernel_rfl
noncomputable def W_Picks_Num (N : Nat) (x : Int × List Int × Int) : Option (Int × List Int × Int) := V_Picks_Num  N x
theorem F_Picks_Num_eq (N : Nat) (x : Int × List Int × Int) : F_Picks_Num  N x = W_Picks_Num N x := (FV_Picks_Num_eq  N x).trans (by kernel_rfl)
noncomputable def conw_Picks_Num (w : Int × List Int × Int → Option (Int × List Int × Int)) : Con := ⟨54, as_Picks_Num, bs_Picks_Num, Int × List Int × Int, w, out_Picks_Num⟩
noncomputable def con_Picks_Num (N : Nat) : Con := conw_Picks_Num (W_Picks_Num N)
theorem R_Picks_Num_eq (x : Int × List Int × Int) (y : Int × List Int × Int) : retOf2 P0 Try.f54 (kpL [true]) (lbOf as_Picks_Num bs_Picks_Num x) (patS ⟨40, [], [], []⟩ pout_Picks_Num y) = some (out_Picks_Num y) := by kernel_rfl
theorem con_Picks_Num_ok (N : Nat) : Con.ok P0 (con_Picks_Num N) := ⟨⟨Try.f54, Try.func54, by kernel_rfl, by kernel_rfl⟩, fun (x : Int × List Int × Int) (r : Int × List Int × Int) (hr : W_Picks_Num N x = some r) =>
  spec2_evT (Γ := G_Picks_Num N) (Λ := L0) (pout := pout_Picks_Num) (kp := kpL [true]) mixed (orcOf_ok [] (by simp)) Try.func54 (c := bodyOf Try.f54) (by kernel_rfl) (by kernel_rfl) (of_decide_eq_true (by kernel_rfl)) ((F_Picks_Num_eq N x).trans hr) (R_Picks_Num_eq x r)⟩
def as_ref13_Knows : List AS := [.val (.agg T0_), .val (.int .i64)]
def bs_ref13_Knows : List BS := []
def pout_ref13_Knows : Pat := ⟨[(4, .ptr 600004 0)], [(600004, .box 35 (.val T0_))]⟩
noncomputable def G_ref13_Knows  (N : Nat) : OrcT := orcOf []
noncomputable def F_ref13_Knows  (N : Nat) (x : (Int × A0_) × Int) : Option (Int × A0_) :=
  (evT (G_ref13_Knows  N) L0 P0 []
    [] N 400 (bodyOf Try.f47) ⟨18, slots 0 (argsOf as_ref13_Knows bs_ref13_Knows x), tabU (lbOf as_ref13_Knows bs_ref13_Knows x) [], []⟩).elim (kRet 18 pout_ref13_Knows (kpL []) (lbOf as_ref13_Knows bs_ref13_Knows x))
def out_ref13_Knows (y : Int × A0_) : V × List OK × List OK := (valW (.agg T0_) y, [], [])
noncomputable def V_ref13_Knows  (N : Nat) (x : (Int × A0_) × Int) : Option (Int × A0_) :=
  cnd (decide ((0:Int) < x.1.1)) (cnd (decide (x.2 ≤ (1000000:Int))) (some (x.1.1, max x.1.2.1 x.2, x.1.2.2)) (some x.1)) (some x.1)
theorem FV_ref13_Knows_eq  (N : Nat) (x : (Int × A0_) × Int) : F_ref13_Knows  N x = V_ref13_Knows  N x := by kernel_rfl
noncomputable def W_ref13_Knows (N : Nat) (x : (Int × A0_) × Int) : Option (Int × A0_) := V_ref13_Knows  N x
theorem F_ref13_Knows_eq (N : Nat) (x : (Int × A0_) × Int) : F_ref13_Knows  N x = W_ref13_Knows N x := (FV_ref13_Knows_eq  N x).trans (by kernel_rfl)
noncomputable def conw_ref13_Knows (w : (Int × A0_) × Int → Option (Int × A0_)) : Con := ⟨47, as_ref13_Knows, bs_ref13_Knows, Int × Int × List (Int × List UInt8) × List (Int × List UInt8) × List A1_ × Int × Int, w, out_ref13_Knows⟩
noncomputable def con_ref13_Knows (N : Nat) : Con := conw_ref13_Knows (W_ref13_Knows N)
theorem R_ref13_Knows_eq (x : (Int × A0_) × Int) (y : Int × A0_) : retOf2 P0 Try.f47 (kpL []) (lbOf as_ref13_Knows bs_ref13_Knows x) (patS ⟨18, [], [], []⟩ pout_ref13_Knows y) = some (out_ref13_Knows y) := by kernel_rfl
theorem con_ref13_Knows_ok (N : Nat) : Con.ok P0 (con_ref13_Knows N) := ⟨⟨Try.f47, Try.func47, by kernel_rfl, by kernel_rfl⟩, fun (x : (Int × A0_) × Int) (r : Int × A0_) (hr : W_ref13_Knows N x = some r) =>
  spec2_evT (Γ := G_ref13_Knows N) (Λ := L0) (pout := pout_ref13_Knows) (kp := kpL []) mixed (orcOf_ok [] (by simp)) Try.func47 (c := bodyOf Try.f47) (by kernel_rfl) (by kernel_rfl) (of_decide_eq_true (by kernel_rfl)) ((F_ref13_Knows_eq N x).trans hr) (R_ref13_Knows_eq x r)⟩
def as_ref13_Begin : List AS := [.val (.agg T0_), .val (.int .i64)]
def bs_ref13_Begin : List BS := []
def pout_ref13_Begin : Pat := ⟨[(4, .ptr 600004 0)], [(600004, .box 35 (.val T0_))]⟩
noncomputable def G_ref13_Begin (w_ref13_Knows : (Int × A0_) × Int → Option (Int × A0_)) (N : Nat) : OrcT := orcOf [conw_ref13_Knows w_ref13_Knows]
noncomputable def F_ref13_Begin (w_ref13_Knows : (Int × A0_) × Int → Option (Int × A0_)) (N : Nat) (x : (Int × A0_) × Int) : Option (Int × A0_) :=
  (evT (G_ref13_Begin w_ref13_Knows N) L0 P0 []
    [] N 400 (bodyOf Try.f44) ⟨21, slots 0 (argsOf as_ref13_Begin bs_ref13_Begin x), tabU (lbOf as_ref13_Begin bs_ref13_Begin x) [], []⟩).elim (kRet 21 pout_ref13_Begin (kpL []) (lbOf as_ref13_Begin bs_ref13_Begin x))
def out_ref13_Begin (y : Int × A0_) : V × List OK × List OK := (valW (.agg T0_) y, [], [])
noncomputable def V_ref13_Begin (w_ref13_Knows : (Int × A0_) × Int → Option (Int × A0_)) (N : Nat) (x : (Int × A0_) × Int) : Option (Int × A0_) :=
  cnd (decide ((0:Int) < x.1.1)) (obind (w_ref13_Knows (x.1, wr .i64 (x.2 - (1:Int)))) fun b => some b) (cnd (decide ((1:Int) ≤ x.2)) (cnd (decide (x.2 ≤ (1000000:Int))) (some (x.2, x.1.2)) (some x.1)) (some x.1))
theorem FV_ref13_Begin_eq (w_ref13_Knows : (Int × A0_) × Int → Option (Int × A0_)) (N : Nat) (x : (Int × A0_) × Int) : F_ref13_Begin w_ref13_Knows N x = V_ref13_Begin w_ref13_Knows N x := by kernel_rfl
noncomputable def W_ref13_Begin (N : Nat) (x : (Int × A0_) × Int) : Option (Int × A0_) := V_ref13_Begin (W_ref13_Knows N) N x
theorem F_ref13_Begin_eq (N : Nat) (x : (Int × A0_) × Int) : F_ref13_Begin (W_ref13_Knows N) N x = W_ref13_Begin N x := (FV_ref13_Begin_eq (W_ref13_Knows N) N x).trans (by kernel_rfl)
noncomputable def conw_ref13_Begin (w : (Int × A0_) × Int → Option (Int × A0_)) : Con := ⟨44, as_ref13_Begin, bs_ref13_Begin, Int × Int × List (Int × List UInt8) × List (Int × List UInt8) × List A1_ × Int × Int, w, out_ref13_Begin⟩
noncomputable def con_ref13_Begin (N : Nat) : Con := conw_ref13_Begin (W_ref13_Begin N)
theorem R_ref13_Begin_eq (x : (Int × A0_) × Int) (y : Int × A0_) : retOf2 P0 Try.f44 (kpL []) (lbOf as_ref13_Begin bs_ref13_Begin x) (patS ⟨21, [], [], []⟩ pout_ref13_Begin y) = some (out_ref13_Begin y) := by kernel_rfl
theorem con_ref13_Begin_ok (N : Nat) : Con.ok P0 (con_ref13_Begin N) := ⟨⟨Try.f44, Try.func44, by kernel_rfl, by kernel_rfl⟩, fun (x : (Int × A0_) × Int) (r : Int × A0_) (hr : W_ref13_Begin N x = some r) =>
  spec2_evT (Γ := G_ref13_Begin (W_ref13_Knows N) N) (Λ := L0) (pout := pout_ref13_Begin) (kp := kpL []) mixed (orcOf_ok _ (by simp only [List.mem_cons, List.not_mem_nil, or_false, forall_eq_or_imp, forall_eq]; exact con_ref13_Knows_ok N)) Try.func44 (c := bodyOf Try.f44) (by kernel_rfl) (by kernel_rfl) (of_decide_eq_true (by kernel_rfl)) ((F_ref13_Begin_eq N x).trans hr) (R_ref13_Begin_eq x r)⟩
def as_Picks_Over : List AS := [.ptr 0 0]
def bs_Picks_Over : List BS := [.box 92 T4_]
def pout_Picks_Over : Pat := ⟨[(0, .ptr 1000000 0), (2, .val .bool)], [(1000000, .box 92 (.val T4_))]⟩
noncomputable def G_Picks_Over  (N : Nat) : OrcT := orcOf []
noncomputable def F_Picks_Over  (N : Nat) (x : List Int × Int) : Option (Bool × List Int × Int) :=
  (evT (G_Picks_Over  N) L0 P0 []
    [] N 400 (bodyOf Try.f55) ⟨13, slots 0 (argsOf as_Picks_Over bs_Picks_Over x), tabU (lbOf as_Picks_Over bs_Picks_Over x) [], []⟩).elim (kRet 13 pout_Picks_Over (kpL [true]) (lbOf as_Picks_Over bs_Picks_Over x))
def out_Picks_Over (y : Bool × List Int × Int) : V × List OK × List OK := (valW .bool y.1, [.box 92 (cellsW T4_ y.2)], [])
noncomputable def V_Picks_Over  (N : Nat) (x : List Int × Int) : Option (Bool × List Int × Int) :=
  some (decide ((↑(List.length x.1) : Int) ≤ x.2), x)
theorem FV_Picks_Over_eq  (N : Nat) (x : List Int × Int) : F_Picks_Over  N x = V_Picks_Over  N x := by kernel_rfl
noncomputable def W_Picks_Over (N : Nat) (x : List Int × Int) : Option (Bool × List Int × Int) := V_Picks_Over  N x
theorem F_Picks_Over_eq (N : Nat) (x : List Int × Int) : F_Picks_Over  N x = W_Picks_Over N x := (FV_Picks_Over_eq  N x).trans (by kernel_rfl)
noncomputable def conw_Picks_Over (w : List Int × Int → Option (Bool × List Int × Int)) : Con := ⟨55, as_Picks_Over, bs_Picks_Over, Bool × List Int × Int, w, out_Picks_Over⟩
noncomputable def con_Picks_Over (N : Nat) : Con := conw_Picks_Over (W_Picks_Over N)
theorem R_Picks_Over_eq (x : List Int × Int) (y : Bool × List Int × Int) : retOf2 P0 Try.f55 (kpL [true]) (lbOf as_Picks_Over bs_Picks_Over x) (patS ⟨13, [], [], []⟩ pout_Picks_Over y) = some (out_Picks_Over y) := by kernel_rfl
theorem con_Picks_Over_ok (N : Nat) : Con.ok P0 (con_Picks_Over N) := ⟨⟨Try.f55, Try.func55, by kernel_rfl, by kernel_rfl⟩, fun (x : List Int × Int) (r : Bool × List Int × Int) (hr : W_Picks_Over N x = some r) =>
  spec2_evT (Γ := G_Picks_Over N) (Λ := L0) (pout := pout_Picks_Over) (kp := kpL [true]) mixed (orcOf_ok [] (by simp)) Try.func55 (c := bodyOf Try.f55) (by kernel_rfl) (by kernel_rfl) (of_decide_eq_true (by kernel_rfl)) ((F_Picks_Over_eq N x).trans hr) (R_Picks_Over_eq x r)⟩
def as_ref1_MaySpan : List AS := [.val (.agg T1_)]
def bs_ref1_MaySpan : List BS := []
def pout_ref1_MaySpan : Pat := ⟨[(2, .val .bool)], []⟩
noncomputable def G_ref1_MaySpan  (N : Nat) : OrcT := orcOf []
noncomputable def F_ref1_MaySpan  (N : Nat) (x : Int × Int) : Option (Bool) :=
  (evT (G_ref1_MaySpan  N) L0 P0 []
    [(1000001, .reg [(10, [], ⟨[(1, .ptr 600001 0), (12, .val .bool)], [(600001, .box 40 (.val T1_))]⟩)])] N 400 (bodyOf Try.f73) ⟨18, slots 0 (argsOf as_ref1_MaySpan bs_ref1_MaySpan x), tabU (lbOf as_ref1_MaySpan bs_ref1_MaySpan x) [], []⟩).elim (kRet 18 pout_ref1_MaySpan (kpL []) (lbOf as_ref1_MaySpan bs_ref1_MaySpan x))
def out_ref1_MaySpan (y : Bool) : V × List OK × List OK := (valW .bool y, [], [])
noncomputable def V_ref1_MaySpan  (N : Nat) (x : Int × Int) : Option (Bool) :=
  obind (cnd (decide ((1:Int) ≤ x.1)) (some (decide (x.1 ≤ x.2), x)) (some (false, x))) fun (b : Bool × Int × Int) => cnd b.1 (some (decide (b.2.2 ≤ (1000000:Int)))) (some false)
theorem FV_ref1_MaySpan_eq  (N : Nat) (x : Int × Int) : F_ref1_MaySpan  N x = V_ref1_MaySpan  N x := by kernel_rfl
noncomputable def W_ref1_MaySpan (N : Nat) (x : Int × Int) : Option (Bool) := V_ref1_MaySpan  N x
theorem F_ref1_MaySpan_eq (N : Nat) (x : Int × Int) : F_ref1_MaySpan  N x = W_ref1_MaySpan N x := (FV_ref1_MaySpan_eq  N x).trans (by kernel_rfl)
noncomputable def conw_ref1_MaySpan (w : Int × Int → Option (Bool)) : Con := ⟨73, as_ref1_MaySpan, bs_ref1_MaySpan, Bool, w, out_ref1_MaySpan⟩
noncomputable def con_ref1_MaySpan (N : Nat) : Con := conw_ref1_MaySpan (W_ref1_MaySpan N)
theorem R_ref1_MaySpan_eq (x : Int × Int) (y : Bool) : retOf2 P0 Try.f73 (kpL []) (lbOf as_ref1_MaySpan bs_ref1_MaySpan x) (patS ⟨18, [], [], []⟩ pout_ref1_MaySpan y) = some (out_ref1_MaySpan y) := by kernel_rfl
theorem con_ref1_MaySpan_ok (N : Nat) : Con.ok P0 (con_ref1_MaySpan N) := ⟨⟨Try.f73, Try.func73, by kernel_rfl, by kernel_rfl⟩, fun (x : Int × Int) (r : Bool) (hr : W_ref1_MaySpan N x = some r) =>
  spec2_evT (Γ := G_ref1_MaySpan N) (Λ := L0) (pout := pout_ref1_MaySpan) (kp := kpL []) mixed (orcOf_ok [] (by simp)) Try.func73 (c := bodyOf Try.f73) (by kernel_rfl) (by kernel_rfl) (of_decide_eq_true (by kernel_rfl)) ((F_ref1_MaySpan_eq N x).trans hr) (R_ref1_MaySpan_eq x r)⟩
def as_ref13_First : List AS := [.val (.list T2_)]
def bs_ref13_First : List BS := []
def pout_ref13_First : Pat := ⟨[(2, .val (.int .i64))], []⟩
noncomputable def G_ref13_First  (N : Nat) : OrcT := orcOf []
noncomputable def F_ref13_First  (N : Nat) (x : List (Int × List UInt8)) : Option (Int) :=
  (evT (G_ref13_First  N) L0 P0 []
    [] N 400 (bodyOf Try.f59) ⟨10, slots 0 (argsOf as_ref13_First bs_ref13_First x), tabU (lbOf as_ref13_First bs_ref13_First x) [], []⟩).elim (kRet 10 pout_ref13_First (kpL []) (lbOf as_ref13_First bs_ref13_First x))
def out_ref13_First (y : Int) : V × List OK × List OK := (valW (.int .i64) y, [], [])
noncomputable def V_ref13_First  (N : Nat) (x : List (Int × List UInt8)) : Option (Int) :=
  cnd (decide ((↑(List.length x) : Int) = (0:Int))) (some (0:Int)) (cnd (decide ((0:Int) ≤ (0:Int)) && decide ((0:Int) < (↑(List.length x) : Int))) (some (Prod.fst (List.getD x (0:Nat) ((0:Int), [])))) none)
theorem FV_ref13_First_eq  (N : Nat) (x : List (Int × List UInt8)) : F_ref13_First  N x = V_ref13_First  N x := by kernel_rfl
noncomputable def W_ref13_First (N : Nat) (x : List (Int × List UInt8)) : Option (Int) := V_ref13_First  N x
theorem F_ref13_First_eq (N : Nat) (x : List (Int × List UInt8)) : F_ref13_First  N x = W_ref13_First N x := (FV_ref13_First_eq  N x).trans (by kernel_rfl)
noncomputable def conw_ref13_First (w : List (Int × List UInt8) → Option (Int)) : Con := ⟨59, as_ref13_First, bs_ref13_First, Int, w, out_ref13_First⟩
noncomputable def con_ref13_First (N : Nat) : Con := conw_ref13_First (W_ref13_First N)
theorem R_ref13_First_eq (x : List (Int × List UInt8)) (y : Int) : retOf2 P0 Try.f59 (kpL []) (lbOf as_ref13_First bs_ref13_First x) (patS ⟨10, [], [], []⟩ pout_ref13_First y) = some (out_ref13_First y) := by kernel_rfl
theorem con_ref13_First_ok (N : Nat) : Con.ok P0 (con_ref13_First N) := ⟨⟨Try.f59, Try.func59, by kernel_rfl, by kernel_rfl⟩, fun (x : List (Int × List UInt8)) (r : Int) (hr : W_ref13_First N x = some r) =>
  spec2_evT (Γ := G_ref13_First N) (Λ := L0) (pout := pout_ref13_First) (kp := kpL []) mixed (orcOf_ok [] (by simp)) Try.func59 (c := bodyOf Try.f59) (by kernel_rfl) (by kernel_rfl) (of_decide_eq_true (by kernel_rfl)) ((F_ref13_First_eq N x).trans hr) (R_ref13_First_eq x r)⟩
def as_ref13_Skip : List AS := [.val T3_, .val (.int .i64), .val (.int .i64), .val (.int .i64)]
def bs_ref13_Skip : List BS := []
def pout_ref13_Skip : Pat := ⟨[(8, .val T3_)], []⟩
noncomputable def G_ref13_Skip  (N : Nat) : OrcT := orcOf []
noncomputable def F_ref13_Skip  (N : Nat) (x : List A1_ × Int × Int × Int) : Option (List A1_) :=
  (evT (G_ref13_Skip  N) L0 P0 []
    [] N 400 (bodyOf Try.f66) ⟨18, slots 0 (argsOf as_ref13_Skip bs_ref13_Skip x), tabU (lbOf as_ref13_Skip bs_ref13_Skip x) [], []⟩).elim (kRet 18 pout_ref13_Skip (kpL []) (lbOf as_ref13_Skip bs_ref13_Skip x))
def out_ref13_Skip (y : List A1_) : V × List OK × List OK := (valW T3_ y, [], [])
noncomputable def V_ref13_Skip  (N : Nat) (x : List A1_ × Int × Int × Int) : Option (List A1_) :=
  cnd (decide (List.length x.1 * (48:Nat) ≤ (140737488355328:Nat))) (cnd (decide ((List.length x.1 + (1:Nat)) * (48:Nat) ≤ (140737488355328:Nat))) (some (x.1 ++ [((2:Int), x.2.1, x.2.2.1, [], x.2.2.2)])) none) none
theorem FV_ref13_Skip_eq  (N : Nat) (x : List A1_ × Int × Int × Int) : F_ref13_Skip  N x = V_ref13_Skip  N x := by kernel_rfl
noncomputable def W_ref13_Skip (N : Nat) (x : List A1_ × Int × Int × Int) : Option (List A1_) := V_ref13_Skip  N x
theorem F_ref13_Skip_eq (N : Nat) (x : List A1_ × Int × Int × Int) : F_ref13_Skip  N x = W_ref13_Skip N x := (FV_ref13_Skip_eq  N x).trans (by kernel_rfl)
noncomputable def conw_ref13_Skip (w : List A1_ × Int × Int × Int → Option (List A1_)) : Con := ⟨66, as_ref13_Skip, bs_ref13_Skip, List A1_, w, out_ref13_Skip⟩
noncomputable def con_ref13_Skip (N : Nat) : Con := conw_ref13_Skip (W_ref13_Skip N)
theorem R_ref13_Skip_eq (x : List A1_ × Int × Int × Int) (y : List A1_) : retOf2 P0 Try.f66 (kpL []) (lbOf as_ref13_Skip bs_ref13_Skip x) (patS ⟨18, [], [], []⟩ pout_ref13_Skip y) = some (out_ref13_Skip y) := by kernel_rfl
theorem con_ref13_Skip_ok (N : Nat) : Con.ok P0 (con_ref13_Skip N) := ⟨⟨Try.f66, Try.func66, by kernel_rfl, by kernel_rfl⟩, fun (x : List A1_ × Int × Int × Int) (r : List A1_) (hr : W_ref13_Skip N x = some r) =>
  spec2_evT (Γ := G_ref13_Skip N) (Λ := L0) (pout := pout_ref13_Skip) (kp := kpL []) mixed (orcOf_ok [] (by simp)) Try.func66 (c := bodyOf Try.f66) (by kernel_rfl) (by kernel_rfl) (of_decide_eq_true (by kernel_rfl)) ((F_ref13_Skip_eq N x).trans hr) (R_ref13_Skip_eq x r)⟩
def as_ref13_TakeWin : List AS := [.val (.list T2_), .val (.int .i64)]
def bs_ref13_TakeWin : List BS := []
def pout_ref13_TakeWin : Pat := ⟨[(4, .val (.list T2_)), (5, .ptr 600005 0), (6, .val .bool)], [(600005, .box 28 (.val (.pair (.int .i64) .str)))]⟩
noncomputable def G_ref13_TakeWin  (N : Nat) : OrcT := orcOf []
noncomputable def F_ref13_TakeWin  (N : Nat) (x : List (Int × List UInt8) × Int) : Option A3_ :=
  (evT (G_ref13_TakeWin  N) L0 P0 []
    [] N 400 (bodyOf Try.f69) ⟨27, slots 0 (argsOf as_ref13_TakeWin bs_ref13_TakeWin x), tabU (lbOf as_ref13_TakeWin bs_ref13_TakeWin x) [], []⟩).elim (kRet 27 pout_ref13_TakeWin (kpL []) (lbOf as_ref13_TakeWin bs_ref13_TakeWin x))
def out_ref13_TakeWin (y : A3_) : V × List OK × List OK := (.tup [valW (.list T2_) y.1, valW T2_ y.2.2, valW .bool y.2.1], [], [])
noncomputable def V_ref13_TakeWin  (N : Nat) (x : List (Int × List UInt8) × Int) : Option A3_ :=
  cnd (decide ((↑(List.length x.1) : Int) = (0:Int))) (some (x.1, false, (0:Int), [])) (cnd (decide ((0:Int) ≤ (0:Int)) && decide ((0:Int) <
    (↑(List.length x.1) : Int))) (cnd (decide (Prod.fst (List.getD x.1 (0:Nat) ((0:Int), [])) ≠ x.2)) (some (x.1, false, (0:Int), [])) (cnd (decide
    ((0:Int) ≤ (1:Int)) && decide ((1:Int) ≤ (↑(List.length x.1) : Int))) (cnd (decide (List.length (List.drop (1:Nat) (List.take (List.length x.1)
    x.1)) * (24:Nat) ≤ (140737488355328:Nat))) (cnd (decide ((0:Int) ≤ (0:Int)) && decide ((0:Int) < (↑(List.length x.1) : Int))) (some (List.drop
    (1:Nat) (List.take (List.length x.1) x.1), true, Prod.fst (List.getD x.1 (0:Nat) ((0:Int), [])), Prod.snd (List.getD x.1 (0:Nat) ((0:Int), []))))
    none) none) none)) none)
theorem FV_ref13_TakeWin_eq  (N : Nat) (x : List (Int × List UInt8) × Int) : F_ref13_TakeWin  N x = V_ref13_TakeWin  N x := by kernel_rfl
noncomputable def W_ref13_TakeWin (N : Nat) (x : List (Int × List UInt8) × Int) : Option A3_ := V_ref13_TakeWin  N x
theorem F_ref13_TakeWin_eq (N : Nat) (x : List (Int × List UInt8) × Int) : F_ref13_TakeWin  N x = W_ref13_TakeWin N x := (FV_ref13_TakeWin_eq  N x).trans (by kernel_rfl)
noncomputable def conw_ref13_TakeWin (w : List (Int × List UInt8) × Int → Option A3_) : Con := ⟨69, as_ref13_TakeWin, bs_ref13_TakeWin, List (Int × List UInt8) × Bool × Int × List UInt8, w, out_ref13_TakeWin⟩
noncomputable def con_ref13_TakeWin (N : Nat) : Con := conw_ref13_TakeWin (W_ref13_TakeWin N)
theorem R_ref13_TakeWin_eq (x : List (Int × List UInt8) × Int) (y : A3_) : retOf2 P0 Try.f69 (kpL []) (lbOf as_ref13_TakeWin bs_ref13_TakeWin x) (patS ⟨27, [], [], []⟩ pout_ref13_TakeWin y) = some (out_ref13_TakeWin y) := by kernel_rfl
theorem con_ref13_TakeWin_ok (N : Nat) : Con.ok P0 (con_ref13_TakeWin N) := ⟨⟨Try.f69, Try.func69, by kernel_rfl, by kernel_rfl⟩, fun (x : List (Int × List UInt8) × Int) (r : A3_) (hr : W_ref13_TakeWin N x = some r) =>
  spec2_evT (Γ := G_ref13_TakeWin N) (Λ := L0) (pout := pout_ref13_TakeWin) (kp := kpL []) mixed (orcOf_ok [] (by simp)) Try.func69 (c := bodyOf Try.f69) (by kernel_rfl) (by kernel_rfl) (of_decide_eq_true (by kernel_rfl)) ((F_ref13_TakeWin_eq N x).trans hr) (R_ref13_TakeWin_eq x r)⟩
def as_ref13_Tell : List AS := [.val T3_, .val (.int .i64), .val .str]
def bs_ref13_Tell : List BS := []
def pout_ref13_Tell : Pat := ⟨[(6, .val T3_)], []⟩
noncomputable def G_ref13_Tell  (N : Nat) : OrcT := orcOf []
noncomputable def F_ref13_Tell  (N : Nat) (x : List A1_ × Int × List UInt8) : Option (List A1_) :=
  (evT (G_ref13_Tell  N) L0 P0 []
    [] N 400 (bodyOf Try.f70) ⟨16, slots 0 (argsOf as_ref13_Tell bs_ref13_Tell x), tabU (lbOf as_ref13_Tell bs_ref13_Tell x) [], []⟩).elim (kRet 16 pout_ref13_Tell (kpL []) (lbOf as_ref13_Tell bs_ref13_Tell x))
def out_ref13_Tell (y : List A1_) : V × List OK × List OK := (valW T3_ y, [], [])
noncomputable def V_ref13_Tell  (N : Nat) (x : List A1_ × Int × List UInt8) : Option (List A1_) :=
  cnd (decide (List.length x.1 * (48:Nat) ≤ (140737488355328:Nat))) (cnd (decide ((List.length x.1 + List.length [((1:Int), x.2.1, x.2.1, x.2.2, (0:Int))]) * (48:Nat) ≤ (140737488355328:Nat))) (some (x.1 ++ [((1:Int), x.2.1, x.2.1, x.2.2, (0:Int))])) none) none
theorem FV_ref13_Tell_eq  (N : Nat) (x : List A1_ × Int × List UInt8) : F_ref13_Tell  N x = V_ref13_Tell  N x := by kernel_rfl
noncomputable def W_ref13_Tell (N : Nat) (x : List A1_ × Int × List UInt8) : Option (List A1_) := V_ref13_Tell  N x
theorem F_ref13_Tell_eq (N : Nat) (x : List A1_ × Int × List UInt8) : F_ref13_Tell  N x = W_ref13_Tell N x := (FV_ref13_Tell_eq  N x).trans (by kernel_rfl)
noncomputable def conw_ref13_Tell (w : List A1_ × Int × List UInt8 → Option (List A1_)) : Con := ⟨70, as_ref13_Tell, bs_ref13_Tell, List A1_, w, out_ref13_Tell⟩
noncomputable def con_ref13_Tell (N : Nat) : Con := conw_ref13_Tell (W_ref13_Tell N)
theorem R_ref13_Tell_eq (x : List A1_ × Int × List UInt8) (y : List A1_) : retOf2 P0 Try.f70 (kpL []) (lbOf as_ref13_Tell bs_ref13_Tell x) (patS ⟨16, [], [], []⟩ pout_ref13_Tell y) = some (out_ref13_Tell y) := by kernel_rfl
theorem con_ref13_Tell_ok (N : Nat) : Con.ok P0 (con_ref13_Tell N) := ⟨⟨Try.f70, Try.func70, by kernel_rfl, by kernel_rfl⟩, fun (x : List A1_ × Int × List UInt8) (r : List A1_) (hr : W_ref13_Tell N x = some r) =>
  spec2_evT (Γ := G_ref13_Tell N) (Λ := L0) (pout := pout_ref13_Tell) (kp := kpL []) mixed (orcOf_ok [] (by simp)) Try.func70 (c := bodyOf Try.f70) (by kernel_rfl) (by kernel_rfl) (of_decide_eq_true (by kernel_rfl)) ((F_ref13_Tell_eq N x).trans hr) (R_ref13_Tell_eq x r)⟩
def as_ref13_AddRing : List AS := [.val (.list T2_), .val T2_]
def bs_ref13_AddRing : List BS := []
def pout_ref13_AddRing : Pat := ⟨[(4, .val (.list T2_))], []⟩
noncomputable def G_ref13_AddRing  (N : Nat) : OrcT := orcOf []
noncomputable def F_ref13_AddRing  (N : Nat) (x : List (Int × List UInt8) × Int × List UInt8) : Option (List (Int × List UInt8)) :=
  (evT (G_ref13_AddRing  N) L0 P0 []
    [] N 400 (bodyOf Try.f71) ⟨35, slots 0 (argsOf as_ref13_AddRing bs_ref13_AddRing x), tabU (lbOf as_ref13_AddRing bs_ref13_AddRing x) [], []⟩).elim (kRet 35 pout_ref13_AddRing (kpL []) (lbOf as_ref13_AddRing bs_ref13_AddRing x))
def out_ref13_AddRing (y : List (Int × List UInt8)) : V × List OK × List OK := (valW (.list T2_) y, [], [])
noncomputable def V_ref13_AddRing  (N : Nat) (x : List (Int × List UInt8) × Int × List UInt8) : Option (List (Int × List UInt8)) :=
  cnd (decide (List.length x.1 * (24:Nat) ≤ (140737488355328:Nat))) (cnd (decide ((0:Int) < (↑(List.length x.1) : Int))) (cnd (decide ((0:Int) ≤ wr .i64
    ((↑(List.length x.1) : Int) - (1:Int))) && decide (wr .i64 ((↑(List.length x.1) : Int) - (1:Int)) < (↑(List.length x.1) : Int))) (cnd (decide (x.2.1
    ≤ Prod.fst (List.getD x.1 (Int.toNat (wr .i64 ((↑(List.length x.1) : Int) - (1:Int)))) ((0:Int), [])))) (some x.1) (cnd (decide ((List.length x.1 +
    List.length [x.2]) * (24:Nat) ≤ (140737488355328:Nat))) (cnd (decide ((6:Int) < (↑(List.length (x.1 ++ [x.2])) : Int))) (cnd (decide (Option.getD
    (some (1:Int)) (0:Int) ≤ (↑(List.length (x.1 ++ [x.2])) : Int))) (some (List.drop ((0:Nat) + Prod.fst (Prod.snd (cutT (0:Nat) (List.length (x.1 ++
    [x.2])) (List.length (x.1 ++ [x.2])) (some (1:Int)) none))) (List.take ((0:Nat) + Prod.fst (Prod.snd (cutT (0:Nat) (List.length (x.1 ++ [x.2]))
    (List.length (x.1 ++ [x.2])) (some (1:Int)) none)) + (Prod.snd (Prod.snd (cutT (0:Nat) (List.length (x.1 ++ [x.2])) (List.length (x.1 ++ [x.2]))
    (some (1:Int)) none)) - Prod.fst (Prod.snd (cutT (0:Nat) (List.length (x.1 ++ [x.2])) (List.length (x.1 ++ [x.2])) (some (1:Int)) none)))) (x.1 ++
    [x.2])))) none) (some (x.1 ++ [x.2]))) none)) none) (cnd (decide ((List.length x.1 + List.length [x.2]) * (24:Nat) ≤ (140737488355328:Nat))) (cnd
    (decide ((6:Int) < (↑(List.length (x.1 ++ [x.2])) : Int))) (cnd (decide (Option.getD (some (1:Int)) (0:Int) ≤ (↑(List.length (x.1 ++ [x.2])) :
    Int))) (some (List.drop ((0:Nat) + Prod.fst (Prod.snd (cutT (0:Nat) (List.length (x.1 ++ [x.2])) (List.length (x.1 ++ [x.2])) (some (1:Int)) none)))
    (List.take ((0:Nat) + Prod.fst (Prod.snd (cutT (0:Nat) (List.length (x.1 ++ [x.2])) (List.length (x.1 ++ [x.2])) (some (1:Int)) none)) + (Prod.snd
    (Prod.snd (cutT (0:Nat) (List.length (x.1 ++ [x.2])) (List.length (x.1 ++ [x.2])) (some (1:Int)) none)) - Prod.fst (Prod.snd (cutT (0:Nat)
    (List.length (x.1 ++ [x.2])) (List.length (x.1 ++ [x.2])) (some (1:Int)) none)))) (x.1 ++ [x.2])))) none) (some (x.1 ++ [x.2]))) none)) none
theorem FV_ref13_AddRing_eq  (N : Nat) (x : List (Int × List UInt8) × Int × List UInt8) : F_ref13_AddRing  N x = V_ref13_AddRing  N x := by kernel_rfl
noncomputable def W_ref13_AddRing (N : Nat) (x : List (Int × List UInt8) × Int × List UInt8) : Option (List (Int × List UInt8)) := V_ref13_AddRing  N x
theorem F_ref13_AddRing_eq (N : Nat) (x : List (Int × List UInt8) × Int × List UInt8) : F_ref13_AddRing  N x = W_ref13_AddRing N x := (FV_ref13_AddRing_eq  N x).trans (by kernel_rfl)
noncomputable def conw_ref13_AddRing (w : List (Int × List UInt8) × Int × List UInt8 → Option (List (Int × List UInt8))) : Con := ⟨71, as_ref13_AddRing, bs_ref13_AddRing, List (Int × List UInt8), w, out_ref13_AddRing⟩
noncomputable def con_ref13_AddRing (N : Nat) : Con := conw_ref13_AddRing (W_ref13_AddRing N)
theorem R_ref13_AddRing_eq (x : List (Int × List UInt8) × Int × List UInt8) (y : List (Int × List UInt8)) : retOf2 P0 Try.f71 (kpL []) (lbOf as_ref13_AddRing bs_ref13_AddRing x) (patS ⟨35, [], [], []⟩ pout_ref13_AddRing y) = some (out_ref13_AddRing y) := by kernel_rfl
theorem con_ref13_AddRing_ok (N : Nat) : Con.ok P0 (con_ref13_AddRing N) := ⟨⟨Try.f71, Try.func71, by kernel_rfl, by kernel_rfl⟩, fun (x : List (Int × List UInt8) × Int × List UInt8) (r : List (Int × List UInt8)) (hr : W_ref13_AddRing N x = some r) =>
  spec2_evT (Γ := G_ref13_AddRing N) (Λ := L0) (pout := pout_ref13_AddRing) (kp := kpL []) mixed (orcOf_ok [] (by simp)) Try.func71 (c := bodyOf Try.f71) (by kernel_rfl) (by kernel_rfl) (of_decide_eq_true (by kernel_rfl)) ((F_ref13_AddRing_eq N x).trans hr) (R_ref13_AddRing_eq x r)⟩
def as_ref13_Goes : List AS := [.val (.agg T0_)]
def bs_ref13_Goes : List BS := []
def pout_ref13_Goes : Pat := ⟨[(2, .ptr 600002 0), (3, .val (.list T2_))], [(600002, .box 35 (.val T0_))]⟩
noncomputable def G_ref13_Goes (w_ref13_TakeWin : List (Int × List UInt8) × Int → Option A3_) (w_ref13_Tell : List A1_ × Int × List UInt8 → Option (List A1_)) (w_ref13_AddRing : List (Int × List UInt8) × Int × List UInt8 → Option (List (Int × List UInt8))) (N : Nat) : OrcT := orcOf [conw_ref13_TakeWin w_ref13_TakeWin, conw_ref13_Tell w_ref13_Tell, conw_ref13_AddRing w_ref13_AddRing]
noncomputable def F_ref13_Goes (w_ref13_TakeWin : List (Int × List UInt8) × Int → Option A3_) (w_ref13_Tell : List A1_ × Int × List UInt8 → Option (List A1_)) (w_ref13_AddRing : List (Int × List UInt8) × Int × List UInt8 → Option (List (Int × List UInt8))) (N : Nat) (x : Int × A0_) : Option A2_ :=
  (evT (G_ref13_Goes w_ref13_TakeWin w_ref13_Tell w_ref13_AddRing N) L0 P0 [(2, .loop [] ⟨[(1, .ptr 600001 0), (2, .ptr 600002 0), (4, .acc 700004)], [(600001, .box 35 (.val T0_)), (600002, .box 35 (.val T0_)), (700004, .nrow 28 T2_ true true)]⟩ [(.ret, ⟨[(2, .ptr 600002 0), (3, .val (.list T2_))], [(600002, .box 35 (.val T0_))]⟩)])]
    [] N 400 (bodyOf Try.f29) ⟨46, slots 0 (argsOf as_ref13_Goes bs_ref13_Goes x), tabU (lbOf as_ref13_Goes bs_ref13_Goes x) [], []⟩).elim (kRet 46 pout_ref13_Goes (kpL []) (lbOf as_ref13_Goes bs_ref13_Goes x))
def out_ref13_Goes (y : A2_) : V × List OK × List OK := (.tup [valW (.agg T0_) y.2, valW (.list T2_) y.1], [], [])
noncomputable def V_ref13_Goes (w_ref13_TakeWin : List (Int × List UInt8) × Int → Option A3_) (w_ref13_Tell : List A1_ × Int × List UInt8 → Option (List A1_)) (w_ref13_AddRing : List (Int × List UInt8) × Int × List UInt8 → Option (List (Int × List UInt8))) (N : Nat) (x : Int × A0_) : Option A2_ :=
  obind (loopN N (fun (v : (Int × A0_) × (Int × A0_) × List (Int × List UInt8))
    => obind (w_ref13_TakeWin (v.1.2.2.2.1, v.1.1)) fun b => cnd (!b.2.1) (some (Sum.inr (v.2.2, v.1))) (obind (w_ref13_Tell (v.1.2.2.2.2.1, b.2.2))
    fun b_1 => obind (w_ref13_AddRing (v.1.2.2.1, b.2.2)) fun b_2 => cnd (decide ((List.length v.2.2 + List.length [b.2.2]) * (24:Nat) ≤
    (140737488355328:Nat))) (some (Sum.inl ((wr .i64 (v.1.1 + (1:Int)), v.1.2.1, b_2, b.1, b_1, (0:Int), (0:Int)), v.2.1, v.2.2 ++ [b.2.2]))) none)) (x,
    ((0:Int), (0:Int), [], [], [], (0:Int), (0:Int)), [])) fun (b : A2_) => some b
theorem FV_ref13_Goes_eq (w_ref13_TakeWin : List (Int × List UInt8) × Int → Option A3_) (w_ref13_Tell : List A1_ × Int × List UInt8 → Option (List A1_)) (w_ref13_AddRing : List (Int × List UInt8) × Int × List UInt8 → Option (List (Int × List UInt8))) (N : Nat) (x : Int × A0_) : F_ref13_Goes w_ref13_TakeWin w_ref13_Tell w_ref13_AddRing N x = V_ref13_Goes w_ref13_TakeWin w_ref13_Tell w_ref13_AddRing N x := by kernel_rfl
noncomputable def W_ref13_Goes (N : Nat) (x : Int × A0_) : Option A2_ := V_ref13_Goes (W_ref13_TakeWin N) (W_ref13_Tell N) (W_ref13_AddRing N) N x
theorem F_ref13_Goes_eq (N : Nat) (x : Int × A0_) : F_ref13_Goes (W_ref13_TakeWin N) (W_ref13_Tell N) (W_ref13_AddRing N) N x = W_ref13_Goes N x := (FV_ref13_Goes_eq (W_ref13_TakeWin N) (W_ref13_Tell N) (W_ref13_AddRing N) N x).trans (by kernel_rfl)
noncomputable def conw_ref13_Goes (w : Int × Int × List (Int × List UInt8) × List (Int × List UInt8) × List A1_ × Int × Int → Option A2_) : Con := ⟨29, as_ref13_Goes, bs_ref13_Goes, List (Int × List UInt8) × Int × Int × List (Int × List UInt8) × List (Int × List UInt8) × List A1_ × Int × Int, w, out_ref13_Goes⟩
noncomputable def con_ref13_Goes (N : Nat) : Con := conw_ref13_Goes (W_ref13_Goes N)
theorem R_ref13_Goes_eq (x : Int × A0_) (y : A2_) : retOf2 P0 Try.f29 (kpL []) (lbOf as_ref13_Goes bs_ref13_Goes x) (patS ⟨46, [], [], []⟩ pout_ref13_Goes y) = some (out_ref13_Goes y) := by kernel_rfl
theorem con_ref13_Goes_ok (N : Nat) : Con.ok P0 (con_ref13_Goes N) := ⟨⟨Try.f29, Try.func29, by kernel_rfl, by kernel_rfl⟩, fun (x : Int × A0_) (r : A2_) (hr : W_ref13_Goes N x = some r) =>
  spec2_evT (Γ := G_ref13_Goes (W_ref13_TakeWin N) (W_ref13_Tell N) (W_ref13_AddRing N) N) (Λ := L0) (pout := pout_ref13_Goes) (kp := kpL []) mixed (orcOf_ok _ (by simp only [List.mem_cons, List.not_mem_nil, or_false, forall_eq_or_imp, forall_eq]; exact ⟨con_ref13_TakeWin_ok N, con_ref13_Tell_ok N, con_ref13_AddRing_ok N⟩)) Try.func29 (c := bodyOf Try.f29) (by kernel_rfl) (by kernel_rfl) (of_decide_eq_true (by kernel_rfl)) ((F_ref13_Goes_eq N x).trans hr) (R_ref13_Goes_eq x r)⟩
def as_ref13_Skips : List AS := [.val (.agg T0_), .val (.int .i64), .val (.int .i64)]
def bs_ref13_Skips : List BS := []
def pout_ref13_Skips : Pat := ⟨[(6, .ptr 600006 0), (7, .val (.list (.agg T1_)))], [(600006, .box 35 (.val T0_))]⟩
noncomputable def G_ref13_Skips (w_ref13_First : List (Int × List UInt8) → Option (Int)) (w_ref13_Skip : List A1_ × Int × Int × Int → Option (List A1_)) (w_ref13_Goes : Int × Int × List (Int × List UInt8) × List (Int × List UInt8) × List A1_ × Int × Int → Option A2_) (N : Nat) : OrcT := orcOf [conw_ref13_First w_ref13_First, conw_ref13_Skip w_ref13_Skip, conw_ref13_Goes w_ref13_Goes]
noncomputable def F_ref13_Skips (w_ref13_First : List (Int × List UInt8) → Option (Int)) (w_ref13_Skip : List A1_ × Int × Int × Int → Option (List A1_)) (w_ref13_Goes : Int × Int × List (Int × List UInt8) × List (Int × List UInt8) × List A1_ × Int × Int → Option A2_) (N : Nat) (x : (Int × A0_) × Int × Int) : Option A5_ :=
  (evT (G_ref13_Skips w_ref13_First w_ref13_Skip w_ref13_Goes N) L0 P0 [(4, .loop [] ⟨[(3, .ptr 600003 0), (6, .ptr 600006 0), (8, .acc 700008)], [(600003, .box 35 (.val T0_)), (600006, .box 35 (.val T0_)), (700008, .nrow 40 (.agg T1_) true true)]⟩ [(.exit 0, ⟨[(3, .ptr 600003 0), (6, .ptr 600006 0), (8, .val (.list (.agg T1_)))], [(600003, .box 35 (.val T0_)), (600006, .box 35 (.val T0_))]⟩)])]
    [(13, .cut [] [(.normal, ⟨[(3, .ptr 600003 0), (6, .ptr 600006 0), (8, .acc 700008)], [(600003, .box 35 (.val T0_)), (600006, .box 35 (.val T0_)), (700008, .nrow 40 (.agg T1_) true true)]⟩)]),
    (9, .cut [] [(.normal, ⟨[(3, .ptr 600003 0), (6, .ptr 600006 0), (8, .acc 700008), (9, .val (.int .i64))], [(600003, .box 35 (.val T0_)), (600006, .box 35 (.val T0_)), (700008, .nrow 40 (.agg T1_) true true)]⟩)])] N 400 (bodyOf Try.f26) ⟨73, slots 0 (argsOf as_ref13_Skips bs_ref13_Skips x), tabU (lbOf as_ref13_Skips bs_ref13_Skips x) [], []⟩).elim (kRet 73 pout_ref13_Skips (kpL []) (lbOf as_ref13_Skips bs_ref13_Skips x))
def out_ref13_Skips (y : A5_) : V × List OK × List OK := (.tup [valW (.agg T0_) y.2, valW (.list (.agg T1_)) y.1], [], [])
noncomputable def V_ref13_Skips (w_ref13_First : List (Int × List UInt8) → Option (Int)) (w_ref13_Skip : List A1_ × Int × Int × Int → Option (List A1_)) (w_ref13_Goes : Int × Int × List (Int × List UInt8) × List (Int × List UInt8) × List A1_ × Int × Int → Option A2_) (N : Nat) (x : (Int × A0_) × Int × Int) : Option A5_ :=
  cnd (decide (x.1.1 < (1:Int))) (some ([], x.1)) (cnd (decide ((1000000:Int) < x.2.1)) (some ([], x.1)) (obind (loopN N (fun (v : (Int × A0_) × (Int × A0_) × List (Int × Int)) => cnd (decide (v.1.1 ≤ x.2.1)) (obind (cnd (decide
    ((0:Int) < (↑(List.length v.1.2.2.2.1) : Int))) (obind (w_ref13_First v.1.2.2.2.1) fun b => cnd (decide (b ≤ x.2.1)) (obind (w_ref13_First
    v.1.2.2.2.1) fun b => some (wr .i64 (b - (1:Int)), (v.1.1, v.1.2.1, v.1.2.2.1, v.1.2.2.2.1, v.1.2.2.2.2.1, (0:Int), (0:Int)), v.2)) (some (x.2.1,
    (v.1.1, v.1.2.1, v.1.2.2.1, v.1.2.2.2.1, v.1.2.2.2.2.1, (0:Int), (0:Int)), v.2))) (some (x.2.1, (v.1.1, v.1.2.1, v.1.2.2.1, v.1.2.2.2.1,
    v.1.2.2.2.2.1, (0:Int), (0:Int)), v.2))) fun (b : Int × (Int × A0_) × (Int × A0_) × List (Int × Int)) => obind (cnd (decide (b.2.1.1 ≤ b.1)) (obind (w_ref13_Skip (b.2.1.2.2.2.2.1, b.2.1.1, b.1, x.2.2)) fun b_1 => cnd
    (decide ((List.length b.2.2.2 + List.length [(b.2.1.1, b.1)]) * (16:Nat) ≤ (140737488355328:Nat))) (some ((wr .i64 (b.1 + (1:Int)), b.2.1.2.1,
    b.2.1.2.2.1, b.2.1.2.2.2.1, b_1, b.2.1.2.2.2.2.2), b.2.2.1, b.2.2.2 ++ [(b.2.1.1, b.1)])) none) (some b.2)) fun (b : (Int × A0_) × (Int × A0_) × List (Int × Int)) => cnd (decide (b.1.1 ≤ x.2.1)) (obind (w_ref13_Goes b.1) fun
    b_1 => some (Sum.inl (b_1.2, b.2))) (some (Sum.inl b))) (some (Sum.inr (v.2.2, v.1, v.2.1)))) (x.1, ((0:Int), (0:Int), [], [], [], (0:Int),
    (0:Int)), [])) fun (b : List (Int × Int) × (Int × A0_) × Int × A0_) => some
    (b.1, b.2.1)))
theorem FV_ref13_Skips_eq (w_ref13_First : List (Int × List UInt8) → Option (Int)) (w_ref13_Skip : List A1_ × Int × Int × Int → Option (List A1_)) (w_ref13_Goes : Int × Int × List (Int × List UInt8) × List (Int × List UInt8) × List A1_ × Int × Int → Option A2_) (N : Nat) (x : (Int × A0_) × Int × Int) : F_ref13_Skips w_ref13_First w_ref13_Skip w_ref13_Goes N x = V_ref13_Skips w_ref13_First w_ref13_Skip w_ref13_Goes N x := by kernel_rfl
noncomputable def W_ref13_Skips (N : Nat) (x : (Int × A0_) × Int × Int) : Option A5_ := V_ref13_Skips (W_ref13_First N) (W_ref13_Skip N) (W_ref13_Goes N) N x
theorem F_ref13_Skips_eq (N : Nat) (x : (Int × A0_) × Int × Int) : F_ref13_Skips (W_ref13_First N) (W_ref13_Skip N) (W_ref13_Goes N) N x = W_ref13_Skips N x := (FV_ref13_Skips_eq (W_ref13_First N) (W_ref13_Skip N) (W_ref13_Goes N) N x).trans (by kernel_rfl)
noncomputable def conw_ref13_Skips (w : (Int × A0_) × Int × Int → Option A5_) : Con := ⟨26, as_ref13_Skips, bs_ref13_Skips, List (Int × Int) × Int × Int × List (Int × List UInt8) × List (Int × List UInt8) × List A1_ × Int × Int, w, out_ref13_Skips⟩
noncomputable def con_ref13_Skips (N : Nat) : Con := conw_ref13_Skips (W_ref13_Skips N)
theorem R_ref13_Skips_eq (x : (Int × A0_) × Int × Int) (y : A5_) : retOf2 P0 Try.f26 (kpL []) (lbOf as_ref13_Skips bs_ref13_Skips x) (patS ⟨73, [], [], []⟩ pout_ref13_Skips y) = some (out_ref13_Skips y) := by kernel_rfl
theorem con_ref13_Skips_ok (N : Nat) : Con.ok P0 (con_ref13_Skips N) := ⟨⟨Try.f26, Try.func26, by kernel_rfl, by kernel_rfl⟩, fun (x : (Int × A0_) × Int × Int) (r : A5_) (hr : W_ref13_Skips N x = some r) =>
  spec2_evT (Γ := G_ref13_Skips (W_ref13_First N) (W_ref13_Skip N) (W_ref13_Goes N) N) (Λ := L0) (pout := pout_ref13_Skips) (kp := kpL []) mixed (orcOf_ok _ (by simp only [List.mem_cons, List.not_mem_nil, or_false, forall_eq_or_imp, forall_eq]; exact ⟨con_ref13_First_ok N, con_ref13_Skip_ok N, con_ref13_Goes_ok N⟩)) Try.func26 (c := bodyOf Try.f26) (by kernel_rfl) (by kernel_rfl) (of_decide_eq_true (by kernel_rfl)) ((F_ref13_Skips_eq N x).trans hr) (R_ref13_Skips_eq x r)⟩
def as_ref13_Notes : List AS := [.val (.agg T0_), .val (.int .i64), .val (.int .i64)]
def bs_ref13_Notes : List BS := []
def pout_ref13_Notes : Pat := ⟨[(6, .ptr 600006 0)], [(600006, .box 35 (.val T0_))]⟩
noncomputable def G_ref13_Notes (w_ref1_MaySpan : Int × Int → Option (Bool)) (w_ref13_Knows : (Int × A0_) × Int → Option (Int × A0_)) (w_ref13_Skips : (Int × A0_) × Int × Int → Option A5_) (w_ref13_Goes : Int × Int × List (Int × List UInt8) × List (Int × List UInt8) × List A1_ × Int × Int → Option A2_) (N : Nat) : OrcT := orcOf [conw_ref1_MaySpan w_ref1_MaySpan, conw_ref13_Knows w_ref13_Knows, conw_ref13_Skips w_ref13_Skips, conw_ref13_Goes w_ref13_Goes]
noncomputable def F_ref13_Notes (w_ref1_MaySpan : Int × Int → Option (Bool)) (w_ref13_Knows : (Int × A0_) × Int → Option (Int × A0_)) (w_ref13_Skips : (Int × A0_) × Int × Int → Option A5_) (w_ref13_Goes : Int × Int × List (Int × List UInt8) × List (Int × List UInt8) × List A1_ × Int × Int → Option A2_) (N : Nat) (x : (Int × A0_) × Int × Int) : Option (Int × A0_) :=
  (evT (G_ref13_Notes w_ref1_MaySpan w_ref13_Knows w_ref13_Skips w_ref13_Goes N) L0 P0 []
    [] N 400 (bodyOf Try.f31) ⟨44, slots 0 (argsOf as_ref13_Notes bs_ref13_Notes x), tabU (lbOf as_ref13_Notes bs_ref13_Notes x) [], []⟩).elim (kRet 44 pout_ref13_Notes (kpL []) (lbOf as_ref13_Notes bs_ref13_Notes x))
def out_ref13_Notes (y : Int × A0_) : V × List OK × List OK := (valW (.agg T0_) y, [], [])
noncomputable def V_ref13_Notes (w_ref1_MaySpan : Int × Int → Option (Bool)) (w_ref13_Knows : (Int × A0_) × Int → Option (Int × A0_)) (w_ref13_Skips : (Int × A0_) × Int × Int → Option A5_) (w_ref13_Goes : Int × Int × List (Int × List UInt8) × List (Int × List UInt8) × List A1_ × Int × Int → Option A2_) (N : Nat) (x : (Int × A0_) × Int × Int) : Option (Int × A0_) :=
  cnd (decide (x.1.1 = (0:Int))) (some x.1) (obind (w_ref1_MaySpan x.2) fun b => cnd (!b) (some x.1) (obind (w_ref13_Knows (x.1, x.2.2)) fun b =>
    cnd (decide (b.1 < x.2.1)) (some b) (cnd (decide (x.2.2 < b.1)) (some b) (obind (w_ref13_Skips (b, x.2.2, (1:Int))) fun b => obind (w_ref13_Goes
    b.2) fun b => some b.2))))
theorem FV_ref13_Notes_eq (w_ref1_MaySpan : Int × Int → Option (Bool)) (w_ref13_Knows : (Int × A0_) × Int → Option (Int × A0_)) (w_ref13_Skips : (Int × A0_) × Int × Int → Option A5_) (w_ref13_Goes : Int × Int × List (Int × List UInt8) × List (Int × List UInt8) × List A1_ × Int × Int → Option A2_) (N : Nat) (x : (Int × A0_) × Int × Int) : F_ref13_Notes w_ref1_MaySpan w_ref13_Knows w_ref13_Skips w_ref13_Goes N x = V_ref13_Notes w_ref1_MaySpan w_ref13_Knows w_ref13_Skips w_ref13_Goes N x := by kernel_rfl
noncomputable def W_ref13_Notes (N : Nat) (x : (Int × A0_) × Int × Int) : Option (Int × A0_) := V_ref13_Notes (W_ref1_MaySpan N) (W_ref13_Knows N) (W_ref13_Skips N) (W_ref13_Goes N) N x
theorem F_ref13_Notes_eq (N : Nat) (x : (Int × A0_) × Int × Int) : F_ref13_Notes (W_ref1_MaySpan N) (W_ref13_Knows N) (W_ref13_Skips N) (W_ref13_Goes N) N x = W_ref13_Notes N x := (FV_ref13_Notes_eq (W_ref1_MaySpan N) (W_ref13_Knows N) (W_ref13_Skips N) (W_ref13_Goes N) N x).trans (by kernel_rfl)
noncomputable def conw_ref13_Notes (w : (Int × A0_) × Int × Int → Option (Int × A0_)) : Con := ⟨31, as_ref13_Notes, bs_ref13_Notes, Int × Int × List (Int × List UInt8) × List (Int × List UInt8) × List A1_ × Int × Int, w, out_ref13_Notes⟩
noncomputable def con_ref13_Notes (N : Nat) : Con := conw_ref13_Notes (W_ref13_Notes N)
theorem R_ref13_Notes_eq (x : (Int × A0_) × Int × Int) (y : Int × A0_) : retOf2 P0 Try.f31 (kpL []) (lbOf as_ref13_Notes bs_ref13_Notes x) (patS ⟨44, [], [], []⟩ pout_ref13_Notes y) = some (out_ref13_Notes y) := by kernel_rfl
theorem con_ref13_Notes_ok (N : Nat) : Con.ok P0 (con_ref13_Notes N) := ⟨⟨Try.f31, Try.func31, by kernel_rfl, by kernel_rfl⟩, fun (x : (Int × A0_) × Int × Int) (r : Int × A0_) (hr : W_ref13_Notes N x = some r) =>
  spec2_evT (Γ := G_ref13_Notes (W_ref1_MaySpan N) (W_ref13_Knows N) (W_ref13_Skips N) (W_ref13_Goes N) N) (Λ := L0) (pout := pout_ref13_Notes) (kp := kpL []) mixed (orcOf_ok _ (by simp only [List.mem_cons, List.not_mem_nil, or_false, forall_eq_or_imp, forall_eq]; exact ⟨con_ref1_MaySpan_ok N, con_ref13_Knows_ok N, con_ref13_Skips_ok N, con_ref13_Goes_ok N⟩)) Try.func31 (c := bodyOf Try.f31) (by kernel_rfl) (by kernel_rfl) (of_decide_eq_true (by kernel_rfl)) ((F_ref13_Notes_eq N x).trans hr) (R_ref13_Notes_eq x r)⟩
def as_ref13_Wants : List AS := [.val (.agg T0_)]
def bs_ref13_Wants : List BS := []
def pout_ref13_Wants : Pat := ⟨[(2, .ptr 600002 0), (3, .val .bool)], [(600002, .box 40 (.val T1_))]⟩
noncomputable def G_ref13_Wants (w_ref13_First : List (Int × List UInt8) → Option (Int)) (N : Nat) : OrcT := orcOf [conw_ref13_First w_ref13_First]
noncomputable def F_ref13_Wants (w_ref13_First : List (Int × List UInt8) → Option (Int)) (N : Nat) (x : Int × A0_) : Option (Bool × Int × Int) :=
  (evT (G_ref13_Wants w_ref13_First N) L0 P0 []
    [(4, .cut [] [(.normal, ⟨[(1, .ptr 600001 0), (2, .ptr 600002 0), (4, .val (.int .i64))], [(600001, .box 35 (.val T0_)), (600002, .box 40 (.val T1_))]⟩)])] N 400 (bodyOf Try.f21) ⟨29, slots 0 (argsOf as_ref13_Wants bs_ref13_Wants x), tabU (lbOf as_ref13_Wants bs_ref13_Wants x) [], []⟩).elim (kRet 29 pout_ref13_Wants (kpL []) (lbOf as_ref13_Wants bs_ref13_Wants x))
def out_ref13_Wants (y : Bool × Int × Int) : V × List OK × List OK := (.tup [valW (.agg T1_) y.2, valW .bool y.1], [], [])
noncomputable def V_ref13_Wants (w_ref13_First : List (Int × List UInt8) → Option (Int)) (N : Nat) (x : Int × A0_) : Option (Bool × Int × Int) :=
  obind (cnd (decide ((0:Int) < (↑(List.length x.2.2.2.1) : Int))) (obind (w_ref13_First x.2.2.2.1) fun b => some (wr .i64 (b - (1:Int)), x, (0:Int),
    (0:Int))) (some (x.2.1, x, (0:Int), (0:Int)))) fun (b : Int × (Int × A0_) × Int × Int) => cnd (decide (b.2.1.1 = (0:Int))) (some (false, (0:Int), (0:Int))) (cnd (decide (b.1 < b.2.1.1))
    (some (false, (0:Int), (0:Int))) (some (true, b.2.1.1, b.1)))
theorem FV_ref13_Wants_eq (w_ref13_First : List (Int × List UInt8) → Option (Int)) (N : Nat) (x : Int × A0_) : F_ref13_Wants w_ref13_First N x = V_ref13_Wants w_ref13_First N x := by kernel_rfl
noncomputable def W_ref13_Wants (N : Nat) (x : Int × A0_) : Option (Bool × Int × Int) := V_ref13_Wants (W_ref13_First N) N x
theorem F_ref13_Wants_eq (N : Nat) (x : Int × A0_) : F_ref13_Wants (W_ref13_First N) N x = W_ref13_Wants N x := (FV_ref13_Wants_eq (W_ref13_First N) N x).trans (by kernel_rfl)
noncomputable def conw_ref13_Wants (w : Int × Int × List (Int × List UInt8) × List (Int × List UInt8) × List A1_ × Int × Int → Option (Bool × Int × Int)) : Con := ⟨21, as_ref13_Wants, bs_ref13_Wants, Bool × Int × Int, w, out_ref13_Wants⟩
noncomputable def con_ref13_Wants (N : Nat) : Con := conw_ref13_Wants (W_ref13_Wants N)
theorem R_ref13_Wants_eq (x : Int × A0_) (y : Bool × Int × Int) : retOf2 P0 Try.f21 (kpL []) (lbOf as_ref13_Wants bs_ref13_Wants x) (patS ⟨29, [], [], []⟩ pout_ref13_Wants y) = some (out_ref13_Wants y) := by kernel_rfl
theorem con_ref13_Wants_ok (N : Nat) : Con.ok P0 (con_ref13_Wants N) := ⟨⟨Try.f21, Try.func21, by kernel_rfl, by kernel_rfl⟩, fun (x : Int × A0_) (r : Bool × Int × Int) (hr : W_ref13_Wants N x = some r) =>
  spec2_evT (Γ := G_ref13_Wants (W_ref13_First N) N) (Λ := L0) (pout := pout_ref13_Wants) (kp := kpL []) mixed (orcOf_ok _ (by simp only [List.mem_cons, List.not_mem_nil, or_false, forall_eq_or_imp, forall_eq]; exact con_ref13_First_ok N)) Try.func21 (c := bodyOf Try.f21) (by kernel_rfl) (by kernel_rfl) (of_decide_eq_true (by kernel_rfl)) ((F_ref13_Wants_eq N x).trans hr) (R_ref13_Wants_eq x r)⟩
def as_ref1_Now : List AS := [.val (.agg T1_), .val (.int .i64)]
def bs_ref1_Now : List BS := []
def pout_ref1_Now : Pat := ⟨[(4, .val .bool)], []⟩
noncomputable def G_ref1_Now  (N : Nat) : OrcT := orcOf []
noncomputable def F_ref1_Now  (N : Nat) (x : (Int × Int) × Int) : Option (Bool) :=
  (evT (G_ref1_Now  N) L0 P0 []
    [] N 400 (bodyOf Try.f82) ⟨14, slots 0 (argsOf as_ref1_Now bs_ref1_Now x), tabU (lbOf as_ref1_Now bs_ref1_Now x) [], []⟩).elim (kRet 14 pout_ref1_Now (kpL []) (lbOf as_ref1_Now bs_ref1_Now x))
def out_ref1_Now (y : Bool) : V × List OK × List OK := (valW .bool y, [], [])
noncomputable def V_ref1_Now  (N : Nat) (x : (Int × Int) × Int) : Option (Bool) :=
  cnd (decide (x.1.1 = (0:Int))) (some true) (some (decide (x.1.2 ≤ x.2)))
theorem FV_ref1_Now_eq  (N : Nat) (x : (Int × Int) × Int) : F_ref1_Now  N x = V_ref1_Now  N x := by kernel_rfl
noncomputable def W_ref1_Now (N : Nat) (x : (Int × Int) × Int) : Option (Bool) := V_ref1_Now  N x
theorem F_ref1_Now_eq (N : Nat) (x : (Int × Int) × Int) : F_ref1_Now  N x = W_ref1_Now N x := (FV_ref1_Now_eq  N x).trans (by kernel_rfl)
noncomputable def conw_ref1_Now (w : (Int × Int) × Int → Option (Bool)) : Con := ⟨82, as_ref1_Now, bs_ref1_Now, Bool, w, out_ref1_Now⟩
noncomputable def con_ref1_Now (N : Nat) : Con := conw_ref1_Now (W_ref1_Now N)
theorem R_ref1_Now_eq (x : (Int × Int) × Int) (y : Bool) : retOf2 P0 Try.f82 (kpL []) (lbOf as_ref1_Now bs_ref1_Now x) (patS ⟨14, [], [], []⟩ pout_ref1_Now y) = some (out_ref1_Now y) := by kernel_rfl
theorem con_ref1_Now_ok (N : Nat) : Con.ok P0 (con_ref1_Now N) := ⟨⟨Try.f82, Try.func82, by kernel_rfl, by kernel_rfl⟩, fun (x : (Int × Int) × Int) (r : Bool) (hr : W_ref1_Now N x = some r) =>
  spec2_evT (Γ := G_ref1_Now N) (Λ := L0) (pout := pout_ref1_Now) (kp := kpL []) mixed (orcOf_ok [] (by simp)) Try.func82 (c := bodyOf Try.f82) (by kernel_rfl) (by kernel_rfl) (of_decide_eq_true (by kernel_rfl)) ((F_ref1_Now_eq N x).trans hr) (R_ref1_Now_eq x r)⟩
def as_ref1_Tried : List AS := [.val (.agg T1_), .val (.int .i64)]
def bs_ref1_Tried : List BS := []
def pout_ref1_Tried : Pat := ⟨[(4, .ptr 600004 0)], [(600004, .box 33 (.val T1_))]⟩
noncomputable def G_ref1_Tried  (N : Nat) : OrcT := orcOf []
noncomputable def F_ref1_Tried  (N : Nat) (x : (Int × Int) × Int) : Option (Int × Int) :=
  (evT (G_ref1_Tried  N) L0 P0 [(3, .loop [] ⟨[(2, .ptr 600002 0), (4, .ptr 600004 0), (5, .val (.int .i64)), (6, .val (.int .i64))], [(600002, .box 33 (.val T1_)), (600004, .box 33 (.val T1_))]⟩ [(.exit 0, ⟨[(2, .ptr 600002 0), (4, .ptr 600004 0), (5, .val (.int .i64))], [(600002, .box 33 (.val T1_)), (600004, .box 33 (.val T1_))]⟩)])]
    [] N 400 (bodyOf Try.f83) ⟨26, slots 0 (argsOf as_ref1_Tried bs_ref1_Tried x), tabU (lbOf as_ref1_Tried bs_ref1_Tried x) [], []⟩).elim (kRet 26 pout_ref1_Tried (kpL []) (lbOf as_ref1_Tried bs_ref1_Tried x))
def out_ref1_Tried (y : Int × Int) : V × List OK × List OK := (valW (.agg T1_) y, [], [])
noncomputable def V_ref1_Tried  (N : Nat) (x : (Int × Int) × Int) : Option (Int × Int) :=
  obind (loopN N (fun (v : Int × Int × (Int × Int) × Int × Int) => cnd (decide (v.2.1 < v.2.2.1.1)) (cnd (decide (v.2.1 < (3:Int))) (some (Sum.inl (wr
    .i64 (v.1 * (2:Int)), wr .i64 (v.2.1 + (1:Int)), v.2.2))) (some (Sum.inr (v.1, v.2.2)))) (some (Sum.inr (v.1, v.2.2)))) ((2:Int), (0:Int), x.1,
    (0:Int), (0:Int))) fun (b : Int × (Int × Int) × Int × Int) => some (wr .i64 (b.2.1.1 + (1:Int)), wr .i64 (x.2 + b.1))
theorem FV_ref1_Tried_eq  (N : Nat) (x : (Int × Int) × Int) : F_ref1_Tried  N x = V_ref1_Tried  N x := by kernel_rfl
noncomputable def W_ref1_Tried (N : Nat) (x : (Int × Int) × Int) : Option (Int × Int) := V_ref1_Tried  N x
theorem F_ref1_Tried_eq (N : Nat) (x : (Int × Int) × Int) : F_ref1_Tried  N x = W_ref1_Tried N x := (FV_ref1_Tried_eq  N x).trans (by kernel_rfl)
noncomputable def conw_ref1_Tried (w : (Int × Int) × Int → Option (Int × Int)) : Con := ⟨83, as_ref1_Tried, bs_ref1_Tried, Int × Int, w, out_ref1_Tried⟩
noncomputable def con_ref1_Tried (N : Nat) : Con := conw_ref1_Tried (W_ref1_Tried N)
theorem R_ref1_Tried_eq (x : (Int × Int) × Int) (y : Int × Int) : retOf2 P0 Try.f83 (kpL []) (lbOf as_ref1_Tried bs_ref1_Tried x) (patS ⟨26, [], [], []⟩ pout_ref1_Tried y) = some (out_ref1_Tried y) := by kernel_rfl
theorem con_ref1_Tried_ok (N : Nat) : Con.ok P0 (con_ref1_Tried N) := ⟨⟨Try.f83, Try.func83, by kernel_rfl, by kernel_rfl⟩, fun (x : (Int × Int) × Int) (r : Int × Int) (hr : W_ref1_Tried N x = some r) =>
  spec2_evT (Γ := G_ref1_Tried N) (Λ := L0) (pout := pout_ref1_Tried) (kp := kpL []) mixed (orcOf_ok [] (by simp)) Try.func83 (c := bodyOf Try.f83) (by kernel_rfl) (by kernel_rfl) (of_decide_eq_true (by kernel_rfl)) ((F_ref1_Tried_eq N x).trans hr) (R_ref1_Tried_eq x r)⟩
def as_ref13_Tick : List AS := [.val (.agg T0_), .val (.int .i64)]
def bs_ref13_Tick : List BS := []
def pout_ref13_Tick : Pat := ⟨[(4, .ptr 600004 0), (5, .ptr 600005 0), (6, .val .bool)], [(600004, .box 35 (.val T0_)), (600005, .box 40 (.val T1_))]⟩
noncomputable def G_ref13_Tick (w_ref13_Wants : Int × Int × List (Int × List UInt8) × List (Int × List UInt8) × List A1_ × Int × Int → Option (Bool × Int × Int)) (w_ref1_Now : (Int × Int) × Int → Option (Bool)) (w_ref13_Skips : (Int × A0_) × Int × Int → Option A5_) (w_ref13_Goes : Int × Int × List (Int × List UInt8) × List (Int × List UInt8) × List A1_ × Int × Int → Option A2_) (w_ref1_Tried : (Int × Int) × Int → Option (Int × Int)) (N : Nat) : OrcT := orcOf [conw_ref13_Wants w_ref13_Wants, conw_ref1_Now w_ref1_Now, conw_ref13_Skips w_ref13_Skips, conw_ref13_Goes w_ref13_Goes, conw_ref1_Tried w_ref1_Tried]
noncomputable def F_ref13_Tick (w_ref13_Wants : Int × Int × List (Int × List UInt8) × List (Int × List UInt8) × List A1_ × Int × Int → Option (Bool × Int × Int)) (w_ref1_Now : (Int × Int) × Int → Option (Bool)) (w_ref13_Skips : (Int × A0_) × Int × Int → Option A5_) (w_ref13_Goes : Int × Int × List (Int × List UInt8) × List (Int × List UInt8) × List A1_ × Int × Int → Option A2_) (w_ref1_Tried : (Int × Int) × Int → Option (Int × Int)) (N : Nat) (x : (Int × A0_) × Int) : Option A6_ :=
  (evT (G_ref13_Tick w_ref13_Wants w_ref1_Now w_ref13_Skips w_ref13_Goes w_ref1_Tried N) L0 P0 []
    [] N 400 (bodyOf Try.f56) ⟨50, slots 0 (argsOf as_ref13_Tick bs_ref13_Tick x), tabU (lbOf as_ref13_Tick bs_ref13_Tick x) [], []⟩).elim (kRet 50 pout_ref13_Tick (kpL []) (lbOf as_ref13_Tick bs_ref13_Tick x))
def out_ref13_Tick (y : A6_) : V × List OK × List OK := (.tup [valW (.agg T0_) y.2.1, valW (.agg T1_) y.2.2, valW .bool y.1], [], [])
noncomputable def V_ref13_Tick (w_ref13_Wants : Int × Int × List (Int × List UInt8) × List (Int × List UInt8) × List A1_ × Int × Int → Option (Bool × Int × Int)) (w_ref1_Now : (Int × Int) × Int → Option (Bool)) (w_ref13_Skips : (Int × A0_) × Int × Int → Option A5_) (w_ref13_Goes : Int × Int × List (Int × List UInt8) × List (Int × List UInt8) × List A1_ × Int × Int → Option A2_) (w_ref1_Tried : (Int × Int) × Int → Option (Int × Int)) (N : Nat) (x : (Int × A0_) × Int) : Option A6_ :=
  obind (w_ref13_Wants x.1) fun b => cnd (!b.1) (some (false, x.1, (0:Int), (0:Int))) (obind (w_ref1_Now (x.1.2.2.2.2.2, x.2)) fun b_1 => cnd (!b_1)
    (some (false, x.1, (0:Int), (0:Int))) (cnd (decide ((3:Int) ≤ x.1.2.2.2.2.2.1)) (obind (w_ref13_Skips (x.1, b.2.2, (2:Int))) fun b => obind
    (w_ref13_Goes b.2) fun b => some (false, b.2, (0:Int), (0:Int))) (obind (w_ref1_Tried (x.1.2.2.2.2.2, x.2)) fun b_2 => some (true, (x.1.1,
    x.1.2.1, x.1.2.2.1, x.1.2.2.2.1, x.1.2.2.2.2.1, b_2), b.2))))
theorem FV_ref13_Tick_eq (w_ref13_Wants : Int × Int × List (Int × List UInt8) × List (Int × List UInt8) × List A1_ × Int × Int → Option (Bool × Int × Int)) (w_ref1_Now : (Int × Int) × Int → Option (Bool)) (w_ref13_Skips : (Int × A0_) × Int × Int → Option A5_) (w_ref13_Goes : Int × Int × List (Int × List UInt8) × List (Int × List UInt8) × List A1_ × Int × Int → Option A2_) (w_ref1_Tried : (Int × Int) × Int → Option (Int × Int)) (N : Nat) (x : (Int × A0_) × Int) : F_ref13_Tick w_ref13_Wants w_ref1_Now w_ref13_Skips w_ref13_Goes w_ref1_Tried N x = V_ref13_Tick w_ref13_Wants w_ref1_Now w_ref13_Skips w_ref13_Goes w_ref1_Tried N x := by kernel_rfl
noncomputable def W_ref13_Tick (N : Nat) (x : (Int × A0_) × Int) : Option A6_ := V_ref13_Tick (W_ref13_Wants N) (W_ref1_Now N) (W_ref13_Skips N) (W_ref13_Goes N) (W_ref1_Tried N) N x
theorem F_ref13_Tick_eq (N : Nat) (x : (Int × A0_) × Int) : F_ref13_Tick (W_ref13_Wants N) (W_ref1_Now N) (W_ref13_Skips N) (W_ref13_Goes N) (W_ref1_Tried N) N x = W_ref13_Tick N x := (FV_ref13_Tick_eq (W_ref13_Wants N) (W_ref1_Now N) (W_ref13_Skips N) (W_ref13_Goes N) (W_ref1_Tried N) N x).trans (by kernel_rfl)
noncomputable def conw_ref13_Tick (w : (Int × A0_) × Int → Option A6_) : Con := ⟨56, as_ref13_Tick, bs_ref13_Tick, Bool × (Int × A0_) × Int × Int, w, out_ref13_Tick⟩
noncomputable def con_ref13_Tick (N : Nat) : Con := conw_ref13_Tick (W_ref13_Tick N)
theorem R_ref13_Tick_eq (x : (Int × A0_) × Int) (y : A6_) : retOf2 P0 Try.f56 (kpL []) (lbOf as_ref13_Tick bs_ref13_Tick x) (patS ⟨50, [], [], []⟩ pout_ref13_Tick y) = some (out_ref13_Tick y) := by kernel_rfl
theorem con_ref13_Tick_ok (N : Nat) : Con.ok P0 (con_ref13_Tick N) := ⟨⟨Try.f56, Try.func56, by kernel_rfl, by kernel_rfl⟩, fun (x : (Int × A0_) × Int) (r : A6_) (hr : W_ref13_Tick N x = some r) =>
  spec2_evT (Γ := G_ref13_Tick (W_ref13_Wants N) (W_ref1_Now N) (W_ref13_Skips N) (W_ref13_Goes N) (W_ref1_Tried N) N) (Λ := L0) (pout := pout_ref13_Tick) (kp := kpL []) mixed (orcOf_ok _ (by simp only [List.mem_cons, List.not_mem_nil, or_false, forall_eq_or_imp, forall_eq]; exact ⟨con_ref13_Wants_ok N, con_ref1_Now_ok N, con_ref13_Skips_ok N, con_ref13_Goes_ok N, con_ref1_Tried_ok N⟩)) Try.func56 (c := bodyOf Try.f56) (by kernel_rfl) (by kernel_rfl) (of_decide_eq_true (by kernel_rfl)) ((F_ref13_Tick_eq N x).trans hr) (R_ref13_Tick_eq x r)⟩
def as_Picks_Text : List AS := [.ptr 0 0]
def bs_Picks_Text : List BS := [.box 92 T4_]
def pout_Picks_Text : Pat := ⟨[(0, .ptr 1000000 0), (2, .val .str)], [(1000000, .box 92 (.val T4_))]⟩
noncomputable def G_Picks_Text (w_Picks_Num : Int × List Int × Int → Option (Int × List Int × Int)) (N : Nat) : OrcT := orcOf [conw_Picks_Num w_Picks_Num]
noncomputable def F_Picks_Text (w_Picks_Num : Int × List Int × Int → Option (Int × List Int × Int)) (N : Nat) (x : List Int × Int) : Option (List UInt8 × List Int × Int) :=
  (evT (G_Picks_Text w_Picks_Num N) L0 P0 []
    [] N 400 (bodyOf Try.f57) ⟨8, slots 0 (argsOf as_Picks_Text bs_Picks_Text x), tabU (lbOf as_Picks_Text bs_Picks_Text x) [], []⟩).elim (kRet 8 pout_Picks_Text (kpL [true]) (lbOf as_Picks_Text bs_Picks_Text x))
def out_Picks_Text (y : List UInt8 × List Int × Int) : V × List OK × List OK := (valW .str y.1, [.box 92 (cellsW T4_ y.2)], [])
noncomputable def V_Picks_Text (w_Picks_Num : Int × List Int × Int → Option (Int × List Int × Int)) (N : Nat) (x : List Int × Int) : Option (List UInt8 × List Int × Int) :=
  obind (w_Picks_Num ((5:Int), x)) fun b => cnd (decide ((0:Int) ≤ b.1)) (cnd (decide (b.1 < (↑(5:Nat) : Int))) (some (List.getD [[], [(97 : UInt8)],
    [(98 : UInt8), (99 : UInt8)], [(104 : UInt8), (101 : UInt8), (108 : UInt8), (108 : UInt8), (111 : UInt8)], [(116 : UInt8), (119 : UInt8), (101 :
    UInt8), (108 : UInt8), (118 : UInt8), (101 : UInt8), (32 : UInt8), (98 : UInt8), (121 : UInt8), (116 : UInt8), (101 : UInt8), (115 : UInt8)]]
    (Int.toNat b.1) [], b.2)) none) none
theorem FV_Picks_Text_eq (w_Picks_Num : Int × List Int × Int → Option (Int × List Int × Int)) (N : Nat) (x : List Int × Int) : F_Picks_Text w_Picks_Num N x = V_Picks_Text w_Picks_Num N x := by kernel_rfl
noncomputable def W_Picks_Text (N : Nat) (x : List Int × Int) : Option (List UInt8 × List Int × Int) := V_Picks_Text (W_Picks_Num N) N x
theorem F_Picks_Text_eq (N : Nat) (x : List Int × Int) : F_Picks_Text (W_Picks_Num N) N x = W_Picks_Text N x := (FV_Picks_Text_eq (W_Picks_Num N) N x).trans (by kernel_rfl)
noncomputable def conw_Picks_Text (w : List Int × Int → Option (List UInt8 × List Int × Int)) : Con := ⟨57, as_Picks_Text, bs_Picks_Text, List UInt8 × List Int × Int, w, out_Picks_Text⟩
noncomputable def con_Picks_Text (N : Nat) : Con := conw_Picks_Text (W_Picks_Text N)
theorem R_Picks_Text_eq (x : List Int × Int) (y : List UInt8 × List Int × Int) : retOf2 P0 Try.f57 (kpL [true]) (lbOf as_Picks_Text bs_Picks_Text x) (patS ⟨8, [], [], []⟩ pout_Picks_Text y) = some (out_Picks_Text y) := by kernel_rfl
theorem con_Picks_Text_ok (N : Nat) : Con.ok P0 (con_Picks_Text N) := ⟨⟨Try.f57, Try.func57, by kernel_rfl, by kernel_rfl⟩, fun (x : List Int × Int) (r : List UInt8 × List Int × Int) (hr : W_Picks_Text N x = some r) =>
  spec2_evT (Γ := G_Picks_Text (W_Picks_Num N) N) (Λ := L0) (pout := pout_Picks_Text) (kp := kpL [true]) mixed (orcOf_ok _ (by simp only [List.mem_cons, List.not_mem_nil, or_false, forall_eq_or_imp, forall_eq]; exact con_Picks_Num_ok N)) Try.func57 (c := bodyOf Try.f57) (by kernel_rfl) (by kernel_rfl) (of_decide_eq_true (by kernel_rfl)) ((F_Picks_Text_eq N x).trans hr) (R_Picks_Text_eq x r)⟩
def as_ref13_Get : List AS := [.val (.list T2_), .val (.int .i64)]
def bs_ref13_Get : List BS := []
def pout_ref13_Get : Pat := ⟨[(4, .val .str), (5, .val .bool)], []⟩
noncomputable def G_ref13_Get  (N : Nat) : OrcT := orcOf []
noncomputable def F_ref13_Get  (N : Nat) (x : List (Int × List UInt8) × Int) : Option (List UInt8 × Bool) :=
  (evT (G_ref13_Get  N) L0 P0 [(2, .loop [] ⟨[(6, .val (.int .i64))], []⟩ [(.exit 0, ⟨[], []⟩), (.ret, ⟨[(4, .val .str), (5, .val .bool)], []⟩)])]
    [] N 400 (bodyOf Try.f32) ⟨25, slots 0 (argsOf as_ref13_Get bs_ref13_Get x), tabU (lbOf as_ref13_Get bs_ref13_Get x) [], []⟩).elim (kRet 25 pout_ref13_Get (kpL []) (lbOf as_ref13_Get bs_ref13_Get x))
def out_ref13_Get (y : List UInt8 × Bool) : V × List OK × List OK := (.tup [valW .str y.1, valW .bool y.2], [], [])
noncomputable def V_ref13_Get  (N : Nat) (x : List (Int × List UInt8) × Int) : Option (List UInt8 × Bool) :=
  obind (loopN N (fun (v : Int) => cnd (decide (v < (↑(List.length x.1) : Int))) (cnd (decide ((0:Int) ≤ v) && decide (v < (↑(List.length x.1) : Int)))
    (cnd (decide (Prod.fst (List.getD x.1 (Int.toNat v) ((0:Int), [])) = x.2)) (cnd (decide ((0:Int) ≤ v) && decide (v < (↑(List.length x.1) : Int)))
    (some (Sum.inr (Sum.inr (Prod.snd (List.getD x.1 (Int.toNat v) ((0:Int), [])), true)))) none) (some (Sum.inl (wr .i64 (v + (1:Int)))))) none) (some
    (Sum.inr (Sum.inl ())))) (Int.ofNat (0:Nat))) fun (b : PUnit ⊕ List UInt8 × Bool) => selim (fun (b : PUnit) => some ([], false)) (fun (c : List UInt8 × Bool) => some c) b
theorem FV_ref13_Get_eq  (N : Nat) (x : List (Int × List UInt8) × Int) : F_ref13_Get  N x = V_ref13_Get  N x := by kernel_rfl
noncomputable def W_ref13_Get (N : Nat) (x : List (Int × List UInt8) × Int) : Option (List UInt8 × Bool) := V_ref13_Get  N x
theorem F_ref13_Get_eq (N : Nat) (x : List (Int × List UInt8) × Int) : F_ref13_Get  N x = W_ref13_Get N x := (FV_ref13_Get_eq  N x).trans (by kernel_rfl)
noncomputable def conw_ref13_Get (w : List (Int × List UInt8) × Int → Option (List UInt8 × Bool)) : Con := ⟨32, as_ref13_Get, bs_ref13_Get, List UInt8 × Bool, w, out_ref13_Get⟩
noncomputable def con_ref13_Get (N : Nat) : Con := conw_ref13_Get (W_ref13_Get N)
theorem R_ref13_Get_eq (x : List (Int × List UInt8) × Int) (y : List UInt8 × Bool) : retOf2 P0 Try.f32 (kpL []) (lbOf as_ref13_Get bs_ref13_Get x) (patS ⟨25, [], [], []⟩ pout_ref13_Get y) = some (out_ref13_Get y) := by kernel_rfl
theorem con_ref13_Get_ok (N : Nat) : Con.ok P0 (con_ref13_Get N) := ⟨⟨Try.f32, Try.func32, by kernel_rfl, by kernel_rfl⟩, fun (x : List (Int × List UInt8) × Int) (r : List UInt8 × Bool) (hr : W_ref13_Get N x = some r) =>
  spec2_evT (Γ := G_ref13_Get N) (Λ := L0) (pout := pout_ref13_Get) (kp := kpL []) mixed (orcOf_ok [] (by simp)) Try.func32 (c := bodyOf Try.f32) (by kernel_rfl) (by kernel_rfl) (of_decide_eq_true (by kernel_rfl)) ((F_ref13_Get_eq N x).trans hr) (R_ref13_Get_eq x r)⟩
def as_ref13_PutWin : List AS := [.val (.list T2_), .val (.int .i64), .val T2_]
def bs_ref13_PutWin : List BS := []
def pout_ref13_PutWin : Pat := ⟨[(6, .val (.list T2_)), (7, .val .bool)], []⟩
noncomputable def G_ref13_PutWin (w_ref13_Get : List (Int × List UInt8) × Int → Option (List UInt8 × Bool)) (N : Nat) : OrcT := orcOf [conw_ref13_Get w_ref13_Get]
noncomputable def F_ref13_PutWin (w_ref13_Get : List (Int × List UInt8) × Int → Option (List UInt8 × Bool)) (N : Nat) (x : List (Int × List UInt8) × Int × Int × List UInt8) : Option A7_ :=
  (evT (G_ref13_PutWin w_ref13_Get N) L0 P0 [(7, .loop [] ⟨[(5, .ptr 600005 0), (10, .acc 700010), (11, .val .bool), (12, .val (.int .i64))], [(600005, .box 28 (.val (.pair (.int .i64) .str))), (700010, .nrow 28 T2_ true true)]⟩ [(.exit 0, ⟨[(5, .ptr 600005 0), (10, .acc 700010), (11, .val .bool)], [(600005, .box 28 (.val (.pair (.int .i64) .str))), (700010, .nrow 28 T2_ true true)]⟩)])]
    [(11, .cut [] [(.normal, ⟨[(5, .ptr 600005 0), (10, .acc 700010), (11, .val .bool)], [(600005, .box 28 (.val (.pair (.int .i64) .str))), (700010, .nrow 28 T2_ true true)]⟩)])] N 400 (bodyOf Try.f72) ⟨71, slots 0 (argsOf as_ref13_PutWin bs_ref13_PutWin x), tabU (lbOf as_ref13_PutWin bs_ref13_PutWin x) [], []⟩).elim (kRet 71 pout_ref13_PutWin (kpL []) (lbOf as_ref13_PutWin bs_ref13_PutWin x))
def out_ref13_PutWin (y : A7_) : V × List OK × List OK := (.tup [valW (.list T2_) y.1, valW .bool y.2], [], [])
noncomputable def V_ref13_PutWin (w_ref13_Get : List (Int × List UInt8) × Int → Option (List UInt8 × Bool)) (N : Nat) (x : List (Int × List UInt8) × Int × Int × List UInt8) : Option A7_ :=
  obind (w_ref13_Get (x.1, x.2.2.1)) fun b => cnd (decide (x.2.2.1 < x.2.1)) (some (x.1, false)) (cnd (decide ((8:Int) ≤ wr .i64 (x.2.2.1 - x.2.1)))
    (some (x.1, false)) (cnd b.2 (some (x.1, false)) (obind (loopN N (fun (v : Bool × Int × (Int × List UInt8) × List (Int × List UInt8)) => cnd (decide
    (v.2.1 < (↑(List.length x.1) : Int))) (obind (cnd (!v.1) (cnd (decide ((0:Int) ≤ v.2.1) && decide (v.2.1 < (↑(List.length x.1) : Int))) (cnd (decide
    (v.2.2.1.1 < Prod.fst (List.getD x.1 (Int.toNat v.2.1) ((0:Int), [])))) (cnd (decide ((List.length v.2.2.2 + List.length [v.2.2.1]) * (24:Nat) ≤
    (140737488355328:Nat))) (some (true, v.2.2.1, v.2.2.2 ++ [v.2.2.1])) none) (some (v.1, v.2.2))) none) (some (v.1, v.2.2))) fun (b : Bool × (Int × List UInt8) × List (Int × List UInt8)) => cnd (decide ((0:Int) ≤ v.2.1) && decide (v.2.1 < (↑(List.length x.1) : Int))) (cnd (decide ((List.length
    b.2.2 + (1:Nat)) * (24:Nat) ≤ (140737488355328:Nat))) (some (Sum.inl (b.1, wr .i64 (v.2.1 + (1:Int)), b.2.1, b.2.2 ++ [(Prod.fst (List.getD x.1
    (Int.toNat v.2.1) ((0:Int), [])), Prod.snd (List.getD x.1 (Int.toNat v.2.1) ((0:Int), [])))]))) none) none) (some (Sum.inr (v.1, v.2.2)))) (false,
    (0:Int), x.2.2, [])) fun (b : Bool × (Int × List UInt8) × List (Int × List UInt8)) => cnd (!b.1) (cnd (decide ((List.length b.2.2 + List.length
    [b.2.1]) * (24:Nat) ≤ (140737488355328:Nat))) (some (b.2.2 ++ [b.2.1], true)) none) (some (b.2.2, true)))))
theorem FV_ref13_PutWin_eq (w_ref13_Get : List (Int × List UInt8) × Int → Option (List UInt8 × Bool)) (N : Nat) (x : List (Int × List UInt8) × Int × Int × List UInt8) : F_ref13_PutWin w_ref13_Get N x = V_ref13_PutWin w_ref13_Get N x := by kernel_rfl
noncomputable def W_ref13_PutWin (N : Nat) (x : List (Int × List UInt8) × Int × Int × List UInt8) : Option A7_ := V_ref13_PutWin (W_ref13_Get N) N x
theorem F_ref13_PutWin_eq (N : Nat) (x : List (Int × List UInt8) × Int × Int × List UInt8) : F_ref13_PutWin (W_ref13_Get N) N x = W_ref13_PutWin N x := (FV_ref13_PutWin_eq (W_ref13_Get N) N x).trans (by kernel_rfl)
noncomputable def conw_ref13_PutWin (w : List (Int × List UInt8) × Int × Int × List UInt8 → Option A7_) : Con := ⟨72, as_ref13_PutWin, bs_ref13_PutWin, List (Int × List UInt8) × Bool, w, out_ref13_PutWin⟩
noncomputable def con_ref13_PutWin (N : Nat) : Con := conw_ref13_PutWin (W_ref13_PutWin N)
theorem R_ref13_PutWin_eq (x : List (Int × List UInt8) × Int × Int × List UInt8) (y : A7_) : retOf2 P0 Try.f72 (kpL []) (lbOf as_ref13_PutWin bs_ref13_PutWin x) (patS ⟨71, [], [], []⟩ pout_ref13_PutWin y) = some (out_ref13_PutWin y) := by kernel_rfl
theorem con_ref13_PutWin_ok (N : Nat) : Con.ok P0 (con_ref13_PutWin N) := ⟨⟨Try.f72, Try.func72, by kernel_rfl, by kernel_rfl⟩, fun (x : List (Int × List UInt8) × Int × Int × List UInt8) (r : A7_) (hr : W_ref13_PutWin N x = some r) =>
  spec2_evT (Γ := G_ref13_PutWin (W_ref13_Get N) N) (Λ := L0) (pout := pout_ref13_PutWin) (kp := kpL []) mixed (orcOf_ok _ (by simp only [List.mem_cons, List.not_mem_nil, or_false, forall_eq_or_imp, forall_eq]; exact con_ref13_Get_ok N)) Try.func72 (c := bodyOf Try.f72) (by kernel_rfl) (by kernel_rfl) (of_decide_eq_true (by kernel_rfl)) ((F_ref13_PutWin_eq N x).trans hr) (R_ref13_PutWin_eq x r)⟩
def as_ref13_Comes : List AS := [.val (.agg T0_), .val T2_]
def bs_ref13_Comes : List BS := []
def pout_ref13_Comes : Pat := ⟨[(4, .ptr 600004 0)], [(600004, .box 35 (.val T0_))]⟩
noncomputable def G_ref13_Comes (w_ref13_Knows : (Int × A0_) × Int → Option (Int × A0_)) (w_ref13_PutWin : List (Int × List UInt8) × Int × Int × List UInt8 → Option A7_) (w_ref13_Goes : Int × Int × List (Int × List UInt8) × List (Int × List UInt8) × List A1_ × Int × Int → Option A2_) (N : Nat) : OrcT := orcOf [conw_ref13_Knows w_ref13_Knows, conw_ref13_PutWin w_ref13_PutWin, conw_ref13_Goes w_ref13_Goes]
noncomputable def F_ref13_Comes (w_ref13_Knows : (Int × A0_) × Int → Option (Int × A0_)) (w_ref13_PutWin : List (Int × List UInt8) × Int × Int × List UInt8 → Option A7_) (w_ref13_Goes : Int × Int × List (Int × List UInt8) × List (Int × List UInt8) × List A1_ × Int × Int → Option A2_) (N : Nat) (x : (Int × A0_) × Int × List UInt8) : Option (Int × A0_) :=
  (evT (G_ref13_Comes w_ref13_Knows w_ref13_PutWin w_ref13_Goes N) L0 P0 []
    [(1000001, .reg [(8, [], ⟨[(2, .ptr 600002 0), (3, .ptr 600003 0), (4, .ptr 600004 0), (12, .val .bool)], [(600002, .box 35 (.val T0_)), (600003, .box 28 (.val (.pair (.int .i64) .str))), (600004, .box 35 (.val T0_))]⟩), (5, [], ⟨[(2, .ptr 600002 0), (3, .ptr 600003 0), (4, .ptr 600004 0), (17, .val .bool)], [(600002, .box 35 (.val T0_)), (600003, .box 28 (.val (.pair (.int .i64) .str))), (600004, .box 35 (.val T0_))]⟩)])] N 400 (bodyOf Try.f30) ⟨45, slots 0 (argsOf as_ref13_Comes bs_ref13_Comes x), tabU (lbOf as_ref13_Comes bs_ref13_Comes x) [], []⟩).elim (kRet 45 pout_ref13_Comes (kpL []) (lbOf as_ref13_Comes bs_ref13_Comes x))
def out_ref13_Comes (y : Int × A0_) : V × List OK × List OK := (valW (.agg T0_) y, [], [])
noncomputable def V_ref13_Comes (w_ref13_Knows : (Int × A0_) × Int → Option (Int × A0_)) (w_ref13_PutWin : List (Int × List UInt8) × Int × Int × List UInt8 → Option A7_) (w_ref13_Goes : Int × Int × List (Int × List UInt8) × List (Int × List UInt8) × List A1_ × Int × Int → Option A2_) (N : Nat) (x : (Int × A0_) × Int × List UInt8) : Option (Int × A0_) :=
  obind (cnd (decide (x.1.1 = (0:Int))) (some (true, x.1, x.2, (0:Int), (0:Int), [], [], [], (0:Int), (0:Int))) (some (decide (x.2.1 < (1:Int)), x.1,
    x.2, (0:Int), (0:Int), [], [], [], (0:Int), (0:Int)))) fun (b : Bool × (Int × A0_) × (Int × List UInt8) × Int × A0_) => obind (cnd b.1 (some (true, b.2)) (some (decide ((1000000:Int) < b.2.2.1.1), b.2))) fun (b : Bool × (Int × A0_) × (Int × List UInt8) × Int × A0_) => cnd b.1 (some b.2.1) (cnd (decide
    ((12:Int) < (↑(List.length b.2.2.1.2) : Int))) (some b.2.1) (obind (w_ref13_Knows (b.2.1, b.2.2.1.1)) fun b_1 => obind (w_ref13_PutWin
    (b_1.2.2.2.1, b_1.1, b.2.2.1)) fun b => obind (w_ref13_Goes (b_1.1, b_1.2.1, b_1.2.2.1, b.1, b_1.2.2.2.2)) fun b => some b.2))
theorem FV_ref13_Comes_eq (w_ref13_Knows : (Int × A0_) × Int → Option (Int × A0_)) (w_ref13_PutWin : List (Int × List UInt8) × Int × Int × List UInt8 → Option A7_) (w_ref13_Goes : Int × Int × List (Int × List UInt8) × List (Int × List UInt8) × List A1_ × Int × Int → Option A2_) (N : Nat) (x : (Int × A0_) × Int × List UInt8) : F_ref13_Comes w_ref13_Knows w_ref13_PutWin w_ref13_Goes N x = V_ref13_Comes w_ref13_Knows w_ref13_PutWin w_ref13_Goes N x := by kernel_rfl
noncomputable def W_ref13_Comes (N : Nat) (x : (Int × A0_) × Int × List UInt8) : Option (Int × A0_) := V_ref13_Comes (W_ref13_Knows N) (W_ref13_PutWin N) (W_ref13_Goes N) N x
theorem F_ref13_Comes_eq (N : Nat) (x : (Int × A0_) × Int × List UInt8) : F_ref13_Comes (W_ref13_Knows N) (W_ref13_PutWin N) (W_ref13_Goes N) N x = W_ref13_Comes N x := (FV_ref13_Comes_eq (W_ref13_Knows N) (W_ref13_PutWin N) (W_ref13_Goes N) N x).trans (by kernel_rfl)
noncomputable def conw_ref13_Comes (w : (Int × A0_) × Int × List UInt8 → Option (Int × A0_)) : Con := ⟨30, as_ref13_Comes, bs_ref13_Comes, Int × Int × List (Int × List UInt8) × List (Int × List UInt8) × List A1_ × Int × Int, w, out_ref13_Comes⟩
noncomputable def con_ref13_Comes (N : Nat) : Con := conw_ref13_Comes (W_ref13_Comes N)
theorem R_ref13_Comes_eq (x : (Int × A0_) × Int × List UInt8) (y : Int × A0_) : retOf2 P0 Try.f30 (kpL []) (lbOf as_ref13_Comes bs_ref13_Comes x) (patS ⟨45, [], [], []⟩ pout_ref13_Comes y) = some (out_ref13_Comes y) := by kernel_rfl
theorem con_ref13_Comes_ok (N : Nat) : Con.ok P0 (con_ref13_Comes N) := ⟨⟨Try.f30, Try.func30, by kernel_rfl, by kernel_rfl⟩, fun (x : (Int × A0_) × Int × List UInt8) (r : Int × A0_) (hr : W_ref13_Comes N x = some r) =>
  spec2_evT (Γ := G_ref13_Comes (W_ref13_Knows N) (W_ref13_PutWin N) (W_ref13_Goes N) N) (Λ := L0) (pout := pout_ref13_Comes) (kp := kpL []) mixed (orcOf_ok _ (by simp only [List.mem_cons, List.not_mem_nil, or_false, forall_eq_or_imp, forall_eq]; exact ⟨con_ref13_Knows_ok N, con_ref13_PutWin_ok N, con_ref13_Goes_ok N⟩)) Try.func30 (c := bodyOf Try.f30) (by kernel_rfl) (by kernel_rfl) (of_decide_eq_true (by kernel_rfl)) ((F_ref13_Comes_eq N x).trans hr) (R_ref13_Comes_eq x r)⟩
def as_Picks_Feed : List AS := [.ptr 0 0, .val (.int .i64)]
def bs_Picks_Feed : List BS := [.box 92 T4_]
def pout_Picks_Feed : Pat := ⟨[(0, .ptr 1000000 0), (4, .ptr 600004 0)], [(1000000, .box 92 (.val T4_)), (600004, .box 35 (.val T0_))]⟩
noncomputable def G_Picks_Feed (w_Picks_Num : Int × List Int × Int → Option (Int × List Int × Int)) (w_ref13_Begin : (Int × A0_) × Int → Option (Int × A0_)) (w_Picks_Over : List Int × Int → Option (Bool × List Int × Int)) (w_ref13_Notes : (Int × A0_) × Int × Int → Option (Int × A0_)) (w_ref13_Knows : (Int × A0_) × Int → Option (Int × A0_)) (w_ref13_Tick : (Int × A0_) × Int → Option A6_) (w_Picks_Text : List Int × Int → Option (List UInt8 × List Int × Int)) (w_ref13_Comes : (Int × A0_) × Int × List UInt8 → Option (Int × A0_)) (N : Nat) : OrcT := orcOf [conw_Picks_Num w_Picks_Num, conw_ref13_Begin w_ref13_Begin, conw_Picks_Over w_Picks_Over, conw_ref13_Notes w_ref13_Notes, conw_ref13_Knows w_ref13_Knows, conw_ref13_Tick w_ref13_Tick, conw_Picks_Text w_Picks_Text, conw_ref13_Comes w_ref13_Comes]
noncomputable def F_Picks_Feed (w_Picks_Num : Int × List Int × Int → Option (Int × List Int × Int)) (w_ref13_Begin : (Int × A0_) × Int → Option (Int × A0_)) (w_Picks_Over : List Int × Int → Option (Bool × List Int × Int)) (w_ref13_Notes : (Int × A0_) × Int × Int → Option (Int × A0_)) (w_ref13_Knows : (Int × A0_) × Int → Option (Int × A0_)) (w_ref13_Tick : (Int × A0_) × Int → Option A6_) (w_Picks_Text : List Int × Int → Option (List UInt8 × List Int × Int)) (w_ref13_Comes : (Int × A0_) × Int × List UInt8 → Option (Int × A0_)) (N : Nat) (x : Int × List Int × Int) : Option ((List Int × Int) × Int × A0_) :=
  (evT (G_Picks_Feed w_Picks_Num w_ref13_Begin w_Picks_Over w_ref13_Notes w_ref13_Knows w_ref13_Tick w_Picks_Text w_ref13_Comes N) L0 P0 [(4, .loop [] ⟨[(0, .ptr 1000000 0), (4, .ptr 600004 0), (5, .ptr 600005 0), (6, .val (.int .i64)), (7, .val (.int .i64))], [(1000000, .box 92 (.val T4_)), (600004, .box 35 (.val T0_)), (600005, .box 35 (.val T0_))]⟩ [(.exit 0, ⟨[(0, .ptr 1000000 0), (4, .ptr 600004 0), (5, .ptr 600005 0)], [(1000000, .box 92 (.val T4_)), (600004, .box 35 (.val T0_)), (600005, .box 35 (.val T0_))]⟩)])]
    [] N 400 (bodyOf Try.f19) ⟨78, slots 0 (argsOf as_Picks_Feed bs_Picks_Feed x), tabU (lbOf as_Picks_Feed bs_Picks_Feed x) [], []⟩).elim (kRet 78 pout_Picks_Feed (kpL [true]) (lbOf as_Picks_Feed bs_Picks_Feed x))
def out_Picks_Feed (y : (List Int × Int) × Int × A0_) : V × List OK × List OK := (valW (.agg T0_) y.2, [.box 92 (cellsW T4_ y.1)], [])
noncomputable def V_Picks_Feed (w_Picks_Num : Int × List Int × Int → Option (Int × List Int × Int)) (w_ref13_Begin : (Int × A0_) × Int → Option (Int × A0_)) (w_Picks_Over : List Int × Int → Option (Bool × List Int × Int)) (w_ref13_Notes : (Int × A0_) × Int × Int → Option (Int × A0_)) (w_ref13_Knows : (Int × A0_) × Int → Option (Int × A0_)) (w_ref13_Tick : (Int × A0_) × Int → Option A6_) (w_Picks_Text : List Int × Int → Option (List UInt8 × List Int × Int)) (w_ref13_Comes : (Int × A0_) × Int × List UInt8 → Option (Int × A0_)) (N : Nat) (x : Int × List Int × Int) : Option ((List Int × Int) × Int × A0_) :=
  obind (w_Picks_Num ((5:Int), x.2)) fun b => obind (w_ref13_Begin (((0:Int), (0:Int), [], [], [], (0:Int), (0:Int)), wr .i64 ((1:Int) + b.1))) fun
    b_1 => obind (loopN N (fun (v : Int × Int × (List Int × Int) × (Int × A0_) × Int × A0_) => cnd (decide (v.2.1 < x.1)) (obind (w_Picks_Over v.2.2.1) fun b => cnd (!b.1) (obind (w_Picks_Num ((6:Int), b.2)) fun b => cnd
    (decide (b.1 = (0:Int))) (obind (w_Picks_Num ((3:Int), b.2)) fun b => obind (w_Picks_Num ((4:Int), b.2)) fun b_2 => obind (w_ref13_Notes
    (v.2.2.2.2, max (1:Int) (wr .i64 (wr .i64 (v.2.2.2.2.1 - (1:Int)) + b.1)), wr .i64 (max (1:Int) (wr .i64 (wr .i64 (v.2.2.2.2.1 - (1:Int)) + b.1)) +
    b_2.1))) fun b => some (Sum.inl (v.1, wr .i64 (v.2.1 + (1:Int)), b_2.2, v.2.2.2.1, b))) (cnd (decide (b.1 = (1:Int))) (obind (w_Picks_Num
    ((5:Int), b.2)) fun b => obind (w_ref13_Knows (v.2.2.2.2, wr .i64 (v.2.2.2.2.1 + b.1))) fun b_2 => some (Sum.inl (v.1, wr .i64 (v.2.1 + (1:Int)),
    b.2, v.2.2.2.1, b_2))) (cnd (decide (b.1 = (2:Int))) (obind (w_Picks_Num ((6:Int), b.2)) fun b => obind (w_ref13_Tick (v.2.2.2.2, wr .i64 (wr
    .i64 (v.1 + (1:Int)) + b.1))) fun b_2 => some (Sum.inl (wr .i64 (wr .i64 (v.1 + (1:Int)) + b.1), wr .i64 (v.2.1 + (1:Int)), b.2, v.2.2.2.1,
    b_2.2.1))) (obind (w_Picks_Num ((5:Int), b.2)) fun b => obind (w_Picks_Text b.2) fun b_2 => obind (w_ref13_Comes (v.2.2.2.2, max (1:Int) (wr
    .i64 (wr .i64 (v.2.2.2.2.1 - (1:Int)) + b.1)), b_2.1)) fun b => some (Sum.inl (v.1, wr .i64 (v.2.1 + (1:Int)), b_2.2, v.2.2.2.1, b)))))) (some
    (Sum.inr (b.2, v.2.2.2)))) (some (Sum.inr v.2.2))) ((0:Int), (0:Int), b.2, ((0:Int), (0:Int), [], [], [], (0:Int), (0:Int)), b_1)) fun (b : (List Int × Int) × (Int × A0_) × Int × A0_) => some (b.1, b.2.2)
theorem FV_Picks_Feed_eq (w_Picks_Num : Int × List Int × Int → Option (Int × List Int × Int)) (w_ref13_Begin : (Int × A0_) × Int → Option (Int × A0_)) (w_Picks_Over : List Int × Int → Option (Bool × List Int × Int)) (w_ref13_Notes : (Int × A0_) × Int × Int → Option (Int × A0_)) (w_ref13_Knows : (Int × A0_) × Int → Option (Int × A0_)) (w_ref13_Tick : (Int × A0_) × Int → Option A6_) (w_Picks_Text : List Int × Int → Option (List UInt8 × List Int × Int)) (w_ref13_Comes : (Int × A0_) × Int × List UInt8 → Option (Int × A0_)) (N : Nat) (x : Int × List Int × Int) : F_Picks_Feed w_Picks_Num w_ref13_Begin w_Picks_Over w_ref13_Notes w_ref13_Knows w_ref13_Tick w_Picks_Text w_ref13_Comes N x = V_Picks_Feed w_Picks_Num w_ref13_Begin w_Picks_Over w_ref13_Notes w_ref13_Knows w_ref13_Tick w_Picks_Text w_ref13_Comes N x := by kernel_rfl
noncomputable def W_Picks_Feed (N : Nat) (x : Int × List Int × Int) : Option ((List Int × Int) × Int × A0_) := V_Picks_Feed (W_Picks_Num N) (W_ref13_Begin N) (W_Picks_Over N) (W_ref13_Notes N) (W_ref13_Knows N) (W_ref13_Tick N) (W_Picks_Text N) (W_ref13_Comes N) N x
theorem F_Picks_Feed_eq (N : Nat) (x : Int × List Int × Int) : F_Picks_Feed (W_Picks_Num N) (W_ref13_Begin N) (W_Picks_Over N) (W_ref13_Notes N) (W_ref13_Knows N) (W_ref13_Tick N) (W_Picks_Text N) (W_ref13_Comes N) N x = W_Picks_Feed N x := (FV_Picks_Feed_eq (W_Picks_Num N) (W_ref13_Begin N) (W_Picks_Over N) (W_ref13_Notes N) (W_ref13_Knows N) (W_ref13_Tick N) (W_Picks_Text N) (W_ref13_Comes N) N x).trans (by kernel_rfl)
noncomputable def conw_Picks_Feed (w : Int × List Int × Int → Option ((List Int × Int) × Int × A0_)) : Con := ⟨19, as_Picks_Feed, bs_Picks_Feed, (List Int × Int) × Int × Int × List (Int × List UInt8) × List (Int × List UInt8) × List A1_ × Int × Int, w, out_Picks_Feed⟩
noncomputable def con_Picks_Feed (N : Nat) : Con := conw_Picks_Feed (W_Picks_Feed N)
theorem R_Picks_Feed_eq (x : Int × List Int × Int) (y : (List Int × Int) × Int × A0_) : retOf2 P0 Try.f19 (kpL [true]) (lbOf as_Picks_Feed bs_Picks_Feed x) (patS ⟨78, [], [], []⟩ pout_Picks_Feed y) = some (out_Picks_Feed y) := by kernel_rfl
theorem con_Picks_Feed_ok (N : Nat) : Con.ok P0 (con_Picks_Feed N) := ⟨⟨Try.f19, Try.func19, by kernel_rfl, by kernel_rfl⟩, fun (x : Int × List Int × Int) (r : (List Int × Int) × Int × A0_) (hr : W_Picks_Feed N x = some r) =>
  spec2_evT (Γ := G_Picks_Feed (W_Picks_Num N) (W_ref13_Begin N) (W_Picks_Over N) (W_ref13_Notes N) (W_ref13_Knows N) (W_ref13_Tick N) (W_Picks_Text N) (W_ref13_Comes N) N) (Λ := L0) (pout := pout_Picks_Feed) (kp := kpL [true]) mixed (orcOf_ok _ (by simp only [List.mem_cons, List.not_mem_nil, or_false, forall_eq_or_imp, forall_eq]; exact ⟨con_Picks_Num_ok N, con_ref13_Begin_ok N, con_Picks_Over_ok N, con_ref13_Notes_ok N, con_ref13_Knows_ok N, con_ref13_Tick_ok N, con_Picks_Text_ok N, con_ref13_Comes_ok N⟩)) Try.func19 (c := bodyOf Try.f19) (by kernel_rfl) (by kernel_rfl) (of_decide_eq_true (by kernel_rfl)) ((F_Picks_Feed_eq N x).trans hr) (R_Picks_Feed_eq x r)⟩
def as_win_First : List AS := [.val (.list T2_)]
def bs_win_First : List BS := []
def pout_win_First : Pat := ⟨[(2, .val (.int .i64))], []⟩
noncomputable def G_win_First  (N : Nat) : OrcT := orcOf []
noncomputable def F_win_First  (N : Nat) (x : List (Int × List UInt8)) : Option (Int) :=
  (evT (G_win_First  N) L0 P0 []
    [] N 400 (bodyOf Try.f50) ⟨10, slots 0 (argsOf as_win_First bs_win_First x), tabU (lbOf as_win_First bs_win_First x) [], []⟩).elim (kRet 10 pout_win_First (kpL []) (lbOf as_win_First bs_win_First x))
def out_win_First (y : Int) : V × List OK × List OK := (valW (.int .i64) y, [], [])
noncomputable def V_win_First  (N : Nat) (x : List (Int × List UInt8)) : Option (Int) :=
  cnd (decide ((↑(List.length x) : Int) = (0:Int))) (some (0:Int)) (cnd (decide ((0:Int) ≤ (0:Int)) && decide ((0:Int) < (↑(List.length x) : Int))) (some (Prod.fst (List.getD x (0:Nat) ((0:Int), [])))) none)
theorem FV_win_First_eq  (N : Nat) (x : List (Int × List UInt8)) : F_win_First  N x = V_win_First  N x := by kernel_rfl
noncomputable def W_win_First (N : Nat) (x : List (Int × List UInt8)) : Option (Int) := V_win_First  N x
theorem F_win_First_eq (N : Nat) (x : List (Int × List UInt8)) : F_win_First  N x = W_win_First N x := (FV_win_First_eq  N x).trans (by kernel_rfl)
noncomputable def conw_win_First (w : List (Int × List UInt8) → Option (Int)) : Con := ⟨50, as_win_First, bs_win_First, Int, w, out_win_First⟩
noncomputable def con_win_First (N : Nat) : Con := conw_win_First (W_win_First N)
theorem R_win_First_eq (x : List (Int × List UInt8)) (y : Int) : retOf2 P0 Try.f50 (kpL []) (lbOf as_win_First bs_win_First x) (patS ⟨10, [], [], []⟩ pout_win_First y) = some (out_win_First y) := by kernel_rfl
theorem con_win_First_ok (N : Nat) : Con.ok P0 (con_win_First N) := ⟨⟨Try.f50, Try.func50, by kernel_rfl, by kernel_rfl⟩, fun (x : List (Int × List UInt8)) (r : Int) (hr : W_win_First N x = some r) =>
  spec2_evT (Γ := G_win_First N) (Λ := L0) (pout := pout_win_First) (kp := kpL []) mixed (orcOf_ok [] (by simp)) Try.func50 (c := bodyOf Try.f50) (by kernel_rfl) (by kernel_rfl) (of_decide_eq_true (by kernel_rfl)) ((F_win_First_eq N x).trans hr) (R_win_First_eq x r)⟩
def as_nak_first : List AS := [.val (.agg T0_)]
def bs_nak_first : List BS := []
def pout_nak_first : Pat := ⟨[(2, .val (.alt 95 (.int .i64) (.alt1 118 (.agg .unit))))], []⟩
noncomputable def G_nak_first (w_win_First : List (Int × List UInt8) → Option (Int)) (N : Nat) : OrcT := orcOf [conw_win_First w_win_First]
noncomputable def F_nak_first (w_win_First : List (Int × List UInt8) → Option (Int)) (N : Nat) (x : Int × A0_) : Option (Int ⊕ Unit) :=
  (evT (G_nak_first w_win_First N) L0 P0 []
    [] N 400 (bodyOf Try.f58) ⟨19, slots 0 (argsOf as_nak_first bs_nak_first x), tabU (lbOf as_nak_first bs_nak_first x) [], []⟩).elim (kRet 19 pout_nak_first (kpL []) (lbOf as_nak_first bs_nak_first x))
def out_nak_first (y : Int ⊕ Unit) : V × List OK × List OK := (valW (.alt 95 (.int .i64) (.alt1 118 (.agg .unit))) y, [], [])
noncomputable def V_nak_first (w_win_First : List (Int × List UInt8) → Option (Int)) (N : Nat) (x : Int × A0_) : Option (Int ⊕ Unit) :=
  obind (w_win_First x.2.2.2.1) fun b => cnd (decide (x.1 ≤ b)) (cnd (decide ((0:Int) < b)) (some (Sum.inl b)) (some (Sum.inr ()))) (some (Sum.inr ()))
theorem FV_nak_first_eq (w_win_First : List (Int × List UInt8) → Option (Int)) (N : Nat) (x : Int × A0_) : F_nak_first w_win_First N x = V_nak_first w_win_First N x := by kernel_rfl
noncomputable def W_nak_first (N : Nat) (x : Int × A0_) : Option (Int ⊕ Unit) := V_nak_first (W_win_First N) N x
theorem F_nak_first_eq (N : Nat) (x : Int × A0_) : F_nak_first (W_win_First N) N x = W_nak_first N x := (FV_nak_first_eq (W_win_First N) N x).trans (by kernel_rfl)
noncomputable def conw_nak_first (w : Int × Int × List (Int × List UInt8) × List (Int × List UInt8) × List A1_ × Int × Int → Option (Int ⊕ Unit)) : Con := ⟨58, as_nak_first, bs_nak_first, Int ⊕ Unit, w, out_nak_first⟩
noncomputable def con_nak_first (N : Nat) : Con := conw_nak_first (W_nak_first N)
theorem R_nak_first_eq (x : Int × A0_) (y : Int ⊕ Unit) : retOf2 P0 Try.f58 (kpL []) (lbOf as_nak_first bs_nak_first x) (patS ⟨19, [], [], []⟩ pout_nak_first y) = some (out_nak_first y) := by kernel_rfl
theorem con_nak_first_ok (N : Nat) : Con.ok P0 (con_nak_first N) := ⟨⟨Try.f58, Try.func58, by kernel_rfl, by kernel_rfl⟩, fun (x : Int × A0_) (r : Int ⊕ Unit) (hr : W_nak_first N x = some r) =>
  spec2_evT (Γ := G_nak_first (W_win_First N) N) (Λ := L0) (pout := pout_nak_first) (kp := kpL []) mixed (orcOf_ok _ (by simp only [List.mem_cons, List.not_mem_nil, or_false, forall_eq_or_imp, forall_eq]; exact con_win_First_ok N)) Try.func58 (c := bodyOf Try.f58) (by kernel_rfl) (by kernel_rfl) (of_decide_eq_true (by kernel_rfl)) ((F_nak_first_eq N x).trans hr) (R_nak_first_eq x r)⟩
def as_nak_Wants : List AS := [.val (.agg T0_)]
def bs_nak_Wants : List BS := []
def pout_nak_Wants : Pat := ⟨[(2, .ptr 600002 0), (3, .val .bool)], [(600002, .box 40 (.val T1_))]⟩
noncomputable def G_nak_Wants (w_nak_first : Int × Int × List (Int × List UInt8) × List (Int × List UInt8) × List A1_ × Int × Int → Option (Int ⊕ Unit)) (N : Nat) : OrcT := orcOf [conw_nak_first w_nak_first]
noncomputable def F_nak_Wants (w_nak_first : Int × Int × List (Int × List UInt8) × List (Int × List UInt8) × List A1_ × Int × Int → Option (Int ⊕ Unit)) (N : Nat) (x : Int × A0_) : Option (Bool × Int × Int) :=
  (evT (G_nak_Wants w_nak_first N) L0 P0 []
    [(5, .cut [] [(.normal, ⟨[(1, .ptr 600001 0), (2, .ptr 600002 0), (4, .ptr 600004 0)], [(600001, .box 35 (.val T0_)), (600002, .box 40 (.val T1_)), (600004, .box 40 (.val T1_))]⟩)])] N 400 (bodyOf Try.f20) ⟨34, slots 0 (argsOf as_nak_Wants bs_nak_Wants x), tabU (lbOf as_nak_Wants bs_nak_Wants x) [], []⟩).elim (kRet 34 pout_nak_Wants (kpL []) (lbOf as_nak_Wants bs_nak_Wants x))
def out_nak_Wants (y : Bool × Int × Int) : V × List OK × List OK := (.tup [valW (.agg T1_) y.2, valW .bool y.1], [], [])
noncomputable def V_nak_Wants (w_nak_first : Int × Int × List (Int × List UInt8) × List (Int × List UInt8) × List A1_ × Int × Int → Option (Int ⊕ Unit)) (N : Nat) (x : Int × A0_) : Option (Bool × Int × Int) :=
  obind (obind (w_nak_first x) fun b => selim (fun (b : Int) => some (x, ((0:Int), (0:Int)), x.1, wr .i64 (b - (1:Int)))) (fun (c : PUnit) => some (x,
    ((0:Int), (0:Int)), x.1, x.2.1)) b) fun (b : (Int × A0_) × (Int × Int) × Int × Int) => cnd (decide (b.1.1 < (1:Int))) (some (false, (0:Int), (0:Int))) (cnd (decide (b.2.2.2 < b.2.2.1))
    (some (false, (0:Int), (0:Int))) (some (true, b.2.2)))
theorem FV_nak_Wants_eq (w_nak_first : Int × Int × List (Int × List UInt8) × List (Int × List UInt8) × List A1_ × Int × Int → Option (Int ⊕ Unit)) (N : Nat) (x : Int × A0_) : F_nak_Wants w_nak_first N x = V_nak_Wants w_nak_first N x := by kernel_rfl
noncomputable def W_nak_Wants (N : Nat) (x : Int × A0_) : Option (Bool × Int × Int) := V_nak_Wants (W_nak_first N) N x
theorem F_nak_Wants_eq (N : Nat) (x : Int × A0_) : F_nak_Wants (W_nak_first N) N x = W_nak_Wants N x := (FV_nak_Wants_eq (W_nak_first N) N x).trans (by kernel_rfl)
noncomputable def conw_nak_Wants (w : Int × Int × List (Int × List UInt8) × List (Int × List UInt8) × List A1_ × Int × Int → Option (Bool × Int × Int)) : Con := ⟨20, as_nak_Wants, bs_nak_Wants, Bool × Int × Int, w, out_nak_Wants⟩
noncomputable def con_nak_Wants (N : Nat) : Con := conw_nak_Wants (W_nak_Wants N)
theorem R_nak_Wants_eq (x : Int × A0_) (y : Bool × Int × Int) : retOf2 P0 Try.f20 (kpL []) (lbOf as_nak_Wants bs_nak_Wants x) (patS ⟨34, [], [], []⟩ pout_nak_Wants y) = some (out_nak_Wants y) := by kernel_rfl
theorem con_nak_Wants_ok (N : Nat) : Con.ok P0 (con_nak_Wants N) := ⟨⟨Try.f20, Try.func20, by kernel_rfl, by kernel_rfl⟩, fun (x : Int × A0_) (r : Bool × Int × Int) (hr : W_nak_Wants N x = some r) =>
  spec2_evT (Γ := G_nak_Wants (W_nak_first N) N) (Λ := L0) (pout := pout_nak_Wants) (kp := kpL []) mixed (orcOf_ok _ (by simp only [List.mem_cons, List.not_mem_nil, or_false, forall_eq_or_imp, forall_eq]; exact con_nak_first_ok N)) Try.func20 (c := bodyOf Try.f20) (by kernel_rfl) (by kernel_rfl) (of_decide_eq_true (by kernel_rfl)) ((F_nak_Wants_eq N x).trans hr) (R_nak_Wants_eq x r)⟩
def as_ring_find : List AS := [.val (.list T2_), .val (.int .i64)]
def bs_ring_find : List BS := []
def pout_ring_find : Pat := ⟨[(4, .val (.alt 119 .str (.alt1 127 (.agg .unit))))], []⟩
noncomputable def G_ring_find  (N : Nat) : OrcT := orcOf []
noncomputable def F_ring_find  (N : Nat) (x : List (Int × List UInt8) × Int) : Option ((List UInt8) ⊕ Unit) :=
  (evT (G_ring_find  N) L0 P0 [(2, .loop [7] ⟨[(9, .val (.int .i64))], []⟩ [(.exit 0, ⟨[], []⟩), (.ret, ⟨[(4, .val (.alt 119 .str (.alt1 127 (.agg .unit))))], []⟩)])]
    [] N 400 (bodyOf Try.f84) ⟨23, slots 0 (argsOf as_ring_find bs_ring_find x), tabU (lbOf as_ring_find bs_ring_find x) [], []⟩).elim (kRet 23 pout_ring_find (kpL []) (lbOf as_ring_find bs_ring_find x))
def out_ring_find (y : (List UInt8) ⊕ Unit) : V × List OK × List OK := (valW (.alt 119 .str (.alt1 127 (.agg .unit))) y, [], [])
noncomputable def V_ring_find  (N : Nat) (x : List (Int × List UInt8) × Int) : Option ((List UInt8) ⊕ Unit) :=
  obind (loopN N (fun (v : Int) => cnd (decide (v < (↑(List.length x.1) : Int))) (cnd (decide ((0:Int) ≤ v) && decide (v < (↑(List.length x.1) : Int)))
    (cnd (decide (Prod.fst (List.getD x.1 (Int.toNat v) ((0:Int), [])) = x.2)) (some (Sum.inr (Sum.inr (Sum.inl (Prod.snd (List.getD x.1 (Int.toNat v)
    ((0:Int), []))))))) (some (Sum.inl (wr .i64 (v + (1:Int)))))) none) (some (Sum.inr (Sum.inl ())))) (Int.ofNat (0:Nat))) fun (b : PUnit ⊕ List UInt8
    ⊕ PUnit) => selim (fun (b : PUnit) => some (Sum.inr ())) (fun (c : List UInt8 ⊕ PUnit) => some c) b
theorem FV_ring_find_eq  (N : Nat) (x : List (Int × List UInt8) × Int) : F_ring_find  N x = V_ring_find  N x := by kernel_rfl
noncomputable def W_ring_find (N : Nat) (x : List (Int × List UInt8) × Int) : Option ((List UInt8) ⊕ Unit) := V_ring_find  N x
theorem F_ring_find_eq (N : Nat) (x : List (Int × List UInt8) × Int) : F_ring_find  N x = W_ring_find N x := (FV_ring_find_eq  N x).trans (by kernel_rfl)
noncomputable def conw_ring_find (w : List (Int × List UInt8) × Int → Option ((List UInt8) ⊕ Unit)) : Con := ⟨84, as_ring_find, bs_ring_find, (List UInt8) ⊕ Unit, w, out_ring_find⟩
noncomputable def con_ring_find (N : Nat) : Con := conw_ring_find (W_ring_find N)
theorem R_ring_find_eq (x : List (Int × List UInt8) × Int) (y : (List UInt8) ⊕ Unit) : retOf2 P0 Try.f84 (kpL []) (lbOf as_ring_find bs_ring_find x) (patS ⟨23, [], [], []⟩ pout_ring_find y) = some (out_ring_find y) := by kernel_rfl
theorem con_ring_find_ok (N : Nat) : Con.ok P0 (con_ring_find N) := ⟨⟨Try.f84, Try.func84, by kernel_rfl, by kernel_rfl⟩, fun (x : List (Int × List UInt8) × Int) (r : (List UInt8) ⊕ Unit) (hr : W_ring_find N x = some r) =>
  spec2_evT (Γ := G_ring_find N) (Λ := L0) (pout := pout_ring_find) (kp := kpL []) mixed (orcOf_ok [] (by simp)) Try.func84 (c := bodyOf Try.f84) (by kernel_rfl) (by kernel_rfl) (of_decide_eq_true (by kernel_rfl)) ((F_ring_find_eq N x).trans hr) (R_ring_find_eq x r)⟩
def as_ring_Get : List AS := [.val (.list T2_), .val (.int .i64)]
def bs_ring_Get : List BS := []
def pout_ring_Get : Pat := ⟨[(4, .val .str), (5, .val .bool)], []⟩
noncomputable def G_ring_Get (w_ring_find : List (Int × List UInt8) × Int → Option ((List UInt8) ⊕ Unit)) (N : Nat) : OrcT := orcOf [conw_ring_find w_ring_find]
noncomputable def F_ring_Get (w_ring_find : List (Int × List UInt8) × Int → Option ((List UInt8) ⊕ Unit)) (N : Nat) (x : List (Int × List UInt8) × Int) : Option (List UInt8 × Bool) :=
  (evT (G_ring_Get w_ring_find N) L0 P0 []
    [] N 400 (bodyOf Try.f60) ⟨17, slots 0 (argsOf as_ring_Get bs_ring_Get x), tabU (lbOf as_ring_Get bs_ring_Get x) [], []⟩).elim (kRet 17 pout_ring_Get (kpL []) (lbOf as_ring_Get bs_ring_Get x))
def out_ring_Get (y : List UInt8 × Bool) : V × List OK × List OK := (.tup [valW .str y.1, valW .bool y.2], [], [])
noncomputable def V_ring_Get (w_ring_find : List (Int × List UInt8) × Int → Option ((List UInt8) ⊕ Unit)) (N : Nat) (x : List (Int × List UInt8) × Int) : Option (List UInt8 × Bool) :=
  obind (w_ring_find x) fun b => selim (fun (b : List UInt8) => some (b, true)) (fun (c : PUnit) => some ([], false)) b
theorem FV_ring_Get_eq (w_ring_find : List (Int × List UInt8) × Int → Option ((List UInt8) ⊕ Unit)) (N : Nat) (x : List (Int × List UInt8) × Int) : F_ring_Get w_ring_find N x = V_ring_Get w_ring_find N x := by kernel_rfl
noncomputable def W_ring_Get (N : Nat) (x : List (Int × List UInt8) × Int) : Option (List UInt8 × Bool) := V_ring_Get (W_ring_find N) N x
theorem F_ring_Get_eq (N : Nat) (x : List (Int × List UInt8) × Int) : F_ring_Get (W_ring_find N) N x = W_ring_Get N x := (FV_ring_Get_eq (W_ring_find N) N x).trans (by kernel_rfl)
noncomputable def conw_ring_Get (w : List (Int × List UInt8) × Int → Option (List UInt8 × Bool)) : Con := ⟨60, as_ring_Get, bs_ring_Get, List UInt8 × Bool, w, out_ring_Get⟩
noncomputable def con_ring_Get (N : Nat) : Con := conw_ring_Get (W_ring_Get N)
theorem R_ring_Get_eq (x : List (Int × List UInt8) × Int) (y : List UInt8 × Bool) : retOf2 P0 Try.f60 (kpL []) (lbOf as_ring_Get bs_ring_Get x) (patS ⟨17, [], [], []⟩ pout_ring_Get y) = some (out_ring_Get y) := by kernel_rfl
theorem con_ring_Get_ok (N : Nat) : Con.ok P0 (con_ring_Get N) := ⟨⟨Try.f60, Try.func60, by kernel_rfl, by kernel_rfl⟩, fun (x : List (Int × List UInt8) × Int) (r : List UInt8 × Bool) (hr : W_ring_Get N x = some r) =>
  spec2_evT (Γ := G_ring_Get (W_ring_find N) N) (Λ := L0) (pout := pout_ring_Get) (kp := kpL []) mixed (orcOf_ok _ (by simp only [List.mem_cons, List.not_mem_nil, or_false, forall_eq_or_imp, forall_eq]; exact con_ring_find_ok N)) Try.func60 (c := bodyOf Try.f60) (by kernel_rfl) (by kernel_rfl) (of_decide_eq_true (by kernel_rfl)) ((F_ring_Get_eq N x).trans hr) (R_ring_Get_eq x r)⟩
def as_nak_Serves : List AS := [.val (.agg T0_), .val (.int .i64), .val (.int .i64)]
def bs_nak_Serves : List BS := []
def pout_nak_Serves : Pat := ⟨[(6, .val (.list T2_)), (7, .val (.list (.agg T1_)))], []⟩
noncomputable def G_nak_Serves (w_ring_Get : List (Int × List UInt8) × Int → Option (List UInt8 × Bool)) (N : Nat) : OrcT := orcOf [conw_ring_Get w_ring_Get]
noncomputable def F_nak_Serves (w_ring_Get : List (Int × List UInt8) × Int → Option (List UInt8 × Bool)) (N : Nat) (x : (Int × A0_) × Int × Int) : Option A4_ :=
  (evT (G_nak_Serves w_ring_Get N) L0 P0 [(4, .loop [] ⟨[(3, .ptr 600003 0), (6, .acc 700006), (7, .acc 700007), (8, .val (.int .i64))], [(600003, .box 35 (.val T0_)), (700006, .nrow 28 T2_ true true), (700007, .nrow 40 (.agg T1_) false true)]⟩ [(.exit 0, ⟨[(6, .val (.list T2_)), (7, .val (.list (.agg T1_)))], []⟩)])]
    [] N 400 (bodyOf Try.f22) ⟨70, slots 0 (argsOf as_nak_Serves bs_nak_Serves x), tabU (lbOf as_nak_Serves bs_nak_Serves x) [], []⟩).elim (kRet 70 pout_nak_Serves (kpL []) (lbOf as_nak_Serves bs_nak_Serves x))
def out_nak_Serves (y : A4_) : V × List OK × List OK := (.tup [valW (.list T2_) y.1, valW (.list (.agg T1_)) y.2], [], [])
noncomputable def V_nak_Serves (w_ring_Get : List (Int × List UInt8) × Int → Option (List UInt8 × Bool)) (N : Nat) (x : (Int × A0_) × Int × Int) : Option A4_ :=
  cnd (decide (x.1.1 < (1:Int))) (some ([], [])) (obind (loopN N (fun (v : Int × (Int × A0_) × A4_) => cnd (decide (v.1 ≤ min (min x.2.2 (wr .i64
    (v.2.1.1 - (1:Int)))) (wr .i64 (wr .i64 (x.2.1 + (8:Int)) - (1:Int))))) (obind (w_ring_Get (v.2.1.2.2.1, v.1)) fun b => cnd b.2 (cnd (decide
    ((List.length v.2.2.1 + List.length [(v.1, b.1)]) * (24:Nat) ≤ (140737488355328:Nat))) (some (Sum.inl (wr .i64 (v.1 + (1:Int)), v.2.1, v.2.2.1 ++
    [(v.1, b.1)], v.2.2.2))) none) (cnd (decide ((0:Int) ≤ wr .i64 ((↑(List.length v.2.2.2) : Int) - (1:Int)))) (cnd (decide ((0:Int) ≤ wr .i64
    ((↑(List.length v.2.2.2) : Int) - (1:Int))) && decide (wr .i64 ((↑(List.length v.2.2.2) : Int) - (1:Int)) < (↑(List.length v.2.2.2) : Int))) (cnd
    (decide (Prod.snd (List.getD v.2.2.2 (Int.toNat (wr .i64 ((↑(List.length v.2.2.2) : Int) - (1:Int)))) ((0:Int), (0:Int))) = wr .i64 (v.1 -
    (1:Int)))) (cnd (decide ((0:Int) ≤ wr .i64 ((↑(List.length v.2.2.2) : Int) - (1:Int))) && decide (wr .i64 ((↑(List.length v.2.2.2) : Int) - (1:Int))
    < (↑(List.length v.2.2.2) : Int))) (some (Sum.inl (wr .i64 (v.1 + (1:Int)), v.2.1, v.2.2.1, putL v.2.2.2 [(Prod.fst (List.getD v.2.2.2 (Int.toNat
    (wr .i64 ((↑(List.length v.2.2.2) : Int) - (1:Int)))) ((0:Int), (0:Int))), v.1)] (Int.toNat (wr .i64 ((↑(List.length v.2.2.2) : Int) - (1:Int)))))))
    none) (cnd (decide ((List.length v.2.2.2 + List.length [(v.1, v.1)]) * (16:Nat) ≤ (140737488355328:Nat))) (some (Sum.inl (wr .i64 (v.1 + (1:Int)),
    v.2.1, v.2.2.1, v.2.2.2 ++ [(v.1, v.1)]))) none)) none) (cnd (decide ((List.length v.2.2.2 + List.length [(v.1, v.1)]) * (16:Nat) ≤
    (140737488355328:Nat))) (some (Sum.inl (wr .i64 (v.1 + (1:Int)), v.2.1, v.2.2.1, v.2.2.2 ++ [(v.1, v.1)]))) none))) (some (Sum.inr v.2.2))) (x.2.1,
    x.1, [], [])) fun (b : A4_) => some b)
theorem FV_nak_Serves_eq (w_ring_Get : List (Int × List UInt8) × Int → Option (List UInt8 × Bool)) (N : Nat) (x : (Int × A0_) × Int × Int) : F_nak_Serves w_ring_Get N x = V_nak_Serves w_ring_Get N x := by kernel_rfl
noncomputable def W_nak_Serves (N : Nat) (x : (Int × A0_) × Int × Int) : Option A4_ := V_nak_Serves (W_ring_Get N) N x
theorem F_nak_Serves_eq (N : Nat) (x : (Int × A0_) × Int × Int) : F_nak_Serves (W_ring_Get N) N x = W_nak_Serves N x := (FV_nak_Serves_eq (W_ring_Get N) N x).trans (by kernel_rfl)
noncomputable def conw_nak_Serves (w : (Int × A0_) × Int × Int → Option A4_) : Con := ⟨22, as_nak_Serves, bs_nak_Serves, List (Int × List UInt8) × List (Int × Int), w, out_nak_Serves⟩
noncomputable def con_nak_Serves (N : Nat) : Con := conw_nak_Serves (W_nak_Serves N)
theorem R_nak_Serves_eq (x : (Int × A0_) × Int × Int) (y : A4_) : retOf2 P0 Try.f22 (kpL []) (lbOf as_nak_Serves bs_nak_Serves x) (patS ⟨70, [], [], []⟩ pout_nak_Serves y) = some (out_nak_Serves y) := by kernel_rfl
theorem con_nak_Serves_ok (N : Nat) : Con.ok P0 (con_nak_Serves N) := ⟨⟨Try.f22, Try.func22, by kernel_rfl, by kernel_rfl⟩, fun (x : (Int × A0_) × Int × Int) (r : A4_) (hr : W_nak_Serves N x = some r) =>
  spec2_evT (Γ := G_nak_Serves (W_ring_Get N) N) (Λ := L0) (pout := pout_nak_Serves) (kp := kpL []) mixed (orcOf_ok _ (by simp only [List.mem_cons, List.not_mem_nil, or_false, forall_eq_or_imp, forall_eq]; exact con_ring_Get_ok N)) Try.func22 (c := bodyOf Try.f22) (by kernel_rfl) (by kernel_rfl) (of_decide_eq_true (by kernel_rfl)) ((F_nak_Serves_eq N x).trans hr) (R_nak_Serves_eq x r)⟩
def as_law17_NakCatches : List AS := [.val (.list (.int .u8)), .val (.list (.int .u8))]
def bs_law17_NakCatches : List BS := []
def pout_law17_NakCatches : Pat := ⟨[(4, .val .bool)], []⟩
noncomputable def G_law17_NakCatches (w_Made : List Int → Option (List Int × Int)) (w_Picks_Feed : Int × List Int × Int → Option ((List Int × Int) × Int × A0_)) (w_nak_Wants : Int × Int × List (Int × List UInt8) × List (Int × List UInt8) × List A1_ × Int × Int → Option (Bool × Int × Int)) (w_nak_Serves : (Int × A0_) × Int × Int → Option A4_) (w_ref13_Comes : (Int × A0_) × Int × List UInt8 → Option (Int × A0_)) (w_ref13_Notes : (Int × A0_) × Int × Int → Option (Int × A0_)) (w_ref13_Get : List (Int × List UInt8) × Int → Option (List UInt8 × Bool)) (N : Nat) : OrcT := orcOf [con_law17_begun N, conw_Made w_Made, conw_Picks_Feed w_Picks_Feed, conw_nak_Wants w_nak_Wants, conw_nak_Serves w_nak_Serves, conw_ref13_Comes w_ref13_Comes, conw_ref13_Notes w_ref13_Notes, conw_ref13_Get w_ref13_Get]
noncomputable def F_law17_NakCatches (w_Made : List Int → Option (List Int × Int)) (w_Picks_Feed : Int × List Int × Int → Option ((List Int × Int) × Int × A0_)) (w_nak_Wants : Int × Int × List (Int × List UInt8) × List (Int × List UInt8) × List A1_ × Int × Int → Option (Bool × Int × Int)) (w_nak_Serves : (Int × A0_) × Int × Int → Option A4_) (w_ref13_Comes : (Int × A0_) × Int × List UInt8 → Option (Int × A0_)) (w_ref13_Notes : (Int × A0_) × Int × Int → Option (Int × A0_)) (w_ref13_Get : List (Int × List UInt8) × Int → Option (List UInt8 × Bool)) (N : Nat) (x : List Int × List Int) : Option (Bool) :=
  (evT (G_law17_NakCatches w_Made w_Picks_Feed w_nak_Wants w_nak_Serves w_ref13_Comes w_ref13_Notes w_ref13_Get N) L0 P0 [(17, .loop [12, 13] ⟨[(5, .ptr 600005 0), (6, .ptr 600006 0), (14, .val (.int .i64))], [(600005, .box 35 (.val T0_)), (600006, .box 35 (.val T0_))]⟩ [(.exit 2, ⟨[(5, .ptr 600005 0), (6, .ptr 600006 0)], [(600005, .box 35 (.val T0_)), (600006, .box 35 (.val T0_))]⟩)]),
    (21, .loop [13] ⟨[(5, .ptr 600005 0), (6, .ptr 600006 0), (15, .val (.int .i64))], [(600005, .box 35 (.val T0_)), (600006, .box 35 (.val T0_))]⟩ [(.exit 4, ⟨[(5, .ptr 600005 0), (6, .ptr 600006 0)], [(600005, .box 35 (.val T0_)), (600006, .box 35 (.val T0_))]⟩)]),
    (9, .loop [] ⟨[(5, .ptr 600005 0), (6, .ptr 600006 0), (8, .val (.int .i64))], [(600005, .box 35 (.val T0_)), (600006, .box 35 (.val T0_))]⟩ [(.exit 0, ⟨[(5, .ptr 600005 0), (6, .ptr 600006 0)], [(600005, .box 35 (.val T0_)), (600006, .box 35 (.val T0_))]⟩), (.ret, ⟨[(4, .val .bool)], []⟩)]),
    (31, .loop [] ⟨[(5, .ptr 600005 0), (6, .ptr 600006 0), (17, .ptr 600017 0), (18, .val (.int .i64))], [(600005, .box 35 (.val T0_)), (600006, .box 35 (.val T0_)), (600017, .box 57 (.val (.pair (.int .i64) (.pair (.int .i64) (.pair (.int .i64) (.pair .str (.int .i64)))))))]⟩ [(.exit 8, ⟨[(5, .ptr 600005 0), (6, .ptr 600006 0)], [(600005, .box 35 (.val T0_)), (600006, .box 35 (.val T0_))]⟩), (.ret, ⟨[(4, .val .bool)], []⟩)]),
    (27, .loop [] ⟨[(5, .ptr 600005 0), (6, .ptr 600006 0), (16, .val (.int .i64))], [(600005, .box 35 (.val T0_)), (600006, .box 35 (.val T0_))]⟩ [(.exit 6, ⟨[(5, .ptr 600005 0), (6, .ptr 600006 0)], [(600005, .box 35 (.val T0_)), (600006, .box 35 (.val T0_))]⟩), (.ret, ⟨[(4, .val .bool)], []⟩)])]
    [] N 400 (bodyOf Try.f5) ⟨167, slots 0 (argsOf as_law17_NakCatches bs_law17_NakCatches x), tabU (lbOf as_law17_NakCatches bs_law17_NakCatches x) [], []⟩).elim (kRet 167 pout_law17_NakCatches (kpL []) (lbOf as_law17_NakCatches bs_law17_NakCatches x))
def out_law17_NakCatches (y : Bool) : V × List OK × List OK := (valW .bool y, [], [])
noncomputable def V_law17_NakCatches (w_Made : List Int → Option (List Int × Int)) (w_Picks_Feed : Int × List Int × Int → Option ((List Int × Int) × Int × A0_)) (w_nak_Wants : Int × Int × List (Int × List UInt8) × List (Int × List UInt8) × List A1_ × Int × Int → Option (Bool × Int × Int)) (w_nak_Serves : (Int × A0_) × Int × Int → Option A4_) (w_ref13_Comes : (Int × A0_) × Int × List UInt8 → Option (Int × A0_)) (w_ref13_Notes : (Int × A0_) × Int × Int → Option (Int × A0_)) (w_ref13_Get : List (Int × List UInt8) × Int → Option (List UInt8 × Bool)) (N : Nat) (x : List Int × List Int) : Option (Bool) :=
  cnd (decide ((60:Int) < (↑(List.length x.1) : Int))) (some true) (cnd (decide ((60:Int) < (↑(List.length x.2) : Int))) (some true) (obind (w_Made
    x.1) fun b => obind (w_Picks_Feed ((15:Int), b)) fun b => obind (w_Made x.2) fun b_1 => obind (w_Picks_Feed ((15:Int), b_1)) fun b_2 => obind
    (loopN N (fun (v : Int × (Int × A0_) × Int × A0_) => cnd (decide (v.1 <
    (40:Int))) (cnd (decide (v.2.1.1 < v.2.2.1)) (obind (w_nak_Wants v.2.1) fun b => cnd (!b.1) (some (Sum.inr (Sum.inr false))) (cnd (decide (b.2.1 ≠
    v.2.1.1)) (some (Sum.inr (Sum.inr false))) (obind (w_nak_Serves (v.2.2, b.2)) fun b => obind (loopN N (fun (v : Int × (Int × A0_) × Int × A0_) => cnd (decide (v.1 < (↑(List.length b.1) : Int))) (cnd (decide ((0:Int) ≤ v.1)
    && decide (v.1 < (↑(List.length b.1) : Int))) (obind (w_ref13_Comes (v.2.1, Prod.fst (List.getD b.1 (Int.toNat v.1) ((0:Int), [])), Prod.snd
    (List.getD b.1 (Int.toNat v.1) ((0:Int), [])))) fun b => some (Sum.inl (wr .i64 (v.1 + (1:Int)), b, v.2.2))) none) (some (Sum.inr v.2))) ((0:Int),
    v.2)) fun (b_3 : (Int × A0_) × Int × A0_) => obind (loopN N (fun (v : Int × (Int × A0_) × Int × A0_) => cnd (decide (v.1 < (↑(List.length b.2) : Int))) (cnd
    (decide ((0:Int) ≤ v.1) && decide (v.1 < (↑(List.length b.2) : Int))) (cnd (decide ((0:Int) ≤ v.1) && decide (v.1 < (↑(List.length b.2) : Int)))
    (obind (w_ref13_Notes (v.2.1, Prod.fst (List.getD b.2 (Int.toNat v.1) ((0:Int), (0:Int))), Prod.snd (List.getD b.2 (Int.toNat v.1) ((0:Int),
    (0:Int))))) fun b => some (Sum.inl (wr .i64 (v.1 + (1:Int)), b, v.2.2))) none) none) (some (Sum.inr v.2))) ((0:Int), b_3)) fun (b : (Int × A0_) × Int × A0_) => cnd (decide (b.1.1 ≤ v.2.1.1)) (some (Sum.inr (Sum.inr false)))
    (some (Sum.inl (wr .i64 (v.1 + (1:Int)), b)))))) (some (Sum.inr (Sum.inl v.2)))) (some (Sum.inr (Sum.inl v.2)))) ((0:Int), (b.2.1, wr .i64 (max
    b.2.1 b_2.2.1 - (1:Int)), b.2.2.2.1, [], b.2.2.2.2.2.1, (0:Int), (0:Int)), b_2.2)) fun (b_3 : (Int × A0_) × Int × Int × List (Int × List UInt8) × List (Int × List UInt8) × List A1_ × Int × Int ⊕ Bool) => selim (fun (b_4 : (Int × A0_) × Int × A0_) => obind (loopN N (fun (v : Int × (Int × A0_) × Int × A0_)
    => cnd (decide (v.1 < (↑(List.length v.2.1.2.2.2.2.1) : Int))) (cnd (decide ((0:Int) ≤ v.1) && decide (v.1 < (↑(List.length v.2.1.2.2.2.2.1) :
    Int))) (obind (loopN N (fun (v : Int × (Int × A0_) × (Int × A0_) × A1_) => cnd (decide (v.1 ≤ v.2.2.2.2.2.1)) (obind (w_ref13_Get (v.2.2.1.2.2.1, v.1)) fun b => cnd (!b.2 == decide (v.2.2.2.1 =
    (1:Int))) (some (Sum.inr (Sum.inr false))) (cnd b.2 (cnd (!b.1 == v.2.2.2.2.2.2.1) (some (Sum.inr (Sum.inr false))) (some (Sum.inl (wr .i64 (v.1 +
    (1:Int)), v.2)))) (some (Sum.inl (wr .i64 (v.1 + (1:Int)), v.2))))) (some (Sum.inr (Sum.inl (v.2.1, v.2.2.1))))) (Prod.fst (Prod.snd (List.getD
    v.2.1.2.2.2.2.1 (Int.toNat v.1) ((0:Int), (0:Int), (0:Int), [], (0:Int)))), v.2.1, v.2.2, Prod.fst (List.getD v.2.1.2.2.2.2.1 (Int.toNat v.1)
    ((0:Int), (0:Int), (0:Int), [], (0:Int))), Prod.fst (Prod.snd (List.getD v.2.1.2.2.2.2.1 (Int.toNat v.1) ((0:Int), (0:Int), (0:Int), [], (0:Int)))),
    Prod.fst (Prod.snd (Prod.snd (List.getD v.2.1.2.2.2.2.1 (Int.toNat v.1) ((0:Int), (0:Int), (0:Int), [], (0:Int))))), Prod.fst (Prod.snd (Prod.snd
    (Prod.snd (List.getD v.2.1.2.2.2.2.1 (Int.toNat v.1) ((0:Int), (0:Int), (0:Int), [], (0:Int)))))), Prod.snd (Prod.snd (Prod.snd (Prod.snd (List.getD
    v.2.1.2.2.2.2.1 (Int.toNat v.1) ((0:Int), (0:Int), (0:Int), [], (0:Int)))))))) fun (b : (Int × A0_) × Int × Int × List (Int × List UInt8) × List (Int × List UInt8) × List A1_ × Int × Int ⊕ Bool) => selim (fun (b : (Int × A0_) × Int × A0_) => some (Sum.inl (wr .i64 (v.1 + (1:Int)), b))) (fun (c : Bool) => some (Sum.inr (Sum.inr c))) b) none) (some (Sum.inr (Sum.inl v.2))))
    ((↑(List.length b.2.2.2.2.2.1) : Int), b_4)) fun (b : (Int × A0_) × Int × Int × List (Int × List UInt8) × List (Int × List UInt8) × List A1_ × Int × Int ⊕
    Bool) => selim (fun (b : (Int × A0_) × Int × A0_) => some (decide (b.2.1 ≤
    b.1.1))) (fun (c : Bool) => some c) b) (fun (c : Bool) => some c) b_3))
theorem FV_law17_NakCatches_eq (w_Made : List Int → Option (List Int × Int)) (w_Picks_Feed : Int × List Int × Int → Option ((List Int × Int) × Int × A0_)) (w_nak_Wants : Int × Int × List (Int × List UInt8) × List (Int × List UInt8) × List A1_ × Int × Int → Option (Bool × Int × Int)) (w_nak_Serves : (Int × A0_) × Int × Int → Option A4_) (w_ref13_Comes : (Int × A0_) × Int × List UInt8 → Option (Int × A0_)) (w_ref13_Notes : (Int × A0_) × Int × Int → Option (Int × A0_)) (w_ref13_Get : List (Int × List UInt8) × Int → Option (List UInt8 × Bool)) (N : Nat) (x : List Int × List Int) : F_law17_NakCatches w_Made w_Picks_Feed w_nak_Wants w_nak_Serves w_ref13_Comes w_ref13_Notes w_ref13_Get N x = V_law17_NakCatches w_Made w_Picks_Feed w_nak_Wants w_nak_Serves w_ref13_Comes w_ref13_Notes w_ref13_Get N x := by kernel_rfl
noncomputable def W_law17_NakCatches (N : Nat) (x : List Int × List Int) : Option (Bool) := V_law17_NakCatches (W_Made N) (W_Picks_Feed N) (W_nak_Wants N) (W_nak_Serves N) (W_ref13_Comes N) (W_ref13_Notes N) (W_ref13_Get N) N x
theorem F_law17_NakCatches_eq (N : Nat) (x : List Int × List Int) : F_law17_NakCatches (W_Made N) (W_Picks_Feed N) (W_nak_Wants N) (W_nak_Serves N) (W_ref13_Comes N) (W_ref13_Notes N) (W_ref13_Get N) N x = W_law17_NakCatches N x := (FV_law17_NakCatches_eq (W_Made N) (W_Picks_Feed N) (W_nak_Wants N) (W_nak_Serves N) (W_ref13_Comes N) (W_ref13_Notes N) (W_ref13_Get N) N x).trans (by kernel_rfl)
noncomputable def conw_law17_NakCatches (w : List Int × List Int → Option (Bool)) : Con := ⟨5, as_law17_NakCatches, bs_law17_NakCatches, Bool, w, out_law17_NakCatches⟩
noncomputable def con_law17_NakCatches (N : Nat) : Con := conw_law17_NakCatches (W_law17_NakCatches N)
theorem R_law17_NakCatches_eq (x : List Int × List Int) (y : Bool) : retOf2 P0 Try.f5 (kpL []) (lbOf as_law17_NakCatches bs_law17_NakCatches x) (patS ⟨167, [], [], []⟩ pout_law17_NakCatches y) = some (out_law17_NakCatches y) := by kernel_rfl
theorem con_law17_NakCatches_ok (N : Nat) : Con.ok P0 (con_law17_NakCatches N) := ⟨⟨Try.f5, Try.func5, by kernel_rfl, by kernel_rfl⟩, fun (x : List Int × List Int) (r : Bool) (hr : W_law17_NakCatches N x = some r) =>
  spec2_evT (Γ := G_law17_NakCatches (W_Made N) (W_Picks_Feed N) (W_nak_Wants N) (W_nak_Serves N) (W_ref13_Comes N) (W_ref13_Notes N) (W_ref13_Get N) N) (Λ := L0) (pout := pout_law17_NakCatches) (kp := kpL []) mixed (orcOf_ok _ (by simp only [List.mem_cons, List.not_mem_nil, or_false, forall_eq_or_imp, forall_eq]; exact ⟨con_law17_begun_ok N, con_Made_ok N, con_Picks_Feed_ok N, con_nak_Wants_ok N, con_nak_Serves_ok N, con_ref13_Comes_ok N, con_ref13_Notes_ok N, con_ref13_Get_ok N⟩)) Try.func5 (c := bodyOf Try.f5) (by kernel_rfl) (by kernel_rfl) (of_decide_eq_true (by kernel_rfl)) ((F_law17_NakCatches_eq N x).trans hr) (R_law17_NakCatches_eq x r)⟩
/-! What is reckoned. -/
-- PURE
theorem wr_m {z : Int} (h : -140737488355328 ≤ z) (h2 : z ≤ 140737488355328) : wr .i64 z = z := wr_i64 (by omega) (by omega)
theorem wr_s {z : Int} (h : 0 ≤ z) (h2 : z ≤ 140737488355328) : wr .i64 z = z := wr_i64 (by omega) (by omega)
theorem cnd_T {α : Type} {p : Prop} {i : Decidable p} {x y : α} (h : p) : cnd (@decide p i) x y = x := by rw [decide_eq_true h]; rfl
theorem loopG {σ ρ : Type} {f : σ → Option (σ ⊕ ρ)} (I : Nat → σ → Prop) (B : Nat) (J : ρ → Prop) (hb : ∀ k x, I k x → k ≤ B) (hs : ∀ k x, I k x → (∃ y, f x = some (.inl y) ∧ I (k + 1) y) ∨ ∃ r, f x = some (.inr r) ∧ J r) :
    ∀ (M k : Nat) (x : σ), I k x → B < M + k → ∃ r, loopN M f x = some r ∧ J r
  | 0, k, x, h, hm => by have := hb k x h; omega
  | M + 1, k, x, h, hm => by
    rcases hs k x h with ⟨y, h1, h2⟩ | ⟨r, h1, h2⟩
    · obtain ⟨r, h4, h5⟩ := loopG I B J hb hs M (k + 1) y h2 (by omega)
      exact ⟨r, by simp only [loopN, h1]; exact h4, h5⟩
    · exact ⟨r, by simp only [loopN, h1], h2⟩
theorem loop_G {σ ρ β : Type} {f : σ → Option (σ ⊕ ρ)} {g : ρ → Option β} {x : σ} {N : Nat} (Q : Option β → Prop) (I : Nat → σ → Prop) (B : Nat) (J : ρ → Prop) (hx : I 0 x) (hm : B < N) (hk : ∀ r, J r → Q (g r)) (hb : ∀ k x, I k x → k ≤ B)
    (hs : ∀ k x, I k x → (∃ y, f x = some (.inl y) ∧ I (k + 1) y) ∨ ∃ r, f x = some (.inr r) ∧ J r) : Q (obind (loopN N f x) g) := by
  obtain ⟨r, h1, h2⟩ := loopG I B J hb hs N 0 x hx (by omega)
  rw [h1]; exact hk r h2
abbrev It := Int × List UInt8
abbrev iD : It := ((0 : Int), ([] : List UInt8))
abbrev Ev := Int × Int × Int × List UInt8 × Int
abbrev Sp := Int × Int
abbrev Fd := Int × Int × List It × List It × List Ev × Int × Int
def z7 : Fd := (0, 0, [], [], [], 0, 0)
def addR (l : List It) (e : It) : List It := if 6 ≤ l.length then (l ++ [e]).drop 1 else l ++ [e]
theorem addR_len (l : List It) (e : It) (hl : l.length ≤ 6) : (addR l e).length = min (l.length + 1) 6 := by
  unfold addR
  split <;> simp <;> omega
theorem drop_consI {l : List It} {i : Nat} (h : i < l.length) : l.drop i = l.getD i iD :: l.drop (i + 1) := by
  rw [List.drop_eq_getElem_cons h, List.getD_eq_getElem?_getD, List.getElem?_eq_getElem h]; rfl
/-- What a row has under a number. -/
def getF : List It → Int → List UInt8 × Bool
  | [], _ => ([], false)
  | w :: r, s => if w.1 = s then (w.2, true) else getF r s
/-- Rising from n on, up to K. -/
def Wk (n K : Int) : List It → Prop
  | [] => True
  | w :: r => n ≤ w.1 ∧ w.1 ≤ K ∧ Wk (w.1 + 1) K r
theorem Wk.mono : ∀ {l : List It} {n n' K K' : Int}, Wk n K l → n' ≤ n → K ≤ K' → Wk n' K' l
  | [], _, _, _, _, _, _, _ => trivial
  | w :: r, n, n', K, K', h, h1, h2 => ⟨by have := h.1; omega, by have := h.2.1; omega, h.2.2.mono (Int.le_refl _) h2⟩
theorem Wk.len : ∀ {l : List It} {n K : Int}, Wk n K l → n ≤ K + 1 → (l.length : Int) ≤ K + 1 - n
  | [], _, _, _, _ => by simp; omega
  | w :: r, n, K, h, h1 => by
    have := h.2.2.len (by have := h.2.1; omega)
    have := h.1
    simp only [List.length_cons]; omega
theorem Wk.mem : ∀ {l : List It} {n K : Int}, Wk n K l → ∀ w ∈ l, n ≤ w.1 ∧ w.1 ≤ K
  | [], _, _, _, _, h => by simp at h
  | x :: r, n, K, h, w, hw => by
    rcases List.mem_cons.1 hw with rfl | hw
    · exact ⟨h.1, h.2.1⟩
    · have := h.2.2.mem w hw; have := h.1; omega
theorem Wk.last : ∀ {l : List It} {n K : Int}, Wk n K l → ∀ _ : 0 < l.length, (l.getD (l.length - 1) iD).1 ≤ K := by
  intro l n K h hl
  have : l.getD (l.length - 1) iD ∈ l := by
    rw [List.getD_eq_getElem?_getD, List.getElem?_eq_getElem (by omega)]; exact List.getElem_mem (by omega)
  exact (h.mem _ this).2
theorem Wk.snoc : ∀ {l : List It} {n K K' : Int} {e : It}, Wk n K l → n ≤ e.1 → K < e.1 → e.1 ≤ K' → Wk n K' (l ++ [e])
  | [], _, _, _, _, _, h1, _, h3 => ⟨h1, h3, trivial⟩
  | w :: r, n, K, K', e, h, h1, h2, h3 => by
    have := h.2.1
    exact ⟨h.1, by omega, h.2.2.snoc (by omega) h2 h3⟩
theorem Wk.drop1 : ∀ {l : List It} {n K : Int}, Wk n K l → Wk n K (l.drop 1)
  | [], _, _, _ => trivial
  | w :: r, n, K, h => h.2.2.mono (by have := h.1; omega) (Int.le_refl _)
theorem Wk.ring {l : List It} {n : Int} {e : It} {K : Int} (h : Wk 1 (n - 1) l) (h1 : 1 ≤ n) (he : e.1 = n) (hK : n ≤ K) : Wk 1 K (addR l e) := by
  have := h.snoc (e := e) (K' := K) (by omega) (by omega) (by omega)
  unfold addR
  split
  · exact this.drop1
  · exact this
theorem getF_none : ∀ {l : List It} {n K : Int}, Wk n K l → ∀ s, s < n → getF l s = ([], false)
  | [], _, _, _, _, _ => rfl
  | w :: r, n, K, h, s, hs => by
    have := h.1
    simp only [getF]
    rw [if_neg (by omega)]
    exact getF_none h.2.2 s (by omega)
def insW (x : It) : List It → List It
  | [] => [x]
  | w :: r => if x.1 < w.1 then x :: w :: r else w :: insW x r
theorem insW_len (x : It) : ∀ l, (insW x l).length = l.length + 1
  | [] => rfl
  | w :: r => by
    simp only [insW]
    split
    · rfl
    · simp only [List.length_cons, insW_len x r]
theorem Wk.ins : ∀ {l : List It} {n K : Int} {x : It}, Wk n K l → n ≤ x.1 → x.1 ≤ K → (getF l x.1).2 = false → Wk n K (insW x l)
  | [], n, K, x, _, h1, h2, _ => ⟨h1, h2, trivial⟩
  | w :: r, n, K, x, h, h1, h2, h3 => by
    simp only [getF] at h3
    by_cases c : w.1 = x.1
    · rw [if_pos c] at h3; cases h3
    rw [if_neg c] at h3
    simp only [insW]
    split
    · exact ⟨h1, h2, by omega, h.2.1, h.2.2⟩
    · exact ⟨h.1, h.2.1, h.2.2.ins (by omega) h2 h3⟩
/-- What an item is put to. -/
def putM (l : List It) (n : Int) (x : It) : List It × Bool :=
  if x.1 < n ∨ 8 ≤ x.1 - n ∨ (getF l x.1).2 = true then (l, false) else (insW x l, true)
/-- What is told whose turn it is: items, next, ring, window, log. -/
def goM : List It → Int → List It → List Ev → List It × Int × List It × List It × List Ev
  | [], n, R, L => ([], n, R, [], L)
  | w :: r, n, R, L => if w.1 = n then (w :: (goM r (n + 1) (addR R w) (L ++ [(1, w.1, w.1, w.2, 0)])).1, (goM r (n + 1) (addR R w) (L ++ [(1, w.1, w.1, w.2, 0)])).2) else ([], n, R, w :: r, L)
def goesM (f : Fd) : List It × Fd :=
  let q := goM f.2.2.2.1 f.1 f.2.2.1 f.2.2.2.2.1
  (q.1, q.2.1, f.2.1, q.2.2.1, q.2.2.2.1, q.2.2.2.2, if q.1 = [] then f.2.2.2.2.2 else (0, 0))
/-- One turn of what is skipped: to hi, or to the first one ahead, and what goes then. -/
def skR (hi why : Int) : Nat → Int → List It → List It → List Ev → List Sp → List Sp × Int × List It × List It × List Ev
  | 0, n, R, W, L, o => (o, n, R, W, L)
  | j + 1, n, R, W, L, o =>
    if n ≤ hi then
      match W with
      | [] => skR hi why j (hi + 1) R [] (L ++ [(2, n, hi, [], why)]) (o ++ [(n, hi)])
      | w :: r =>
        if w.1 ≤ hi then
          if n < w.1 then
            let q := goM (w :: r) w.1 R (L ++ [(2, n, w.1 - 1, [], why)])
            skR hi why j q.2.1 q.2.2.1 q.2.2.2.1 q.2.2.2.2 (o ++ [(n, w.1 - 1)])
          else
            let q := goM (w :: r) n R L
            skR hi why j q.2.1 q.2.2.1 q.2.2.2.1 q.2.2.2.2 o
        else skR hi why j (hi + 1) R (w :: r) (L ++ [(2, n, hi, [], why)]) (o ++ [(n, hi)])
    else (o, n, R, W, L)
def skipsM (f : Fd) (hi why : Int) : List Sp × Fd :=
  if f.1 < 1 ∨ 1000000 < hi then ([], f) else
    let q := skR hi why (f.2.2.2.1.length + 2) f.1 f.2.2.1 f.2.2.2.1 f.2.2.2.2.1 []
    (q.1, q.2.1, f.2.1, q.2.2.1, q.2.2.2.1, q.2.2.2.2, if f.1 ≤ hi then (0, 0) else f.2.2.2.2.2)
def knowsM (f : Fd) (t : Int) : Fd := if 0 < f.1 ∧ t ≤ 1000000 then (f.1, max f.2.1 t, f.2.2) else f
def beginM (f : Fd) (n : Int) : Fd := if 0 < f.1 then knowsM f (n - 1) else if 1 ≤ n ∧ n ≤ 1000000 then (n, f.2) else f
def wantsM (f : Fd) : Bool × Int × Int :=
  let hi := match f.2.2.2.1 with
    | [] => f.2.1
    | w :: _ => w.1 - 1
  if f.1 = 0 ∨ hi < f.1 then (false, 0, 0) else (true, f.1, hi)
def notesM (f : Fd) (lo hi : Int) : Fd :=
  if f.1 = 0 ∨ lo < 1 ∨ hi < lo ∨ 1000000 < hi then f else
    let g := knowsM f hi
    if f.1 < lo ∨ hi < f.1 then g else (goesM (skipsM g hi 1).2).2
def comesM (f : Fd) (x : It) : Fd :=
  if f.1 = 0 ∨ x.1 < 1 ∨ 1000000 < x.1 ∨ (12 : Int) < x.2.length then f else
    let g := knowsM f x.1
    (goesM (g.1, g.2.1, g.2.2.1, (putM g.2.2.2.1 g.1 x).1, g.2.2.2.2)).2
def nowM (a : Int × Int) (now : Int) : Bool := if a.1 = 0 then true else decide (a.2 ≤ now)
def triedM (a : Int × Int) (now : Int) : Int × Int := (a.1 + 1, now + 2 * 2 ^ (min a.1.toNat 3))
def tickM (f : Fd) (now : Int) : Bool × Fd × Int × Int :=
  let s := wantsM f
  if s.1 = false ∨ nowM f.2.2.2.2.2 now = false then (false, f, 0, 0) else
    if 3 ≤ f.2.2.2.2.2.1 then (false, (goesM (skipsM f s.2.2 2).2).2, 0, 0) else
      (true, (f.1, f.2.1, f.2.2.1, f.2.2.2.1, f.2.2.2.2.1, triedM f.2.2.2.2.2 now), s.2.1, s.2.2)
/-- A log that goes from n up to m. -/
def Ch : Int → List Ev → Int → Prop
  | n, [], m => n = m
  | n, e :: r, m => e.2.1 = n ∧ e.2.1 ≤ e.2.2.1 ∧ Ch (e.2.2.1 + 1) r m
theorem Ch.len : ∀ {L : List Ev} {n m : Int}, Ch n L m → (L.length : Int) ≤ m - n
  | [], _, _, h => by have h' : _ = _ := h; simp; omega
  | e :: r, n, m, h => by
    have := h.2.2.len; have := h.1; have := h.2.1
    simp only [List.length_cons]; omega
theorem Ch.snoc : ∀ {L : List Ev} {n m : Int} {e : Ev}, Ch n L m → e.2.1 = m → m ≤ e.2.2.1 → Ch n (L ++ [e]) (e.2.2.1 + 1)
  | [], _, _, e, h, h1, h2 => by have h' : _ = _ := h; exact ⟨by omega, by omega, rfl⟩
  | x :: r, n, m, e, h, h1, h2 => ⟨h.1, h.2.1, h.2.2.snoc h1 h2⟩
/-- Such parts of a feed as may be. -/
structure Fp (K c n : Int) (R W : List It) (L : List Ev) : Prop where
  nx : 1 ≤ n ∧ n ≤ K + 1
  rk : Wk 1 (n - 1) R
  rl : R.length ≤ 6
  wk : Wk n (min K (n + 7)) W
  ch : Ch c L n
  c0 : 0 ≤ c
theorem Fp.tell {K c n : Int} {R r : List It} {w : It} {L : List Ev} (h : Fp K c n R (w :: r) L) (hw : w.1 = n) : Fp K c (n + 1) (addR R w) r (L ++ [(1, w.1, w.1, w.2, 0)]) := by
  obtain ⟨⟨a, b⟩, rk, rl, wk, ch, c0⟩ := h
  have hk := wk.2.1
  refine ⟨⟨by omega, by omega⟩, rk.ring a hw (by omega), by rw [addR_len _ _ rl]; omega, wk.2.2.mono (by omega) (by omega), ?_, c0⟩
  have := ch.snoc (e := (1, w.1, w.1, w.2, 0)) hw (by simp only; omega)
  simp only at this
  rw [hw] at this ⊢
  exact this
theorem Fp.skip {K c n : Int} {R W : List It} {L : List Ev} (h : Fp K c n R W L) {m why : Int} (hm : n ≤ m) (hk : m ≤ K) (hw : Wk (m + 1) (min K (n + 7)) W) : Fp K c (m + 1) R W (L ++ [(2, n, m, [], why)]) := by
  obtain ⟨⟨a, b⟩, rk, rl, wk, ch, c0⟩ := h
  exact ⟨⟨by omega, by omega⟩, rk.mono (Int.le_refl _) (by omega), rl, hw.mono (Int.le_refl _) (by omega), ch.snoc rfl hm, c0⟩
/-- What goes is as it may be; how far it went. -/
theorem goM_ok {K c : Int} : ∀ (W : List It) (n : Int) (R : List It) (L : List Ev), Fp K c n R W L → Fp K c (goM W n R L).2.1 (goM W n R L).2.2.1 (goM W n R L).2.2.2.1 (goM W n R L).2.2.2.2 ∧
    Wk ((goM W n R L).2.1 + 1) (min K ((goM W n R L).2.1 + 7)) (goM W n R L).2.2.2.1 ∧ n + (goM W n R L).1.length = (goM W n R L).2.1 ∧ (goM W n R L).1 ++ (goM W n R L).2.2.2.1 = W ∧ (goM W n R L).2.2.2.2 = L ++ (goM W n R L).1.map fun w => (1, w.1, w.1, w.2, 0)
  | [], n, R, L, h => ⟨h, trivial, by simp [goM], rfl, by simp [goM]⟩
  | w :: r, n, R, L, h => by
    unfold goM
    by_cases c1 : w.1 = n
    · rw [if_pos c1]
      obtain ⟨h1, h2, h3, h4, h5⟩ := goM_ok r (n + 1) _ _ (h.tell c1)
      refine ⟨h1, h2, by simp only [List.length_cons]; omega, by simp only [List.cons_append, h4], ?_⟩
      simp only [h5, List.map_cons, List.append_assoc, List.cons_append, List.nil_append]
    · rw [if_neg c1]
      have := h.wk.1
      refine ⟨h, ⟨by simp only; omega, h.wk.2⟩, by simp, rfl, by simp⟩
theorem goM_head {w : It} {r R : List It} {n : Int} {L : List Ev} (h : w.1 = n) : (goM (w :: r) n R L).1 ≠ [] ∧ (goM (w :: r) n R L).2.2.2.1.length ≤ r.length := by
  have hl : ∀ (W : List It) (n : Int) (R : List It) (L : List Ev), (goM W n R L).2.2.2.1.length ≤ W.length := by
    intro W
    induction W with
    | nil => intro n R L; simp [goM]
    | cons w r ih =>
      intro n R L
      unfold goM
      split
      · have := ih (n + 1) (addR R w) (L ++ [(1, w.1, w.1, w.2, 0)]); simp only [List.length_cons]; omega
      · simp
  unfold goM
  rw [if_pos h]
  exact ⟨by simp, hl _ _ _ _⟩
theorem skR_ok {K c hi why : Int} (hK : hi ≤ K) : ∀ (j : Nat) (n : Int) (R W : List It) (L : List Ev) (o : List Sp), Fp K c n R W L → (n ≤ hi → W.length + 1 ≤ j) →
    Fp K c (skR hi why j n R W L o).2.1 (skR hi why j n R W L o).2.2.1 (skR hi why j n R W L o).2.2.2.1 (skR hi why j n R W L o).2.2.2.2 ∧ hi < (skR hi why j n R W L o).2.1 ∧ n ≤ (skR hi why j n R W L o).2.1
  | 0, n, R, W, L, o, h, hj => by
    have : ¬ n ≤ hi := fun q => by have := hj q; omega
    exact ⟨h, by simp only [skR]; omega, by simp only [skR]; omega⟩
  | j + 1, n, R, W, L, o, h, hj => by
    unfold skR
    by_cases c0 : n ≤ hi
    case neg => rw [if_neg c0]; exact ⟨h, by simp only; omega, by simp only; omega⟩
    rw [if_pos c0]
    have hj := hj c0
    cases W with
    | nil =>
      try simp only
      obtain ⟨a1, a2, a3⟩ := skR_ok hK j (hi + 1) R [] (L ++ [(2, n, hi, [], why)]) (o ++ [(n, hi)]) (h.skip c0 hK trivial) (fun q => by omega)
      exact ⟨a1, a2, by omega⟩
    | cons w r =>
      simp only [List.length_cons] at hj
      try simp only
      have hw := h.wk
      by_cases c1 : w.1 ≤ hi
      · rw [if_pos c1]
        by_cases c2 : n < w.1
        · rw [if_pos c2]
          have hs : Fp K c w.1 R (w :: r) (L ++ [(2, n, w.1 - 1, [], why)]) := by
            have := h.skip (m := w.1 - 1) (why := why) (by omega) (by omega) ⟨by omega, hw.2⟩
            rwa [show w.1 - 1 + 1 = w.1 by omega] at this
          obtain ⟨g1, g2, g3, g4, _⟩ := goM_ok _ _ _ _ hs
          obtain ⟨g5, g6⟩ := goM_head (r := r) (R := R) (L := L ++ [(2, n, w.1 - 1, [], why)]) (rfl : w.1 = w.1)
          obtain ⟨a1, a2, a3⟩ := skR_ok hK j _ _ _ _ (o ++ [(n, w.1 - 1)]) g1 (fun q => by omega)
          exact ⟨a1, a2, by omega⟩
        · rw [if_neg c2]
          have e : w.1 = n := by have := hw.1; omega
          obtain ⟨g1, g2, g3, g4, _⟩ := goM_ok _ _ _ _ h
          obtain ⟨g5, g6⟩ := goM_head (r := r) (R := R) (L := L) e
          obtain ⟨a1, a2, a3⟩ := skR_ok hK j _ _ _ _ o g1 (fun q => by omega)
          exact ⟨a1, a2, by omega⟩
      · rw [if_neg c1]
        obtain ⟨a1, a2, a3⟩ := skR_ok hK j (hi + 1) R (w :: r) (L ++ [(2, n, hi, [], why)]) (o ++ [(n, hi)]) (h.skip c0 hK ⟨by omega, hw.2⟩) (fun q => by omega)
        exact ⟨a1, a2, by omega⟩
/-- A loop over a list, by a function of Lean's own. -/
def okS (s : Sp) : Prop := 1 ≤ s.1 ∧ s.1 ≤ s.2 ∧ s.2 ≤ 1000000
open Classical in
def B (h : Sp) : Prop := 0 ≤ h.1 ∧ h.1 ≤ 1000001 ∧ 0 ≤ h.2 ∧ h.2 ≤ 1000001
theorem okS.B {s : Sp} (h : okS s) : B s := ⟨by have := h.1; omega, by have := h.2.1; have := h.2.2; omega, by have := h.1; have := h.2.1; omega, by have := h.2.2; omega⟩
abbrev AS3 := Sp × List Sp × List Sp
def ad (s : AS3) (h : Sp) : AS3 := if h.2 + 1 < s.1.1 then (s.1, s.2.1 ++ [h], s.2.2) else if s.1.2 + 1 < h.1 then (s.1, s.2.1, s.2.2 ++ [h]) else ((min s.1.1 h.1, max s.1.2 h.2), s.2.1, s.2.2)
open Classical in
noncomputable def addP (l : List Sp) (s : Sp) : List Sp := if okS s then (l.foldl ad (s, [], [])).2.1 ++ [(l.foldl ad (s, [], [])).1] ++ (l.foldl ad (s, [], [])).2.2 else l
theorem ad_len (l : List Sp) : ∀ s : AS3, (l.foldl ad s).2.1.length + (l.foldl ad s).2.2.length ≤ s.2.1.length + s.2.2.length + l.length := by
  induction l with
  | nil => intro s; simp
  | cons h r ih =>
    intro s
    have := ih (ad s h)
    have h2 : (ad s h).2.1.length + (ad s h).2.2.length ≤ s.2.1.length + s.2.2.length + 1 := by unfold ad; split; · simp; omega
                                                                                                split <;> simp <;> omega
    simp only [List.foldl_cons, List.length_cons]; omega
open Classical in
def Rr (a b : Sp) : Prop := a.2 + 1 < b.1
def VS (l : List Sp) : Prop := (∀ a ∈ l, okS a) ∧ l.Pairwise Rr
structure J (s : AS3) (rest : List Sp) : Prop where
  f1 : ∀ a ∈ s.2.1, okS a
  f2 : s.2.1.Pairwise Rr
  m : okS s.1
  fm : ∀ a ∈ s.2.1, a.2 + 1 < s.1.1
  b1 : ∀ a ∈ s.2.2, okS a
  b2 : s.2.2.Pairwise Rr
  bm : ∀ a ∈ s.2.2, s.1.2 + 1 < a.1
  br : ∀ a ∈ s.2.2, ∀ h ∈ rest, a.2 + 1 < h.1
  fr : ∀ a ∈ s.2.1, ∀ h ∈ rest, a.2 + 1 < h.1
  r1 : ∀ h ∈ rest, okS h
  r2 : rest.Pairwise Rr
theorem J_step {s : AS3} {h : Sp} {r : List Sp} (j : J s (h :: r)) : J (ad s h) r := by
  obtain ⟨f1, f2, m, fm, b1, b2, bm, br, fr, r1, r2⟩ := j
  have hh := r1 h (by simp)
  rw [List.pairwise_cons] at r2
  have r1' : ∀ x ∈ r, okS x := fun x hx => r1 x (by simp [hx])
  have br' : ∀ a ∈ s.2.2, ∀ x ∈ r, a.2 + 1 < x.1 := fun a ha x hx => br a ha x (by simp [hx])
  have fr' : ∀ a ∈ s.2.1, ∀ x ∈ r, a.2 + 1 < x.1 := fun a ha x hx => fr a ha x (by simp [hx])
  have bh : ∀ a ∈ s.2.2, a.2 + 1 < h.1 := fun a ha => br a ha h (by simp)
  have fh : ∀ a ∈ s.2.1, a.2 + 1 < h.1 := fun a ha => fr a ha h (by simp)
  obtain ⟨m1, m2, m3⟩ := m
  obtain ⟨g1, g2, g3⟩ := hh
  unfold ad
  split
  · rename_i k
    refine ⟨?_, ?_, ⟨m1, m2, m3⟩, ?_, b1, b2, bm, br', ?_, r1', r2.2⟩
    · intro a ha
      simp only [List.mem_append, List.mem_singleton] at ha
      rcases ha with ha | rfl
      · exact f1 a ha
      · exact ⟨g1, g2, g3⟩
    · rw [List.pairwise_append]
      exact ⟨f2, by simp, fun a ha b hb => by simp at hb; subst hb; exact fh a ha⟩
    · intro a ha
      simp only [List.mem_append, List.mem_singleton] at ha
      rcases ha with ha | rfl
      · exact fm a ha
      · exact k
    · intro a ha x hx
      simp only [List.mem_append, List.mem_singleton] at ha
      rcases ha with ha | rfl
      · exact fr' a ha x hx
      · exact r2.1 x hx
  · rename_i k
    split
    · rename_i k2
      refine ⟨f1, f2, ⟨m1, m2, m3⟩, fm, ?_, ?_, ?_, ?_, fr', r1', r2.2⟩
      · intro a ha
        simp only [List.mem_append, List.mem_singleton] at ha
        rcases ha with ha | rfl
        · exact b1 a ha
        · exact ⟨g1, g2, g3⟩
      · rw [List.pairwise_append]
        exact ⟨b2, by simp, fun a ha b hb => by simp at hb; subst hb; exact bh a ha⟩
      · intro a ha
        simp only [List.mem_append, List.mem_singleton] at ha
        rcases ha with ha | rfl
        · exact bm a ha
        · exact k2
      · intro a ha x hx
        simp only [List.mem_append, List.mem_singleton] at ha
        rcases ha with ha | rfl
        · exact br' a ha x hx
        · exact r2.1 x hx
    · rename_i k2
      have hb : ∀ a ∈ s.2.2, False := fun a ha => by
        have q1 := bm a ha
        have q2 := bh a ha
        have q3 := (b1 a ha).2.1
        omega
      refine ⟨f1, f2, ⟨by simp only; omega, by simp only; omega, by simp only; omega⟩, fun a ha => ?_, b1, b2, fun a ha => (hb a ha).elim, br', fr', r1', r2.2⟩
      have q1 := fm a ha
      have q2 := fh a ha
      try simp only
      omega
theorem J_fold : ∀ (l : List Sp) (s : AS3), J s l → J (l.foldl ad s) []
  | [], s, h => h
  | x :: r, s, h => J_fold r _ (J_step h)
theorem VS_add {l : List Sp} {s : Sp} (hl : VS l) (hs : okS s) : VS (addP l s) ∧ (addP l s).length ≤ l.length + 1 := by
  have j := J_fold l (s, [], []) ⟨by simp, by simp, hs, by simp, by simp, by simp, by simp, by simp, by simp, hl.1, hl.2⟩
  have hlen := ad_len l (s, [], [])
  simp only [List.length_nil] at hlen
  unfold addP
  rw [if_pos hs]
  generalize l.foldl ad (s, [], []) = q at *
  obtain ⟨f1, f2, m, fm, b1, b2, bm, _, _, _, _⟩ := j
  refine ⟨⟨?_, ?_⟩, by simp only [List.length_append, List.length_singleton]; omega⟩
  · intro a ha
    simp only [List.mem_append, List.mem_singleton] at ha
    rcases ha with (ha | rfl) | ha
    · exact f1 a ha
    · exact m
    · exact b1 a ha
  · rw [List.pairwise_append, List.pairwise_append]
    refine ⟨⟨f2, by simp, fun a ha b hb => by simp at hb; subst hb; exact fm a ha⟩, b2, fun a ha b hb => ?_⟩
    have q2 := bm b hb
    have q3 := m.2.1
    simp only [List.mem_append, List.mem_singleton] at ha
    show a.2 + 1 < b.1
    rcases ha with ha | rfl
    · have := fm a ha; omega
    · omega
def push (o : List Sp) (lo hi : Int) : List Sp := if 0 < o.length ∧ (o.getD (o.length - 1) (0, 0)).2 + 1 = lo then putL o [((o.getD (o.length - 1) (0, 0)).1, hi)] (o.length - 1) else o ++ [(lo, hi)]
theorem push_nil (lo hi : Int) : push [] lo hi = [(lo, hi)] := by unfold push; rw [if_neg (by simp)]; rfl
theorem push_snoc (o : List Sp) (t : Sp) (lo hi : Int) : push (o ++ [t]) lo hi = if t.2 + 1 = lo then o ++ [(t.1, hi)] else o ++ [t] ++ [(lo, hi)] := by
  have hl : (o ++ [t]).length - 1 = o.length := by simp
  have hg : (o ++ [t]).getD o.length (0, 0) = t := by rw [List.getD_eq_getElem?_getD]; simp
  unfold push
  rw [hl, hg]
  by_cases h : t.2 + 1 = lo
  · rw [if_pos ⟨by simp, h⟩, if_pos h]
    unfold putL
    simp
  · rw [if_neg (fun q => h q.2), if_neg h]
theorem snoc_cases (o : List Sp) : o = [] ∨ ∃ p t, o = p ++ [t] := by
  rcases List.eq_nil_or_concat o with h | ⟨p, t, h⟩
  · exact .inl h
  · exact .inr ⟨p, t, by rw [h, List.concat_eq_append]⟩
theorem push_hi {o : List Sp} {lo hi m : Int} (ho : ∀ s ∈ o, s.2 + 1 ≤ m) (hm : hi + 1 ≤ m) : ∀ s ∈ push o lo hi, s.2 + 1 ≤ m := by
  rcases snoc_cases o with rfl | ⟨p, t, rfl⟩
  · rw [push_nil]; intro s hs; simp at hs; subst hs; exact hm
  · rw [push_snoc]
    intro s hs
    split at hs
    · simp only [List.mem_append, List.mem_singleton] at hs
      rcases hs with hs | rfl
      · exact ho s (by simp [hs])
      · exact hm
    · simp only [List.mem_append, List.mem_singleton] at hs
      rcases hs with (hs | rfl) | rfl
      · exact ho s (by simp [hs])
      · exact ho s (by simp)
      · exact hm
theorem fold_front (s : Sp) : ∀ (l fr : List Sp), (∀ t ∈ l, t.2 + 1 < s.1) → l.foldl ad (s, fr, []) = (s, fr ++ l, [])
  | [], fr, _ => by simp
  | t :: r, fr, h => by
    have e : ad (s, fr, []) t = (s, fr ++ [t], []) := by unfold ad; rw [if_pos (h t (by simp))]
    rw [List.foldl_cons, e, fold_front s r (fr ++ [t]) fun x hx => h x (by simp [hx])]
    simp
theorem addP_push {a : List Sp} {s : Sp} (ha : VS a) (hs : okS s) (hb : ∀ t ∈ a, t.2 + 1 ≤ s.1) : addP a s = push a s.1 s.2 := by
  unfold addP
  rw [if_pos hs]
  rcases snoc_cases a with rfl | ⟨p, t, rfl⟩
  · rw [push_nil]; simp
  · have hp : ∀ x ∈ p, x.2 + 1 < s.1 := fun x hx => by
      have h1 : Rr x t := (List.pairwise_append.1 ha.2).2.2 x hx t (by simp)
      have h2 := hb t (by simp)
      have h3 := (ha.1 t (by simp)).2.1
      unfold Rr at h1
      omega
    have ht := hb t (by simp)
    have ht2 := (ha.1 t (by simp)).2.1
    have hs2 := hs.2.1
    rw [List.foldl_append, fold_front s p [] hp, List.nil_append, push_snoc]
    simp only [List.foldl_cons, List.foldl_nil]
    unfold ad
    try simp only
    by_cases h : t.2 + 1 = s.1
    · rw [if_neg (by omega), if_neg (by omega), if_pos h]
      simp only [List.append_nil]
      rw [show min s.1 t.1 = t.1 by omega, show max s.2 t.2 = s.2 by omega]
    · rw [if_pos (by omega), if_neg h]
      simp
open Classical in
theorem Get_eq (N : Nat) (l : List It) (s : Int) (hN : 2000 ≤ N) (hl : l.length ≤ 1000) : W_ring_Get N (l, s) = some (getF l s) := by
  have hf : ∃ r : List UInt8 ⊕ PUnit, W_ring_find N (l, s) = some r ∧ ((r = .inl (getF l s).1 ∧ (getF l s).2 = true) ∨ (r = .inr () ∧ getF l s = ([], false))) := by
    unfold W_ring_find V_ring_find
    try simp only
    refine loop_G (N := N) (fun o => ∃ r : List UInt8 ⊕ PUnit, o = some r ∧ ((r = .inl (getF l s).1 ∧ (getF l s).2 = true) ∨ (r = .inr () ∧ getF l s = ([], false)))) (fun k (v : Int) => v = k ∧ k ≤ l.length ∧ getF (l.drop k) s = getF l s) l.length (fun r : PUnit ⊕ List UInt8 ⊕ PUnit => (r = .inl () ∧ getF l s = ([], false)) ∨ (r = .inr (.inl (getF l s).1) ∧ (getF l s).2 = true)) ⟨rfl, by omega, rfl⟩ (by omega) ?_ (fun k v h => h.2.1) ?_
    · rintro r (⟨rfl, h⟩ | ⟨rfl, h⟩)
      · rw [selim_l]; exact ⟨_, rfl, .inr ⟨rfl, h⟩⟩
      · rw [selim_r]; exact ⟨_, rfl, .inl ⟨rfl, h⟩⟩
    · rintro k v ⟨e, hk, hg⟩
      subst e
      by_cases c : (k : Int) < l.length
      case neg =>
        right
        rw [dF c, cnd_f]
        rw [List.drop_eq_nil_of_le (by omega)] at hg
        exact ⟨_, rfl, .inl ⟨rfl, hg.symm⟩⟩
      rw [drop_consI (by omega)] at hg
      simp only [getF] at hg
      rw [dT c, cnd_t, dT (by omega), Bool.and_self, cnd_t, Int.toNat_natCast]
      by_cases c2 : (l.getD k iD).1 = s
      · right
        rw [if_pos c2] at hg
        rw [dT c2, cnd_t]
        exact ⟨_, rfl, .inr ⟨by rw [← hg], by rw [← hg]⟩⟩
      · left
        rw [if_neg c2] at hg
        rw [dF c2, cnd_f, wr_m (by omega) (by omega)]
        exact ⟨_, rfl, by omega, by omega, hg⟩
  obtain ⟨r, h1, h2⟩ := hf
  unfold W_ring_Get V_ring_Get
  try simp only
  rw [h1, obind_s]
  rcases h2 with ⟨rfl, h2⟩ | ⟨rfl, h2⟩
  · rw [selim_l]
    cases hq : getF l s with
    | mk a b => rw [hq] at h2; simp only at h2; rw [h2]
  · rw [selim_r, h2]
def itF (R : List It) (lo : Int) : Nat → List It
  | 0 => []
  | k + 1 => if (getF R (lo + k)).2 = true then itF R lo k ++ [(lo + k, (getF R (lo + k)).1)] else itF R lo k
def noF (R : List It) (lo : Int) : Nat → List Sp
  | 0 => []
  | k + 1 => if (getF R (lo + k)).2 = true then noF R lo k else push (noF R lo k) (lo + k) (lo + k)
theorem itF_len (R : List It) (lo : Int) : ∀ k, (itF R lo k).length ≤ k
  | 0 => by simp [itF]
  | k + 1 => by
    have := itF_len R lo k
    simp only [itF]
    split
    · simp only [List.length_append, List.length_cons, List.length_nil]; omega
    · omega
theorem rTell (N : Nat) (a : List Ev) (n : Int) (t : List UInt8) (hl : a.length ≤ 100000000) : W_ref13_Tell N (a, n, t) = some (a ++ [(1, n, n, t, 0)]) := by
  unfold W_ref13_Tell V_ref13_Tell
  try simp only
  rw [cnd_T (by omega), cnd_T (by simp only [List.length_cons, List.length_nil]; omega)]
theorem rSkip_eq (N : Nat) (a : List Ev) (lo hi why : Int) (hl : a.length ≤ 100000000) : W_ref13_Skip N (a, lo, hi, why) = some (a ++ [(2, lo, hi, [], why)]) := by
  unfold W_ref13_Skip V_ref13_Skip
  try simp only
  rw [cnd_T (by omega), cnd_T (by omega)]
theorem cut1 (l : List It) (h : 1 ≤ l.length) : List.drop ((0 : Nat) + (cutT (0 : Nat) l.length l.length (some (1 : Int)) none).2.1) (List.take ((0 : Nat) + (cutT (0 : Nat) l.length l.length (some (1 : Int)) none).2.1 + ((cutT (0 : Nat) l.length l.length (some (1 : Int)) none).2.2 - (cutT (0 : Nat) l.length l.length (some (1 : Int)) none).2.1)) l) = l.drop 1 := by
  simp only [cutT, Option.getD_some, Option.getD_none]
  have e : (1 : Int).toNat = 1 := rfl
  rw [e, show 0 + 1 + (l.length - 1) = l.length by omega, List.take_length]
theorem rAdd_eq (N : Nat) (l : List It) (e : It) (hl : l.length ≤ 6) (hs : ∀ h : 0 < l.length, (l.getD (l.length - 1) iD).1 < e.1) : W_ref13_AddRing N (l, e.1, e.2) = some (addR l e) := by
  unfold W_ref13_AddRing V_ref13_AddRing
  simp only [Option.getD_some]
  rw [cnd_T (by omega)]
  have tail : cnd (decide ((List.length l + List.length [(e.1, e.2)]) * (24 : Nat) ≤ (140737488355328 : Nat)))
          (cnd (decide ((6 : Int) < (↑(List.length (l ++ [(e.1, e.2)])) : Int)))
            (cnd (decide ((1 : Int) ≤ (↑(List.length (l ++ [(e.1, e.2)])) : Int))) (some (List.drop ((0 : Nat) + (cutT (0 : Nat) (l ++ [(e.1, e.2)]).length (l ++ [(e.1, e.2)]).length (some (1 : Int)) none).2.1) (List.take ((0 : Nat) + (cutT (0 : Nat) (l ++ [(e.1, e.2)]).length (l ++ [(e.1, e.2)]).length (some (1 : Int)) none).2.1 + ((cutT (0 : Nat) (l ++ [(e.1, e.2)]).length (l ++ [(e.1, e.2)]).length (some (1 : Int)) none).2.2 - (cutT (0 : Nat) (l ++ [(e.1, e.2)]).length (l ++ [(e.1, e.2)]).length (some (1 : Int)) none).2.1)) (l ++ [(e.1, e.2)])))) none)
            (some (l ++ [(e.1, e.2)])))
          none = some (addR l e) := by
    rw [dT (by simp only [List.length_singleton]; omega), cnd_t]
    unfold addR
    by_cases h6 : 6 ≤ l.length
    · rw [dT (by simp only [List.length_append, List.length_singleton]; omega), cnd_t, if_pos h6, dT (by simp only [List.length_append, List.length_singleton]; omega), cnd_t, cut1 _ (by simp)]
    · rw [dF (by simp only [List.length_append, List.length_singleton]; omega), cnd_f, if_neg h6]
  by_cases h0 : (0 : Int) < l.length
  · have w1 : wr .i64 ((l.length : Int) - 1) = ((l.length - 1 : Nat) : Int) := by rw [wr_m (by omega) (by omega)]; omega
    have h1 := hs (by omega)
    rw [dT h0, cnd_t, w1, dT (by omega), dT (by omega), Bool.and_self, cnd_t, Int.toNat_natCast, dF (by show ¬ e.1 ≤ (l.getD (l.length - 1) iD).1; omega), cnd_f]
    exact tail
  · rw [dF h0, cnd_f]
    exact tail
theorem TakeWin_nil (N : Nat) (n : Int) : W_ref13_TakeWin N ([], n) = some ([], false, 0, []) := by
  unfold W_ref13_TakeWin V_ref13_TakeWin
  simp only [List.length_nil]
  rw [dT (by omega), cnd_t]
theorem TakeWin_no (N : Nat) (w : It) (r : List It) (n : Int) (h : w.1 ≠ n) : W_ref13_TakeWin N (w :: r, n) = some (w :: r, false, 0, []) := by
  unfold W_ref13_TakeWin V_ref13_TakeWin
  simp only [List.length_cons]
  rw [dF (by omega), cnd_f, dT (by omega), dT (by omega), Bool.and_self, cnd_t]
  have e : (List.getD (w :: r) 0 ((0 : Int), ([] : List UInt8))) = w := rfl
  rw [e, dT h, cnd_t]
theorem TakeWin_yes (N : Nat) (w : It) (r : List It) (hr : r.length ≤ 1000) : W_ref13_TakeWin N (w :: r, w.1) = some (r, true, w.1, w.2) := by
  unfold W_ref13_TakeWin V_ref13_TakeWin
  simp only [List.length_cons]
  have e : (List.getD (w :: r) 0 ((0 : Int), ([] : List UInt8))) = w := rfl
  have e2 : List.drop 1 (List.take (r.length + 1) (w :: r)) = r := by simp
  rw [dF (by omega), cnd_f, dT (by omega), dT (by omega), Bool.and_self, cnd_t, e, dF (fun q => q rfl), cnd_f, dT (by omega), dT (by omega), Bool.and_self, cnd_t, cnd_T (by rw [e2]; omega), cnd_t, e2]
theorem Fp.lens {K c n : Int} {R W : List It} {L : List Ev} (h : Fp K c n R W L) (hK : K ≤ 10000000) : W.length ≤ 8 ∧ L.length ≤ 10000001 ∧ ∀ _ : 0 < R.length, (R.getD (R.length - 1) iD).1 < n := by
  have a := h.wk.len (by have := h.nx; omega)
  have b := h.ch.len
  have d := h.c0
  have e := h.nx
  refine ⟨by omega, by omega, fun q => ?_⟩
  have := h.rk.last q
  omega
theorem goM_eq (w : It) (r R : List It) (L : List Ev) : goM (w :: r) w.1 R L = (w :: (goM r (w.1 + 1) (addR R w) (L ++ [(1, w.1, w.1, w.2, 0)])).1, (goM r (w.1 + 1) (addR R w) (L ++ [(1, w.1, w.1, w.2, 0)])).2) := by
  conv => lhs; unfold goM
  rw [if_pos rfl]
theorem goM_ne {w : It} {n : Int} (h : w.1 ≠ n) (r R : List It) (L : List Ev) : goM (w :: r) n R L = ([], n, R, w :: r, L) := by
  conv => lhs; unfold goM
  rw [if_neg h]
theorem rGoes_eq (N : Nat) (hN : 2000 ≤ N) {K c : Int} {f : Fd} (h : Fp K c f.1 f.2.2.1 f.2.2.2.1 f.2.2.2.2.1) (hK : K ≤ 10000000) : W_ref13_Goes N f = some (goesM f) := by
  obtain ⟨nx, tp, R, Wn, Lg, a, b⟩ := f
  unfold W_ref13_Goes V_ref13_Goes goesM
  simp only at h ⊢
  have hwl := (h.lens hK).1
  refine loop_G (N := N) (x := ((nx, tp, R, Wn, Lg, a, b), z7, [])) (fun q => q = some ((goM Wn nx R Lg).1, (goM Wn nx R Lg).2.1, tp, (goM Wn nx R Lg).2.2.1, (goM Wn nx R Lg).2.2.2.1, (goM Wn nx R Lg).2.2.2.2, if (goM Wn nx R Lg).1 = [] then (a, b) else (0, 0)))
    (fun k (v : Fd × Fd × List It) => v.2.1 = z7 ∧ Fp K c v.1.1 v.1.2.2.1 v.1.2.2.2.1 v.1.2.2.2.2.1 ∧ v.1.2.1 = tp ∧ v.1.2.2.2.1.length + k = Wn.length ∧ v.2.2.length = k ∧ (v.2.2 ++ (goM v.1.2.2.2.1 v.1.1 v.1.2.2.1 v.1.2.2.2.2.1).1, (goM v.1.2.2.2.1 v.1.1 v.1.2.2.1 v.1.2.2.2.2.1).2) = goM Wn nx R Lg ∧ v.1.2.2.2.2.2 = if v.2.2 = [] then (a, b) else (0, 0)) Wn.length
    (fun r : List It × Fd => r = ((goM Wn nx R Lg).1, (goM Wn nx R Lg).2.1, tp, (goM Wn nx R Lg).2.2.1, (goM Wn nx R Lg).2.2.2.1, (goM Wn nx R Lg).2.2.2.2, if (goM Wn nx R Lg).1 = [] then (a, b) else (0, 0))) ⟨rfl, h, rfl, by simp, rfl, by simp, by simp⟩ (by omega) ?_ (fun k v h => by have := h.2.2.2.1; omega) ?_
  · rintro r rfl; rfl
  · rintro k ⟨⟨n', t', R', W', L', a', b'⟩, z, o⟩ ⟨rfl, hf, rfl, hwk, hol, hq, hab⟩
    simp only at hf hwk hol hq hab ⊢
    obtain ⟨l1, l2, l3⟩ := hf.lens hK
    have hnx := hf.nx
    cases W' with
    | nil =>
      right
      rw [TakeWin_nil, obind_s]
      simp only [Bool.not_false, cnd_t]
      refine ⟨_, rfl, ?_⟩
      simp only [goM, List.append_nil] at hq
      rw [← hq, hab]
    | cons w r =>
      simp only [List.length_cons] at hwk l1
      by_cases cw : w.1 = n'
      · left
        obtain rfl : n' = w.1 := cw.symm
        rw [TakeWin_yes N w r (by omega), obind_s]
        simp only [Bool.not_true, cnd_f]
        rw [rTell N L' w.1 w.2 (by omega), obind_s, rAdd_eq N R' (w.1, w.2) hf.rl l3, obind_s]
        have hs := hf.tell rfl
        rw [goM_eq] at hq
        refine ⟨_, cnd_T (by simp only [List.length_cons, List.length_nil]; omega), rfl, ?_, rfl, by simp only; omega, by simp [hol], ?_, by simp⟩
        · simp only
          rw [wr_m (by omega) (by omega)]
          exact hs
        · simp only
          rw [wr_m (by omega) (by omega), ← hq]
          simp only [List.append_assoc, List.cons_append, List.nil_append]
      · right
        rw [TakeWin_no N w r n' cw, obind_s]
        simp only [Bool.not_false, cnd_t]
        rw [goM_ne cw] at hq
        refine ⟨_, rfl, ?_⟩
        simp only [List.append_nil] at hq
        rw [← hq, hab]
theorem First_cons (N : Nat) (w : It) (r : List It) : W_ref13_First N (w :: r) = some w.1 := by
  unfold W_ref13_First V_ref13_First
  simp only [List.length_cons]
  rw [dF (by omega), cnd_f, dT (by omega), dT (by omega), Bool.and_self, cnd_t]
  rfl
theorem skR_stop {hi why n : Int} {R W : List It} {L : List Ev} {o : List Sp} (h : ¬ n ≤ hi) : ∀ j, skR hi why j n R W L o = (o, n, R, W, L)
  | 0 => rfl
  | j + 1 => by unfold skR; rw [if_neg h]
theorem rSkips_eq (N : Nat) (hN : 2000 ≤ N) {K c : Int} {f : Fd} (h : 1 ≤ f.1 → Fp K c f.1 f.2.2.1 f.2.2.2.1 f.2.2.2.2.1) (hK : K ≤ 10000000) (hi why : Int) (hh : hi ≤ 1000000 → hi ≤ K) : W_ref13_Skips N (f, hi, why) = some (skipsM f hi why) := by
  obtain ⟨nx, tp, R, Wn, Lg, a, b⟩ := f
  unfold W_ref13_Skips V_ref13_Skips skipsM
  simp only at h ⊢
  by_cases c1 : nx < 1
  · rw [dT c1, cnd_t, if_pos (.inl c1)]
  rw [dF c1, cnd_f]
  by_cases c2 : 1000000 < hi
  · rw [dT c2, cnd_t, if_pos (.inr c2)]
  rw [dF c2, cnd_f, if_neg (by omega)]
  have h := h (by omega)
  have hh := hh (by omega)
  have hwl := (h.lens hK).1
  have hn0 := h.nx
  obtain ⟨T, hT⟩ : ∃ T, skR hi why (Wn.length + 2) nx R Wn Lg [] = T := ⟨_, rfl⟩
  rw [hT]
  refine loop_G (N := N) (x := ((nx, tp, R, Wn, Lg, a, b), z7, [])) (fun q => q = some (T.1, T.2.1, tp, T.2.2.1, T.2.2.2.1, T.2.2.2.2, if nx ≤ hi then (0, 0) else (a, b)))
    (fun k (v : Fd × Fd × List Sp) => v.2.1 = z7 ∧ Fp K c v.1.1 v.1.2.2.1 v.1.2.2.2.1 v.1.2.2.2.2.1 ∧ v.1.2.1 = tp ∧ v.2.2.length ≤ k ∧ v.1.2.2.2.2.2 = (if k = 0 then (a, b) else (0, 0)) ∧ (k = 0 → v.1.1 = nx) ∧ (0 < k → nx ≤ hi) ∧
      ∃ j, j + k = Wn.length + 2 ∧ (v.1.1 ≤ hi → v.1.2.2.2.1.length + 1 ≤ j) ∧ skR hi why j v.1.1 v.1.2.2.1 v.1.2.2.2.1 v.1.2.2.2.2.1 v.2.2 = T) (Wn.length + 2)
    (fun r : List Sp × Fd × Fd => r.1 = T.1 ∧ r.2.1 = (T.2.1, tp, T.2.2.1, T.2.2.2.1, T.2.2.2.2, if nx ≤ hi then (0, 0) else (a, b))) ⟨rfl, h, rfl, by simp, by simp, fun _ => rfl, fun q => by omega, Wn.length + 2, rfl, fun _ => by simp, hT⟩ (by omega) ?_ (fun k v h => by obtain ⟨j, h1, _⟩ := h.2.2.2.2.2.2.2; omega) ?_
  · rintro ⟨o, f, z⟩ ⟨rfl, rfl⟩; rfl
  · rintro k ⟨⟨n', t', R', W', L', a', b'⟩, z, o⟩ ⟨rfl, hf, rfl, hol, hab, hk0, hk1, j, hj, hw, hq⟩
    simp only at hf hol hab hk0 hk1 hw hq ⊢
    obtain ⟨l1, l2, l3⟩ := hf.lens hK
    have hnx := hf.nx
    by_cases cn : n' ≤ hi
    case neg =>
      right
      rw [dF cn, cnd_f]
      rw [skR_stop cn] at hq
      refine ⟨_, rfl, by rw [← hq], ?_⟩
      try simp only
      rw [hab, ← hq]
      by_cases k0 : k = 0
      · have := hk0 k0
        rw [if_pos k0, if_neg (by omega)]
      · rw [if_neg k0, if_pos (hk1 (by omega))]
    left
    have hni : nx ≤ hi := by
      by_cases k0 : k = 0
      · have := hk0 k0; omega
      · exact hk1 (by omega)
    have hw := hw cn
    obtain ⟨j, rfl⟩ : ∃ i, j = i + 1 := ⟨j - 1, by omega⟩
    unfold skR at hq
    rw [if_pos cn] at hq
    rw [dT cn, cnd_t]
    -- where nothing is ahead
    have far : Wk (hi + 1) (min K (n' + 7)) W' → skR hi why j (hi + 1) R' W' (L' ++ [(2, n', hi, [], why)]) (o ++ [(n', hi)]) = T → (∃ y : Fd × Fd × List Sp, (obind (some (hi, ((n', t', R', W', L', (0 : Int), (0 : Int)) : Fd), z7, o)) fun (b : Int × Fd × Fd × List Sp) => obind (cnd (decide (b.2.1.1 ≤ b.1)) (obind (W_ref13_Skip N (b.2.1.2.2.2.2.1, b.2.1.1, b.1, why)) fun (b_1 : List Ev) => cnd (decide ((List.length b.2.2.2 + List.length [(b.2.1.1, b.1)]) * (16 : Nat) ≤ (140737488355328 : Nat))) (some (((wr .i64 (b.1 + 1), b.2.1.2.1, b.2.1.2.2.1, b.2.1.2.2.2.1, b_1, b.2.1.2.2.2.2.2.1, b.2.1.2.2.2.2.2.2) : Fd), b.2.2.1, b.2.2.2 ++ [(b.2.1.1, b.1)])) none) (some (b.2.1, b.2.2.1, b.2.2.2))) fun (b : Fd × Fd × List Sp) => cnd (decide (b.1.1 ≤ hi)) (obind (W_ref13_Goes N b.1) fun (b_1 : List It × Fd) => some (Sum.inl (b_1.2, b.2.1, b.2.2))) (some (Sum.inl (b.1, b.2.1, b.2.2)))) = some (.inl y : (Fd × Fd × List Sp) ⊕ (List Sp × Fd × Fd)) ∧ y.2.1 = z7 ∧ Fp K c y.1.1 y.1.2.2.1 y.1.2.2.2.1 y.1.2.2.2.2.1 ∧ y.1.2.1 = t' ∧ y.2.2.length ≤ k + 1 ∧ y.1.2.2.2.2.2 = (if k + 1 = 0 then (a, b) else (0, 0)) ∧ (k + 1 = 0 → y.1.1 = nx) ∧ (0 < k + 1 → nx ≤ hi) ∧
      ∃ j, j + (k + 1) = Wn.length + 2 ∧ (y.1.1 ≤ hi → y.1.2.2.2.1.length + 1 ≤ j) ∧ skR hi why j y.1.1 y.1.2.2.1 y.1.2.2.2.1 y.1.2.2.2.2.1 y.2.2 = T) := by
      intro hwk hq
      rw [obind_s]
      try simp only
      rw [dT cn, cnd_t, rSkip_eq N L' n' hi why (by omega), obind_s, cnd_T (by simp only [List.length_cons, List.length_nil]; omega), obind_s, wr_m (by omega) (by omega)]
      try simp only
      rw [dF (by omega), cnd_f]
      exact ⟨_, rfl, rfl, hf.skip cn hh hwk, rfl, by simp only [List.length_append, List.length_cons, List.length_nil]; omega, by rw [if_neg (by omega)], fun q => by omega, fun _ => hni, j, by omega, fun q => by simp only at q; omega, hq⟩
    cases W' with
    | nil =>
      rw [dF (by simp), cnd_f]
      exact far trivial hq
    | cons w r =>
      have hwk := hf.wk
      simp only [List.length_cons] at hw l1
      rw [dT (by simp only [List.length_cons]; omega), cnd_t, First_cons, obind_s]
      simp only at hq
      by_cases cf : w.1 ≤ hi
      case neg =>
        rw [dF cf, cnd_f]
        rw [if_neg cf] at hq
        exact far ⟨by omega, hwk.2⟩ hq
      rw [if_pos cf] at hq
      have hw1 := hwk.1
      rw [dT cf, cnd_t, obind_s, obind_s, wr_m (z := w.1 - 1) (by omega) (by omega)]
      try simp only
      -- a feed that has come to the first one
      have near : ∀ (Lq : List Ev) (oq : List Sp), Fp K c w.1 R' (w :: r) Lq → oq.length ≤ k + 1 → skR hi why j (goM (w :: r) w.1 R' Lq).2.1 (goM (w :: r) w.1 R' Lq).2.2.1 (goM (w :: r) w.1 R' Lq).2.2.2.1 (goM (w :: r) w.1 R' Lq).2.2.2.2 oq = T → (∃ y : Fd × Fd × List Sp, (cnd (decide (w.1 ≤ hi)) (obind (W_ref13_Goes N (w.1, t', R', w :: r, Lq, (0 : Int), (0 : Int))) fun (b_1 : List It × Fd) => some (Sum.inl (b_1.2, z7, oq))) (some (Sum.inl (((w.1, t', R', w :: r, Lq, (0 : Int), (0 : Int)) : Fd), z7, oq)))) = some (.inl y : (Fd × Fd × List Sp) ⊕ (List Sp × Fd × Fd)) ∧ y.2.1 = z7 ∧ Fp K c y.1.1 y.1.2.2.1 y.1.2.2.2.1 y.1.2.2.2.2.1 ∧ y.1.2.1 = t' ∧ y.2.2.length ≤ k + 1 ∧ y.1.2.2.2.2.2 = (if k + 1 = 0 then (a, b) else (0, 0)) ∧ (k + 1 = 0 → y.1.1 = nx) ∧ (0 < k + 1 → nx ≤ hi) ∧
        ∃ j, j + (k + 1) = Wn.length + 2 ∧ (y.1.1 ≤ hi → y.1.2.2.2.1.length + 1 ≤ j) ∧ skR hi why j y.1.1 y.1.2.2.1 y.1.2.2.2.1 y.1.2.2.2.2.1 y.2.2 = T) := by
        intro Lq oq hF hoq hq
        rw [dT cf, cnd_t, rGoes_eq N hN (f := (w.1, t', R', w :: r, Lq, (0 : Int), (0 : Int))) hF hK, obind_s]
        obtain ⟨g1, g2, g3, g4, _⟩ := goM_ok _ _ _ _ hF
        obtain ⟨g5, g6⟩ := goM_head (r := r) (R := R') (L := Lq) (rfl : w.1 = w.1)
        refine ⟨_, rfl, rfl, g1, rfl, hoq, ?_, fun q => by omega, fun _ => hni, j, by omega, fun q => by simp only [goesM]; omega, hq⟩
        simp only [goesM]
        rw [if_neg g5, if_neg (by omega)]
      by_cases cg : n' ≤ w.1 - 1
      · rw [if_pos (show n' < w.1 by omega)] at hq
        rw [dT cg, cnd_t, rSkip_eq N L' n' (w.1 - 1) why (by omega), obind_s, cnd_T (by simp only [List.length_cons, List.length_nil]; omega), obind_s, wr_m (by omega) (by omega)]
        try simp only
        rw [show w.1 - 1 + 1 = w.1 by omega]
        refine near (L' ++ [(2, n', w.1 - 1, [], why)]) (o ++ [(n', w.1 - 1)]) ?_ (by simp only [List.length_append, List.length_cons, List.length_nil]; omega) hq
        have := hf.skip (m := w.1 - 1) (why := why) (by omega) (by omega) ⟨by omega, hwk.2⟩
        rwa [show w.1 - 1 + 1 = w.1 by omega] at this
      · rw [if_neg (show ¬ n' < w.1 by omega)] at hq
        have e : n' = w.1 := by omega
        subst e
        rw [dF cg, cnd_f, obind_s]
        exact near L' o hf (by omega) hq
theorem rKnows_eq (N : Nat) (f : Fd) (t : Int) : W_ref13_Knows N (f, t) = some (knowsM f t) := by
  obtain ⟨nx, tp, R, Wn, Lg, a, b⟩ := f
  unfold W_ref13_Knows V_ref13_Knows knowsM
  try simp only
  by_cases c1 : 0 < nx
  · rw [dT c1, cnd_t]
    by_cases c2 : t ≤ 1000000
    · rw [dT c2, cnd_t, if_pos ⟨c1, c2⟩]
    · rw [dF c2, cnd_f, if_neg (fun q => c2 q.2)]
  · rw [dF c1, cnd_f, if_neg (fun q => c1 q.1)]
theorem rBegin_eq (N : Nat) (f : Fd) (n : Int) (hw : 0 < f.1 → knowsM f (wr .i64 (n - 1)) = knowsM f (n - 1)) : W_ref13_Begin N (f, n) = some (beginM f n) := by
  have hk := rKnows_eq N f (wr .i64 (n - 1))
  obtain ⟨nx, tp, R, Wn, Lg, a, b⟩ := f
  unfold W_ref13_Begin V_ref13_Begin beginM
  simp only at hw ⊢
  by_cases c1 : 0 < nx
  · rw [dT c1, cnd_t, if_pos c1, hk, obind_s, hw c1]
  · rw [dF c1, cnd_f, if_neg c1]
    by_cases c2 : 1 ≤ n
    · rw [dT c2, cnd_t]
      by_cases c3 : n ≤ 1000000
      · rw [dT c3, cnd_t, if_pos ⟨c2, c3⟩]
      · rw [dF c3, cnd_f, if_neg (fun q => c3 q.2)]
    · rw [dF c2, cnd_f, if_neg (fun q => c2 q.1)]
theorem rWants_eq (N : Nat) {K c : Int} {f : Fd} (h0 : 0 ≤ f.1) (h : 1 ≤ f.1 → Fp K c f.1 f.2.2.1 f.2.2.2.1 f.2.2.2.2.1) (hz : f.1 = 0 → f.2.2.2.1 = []) (hK : K ≤ 10000000) : W_ref13_Wants N f = some (wantsM f) := by
  obtain ⟨nx, tp, R, Wn, Lg, a, b⟩ := f
  unfold W_ref13_Wants V_ref13_Wants wantsM
  simp only at h hz h0 ⊢
  have key : ∀ hi : Int, (obind (some (hi, ((nx, tp, R, Wn, Lg, a, b) : Fd), (0 : Int), (0 : Int))) fun (b : Int × Fd × Int × Int) => cnd (decide (b.2.1.1 = 0)) (some (false, (0 : Int), (0 : Int))) (cnd (decide (b.1 < b.2.1.1)) (some (false, (0 : Int), (0 : Int))) (some (true, b.2.1.1, b.1)))) = some (if nx = 0 ∨ hi < nx then (false, 0, 0) else (true, nx, hi)) := by
    intro hi
    rw [obind_s]
    try simp only
    by_cases c0 : nx = 0
    · rw [dT c0, cnd_t, if_pos (.inl c0)]
    rw [dF c0, cnd_f]
    by_cases q : hi < nx
    · rw [dT q, cnd_t, if_pos (.inr q)]
    · rw [dF q, cnd_f, if_neg (by omega)]
  cases Wn with
  | nil =>
    rw [dF (by simp), cnd_f]
    exact key tp
  | cons w r =>
    have hn : 1 ≤ nx := by
      have : nx ≠ 0 := fun q => by have := hz q; cases this
      omega
    have hwk := (h hn).wk
    have hnx := (h hn).nx
    have hw1 := hwk.1; have hw2 := hwk.2.1
    rw [dT (by simp only [List.length_cons]; omega), cnd_t, First_cons, obind_s, wr_m (by omega) (by omega)]
    exact key (w.1 - 1)
theorem rNow_eq (N : Nat) (a : Int × Int) (now : Int) : W_ref1_Now N (a, now) = some (nowM a now) := by
  obtain ⟨a, b⟩ := a
  unfold W_ref1_Now V_ref1_Now nowM
  try simp only
  by_cases q : a = 0
  · rw [dT q, cnd_t, if_pos q]
  · rw [dF q, cnd_f, if_neg q]
theorem rMaySpan_eq (N : Nat) (lo hi : Int) : W_ref1_MaySpan N (lo, hi) = some (decide (1 ≤ lo ∧ lo ≤ hi ∧ hi ≤ 1000000)) := by
  unfold W_ref1_MaySpan V_ref1_MaySpan
  try simp only
  by_cases q1 : 1 ≤ lo
  · rw [dT q1, cnd_t, obind_s]
    try simp only
    by_cases q2 : lo ≤ hi
    · rw [dT q2, cnd_t]; simp [q1, q2]
    · rw [dF q2, cnd_f, dF (fun q => q2 q.2.1)]
  · rw [dF q1, cnd_f, obind_s]
    try simp only
    rw [cnd_f, dF (fun q => q1 q.1)]
theorem rTried_eq (N : Nat) (hN : 2000 ≤ N) (a : Int × Int) (now : Int) (h : 0 ≤ a.1) (h2 : a.1 ≤ 1000000) (hn : -100000000000000 ≤ now) (hn2 : now ≤ 100000000000000) : W_ref1_Tried N (a, now) = some (triedM a now) := by
  obtain ⟨a, b⟩ := a
  unfold W_ref1_Tried V_ref1_Tried triedM
  simp only at h h2 ⊢
  refine loop_G (N := N) (fun q => q = some (a + 1, now + 2 * 2 ^ (min a.toNat 3))) (fun k (v : Int × Int × (Int × Int) × Int × Int) => v.2.2.1 = (a, b) ∧ v.2.1 = k ∧ (k : Int) ≤ a ∧ k ≤ 3 ∧ v.1 = 2 * 2 ^ k) 3 (fun r : Int × (Int × Int) × Int × Int => r.2.1 = (a, b) ∧ r.1 = 2 * 2 ^ (min a.toNat 3)) ⟨rfl, rfl, by omega, by omega, by simp⟩ (by omega) ?_ (fun k v h => h.2.2.2.1) ?_
  · rintro ⟨u, ⟨x, y⟩, z1, z2⟩ ⟨e, e2⟩
    cases e
    simp only at e2 ⊢
    have hp : (2 : Int) * 2 ^ (min a.toNat 3) ≤ 16 ∧ 0 ≤ (2 : Int) * 2 ^ (min a.toNat 3) := by
      have hm : min a.toNat 3 ≤ 3 := by omega
      generalize min a.toNat 3 = m at hm ⊢
      have : m = 0 ∨ m = 1 ∨ m = 2 ∨ m = 3 := by omega
      rcases this with rfl | rfl | rfl | rfl <;> decide
    rw [e2, wr_m (by omega) (by omega), wr_m (by omega) (by omega)]
  · rintro k ⟨u, i, ⟨x, y⟩, z1, z2⟩ ⟨e, e2, hk, hk3, e3⟩
    cases e
    simp only at e2 e3 ⊢
    subst e2 e3
    by_cases q1 : (k : Int) < a
    · rw [dT q1, cnd_t]
      by_cases q2 : (k : Int) < 3
      · left
        have hk4 : k = 0 ∨ k = 1 ∨ k = 2 := by omega
        rw [dT q2, cnd_t]
        refine ⟨_, rfl, rfl, by simp only; rw [wr_m (by omega) (by omega)]; omega, by omega, by omega, ?_⟩
        rcases hk4 with rfl | rfl | rfl <;> (simp only; rw [wr_m (by decide) (by decide)]; decide)
      · right
        rw [dF q2, cnd_f]
        exact ⟨_, rfl, rfl, by simp only; rw [show min a.toNat 3 = k by omega]⟩
    · right
      rw [dF q1, cnd_f]
      exact ⟨_, rfl, rfl, by simp only; rw [show min a.toNat 3 = k by omega]⟩
/-- Such a feed as may be. -/
structure FI (K c : Int) (f : Fd) : Prop where
  n0 : 0 ≤ f.1
  tp : 0 ≤ f.2.1 ∧ f.2.1 ≤ K
  p : 1 ≤ f.1 → Fp K c f.1 f.2.2.1 f.2.2.2.1 f.2.2.2.2.1
  ask : 0 ≤ f.2.2.2.2.2.1 ∧ f.2.2.2.2.2.1 ≤ 3
  z : f.1 = 0 → f.2.2.1 = [] ∧ f.2.2.2.1 = [] ∧ f.2.2.2.2.1 = []
theorem FI.knows {K c : Int} {f : Fd} (h : FI K c f) (t : Int) (ht : t ≤ 1000000 → t ≤ K) : FI K c (knowsM f t) ∧ (knowsM f t).1 = f.1 := by
  unfold knowsM
  split
  · rename_i q
    have := h.tp
    have := ht q.2
    exact ⟨⟨h.n0, ⟨by simp only; omega, by simp only; omega⟩, h.p, h.ask, h.z⟩, rfl⟩
  · exact ⟨h, rfl⟩
theorem FI.goes {K c : Int} {f : Fd} (h : FI K c f) (h1 : 1 ≤ f.1) : FI K c (goesM f).2 ∧ f.1 ≤ (goesM f).2.1 ∧ Wk ((goesM f).2.1 + 1) (min K ((goesM f).2.1 + 7)) (goesM f).2.2.2.2.1 := by
  obtain ⟨g1, g2, g3, g4, g5⟩ := goM_ok _ _ _ _ (h.p h1)
  unfold goesM
  refine ⟨⟨by simp only; omega, h.tp, fun _ => g1, ?_, fun q => by simp only at q; omega⟩, by simp only; omega, g2⟩
  try simp only
  split
  · exact h.ask
  · exact ⟨by simp, by simp⟩
theorem FI.skips {K c : Int} {f : Fd} (h : FI K c f) (h1 : 1 ≤ f.1) (hi why : Int) (hh : hi ≤ 1000000 → hi ≤ K) : FI K c (skipsM f hi why).2 ∧ f.1 ≤ (skipsM f hi why).2.1 ∧ (hi ≤ 1000000 → hi < (skipsM f hi why).2.1) := by
  unfold skipsM
  by_cases c2 : 1000000 < hi
  · rw [if_pos (.inr c2)]; exact ⟨h, by simp only; omega, fun q => by omega⟩
  rw [if_neg (by omega)]
  obtain ⟨g1, g2, g3⟩ := skR_ok (why := why) (hh (by omega)) (f.2.2.2.1.length + 2) _ _ _ _ [] (h.p h1) (fun _ => by omega)
  refine ⟨⟨by simp only; omega, h.tp, fun _ => g1, ?_, fun q => by simp only at q; omega⟩, by simp only; omega, fun _ => by simp only; omega⟩
  try simp only
  split
  · exact ⟨by simp, by simp⟩
  · exact h.ask
theorem rNotes_eq (N : Nat) (hN : 2000 ≤ N) {K c : Int} {f : Fd} (h : FI K c f) (hK : K ≤ 10000000) (lo hi : Int) (hh : hi ≤ 1000000 → hi ≤ K) : W_ref13_Notes N (f, lo, hi) = some (notesM f lo hi) := by
  obtain ⟨k1, k2⟩ := h.knows hi hh
  have hkn := rKnows_eq N f hi
  have h0 := h.n0
  obtain ⟨nx, tp, R, Wn, Lg, a, b⟩ := f
  unfold W_ref13_Notes V_ref13_Notes notesM
  simp only at k2 h0 ⊢
  by_cases c0 : nx = 0
  · rw [dT c0, cnd_t, if_pos (.inl c0)]
  rw [dF c0, cnd_f, rMaySpan_eq, obind_s]
  by_cases cs : 1 ≤ lo ∧ lo ≤ hi ∧ hi ≤ 1000000
  case neg => rw [dF cs, Bool.not_false, cnd_t, if_pos (by omega)]
  rw [dT cs, Bool.not_true, cnd_f, if_neg (by omega), hkn, obind_s]
  obtain ⟨g, hg⟩ : ∃ g, knowsM (nx, tp, R, Wn, Lg, a, b) hi = g := ⟨_, rfl⟩
  rw [hg] at k1 k2 ⊢
  rw [← k2]
  by_cases c1 : g.1 < lo
  · rw [dT c1, cnd_t, if_pos (.inl c1)]
  rw [dF c1, cnd_f]
  by_cases c2 : hi < g.1
  · rw [dT c2, cnd_t, if_pos (.inr c2)]
  rw [dF c2, cnd_f, if_neg (by omega)]
  have hg1 : 1 ≤ g.1 := by omega
  obtain ⟨s1, s2, s3⟩ := k1.skips hg1 hi 1 hh
  have e1 := rSkips_eq N hN k1.p hK hi 1 hh
  have e2 := rGoes_eq N hN (s1.p (by omega)) hK
  rw [e1, obind_s]
  show obind (W_ref13_Goes N (skipsM g hi 1).2) _ = _
  rw [e2, obind_s]
theorem rTick_eq (N : Nat) (hN : 2000 ≤ N) {K c : Int} {f : Fd} (h : FI K c f) (hK : K ≤ 1000000) (now : Int) (hn : -100000000000000 ≤ now) (hn2 : now ≤ 100000000000000) : W_ref13_Tick N (f, now) = some (tickM f now) := by
  have hw := rWants_eq N h.n0 h.p (fun q => (h.z q).2.1) (by omega)
  have hwk : (wantsM f).1 = true → 1 ≤ f.1 ∧ (wantsM f).2.2 ≤ K := by
    have h0 := h.n0; have hp := h.p; have htp := h.tp
    obtain ⟨nx, tp, R, Wn, Lg, a, b⟩ := f
    unfold wantsM
    simp only at h0 hp htp ⊢
    cases Wn with
    | nil =>
      try simp only
      split
      · intro q; cases q
      · intro _; simp only; omega
    | cons w r =>
      try simp only
      split
      · intro q; cases q
      · intro _
        have := (hp (by omega)).wk.2.1
        simp only; omega
  have hnow := rNow_eq N f.2.2.2.2.2 now
  have htr := rTried_eq N hN f.2.2.2.2.2 now h.ask.1 (by have := h.ask; omega) hn hn2
  have hsk := fun hi hh => rSkips_eq N hN (hi := hi) (why := 2) h.p (by omega) hh
  have hfi := fun h1 hi hh => h.skips h1 hi 2 hh
  obtain ⟨nx, tp, R, Wn, Lg, a, b⟩ := f
  unfold W_ref13_Tick V_ref13_Tick tickM
  simp only at hnow htr hwk hfi ⊢
  rw [hw, obind_s]
  obtain ⟨s, hs⟩ : ∃ s, wantsM (nx, tp, R, Wn, Lg, a, b) = s := ⟨_, rfl⟩
  rw [hs] at hwk ⊢
  obtain ⟨q, s1, s2⟩ := s
  simp only at hwk ⊢
  cases q with
  | false => rw [Bool.not_false, cnd_t, if_pos (.inl rfl)]
  | true =>
    obtain ⟨w1, w2⟩ := hwk rfl
    rw [Bool.not_true, cnd_f, hnow, obind_s]
    cases hq : nowM (a, b) now with
    | false => rw [Bool.not_false, cnd_t, if_pos (.inr rfl)]
    | true =>
      rw [Bool.not_true, cnd_f, if_neg (by simp)]
      by_cases c3 : 3 ≤ a
      · rw [dT c3, cnd_t, if_pos c3, hsk s2 (fun _ => w2), obind_s]
        obtain ⟨g1, g2, _⟩ := hfi w1 s2 (fun _ => w2)
        have e2 := rGoes_eq N hN (g1.p (by omega)) (by omega)
        show obind (W_ref13_Goes N (skipsM (nx, tp, R, Wn, Lg, a, b) s2 2).2) _ = _
        rw [e2, obind_s]
      · rw [dF c3, cnd_f, if_neg c3, htr, obind_s]
theorem wFirst_nil (N : Nat) : W_win_First N [] = some 0 := by
  unfold W_win_First V_win_First
  rw [dT (by simp), cnd_t]
theorem wFirst_cons (N : Nat) (w : It) (r : List It) : W_win_First N (w :: r) = some w.1 := by
  unfold W_win_First V_win_First
  simp only [List.length_cons]
  rw [dF (by omega), cnd_f, dT (by omega), dT (by omega), Bool.and_self, cnd_t]
  rfl
theorem nFirst_nil (N : Nat) (n t : Int) (R : List It) (L : List Ev) (a b : Int) (h : 0 ≤ n) : W_nak_first N (n, t, R, [], L, a, b) = some (.inr ()) := by
  unfold W_nak_first V_nak_first
  try simp only
  rw [wFirst_nil, obind_s]
  by_cases q : n ≤ 0
  · rw [dT q, cnd_t, dF (by omega), cnd_f]
  · rw [dF q, cnd_f]
theorem nFirst_cons (N : Nat) (n t : Int) (R : List It) (w : It) (r : List It) (L : List Ev) (a b : Int) (h : 1 ≤ n) (h2 : n ≤ w.1) : W_nak_first N (n, t, R, w :: r, L, a, b) = some (.inl w.1) := by
  unfold W_nak_first V_nak_first
  try simp only
  rw [wFirst_cons, obind_s, dT h2, cnd_t, dT (by omega), cnd_t]
theorem pWants_eq (N : Nat) {K c : Int} {f : Fd} (h0 : 0 ≤ f.1) (h : 1 ≤ f.1 → Fp K c f.1 f.2.2.1 f.2.2.2.1 f.2.2.2.2.1) (hz : f.1 = 0 → f.2.2.2.1 = []) (hK : K ≤ 10000000) : W_nak_Wants N f = some (wantsM f) := by
  obtain ⟨nx, tp, R, Wn, Lg, a, b⟩ := f
  unfold W_nak_Wants V_nak_Wants wantsM
  simp only at h hz h0 ⊢
  have key : ∀ hi : Int, (obind (some (((nx, tp, R, Wn, Lg, a, b) : Fd), ((0 : Int), (0 : Int)), nx, hi)) fun (b : Fd × (Int × Int) × Int × Int) => cnd (decide (b.1.1 < 1)) (some (false, (0 : Int), (0 : Int))) (cnd (decide (b.2.2.2 < b.2.2.1)) (some (false, (0 : Int), (0 : Int))) (some (true, b.2.2.1, b.2.2.2)))) = some (if nx = 0 ∨ hi < nx then (false, 0, 0) else (true, nx, hi)) := by
    intro hi
    rw [obind_s]
    try simp only
    by_cases c0 : nx = 0
    · rw [dT (by omega), cnd_t, if_pos (.inl c0)]
    rw [dF (by omega), cnd_f]
    by_cases q : hi < nx
    · rw [dT q, cnd_t, if_pos (.inr q)]
    · rw [dF q, cnd_f, if_neg (by omega)]
  cases Wn with
  | nil =>
    rw [nFirst_nil N _ _ _ _ _ _ h0, obind_s, selim_r]
    exact key tp
  | cons w r =>
    have hn : 1 ≤ nx := by
      have : nx ≠ 0 := fun q => by have := hz q; cases this
      omega
    have hwk := (h hn).wk
    have hnx := (h hn).nx
    have hw1 := hwk.1; have hw2 := hwk.2.1
    rw [nFirst_cons N _ _ _ _ _ _ _ _ hn hw1, obind_s, selim_l, wr_m (by omega) (by omega)]
    exact key (w.1 - 1)
theorem wants_le {K c : Int} {f : Fd} (h : FI K c f) (hw : (wantsM f).1 = true) : 1 ≤ f.1 ∧ (wantsM f).2.1 = f.1 ∧ f.1 ≤ (wantsM f).2.2 ∧ (wantsM f).2.2 ≤ K := by
  have h0 := h.n0; have hp := h.p; have htp := h.tp
  obtain ⟨nx, tp, R, Wn, Lg, a, b⟩ := f
  unfold wantsM at hw ⊢
  simp only at h0 hp htp hw ⊢
  cases Wn with
  | nil =>
    simp only at hw ⊢
    split at hw
    · cases hw
    · rename_i q
      rw [if_neg q]; exact ⟨by omega, rfl, by simp only; omega, by simp only; omega⟩
  | cons w r =>
    simp only at hw ⊢
    split at hw
    · cases hw
    · rename_i q
      rw [if_neg q]
      have := (hp (by omega)).wk.2.1
      exact ⟨by omega, rfl, by simp only; omega, by simp only; omega⟩
/-- Where an item has its place. -/
theorem Wk.drop : ∀ {l : List It} {n K : Int}, Wk n K l → ∀ k, Wk n K (l.drop k)
  | l, _, _, h, 0 => by simpa using h
  | [], _, _, _, k + 1 => by simp; trivial
  | w :: r, n, K, h, k + 1 => (h.2.2.drop k).mono (by have := h.1; omega) (Int.le_refl _)
theorem rGet_eq (N : Nat) (l : List It) (s : Int) (hN : 2000 ≤ N) (hl : l.length ≤ 1000) : W_ref13_Get N (l, s) = some (getF l s) := by
  unfold W_ref13_Get V_ref13_Get
  try simp only
  refine loop_G (N := N) (fun o => o = some (getF l s)) (fun k (v : Int) => v = k ∧ k ≤ l.length ∧ getF (l.drop k) s = getF l s) l.length (fun r : PUnit ⊕ List UInt8 × Bool => (r = .inl () ∧ getF l s = ([], false)) ∨ r = .inr (getF l s)) ⟨rfl, by omega, rfl⟩ (by omega) ?_ (fun k v h => h.2.1) ?_
  · rintro r (⟨rfl, h⟩ | rfl)
    · rw [selim_l, h]
    · rw [selim_r]
  · rintro k v ⟨e, hk, hg⟩
    subst e
    by_cases c : (k : Int) < l.length
    case neg =>
      right
      rw [dF c, cnd_f]
      rw [List.drop_eq_nil_of_le (by omega)] at hg
      exact ⟨_, rfl, .inl ⟨rfl, hg.symm⟩⟩
    rw [drop_consI (by omega)] at hg
    simp only [getF] at hg
    rw [dT c, cnd_t, dT (by omega), Bool.and_self, cnd_t, Int.toNat_natCast]
    by_cases c2 : (l.getD k iD).1 = s
    · right
      rw [if_pos c2] at hg
      rw [dT c2, cnd_t, cnd_t]
      exact ⟨_, rfl, .inr (by rw [← hg])⟩
    · left
      rw [if_neg c2] at hg
      rw [dF c2, cnd_f, wr_m (by omega) (by omega)]
      exact ⟨_, rfl, by omega, by omega, hg⟩
theorem rPut_eq (N : Nat) (hN : 2000 ≤ N) (l : List It) (n : Int) (x : It) (hl : l.length ≤ 500) (hn : 0 ≤ n) (hn2 : n ≤ 10000001) (hx : 0 ≤ x.1) (hx2 : x.1 ≤ 10000000) : W_ref13_PutWin N (l, n, x) = some (putM l n x) := by
  unfold W_ref13_PutWin V_ref13_PutWin putM
  try simp only
  rw [rGet_eq N l x.1 hN (by omega), obind_s]
  by_cases c1 : x.1 < n
  · rw [dT c1, cnd_t, if_pos (.inl c1)]
  rw [dF c1, cnd_f, wr_m (by omega) (by omega)]
  by_cases c2 : 8 ≤ x.1 - n
  · rw [dT c2, cnd_t, if_pos (.inr (.inl c2))]
  rw [dF c2, cnd_f]
  cases hg : (getF l x.1).2 with
  | true => rw [cnd_t, if_pos (.inr (.inr rfl))]
  | false =>
    rw [cnd_f, if_neg (by rintro (q | q | q) <;> first | omega | cases q)]
    have hIl := insW_len x l
    refine loop_G (N := N) (fun o => o = some (insW x l, true)) (fun k (v : Bool × Int × It × List It) => v.2.1 = k ∧ k ≤ l.length ∧ v.2.2.1 = x ∧ ((v.1 = false ∧ v.2.2.2 ++ insW x (l.drop k) = insW x l) ∨ (v.1 = true ∧ v.2.2.2 ++ l.drop k = insW x l))) l.length
      (fun r : Bool × It × List It => r.2.1 = x ∧ ((r.1 = false ∧ r.2.2 ++ [x] = insW x l) ∨ (r.1 = true ∧ r.2.2 = insW x l))) ⟨rfl, by omega, rfl, .inl ⟨rfl, rfl⟩⟩ (by omega) ?_ (fun k v h => h.2.1) ?_
    · rintro ⟨p, y, o⟩ ⟨rfl, h⟩
      simp only at h ⊢
      rcases h with ⟨rfl, h⟩ | ⟨rfl, rfl⟩
      · have := congrArg List.length h
        rw [hIl, List.length_append] at this
        simp only [List.length_cons, List.length_nil] at this
        rw [Bool.not_false, cnd_t, cnd_T (by simp only [List.length_cons, List.length_nil]; omega)]
        rw [← h]
      · rw [Bool.not_true, cnd_f]
    · rintro k ⟨p, i, y, o⟩ ⟨e1, hk, rfl, h⟩
      simp only at e1 h ⊢
      subst e1
      by_cases c : (k : Int) < l.length
      case neg =>
        right
        rw [dF c, cnd_f]
        rw [List.drop_eq_nil_of_le (by omega)] at h
        refine ⟨_, rfl, rfl, ?_⟩
        rcases h with ⟨rfl, h⟩ | ⟨rfl, h⟩
        · exact .inl ⟨rfl, h⟩
        · rw [List.append_nil] at h; exact .inr ⟨rfl, h⟩
      left
      rw [drop_consI (by omega)] at h
      have hol : o.length ≤ l.length + 1 := by
        rcases h with ⟨_, h⟩ | ⟨_, h⟩ <;>
        · have := congrArg List.length h
          rw [hIl, List.length_append] at this
          omega
      rw [dT c, cnd_t, dT (show (0 : Int) ≤ (k : Int) by omega), Bool.and_self, cnd_t, Int.toNat_natCast, wr_m (by omega) (by omega)]
      rcases h with ⟨rfl, h⟩ | ⟨rfl, h⟩
      · rw [Bool.not_false, cnd_t]
        simp only [insW] at h
        by_cases c3 : y.1 < (l.getD k iD).1
        · rw [if_pos c3] at h
          rw [dT c3, cnd_t, cnd_T (by simp only [List.length_cons, List.length_nil]; omega), obind_s]
          simp only [cnd_t]
          refine ⟨_, cnd_T (by simp only [List.length_append, List.length_cons, List.length_nil]; omega), by simp only; omega, by omega, rfl, .inr ⟨rfl, ?_⟩⟩
          simp only [List.append_assoc]
          exact h
        · rw [if_neg c3] at h
          rw [dF c3, cnd_f, obind_s]
          simp only [cnd_t]
          refine ⟨_, cnd_T (by omega), by simp only; omega, by omega, rfl, .inl ⟨rfl, ?_⟩⟩
          simp only [List.append_assoc]
          exact h
      · rw [Bool.not_true, cnd_f, obind_s]
        simp only [cnd_t]
        refine ⟨_, cnd_T (by omega), by simp only; omega, by omega, rfl, .inr ⟨rfl, ?_⟩⟩
        simp only [List.append_assoc]
        exact h
theorem FI.put {K c : Int} {f : Fd} (h : FI K c f) (h1 : 1 ≤ f.1) (x : It) (hx : x.1 ≤ K) : FI K c (f.1, f.2.1, f.2.2.1, (putM f.2.2.2.1 f.1 x).1, f.2.2.2.2) := by
  have hp := h.p h1
  refine ⟨h.n0, h.tp, fun _ => ⟨hp.nx, hp.rk, hp.rl, ?_, hp.ch, hp.c0⟩, h.ask, fun q => by simp only at q; omega⟩
  try simp only
  unfold putM
  by_cases c1 : x.1 < f.1 ∨ 8 ≤ x.1 - f.1 ∨ (getF f.2.2.2.1 x.1).2 = true
  · rw [if_pos c1]; exact hp.wk
  · rw [if_neg c1]
    exact hp.wk.ins (by omega) (by omega) (by have : ¬ (getF f.2.2.2.1 x.1).2 = true := fun q => c1 (.inr (.inr q)); simpa using this)
theorem rComes_eq (N : Nat) (hN : 2000 ≤ N) {K c : Int} {f : Fd} (h : FI K c f) (hK : K ≤ 10000000) (x : It) (hx : x.1 ≤ 1000000 → x.1 ≤ K) : W_ref13_Comes N (f, x) = some (comesM f x) := by
  obtain ⟨k1, k2⟩ := h.knows x.1 hx
  have hkn := rKnows_eq N f x.1
  have h0 := h.n0
  obtain ⟨nx, tp, R, Wn, Lg, a, b⟩ := f
  unfold W_ref13_Comes V_ref13_Comes comesM
  simp only at k2 h0 ⊢
  by_cases c0 : nx = 0
  · rw [dT c0, cnd_t, obind_s]
    simp only [cnd_t, obind_s]
    rw [if_pos (.inl c0)]
  rw [dF c0, cnd_f, obind_s]
  try simp only
  by_cases c1 : x.1 < 1
  · rw [dT c1, cnd_t, obind_s]
    simp only [cnd_t]
    rw [if_pos (.inr (.inl c1))]
  rw [dF c1, cnd_f, obind_s]
  try simp only
  by_cases c2 : 1000000 < x.1
  · rw [dT c2, cnd_t, if_pos (.inr (.inr (.inl c2)))]
  rw [dF c2, cnd_f]
  by_cases c3 : (12 : Int) < x.2.length
  · rw [dT c3, cnd_t, if_pos (.inr (.inr (.inr c3)))]
  rw [dF c3, cnd_f, if_neg (by omega), hkn, obind_s]
  obtain ⟨g, hg⟩ : ∃ g, knowsM (nx, tp, R, Wn, Lg, a, b) x.1 = g := ⟨_, rfl⟩
  rw [hg] at k1 k2 ⊢
  have hg1 : 1 ≤ g.1 := by omega
  have hp := k1.p hg1
  have hn := hp.nx
  have hl := hp.lens hK
  have e1 := rPut_eq N hN g.2.2.2.1 g.1 x (by omega) (by omega) (by omega) (by omega) (by omega)
  have hF := k1.put hg1 x (hx (by omega))
  have e2 := rGoes_eq N hN (hF.p hg1) hK
  show obind (W_ref13_PutWin N (g.2.2.2.1, g.1, x)) _ = _
  rw [e1, obind_s]
  show obind (W_ref13_Goes N (g.1, g.2.1, g.2.2.1, (putM g.2.2.2.1 g.1 x).1, g.2.2.2.2)) _ = _
  rw [e2, obind_s]
theorem FI.notes {K c : Int} {f : Fd} (h : FI K c f) (lo hi : Int) (hh : hi ≤ 1000000 → hi ≤ K) : FI K c (notesM f lo hi) := by
  unfold notesM
  split
  · exact h
  rename_i q
  have hg := h.knows hi hh
  have h0 := h.n0
  split
  · exact hg.1
  · rename_i q2
    obtain ⟨a, b, _⟩ := hg.1.skips (by omega) hi 1 hh
    exact (a.goes (by omega)).1
theorem FI.comes {K c : Int} {f : Fd} (h : FI K c f) (x : It) (hx : x.1 ≤ 1000000 → x.1 ≤ K) : FI K c (comesM f x) := by
  unfold comesM
  split
  · exact h
  rename_i q
  have hg := h.knows x.1 hx
  have h0 := h.n0
  exact ((hg.1.put (by omega) x (hx (by omega))).goes (by simp only; omega)).1
theorem FI.tick {K c : Int} {f : Fd} (h : FI K c f) (now : Int) : FI K c (tickM f now).2.1 := by
  unfold tickM
  try simp only
  split
  · exact h
  rename_i q
  obtain ⟨w1, w2, w3, w4⟩ := wants_le h (by cases hq : (wantsM f).1 with | true => rfl | false => exact absurd (.inl hq) q)
  split
  · obtain ⟨a, b, _⟩ := h.skips w1 (wantsM f).2.2 2 (fun _ => w4)
    exact (a.goes (by omega)).1
  · have ha := h.ask
    exact ⟨h.n0, h.tp, h.p, ⟨by simp only [triedM]; omega, by simp only [triedM]; omega⟩, h.z⟩
/-- A feed that has gone on. -/
def Le (f g : Fd) : Prop := f.1 ≤ g.1 ∧ f.2.1 ≤ g.2.1 ∧ ∃ e, g.2.2.2.2.1 = f.2.2.2.2.1 ++ e
theorem Le.refl (f : Fd) : Le f f := ⟨Int.le_refl _, Int.le_refl _, [], by simp⟩
theorem Le.trans {f g h : Fd} (a : Le f g) (b : Le g h) : Le f h := by
  obtain ⟨a1, a2, e1, a3⟩ := a
  obtain ⟨b1, b2, e2, b3⟩ := b
  exact ⟨by omega, by omega, e1 ++ e2, by rw [b3, a3, List.append_assoc]⟩
theorem knows_Le (f : Fd) (t : Int) : Le f (knowsM f t) := by
  unfold knowsM
  split
  · exact ⟨Int.le_refl _, by simp only; omega, [], by simp⟩
  · exact Le.refl f
theorem goM_pre : ∀ (W : List It) (n : Int) (R : List It) (L : List Ev), n ≤ (goM W n R L).2.1 ∧ ∃ e, (goM W n R L).2.2.2.2 = L ++ e
  | [], n, R, L => ⟨Int.le_refl _, [], by simp [goM]⟩
  | w :: r, n, R, L => by
    by_cases c : w.1 = n
    · subst c
      rw [goM_eq]
      obtain ⟨a, e, b⟩ := goM_pre r (w.1 + 1) (addR R w) (L ++ [(1, w.1, w.1, w.2, 0)])
      exact ⟨by simp only; omega, (1, w.1, w.1, w.2, 0) :: e, by simp only; rw [b, List.append_assoc]; rfl⟩
    · rw [goM_ne c]; exact ⟨Int.le_refl _, [], by simp⟩
theorem goes_Le (f : Fd) : Le f (goesM f).2 := by
  obtain ⟨a, e, b⟩ := goM_pre f.2.2.2.1 f.1 f.2.2.1 f.2.2.2.2.1
  exact ⟨a, Int.le_refl _, e, b⟩
theorem skR_pre (hi why : Int) : ∀ (j : Nat) (n : Int) (R W : List It) (L : List Ev) (o : List Sp), n ≤ (skR hi why j n R W L o).2.1 ∧ ∃ e, (skR hi why j n R W L o).2.2.2.2 = L ++ e
  | 0, n, R, W, L, o => ⟨Int.le_refl _, [], by simp [skR]⟩
  | j + 1, n, R, W, L, o => by
    unfold skR
    split
    case isFalse => exact ⟨Int.le_refl _, [], by simp⟩
    rename_i c
    cases W with
    | nil =>
      obtain ⟨a, e, b⟩ := skR_pre hi why j (hi + 1) R [] (L ++ [(2, n, hi, [], why)]) (o ++ [(n, hi)])
      exact ⟨by simp only; omega, _, by simp only; rw [b, List.append_assoc]⟩
    | cons w r =>
      try simp only
      split
      · split
        · obtain ⟨a1, e1, b1⟩ := goM_pre (w :: r) w.1 R (L ++ [(2, n, w.1 - 1, [], why)])
          obtain ⟨a, e, b⟩ := skR_pre hi why j (goM (w :: r) w.1 R (L ++ [(2, n, w.1 - 1, [], why)])).2.1 (goM (w :: r) w.1 R (L ++ [(2, n, w.1 - 1, [], why)])).2.2.1 (goM (w :: r) w.1 R (L ++ [(2, n, w.1 - 1, [], why)])).2.2.2.1 (goM (w :: r) w.1 R (L ++ [(2, n, w.1 - 1, [], why)])).2.2.2.2 (o ++ [(n, w.1 - 1)])
          exact ⟨by omega, _, by rw [b, b1, List.append_assoc, List.append_assoc]⟩
        · obtain ⟨a1, e1, b1⟩ := goM_pre (w :: r) n R L
          obtain ⟨a, e, b⟩ := skR_pre hi why j (goM (w :: r) n R L).2.1 (goM (w :: r) n R L).2.2.1 (goM (w :: r) n R L).2.2.2.1 (goM (w :: r) n R L).2.2.2.2 o
          exact ⟨by omega, _, by rw [b, b1, List.append_assoc]⟩
      · obtain ⟨a, e, b⟩ := skR_pre hi why j (hi + 1) R (w :: r) (L ++ [(2, n, hi, [], why)]) (o ++ [(n, hi)])
        exact ⟨by omega, _, by rw [b, List.append_assoc]⟩
theorem skips_Le (f : Fd) (hi why : Int) : Le f (skipsM f hi why).2 := by
  unfold skipsM
  split
  · exact Le.refl f
  · obtain ⟨a, e, b⟩ := skR_pre hi why (f.2.2.2.1.length + 2) f.1 f.2.2.1 f.2.2.2.1 f.2.2.2.2.1 []
    exact ⟨a, Int.le_refl _, e, b⟩
theorem notes_Le (f : Fd) (lo hi : Int) : Le f (notesM f lo hi) := by
  unfold notesM
  split
  · exact Le.refl f
  · simp only
    split
    · exact knows_Le f hi
    · exact ((knows_Le f hi).trans (skips_Le _ _ _)).trans (goes_Le _)
theorem comes_Le (f : Fd) (x : It) : Le f (comesM f x) := by
  unfold comesM
  split
  · exact Le.refl f
  · exact ((knows_Le f x.1).trans ⟨Int.le_refl _, Int.le_refl _, [], by simp⟩).trans (goes_Le _)
theorem tick_Le (f : Fd) (now : Int) : Le f (tickM f now).2.1 := by
  unfold tickM
  try simp only
  split
  · exact Le.refl f
  · split
    · exact (skips_Le _ _ _).trans (goes_Le _)
    · exact ⟨Int.le_refl _, Int.le_refl _, [], by simp⟩
/-- One of many deeds. -/
theorem FI.lens {K c : Int} {f : Fd} (h : FI K c f) (hK : K ≤ 10000000) : f.2.2.1.length ≤ 6 ∧ f.2.2.2.1.length ≤ 8 ∧ f.2.2.2.2.1.length ≤ 10000001 := by
  by_cases q : 1 ≤ f.1
  · obtain ⟨a, b, _⟩ := (h.p q).lens hK
    exact ⟨(h.p q).rl, a, b⟩
  · obtain ⟨a, b, e⟩ := h.z (by have := h.n0; omega)
    rw [a, b, e]; simp
theorem FI.nx {K c : Int} {f : Fd} (h : FI K c f) (hK : 0 ≤ K) : 0 ≤ f.1 ∧ f.1 ≤ K + 1 := by
  refine ⟨h.n0, ?_⟩
  by_cases q : 1 ≤ f.1
  · exact (h.p q).nx.2
  · omega
/-- All items and events of a feed. -/
structure FA (P : It → Prop) (Q : Ev → Prop) (f : Fd) : Prop where
  w : ∀ x ∈ f.2.2.2.1, P x
  r : ∀ x ∈ f.2.2.1, P x
  l : ∀ e ∈ f.2.2.2.2.1, Q e
theorem addR_all {P : It → Prop} {R : List It} {w : It} (h : ∀ x ∈ R, P x) (hw : P w) : ∀ x ∈ addR R w, P x := by
  intro x hx
  have : x ∈ R ++ [w] := by
    unfold addR at hx
    split at hx
    · exact List.mem_of_mem_drop hx
    · exact hx
  rcases List.mem_append.1 this with h1 | h1
  · exact h x h1
  · rw [List.mem_singleton.1 h1]; exact hw
theorem goM_all {P : It → Prop} {Q : Ev → Prop} (hPQ : ∀ w : It, P w → Q (1, w.1, w.1, w.2, 0)) : ∀ (W : List It) (n : Int) (R : List It) (L : List Ev), (∀ x ∈ W, P x) → (∀ x ∈ R, P x) → (∀ e ∈ L, Q e) →
    (∀ x ∈ (goM W n R L).2.2.2.1, P x) ∧ (∀ x ∈ (goM W n R L).2.2.1, P x) ∧ (∀ e ∈ (goM W n R L).2.2.2.2, Q e)
  | [], n, R, L, h1, h2, h3 => ⟨h1, h2, h3⟩
  | w :: r, n, R, L, h1, h2, h3 => by
    have hw := h1 w (by simp)
    by_cases c : w.1 = n
    · subst c
      rw [goM_eq]
      exact goM_all hPQ r _ _ _ (fun x hx => h1 x (by simp [hx])) (addR_all h2 hw) (fun e he => by
        rcases List.mem_append.1 he with he | he
        · exact h3 e he
        · rw [List.mem_singleton.1 he]; exact hPQ w hw)
    · rw [goM_ne c]; exact ⟨h1, h2, h3⟩
theorem skR_all {P : It → Prop} {Q : Ev → Prop} (hPQ : ∀ w : It, P w → Q (1, w.1, w.1, w.2, 0)) (hi why : Int) : ∀ (j : Nat) (n : Int) (R W : List It) (L : List Ev) (o : List Sp), (∀ a b, n ≤ a → a ≤ b → b ≤ hi → Q (2, a, b, [], why)) → (∀ x ∈ W, P x) → (∀ x ∈ R, P x) → (∀ e ∈ L, Q e) →
    (∀ x ∈ (skR hi why j n R W L o).2.2.2.1, P x) ∧ (∀ x ∈ (skR hi why j n R W L o).2.2.1, P x) ∧ (∀ e ∈ (skR hi why j n R W L o).2.2.2.2, Q e)
  | 0, n, R, W, L, o, _, h1, h2, h3 => ⟨h1, h2, h3⟩
  | j + 1, n, R, W, L, o, hQ, h1, h2, h3 => by
    have snoc : ∀ a b, n ≤ a → a ≤ b → b ≤ hi → ∀ e ∈ L ++ [(2, a, b, [], why)], Q e := fun a b ha hb hc e he => by
      rcases List.mem_append.1 he with he | he
      · exact h3 e he
      · rw [List.mem_singleton.1 he]; exact hQ a b ha hb hc
    unfold skR
    split
    case isFalse => exact ⟨h1, h2, h3⟩
    rename_i c
    cases W with
    | nil => exact skR_all hPQ hi why j _ _ _ _ _ (fun a b ha hb hc => by omega) h1 h2 (snoc _ _ (by omega) (by omega) (by omega))
    | cons w r =>
      try simp only
      split
      · split
        · obtain ⟨a1, a2, a3⟩ := goM_all hPQ (w :: r) w.1 R _ h1 h2 (snoc n (w.1 - 1) (by omega) (by omega) (by omega))
          obtain ⟨b1, _⟩ := goM_pre (w :: r) w.1 R (L ++ [(2, n, w.1 - 1, [], why)])
          exact skR_all hPQ hi why j _ _ _ _ _ (fun a b ha hb hc => hQ a b (by omega) hb hc) a1 a2 a3
        · obtain ⟨a1, a2, a3⟩ := goM_all hPQ (w :: r) n R L h1 h2 h3
          obtain ⟨b1, _⟩ := goM_pre (w :: r) n R L
          exact skR_all hPQ hi why j _ _ _ _ _ (fun a b ha hb hc => hQ a b (by omega) hb hc) a1 a2 a3
      · exact skR_all hPQ hi why j _ _ _ _ _ (fun a b ha hb hc => by omega) h1 h2 (snoc _ _ (by omega) (by omega) (by omega))
theorem FA.knows {P : It → Prop} {Q : Ev → Prop} {f : Fd} (h : FA P Q f) (t : Int) : FA P Q (knowsM f t) := by
  unfold knowsM
  split
  · exact ⟨h.w, h.r, h.l⟩
  · exact h
theorem FA.goes {P : It → Prop} {Q : Ev → Prop} (hPQ : ∀ w : It, P w → Q (1, w.1, w.1, w.2, 0)) {f : Fd} (h : FA P Q f) : FA P Q (goesM f).2 := by
  obtain ⟨a, b, c⟩ := goM_all hPQ _ f.1 _ _ h.w h.r h.l
  exact ⟨a, b, c⟩
theorem FA.skips {P : It → Prop} {Q : Ev → Prop} (hPQ : ∀ w : It, P w → Q (1, w.1, w.1, w.2, 0)) {f : Fd} (h : FA P Q f) (hi why : Int) (hQ : ∀ a b, f.1 ≤ a → a ≤ b → b ≤ hi → Q (2, a, b, [], why)) : FA P Q (skipsM f hi why).2 := by
  unfold skipsM
  split
  · exact h
  · obtain ⟨a, b, c⟩ := skR_all hPQ hi why (f.2.2.2.1.length + 2) f.1 _ _ _ [] hQ h.w h.r h.l
    exact ⟨a, b, c⟩
theorem insW_mem (x : It) : ∀ (l : List It) (w : It), w ∈ insW x l → w = x ∨ w ∈ l
  | [], w, h => by simp [insW] at h; exact .inl h
  | y :: r, w, h => by
    simp only [insW] at h
    split at h
    · rcases List.mem_cons.1 h with h | h
      · exact .inl h
      · exact .inr h
    · rcases List.mem_cons.1 h with h | h
      · exact .inr (by simp [h])
      · rcases insW_mem x r w h with h | h
        · exact .inl h
        · exact .inr (by simp [h])
theorem FA.put {P : It → Prop} {Q : Ev → Prop} {f : Fd} (h : FA P Q f) (x : It) (hx : P x) : FA P Q (f.1, f.2.1, f.2.2.1, (putM f.2.2.2.1 f.1 x).1, f.2.2.2.2) := by
  refine ⟨fun w hw => ?_, h.r, h.l⟩
  simp only at hw
  unfold putM at hw
  split at hw
  · exact h.w w hw
  · rcases insW_mem x _ w hw with rfl | hw
    · exact hx
    · exact h.w w hw
theorem FA.notes {P : It → Prop} {Q : Ev → Prop} (hPQ : ∀ w : It, P w → Q (1, w.1, w.1, w.2, 0)) {f : Fd} (h : FA P Q f) (lo hi : Int) (hQ : ∀ a b, f.1 ≤ a → a ≤ b → b ≤ hi → lo ≤ a → Q (2, a, b, [], 1)) : FA P Q (notesM f lo hi) := by
  unfold notesM
  split
  · exact h
  · simp only
    split
    · exact h.knows hi
    · rename_i q1 q2
      refine ((h.knows hi).skips hPQ hi 1 (fun a b ha hb hc => ?_)).goes hPQ
      have : (knowsM f hi).1 = f.1 := by unfold knowsM; split <;> rfl
      rw [this] at ha
      exact hQ a b ha hb hc (by omega)
theorem FA.comes {P : It → Prop} {Q : Ev → Prop} (hPQ : ∀ w : It, P w → Q (1, w.1, w.1, w.2, 0)) {f : Fd} (h : FA P Q f) (x : It) (hx : (1 ≤ x.1 ∧ x.1 ≤ 1000000 ∧ x.2.length ≤ 12) → P x) : FA P Q (comesM f x) := by
  unfold comesM
  split
  · exact h
  · rename_i q
    exact ((h.knows x.1).put x (hx ⟨by omega, by omega, by omega⟩)).goes hPQ
theorem FA.tick {P : It → Prop} {Q : Ev → Prop} (hPQ : ∀ w : It, P w → Q (1, w.1, w.1, w.2, 0)) {f : Fd} (h : FA P Q f) (now : Int) (hQ : 3 ≤ f.2.2.2.2.2.1 → ∀ a b, f.1 ≤ a → a ≤ b → Q (2, a, b, [], 2)) : FA P Q (tickM f now).2.1 := by
  unfold tickM
  try simp only
  split
  · exact h
  · split
    · rename_i q
      exact (h.skips hPQ _ 2 (fun a b ha hb _ => hQ q a b ha hb)).goes hPQ
    · exact ⟨h.w, h.r, h.l⟩
/-- A window that is ahead. -/
def FS (K : Int) (f : Fd) : Prop := Wk (f.1 + 1) (min K (f.1 + 7)) f.2.2.2.1
theorem FS.knows {K : Int} {f : Fd} (h : FS K f) (t : Int) : FS K (knowsM f t) := by
  unfold knowsM
  split
  · exact h
  · exact h
theorem FS.notes {K c : Int} {f : Fd} (hf : FI K c f) (h : FS K f) (lo hi : Int) (hh : hi ≤ 1000000 → hi ≤ K) : FS K (notesM f lo hi) := by
  unfold notesM
  split
  · exact h
  rename_i q
  have hg := hf.knows hi hh
  have h0 := hf.n0
  split
  · exact h.knows hi
  · rename_i q2
    obtain ⟨a, b, _⟩ := hg.1.skips (by omega) hi 1 hh
    exact (a.goes (by omega)).2.2
theorem FS.comes {K c : Int} {f : Fd} (hf : FI K c f) (h : FS K f) (x : It) (hx : x.1 ≤ 1000000 → x.1 ≤ K) : FS K (comesM f x) := by
  unfold comesM
  split
  · exact h
  rename_i q
  have hg := hf.knows x.1 hx
  have h0 := hf.n0
  exact ((hg.1.put (by omega) x (hx (by omega))).goes (by simp only; omega)).2.2
theorem FS.tick {K c : Int} {f : Fd} (hf : FI K c f) (h : FS K f) (now : Int) : FS K (tickM f now).2.1 := by
  unfold tickM
  try simp only
  split
  · exact h
  rename_i q
  obtain ⟨w1, w2, w3, w4⟩ := wants_le hf (by cases hq : (wantsM f).1 with | true => rfl | false => exact absurd (.inl hq) q)
  split
  · obtain ⟨a, b, _⟩ := hf.skips w1 (wantsM f).2.2 2 (fun _ => w4)
    exact (a.goes (by omega)).2.2
  · exact h
def eD : Ev := ((0 : Int), (0 : Int), (0 : Int), ([] : List UInt8), (0 : Int))
theorem getD_memE {l : List Ev} {i : Nat} (h : i < l.length) : l.getD i eD ∈ l := by
  rw [List.getD_eq_getElem?_getD, List.getElem?_eq_getElem h]; exact List.getElem_mem h
theorem getD_memI {l : List It} {i : Nat} (h : i < l.length) : l.getD i iD ∈ l := by
  rw [List.getD_eq_getElem?_getD, List.getElem?_eq_getElem h]; exact List.getElem_mem h
def EvOk (e : Ev) : Prop := (e.1 = 1 ∧ e.2.2.1 = e.2.1 ∧ e.2.2.2.1.length ≤ 12 ∧ e.2.2.2.2 = 0) ∨ (e.1 = 2 ∧ e.2.2.2.1 = [] ∧ (e.2.2.2.2 = 1 ∨ e.2.2.2.2 = 2))
theorem Ch.le : ∀ {L : List Ev} {n m : Int}, Ch n L m → n ≤ m
  | [], _, _, h => by have h' : _ = _ := h; omega
  | e :: r, n, m, h => by have := h.2.2.le; have := h.1; have := h.2.1; omega
theorem Ch.last : ∀ {L : List Ev} {n m : Int}, Ch n L m → L ≠ [] → (L.getD (L.length - 1) eD).2.2.1 + 1 = m
  | [], _, _, _, h => absurd rfl h
  | [e], n, m, h, _ => by have h' : _ = _ := h.2.2; simpa using h'
  | e :: x :: r, n, m, h, _ => by
    have := h.2.2.last (by simp)
    simpa using this
theorem Wk.at : ∀ {l : List It} {n K : Int}, Wk n K l → ∀ j, j + 1 < l.length → (l.getD j iD).1 < (l.getD (j + 1) iD).1
  | [], _, _, _, j, hj => by simp at hj
  | [w], _, _, _, j, hj => by simp at hj
  | w :: x :: r, n, K, h, 0, _ => by have := h.2.2.1; simp; omega
  | w :: x :: r, n, K, h, j + 1, hj => by
    have := h.2.2.at j (by simp at hj ⊢; omega)
    simpa using this
theorem getD_mem {l : List Int} {j : Nat} (h : j < l.length) : l.getD j 0 ∈ l := by
  rw [List.getD_eq_getElem?_getD, List.getElem?_eq_getElem h]; exact List.getElem_mem h
theorem Num_eq (N : Nat) (m : Int) (l : List Int) (n : Int) (hm : 1 ≤ m) (hn : 0 ≤ n) (hn2 : n ≤ 1000000) (hel : ∀ x ∈ l, 0 ≤ x ∧ x ≤ 255) : ∃ k n', W_Picks_Num N (m, l, n) = some (k, l, n') ∧ 0 ≤ k ∧ k < m ∧ n ≤ n' ∧ n' ≤ n + 1 := by
  unfold W_Picks_Num V_Picks_Num
  try simp only
  by_cases h : (l.length : Int) ≤ n
  · rw [dT h, cnd_t]; exact ⟨_, _, rfl, by omega, by omega, by omega, by omega⟩
  rw [dF h, cnd_f, dF (by omega), cnd_f, wr_s (z := n + 1) (by omega) (by omega), wr_s (z := n + 1 - 1) (by omega) (by omega), dT (by omega), dT (by omega), Bool.and_self, cnd_t, dF (by omega), Bool.not_false, cnd_t]
  have hb := hel (l.getD (n + 1 - 1).toNat 0) (getD_mem (by omega))
  rw [wr_s (by omega) (by omega), Int.tmod_eq_emod_of_nonneg (by omega)]
  exact ⟨_, _, rfl, Int.emod_nonneg _ (by omega), Int.emod_lt_of_pos _ (by omega), by omega, by omega⟩
theorem Text_eq (N : Nat) (l : List Int) (n : Int) (hn : 0 ≤ n) (hn2 : n ≤ 1000) (hel : ∀ x ∈ l, 0 ≤ x ∧ x ≤ 255) : ∃ s n', W_Picks_Text N (l, n) = some (s, l, n') ∧ n ≤ n' ∧ n' ≤ n + 1 ∧ s.length ≤ 12 := by
  unfold W_Picks_Text V_Picks_Text
  try simp only
  obtain ⟨k, n1, e1, a1, a2, a3, a4⟩ := Num_eq N 5 l n (by omega) hn (by omega) hel
  rw [e1, obind_s]
  try simp only
  rw [dT a1, cnd_t, dT (by omega), cnd_t]
  refine ⟨_, _, rfl, a3, a4, ?_⟩
  have : k = 0 ∨ k = 1 ∨ k = 2 ∨ k = 3 ∨ k = 4 := by omega
  rcases this with q | q | q | q | q <;> rw [q] <;> decide
theorem Fp.mono {K K' c n : Int} {R W : List It} {L : List Ev} (h : Fp K c n R W L) (hK : K ≤ K') : Fp K' c n R W L :=
  ⟨⟨h.nx.1, by have := h.nx.2; omega⟩, h.rk, h.rl, h.wk.mono (Int.le_refl _) (by omega), h.ch, h.c0⟩
theorem FI.mono {K K' c : Int} {f : Fd} (h : FI K c f) (hK : K ≤ K') : FI K' c f :=
  ⟨h.n0, ⟨h.tp.1, by have := h.tp.2; omega⟩, fun q => (h.p q).mono hK, h.ask, h.z⟩
theorem FS.mono {K K' : Int} {f : Fd} (h : FS K f) (hK : K ≤ K') : FS K' f := Wk.mono h (Int.le_refl _) (by omega)
abbrev FT (f : Fd) : Prop := FA (fun w => w.2.length ≤ 12) EvOk f
theorem FT.hpq (w : It) (hw : w.2.length ≤ 12) : EvOk (1, w.1, w.1, w.2, 0) := .inl ⟨rfl, rfl, hw, rfl⟩
/-- A made feed, behind j deeds. -/
structure Fm (j : Nat) (K c : Int) (now n : Int) (f : Fd) : Prop where
  n0 : 0 ≤ n ∧ n ≤ 1 + 4 * (j : Int)
  t0 : 0 ≤ now ∧ now ≤ 7 * (j : Int)
  fi : FI K c f
  fs : FS K f
  ft : FT f
  f1 : 1 ≤ f.1
theorem Feed_FI (N : Nat) (hN : 2000 ≤ N) (l : List Int) (hel : ∀ x ∈ l, 0 ≤ x ∧ x ≤ 255) : ∃ f n' c, W_Picks_Feed N (15, l, 0) = some ((l, n'), f) ∧ FI 200 c f ∧ FS 200 f ∧ FT f ∧ 1 ≤ f.1 ∧ 1 ≤ c := by
  unfold W_Picks_Feed V_Picks_Feed
  try simp only
  obtain ⟨k, n1, e1, a1, a2, a3, a4⟩ := Num_eq N 5 l 0 (by omega) (by omega) (by omega) hel
  rw [e1, obind_s]
  try simp only
  have hB := rBegin_eq N z7 (1 + k) (fun q => by simp [z7] at q)
  have eB : beginM z7 (1 + k) = (1 + k, 0, [], [], [], 0, 0) := by
    unfold beginM
    rw [if_neg (by decide), if_pos ⟨by omega, by omega⟩]
    rfl
  rw [eB] at hB
  rw [wr_m (z := 1 + k) (by omega) (by omega)]
  show ∃ f n' c, obind (W_ref13_Begin N (z7, 1 + k)) _ = _ ∧ _
  rw [hB, obind_s]
  refine loop_G (N := N) (fun q => ∃ f n' c, q = some ((l, n'), f) ∧ FI 200 c f ∧ FS 200 f ∧ FT f ∧ 1 ≤ f.1 ∧ 1 ≤ c) (fun j (v : Int × Int × (List Int × Int) × Fd × Fd) => v.2.1 = j ∧ j ≤ 15 ∧ v.2.2.1.1 = l ∧ Fm j (8 + 8 * (j : Int)) (1 + k) v.1 v.2.2.1.2 v.2.2.2.2) 15
    (fun r : (List Int × Int) × Fd × Fd => r.1.1 = l ∧ ∃ c, FI 200 c r.2.2 ∧ FS 200 r.2.2 ∧ FT r.2.2 ∧ 1 ≤ r.2.2.1 ∧ 1 ≤ c) ⟨rfl, by omega, rfl, ⟨⟨by simp only; omega, by simp only; omega⟩, ⟨by simp, by simp⟩, ⟨by simp only; omega, ⟨by simp, by simp⟩, fun _ => ⟨⟨by simp only; omega, by simp only; omega⟩, trivial, by simp, trivial, rfl, by omega⟩, ⟨by simp, by simp⟩, fun q => by simp only at q; omega⟩, trivial, ⟨fun x hx => by simp at hx, fun x hx => by simp at hx, fun x hx => by simp at hx⟩, by simp only; omega⟩⟩ (by omega) ?_ (fun j v h => h.2.1) ?_
  · rintro ⟨⟨l', n'⟩, z, f⟩ ⟨rfl, c, hf⟩
    exact ⟨_, _, c, rfl, hf⟩
  · rintro j ⟨now, i, ⟨l', n'⟩, z, f⟩ ⟨e, hj, rfl, hS⟩
    obtain ⟨hn, ht, hf, hs, hA, hf1⟩ := hS
    simp only at e hn ht hf hs hA hf1 ⊢
    subst e
    by_cases cj : (j : Int) < 15
    case neg =>
      right
      rw [dF cj, cnd_f]
      exact ⟨_, rfl, rfl, _, hf.mono (by omega), hs.mono (by omega), hA, hf1, by omega⟩
    have hov : W_Picks_Over N (l', n') = some (decide ((l'.length : Int) ≤ n'), l', n') := rfl
    rw [dT cj, cnd_t, hov, obind_s]
    try simp only
    by_cases co : (l'.length : Int) ≤ n'
    · right
      rw [dT co, Bool.not_true, cnd_f]
      exact ⟨_, rfl, rfl, _, hf.mono (by omega), hs.mono (by omega), hA, hf1, by omega⟩
    rw [dF co, Bool.not_false, cnd_t]
    left
    obtain ⟨b, n2, e2, b1, b2, b3, b4⟩ := Num_eq N 6 l' n' (by omega) (by omega) (by omega) hel
    rw [e2, obind_s]
    try simp only
    have hnx := hf.nx (by omega)
    have hf := hf.mono (K' := 8 + 8 * ((j + 1 : Nat) : Int)) (by omega)
    have hs := hs.mono (K' := 8 + 8 * ((j + 1 : Nat) : Int)) (by omega)
    rw [wr_m (z := (j : Int) + 1) (by omega) (by omega), show ((j : Int) + 1) = ((j + 1 : Nat) : Int) by omega]
    have fin : ∀ (g : Fd) (t m : Int), FI (8 + 8 * ((j + 1 : Nat) : Int)) (1 + k) g → FS (8 + 8 * ((j + 1 : Nat) : Int)) g → FT g → 1 ≤ g.1 → 0 ≤ m ∧ m ≤ 1 + 4 * ((j + 1 : Nat) : Int) → 0 ≤ t ∧ t ≤ 7 * ((j + 1 : Nat) : Int) → ∃ y : Int × Int × (List Int × Int) × Fd × Fd, (some (Sum.inl (t, ((j + 1 : Nat) : Int), (l', m), z, g)) : Option ((Int × Int × (List Int × Int) × Fd × Fd) ⊕ ((List Int × Int) × Fd × Fd))) = some (.inl y) ∧ y.2.1 = ((j + 1 : Nat) : Int) ∧ j + 1 ≤ 15 ∧ y.2.2.1.1 = l' ∧ Fm (j + 1) (8 + 8 * ((j + 1 : Nat) : Int)) (1 + k) y.1 y.2.2.1.2 y.2.2.2.2 := by
      intro g t m h1 h2 h3 h4 h5 h6
      exact ⟨_, rfl, rfl, by omega, rfl, h5, h6, h1, h2, h3, h4⟩
    by_cases k0 : b = 0
    · rw [dT k0, cnd_t]
      obtain ⟨p, n3, e3, c1, c2, c3, c4⟩ := Num_eq N 3 l' n2 (by omega) (by omega) (by omega) hel
      obtain ⟨q, n4, e4, d1, d2, d3, d4⟩ := Num_eq N 4 l' n3 (by omega) (by omega) (by omega) hel
      rw [e3, obind_s]
      try simp only
      rw [e4, obind_s]
      try simp only
      rw [wr_m (z := f.1 - 1) (by omega) (by omega), wr_m (z := f.1 - 1 + p) (by omega) (by omega), wr_m (z := max 1 (f.1 - 1 + p) + q) (by omega) (by omega)]
      have g1 := rNotes_eq N hN hf (by omega) (max 1 (f.1 - 1 + p)) (max 1 (f.1 - 1 + p) + q) (fun _ => by omega)
      show ∃ y, obind (W_ref13_Notes N (f, _)) _ = _ ∧ _
      rw [g1, obind_s]
      exact fin _ _ _ (hf.notes _ _ (fun _ => by omega)) (hs.notes hf _ _ (fun _ => by omega)) (hA.notes FT.hpq _ _ (fun a b _ _ _ _ => .inr ⟨rfl, rfl, .inl rfl⟩)) (by have := (notes_Le f (max 1 (f.1 - 1 + p)) (max 1 (f.1 - 1 + p) + q)).1; omega) (by omega) (by omega)
    rw [dF k0, cnd_f]
    by_cases k1 : b = 1
    · rw [dT k1, cnd_t]
      obtain ⟨p, n3, e3, c1, c2, c3, c4⟩ := Num_eq N 5 l' n2 (by omega) (by omega) (by omega) hel
      rw [e3, obind_s]
      try simp only
      rw [wr_m (z := f.1 + p) (by omega) (by omega)]
      have g1 := rKnows_eq N f (f.1 + p)
      show ∃ y, obind (W_ref13_Knows N (f, _)) _ = _ ∧ _
      rw [g1, obind_s]
      exact fin _ _ _ (hf.knows _ (fun _ => by omega)).1 (hs.knows _) (hA.knows _) (by have := (knows_Le f (f.1 + p)).1; omega) (by omega) (by omega)
    rw [dF k1, cnd_f]
    by_cases k2 : b = 2
    · rw [dT k2, cnd_t]
      obtain ⟨p, n3, e3, c1, c2, c3, c4⟩ := Num_eq N 6 l' n2 (by omega) (by omega) (by omega) hel
      rw [e3, obind_s]
      try simp only
      rw [wr_m (z := now + 1) (by omega) (by omega), wr_m (z := now + 1 + p) (by omega) (by omega)]
      have g1 := rTick_eq N hN hf (by omega) (now + 1 + p) (by omega) (by omega)
      show ∃ y, obind (W_ref13_Tick N (f, _)) _ = _ ∧ _
      rw [g1, obind_s]
      exact fin _ _ _ (hf.tick _) (hs.tick hf _) (hA.tick FT.hpq _ (fun _ a b _ _ => .inr ⟨rfl, rfl, .inr rfl⟩)) (by have := (tick_Le f (now + 1 + p)).1; omega) (by omega) (by omega)
    rw [dF k2, cnd_f]
    obtain ⟨p, n3, e3, c1, c2, c3, c4⟩ := Num_eq N 5 l' n2 (by omega) (by omega) (by omega) hel
    obtain ⟨t, n4, e4, d3, d4, d5⟩ := Text_eq N l' n3 (by omega) (by omega) hel
    rw [e3, obind_s]
    try simp only
    rw [e4, obind_s]
    try simp only
    rw [wr_m (z := f.1 - 1) (by omega) (by omega), wr_m (z := f.1 - 1 + p) (by omega) (by omega)]
    have g1 := rComes_eq N hN hf (by omega) (max 1 (f.1 - 1 + p), t) (fun _ => by simp only; omega)
    show ∃ y, obind (W_ref13_Comes N (f, max 1 (f.1 - 1 + p), t)) _ = _ ∧ _
    rw [g1, obind_s]
    exact fin _ _ _ (hf.comes _ (fun _ => by simp only; omega)) (hs.comes hf _ (fun _ => by simp only; omega)) (hA.comes FT.hpq _ (fun _ => d5)) (by have := (comes_Le f (max 1 (f.1 - 1 + p), t)).1; omega) (by omega) (by omega)
theorem noF_ok {R : List It} {lo : Int} (hlo : 1 ≤ lo) : ∀ k : Nat, (k = 0 ∨ lo + k ≤ 1000001) → VS (noF R lo k) ∧ (∀ t ∈ noF R lo k, t.2 + 1 ≤ lo + k) ∧ (noF R lo k).length ≤ k
  | 0, _ => ⟨⟨by simp [noF], by simp [noF]⟩, by simp [noF], by simp [noF]⟩
  | k + 1, h => by
    obtain ⟨h1, h2, h3⟩ := noF_ok (R := R) hlo k (by omega)
    have hk : lo + k ≤ 1000000 := by omega
    simp only [noF]
    split
    · exact ⟨h1, fun t ht => by have := h2 t ht; omega, by omega⟩
    · have hs : okS (lo + k, lo + k) := ⟨by simp only; omega, by simp only; omega, hk⟩
      have e := addP_push h1 hs h2
      have hv := VS_add h1 hs
      rw [e] at hv
      simp only at hv
      exact ⟨hv.1, push_hi (fun s hs => by have := h2 s hs; omega) (by omega), by omega⟩
abbrev cnt (f : Fd) (lo hi : Int) : Nat := (min (min hi (f.1 - 1)) (lo + 7) + 1 - lo).toNat
theorem pServes (N : Nat) (f : Fd) (lo hi : Int) (hN : 2000 ≤ N) (hl : f.2.2.1.length ≤ 6) (h1 : 1 ≤ f.1) (h2 : f.1 ≤ 1000001) (h3 : 1 ≤ lo) (h4 : lo ≤ 2000000000000) :
    W_nak_Serves N (f, lo, hi) = some (itF f.2.2.1 lo (cnt f lo hi), noF f.2.2.1 lo (cnt f lo hi)) := by
  unfold W_nak_Serves V_nak_Serves cnt
  try simp only
  rw [dF (show ¬ f.1 < 1 by omega), cnd_f, wr_m (z := lo + 8) (by omega) (by omega), wr_m (z := lo + 8 - 1) (by omega) (by omega), show lo + 8 - 1 = lo + 7 by omega]
  obtain ⟨T, hT⟩ : ∃ T, min (min hi (f.1 - 1)) (lo + 7) = T := ⟨_, rfl⟩
  rw [hT]
  have hT7 : T ≤ lo + 7 := by omega
  have hTf : T ≤ f.1 - 1 := by omega
  refine loop_G (N := N) (fun o => o = some (itF f.2.2.1 lo (T + 1 - lo).toNat, noF f.2.2.1 lo (T + 1 - lo).toNat)) (fun k (v : Int × Fd × List It × List Sp) => v = (lo + (k : Int), f, itF f.2.2.1 lo k, noF f.2.2.1 lo k) ∧ k ≤ (T + 1 - lo).toNat) 8 (fun r : List It × List Sp => r = (itF f.2.2.1 lo (T + 1 - lo).toNat, noF f.2.2.1 lo (T + 1 - lo).toNat)) ⟨by simp [itF, noF], by omega⟩ (by omega) (fun r h => by rw [h]) (fun k v h => by have := h.2; omega) ?_
  rintro k v ⟨rfl, hk⟩
  try simp only
  rw [wr_m (z := f.1 - 1) (by omega) (by omega), hT]
  by_cases c : lo + (k : Int) ≤ T
  case neg =>
    right
    rw [dF c, cnd_f]
    exact ⟨_, rfl, by rw [show k = (T + 1 - lo).toNat by omega]⟩
  left
  have hkl := itF_len f.2.2.1 lo k
  have hnl := (noF_ok (R := f.2.2.1) h3 k (by omega)).2.2
  have w : wr .i64 (lo + (k : Int) + 1) = lo + ((k + 1 : Nat) : Int) := by rw [wr_m (by omega) (by omega)]; omega
  rw [dT c, cnd_t, Get_eq N _ _ hN (by omega), obind_s, w]
  clear w
  by_cases q : (getF f.2.2.1 (lo + k)).2 = true
  · rw [q, cnd_t, dT (by simp only [List.length_singleton]; omega), cnd_t]
    refine ⟨_, rfl, ?_, by omega⟩
    simp only [itF, noF]
    rw [if_pos q, if_pos q]
  · have e1 : itF f.2.2.1 lo (k + 1) = itF f.2.2.1 lo k := by simp only [itF]; rw [if_neg q]
    have e2 : noF f.2.2.1 lo (k + 1) = push (noF f.2.2.1 lo k) (lo + k) (lo + k) := by simp only [noF]; rw [if_neg q]
    rw [Bool.not_eq_true] at q
    rw [q, cnd_f]
    refine ⟨(lo + ((k + 1 : Nat) : Int), f, itF f.2.2.1 lo (k + 1), noF f.2.2.1 lo (k + 1)), ?_, rfl, by omega⟩
    rw [e1, e2]
    generalize noF f.2.2.1 lo k = o at *
    unfold push
    by_cases p0 : 0 < o.length
    · rw [show wr .i64 ((o.length : Int) - 1) = ((o.length - 1 : Nat) : Int) by rw [wr_m (by omega) (by omega)]; omega, show wr .i64 (lo + (k : Int) - 1) = lo + k - 1 from wr_m (by omega) (by omega), dT (show (0 : Int) ≤ ((o.length - 1 : Nat) : Int) by omega), cnd_t, dT (show ((o.length - 1 : Nat) : Int) < o.length by omega), Bool.true_and, cnd_t, Int.toNat_natCast]
      by_cases p1 : (o.getD (o.length - 1) (0, 0)).2 = lo + k - 1
      · rw [dT p1, cnd_t, cnd_t, if_pos ⟨p0, by omega⟩]
      · rw [dF p1, cnd_f, dT (by simp only [List.length_singleton]; omega), cnd_t, if_neg (fun h => p1 (by omega))]
    · rw [show wr .i64 ((o.length : Int) - 1) = -1 by rw [wr_m (by omega) (by omega)]; omega, dF (by omega), cnd_f, dT (by simp only [List.length_singleton]; omega), cnd_t, if_neg (fun h => p0 h.1)]
/-- Behind its turn, or kept in the window. -/
def Inn (f : Fd) (n : Int) : Prop := n < f.1 ∨ (getF f.2.2.2.1 n).2 = true
theorem goM_in (x : Int) : ∀ (W : List It) (n : Int) (R : List It) (L : List Ev), (getF W x).2 = true → x < (goM W n R L).2.1 ∨ (getF (goM W n R L).2.2.2.1 x).2 = true
  | [], n, R, L, h => by simp [getF] at h
  | w :: r, n, R, L, h => by
    by_cases c : w.1 = n
    · subst c
      rw [goM_eq]
      have hp := (goM_pre r (w.1 + 1) (addR R w) (L ++ [(1, w.1, w.1, w.2, 0)])).1
      simp only [getF] at h
      by_cases c2 : w.1 = x
      · left; simp only; omega
      · rw [if_neg c2] at h
        exact goM_in x r _ _ _ h
    · rw [goM_ne c]; exact .inr h
theorem skR_in (hi why x : Int) : ∀ (j : Nat) (n : Int) (R W : List It) (L : List Ev) (o : List Sp), (x < n ∨ (getF W x).2 = true) → x < (skR hi why j n R W L o).2.1 ∨ (getF (skR hi why j n R W L o).2.2.2.1 x).2 = true
  | 0, n, R, W, L, o, h => h
  | j + 1, n, R, W, L, o, h => by
    unfold skR
    split
    case isFalse => exact h
    rename_i c
    cases W with
    | nil => exact skR_in hi why x j _ _ _ _ _ (h.imp (fun q => by omega) (fun q => q))
    | cons w r =>
      try simp only
      split
      · split
        · have hp := (goM_pre (w :: r) w.1 R (L ++ [(2, n, w.1 - 1, [], why)])).1
          exact skR_in hi why x j _ _ _ _ _ (h.elim (fun q => .inl (by omega)) (fun q => goM_in x _ _ _ _ q))
        · have hp := (goM_pre (w :: r) n R L).1
          exact skR_in hi why x j _ _ _ _ _ (h.elim (fun q => .inl (by omega)) (fun q => goM_in x _ _ _ _ q))
      · exact skR_in hi why x j _ _ _ _ _ (h.imp (fun q => by omega) (fun q => q))
theorem Inn.knows {f : Fd} {n : Int} (h : Inn f n) (t : Int) : Inn (knowsM f t) n := by
  unfold knowsM; split <;> exact h
theorem Inn.goes {f : Fd} {n : Int} (h : Inn f n) : Inn (goesM f).2 n := by
  have hp := (goM_pre f.2.2.2.1 f.1 f.2.2.1 f.2.2.2.2.1).1
  rcases h with q | q
  · exact .inl (by simp only [goesM]; omega)
  · exact goM_in n _ _ _ _ q
theorem Inn.skips {f : Fd} {n : Int} (h : Inn f n) (hi why : Int) : Inn (skipsM f hi why).2 n := by
  unfold skipsM; split
  · exact h
  · exact skR_in hi why n _ _ _ _ _ _ h
theorem Inn.notes {f : Fd} {n : Int} (h : Inn f n) (lo hi : Int) : Inn (notesM f lo hi) n := by
  unfold notesM
  split
  · exact h
  try simp only
  split
  · exact h.knows hi
  · exact ((h.knows hi).skips hi 1).goes
theorem insW_in (x : It) (n : Int) : ∀ l, ((getF l n).2 = true ∨ n = x.1) → (getF (insW x l) n).2 = true
  | [], h => by
    simp only [getF] at h
    rcases h with h | h
    · cases h
    · simp [insW, getF, h]
  | w :: r, h => by
    simp only [insW]
    split
    · by_cases c : x.1 = n
      · simp only [getF]; rw [if_pos c]
      · simp only [getF]; rw [if_neg c]
        rcases h with h | h
        · simp only [getF] at h; exact h
        · exact absurd h.symm c
    · by_cases c : w.1 = n
      · simp only [getF]; rw [if_pos c]
      · simp only [getF] at h ⊢
        rw [if_neg c] at h ⊢
        exact insW_in x n r h
theorem Inn.comes {f : Fd} {n : Int} (h : Inn f n) (x : It) : Inn (comesM f x) n := by
  unfold comesM
  split
  · exact h
  refine Inn.goes ?_
  rcases h.knows x.1 with q | q
  · exact .inl q
  · right
    try simp only
    unfold putM
    split
    · exact q
    · exact insW_in x n _ (.inl q)
theorem Inn_comes {f : Fd} (x : It) (h1 : 1 ≤ f.1) (hx : 1 ≤ x.1 ∧ x.1 ≤ 1000000) (ht : x.2.length ≤ 12) (hw : x.1 < f.1 + 8) : Inn (comesM f x) x.1 := by
  unfold comesM
  rw [if_neg (by omega)]
  have e : (knowsM f x.1).1 = f.1 := by unfold knowsM; split <;> rfl
  refine Inn.goes ?_
  unfold Inn
  try simp only
  unfold putM
  rw [e]
  by_cases c1 : x.1 < f.1
  · exact .inl c1
  right
  split
  · rename_i q
    rcases q with q | q | q
    · omega
    · omega
    · exact q
  · exact insW_in x x.1 _ (.inr rfl)
theorem notes_past {K c : Int} {f : Fd} (h : FI K c f) (lo hi : Int) (h1 : 1 ≤ lo) (h2 : lo ≤ f.1) (h3 : f.1 ≤ hi) (hK : hi ≤ K) (hm : hi ≤ 1000000) : hi < (notesM f lo hi).1 := by
  unfold notesM
  rw [if_neg (by omega)]
  try simp only
  rw [if_neg (by omega)]
  obtain ⟨k1, k2⟩ := h.knows hi (fun _ => hK)
  obtain ⟨a, b, c3⟩ := k1.skips (by omega) hi 1 (fun _ => hK)
  have := c3 hm
  have := (a.goes (by omega)).2.1
  omega
theorem itF_mem (R : List It) (lo : Int) : ∀ (k : Nat), ∀ x ∈ itF R lo k, lo ≤ x.1 ∧ x.1 < lo + k ∧ getF R x.1 = (x.2, true)
  | 0, x, h => by simp [itF] at h
  | k + 1, x, h => by
    simp only [itF] at h
    split at h
    · rename_i q
      rcases List.mem_append.1 h with h | h
      · obtain ⟨a, b, c⟩ := itF_mem R lo k x h
        exact ⟨a, by omega, c⟩
      · rw [List.mem_singleton.1 h]
        exact ⟨by simp only; omega, by simp only; omega, Prod.ext rfl q⟩
    · obtain ⟨a, b, c⟩ := itF_mem R lo k x h
      exact ⟨a, by omega, c⟩
theorem itF_has (R : List It) (lo : Int) : ∀ (k : Nat) (n : Int), lo ≤ n → n < lo + k → (getF R n).2 = true → ∃ x ∈ itF R lo k, x.1 = n
  | 0, n, h1, h2, _ => by omega
  | k + 1, n, h1, h2, h => by
    simp only [itF]
    by_cases c : n = lo + k
    · subst c
      rw [if_pos h]
      exact ⟨_, List.mem_append_right _ (List.mem_singleton.2 rfl), rfl⟩
    · obtain ⟨x, hx, e⟩ := itF_has R lo k n h1 (by omega) h
      split
      · exact ⟨x, List.mem_append_left _ hx, e⟩
      · exact ⟨x, hx, e⟩
theorem push_mem {o : List Sp} {a b : Int} : ∀ t ∈ push o a b, t ∈ o ∨ t = (a, b) ∨ ∃ s ∈ o, s.2 + 1 = a ∧ t = (s.1, b) := by
  intro t ht
  rcases snoc_cases o with rfl | ⟨p, s, rfl⟩
  · rw [push_nil] at ht
    exact .inr (.inl (List.mem_singleton.1 ht))
  · rw [push_snoc] at ht
    split at ht
    · rename_i q
      rcases List.mem_append.1 ht with h | h
      · exact .inl (List.mem_append_left _ h)
      · exact .inr (.inr ⟨s, List.mem_append_right _ (List.mem_singleton.2 rfl), q, List.mem_singleton.1 h⟩)
    · rcases List.mem_append.1 ht with h | h
      · exact .inl h
      · exact .inr (.inl (List.mem_singleton.1 h))
theorem push_cov {o : List Sp} {a b n : Int} (ho : ∀ s ∈ o, s.1 ≤ s.2) (hab : a ≤ b) (h : (∃ t ∈ o, t.1 ≤ n ∧ n ≤ t.2) ∨ (a ≤ n ∧ n ≤ b)) : ∃ t ∈ push o a b, t.1 ≤ n ∧ n ≤ t.2 := by
  rcases snoc_cases o with rfl | ⟨p, s, rfl⟩
  · rw [push_nil]
    rcases h with ⟨t, ht, _⟩ | h
    · cases ht
    · exact ⟨_, List.mem_singleton.2 rfl, h⟩
  · have hs := ho s (List.mem_append_right _ (List.mem_singleton.2 rfl))
    rw [push_snoc]
    split
    · rename_i q
      rcases h with ⟨t, ht, h1, h2⟩ | h
      · rcases List.mem_append.1 ht with ht | ht
        · exact ⟨t, List.mem_append_left _ ht, h1, h2⟩
        · rw [List.mem_singleton.1 ht] at h1 h2
          exact ⟨_, List.mem_append_right _ (List.mem_singleton.2 rfl), h1, by simp only; omega⟩
      · exact ⟨_, List.mem_append_right _ (List.mem_singleton.2 rfl), by simp only; omega, h.2⟩
    · rcases h with ⟨t, ht, h1, h2⟩ | h
      · exact ⟨t, List.mem_append_left _ ht, h1, h2⟩
      · exact ⟨_, List.mem_append_right _ (List.mem_singleton.2 rfl), h⟩
theorem noF_cov (R : List It) (lo : Int) (hlo : 1 ≤ lo) : ∀ (k : Nat) (n : Int), (k = 0 ∨ lo + k ≤ 1000001) → lo ≤ n → n < lo + k → (getF R n).2 = false → ∃ t ∈ noF R lo k, t.1 ≤ n ∧ n ≤ t.2
  | 0, n, _, h1, h2, _ => by omega
  | k + 1, n, hk, h1, h2, h => by
    have ok := (noF_ok (R := R) hlo k (by omega)).1.1
    simp only [noF]
    by_cases c : n = lo + k
    · subst c
      rw [if_neg (by rw [h]; simp)]
      exact push_cov (fun s hs => (ok s hs).2.1) (Int.le_refl _) (.inr ⟨Int.le_refl _, Int.le_refl _⟩)
    · have ih := noF_cov R lo hlo k n (by omega) h1 (by omega) h
      split
      · exact ih
      · exact push_cov (fun s hs => (ok s hs).2.1) (Int.le_refl _) (.inl ih)
theorem noF_sub (R : List It) (lo : Int) : ∀ (k : Nat), ∀ t ∈ noF R lo k, lo ≤ t.1 ∧ t.2 < lo + k ∧ ∀ n, t.1 ≤ n → n ≤ t.2 → (getF R n).2 = false
  | 0, t, h => by simp [noF] at h
  | k + 1, t, h => by
    simp only [noF] at h
    split at h
    · obtain ⟨a, b, c⟩ := noF_sub R lo k t h
      exact ⟨a, by omega, c⟩
    · rename_i q
      rw [Bool.not_eq_true] at q
      rcases push_mem t h with h | rfl | ⟨s, hs, e, rfl⟩
      · obtain ⟨a, b, c⟩ := noF_sub R lo k t h
        exact ⟨a, by omega, c⟩
      · refine ⟨by simp only; omega, by simp only; omega, fun n h1 h2 => ?_⟩
        simp only at h1 h2
        rw [show n = lo + k by omega]; exact q
      · obtain ⟨a, b, c⟩ := noF_sub R lo k s hs
        refine ⟨a, by simp only; omega, fun n h1 h2 => ?_⟩
        simp only at h1 h2
        by_cases c2 : n ≤ s.2
        · exact c n h1 c2
        · rw [show n = lo + k by omega]; exact q
theorem getF_memI : ∀ {l : List It} {n : Int} {t : List UInt8}, getF l n = (t, true) → (n, t) ∈ l
  | [], n, t, h => by simp [getF] at h
  | w :: r, n, t, h => by
    simp only [getF] at h
    split at h
    · rename_i q
      rw [← q, ← (Prod.mk.inj h).1]
      exact List.mem_cons_self
    · exact List.mem_cons_of_mem _ (getF_memI h)
theorem Ch.from : ∀ {L0 e : List Ev} {c n m : Int}, Ch c L0 n → Ch c (L0 ++ e) m → Ch n e m
  | [], e, c, n, m, h, h2 => by have h' : c = n := h; rw [← h']; exact h2
  | x :: r, e, c, n, m, h, h2 => Ch.from (L0 := r) h.2.2 h2.2.2
theorem Ch.mem : ∀ {L : List Ev} {n m : Int}, Ch n L m → ∀ e ∈ L, n ≤ e.2.1 ∧ e.2.1 ≤ e.2.2.1 ∧ e.2.2.1 < m
  | [], n, m, h, e, he => by cases he
  | x :: r, n, m, h, e, he => by
    have h1 := h.1
    have h2 := h.2.1
    rcases List.mem_cons.1 he with rfl | he
    · have := h.2.2.le
      exact ⟨by omega, h2, by omega⟩
    · obtain ⟨a, b, d⟩ := h.2.2.mem e he
      exact ⟨by omega, b, d⟩
/-- Items that are of before, or held by the one that is asked. -/
def Pc (R : List It) (n0 T : Int) (w : It) : Prop := (w.1 < n0 ∨ getF R w.1 = (w.2, true)) ∧ w.1 ≤ T
def Qc (R : List It) (n0 : Int) (e : Ev) : Prop := e.2.2.1 < n0 ∨ (e.1 = 1 ∧ e.2.2.1 = e.2.1 ∧ getF R e.2.1 = (e.2.2.2.1, true)) ∨ (e.1 = 2 ∧ ∀ n, e.2.1 ≤ n → n ≤ e.2.2.1 → (getF R n).2 = false)
theorem hpc {R : List It} {n0 T : Int} (w : It) (h : Pc R n0 T w) : Qc R n0 (1, w.1, w.1, w.2, 0) := h.1.elim .inl (fun q => .inr (.inl ⟨rfl, rfl, q⟩))
structure Cs (R : List It) (n0 T c : Int) (f0 f : Fd) : Prop where
  fi : FI 200 c f
  fs : FS 200 f
  fa : FA (Pc R n0 T) (Qc R n0) f
  le : Le f0 f
  f1 : 1 ≤ f.1
theorem Cs.comes {R : List It} {n0 T c : Int} {f0 f : Fd} (h : Cs R n0 T c f0 f) (x : It) (hx : getF R x.1 = (x.2, true)) (hT : x.1 ≤ T) (hK : x.1 ≤ 200) : Cs R n0 T c f0 (comesM f x) :=
  ⟨h.fi.comes x (fun _ => hK), FS.comes h.fi h.fs x (fun _ => hK), h.fa.comes hpc x (fun _ => ⟨.inr hx, hT⟩), h.le.trans (comes_Le f x), by have := (comes_Le f x).1; have := h.f1; omega⟩
theorem Cs.notes {R : List It} {n0 T c : Int} {f0 f : Fd} (h : Cs R n0 T c f0 f) (a b : Int) (hK : b ≤ 200) (hl : ∀ n, a ≤ n → n ≤ b → (getF R n).2 = false) : Cs R n0 T c f0 (notesM f a b) :=
  ⟨h.fi.notes a b (fun _ => hK), FS.notes h.fi h.fs a b (fun _ => hK), h.fa.notes hpc a b (fun x y h1 h2 h3 h4 => .inr (.inr ⟨rfl, fun n q1 q2 => hl n (by simp only at q1; omega) (by simp only at q2; omega)⟩)), h.le.trans (notes_Le f a b), by have := (notes_Le f a b).1; have := h.f1; omega⟩
theorem Cs.lacks {R : List It} {n0 T c lo : Int} {f0 f : Fd} {C : Nat} (h : Cs R n0 T c f0 f) (h1 : lo ≤ f.1) (h2 : f.1 < lo + C) (hin : ∀ x ∈ itF R lo C, Inn f x.1) : (getF R f.1).2 = false := by
  cases q : (getF R f.1).2 with
  | false => rfl
  | true =>
    obtain ⟨x, hx, e⟩ := itF_has R lo C f.1 h1 h2 q
    have := hin x hx
    rw [e] at this
    rcases this with p | p
    · omega
    · have hs : Wk (f.1 + 1) (min 200 (f.1 + 7)) f.2.2.2.1 := h.fs
      rw [getF_none hs f.1 (by omega)] at p
      cases p
/-- One round: what is served comes, what is lacking is noted. -/
theorem round_texts (N : Nat) (hN : 2000 ≤ N) {R : List It} {n0 T c lo : Int} {C : Nat} {f0 f : Fd} {g : Fd} (h : Cs R n0 T c f0 f) (hlo : lo = f.1) (hC : C ≤ 8) (hT : lo + C ≤ T + 1) (hK : lo + C ≤ 201) (hR : ∀ w ∈ R, w.2.length ≤ 12) {β : Type} {G : Fd × Fd → Option β} {Q : Option β → Prop} (hG : ∀ f1, Cs R n0 T c f0 f1 → lo ≤ f1.1 → (∀ x ∈ itF R lo C, Inn f1 x.1) → Q (G (f1, g))) :
    Q (obind (loopN N (fun (v : Int × Fd × Fd) => cnd (decide (v.1 < (↑(List.length (itF R lo C)) : Int))) (cnd (decide ((0 : Int) ≤ v.1) && decide (v.1 < (↑(List.length (itF R lo C)) : Int))) (obind (W_ref13_Comes N (v.2.1, Prod.fst (List.getD (itF R lo C) (Int.toNat v.1) ((0 : Int), [])), Prod.snd (List.getD (itF R lo C) (Int.toNat v.1) ((0 : Int), [])))) fun (b : Fd) => some (Sum.inl (wr IntKind.i64 (v.1 + (1 : Int)), b, v.2.2))) none) (some (Sum.inr v.2))) ((0 : Int), f, g)) G) := by
  have hl := itF_len R lo C
  have hm := itF_mem R lo C
  generalize itF R lo C = l at *
  have h1 := h.f1
  refine loop_G (N := N) Q (fun j (v : Int × Fd × Fd) => v.1 = j ∧ v.2.2 = g ∧ j ≤ l.length ∧ Cs R n0 T c f0 v.2.1 ∧ lo ≤ v.2.1.1 ∧ ∀ i, i < j → Inn v.2.1 (l.getD i iD).1) 8 (fun r : Fd × Fd => r.2 = g ∧ Cs R n0 T c f0 r.1 ∧ lo ≤ r.1.1 ∧ ∀ i, i < l.length → Inn r.1 (l.getD i iD).1) ⟨rfl, rfl, by omega, h, by simp only; omega, fun i hi => by omega⟩ (by omega) ?_ (fun k v h => by have := h.2.2.1; omega) ?_
  · rintro ⟨f1, g1⟩ ⟨rfl, r1, r2, r3⟩
    refine hG f1 r1 r2 (fun x hx => ?_)
    obtain ⟨i, hi, e⟩ := List.mem_iff_getElem.1 hx
    have := r3 i hi
    rw [List.getD_eq_getElem?_getD, List.getElem?_eq_getElem hi, Option.getD_some, e] at this
    exact this
  · rintro j ⟨i, f1, g1⟩ ⟨e1, e2, hj, r1, r2, r3⟩
    simp only at e1 e2 r1 r2 r3 ⊢
    subst e1 e2
    by_cases cj : (j : Int) < l.length
    case neg =>
      right
      rw [dF cj, cnd_f]
      exact ⟨_, rfl, rfl, r1, r2, fun i hi => r3 i (by omega)⟩
    left
    obtain ⟨x, hx⟩ : ∃ x, l.getD j iD = x := ⟨_, rfl⟩
    have hxm : x ∈ l := by rw [← hx]; exact getD_memI (by omega)
    obtain ⟨m1, m2, m3⟩ := hm x hxm
    have e := rComes_eq N hN r1.fi (by omega) x (fun _ => by omega)
    have e' : W_ref13_Comes N (f1, Prod.fst (List.getD l j ((0 : Int), [])), Prod.snd (List.getD l j ((0 : Int), []))) = some (comesM f1 x) := by
      rw [show List.getD l j ((0 : Int), []) = x from hx]; exact e
    rw [dT cj, cnd_t, dT (show (0 : Int) ≤ (j : Int) by omega), Bool.and_self, cnd_t, Int.toNat_natCast, e', obind_s, wr_m (z := (j : Int) + 1) (by omega) (by omega)]
    refine ⟨_, rfl, by simp only; omega, rfl, by omega, r1.comes x m3 (by omega) (by omega), by have := (comes_Le f1 x).1; simp only; omega, fun i hi => ?_⟩
    by_cases ci : i = j
    · subst ci
      rw [hx]
      exact Inn_comes x r1.f1 ⟨by omega, by omega⟩ (hR _ (getF_memI m3)) (by omega)
    · exact (r3 i (by omega)).comes x
theorem round_spans (N : Nat) (hN : 2000 ≤ N) {R : List It} {n0 T c lo : Int} {C : Nat} {f0 f : Fd} {g : Fd} (h : Cs R n0 T c f0 f) (hlo : lo ≤ f.1) (h1 : 1 ≤ lo) (hC : C ≤ 8) (hK : lo + C ≤ 201) (hin : ∀ x ∈ itF R lo C, Inn f x.1) {β : Type} {G : Fd × Fd → Option β} {Q : Option β → Prop} (hG : ∀ f1, Cs R n0 T c f0 f1 → lo + C ≤ f1.1 → Q (G (f1, g))) :
    Q (obind (loopN N (fun (v : Int × Fd × Fd) => cnd (decide (v.1 < (↑(List.length (noF R lo C)) : Int))) (cnd (decide ((0 : Int) ≤ v.1) && decide (v.1 < (↑(List.length (noF R lo C)) : Int))) (cnd (decide ((0 : Int) ≤ v.1) && decide (v.1 < (↑(List.length (noF R lo C)) : Int))) (obind (W_ref13_Notes N (v.2.1, Prod.fst (List.getD (noF R lo C) (Int.toNat v.1) ((0 : Int), (0 : Int))), Prod.snd (List.getD (noF R lo C) (Int.toNat v.1) ((0 : Int), (0 : Int))))) fun (b : Fd) => some (Sum.inl (wr IntKind.i64 (v.1 + (1 : Int)), b, v.2.2))) none) none) (some (Sum.inr v.2))) ((0 : Int), f, g)) G) := by
  obtain ⟨vs, hhi, hl⟩ := noF_ok (R := R) h1 C (by omega)
  have hm := noF_sub R lo C
  have hc := noF_cov R lo h1 C
  generalize noF R lo C = l at *
  have stay : ∀ (j : Nat) (f1 : Fd), j ≤ l.length → Cs R n0 T c f0 f1 → lo ≤ f1.1 → (∀ x ∈ itF R lo C, Inn f1 x.1) → (∀ i, i < j → (l.getD i ((0 : Int), (0 : Int))).2 < f1.1) → f1.1 < lo + C → ∃ i, j ≤ i ∧ i < l.length ∧ (l.getD i ((0 : Int), (0 : Int))).1 ≤ f1.1 ∧ f1.1 ≤ (l.getD i ((0 : Int), (0 : Int))).2 := by
    intro j f1 hj r1 r2 r3 r4 hlt
    obtain ⟨t, ht, t1, t2⟩ := hc f1.1 (by omega) r2 hlt (r1.lacks r2 hlt r3)
    obtain ⟨i, hi, e⟩ := List.mem_iff_getElem.1 ht
    have eg : l.getD i ((0 : Int), (0 : Int)) = t := by rw [List.getD_eq_getElem?_getD, List.getElem?_eq_getElem hi, Option.getD_some, e]
    refine ⟨i, ?_, hi, by rw [eg]; exact t1, by rw [eg]; exact t2⟩
    by_cases q : j ≤ i
    · exact q
    · have := r4 i (by omega); rw [eg] at this; omega
  refine loop_G (N := N) Q (fun j (v : Int × Fd × Fd) => v.1 = j ∧ v.2.2 = g ∧ j ≤ l.length ∧ Cs R n0 T c f0 v.2.1 ∧ lo ≤ v.2.1.1 ∧ (∀ x ∈ itF R lo C, Inn v.2.1 x.1) ∧ ∀ i, i < j → (l.getD i ((0 : Int), (0 : Int))).2 < v.2.1.1) 8 (fun r : Fd × Fd => r.2 = g ∧ Cs R n0 T c f0 r.1 ∧ lo + C ≤ r.1.1) ⟨rfl, rfl, by omega, h, hlo, hin, fun i hi => by omega⟩ (by omega) ?_ (fun k v h => by have := h.2.2.1; omega) ?_
  · rintro ⟨f1, g1⟩ ⟨rfl, r1, r2⟩
    exact hG f1 r1 r2
  · rintro j ⟨i, f1, g1⟩ ⟨e1, e2, hj, r1, r2, r3, r4⟩
    simp only at e1 e2 r1 r2 r3 r4 ⊢
    subst e1 e2
    by_cases cj : (j : Int) < l.length
    case neg =>
      right
      rw [dF cj, cnd_f]
      refine ⟨_, rfl, rfl, r1, ?_⟩
      try simp only
      by_cases q : f1.1 < lo + C
      · obtain ⟨i, i1, i2, _⟩ := stay j f1 hj r1 r2 r3 r4 q
        omega
      · omega
    left
    obtain ⟨x, hx⟩ : ∃ x, l.getD j ((0 : Int), (0 : Int)) = x := ⟨_, rfl⟩
    have hxm : x ∈ l := by rw [← hx, List.getD_eq_getElem?_getD, List.getElem?_eq_getElem (by omega)]; exact List.getElem_mem (by omega)
    obtain ⟨m1, m2, m3⟩ := hm x hxm
    have hx12 := (vs.1 x hxm).2.1
    have e' : W_ref13_Notes N (f1, Prod.fst (List.getD l j ((0 : Int), (0 : Int))), Prod.snd (List.getD l j ((0 : Int), (0 : Int)))) = some (notesM f1 x.1 x.2) := by
      rw [hx]; exact rNotes_eq N hN r1.fi (by omega) x.1 x.2 (fun _ => by omega)
    rw [dT cj, cnd_t, dT (show (0 : Int) ≤ (j : Int) by omega), Bool.and_self, cnd_t, cnd_t, Int.toNat_natCast, e', obind_s, wr_m (z := (j : Int) + 1) (by omega) (by omega)]
    have hle := (notes_Le f1 x.1 x.2).1
    refine ⟨_, rfl, by simp only; omega, rfl, by omega, r1.notes x.1 x.2 (by omega) m3, by simp only; omega, fun y hy => (r3 y hy).notes _ _, fun i hi => ?_⟩
    by_cases ci : i = j
    · subst ci
      rw [hx]
      try simp only
      by_cases q : x.2 < f1.1
      · omega
      · have q1 : x.1 ≤ f1.1 := by
          obtain ⟨i2, i3, i4, i5, i6⟩ := stay i f1 hj r1 r2 r3 r4 (by omega)
          by_cases qi : i2 = i
          · rw [qi, hx] at i5; exact i5
          · have pw := List.pairwise_iff_getElem.1 vs.2 i i2 (by omega) i4 (by omega)
            have ea : l[i]'(by omega) = x := by rw [← hx, List.getD_eq_getElem?_getD, List.getElem?_eq_getElem (by omega), Option.getD_some]
            have eb : l[i2]'i4 = l.getD i2 ((0 : Int), (0 : Int)) := by rw [List.getD_eq_getElem?_getD, List.getElem?_eq_getElem i4, Option.getD_some]
            rw [ea, eb] at pw
            have pw' : x.2 + 1 < (l.getD i2 ((0 : Int), (0 : Int))).1 := pw
            omega
        exact notes_past r1.fi x.1 x.2 (by omega) q1 (by omega) (by omega) (by omega)
    · have := r4 i (by omega)
      simp only; omega
theorem law_aux (N : Nat) (hN : 2000 ≤ N) (l l2 : List Int) (hel : ∀ x ∈ l, 0 ≤ x ∧ x ≤ 255) (hel2 : ∀ x ∈ l2, 0 ≤ x ∧ x ≤ 255) : W_law17_NakCatches N (l, l2) = some true := by
  unfold W_law17_NakCatches V_law17_NakCatches
  try simp only
  by_cases h60 : (60 : Int) < l.length
  · rw [dT h60, cnd_t]
  rw [dF h60, cnd_f]
  by_cases h61 : (60 : Int) < l2.length
  · rw [dT h61, cnd_t]
  rw [dF h61, cnd_f]
  have hM : W_Made N l = some (l, 0) := rfl
  have hM2 : W_Made N l2 = some (l2, 0) := rfl
  obtain ⟨f, n', c, e, hf, hs, hA, h1, hc⟩ := Feed_FI N (by omega) l hel
  obtain ⟨g, n2', c2, e2, hg, hs2, hA2, g1, hc2⟩ := Feed_FI N (by omega) l2 hel2
  rw [hM, obind_s, e, obind_s, hM2, obind_s, e2, obind_s]
  try simp only
  have hnx := hf.nx (by omega)
  have hgx := hg.nx (by omega)
  have hfp := hf.p h1
  have hgp := hg.p g1
  rw [wr_m (z := max f.1 g.1 - 1) (by omega) (by omega)]
  obtain ⟨f0, hf0⟩ : ∃ f0 : Fd, (f.1, max f.1 g.1 - 1, f.2.2.1, ([] : List It), f.2.2.2.2.1, (0 : Int), (0 : Int)) = f0 := ⟨_, rfl⟩
  have hC0 : Cs g.2.2.1 f.1 1000000 c f0 f0 := by
    subst hf0
    refine ⟨⟨by simp only; omega, ⟨by simp only; omega, by simp only; omega⟩, fun _ => ⟨hfp.nx, hfp.rk, hfp.rl, trivial, hfp.ch, hfp.c0⟩, ⟨by simp, by simp⟩, fun q => by simp only at q; omega⟩, trivial, ⟨fun x hx => by simp at hx, fun x hx => ?_, fun e he => .inl ?_⟩, Le.refl _, h1⟩
    · have := hfp.rk.mem x hx
      exact ⟨.inl (by omega), by omega⟩
    · exact (hfp.ch.mem e he).2.2
  have hw0 : f0.2.2.2.1 = [] := by subst hf0; rfl
  have ht0 : f0.2.1 = max f.1 g.1 - 1 := by subst hf0; rfl
  have hn0 : f0.1 = f.1 := by subst hf0; rfl
  have hl0 : f0.2.2.2.2.1 = f.2.2.2.2.1 := by subst hf0; rfl
  rw [hf0]
  have hch0 := hfp.ch
  rw [← hl0, ← hn0] at hch0
  rw [← hl0]
  rw [← hn0] at hC0
  have hRl := hgp.rl
  have hRt : ∀ w ∈ g.2.2.1, w.2.length ≤ 12 := hA2.r
  refine loop_G (N := N) (fun o => o = some true) (fun k (v : Int × Fd × Fd) => v.1 = k ∧ v.2.2 = g ∧ k ≤ 40 ∧ Cs g.2.2.1 f0.1 1000000 c f0 v.2.1 ∧ v.2.1.2.2.2.1 = [] ∧ (f0.1 + 8 * k ≤ v.2.1.1 ∨ g.1 ≤ v.2.1.1)) 40 (fun r : (Fd × Fd) ⊕ Bool => ∃ f1, r = .inl (f1, g) ∧ Cs g.2.2.1 f0.1 1000000 c f0 f1 ∧ g.1 ≤ f1.1) ⟨rfl, rfl, by omega, hC0, hw0, .inl (by show f0.1 + 8 * ((0 : Nat) : Int) ≤ f0.1; omega)⟩ (by omega) ?_ (fun k v h => h.2.2.1) ?_
  · rintro r ⟨f1, rfl, r1, r2⟩
    rw [selim_l]
    have hp := r1.fi.p r1.f1
    have hnx1 := r1.fi.nx (by omega)
    obtain ⟨_, _, ev, hev⟩ := r1.le
    have hch := hp.ch
    rw [hev] at hch
    have hfrom := Ch.from hch0 hch
    have hll := hp.ch.len
    have hc1 := hp.c0
    have hL : f0.2.2.2.2.1.length ≤ f1.2.2.2.2.1.length := by rw [hev, List.length_append]; omega
    refine loop_G (N := N) (fun o => o = some true) (fun k (v : Int × Fd × Fd) => v = (((f0.2.2.2.2.1.length + k : Nat) : Int), f1, g) ∧ f0.2.2.2.2.1.length + k ≤ f1.2.2.2.2.1.length) 300 (fun r : (Fd × Fd) ⊕ Bool => r = .inl (f1, g)) ⟨by simp, by omega⟩ (by omega) ?_ (fun k v h => by have := h.2; omega) ?_
    · rintro r rfl
      rw [selim_l, dT r2]
    · rintro k v ⟨rfl, hk⟩
      try simp only
      obtain ⟨j, hj⟩ : ∃ j, f0.2.2.2.2.1.length + k = j := ⟨_, rfl⟩
      rw [hj] at hk ⊢
      by_cases cj : (j : Int) < f1.2.2.2.2.1.length
      case neg => right; rw [dF cj, cnd_f]; exact ⟨_, rfl, rfl⟩
      left
      obtain ⟨x, hx⟩ : ∃ x, f1.2.2.2.2.1.getD j eD = x := ⟨_, rfl⟩
      have hxa : x ∈ f1.2.2.2.2.1 := by rw [← hx]; exact getD_memE (by omega)
      have hxe : x ∈ ev := by
        have : x = ev.getD k eD := by
          rw [← hx, hev, ← hj, List.getD_eq_getElem?_getD, List.getElem?_append_right (by omega), Nat.add_sub_cancel_left, ← List.getD_eq_getElem?_getD]
        rw [this]
        refine getD_memE ?_
        have := congrArg List.length hev
        rw [List.length_append] at this
        omega
      obtain ⟨x1, x2, x3⟩ := hfrom.mem x hxe
      have hq := r1.fa.l x hxa
      rw [dT cj, cnd_t, dT (show (0 : Int) ≤ (j : Int) by omega), Bool.and_self, cnd_t, Int.toNat_natCast, show List.getD f1.2.2.2.2.1 j ((0 : Int), (0 : Int), (0 : Int), [], (0 : Int)) = x from hx]
      refine loop_G (N := N) (fun o => ∃ y, o = some (.inl y : (Int × Fd × Fd) ⊕ ((Fd × Fd) ⊕ Bool)) ∧ y = (((f0.2.2.2.2.1.length + (k + 1) : Nat) : Int), f1, g) ∧ f0.2.2.2.2.1.length + (k + 1) ≤ f1.2.2.2.2.1.length) (fun i (v : Int × Fd × Fd × A1_) => v = (x.2.1 + (i : Int), f1, g, x) ∧ x.2.1 + (i : Int) ≤ x.2.2.1 + 1) 300 (fun r : (Fd × Fd) ⊕ Bool => r = .inl (f1, g)) ⟨by simp, by omega⟩ (by omega) ?_ (fun i v h => by have := h.2; omega) ?_
      · rintro r rfl
        rw [selim_l, wr_m (by omega) (by omega)]
        exact ⟨_, rfl, by rw [← hj]; simp; omega, by omega⟩
      · rintro i v ⟨rfl, hi⟩
        try simp only
        by_cases ci : x.2.1 + (i : Int) ≤ x.2.2.1
        case neg => right; rw [dF ci, cnd_f]; exact ⟨_, rfl, rfl⟩
        left
        rw [dT ci, cnd_t, rGet_eq N _ _ hN (by omega), obind_s, wr_m (z := x.2.1 + (i : Int) + 1) (by omega) (by omega)]
        rcases hq with q | ⟨q1, q2, q3⟩ | ⟨q1, q2⟩
        · omega
        · rw [show x.2.1 + (i : Int) = x.2.1 by omega, q3, dT q1]
          simp only [Bool.not_true, beq_self_eq_true, cnd_f, cnd_t]
          exact ⟨_, rfl, by rw [show ((i + 1 : Nat) : Int) = i + 1 by omega, show x.2.1 + ((i : Int) + 1) = x.2.1 + 1 by omega], by omega⟩
        · rw [q2 _ (by omega) ci, dF (by omega)]
          simp only [Bool.not_true, beq_self_eq_true, cnd_f]
          exact ⟨_, rfl, by rw [show ((i + 1 : Nat) : Int) = i + 1 by omega, Int.add_assoc], by omega⟩
  · rintro k ⟨i, f1, g'⟩ ⟨e1, e2, hk, r1, r2, r3⟩
    simp only at e1 e2 r1 r2 r3 ⊢
    subst e1 e2
    by_cases ck : (k : Int) < 40
    case neg =>
      right
      rw [dF ck, cnd_f]
      exact ⟨_, rfl, f1, rfl, r1, by omega⟩
    rw [dT ck, cnd_t]
    by_cases cg : f1.1 < g'.1
    case neg =>
      right
      rw [dF cg, cnd_f]
      exact ⟨_, rfl, f1, rfl, r1, by omega⟩
    left
    rw [dT cg, cnd_t]
    have f11 := r1.f1
    have htop := r1.le.2.1
    have hwt : wantsM f1 = (true, f1.1, f1.2.1) := by
      unfold wantsM
      rw [r2]
      try simp only
      rw [if_neg (by omega)]
    rw [pWants_eq N r1.fi.n0 r1.fi.p (fun q => (r1.fi.z q).2.1) (by omega), obind_s, hwt]
    try simp only
    rw [Bool.not_true, cnd_f, dF (by simp), cnd_f, pServes N g' _ _ hN hRl g1 (by omega) (by omega) (by omega), obind_s]
    try simp only
    obtain ⟨C, hC⟩ : ∃ C, cnt g' f1.1 f1.2.1 = C := ⟨_, rfl⟩
    have hCe : (C : Int) = min (g'.1 - 1) (f1.1 + 7) + 1 - f1.1 := by rw [← hC]; unfold cnt; omega
    rw [hC]
    have hfp1 := r1.fi.p f11
    have s1 : Cs g'.2.2.1 f0.1 (f1.1 + C - 1) c f0 f1 := ⟨r1.fi, r1.fs, ⟨fun x hx => by rw [r2] at hx; simp at hx, fun x hx => ⟨(r1.fa.r x hx).1, by have := hfp1.rk.mem x hx; omega⟩, r1.fa.l⟩, r1.le, r1.f1⟩
    refine round_texts N hN (R := g'.2.2.1) (T := f1.1 + C - 1) (C := C) (lo := f1.1) s1 rfl (by omega) (by omega) (by omega) hRt (Q := fun o => ∃ y, o = some (.inl y : (Int × Fd × Fd) ⊕ ((Fd × Fd) ⊕ Bool)) ∧ (y.1 = ((k + 1 : Nat) : Int) ∧ y.2.2 = g' ∧ k + 1 ≤ 40 ∧ Cs g'.2.2.1 f0.1 1000000 c f0 y.2.1 ∧ y.2.1.2.2.2.1 = [] ∧ (f0.1 + 8 * ((k + 1 : Nat) : Int) ≤ y.2.1.1 ∨ g'.1 ≤ y.2.1.1))) ?_
    intro f2 s2 lo2 in2
    refine round_spans N hN (R := g'.2.2.1) (T := f1.1 + C - 1) (C := C) (lo := f1.1) s2 lo2 f11 (by omega) (by omega) in2 (Q := fun o => ∃ y, o = some (.inl y : (Int × Fd × Fd) ⊕ ((Fd × Fd) ⊕ Bool)) ∧ (y.1 = ((k + 1 : Nat) : Int) ∧ y.2.2 = g' ∧ k + 1 ≤ 40 ∧ Cs g'.2.2.1 f0.1 1000000 c f0 y.2.1 ∧ y.2.1.2.2.2.1 = [] ∧ (f0.1 + 8 * ((k + 1 : Nat) : Int) ≤ y.2.1.1 ∨ g'.1 ≤ y.2.1.1))) ?_
    intro f3 s3 lo3
    try simp only
    rw [dF (by omega), cnd_f, wr_m (z := (k : Int) + 1) (by omega) (by omega)]
    refine ⟨_, rfl, by simp only; omega, rfl, by omega, ⟨s3.fi, s3.fs, ⟨fun x hx => ⟨(s3.fa.w x hx).1, by have := (s3.fa.w x hx).2; omega⟩, fun x hx => ⟨(s3.fa.r x hx).1, by have := (s3.fa.r x hx).2; omega⟩, s3.fa.l⟩, s3.le, s3.f1⟩, ?_, ?_⟩
    · simp only
      have hfs : Wk (f3.1 + 1) (min 200 (f3.1 + 7)) f3.2.2.2.1 := s3.fs
      have hfa := s3.fa.w
      cases hW : f3.2.2.2.1 with
      | nil => rfl
      | cons w r =>
        rw [hW] at hfs hfa
        have := (hfa w (by simp)).2
        have := hfs.1
        omega
    · simp only; omega
def NN : Nat := 2000
theorem law_true (y0 : List Int) (y1 : List Int) (h0 : Twf (.list (.int .u8)) y0) (h1 : Twf (.list (.int .u8)) y1) : W_law17_NakCatches NN (y0, y1) = some true := by
  refine law_aux NN (Nat.le_refl _) y0 y1 (fun x hx => ?_) (fun x hx => ?_)
  · have := h0.2 x hx
    exact ⟨this.1, this.2⟩
  · have := h1.2 x hx
    exact ⟨this.1, this.2⟩

theorem spec (y0 : List Int) (y1 : List Int) (h0 : Twf (.list (.int .u8)) y0) (h1 : Twf (.list (.int .u8)) y1) : Spec2 P0 5 [valW (.list (.int .u8)) y0, valW (.list (.int .u8)) y1] [] (.bs true) [] [] := (con_law17_NakCatches_ok NN).2 (y0, y1) true (law_true y0 y1 h0 h1)
theorem lifted (os : Os) (started : os.Started) (H : Type) (enc : TypeId × Value → H) :
    ReturnsInHanded {} Try.checked os 5 .any (Rows.nakCatchesSpec.pre6 enc Try.prog Try.f5 Rows.nakCatchesRow.domain false) (Rows.nakCatchesSpec.post enc Try.prog Try.f5 false true false false) := by
  refine returnsInHanded_of_change (C := Try.checked) own started (by kernel_rfl) Try.func5
    (ChangeSpec.witness6 (enc := enc) (C := Try.checked) false ⟨#[], #[.slice none 0 0, .slice none 0 0], []⟩ 8 (by kernel_rfl) (by kernel_rfl) (by kernel_rfl) (by kernel_rfl)) ?_
  intro W base args ds gs before hval0 hW hcnd _
  have hval : ∀ (j : Nat) t v, Try.f5.params[j]? = some t → args[j]? = some v → Value.okWide Try.prog W .any base t v := hval0
  have hW' := hW
  obtain ⟨p, q, hA0, hV, rfl, hfz, hnd⟩ := hW
  have hA : DataW.TrodAll enc Try.prog W 0 (fun _ => true) true Try.f5.params.toList args.toList ds p := hA0
  rw [Try.params5] at hA hval
  obtain ⟨v0, vs0, d0, ds0, p0, q0, hargs, rfl, rfl, h0, r0⟩ := trodAll_cons hA
  obtain ⟨v1, vs1, d1, ds1, p1, q1, rfl, rfl, rfl, h1, r1⟩ := trodAll_cons r0
  obtain ⟨rfl, rfl, rfl⟩ := trodAll_nil r1
  obtain rfl : args = #[v0, v1] := by cases args; simp_all
  obtain ⟨rfl, rfl⟩ := trodVars_none hV
  have k0 := h0
  have lt0 : ∀ x ∈ p0, x.block < W.heap.size := by obtain ⟨m, hm⟩ := k0; exact DataW.trod_lt m _ _ _ hm
  obtain ⟨y0, rp0, wf0⟩ := arg_ok (n := 12) (ty := (.list (.int .u8))) (by kernel_rfl) (hval 0 _ v0 rfl rfl) h0
  have k1 := h1
  have lt1 : ∀ x ∈ p1, x.block < W.heap.size := by obtain ⟨m, hm⟩ := k1; exact DataW.trod_lt m _ _ _ hm
  obtain ⟨y1, rp1, wf1⟩ := arg_ok (n := 12) (ty := (.list (.int .u8))) (by kernel_rfl) (hval 1 _ v1 rfl rfl) h1
  clear hA0 hval0
  refine (law_of2 (spec y0 y1 wf0 wf1) W #[v0, v1] (.cons rp0 (.cons rp1 .nil))).mono fun e W' ⟨he, bel⟩ => ?_
  subst he
  exact ⟨_, rfl, _, _, _, [], _, [], hW', trodAll_mk1 (shut_bool Try.underlying4 _), (trodAll_cons_mk (Below.trod laidOut (by kernel_rfl) (of_decide_eq_true (by kernel_rfl)) k0 bel lt0) (trodAll_cons_mk (Below.trod laidOut (by kernel_rfl) (of_decide_eq_true (by kernel_rfl)) k1 bel lt1) trodAll_mk0)), rfl, bel.frame _, fun h => by cases h⟩

theorem over : Rows.nakCatchesRow.holds Try.pinned (OpenSpec.ofChange Rows.nakCatchesSpec) :=
  OpenClaim.holds_of_wide 5 Try.f5 rfl rfl rfl rfl rfl rfl rfl ⟨rfl, rfl, rfl, rfl, rfl⟩ rfl rfl rfl rfl rfl (by kernel_rfl) Try.func5 (by kernel_rfl)
    (of_decide_eq_true (by kernel_rfl)) (by unfold Func.isWrapper; first | (rw [if_pos (by decide +kernel)]; kernel_rfl) | (rw [if_neg (by decide +kernel)]; exact ⟨rfl, rfl⟩))
    (fun os started H enc _ => lifted os started H enc)

theorem holds : Rows.NakCatchesSaid := over
end Go.Proofs.Ytigmbfeeodggbaa.nakCatchesX
