/- TieAges: for all arguments the call returns true. The law is brought to a function of Lean's own (W_..) by the machine of the texts beside it, and that is reckoned; no condition. -/
import Derived.Test.YthpfomhimmppiaaExtIn
import Derived.Test.YthpfomhimmppiaaExtL
import Derived.Test.YthpfomhimmppiaaRows
import Derived.WalkKit
import Derived.ProofKit
import Derived.OpenShut
import Derived.ShutString
import Derived.ChangeOld
import Derived.Below
import Derived.Shelf.RegionOpenPlain
import Derived.Deep.RegionLaw
import Derived.Lib.Walk
namespace Go.Proofs.Ythpfomhimmppiaa.tieAgesX
open Go.Abs Go.RowKit Go.ChangeShapes Go.WideShapes Go.ChangeAt
set_option maxRecDepth 100000
set_option linter.unusedVariables false
set_option linter.unusedSimpArgs false
abbrev T_ : Ty := (.pair (.int .i64) (.pair (.int .i64) (.pair (.int .i64) (.pair (.int .i64) (.pair (.int .i64) (.pair (.int .i64) (.pair (.list (.int .i64)) (.pair (.int .i64) (.pair (.int .i64) .str)))))))))
abbrev M_ : Type := Int × Int × Int × Int × Int × Int × (List Int) × Int × Int × List UInt8
abbrev A0_ : Type := Int × Int × Int × Int × Int × List Int × Int × Int × Int × Int × Int × List (Int × Int × Int)
abbrev A1_ : Type := Int × Int × Int × Int × Int × Int × List Int × Int × Int × List UInt8
abbrev A2_ : Type := List (Int × Int × Int) × Bool
abbrev A3_ : Type := List (Int × Int × Int) × Int
abbrev T0_ : Ty := .pair (.int .i64) (.pair (.int .i64) (.pair (.int .i64) (.pair (.int .i64) (.pair (.int .i64) (.pair (.int .i64) (.pair (.list (.int .i64)) (.pair (.int .i64) (.pair (.int .i64) (.pair (.int .i64) (.pair (.int .i64) (.pair (.int .i64) (.list (.agg (.pair (.int .i64) (.pair (.int .i64) (.int .i64))))))))))))))))
abbrev T1_ : Ty := .agg (.pair (.int .i64) (.pair (.int .i64) (.int .i64)))
abbrev T2_ : Ty := .pair (.list (.int .u8)) (.int .i64)
abbrev T3_ : Ty := .pair (.int .i64) (.pair (.int .i64) (.int .i64))
noncomputable abbrev P0 : Program := Try.prog
noncomputable def bodyOf (fn : Func) : Code := fn.body.getD .skip
def L0 : Lend := fun f => aget [] [(66, [0]), (81, [0])] f
def kpL (l : List Bool) : Nat → Bool := fun j => l.getD j true
theorem own : ownKnob Try.prog.godebug = none := by kernel_rfl
theorem laidOut : laidOutB Try.prog = true := by kernel_rfl
theorem mixed : P0.follows .mixedOrders = true := by decide +kernel
theorem progOk_ : progOk P0 = true := by decide +kernel
set_option linter.unusedSimpArgs false
set_option linter.unusedVariables false

theorem iqU81 : Try.prog.underlying 25 = some (.slice 73) := by kernel_rfl
theorem iqI81 : Try.prog.underlying 3 = some (.int .i64) := by kernel_rfl
theorem iqE81 : ∃ (inf : TypeInfo) (z : Value), Try.prog.info? 73 = some inf ∧ inf.size = 3 ∧ inf.zero = some z ∧ z.cells.size = 3 ∧ inf.bytes = 24 := insE_of (by kernel_rfl)
set_option maxHeartbeats 4000000 in
theorem iqShift81 {inf : TypeInfo} (hinf : Try.prog.info? 73 = some inf) (hsz : inf.size = 3) (w : World) (b i n c vb vo vc : Nat) (arr : Array Value) (tb : Nat) (fz : Nat × Nat) (cs vs : List Value) (hmem : w.heap[b]? = some (.cells arr tb fz)) (hf : ∀ j, j < arr.size → ¬ (fz.1 ≤ j ∧ j < fz.2))
    (hi : i < n) (hroom : n + 1 ≤ c) (hsize : arr.size = c * 3) (hby : (n + 1) * 24 ≤ 140737488355328) (hbn : vb ≠ b)
    (hcs : cs = (arr.toList.take (n * 3)).drop (i * 3)) (hvl : vs.length = 3) (hvs : ∀ (j : Nat) (u : Value), vs[j]? = some u → w.cell? ⟨vb, vo + j, none⟩ = some u) (h1c : ∀ u ∈ cs, u.oneCell' = true) (h1v : ∀ u ∈ vs, u.oneCell' = true)
    (hov : ∀ y, (callFunc 85 #[.slice (some ⟨vb, vo, none⟩) 1 vc, .slice (some ⟨b, (i + 1) * 3, none⟩) (n - i) y]).run Try.prog w = .ok (.value (.bool false)) w) (A1 A2 : Array Value)
    (hA1 : A1 = (arr.toList.take ((i + 1) * 3) ++ (cs ++ arr.toList.drop ((i + 1) * 3 + cs.length))).toArray) (hA2 : A2 = (A1.toList.take (i * 3) ++ (vs ++ A1.toList.drop (i * 3 + vs.length))).toArray) :
    Calls Try.prog 81 #[.slice (some ⟨b, 0, none⟩) n c, .int .i64 (i : Nat), .slice (some ⟨vb, vo, none⟩) 1 vc] w fun e w' => e = .returned (.slice (some ⟨b, 0, none⟩) (n + 1) c) ∧ w' = (w.drew.setRow b A1).setRow b A2 := by
  have mixed := mixed
  have hz2 : ¬ ((i : Int) = (n : Int)) := by omega
  have hw1 : IntKind.i64.wrap ((i : Int) + (1 : Int)) = (i : Int) + (1 : Int) := by rw [IntKind.wrap_i64]; omega
  have hw2 : IntKind.i64.wrap ((n : Int) + (1 : Int)) = (n : Int) + (1 : Int) := by rw [IntKind.wrap_i64]; omega
  have hcl : cs.length = (n - i) * 3 := by rw [hcs]; simp; omega
  have hA1s : A1.size = arr.size := by rw [hA1]; simp [hcl]; omega
  have hcp1 : ∀ ty dc sc, (Builtin.copy_ #[25, 25] ty #[.slice (some ⟨b, (i + 1) * 3, none⟩) (n - i) dc, .slice (some ⟨b, i * 3, none⟩) (n + 1 - i) sc]).run Try.prog w.drew = .ok (.int .i64 ((n - i : Nat) : Int)) (w.drew.setRow b A1) := fun ty dc sc => by
    rw [hA1]
    refine run_copyR iqU81 hinf w.drew (fz := fz) hmem hf _ _ _ (m := n + 1 - i) (k := n - i) (by omega) (lenOf_slice _ _ _ _) (run_firstCells_some w.drew _ _ _ _ _ _ (by rw [hsz]; exact hcl) (fun j v hj => ?_)) (by omega) h1c
    rw [hcs, List.getElem?_drop, List.getElem?_take] at hj
    split at hj
    · have : (⟨b, i * 3, none⟩ : Addr).add j = ⟨b, i * 3 + j, none⟩ := by unfold Addr.add; split <;> simp_all
      rw [this]
      have e : w.drew.cell? ⟨b, i * 3 + j, none⟩ = arr[i * 3 + j]? := by simp [World.cell?, show w.drew.heap = w.heap from rfl, hmem]
      rw [e]; simpa using hj
    · cases hj
  have hcp2 : ∀ (W : World), W.heap = (w.drew.setRow b A1).heap → ∀ ty dc, (Builtin.copy_ #[25, 25] ty #[.slice (some ⟨b, i * 3, none⟩) (n + 1 - i) dc, .slice (some ⟨vb, vo, none⟩) 1 vc]).run Try.prog W = .ok (.int .i64 ((1 : Nat) : Int)) (W.setRow b A2) := fun W hW ty dc => by
    rw [hA2]
    have hm1 : W.heap[b]? = some (.cells A1 tb fz) := by rw [hW]; exact setRow_heap w.drew b arr A1 tb fz hmem
    refine run_copyR iqU81 hinf W (fz := fz) hm1 (by rw [hA1s]; exact hf) _ _ _ (m := 1) (k := 1) (by omega) (lenOf_slice _ _ _ _) (run_firstCells_some W _ _ _ _ _ _ (by rw [hsz]; exact hvl) (fun j v hj => ?_)) (by omega) h1v
    have : (⟨vb, vo, none⟩ : Addr).add j = ⟨vb, vo + j, none⟩ := by unfold Addr.add; split <;> simp_all
    rw [this]
    have e : W.cell? ⟨vb, vo + j, none⟩ = w.cell? ⟨vb, vo + j, none⟩ := cell_congr (by rw [hW]; exact setRow_other w.drew b vb A1 hbn)
    rw [e]; exact hvs j v hj
  have hb1 : (0 : Int) ≤ (i : Int) + 1 := by omega
  have hin : i ≤ n := by omega
  have hb2 : ¬ (c = i + 1) := by omega
  have hb4 : ¬ (c = i) := by omega
  have hb3 : (i : Int) ≤ (n : Int) + 1 := by omega
  clear hcs hA1 hA2
  go_enter Try.func81, Try.ntmps81
  go_wp2_with (simp only [hov])
  go_region_law_o (refine step_copy_runR rfl _ _ 25 25 rfl _ _ (by simp [Act.eval, Act.put]) (by simp [Act.eval, Act.put]) (hcp1 _ _ _) ?_)
  go_wp2_with (at_builtin; refine wpList_copy_runR _ rfl _ _ 25 25 rfl _ _ rfl rfl (hcp2 _ rfl _ _) ?_)
  go_ret
  exact ⟨rfl, rfl⟩
set_option maxHeartbeats 4000000 in
theorem iqGrow81 {inf : TypeInfo} {z : Value} (hinf : Try.prog.info? 73 = some inf) (hsz : inf.size = 3) (hzz : inf.zero = some z) (hzs : z.cells.size = 3) (hbb : inf.bytes = 24) (w : World) (b i n c vb vo vc : Nat) (arr : Array Value) (tb : Nat) (fz : Nat × Nat) (cs vs : List Value) (hmem : w.heap[b]? = some (.cells arr tb fz))
    (hi : i < n) (hnc : n ≤ c) (hroom : ¬ (n + 1 ≤ c)) (hsize : arr.size = c * 3) (hby : (n + 1) * 24 ≤ 140737488355328) (va : Array Value) (tv : Nat) (fv : Nat × Nat) (hmemv : w.heap[vb]? = some (.cells va tv fv))
    (hcs : cs = (arr.toList.take (n * 3)).drop (i * 3)) (hvl : vs.length = 3) (hvs : ∀ (j : Nat) (u : Value), vs[j]? = some u → va[vo + j]? = some u) (h1c : ∀ u ∈ cs, u.oneCell' = true) (h1v : ∀ u ∈ vs, u.oneCell' = true)
    (G : Nat) (hG : G = grownCap w (n + 1) c 73) (ROW A1 A2 : Array Value)
    (hROW : ROW = (arr.toList.take (i * 3)).toArray ++ Builtin.zeroCells z.cells (n + 1 - i) ++ Builtin.zeroCells z.cells (G - (n + 1)))
    (hA1 : A1 = (ROW.toList.take (i * 3) ++ (vs ++ ROW.toList.drop (i * 3 + vs.length))).toArray) (hA2 : A2 = (A1.toList.take ((i + 1) * 3) ++ (cs ++ A1.toList.drop ((i + 1) * 3 + cs.length))).toArray) :
    Calls Try.prog 81 #[.slice (some ⟨b, 0, none⟩) n c, .int .i64 (i : Nat), .slice (some ⟨vb, vo, none⟩) 1 vc] w fun e w' => e = .returned (.slice (some ⟨w.heap.size, 0, none⟩) (n + 1) G) ∧ w' = (((w.drew.alloc (.cells ROW 73)).setRow w.heap.size A1).drew).setRow w.heap.size A2 := by
  have mixed := mixed
  have hz2 : ¬ ((i : Int) = (n : Int)) := by omega
  have hw1 : IntKind.i64.wrap ((i : Int) + (1 : Int)) = (i : Int) + (1 : Int) := by rw [IntKind.wrap_i64]; omega
  have hw2 : IntKind.i64.wrap ((n : Int) + (1 : Int)) = (n : Int) + (1 : Int) := by rw [IntKind.wrap_i64]; omega
  have hw3 : IntKind.i64.wrap ((n : Int) + (1 : Int) - (i : Int)) = (n : Int) + (1 : Int) - (i : Int) := by rw [IntKind.wrap_i64]; omega
  have hcl : cs.length = (n - i) * 3 := by rw [hcs]; simp; omega
  have hGn : n + 1 ≤ G := by rw [hG]; exact grownCap_ge w _ _ _
  have hbw : b < w.heap.size := (Array.getElem?_eq_some_iff.1 hmem).1
  have hvw : vb < w.heap.size := (Array.getElem?_eq_some_iff.1 hmemv).1
  have hzc : ∀ k, (Builtin.zeroCells z.cells k).size = k * 3 := fun k => by rw [size_zeroCells, hzs]
  have hRs : ROW.size = G * 3 := by
    rw [hROW]; simp only [Array.size_append, hzc, List.size_toArray, List.length_take, Array.length_toList]; omega
  have hA1s : A1.size = ROW.size := by rw [hA1]; simp [hvl]; omega
  have hold : (Builtin.firstCells inf.size i (.slice (some ⟨b, 0, none⟩) i c)).run Try.prog w.drew = .ok (arr.toList.take (i * 3)).toArray w.drew := by
    rw [hsz]
    refine run_firstCells_some w.drew 3 i ⟨b, 0, none⟩ i c (arr.toList.take (i * 3)) (by rw [List.length_take]; simp; omega) (fun j v hj => ?_)
    rw [List.getElem?_take] at hj
    split at hj
    · have : (⟨b, 0, none⟩ : Addr).add j = ⟨b, j, none⟩ := by unfold Addr.add; split <;> simp_all
      rw [this]
      have e : w.drew.cell? ⟨b, j, none⟩ = arr[j]? := by simp [World.cell?, show w.drew.heap = w.heap from rfl, hmem]
      rw [e]; simpa using hj
    · cases hj
  have hik : i + (n + 1 - i) = n + 1 := by omega
  have hkk : (n : Int) + 1 - (i : Int) = ((n + 1 - i : Nat) : Int) := by omega
  obtain ⟨W1, hW1⟩ : ∃ W1, W1 = w.drew.alloc (.cells ROW 73) := ⟨_, rfl⟩
  have hrz : ∀ ty, (Builtin.append_ #[25, 3] ty #[.slice (some ⟨b, 0, none⟩) i c, .int .i64 ((n : Int) + 1 - (i : Int))]).run Try.prog w = .ok (.slice (some ⟨w.heap.size, 0, none⟩) (n + 1) G) W1 := fun ty => by
    have hnx := nextslicecap_le (need := n + 1) (old := c) (by omega)
    have h := Lib.run_append_grow_zeros w 25 3 ty 73 inf z .i64 .i64 iqU81 iqI81 hinf hzz (some ⟨b, 0, none⟩) i c (arr.toList.take (i * 3)) hold (n + 1 - i) (by omega) (by omega) (by omega) (by omega) (by rw [hbb]; omega) (by rw [hbb, hik]; omega)
    rw [hik, ← hG, ← hROW, ← hW1] at h
    rw [hkk]
    exact h
  have hWn : W1.heap[w.heap.size]? = some (.cells ROW 73 (0, 0)) := by rw [hW1]; exact heap_alloc_new w.drew _
  have hWo : ∀ j, j < w.heap.size → W1.heap[j]? = w.heap[j]? := fun j hj => by rw [hW1]; exact heap_alloc_old w.drew _ hj
  have hcp1 : ∀ (W : World), W.heap = W1.heap → ∀ ty dc, (Builtin.copy_ #[25, 25] ty #[.slice (some ⟨w.heap.size, i * 3, none⟩) (n + 1 - i) dc, .slice (some ⟨vb, vo, none⟩) 1 vc]).run Try.prog W = .ok (.int .i64 ((1 : Nat) : Int)) (W.setRow w.heap.size A1) := fun W hW ty dc => by
    rw [hA1]
    refine run_copyR iqU81 hinf W (fz := (0, 0)) (by rw [hW]; exact hWn) (fun j _ hj => by simp at hj) _ _ _ (m := 1) (k := 1) (by omega) (lenOf_slice _ _ _ _) (run_firstCells_some W _ _ _ _ _ _ (by rw [hsz]; exact hvl) (fun j v hj => ?_)) (by omega) h1v
    have : (⟨vb, vo, none⟩ : Addr).add j = ⟨vb, vo + j, none⟩ := by unfold Addr.add; split <;> simp_all
    rw [this]
    have e : W.cell? ⟨vb, vo + j, none⟩ = va[vo + j]? := by simp [World.cell?, hW, hWo vb hvw, hmemv]
    rw [e]; exact hvs j v hj
  have hcp2 : ∀ (W : World), W.heap = (W1.setRow w.heap.size A1).heap → ∀ ty dc sc, (Builtin.copy_ #[25, 25] ty #[.slice (some ⟨w.heap.size, (i + 1) * 3, none⟩) (n - i) dc, .slice (some ⟨b, i * 3, none⟩) (n - i) sc]).run Try.prog W = .ok (.int .i64 ((n - i : Nat) : Int)) (W.setRow w.heap.size A2) := fun W hW ty dc sc => by
    rw [hA2]
    have hm1 : W.heap[w.heap.size]? = some (.cells A1 73 (0, 0)) := by rw [hW]; exact setRow_heap W1 w.heap.size ROW A1 73 (0, 0) hWn
    refine run_copyR iqU81 hinf W (fz := (0, 0)) hm1 (fun j _ hj => by simp at hj) _ _ _ (m := n - i) (k := n - i) (by omega) (lenOf_slice _ _ _ _) (run_firstCells_some W _ _ _ _ _ _ (by rw [hsz]; exact hcl) (fun j v hj => ?_)) (by omega) h1c
    rw [hcs, List.getElem?_drop, List.getElem?_take] at hj
    split at hj
    · have : (⟨b, i * 3, none⟩ : Addr).add j = ⟨b, i * 3 + j, none⟩ := by unfold Addr.add; split <;> simp_all
      rw [this]
      have e : W.cell? ⟨b, i * 3 + j, none⟩ = arr[i * 3 + j]? := by
        have e1 : W.heap[b]? = w.heap[b]? := by rw [hW, setRow_other W1 w.heap.size b A1 (by omega)]; exact hWo b hbw
        simp [World.cell?, e1, hmem]
      rw [e]; simpa using hj
    · cases hj
  have hb1 : (0 : Int) ≤ (i : Int) + 1 := by omega
  have hin : i ≤ n := by omega
  have hb2 : ¬ (G = i + 1) := by omega
  have hb4 : ¬ (c = i) := by omega
  have hb5 : ¬ (G = i) := by omega
  have hb3 : (i : Int) ≤ (n : Int) + 1 := by omega
  have hb6 : (c : Int) < (n : Int) + 1 := by omega
  have hb7 : i ≤ c := by omega
  rw [← hW1]
  clear hG hcs hA1 hA2 hW1 hold hROW hWn hWo hik hkk
  go_enter Try.func81, Try.ntmps81
  go_wp2_with (first
    | (at_builtin; refine Lib.wpList_append_run _ rfl _ _ _ _ rfl _ _ rfl rfl _ _ (hrz _) ?_)
    | (at_builtin; refine wpList_copy_runR _ rfl _ _ 25 25 rfl _ _ rfl rfl (hcp1 _ (by exact rfl) _ _) ?_))
  have hF : ((W1.setRow w.heap.size A1).drew).heap = (W1.setRow w.heap.size A1).heap := rfl
  go_region_law_o (refine step_copy_runR rfl _ _ 25 25 rfl (.slice (some ⟨w.heap.size, (i + 1) * 3, none⟩) (n - i) (G - (i + 1))) (.slice (some ⟨b, i * 3, none⟩) (n - i) (c - i)) (by simp [Act.eval, Act.put]) (by simp [Act.eval, Act.put]) (hcp2 _ hF 3 (G - (i + 1)) (c - i)) ?_)
  go_wp2
  go_ret
  exact ⟨rfl, rfl⟩
theorem insP81 : InsP Try.prog 81 73 3 24 := by
  intro w b i n c vb vo vc arr va tb tv fz fv vs hmem hsize hf hmemv hbn hvl hvs h1v h1c hi hnc hby
  obtain ⟨inf, z, hinf, hsz, hzz, hzs, hbb⟩ := iqE81
  obtain ⟨cs, hcs⟩ : ∃ cs, cs = (arr.toList.take (n * 3)).drop (i * 3) := ⟨_, rfl⟩
  have h1 : ∀ u ∈ cs, u.oneCell' = true := fun u hu => h1c u (by rw [hcs] at hu; exact List.mem_of_mem_drop hu)
  have hcl : cs.length = (n - i) * 3 := by rw [hcs]; simp; omega
  by_cases hroom : n + 1 ≤ c
  · have hvo : vo < va.size := by
      have := hvs 0 vs[0] (List.getElem?_eq_getElem (by omega))
      have := (Array.getElem?_eq_some_iff.1 this).1
      omega
    have hov : ∀ y, (callFunc 85 #[.slice (some ⟨vb, vo, none⟩) 1 vc, .slice (some ⟨b, (i + 1) * 3, none⟩) (n - i) y]).run Try.prog w = .ok (.value (.bool false)) w := fun y => by
      rw [run_callFunc_extern Try.func85 (by kernel_rfl) (by kernel_rfl) (by kernel_rfl) (e := Extern.SlicesOverlaps.overlaps #[25, 25] #[4]) (by kernel_rfl),
        overlaps_apart2 w 25 4 73 iqU81 3 (fun w => by rw [run_size hinf, hsz]) ⟨vb, vo, none⟩ ⟨b, (i + 1) * 3, none⟩ 1 vc (n - i) y hbn tv tb va.size arr.size (by simp [World.shape?, hmemv]) (by simp [World.shape?, hmem]) (by omega)
          (by have := hf ((i + 1) * 3) (by omega); simp only [World.frozen?, hmem]; simp; omega) (by have := hf arr.size (Nat.le_refl _); simp only [World.frozen?, hmem]; simp; omega)]
      rfl
    refine (iqShift81 hinf hsz w b i n c vb vo vc arr tb fz cs vs hmem (fun j hj => hf j (by omega)) hi hroom hsize hby hbn hcs hvl (fun j u hj => by simpa [World.cell?, hmemv] using hvs j u hj) h1 h1v hov _ _ rfl rfl).mono fun x w' => ?_
    rintro ⟨rfl, rfl⟩
    have hA1s : (arr.toList.take ((i + 1) * 3) ++ (cs ++ arr.toList.drop ((i + 1) * 3 + cs.length))).toArray.size = arr.size := by simp [hcl]; omega
    have hm1 := setRow_heap w.drew b arr (arr.toList.take ((i + 1) * 3) ++ (cs ++ arr.toList.drop ((i + 1) * 3 + cs.length))).toArray tb fz hmem
    generalize hA1 : (arr.toList.take ((i + 1) * 3) ++ (cs ++ arr.toList.drop ((i + 1) * 3 + cs.length))).toArray = A1 at *
    have hA2s : (A1.toList.take (i * 3) ++ (vs ++ A1.toList.drop (i * 3 + vs.length))).toArray.size = A1.size := by simp [hvl]; omega
    have hm2 := setRow_heap (w.drew.setRow b A1) b A1 (A1.toList.take (i * 3) ++ (vs ++ A1.toList.drop (i * 3 + vs.length))).toArray tb fz hm1
    refine ⟨b, c, tb, _, fz, rfl, rfl, rfl, rfl, hm2, fun j hj => hf j (by rw [hA2s, hA1s] at hj; exact hj), by rw [hA2s, hA1s]; exact hsize, hroom, ?_, .inl ⟨rfl, rfl, by rw [hA2s, hA1s], by rw [setRow_size, setRow_size]; rfl, fun j hj => ?_⟩⟩
    · subst hA1
      exact insShiftL arr.toList vs cs (i * 3) (n * 3) 3 ((i + 1) * 3) ((n + 1) * 3) (by omega) (by omega) (by omega) (by simp; omega) hvl hcs
    · rw [setRow_other _ _ _ _ hj, setRow_other _ _ _ _ hj]; rfl
  · refine (iqGrow81 hinf hsz hzz hzs hbb w b i n c vb vo vc arr tb fz cs vs hmem hi hnc hroom hsize hby va tv fv hmemv hcs hvl hvs h1 h1v _ rfl _ _ _ rfl rfl rfl).mono fun x w' => ?_
    rintro ⟨rfl, rfl⟩
    have hGn : n + 1 ≤ grownCap w (n + 1) c 73 := grownCap_ge w _ _ _
    have hzc : ∀ k, (Builtin.zeroCells z.cells k).size = k * 3 := fun k => by rw [size_zeroCells, hzs]
    have hRs : ((arr.toList.take (i * 3)).toArray ++ Builtin.zeroCells z.cells (n + 1 - i) ++ Builtin.zeroCells z.cells (grownCap w (n + 1) c 73 - (n + 1))).size = grownCap w (n + 1) c 73 * 3 := by
      simp only [Array.size_append, hzc, List.size_toArray, List.length_take, Array.length_toList]; omega
    have hRt : ((arr.toList.take (i * 3)).toArray ++ Builtin.zeroCells z.cells (n + 1 - i) ++ Builtin.zeroCells z.cells (grownCap w (n + 1) c 73 - (n + 1))).toList.take (i * 3) = arr.toList.take (i * 3) := by
      simp only [Array.toList_append, List.append_assoc]
      exact List.take_left' (by simp; omega)
    generalize hG : grownCap w (n + 1) c 73 = G at *
    generalize hR : (arr.toList.take (i * 3)).toArray ++ Builtin.zeroCells z.cells (n + 1 - i) ++ Builtin.zeroCells z.cells (G - (n + 1)) = ROW at *
    have hm0 : (w.drew.alloc (.cells ROW 73)).heap[w.heap.size]? = some (.cells ROW 73 (0, 0)) := heap_alloc_new w.drew _
    have hA1s : (ROW.toList.take (i * 3) ++ (vs ++ ROW.toList.drop (i * 3 + vs.length))).toArray.size = ROW.size := by simp [hvl]; omega
    have hm1 := setRow_heap (w.drew.alloc (.cells ROW 73)) w.heap.size ROW (ROW.toList.take (i * 3) ++ (vs ++ ROW.toList.drop (i * 3 + vs.length))).toArray 73 (0, 0) hm0
    generalize hA1 : (ROW.toList.take (i * 3) ++ (vs ++ ROW.toList.drop (i * 3 + vs.length))).toArray = A1 at *
    have hA2s : (A1.toList.take ((i + 1) * 3) ++ (cs ++ A1.toList.drop ((i + 1) * 3 + cs.length))).toArray.size = A1.size := by simp [hcl]; omega
    have hm2 := setRow_heap ((w.drew.alloc (.cells ROW 73)).setRow w.heap.size A1).drew w.heap.size A1 (A1.toList.take ((i + 1) * 3) ++ (cs ++ A1.toList.drop ((i + 1) * 3 + cs.length))).toArray 73 (0, 0) hm1
    refine ⟨w.heap.size, G, 73, _, (0, 0), rfl, rfl, rfl, rfl, hm2, fun j _ hj => by simp at hj, by rw [hA2s, hA1s]; exact hRs, hGn, ?_, .inr ⟨rfl, rfl, ?_, fun j hj => ?_⟩⟩
    · subst hA1
      exact insGrowL arr.toList ROW.toList vs cs (i * 3) (n * 3) 3 ((i + 1) * 3) ((n + 1) * 3) (by omega) (by omega) (by omega) (by simp; omega) hvl hcs hRt
    · rw [setRow_size]
      show ((w.drew.alloc (.cells ROW 73)).setRow w.heap.size A1).heap.size = _
      rw [setRow_size]
      simp
    · rw [setRow_other _ _ _ _ (by omega)]
      show ((w.drew.alloc (.cells ROW 73)).setRow w.heap.size A1).heap[j]? = _
      rw [setRow_other _ _ _ _ (by omega)]
      exact heap_alloc_old w.drew _ hj


set_option maxHeartbeats 4000000 in
theorem insEndN81 (w : World) (n c : Nat) (a : Addr) (vc : Nat) (hnc : n ≤ c) (hc0 : c = 0) (hn : n ≤ 140737488355328) (x : Option Addr) (m k : Nat) {w1 : World}
    (hap : ∀ ty, (Builtin.append_ #[25, 25] ty #[.slice none n c, .slice (some a) 1 vc]).run Try.prog w = .ok (.slice x m k) w1) :
    Calls Try.prog 81 #[.slice none n c, .int .i64 (n : Nat), .slice (some a) 1 vc] w fun e w' => e = .returned (.slice x m k) ∧ w' = w1 := by
  have mixed := mixed
  have hb1 : (0 : Int) ≤ (n : Int) := by omega
  have hb2 : (n : Int) ≤ (n : Int) := Int.le_refl _
  have hb7 : (n : Int) ≤ (c : Int) := by omega
  have hn0 : n = 0 := by omega
  subst hc0 hn0
  all_goals
    go_enter Try.func81, Try.ntmps81
    go_wp2_with (at_builtin; refine Lib.wpList_append_run _ rfl _ _ _ _ rfl _ _ rfl rfl _ _ (hap _) ?_)
    all_goals
      go_ret
      exact ⟨rfl, rfl⟩


set_option maxHeartbeats 4000000 in
theorem insEndS81 (w : World) (b : Addr) (n c : Nat) (a : Addr) (vc : Nat) (hnc : n ≤ c) (hn : n ≤ 140737488355328) (x : Option Addr) (m k : Nat) {w1 : World}
    (hap : ∀ ty, (Builtin.append_ #[25, 25] ty #[.slice (some b) n c, .slice (some a) 1 vc]).run Try.prog w = .ok (.slice x m k) w1) :
    Calls Try.prog 81 #[.slice (some b) n c, .int .i64 (n : Nat), .slice (some a) 1 vc] w fun e w' => e = .returned (.slice x m k) ∧ w' = w1 := by
  have mixed := mixed
  have hb1 : (0 : Int) ≤ (n : Int) := by omega
  have hb2 : (n : Int) ≤ (n : Int) := Int.le_refl _
  have hb7 : (n : Int) ≤ (c : Int) := by omega
  have hb8 : True := trivial
  by_cases hcn : c = n
  all_goals
    go_enter Try.func81, Try.ntmps81
    go_wp2_with (at_builtin; refine Lib.wpList_append_run _ rfl _ _ _ _ rfl _ _ rfl rfl _ _ (hap _) ?_)
    all_goals
      go_ret
      exact ⟨rfl, rfl⟩


theorem insN81 : InsE Try.prog 81 25 73 3 24 := by
  refine ⟨iqU81, ?_, fun w base n c a vc hnc hbn hn x m k w1 hap => ?_⟩
  · obtain ⟨inf, z, h1, h2, h3, h4, h5⟩ := iqE81
    exact ⟨inf, z, h1, h2, h3, h4, h5⟩
  · cases base with
    | none => exact insEndN81 w n c a vc hnc (hbn rfl) hn x m k hap
    | some b => exact insEndS81 w b n c a vc hnc hn x m k hap

def as_tie_New : List AS := [.val (.int .i64), .val (.int .i64), .val (.int .i64), .val (.int .i64)]
def bs_tie_New : List BS := []
def pout_tie_New : Pat := ⟨[(8, .ptr 600008 0)], [(600008, .box 27 (.val T0_))]⟩
noncomputable def G_tie_New  (N : Nat) : OrcT := orcOf []
noncomputable def F_tie_New  (N : Nat) (x : Int × Int × Int × Int) : Option (Int × A0_) :=
  (evT (G_tie_New  N) L0 P0 []
    [] N 400 (bodyOf Try.f10) ⟨22, slots 0 (argsOf as_tie_New bs_tie_New x), tabU (lbOf as_tie_New bs_tie_New x) [], []⟩).elim (kRet 22 pout_tie_New (kpL []) (lbOf as_tie_New bs_tie_New x))
def out_tie_New (y : Int × A0_) : V × List OK × List OK := (valW (.agg T0_) y, [], [])
noncomputable def V_tie_New  (N : Nat) (x : Int × Int × Int × Int) : Option (Int × A0_) :=
  cnd (decide (x.1 = (1:Int))) (some (x.1, x.2.1, x.2.2.1, (0:Int), (0:Int), x.2.2.2, [(1:Int)], (0:Int), x.2.2.1, (0:Int), (0:Int), (0:Int), [])) (some (x.1, x.2.1, x.2.2.1, (0:Int), (0:Int), x.2.2.2, [], (0:Int), (0:Int), (0:Int), (0:Int), (0:Int), []))
theorem FV_tie_New_eq  (N : Nat) (x : Int × Int × Int × Int) : F_tie_New  N x = V_tie_New  N x := by kernel_rfl
noncomputable def W_tie_New (N : Nat) (x : Int × Int × Int × Int) : Option (Int × A0_) := V_tie_New  N x
theorem F_tie_New_eq (N : Nat) (x : Int × Int × Int × Int) : F_tie_New  N x = W_tie_New N x := (FV_tie_New_eq  N x).trans (by kernel_rfl)
noncomputable def conw_tie_New (w : Int × Int × Int × Int → Option (Int × A0_)) : Con := ⟨10, as_tie_New, bs_tie_New, Int × Int × Int × Int × Int × Int × List Int × Int × Int × Int × Int × Int × List (Int × Int × Int), w, out_tie_New⟩
noncomputable def con_tie_New (N : Nat) : Con := conw_tie_New (W_tie_New N)
theorem R_tie_New_eq (x : Int × Int × Int × Int) (y : Int × A0_) : retOf2 P0 Try.f10 (kpL []) (lbOf as_tie_New bs_tie_New x) (patS ⟨22, [], [], []⟩ pout_tie_New y) = some (out_tie_New y) := by kernel_rfl
theorem con_tie_New_ok (N : Nat) : Con.ok P0 (con_tie_New N) := ⟨⟨Try.f10, Try.func10, by kernel_rfl, by kernel_rfl⟩, fun (x : Int × Int × Int × Int) (r : Int × A0_) (hr : W_tie_New N x = some r) =>
  spec2_evT (Γ := G_tie_New N) (Λ := L0) (pout := pout_tie_New) (kp := kpL []) mixed (orcOf_ok [] (by simp)) Try.func10 (c := bodyOf Try.f10) (by kernel_rfl) (by kernel_rfl) (of_decide_eq_true (by kernel_rfl)) ((F_tie_New_eq N x).trans hr) (R_tie_New_eq x r)⟩
def as_slices_Clone_int : List AS := [.val (.list (.int .i64))]
def bs_slices_Clone_int : List BS := []
def pout_slices_Clone_int : Pat := ⟨[(2, .acc 700005)], [(700005, .nrow 3 (.int .i64) false true)]⟩
noncomputable def G_slices_Clone_int  (N : Nat) : OrcT := orcOf []
noncomputable def F_slices_Clone_int  (N : Nat) (x : List Int) : Option (List Int) :=
  (evT (G_slices_Clone_int  N) L0 P0 []
    [] N 400 (bodyOf Try.f64) ⟨8, slots 0 [.nl ⟨(.int .i64), x⟩], tabU (lbOf as_slices_Clone_int bs_slices_Clone_int x) [], []⟩).elim (kRet 8 pout_slices_Clone_int (kpL []) (lbOf as_slices_Clone_int bs_slices_Clone_int x))
def out_slices_Clone_int (y : List Int) : V × List OK × List OK := (.acc 2000000 0, [], [.nrow 3 false true ⟨(.int .i64), y⟩])
noncomputable def V_slices_Clone_int  (N : Nat) (x : List Int) : Option (List Int) :=
  cnd (decide (List.length x * (8:Nat) ≤ (140737488355328:Nat))) (some x) none
theorem FV_slices_Clone_int_eq  (N : Nat) (x : List Int) : F_slices_Clone_int  N x = V_slices_Clone_int  N x := by kernel_rfl
noncomputable def W_slices_Clone_int (N : Nat) (x : List Int) : Option (List Int) := V_slices_Clone_int  N x
theorem F_slices_Clone_int_eq (N : Nat) (x : List Int) : F_slices_Clone_int  N x = W_slices_Clone_int N x := (FV_slices_Clone_int_eq  N x).trans (by kernel_rfl)
noncomputable def conw_slices_Clone_int (w : List Int → Option (List Int)) : Con := ⟨64, as_slices_Clone_int, bs_slices_Clone_int, List Int, w, out_slices_Clone_int⟩
noncomputable def con_slices_Clone_int (N : Nat) : Con := conw_slices_Clone_int (W_slices_Clone_int N)
theorem R_slices_Clone_int_eq (x : List Int) (y : List Int) : retOf2 P0 Try.f64 (kpL []) (lbOf as_slices_Clone_int bs_slices_Clone_int x) (patS ⟨8, [], [], []⟩ pout_slices_Clone_int y) = some (out_slices_Clone_int y) := by kernel_rfl
noncomputable def FA_slices_Clone_int : Option (List Int) := (evT (G_slices_Clone_int 1) L0 P0 [] [] 1 400 (bodyOf Try.f64) ⟨8, slots 0 [.snil], tabU [] [], []⟩).elim (kRet 8 pout_slices_Clone_int (kpL []) [])
theorem FA_slices_Clone_int_eq : FA_slices_Clone_int = some [] := by kernel_rfl
theorem WN_slices_Clone_int (N : Nat) (r : List Int) (h : W_slices_Clone_int N [] = some r) : r = [] := by
  have e : W_slices_Clone_int N [] = some [] := by kernel_rfl
  rw [e] at h; injection h with h; exact h.symm
theorem con_slices_Clone_int_ok (N : Nat) : Con.ok P0 (con_slices_Clone_int N) := ⟨⟨Try.f64, Try.func64, by kernel_rfl, by kernel_rfl⟩, fun (x : List Int) (r : List Int) (hr : W_slices_Clone_int N x = some r) =>
  clone_split (e := (.int .i64)) (ty := 3) (l := x) (r := r)
    (spec2_evT (Γ := G_slices_Clone_int 1) (Λ := L0) (lb := []) (pout := pout_slices_Clone_int) (kp := kpL []) mixed (orcOf_ok [] (by simp)) Try.func64 (c := bodyOf Try.f64) (by kernel_rfl) (by kernel_rfl) (of_decide_eq_true (by kernel_rfl)) FA_slices_Clone_int_eq (R_slices_Clone_int_eq x []))
    (spec2_evT (Γ := G_slices_Clone_int N) (Λ := L0) (lb := []) (pout := pout_slices_Clone_int) (kp := kpL []) mixed (orcOf_ok [] (by simp)) Try.func64 (c := bodyOf Try.f64) (by kernel_rfl) (by kernel_rfl) (of_decide_eq_true (by kernel_rfl)) ((F_slices_Clone_int_eq N x).trans hr) (R_slices_Clone_int_eq x r))
    (fun h => by subst h; exact WN_slices_Clone_int N r hr)⟩
def as_slices_Clone_api_Kid : List AS := [.val (.list T1_)]
def bs_slices_Clone_api_Kid : List BS := []
def pout_slices_Clone_api_Kid : Pat := ⟨[(2, .acc 700005)], [(700005, .nrow 73 T1_ false true)]⟩
noncomputable def G_slices_Clone_api_Kid  (N : Nat) : OrcT := orcOf []
noncomputable def F_slices_Clone_api_Kid  (N : Nat) (x : List (Int × Int × Int)) : Option (List (Int × Int × Int)) :=
  (evT (G_slices_Clone_api_Kid  N) L0 P0 []
    [] N 400 (bodyOf Try.f65) ⟨8, slots 0 [.nl ⟨T1_, x⟩], tabU (lbOf as_slices_Clone_api_Kid bs_slices_Clone_api_Kid x) [], []⟩).elim (kRet 8 pout_slices_Clone_api_Kid (kpL []) (lbOf as_slices_Clone_api_Kid bs_slices_Clone_api_Kid x))
def out_slices_Clone_api_Kid (y : List (Int × Int × Int)) : V × List OK × List OK := (.acc 2000000 0, [], [.nrow 73 false true ⟨T1_, y⟩])
noncomputable def V_slices_Clone_api_Kid  (N : Nat) (x : List (Int × Int × Int)) : Option (List (Int × Int × Int)) :=
  cnd (decide (List.length x * (24:Nat) ≤ (140737488355328:Nat))) (some x) none
theorem FV_slices_Clone_api_Kid_eq  (N : Nat) (x : List (Int × Int × Int)) : F_slices_Clone_api_Kid  N x = V_slices_Clone_api_Kid  N x := by kernel_rfl
noncomputable def W_slices_Clone_api_Kid (N : Nat) (x : List (Int × Int × Int)) : Option (List (Int × Int × Int)) := V_slices_Clone_api_Kid  N x
theorem F_slices_Clone_api_Kid_eq (N : Nat) (x : List (Int × Int × Int)) : F_slices_Clone_api_Kid  N x = W_slices_Clone_api_Kid N x := (FV_slices_Clone_api_Kid_eq  N x).trans (by kernel_rfl)
noncomputable def conw_slices_Clone_api_Kid (w : List (Int × Int × Int) → Option (List (Int × Int × Int))) : Con := ⟨65, as_slices_Clone_api_Kid, bs_slices_Clone_api_Kid, List (Int × Int × Int), w, out_slices_Clone_api_Kid⟩
noncomputable def con_slices_Clone_api_Kid (N : Nat) : Con := conw_slices_Clone_api_Kid (W_slices_Clone_api_Kid N)
theorem R_slices_Clone_api_Kid_eq (x : List (Int × Int × Int)) (y : List (Int × Int × Int)) : retOf2 P0 Try.f65 (kpL []) (lbOf as_slices_Clone_api_Kid bs_slices_Clone_api_Kid x) (patS ⟨8, [], [], []⟩ pout_slices_Clone_api_Kid y) = some (out_slices_Clone_api_Kid y) := by kernel_rfl
noncomputable def FA_slices_Clone_api_Kid : Option (List (Int × Int × Int)) := (evT (G_slices_Clone_api_Kid 1) L0 P0 [] [] 1 400 (bodyOf Try.f65) ⟨8, slots 0 [.snil], tabU [] [], []⟩).elim (kRet 8 pout_slices_Clone_api_Kid (kpL []) [])
theorem FA_slices_Clone_api_Kid_eq : FA_slices_Clone_api_Kid = some [] := by kernel_rfl
theorem WN_slices_Clone_api_Kid (N : Nat) (r : List (Int × Int × Int)) (h : W_slices_Clone_api_Kid N [] = some r) : r = [] := by
  have e : W_slices_Clone_api_Kid N [] = some [] := by kernel_rfl
  rw [e] at h; injection h with h; exact h.symm
theorem con_slices_Clone_api_Kid_ok (N : Nat) : Con.ok P0 (con_slices_Clone_api_Kid N) := ⟨⟨Try.f65, Try.func65, by kernel_rfl, by kernel_rfl⟩, fun (x : List (Int × Int × Int)) (r : List (Int × Int × Int)) (hr : W_slices_Clone_api_Kid N x = some r) =>
  clone_split (e := T1_) (ty := 73) (l := x) (r := r)
    (spec2_evT (Γ := G_slices_Clone_api_Kid 1) (Λ := L0) (lb := []) (pout := pout_slices_Clone_api_Kid) (kp := kpL []) mixed (orcOf_ok [] (by simp)) Try.func65 (c := bodyOf Try.f65) (by kernel_rfl) (by kernel_rfl) (of_decide_eq_true (by kernel_rfl)) FA_slices_Clone_api_Kid_eq (R_slices_Clone_api_Kid_eq x []))
    (spec2_evT (Γ := G_slices_Clone_api_Kid N) (Λ := L0) (lb := []) (pout := pout_slices_Clone_api_Kid) (kp := kpL []) mixed (orcOf_ok [] (by simp)) Try.func65 (c := bodyOf Try.f65) (by kernel_rfl) (by kernel_rfl) (of_decide_eq_true (by kernel_rfl)) ((F_slices_Clone_api_Kid_eq N x).trans hr) (R_slices_Clone_api_Kid_eq x r))
    (fun h => by subst h; exact WN_slices_Clone_api_Kid N r hr)⟩
def as_twin_Tie : List AS := [.val (.agg T0_)]
def bs_twin_Tie : List BS := []
def pout_twin_Tie : Pat := ⟨[(2, .ptr 600002 0)], [(600002, .box 27 (.val T0_))]⟩
noncomputable def G_twin_Tie (w_slices_Clone_int : List Int → Option (List Int)) (w_slices_Clone_api_Kid : List (Int × Int × Int) → Option (List (Int × Int × Int))) (N : Nat) : OrcT := orcOf [conw_slices_Clone_int w_slices_Clone_int, conw_slices_Clone_api_Kid w_slices_Clone_api_Kid]
noncomputable def F_twin_Tie (w_slices_Clone_int : List Int → Option (List Int)) (w_slices_Clone_api_Kid : List (Int × Int × Int) → Option (List (Int × Int × Int))) (N : Nat) (x : Int × A0_) : Option (Int × A0_) :=
  (evT (G_twin_Tie w_slices_Clone_int w_slices_Clone_api_Kid N) L0 P0 []
    [] N 400 (bodyOf Try.f34) ⟨12, slots 0 (argsOf as_twin_Tie bs_twin_Tie x), tabU (lbOf as_twin_Tie bs_twin_Tie x) [], []⟩).elim (kRet 12 pout_twin_Tie (kpL []) (lbOf as_twin_Tie bs_twin_Tie x))
def out_twin_Tie (y : Int × A0_) : V × List OK × List OK := (valW (.agg T0_) y, [], [])
noncomputable def V_twin_Tie (w_slices_Clone_int : List Int → Option (List Int)) (w_slices_Clone_api_Kid : List (Int × Int × Int) → Option (List (Int × Int × Int))) (N : Nat) (x : Int × A0_) : Option (Int × A0_) :=
  obind (w_slices_Clone_int x.2.2.2.2.2.2.1) fun b => obind (w_slices_Clone_api_Kid x.2.2.2.2.2.2.2.2.2.2.2.2) fun b_1 => some (x.1, x.2.1, x.2.2.1,
    x.2.2.2.1, x.2.2.2.2.1, x.2.2.2.2.2.1, b, x.2.2.2.2.2.2.2.1, x.2.2.2.2.2.2.2.2.1, x.2.2.2.2.2.2.2.2.2.1, x.2.2.2.2.2.2.2.2.2.2.1,
    x.2.2.2.2.2.2.2.2.2.2.2.1, b_1)
theorem FV_twin_Tie_eq (w_slices_Clone_int : List Int → Option (List Int)) (w_slices_Clone_api_Kid : List (Int × Int × Int) → Option (List (Int × Int × Int))) (N : Nat) (x : Int × A0_) : F_twin_Tie w_slices_Clone_int w_slices_Clone_api_Kid N x = V_twin_Tie w_slices_Clone_int w_slices_Clone_api_Kid N x := by kernel_rfl
noncomputable def W_twin_Tie (N : Nat) (x : Int × A0_) : Option (Int × A0_) := V_twin_Tie (W_slices_Clone_int N) (W_slices_Clone_api_Kid N) N x
theorem F_twin_Tie_eq (N : Nat) (x : Int × A0_) : F_twin_Tie (W_slices_Clone_int N) (W_slices_Clone_api_Kid N) N x = W_twin_Tie N x := (FV_twin_Tie_eq (W_slices_Clone_int N) (W_slices_Clone_api_Kid N) N x).trans (by kernel_rfl)
noncomputable def conw_twin_Tie (w : Int × A0_ → Option (Int × A0_)) : Con := ⟨34, as_twin_Tie, bs_twin_Tie, Int × Int × Int × Int × Int × Int × List Int × Int × Int × Int × Int × Int × List (Int × Int × Int), w, out_twin_Tie⟩
noncomputable def con_twin_Tie (N : Nat) : Con := conw_twin_Tie (W_twin_Tie N)
theorem R_twin_Tie_eq (x : Int × A0_) (y : Int × A0_) : retOf2 P0 Try.f34 (kpL []) (lbOf as_twin_Tie bs_twin_Tie x) (patS ⟨12, [], [], []⟩ pout_twin_Tie y) = some (out_twin_Tie y) := by kernel_rfl
theorem con_twin_Tie_ok (N : Nat) : Con.ok P0 (con_twin_Tie N) := ⟨⟨Try.f34, Try.func34, by kernel_rfl, by kernel_rfl⟩, fun (x : Int × A0_) (r : Int × A0_) (hr : W_twin_Tie N x = some r) =>
  spec2_evT (Γ := G_twin_Tie (W_slices_Clone_int N) (W_slices_Clone_api_Kid N) N) (Λ := L0) (pout := pout_twin_Tie) (kp := kpL []) mixed (orcOf_ok _ (by simp only [List.mem_cons, List.not_mem_nil, or_false, forall_eq_or_imp, forall_eq]; exact ⟨con_slices_Clone_int_ok N, con_slices_Clone_api_Kid_ok N⟩)) Try.func34 (c := bodyOf Try.f34) (by kernel_rfl) (by kernel_rfl) (of_decide_eq_true (by kernel_rfl)) ((F_twin_Tie_eq N x).trans hr) (R_twin_Tie_eq x r)⟩
def as_kids_Prune_1 : List AS := [.val T1_, .ptr 0 0]
def bs_kids_Prune_1 : List BS := [.box 3 (.int .i64)]
def pout_kids_Prune_1 : Pat := ⟨[(1, .ptr 1000000 0), (3, .val .bool)], [(1000000, .box 3 (.val (.int .i64)))]⟩
noncomputable def G_kids_Prune_1  (N : Nat) : OrcT := orcOf []
noncomputable def F_kids_Prune_1  (N : Nat) (x : (Int × Int × Int) × Int) : Option (Bool × Int) :=
  (evT (G_kids_Prune_1  N) L0 P0 []
    [] N 400 (bodyOf Try.f67) ⟨9, slots 0 (argsOf as_kids_Prune_1 bs_kids_Prune_1 x), tabU (lbOf as_kids_Prune_1 bs_kids_Prune_1 x) [], []⟩).elim (kRet 9 pout_kids_Prune_1 (kpL [true]) (lbOf as_kids_Prune_1 bs_kids_Prune_1 x))
def out_kids_Prune_1 (y : Bool × Int) : V × List OK × List OK := (valW .bool y.1, [.box 3 (cellsW (.int .i64) y.2)], [])
noncomputable def V_kids_Prune_1  (N : Nat) (x : (Int × Int × Int) × Int) : Option (Bool × Int) :=
  some (decide (x.1.2.2 < wr .i64 (x.2 - (20:Int))), x.2)
theorem FV_kids_Prune_1_eq  (N : Nat) (x : (Int × Int × Int) × Int) : F_kids_Prune_1  N x = V_kids_Prune_1  N x := by kernel_rfl
noncomputable def W_kids_Prune_1 (N : Nat) (x : (Int × Int × Int) × Int) : Option (Bool × Int) := V_kids_Prune_1  N x
theorem F_kids_Prune_1_eq (N : Nat) (x : (Int × Int × Int) × Int) : F_kids_Prune_1  N x = W_kids_Prune_1 N x := (FV_kids_Prune_1_eq  N x).trans (by kernel_rfl)
noncomputable def conw_kids_Prune_1 (w : (Int × Int × Int) × Int → Option (Bool × Int)) : Con := ⟨67, as_kids_Prune_1, bs_kids_Prune_1, Bool × Int, w, out_kids_Prune_1⟩
noncomputable def con_kids_Prune_1 (N : Nat) : Con := conw_kids_Prune_1 (W_kids_Prune_1 N)
theorem R_kids_Prune_1_eq (x : (Int × Int × Int) × Int) (y : Bool × Int) : retOf2 P0 Try.f67 (kpL [true]) (lbOf as_kids_Prune_1 bs_kids_Prune_1 x) (patS ⟨9, [], [], []⟩ pout_kids_Prune_1 y) = some (out_kids_Prune_1 y) := by kernel_rfl
theorem con_kids_Prune_1_ok (N : Nat) : Con.ok P0 (con_kids_Prune_1 N) := ⟨⟨Try.f67, Try.func67, by kernel_rfl, by kernel_rfl⟩, fun (x : (Int × Int × Int) × Int) (r : Bool × Int) (hr : W_kids_Prune_1 N x = some r) =>
  spec2_evT (Γ := G_kids_Prune_1 N) (Λ := L0) (pout := pout_kids_Prune_1) (kp := kpL [true]) mixed (orcOf_ok [] (by simp)) Try.func67 (c := bodyOf Try.f67) (by kernel_rfl) (by kernel_rfl) (of_decide_eq_true (by kernel_rfl)) ((F_kids_Prune_1_eq N x).trans hr) (R_kids_Prune_1_eq x r)⟩
def as_slices_IndexFunc_api_Kid__kids_Prune_1 : List AS := [.val (.list T1_), .fn 67 [0]]
def bs_slices_IndexFunc_api_Kid__kids_Prune_1 : List BS := [.box 3 (.int .i64)]
def pout_slices_IndexFunc_api_Kid__kids_Prune_1 : Pat := ⟨[(1, .fn 67 [1000000]), (4, .val (.int .i64))], [(1000000, .box 3 (.val (.int .i64)))]⟩
noncomputable def G_slices_IndexFunc_api_Kid__kids_Prune_1 (w_kids_Prune_1 : (Int × Int × Int) × Int → Option (Bool × Int)) (N : Nat) : OrcT := orcOf [conw_kids_Prune_1 w_kids_Prune_1]
noncomputable def F_slices_IndexFunc_api_Kid__kids_Prune_1 (w_kids_Prune_1 : (Int × Int × Int) × Int → Option (Bool × Int)) (N : Nat) (x : A3_) : Option (Int × Int) :=
  (evT (G_slices_IndexFunc_api_Kid__kids_Prune_1 w_kids_Prune_1 N) L0 P0 [(2, .loop [] ⟨[(1, .fn 67 [1000000]), (8, .val (.int .i64))], [(1000000, .box 3 (.val (.int .i64)))]⟩ [(.exit 0, ⟨[(1, .fn 67 [1000000])], [(1000000, .box 3 (.val (.int .i64)))]⟩), (.ret, ⟨[(1, .fn 67 [1000000]), (4, .val (.int .i64))], [(1000000, .box 3 (.val (.int .i64)))]⟩)])]
    [] N 400 (bodyOf Try.f78) ⟨19, slots 0 (argsOf as_slices_IndexFunc_api_Kid__kids_Prune_1 bs_slices_IndexFunc_api_Kid__kids_Prune_1 x), tabU (lbOf as_slices_IndexFunc_api_Kid__kids_Prune_1 bs_slices_IndexFunc_api_Kid__kids_Prune_1 x) [], []⟩).elim (kRet 19 pout_slices_IndexFunc_api_Kid__kids_Prune_1 (kpL [true]) (lbOf as_slices_IndexFunc_api_Kid__kids_Prune_1 bs_slices_IndexFunc_api_Kid__kids_Prune_1 x))
def out_slices_IndexFunc_api_Kid__kids_Prune_1 (y : Int × Int) : V × List OK × List OK := (valW (.int .i64) y.1, [.box 3 (cellsW (.int .i64) y.2)], [])
noncomputable def V_slices_IndexFunc_api_Kid__kids_Prune_1 (w_kids_Prune_1 : (Int × Int × Int) × Int → Option (Bool × Int)) (N : Nat) (x : A3_) : Option (Int × Int) :=
  obind (loopN N (fun (v : Int × Int) => cnd (decide (v.1 < (↑(List.length x.1) : Int))) (cnd (decide ((0:Int) ≤ v.1) && decide (v.1 < (↑(List.length
    x.1) : Int))) (obind (w_kids_Prune_1 ((Prod.fst (List.getD x.1 (Int.toNat v.1) ((0:Int), (0:Int), (0:Int))), Prod.fst (Prod.snd (List.getD x.1
    (Int.toNat v.1) ((0:Int), (0:Int), (0:Int)))), Prod.snd (Prod.snd (List.getD x.1 (Int.toNat v.1) ((0:Int), (0:Int), (0:Int))))), v.2)) fun b => cnd
    b.1 (some (Sum.inr (Sum.inr (v.1, b.2)))) (some (Sum.inl (wr .i64 (v.1 + (1:Int)), b.2)))) none) (some (Sum.inr (Sum.inl v.2)))) ((0:Int), x.2)) fun
    (b : Int ⊕ Int × Int) => selim (fun (b : Int) => some ((-1 : Int), b)) (fun (c : Int × Int) => some c) b
theorem FV_slices_IndexFunc_api_Kid__kids_Prune_1_eq (w_kids_Prune_1 : (Int × Int × Int) × Int → Option (Bool × Int)) (N : Nat) (x : A3_) : F_slices_IndexFunc_api_Kid__kids_Prune_1 w_kids_Prune_1 N x = V_slices_IndexFunc_api_Kid__kids_Prune_1 w_kids_Prune_1 N x := by kernel_rfl
noncomputable def W_slices_IndexFunc_api_Kid__kids_Prune_1 (N : Nat) (x : A3_) : Option (Int × Int) := V_slices_IndexFunc_api_Kid__kids_Prune_1 (W_kids_Prune_1 N) N x
theorem F_slices_IndexFunc_api_Kid__kids_Prune_1_eq (N : Nat) (x : A3_) : F_slices_IndexFunc_api_Kid__kids_Prune_1 (W_kids_Prune_1 N) N x = W_slices_IndexFunc_api_Kid__kids_Prune_1 N x := (FV_slices_IndexFunc_api_Kid__kids_Prune_1_eq (W_kids_Prune_1 N) N x).trans (by kernel_rfl)
noncomputable def conw_slices_IndexFunc_api_Kid__kids_Prune_1 (w : A3_ → Option (Int × Int)) : Con := ⟨78, as_slices_IndexFunc_api_Kid__kids_Prune_1, bs_slices_IndexFunc_api_Kid__kids_Prune_1, Int × Int, w, out_slices_IndexFunc_api_Kid__kids_Prune_1⟩
noncomputable def con_slices_IndexFunc_api_Kid__kids_Prune_1 (N : Nat) : Con := conw_slices_IndexFunc_api_Kid__kids_Prune_1 (W_slices_IndexFunc_api_Kid__kids_Prune_1 N)
theorem R_slices_IndexFunc_api_Kid__kids_Prune_1_eq (x : A3_) (y : Int × Int) : retOf2 P0 Try.f78 (kpL [true]) (lbOf as_slices_IndexFunc_api_Kid__kids_Prune_1 bs_slices_IndexFunc_api_Kid__kids_Prune_1 x) (patS ⟨19, [], [], []⟩ pout_slices_IndexFunc_api_Kid__kids_Prune_1 y) = some (out_slices_IndexFunc_api_Kid__kids_Prune_1 y) := by kernel_rfl
theorem con_slices_IndexFunc_api_Kid__kids_Prune_1_ok (N : Nat) : Con.ok P0 (con_slices_IndexFunc_api_Kid__kids_Prune_1 N) := ⟨⟨Try.f78, Try.func78, by kernel_rfl, by kernel_rfl⟩, fun (x : A3_) (r : Int × Int) (hr : W_slices_IndexFunc_api_Kid__kids_Prune_1 N x = some r) =>
  spec2_evT (Γ := G_slices_IndexFunc_api_Kid__kids_Prune_1 (W_kids_Prune_1 N) N) (Λ := L0) (pout := pout_slices_IndexFunc_api_Kid__kids_Prune_1) (kp := kpL [true]) mixed (orcOf_ok _ (by simp only [List.mem_cons, List.not_mem_nil, or_false, forall_eq_or_imp, forall_eq]; exact con_kids_Prune_1_ok N)) Try.func78 (c := bodyOf Try.f78) (by kernel_rfl) (by kernel_rfl) (of_decide_eq_true (by kernel_rfl)) ((F_slices_IndexFunc_api_Kid__kids_Prune_1_eq N x).trans hr) (R_slices_IndexFunc_api_Kid__kids_Prune_1_eq x r)⟩
def as_slices_DeleteFunc_api_Kid__kids_Prune_1 : List AS := [.acc 0, .fn 67 [1]]
def bs_slices_DeleteFunc_api_Kid__kids_Prune_1 : List BS := [.nrow 73 T1_ true, .box 3 (.int .i64)]
def pout_slices_DeleteFunc_api_Kid__kids_Prune_1 : Pat := ⟨[(1, .fn 67 [1000001]), (4, .val (.list T1_))], [(1000001, .box 3 (.val (.int .i64)))]⟩
noncomputable def G_slices_DeleteFunc_api_Kid__kids_Prune_1 (w_slices_IndexFunc_api_Kid__kids_Prune_1 : A3_ → Option (Int × Int)) (w_kids_Prune_1 : (Int × Int × Int) × Int → Option (Bool × Int)) (N : Nat) : OrcT := orcOf [conw_slices_IndexFunc_api_Kid__kids_Prune_1 w_slices_IndexFunc_api_Kid__kids_Prune_1, conw_kids_Prune_1 w_kids_Prune_1]
noncomputable def F_slices_DeleteFunc_api_Kid__kids_Prune_1 (w_slices_IndexFunc_api_Kid__kids_Prune_1 : A3_ → Option (Int × Int)) (w_kids_Prune_1 : (Int × Int × Int) × Int → Option (Bool × Int)) (N : Nat) (x : A3_) : Option A3_ :=
  (evT (G_slices_DeleteFunc_api_Kid__kids_Prune_1 w_slices_IndexFunc_api_Kid__kids_Prune_1 w_kids_Prune_1 N) L0 P0 [(5, .loop [] ⟨[(0, .acc 1000000), (1, .fn 67 [1000001]), (5, .val (.int .i64)), (6, .val (.int .i64))], [(1000000, .nrow 73 T1_ false true), (1000001, .box 3 (.val (.int .i64)))]⟩ [(.exit 0, ⟨[(0, .acc 1000000), (1, .fn 67 [1000001]), (5, .val (.int .i64))], [(1000000, .nrow 73 T1_ false true), (1000001, .box 3 (.val (.int .i64)))]⟩)])]
    [] N 400 (bodyOf Try.f66) ⟨42, slots 0 (argsOf as_slices_DeleteFunc_api_Kid__kids_Prune_1 bs_slices_DeleteFunc_api_Kid__kids_Prune_1 x), tabU (lbOf as_slices_DeleteFunc_api_Kid__kids_Prune_1 bs_slices_DeleteFunc_api_Kid__kids_Prune_1 x) [], []⟩).elim (kRet 42 pout_slices_DeleteFunc_api_Kid__kids_Prune_1 (kpL [false, true]) (lbOf as_slices_DeleteFunc_api_Kid__kids_Prune_1 bs_slices_DeleteFunc_api_Kid__kids_Prune_1 x))
def out_slices_DeleteFunc_api_Kid__kids_Prune_1 (y : A3_) : V × List OK × List OK := (valW (.list T1_) y.1, [.dead, .box 3 (cellsW (.int .i64) y.2)], [])
noncomputable def V_slices_DeleteFunc_api_Kid__kids_Prune_1 (w_slices_IndexFunc_api_Kid__kids_Prune_1 : A3_ → Option (Int × Int)) (w_kids_Prune_1 : (Int × Int × Int) × Int → Option (Bool × Int)) (N : Nat) (x : A3_) : Option A3_ :=
  obind (w_slices_IndexFunc_api_Kid__kids_Prune_1 x) fun b => cnd (decide (b.1 = (-1 : Int))) (some (x.1, b.2)) (obind (loopN N (fun (v : Int × Int × A3_) => cnd (decide (v.2.1 < (↑(List.length v.2.2.1) : Int))) (cnd (decide ((0:Int) ≤ v.2.1) && decide (v.2.1 <
    (↑(List.length v.2.2.1) : Int))) (obind (w_kids_Prune_1 ((Prod.fst (List.getD v.2.2.1 (Int.toNat v.2.1) ((0:Int), (0:Int), (0:Int))), Prod.fst
    (Prod.snd (List.getD v.2.2.1 (Int.toNat v.2.1) ((0:Int), (0:Int), (0:Int)))), Prod.snd (Prod.snd (List.getD v.2.2.1 (Int.toNat v.2.1) ((0:Int),
    (0:Int), (0:Int))))), v.2.2.2)) fun b => cnd (!b.1) (cnd (decide ((0:Int) ≤ v.1) && decide (v.1 < (↑(List.length v.2.2.1) : Int))) (some (Sum.inl
    (wr .i64 (v.1 + (1:Int)), wr .i64 (v.2.1 + (1:Int)), putL v.2.2.1 [(Prod.fst (List.getD v.2.2.1 (Int.toNat v.2.1) ((0:Int), (0:Int), (0:Int))),
    Prod.fst (Prod.snd (List.getD v.2.2.1 (Int.toNat v.2.1) ((0:Int), (0:Int), (0:Int)))), Prod.snd (Prod.snd (List.getD v.2.2.1 (Int.toNat v.2.1)
    ((0:Int), (0:Int), (0:Int)))))] (Int.toNat v.1), b.2))) none) (some (Sum.inl (v.1, wr .i64 (v.2.1 + (1:Int)), v.2.2.1, b.2)))) none) (some (Sum.inr
    (v.1, v.2.2)))) (b.1, wr .i64 (b.1 + (1:Int)), x.1, b.2)) fun (b : Int × A3_) => cnd (decide ((0:Int) ≤ Option.getD (some
    b.1) (0:Int))) (cnd (decide (Option.getD (some b.1) (0:Int) ≤ (↑(List.length b.2.1) : Int))) (cnd (decide (Option.getD none (0:Int) ≤ b.1)) (cnd
    (decide ((↑(0:Nat) : Int) + b.1 ≤ (↑(List.length (putL b.2.1 (List.replicate (Prod.snd (Prod.snd (cutT (0:Nat) (List.length b.2.1) (List.length
    b.2.1) (some b.1) none)) - Prod.fst (Prod.snd (cutT (0:Nat) (List.length b.2.1) (List.length b.2.1) (some b.1) none))) ((0:Int), (0:Int), (0:Int)))
    ((0:Nat) + Prod.fst (Prod.snd (cutT (0:Nat) (List.length b.2.1) (List.length b.2.1) (some b.1) none))))) : Int))) (some (List.drop ((0:Nat) +
    Prod.fst (Prod.snd (cutT (0:Nat) (List.length (putL b.2.1 (List.replicate (Prod.snd (Prod.snd (cutT (0:Nat) (List.length b.2.1) (List.length b.2.1)
    (some b.1) none)) - Prod.fst (Prod.snd (cutT (0:Nat) (List.length b.2.1) (List.length b.2.1) (some b.1) none))) ((0:Int), (0:Int), (0:Int)))
    ((0:Nat) + Prod.fst (Prod.snd (cutT (0:Nat) (List.length b.2.1) (List.length b.2.1) (some b.1) none))))) (List.length (putL b.2.1 (List.replicate
    (Prod.snd (Prod.snd (cutT (0:Nat) (List.length b.2.1) (List.length b.2.1) (some b.1) none)) - Prod.fst (Prod.snd (cutT (0:Nat) (List.length b.2.1)
    (List.length b.2.1) (some b.1) none))) ((0:Int), (0:Int), (0:Int))) ((0:Nat) + Prod.fst (Prod.snd (cutT (0:Nat) (List.length b.2.1) (List.length
    b.2.1) (some b.1) none))))) none (some b.1)))) (List.take ((0:Nat) + Prod.fst (Prod.snd (cutT (0:Nat) (List.length (putL b.2.1 (List.replicate
    (Prod.snd (Prod.snd (cutT (0:Nat) (List.length b.2.1) (List.length b.2.1) (some b.1) none)) - Prod.fst (Prod.snd (cutT (0:Nat) (List.length b.2.1)
    (List.length b.2.1) (some b.1) none))) ((0:Int), (0:Int), (0:Int))) ((0:Nat) + Prod.fst (Prod.snd (cutT (0:Nat) (List.length b.2.1) (List.length
    b.2.1) (some b.1) none))))) (List.length (putL b.2.1 (List.replicate (Prod.snd (Prod.snd (cutT (0:Nat) (List.length b.2.1) (List.length b.2.1) (some
    b.1) none)) - Prod.fst (Prod.snd (cutT (0:Nat) (List.length b.2.1) (List.length b.2.1) (some b.1) none))) ((0:Int), (0:Int), (0:Int))) ((0:Nat) +
    Prod.fst (Prod.snd (cutT (0:Nat) (List.length b.2.1) (List.length b.2.1) (some b.1) none))))) none (some b.1))) + (Prod.snd (Prod.snd (cutT (0:Nat)
    (List.length (putL b.2.1 (List.replicate (Prod.snd (Prod.snd (cutT (0:Nat) (List.length b.2.1) (List.length b.2.1) (some b.1) none)) - Prod.fst
    (Prod.snd (cutT (0:Nat) (List.length b.2.1) (List.length b.2.1) (some b.1) none))) ((0:Int), (0:Int), (0:Int))) ((0:Nat) + Prod.fst (Prod.snd (cutT
    (0:Nat) (List.length b.2.1) (List.length b.2.1) (some b.1) none))))) (List.length (putL b.2.1 (List.replicate (Prod.snd (Prod.snd (cutT (0:Nat)
    (List.length b.2.1) (List.length b.2.1) (some b.1) none)) - Prod.fst (Prod.snd (cutT (0:Nat) (List.length b.2.1) (List.length b.2.1) (some b.1)
    none))) ((0:Int), (0:Int), (0:Int))) ((0:Nat) + Prod.fst (Prod.snd (cutT (0:Nat) (List.length b.2.1) (List.length b.2.1) (some b.1) none))))) none
    (some b.1))) - Prod.fst (Prod.snd (cutT (0:Nat) (List.length (putL b.2.1 (List.replicate (Prod.snd (Prod.snd (cutT (0:Nat) (List.length b.2.1)
    (List.length b.2.1) (some b.1) none)) - Prod.fst (Prod.snd (cutT (0:Nat) (List.length b.2.1) (List.length b.2.1) (some b.1) none))) ((0:Int),
    (0:Int), (0:Int))) ((0:Nat) + Prod.fst (Prod.snd (cutT (0:Nat) (List.length b.2.1) (List.length b.2.1) (some b.1) none))))) (List.length (putL b.2.1
    (List.replicate (Prod.snd (Prod.snd (cutT (0:Nat) (List.length b.2.1) (List.length b.2.1) (some b.1) none)) - Prod.fst (Prod.snd (cutT (0:Nat)
    (List.length b.2.1) (List.length b.2.1) (some b.1) none))) ((0:Int), (0:Int), (0:Int))) ((0:Nat) + Prod.fst (Prod.snd (cutT (0:Nat) (List.length
    b.2.1) (List.length b.2.1) (some b.1) none))))) none (some b.1))))) (putL b.2.1 (List.replicate (Prod.snd (Prod.snd (cutT (0:Nat) (List.length
    b.2.1) (List.length b.2.1) (some b.1) none)) - Prod.fst (Prod.snd (cutT (0:Nat) (List.length b.2.1) (List.length b.2.1) (some b.1) none))) ((0:Int),
    (0:Int), (0:Int))) ((0:Nat) + Prod.fst (Prod.snd (cutT (0:Nat) (List.length b.2.1) (List.length b.2.1) (some b.1) none))))), b.2.2)) none) none)
    none) none)
theorem FV_slices_DeleteFunc_api_Kid__kids_Prune_1_eq (w_slices_IndexFunc_api_Kid__kids_Prune_1 : A3_ → Option (Int × Int)) (w_kids_Prune_1 : (Int × Int × Int) × Int → Option (Bool × Int)) (N : Nat) (x : A3_) : F_slices_DeleteFunc_api_Kid__kids_Prune_1 w_slices_IndexFunc_api_Kid__kids_Prune_1 w_kids_Prune_1 N x = V_slices_DeleteFunc_api_Kid__kids_Prune_1 w_slices_IndexFunc_api_Kid__kids_Prune_1 w_kids_Prune_1 N x := by kernel_rfl
noncomputable def W_slices_DeleteFunc_api_Kid__kids_Prune_1 (N : Nat) (x : A3_) : Option A3_ := V_slices_DeleteFunc_api_Kid__kids_Prune_1 (W_slices_IndexFunc_api_Kid__kids_Prune_1 N) (W_kids_Prune_1 N) N x
theorem F_slices_DeleteFunc_api_Kid__kids_Prune_1_eq (N : Nat) (x : A3_) : F_slices_DeleteFunc_api_Kid__kids_Prune_1 (W_slices_IndexFunc_api_Kid__kids_Prune_1 N) (W_kids_Prune_1 N) N x = W_slices_DeleteFunc_api_Kid__kids_Prune_1 N x := (FV_slices_DeleteFunc_api_Kid__kids_Prune_1_eq (W_slices_IndexFunc_api_Kid__kids_Prune_1 N) (W_kids_Prune_1 N) N x).trans (by kernel_rfl)
noncomputable def conw_slices_DeleteFunc_api_Kid__kids_Prune_1 (w : A3_ → Option A3_) : Con := ⟨66, as_slices_DeleteFunc_api_Kid__kids_Prune_1, bs_slices_DeleteFunc_api_Kid__kids_Prune_1, List (Int × Int × Int) × Int, w, out_slices_DeleteFunc_api_Kid__kids_Prune_1⟩
noncomputable def con_slices_DeleteFunc_api_Kid__kids_Prune_1 (N : Nat) : Con := conw_slices_DeleteFunc_api_Kid__kids_Prune_1 (W_slices_DeleteFunc_api_Kid__kids_Prune_1 N)
theorem R_slices_DeleteFunc_api_Kid__kids_Prune_1_eq (x : A3_) (y : A3_) : retOf2 P0 Try.f66 (kpL [false, true]) (lbOf as_slices_DeleteFunc_api_Kid__kids_Prune_1 bs_slices_DeleteFunc_api_Kid__kids_Prune_1 x) (patS ⟨42, [], [], []⟩ pout_slices_DeleteFunc_api_Kid__kids_Prune_1 y) = some (out_slices_DeleteFunc_api_Kid__kids_Prune_1 y) := by kernel_rfl
theorem con_slices_DeleteFunc_api_Kid__kids_Prune_1_ok (N : Nat) : Con.ok P0 (con_slices_DeleteFunc_api_Kid__kids_Prune_1 N) := ⟨⟨Try.f66, Try.func66, by kernel_rfl, by kernel_rfl⟩, fun (x : A3_) (r : A3_) (hr : W_slices_DeleteFunc_api_Kid__kids_Prune_1 N x = some r) =>
  spec2_evT (Γ := G_slices_DeleteFunc_api_Kid__kids_Prune_1 (W_slices_IndexFunc_api_Kid__kids_Prune_1 N) (W_kids_Prune_1 N) N) (Λ := L0) (pout := pout_slices_DeleteFunc_api_Kid__kids_Prune_1) (kp := kpL [false, true]) mixed (orcOf_ok _ (by simp only [List.mem_cons, List.not_mem_nil, or_false, forall_eq_or_imp, forall_eq]; exact ⟨con_slices_IndexFunc_api_Kid__kids_Prune_1_ok N, con_kids_Prune_1_ok N⟩)) Try.func66 (c := bodyOf Try.f66) (by kernel_rfl) (by kernel_rfl) (of_decide_eq_true (by kernel_rfl)) ((F_slices_DeleteFunc_api_Kid__kids_Prune_1_eq N x).trans hr) (R_slices_DeleteFunc_api_Kid__kids_Prune_1_eq x r)⟩
def as_kids_Prune : List AS := [.val (.list T1_), .val (.int .i64)]
def bs_kids_Prune : List BS := []
def pout_kids_Prune : Pat := ⟨[(4, .val (.list T1_))], []⟩
noncomputable def G_kids_Prune (w_slices_Clone_api_Kid : List (Int × Int × Int) → Option (List (Int × Int × Int))) (w_slices_DeleteFunc_api_Kid__kids_Prune_1 : A3_ → Option A3_) (N : Nat) : OrcT := orcOf [conw_slices_Clone_api_Kid w_slices_Clone_api_Kid, conw_slices_DeleteFunc_api_Kid__kids_Prune_1 w_slices_DeleteFunc_api_Kid__kids_Prune_1]
noncomputable def F_kids_Prune (w_slices_Clone_api_Kid : List (Int × Int × Int) → Option (List (Int × Int × Int))) (w_slices_DeleteFunc_api_Kid__kids_Prune_1 : A3_ → Option A3_) (N : Nat) (x : A3_) : Option (List (Int × Int × Int)) :=
  (evT (G_kids_Prune w_slices_Clone_api_Kid w_slices_DeleteFunc_api_Kid__kids_Prune_1 N) L0 P0 []
    [] N 400 (bodyOf Try.f35) ⟨9, slots 0 (argsOf as_kids_Prune bs_kids_Prune x), tabU (lbOf as_kids_Prune bs_kids_Prune x) [], []⟩).elim (kRet 9 pout_kids_Prune (kpL []) (lbOf as_kids_Prune bs_kids_Prune x))
def out_kids_Prune (y : List (Int × Int × Int)) : V × List OK × List OK := (valW (.list T1_) y, [], [])
noncomputable def V_kids_Prune (w_slices_Clone_api_Kid : List (Int × Int × Int) → Option (List (Int × Int × Int))) (w_slices_DeleteFunc_api_Kid__kids_Prune_1 : A3_ → Option A3_) (N : Nat) (x : A3_) : Option (List (Int × Int × Int)) :=
  obind (w_slices_Clone_api_Kid x.1) fun b => obind (w_slices_DeleteFunc_api_Kid__kids_Prune_1 (b, x.2)) fun b => some b.1
theorem FV_kids_Prune_eq (w_slices_Clone_api_Kid : List (Int × Int × Int) → Option (List (Int × Int × Int))) (w_slices_DeleteFunc_api_Kid__kids_Prune_1 : A3_ → Option A3_) (N : Nat) (x : A3_) : F_kids_Prune w_slices_Clone_api_Kid w_slices_DeleteFunc_api_Kid__kids_Prune_1 N x = V_kids_Prune w_slices_Clone_api_Kid w_slices_DeleteFunc_api_Kid__kids_Prune_1 N x := by kernel_rfl
noncomputable def W_kids_Prune (N : Nat) (x : A3_) : Option (List (Int × Int × Int)) := V_kids_Prune (W_slices_Clone_api_Kid N) (W_slices_DeleteFunc_api_Kid__kids_Prune_1 N) N x
theorem F_kids_Prune_eq (N : Nat) (x : A3_) : F_kids_Prune (W_slices_Clone_api_Kid N) (W_slices_DeleteFunc_api_Kid__kids_Prune_1 N) N x = W_kids_Prune N x := (FV_kids_Prune_eq (W_slices_Clone_api_Kid N) (W_slices_DeleteFunc_api_Kid__kids_Prune_1 N) N x).trans (by kernel_rfl)
noncomputable def conw_kids_Prune (w : A3_ → Option (List (Int × Int × Int))) : Con := ⟨35, as_kids_Prune, bs_kids_Prune, List (Int × Int × Int), w, out_kids_Prune⟩
noncomputable def con_kids_Prune (N : Nat) : Con := conw_kids_Prune (W_kids_Prune N)
theorem R_kids_Prune_eq (x : A3_) (y : List (Int × Int × Int)) : retOf2 P0 Try.f35 (kpL []) (lbOf as_kids_Prune bs_kids_Prune x) (patS ⟨9, [], [], []⟩ pout_kids_Prune y) = some (out_kids_Prune y) := by kernel_rfl
theorem con_kids_Prune_ok (N : Nat) : Con.ok P0 (con_kids_Prune N) := ⟨⟨Try.f35, Try.func35, by kernel_rfl, by kernel_rfl⟩, fun (x : A3_) (r : List (Int × Int × Int)) (hr : W_kids_Prune N x = some r) =>
  spec2_evT (Γ := G_kids_Prune (W_slices_Clone_api_Kid N) (W_slices_DeleteFunc_api_Kid__kids_Prune_1 N) N) (Λ := L0) (pout := pout_kids_Prune) (kp := kpL []) mixed (orcOf_ok _ (by simp only [List.mem_cons, List.not_mem_nil, or_false, forall_eq_or_imp, forall_eq]; exact ⟨con_slices_Clone_api_Kid_ok N, con_slices_DeleteFunc_api_Kid__kids_Prune_1_ok N⟩)) Try.func35 (c := bodyOf Try.f35) (by kernel_rfl) (by kernel_rfl) (of_decide_eq_true (by kernel_rfl)) ((F_kids_Prune_eq N x).trans hr) (R_kids_Prune_eq x r)⟩
def as_tie_age : List AS := [.val (.agg T0_)]
def bs_tie_age : List BS := []
def pout_tie_age : Pat := ⟨[(2, .val (.int .i64))], []⟩
noncomputable def G_tie_age  (N : Nat) : OrcT := orcOf []
noncomputable def F_tie_age  (N : Nat) (x : Int × A0_) : Option (Int) :=
  (evT (G_tie_age  N) L0 P0 []
    [] N 400 (bodyOf Try.f48) ⟨8, slots 0 (argsOf as_tie_age bs_tie_age x), tabU (lbOf as_tie_age bs_tie_age x) [], []⟩).elim (kRet 8 pout_tie_age (kpL []) (lbOf as_tie_age bs_tie_age x))
def out_tie_age (y : Int) : V × List OK × List OK := (valW (.int .i64) y, [], [])
noncomputable def V_tie_age  (N : Nat) (x : Int × A0_) : Option (Int) :=
  some (wr .i64 (x.2.2.1 - x.2.2.2.2.2.2.2.2.1))
theorem FV_tie_age_eq  (N : Nat) (x : Int × A0_) : F_tie_age  N x = V_tie_age  N x := by kernel_rfl
noncomputable def W_tie_age (N : Nat) (x : Int × A0_) : Option (Int) := V_tie_age  N x
theorem F_tie_age_eq (N : Nat) (x : Int × A0_) : F_tie_age  N x = W_tie_age N x := (FV_tie_age_eq  N x).trans (by kernel_rfl)
noncomputable def conw_tie_age (w : Int × A0_ → Option (Int)) : Con := ⟨48, as_tie_age, bs_tie_age, Int, w, out_tie_age⟩
noncomputable def con_tie_age (N : Nat) : Con := conw_tie_age (W_tie_age N)
theorem R_tie_age_eq (x : Int × A0_) (y : Int) : retOf2 P0 Try.f48 (kpL []) (lbOf as_tie_age bs_tie_age x) (patS ⟨8, [], [], []⟩ pout_tie_age y) = some (out_tie_age y) := by kernel_rfl
theorem con_tie_age_ok (N : Nat) : Con.ok P0 (con_tie_age N) := ⟨⟨Try.f48, Try.func48, by kernel_rfl, by kernel_rfl⟩, fun (x : Int × A0_) (r : Int) (hr : W_tie_age N x = some r) =>
  spec2_evT (Γ := G_tie_age N) (Λ := L0) (pout := pout_tie_age) (kp := kpL []) mixed (orcOf_ok [] (by simp)) Try.func48 (c := bodyOf Try.f48) (by kernel_rfl) (by kernel_rfl) (of_decide_eq_true (by kernel_rfl)) ((F_tie_age_eq N x).trans hr) (R_tie_age_eq x r)⟩
def as_tie_Fresh : List AS := [.val (.agg T0_)]
def bs_tie_Fresh : List BS := []
def pout_tie_Fresh : Pat := ⟨[(2, .val .bool)], []⟩
noncomputable def G_tie_Fresh (w_tie_age : Int × A0_ → Option (Int)) (N : Nat) : OrcT := orcOf [conw_tie_age w_tie_age]
noncomputable def F_tie_Fresh (w_tie_age : Int × A0_ → Option (Int)) (N : Nat) (x : Int × A0_) : Option (Bool) :=
  (evT (G_tie_Fresh w_tie_age N) L0 P0 []
    [] N 400 (bodyOf Try.f21) ⟨16, slots 0 (argsOf as_tie_Fresh bs_tie_Fresh x), tabU (lbOf as_tie_Fresh bs_tie_Fresh x) [], []⟩).elim (kRet 16 pout_tie_Fresh (kpL []) (lbOf as_tie_Fresh bs_tie_Fresh x))
def out_tie_Fresh (y : Bool) : V × List OK × List OK := (valW .bool y, [], [])
noncomputable def V_tie_Fresh (w_tie_age : Int × A0_ → Option (Int)) (N : Nat) (x : Int × A0_) : Option (Bool) :=
  cnd (decide (x.1 = (1:Int))) (some true) (cnd (decide (x.2.2.2.1 ≠ (0:Int))) (obind (w_tie_age x) fun b => some (decide (b ≤ (20:Int)))) (some false))
theorem FV_tie_Fresh_eq (w_tie_age : Int × A0_ → Option (Int)) (N : Nat) (x : Int × A0_) : F_tie_Fresh w_tie_age N x = V_tie_Fresh w_tie_age N x := by kernel_rfl
noncomputable def W_tie_Fresh (N : Nat) (x : Int × A0_) : Option (Bool) := V_tie_Fresh (W_tie_age N) N x
theorem F_tie_Fresh_eq (N : Nat) (x : Int × A0_) : F_tie_Fresh (W_tie_age N) N x = W_tie_Fresh N x := (FV_tie_Fresh_eq (W_tie_age N) N x).trans (by kernel_rfl)
noncomputable def conw_tie_Fresh (w : Int × A0_ → Option (Bool)) : Con := ⟨21, as_tie_Fresh, bs_tie_Fresh, Bool, w, out_tie_Fresh⟩
noncomputable def con_tie_Fresh (N : Nat) : Con := conw_tie_Fresh (W_tie_Fresh N)
theorem R_tie_Fresh_eq (x : Int × A0_) (y : Bool) : retOf2 P0 Try.f21 (kpL []) (lbOf as_tie_Fresh bs_tie_Fresh x) (patS ⟨16, [], [], []⟩ pout_tie_Fresh y) = some (out_tie_Fresh y) := by kernel_rfl
theorem con_tie_Fresh_ok (N : Nat) : Con.ok P0 (con_tie_Fresh N) := ⟨⟨Try.f21, Try.func21, by kernel_rfl, by kernel_rfl⟩, fun (x : Int × A0_) (r : Bool) (hr : W_tie_Fresh N x = some r) =>
  spec2_evT (Γ := G_tie_Fresh (W_tie_age N) N) (Λ := L0) (pout := pout_tie_Fresh) (kp := kpL []) mixed (orcOf_ok _ (by simp only [List.mem_cons, List.not_mem_nil, or_false, forall_eq_or_imp, forall_eq]; exact con_tie_age_ok N)) Try.func21 (c := bodyOf Try.f21) (by kernel_rfl) (by kernel_rfl) (of_decide_eq_true (by kernel_rfl)) ((F_tie_Fresh_eq N x).trans hr) (R_tie_Fresh_eq x r)⟩
def as_tie_letGo : List AS := [.val (.agg T0_), .val (.int .i64)]
def bs_tie_letGo : List BS := []
def pout_tie_letGo : Pat := ⟨[(4, .ptr 600004 0)], [(600004, .box 27 (.val T0_))]⟩
noncomputable def G_tie_letGo  (N : Nat) : OrcT := orcOf []
noncomputable def F_tie_letGo  (N : Nat) (x : (Int × A0_) × Int) : Option (Int × A0_) :=
  (evT (G_tie_letGo  N) L0 P0 []
    [] N 400 (bodyOf Try.f36) ⟨12, slots 0 (argsOf as_tie_letGo bs_tie_letGo x), tabU (lbOf as_tie_letGo bs_tie_letGo x) [], []⟩).elim (kRet 12 pout_tie_letGo (kpL []) (lbOf as_tie_letGo bs_tie_letGo x))
def out_tie_letGo (y : Int × A0_) : V × List OK × List OK := (valW (.agg T0_) y, [], [])
noncomputable def V_tie_letGo  (N : Nat) (x : (Int × A0_) × Int) : Option (Int × A0_) :=
  some (x.1.1, x.1.2.1, x.1.2.2.1, (0:Int), (0:Int), x.1.2.2.2.2.2.1, [], x.1.2.2.2.2.2.2.2.1, x.1.2.2.2.2.2.2.2.2.1, (0:Int), x.1.2.2.2.2.2.2.2.2.2.2.1, x.2, x.1.2.2.2.2.2.2.2.2.2.2.2.2)
theorem FV_tie_letGo_eq  (N : Nat) (x : (Int × A0_) × Int) : F_tie_letGo  N x = V_tie_letGo  N x := by kernel_rfl
noncomputable def W_tie_letGo (N : Nat) (x : (Int × A0_) × Int) : Option (Int × A0_) := V_tie_letGo  N x
theorem F_tie_letGo_eq (N : Nat) (x : (Int × A0_) × Int) : F_tie_letGo  N x = W_tie_letGo N x := (FV_tie_letGo_eq  N x).trans (by kernel_rfl)
noncomputable def conw_tie_letGo (w : (Int × A0_) × Int → Option (Int × A0_)) : Con := ⟨36, as_tie_letGo, bs_tie_letGo, Int × Int × Int × Int × Int × Int × List Int × Int × Int × Int × Int × Int × List (Int × Int × Int), w, out_tie_letGo⟩
noncomputable def con_tie_letGo (N : Nat) : Con := conw_tie_letGo (W_tie_letGo N)
theorem R_tie_letGo_eq (x : (Int × A0_) × Int) (y : Int × A0_) : retOf2 P0 Try.f36 (kpL []) (lbOf as_tie_letGo bs_tie_letGo x) (patS ⟨12, [], [], []⟩ pout_tie_letGo y) = some (out_tie_letGo y) := by kernel_rfl
theorem con_tie_letGo_ok (N : Nat) : Con.ok P0 (con_tie_letGo N) := ⟨⟨Try.f36, Try.func36, by kernel_rfl, by kernel_rfl⟩, fun (x : (Int × A0_) × Int) (r : Int × A0_) (hr : W_tie_letGo N x = some r) =>
  spec2_evT (Γ := G_tie_letGo N) (Λ := L0) (pout := pout_tie_letGo) (kp := kpL []) mixed (orcOf_ok [] (by simp)) Try.func36 (c := bodyOf Try.f36) (by kernel_rfl) (by kernel_rfl) (of_decide_eq_true (by kernel_rfl)) ((F_tie_letGo_eq N x).trans hr) (R_tie_letGo_eq x r)⟩
def as_tie_vain : List AS := [.val (.agg T0_)]
def bs_tie_vain : List BS := []
def pout_tie_vain : Pat := ⟨[(2, .ptr 600002 0)], [(600002, .box 27 (.val T0_))]⟩
noncomputable def G_tie_vain  (N : Nat) : OrcT := orcOf []
noncomputable def F_tie_vain  (N : Nat) (x : Int × A0_) : Option (Int × A0_) :=
  (evT (G_tie_vain  N) L0 P0 []
    [] N 400 (bodyOf Try.f68) ⟨9, slots 0 (argsOf as_tie_vain bs_tie_vain x), tabU (lbOf as_tie_vain bs_tie_vain x) [], []⟩).elim (kRet 9 pout_tie_vain (kpL []) (lbOf as_tie_vain bs_tie_vain x))
def out_tie_vain (y : Int × A0_) : V × List OK × List OK := (valW (.agg T0_) y, [], [])
noncomputable def V_tie_vain  (N : Nat) (x : Int × A0_) : Option (Int × A0_) :=
  some (x.1, x.2.1, x.2.2.1, x.2.2.2.1, x.2.2.2.2.1, x.2.2.2.2.2.1, x.2.2.2.2.2.2.1, x.2.2.2.2.2.2.2.1, x.2.2.2.2.2.2.2.2.1, (0:Int), x.2.2.2.2.2.2.2.2.2.2.1, wr .i64 (x.2.2.2.2.2.2.2.2.2.2.2.1 + (1:Int)), x.2.2.2.2.2.2.2.2.2.2.2.2)
theorem FV_tie_vain_eq  (N : Nat) (x : Int × A0_) : F_tie_vain  N x = V_tie_vain  N x := by kernel_rfl
noncomputable def W_tie_vain (N : Nat) (x : Int × A0_) : Option (Int × A0_) := V_tie_vain  N x
theorem F_tie_vain_eq (N : Nat) (x : Int × A0_) : F_tie_vain  N x = W_tie_vain N x := (FV_tie_vain_eq  N x).trans (by kernel_rfl)
noncomputable def conw_tie_vain (w : Int × A0_ → Option (Int × A0_)) : Con := ⟨68, as_tie_vain, bs_tie_vain, Int × Int × Int × Int × Int × Int × List Int × Int × Int × Int × Int × Int × List (Int × Int × Int), w, out_tie_vain⟩
noncomputable def con_tie_vain (N : Nat) : Con := conw_tie_vain (W_tie_vain N)
theorem R_tie_vain_eq (x : Int × A0_) (y : Int × A0_) : retOf2 P0 Try.f68 (kpL []) (lbOf as_tie_vain bs_tie_vain x) (patS ⟨9, [], [], []⟩ pout_tie_vain y) = some (out_tie_vain y) := by kernel_rfl
theorem con_tie_vain_ok (N : Nat) : Con.ok P0 (con_tie_vain N) := ⟨⟨Try.f68, Try.func68, by kernel_rfl, by kernel_rfl⟩, fun (x : Int × A0_) (r : Int × A0_) (hr : W_tie_vain N x = some r) =>
  spec2_evT (Γ := G_tie_vain N) (Λ := L0) (pout := pout_tie_vain) (kp := kpL []) mixed (orcOf_ok [] (by simp)) Try.func68 (c := bodyOf Try.f68) (by kernel_rfl) (by kernel_rfl) (of_decide_eq_true (by kernel_rfl)) ((F_tie_vain_eq N x).trans hr) (R_tie_vain_eq x r)⟩
def as_tie_tell : List AS := [.val (.agg T0_), .val (.int .i64), .val (.int .i64)]
def bs_tie_tell : List BS := []
def pout_tie_tell : Pat := ⟨[(6, .ptr 600006 0)], [(600006, .box 33 (.val T_))]⟩
noncomputable def G_tie_tell  (N : Nat) : OrcT := orcOf []
noncomputable def F_tie_tell  (N : Nat) (x : (Int × A0_) × Int × Int) : Option (M_) :=
  (evT (G_tie_tell  N) L0 P0 []
    [] N 400 (bodyOf Try.f63) ⟨14, slots 0 (argsOf as_tie_tell bs_tie_tell x), tabU (lbOf as_tie_tell bs_tie_tell x) [], []⟩).elim (kRet 14 pout_tie_tell (kpL []) (lbOf as_tie_tell bs_tie_tell x))
def out_tie_tell (y : M_) : V × List OK × List OK := (valW (.agg T_) y, [], [])
noncomputable def V_tie_tell  (N : Nat) (x : (Int × A0_) × Int × Int) : Option (M_) :=
  some (x.2.1, x.1.1, x.2.2, x.1.2.1, (0:Int), (0:Int), [], (0:Int), (0:Int), [])
theorem FV_tie_tell_eq  (N : Nat) (x : (Int × A0_) × Int × Int) : F_tie_tell  N x = V_tie_tell  N x := by kernel_rfl
noncomputable def W_tie_tell (N : Nat) (x : (Int × A0_) × Int × Int) : Option (M_) := V_tie_tell  N x
theorem F_tie_tell_eq (N : Nat) (x : (Int × A0_) × Int × Int) : F_tie_tell  N x = W_tie_tell N x := (FV_tie_tell_eq  N x).trans (by kernel_rfl)
noncomputable def conw_tie_tell (w : (Int × A0_) × Int × Int → Option (M_)) : Con := ⟨63, as_tie_tell, bs_tie_tell, M_, w, out_tie_tell⟩
noncomputable def con_tie_tell (N : Nat) : Con := conw_tie_tell (W_tie_tell N)
theorem R_tie_tell_eq (x : (Int × A0_) × Int × Int) (y : M_) : retOf2 P0 Try.f63 (kpL []) (lbOf as_tie_tell bs_tie_tell x) (patS ⟨14, [], [], []⟩ pout_tie_tell y) = some (out_tie_tell y) := by kernel_rfl
theorem con_tie_tell_ok (N : Nat) : Con.ok P0 (con_tie_tell N) := ⟨⟨Try.f63, Try.func63, by kernel_rfl, by kernel_rfl⟩, fun (x : (Int × A0_) × Int × Int) (r : M_) (hr : W_tie_tell N x = some r) =>
  spec2_evT (Γ := G_tie_tell N) (Λ := L0) (pout := pout_tie_tell) (kp := kpL []) mixed (orcOf_ok [] (by simp)) Try.func63 (c := bodyOf Try.f63) (by kernel_rfl) (by kernel_rfl) (of_decide_eq_true (by kernel_rfl)) ((F_tie_tell_eq N x).trans hr) (R_tie_tell_eq x r)⟩
def as_tie_seek : List AS := [.val (.agg T0_)]
def bs_tie_seek : List BS := []
def pout_tie_seek : Pat := ⟨[(2, .ptr 600002 0), (3, .acc 700048)], [(600002, .box 27 (.val T0_)), (700048, .nrow 33 (.agg T_) false true)]⟩
noncomputable def G_tie_seek (w_tie_vain : Int × A0_ → Option (Int × A0_)) (w_tie_tell : (Int × A0_) × Int × Int → Option (M_)) (N : Nat) : OrcT := orcOf [conw_tie_vain w_tie_vain, conw_tie_tell w_tie_tell]
noncomputable def F_tie_seek (w_tie_vain : Int × A0_ → Option (Int × A0_)) (w_tie_tell : (Int × A0_) × Int × Int → Option (M_)) (N : Nat) (x : Int × A0_) : Option ((Int × A0_) × List (M_)) :=
  (evT (G_tie_seek w_tie_vain w_tie_tell N) L0 P0 []
    [(1000006, .reg [(8, [], ⟨[(1, .ptr 600001 0), (2, .ptr 600002 0), (28, .val .bool)], [(600001, .box 27 (.val T0_)), (600002, .box 27 (.val T0_))]⟩)]),
    (8, .cut [] [(.normal, ⟨[(1, .ptr 600001 0), (2, .ptr 600002 0)], [(600001, .box 27 (.val T0_)), (600002, .box 27 (.val T0_))]⟩)]),
    (3, .cut [] [(.normal, ⟨[(1, .ptr 600001 0), (2, .ptr 600002 0)], [(600001, .box 27 (.val T0_)), (600002, .box 27 (.val T0_))]⟩)])] N 400 (bodyOf Try.f37) ⟨49, slots 0 (argsOf as_tie_seek bs_tie_seek x), tabU (lbOf as_tie_seek bs_tie_seek x) [], []⟩).elim (kRet 49 pout_tie_seek (kpL []) (lbOf as_tie_seek bs_tie_seek x))
def out_tie_seek (y : (Int × A0_) × List (M_)) : V × List OK × List OK := (.tup [valW (.agg T0_) y.1, .acc 2000000 0], [], [.nrow 33 false true ⟨(.agg T_), y.2⟩])
noncomputable def V_tie_seek (w_tie_vain : Int × A0_ → Option (Int × A0_)) (w_tie_tell : (Int × A0_) × Int × Int → Option (M_)) (N : Nat) (x : Int × A0_) : Option ((Int × A0_) × List (M_)) :=
  obind (cnd (decide (x.2.2.2.2.2.2.2.2.2.1 ≠ (0:Int))) (cnd (decide (x.2.2.2.2.2.2.2.2.2.2.1 ≤ x.2.2.1)) (obind (w_tie_vain x) fun b => some (b,
    (0:Int), (0:Int), (0:Int), (0:Int), (0:Int), (0:Int), [], (0:Int), (0:Int), (0:Int), (0:Int), (0:Int), [])) (some (x, (0:Int), (0:Int), (0:Int),
    (0:Int), (0:Int), (0:Int), [], (0:Int), (0:Int), (0:Int), (0:Int), (0:Int), []))) (some (x, (0:Int), (0:Int), (0:Int), (0:Int), (0:Int), (0:Int),
    [], (0:Int), (0:Int), (0:Int), (0:Int), (0:Int), []))) fun (b : (Int × A0_) × Int × A0_) => cnd (decide
    (b.1.2.2.2.2.2.2.2.2.2.1 ≠ (0:Int))) (some (b.1, [])) (obind (obind (cnd (decide (b.1.2.2.2.2.2.2.2.2.2.2.2.1 = (0:Int))) (some (decide
    (b.1.2.2.2.2.2.1 ≠ (0:Int)), (b.1.1, b.1.2.1, b.1.2.2.1, b.1.2.2.2.1, b.1.2.2.2.2.1, b.1.2.2.2.2.2.1, b.1.2.2.2.2.2.2.1, b.1.2.2.2.2.2.2.2.1,
    b.1.2.2.2.2.2.2.2.2.1, (1:Int), b.1.2.2.2.2.2.2.2.2.2.2), b.2)) (some (false, (b.1.1, b.1.2.1, b.1.2.2.1, b.1.2.2.2.1, b.1.2.2.2.2.1,
    b.1.2.2.2.2.2.1, b.1.2.2.2.2.2.2.1, b.1.2.2.2.2.2.2.2.1, b.1.2.2.2.2.2.2.2.2.1, (1:Int), b.1.2.2.2.2.2.2.2.2.2.2), b.2))) fun (b : Bool × (Int × A0_) × Int × A0_) => cnd b.1 (cnd (decide (b.2.1.2.2.2.2.2.1 ≠ b.2.1.1)) (some ((b.2.1.1, b.2.1.2.1, b.2.1.2.2.1,
    b.2.1.2.2.2.1, b.2.1.2.2.2.2.1, b.2.1.2.2.2.2.2.1, b.2.1.2.2.2.2.2.2.1, b.2.1.2.2.2.2.2.2.2.1, b.2.1.2.2.2.2.2.2.2.2.1, b.2.1.2.2.2.2.2.1,
    b.2.1.2.2.2.2.2.2.2.2.2.2), b.2.2)) (some b.2)) (some b.2)) fun (b : (Int × A0_) × Int × A0_) => obind (w_tie_tell ((b.1.1, b.1.2.1, b.1.2.2.1, b.1.2.2.2.1, b.1.2.2.2.2.1, b.1.2.2.2.2.2.1, b.1.2.2.2.2.2.2.1, b.1.2.2.2.2.2.2.2.1, b.1.2.2.2.2.2.2.2.2.1,
    b.1.2.2.2.2.2.2.2.2.2.1, wr .i64 (b.1.2.2.1 + (3:Int)), b.1.2.2.2.2.2.2.2.2.2.2.2), (1:Int), b.1.2.2.2.2.2.2.2.2.2.1)) fun b_1 => some ((b.1.1,
    b.1.2.1, b.1.2.2.1, b.1.2.2.2.1, b.1.2.2.2.2.1, b.1.2.2.2.2.2.1, b.1.2.2.2.2.2.2.1, b.1.2.2.2.2.2.2.2.1, b.1.2.2.2.2.2.2.2.2.1,
    b.1.2.2.2.2.2.2.2.2.2.1, wr .i64 (b.1.2.2.1 + (3:Int)), b.1.2.2.2.2.2.2.2.2.2.2.2), [b_1]))
theorem FV_tie_seek_eq (w_tie_vain : Int × A0_ → Option (Int × A0_)) (w_tie_tell : (Int × A0_) × Int × Int → Option (M_)) (N : Nat) (x : Int × A0_) : F_tie_seek w_tie_vain w_tie_tell N x = V_tie_seek w_tie_vain w_tie_tell N x := by kernel_rfl
noncomputable def W_tie_seek (N : Nat) (x : Int × A0_) : Option ((Int × A0_) × List (M_)) := V_tie_seek (W_tie_vain N) (W_tie_tell N) N x
theorem F_tie_seek_eq (N : Nat) (x : Int × A0_) : F_tie_seek (W_tie_vain N) (W_tie_tell N) N x = W_tie_seek N x := (FV_tie_seek_eq (W_tie_vain N) (W_tie_tell N) N x).trans (by kernel_rfl)
noncomputable def conw_tie_seek (w : Int × A0_ → Option ((Int × A0_) × List (M_))) : Con := ⟨37, as_tie_seek, bs_tie_seek, (Int × A0_) × List (M_), w, out_tie_seek⟩
noncomputable def con_tie_seek (N : Nat) : Con := conw_tie_seek (W_tie_seek N)
theorem R_tie_seek_eq (x : Int × A0_) (y : (Int × A0_) × List (M_)) : retOf2 P0 Try.f37 (kpL []) (lbOf as_tie_seek bs_tie_seek x) (patS ⟨49, [], [], []⟩ pout_tie_seek y) = some (out_tie_seek y) := by kernel_rfl
theorem con_tie_seek_ok (N : Nat) : Con.ok P0 (con_tie_seek N) := ⟨⟨Try.f37, Try.func37, by kernel_rfl, by kernel_rfl⟩, fun (x : Int × A0_) (r : (Int × A0_) × List (M_)) (hr : W_tie_seek N x = some r) =>
  spec2_evT (Γ := G_tie_seek (W_tie_vain N) (W_tie_tell N) N) (Λ := L0) (pout := pout_tie_seek) (kp := kpL []) mixed (orcOf_ok _ (by simp only [List.mem_cons, List.not_mem_nil, or_false, forall_eq_or_imp, forall_eq]; exact ⟨con_tie_vain_ok N, con_tie_tell_ok N⟩)) Try.func37 (c := bodyOf Try.f37) (by kernel_rfl) (by kernel_rfl) (of_decide_eq_true (by kernel_rfl)) ((F_tie_seek_eq N x).trans hr) (R_tie_seek_eq x r)⟩
def as_tie_tellWay : List AS := [.val (.agg T0_), .val (.int .i64), .val (.int .i64)]
def bs_tie_tellWay : List BS := []
def pout_tie_tellWay : Pat := ⟨[(6, .ptr 600006 0)], [(600006, .box 33 (.val T_))]⟩
noncomputable def G_tie_tellWay (w_tie_tell : (Int × A0_) × Int × Int → Option (M_)) (w_tie_age : Int × A0_ → Option (Int)) (w_slices_Clone_int : List Int → Option (List Int)) (N : Nat) : OrcT := orcOf [conw_tie_tell w_tie_tell, conw_tie_age w_tie_age, conw_slices_Clone_int w_slices_Clone_int]
noncomputable def F_tie_tellWay (w_tie_tell : (Int × A0_) × Int × Int → Option (M_)) (w_tie_age : Int × A0_ → Option (Int)) (w_slices_Clone_int : List Int → Option (List Int)) (N : Nat) (x : (Int × A0_) × Int × Int) : Option (M_) :=
  (evT (G_tie_tellWay w_tie_tell w_tie_age w_slices_Clone_int N) L0 P0 []
    [] N 400 (bodyOf Try.f69) ⟨23, slots 0 (argsOf as_tie_tellWay bs_tie_tellWay x), tabU (lbOf as_tie_tellWay bs_tie_tellWay x) [], []⟩).elim (kRet 23 pout_tie_tellWay (kpL []) (lbOf as_tie_tellWay bs_tie_tellWay x))
def out_tie_tellWay (y : M_) : V × List OK × List OK := (valW (.agg T_) y, [], [])
noncomputable def V_tie_tellWay (w_tie_tell : (Int × A0_) × Int × Int → Option (M_)) (w_tie_age : Int × A0_ → Option (Int)) (w_slices_Clone_int : List Int → Option (List Int)) (N : Nat) (x : (Int × A0_) × Int × Int) : Option (M_) :=
  obind (w_tie_tell x) fun b => obind (w_tie_age x.1) fun b_1 => obind (w_slices_Clone_int x.1.2.2.2.2.2.2.1) fun b_2 => some (b.1, b.2.1, b.2.2.1, b.2.2.2.1, x.1.2.2.2.2.2.2.2.1, b_1, b_2, b.2.2.2.2.2.2.2)
theorem FV_tie_tellWay_eq (w_tie_tell : (Int × A0_) × Int × Int → Option (M_)) (w_tie_age : Int × A0_ → Option (Int)) (w_slices_Clone_int : List Int → Option (List Int)) (N : Nat) (x : (Int × A0_) × Int × Int) : F_tie_tellWay w_tie_tell w_tie_age w_slices_Clone_int N x = V_tie_tellWay w_tie_tell w_tie_age w_slices_Clone_int N x := by kernel_rfl
noncomputable def W_tie_tellWay (N : Nat) (x : (Int × A0_) × Int × Int) : Option (M_) := V_tie_tellWay (W_tie_tell N) (W_tie_age N) (W_slices_Clone_int N) N x
theorem F_tie_tellWay_eq (N : Nat) (x : (Int × A0_) × Int × Int) : F_tie_tellWay (W_tie_tell N) (W_tie_age N) (W_slices_Clone_int N) N x = W_tie_tellWay N x := (FV_tie_tellWay_eq (W_tie_tell N) (W_tie_age N) (W_slices_Clone_int N) N x).trans (by kernel_rfl)
noncomputable def conw_tie_tellWay (w : (Int × A0_) × Int × Int → Option (M_)) : Con := ⟨69, as_tie_tellWay, bs_tie_tellWay, M_, w, out_tie_tellWay⟩
noncomputable def con_tie_tellWay (N : Nat) : Con := conw_tie_tellWay (W_tie_tellWay N)
theorem R_tie_tellWay_eq (x : (Int × A0_) × Int × Int) (y : M_) : retOf2 P0 Try.f69 (kpL []) (lbOf as_tie_tellWay bs_tie_tellWay x) (patS ⟨23, [], [], []⟩ pout_tie_tellWay y) = some (out_tie_tellWay y) := by kernel_rfl
theorem con_tie_tellWay_ok (N : Nat) : Con.ok P0 (con_tie_tellWay N) := ⟨⟨Try.f69, Try.func69, by kernel_rfl, by kernel_rfl⟩, fun (x : (Int × A0_) × Int × Int) (r : M_) (hr : W_tie_tellWay N x = some r) =>
  spec2_evT (Γ := G_tie_tellWay (W_tie_tell N) (W_tie_age N) (W_slices_Clone_int N) N) (Λ := L0) (pout := pout_tie_tellWay) (kp := kpL []) mixed (orcOf_ok _ (by simp only [List.mem_cons, List.not_mem_nil, or_false, forall_eq_or_imp, forall_eq]; exact ⟨con_tie_tell_ok N, con_tie_age_ok N, con_slices_Clone_int_ok N⟩)) Try.func69 (c := bodyOf Try.f69) (by kernel_rfl) (by kernel_rfl) (of_decide_eq_true (by kernel_rfl)) ((F_tie_tellWay_eq N x).trans hr) (R_tie_tellWay_eq x r)⟩
def as_tie_beat : List AS := [.val (.agg T0_)]
def bs_tie_beat : List BS := []
def pout_tie_beat : Pat := ⟨[(2, .val (.list (.agg T_)))], []⟩
noncomputable def G_tie_beat (w_tie_tell : (Int × A0_) × Int × Int → Option (M_)) (w_tie_Fresh : Int × A0_ → Option (Bool)) (w_tie_tellWay : (Int × A0_) × Int × Int → Option (M_)) (N : Nat) : OrcT := orcOf [conw_tie_tell w_tie_tell, conw_tie_Fresh w_tie_Fresh, conw_tie_tellWay w_tie_tellWay]
noncomputable def F_tie_beat (w_tie_tell : (Int × A0_) × Int × Int → Option (M_)) (w_tie_Fresh : Int × A0_ → Option (Bool)) (w_tie_tellWay : (Int × A0_) × Int × Int → Option (M_)) (N : Nat) (x : Int × A0_) : Option (List (M_)) :=
  (evT (G_tie_beat w_tie_tell w_tie_Fresh w_tie_tellWay N) L0 P0 [(6, .loop [19] ⟨[(1, .ptr 600001 0), (3, .acc 700003), (21, .val (.int .i64))], [(600001, .box 27 (.val T0_)), (700003, .nrow 33 (.agg T_) true true)]⟩ [(.exit 0, ⟨[(3, .val (.list (.agg T_)))], []⟩)])]
    [(4, .cut [] [(.normal, ⟨[(1, .ptr 600001 0), (3, .acc 700003)], [(600001, .box 27 (.val T0_)), (700003, .nrow 33 (.agg T_) true true)]⟩)])] N 400 (bodyOf Try.f38) ⟨34, slots 0 (argsOf as_tie_beat bs_tie_beat x), tabU (lbOf as_tie_beat bs_tie_beat x) [], []⟩).elim (kRet 34 pout_tie_beat (kpL []) (lbOf as_tie_beat bs_tie_beat x))
def out_tie_beat (y : List (M_)) : V × List OK × List OK := (valW (.list (.agg T_)) y, [], [])
noncomputable def V_tie_beat (w_tie_tell : (Int × A0_) × Int × Int → Option (M_)) (w_tie_Fresh : Int × A0_ → Option (Bool)) (w_tie_tellWay : (Int × A0_) × Int × Int → Option (M_)) (N : Nat) (x : Int × A0_) : Option (List (M_)) :=
  obind (cnd (decide (x.2.2.2.1 ≠ (0:Int))) (obind (w_tie_tell (x, (4:Int), x.2.2.2.1)) fun b => some (x, [b])) (some (x, []))) fun (b : (Int × A0_) × List A1_) => obind (w_tie_Fresh b.1) fun b_1 => cnd b_1 (obind (loopN N (fun (v : Int × (Int × A0_) × List A1_) => cnd (decide
    (v.1 < (↑(List.length b.1.2.2.2.2.2.2.2.2.2.2.2.2) : Int))) (cnd (decide ((0:Int) ≤ v.1) && decide (v.1 < (↑(List.length
    b.1.2.2.2.2.2.2.2.2.2.2.2.2) : Int))) (obind (w_tie_tellWay (v.2.1, (5:Int), Prod.fst (List.getD b.1.2.2.2.2.2.2.2.2.2.2.2.2 (Int.toNat v.1)
    ((0:Int), (0:Int), (0:Int))))) fun b => cnd (decide ((List.length v.2.2 + List.length [b]) * (104:Nat) ≤ (140737488355328:Nat))) (some (Sum.inl (wr
    .i64 (v.1 + (1:Int)), v.2.1, v.2.2 ++ [b]))) none) none) (some (Sum.inr v.2.2))) ((0:Int), b)) fun (b : List A1_) => some b) (some b.2)
theorem FV_tie_beat_eq (w_tie_tell : (Int × A0_) × Int × Int → Option (M_)) (w_tie_Fresh : Int × A0_ → Option (Bool)) (w_tie_tellWay : (Int × A0_) × Int × Int → Option (M_)) (N : Nat) (x : Int × A0_) : F_tie_beat w_tie_tell w_tie_Fresh w_tie_tellWay N x = V_tie_beat w_tie_tell w_tie_Fresh w_tie_tellWay N x := by kernel_rfl
noncomputable def W_tie_beat (N : Nat) (x : Int × A0_) : Option (List (M_)) := V_tie_beat (W_tie_tell N) (W_tie_Fresh N) (W_tie_tellWay N) N x
theorem F_tie_beat_eq (N : Nat) (x : Int × A0_) : F_tie_beat (W_tie_tell N) (W_tie_Fresh N) (W_tie_tellWay N) N x = W_tie_beat N x := (FV_tie_beat_eq (W_tie_tell N) (W_tie_Fresh N) (W_tie_tellWay N) N x).trans (by kernel_rfl)
noncomputable def conw_tie_beat (w : Int × A0_ → Option (List (M_))) : Con := ⟨38, as_tie_beat, bs_tie_beat, List (M_), w, out_tie_beat⟩
noncomputable def con_tie_beat (N : Nat) : Con := conw_tie_beat (W_tie_beat N)
theorem R_tie_beat_eq (x : Int × A0_) (y : List (M_)) : retOf2 P0 Try.f38 (kpL []) (lbOf as_tie_beat bs_tie_beat x) (patS ⟨34, [], [], []⟩ pout_tie_beat y) = some (out_tie_beat y) := by kernel_rfl
theorem con_tie_beat_ok (N : Nat) : Con.ok P0 (con_tie_beat N) := ⟨⟨Try.f38, Try.func38, by kernel_rfl, by kernel_rfl⟩, fun (x : Int × A0_) (r : List (M_)) (hr : W_tie_beat N x = some r) =>
  spec2_evT (Γ := G_tie_beat (W_tie_tell N) (W_tie_Fresh N) (W_tie_tellWay N) N) (Λ := L0) (pout := pout_tie_beat) (kp := kpL []) mixed (orcOf_ok _ (by simp only [List.mem_cons, List.not_mem_nil, or_false, forall_eq_or_imp, forall_eq]; exact ⟨con_tie_tell_ok N, con_tie_Fresh_ok N, con_tie_tellWay_ok N⟩)) Try.func38 (c := bodyOf Try.f38) (by kernel_rfl) (by kernel_rfl) (of_decide_eq_true (by kernel_rfl)) ((F_tie_beat_eq N x).trans hr) (R_tie_beat_eq x r)⟩
def as_tie_Tick : List AS := [.val (.agg T0_)]
def bs_tie_Tick : List BS := []
def pout_tie_Tick : Pat := ⟨[(2, .ptr 600002 0), (3, .val (.list (.agg T_)))], [(600002, .box 27 (.val T0_))]⟩
noncomputable def G_tie_Tick (w_twin_Tie : Int × A0_ → Option (Int × A0_)) (w_kids_Prune : A3_ → Option (List (Int × Int × Int))) (w_tie_Fresh : Int × A0_ → Option (Bool)) (w_tie_letGo : (Int × A0_) × Int → Option (Int × A0_)) (w_tie_seek : Int × A0_ → Option ((Int × A0_) × List (M_))) (w_tie_beat : Int × A0_ → Option (List (M_))) (N : Nat) : OrcT := orcOf [conw_twin_Tie w_twin_Tie, conw_kids_Prune w_kids_Prune, conw_tie_Fresh w_tie_Fresh, conw_tie_letGo w_tie_letGo, conw_tie_seek w_tie_seek, conw_tie_beat w_tie_beat]
noncomputable def F_tie_Tick (w_twin_Tie : Int × A0_ → Option (Int × A0_)) (w_kids_Prune : A3_ → Option (List (Int × Int × Int))) (w_tie_Fresh : Int × A0_ → Option (Bool)) (w_tie_letGo : (Int × A0_) × Int → Option (Int × A0_)) (w_tie_seek : Int × A0_ → Option ((Int × A0_) × List (M_))) (w_tie_beat : Int × A0_ → Option (List (M_))) (N : Nat) (x : Int × A0_) : Option (List (M_) × Int × A0_) :=
  (evT (G_tie_Tick w_twin_Tie w_kids_Prune w_tie_Fresh w_tie_letGo w_tie_seek w_tie_beat N) L0 P0 []
    [(13, .cut [] [(.normal, ⟨[(2, .ptr 600002 0), (4, .ptr 600004 0), (6, .acc 700058)], [(600002, .box 27 (.val T0_)), (600004, .box 27 (.val T0_)), (700058, .nrow 33 (.agg T_) true true)]⟩)]),
    (10, .cut [] [(.normal, ⟨[(2, .ptr 600002 0), (4, .ptr 600004 0)], [(600002, .box 27 (.val T0_)), (600004, .box 27 (.val T0_))]⟩)]),
    (8, .cut [] [(.normal, ⟨[(2, .ptr 600002 0), (4, .ptr 600004 0)], [(600002, .box 27 (.val T0_)), (600004, .box 27 (.val T0_))]⟩)])] N 400 (bodyOf Try.f11) ⟨66, slots 0 (argsOf as_tie_Tick bs_tie_Tick x), tabU (lbOf as_tie_Tick bs_tie_Tick x) [], []⟩).elim (kRet 66 pout_tie_Tick (kpL []) (lbOf as_tie_Tick bs_tie_Tick x))
def out_tie_Tick (y : List (M_) × Int × A0_) : V × List OK × List OK := (.tup [valW (.agg T0_) y.2, valW (.list (.agg T_)) y.1], [], [])
noncomputable def V_tie_Tick (w_twin_Tie : Int × A0_ → Option (Int × A0_)) (w_kids_Prune : A3_ → Option (List (Int × Int × Int))) (w_tie_Fresh : Int × A0_ → Option (Bool)) (w_tie_letGo : (Int × A0_) × Int → Option (Int × A0_)) (w_tie_seek : Int × A0_ → Option ((Int × A0_) × List (M_))) (w_tie_beat : Int × A0_ → Option (List (M_))) (N : Nat) (x : Int × A0_) : Option (List (M_) × Int × A0_) :=
  obind (w_twin_Tie x) fun b => obind (w_kids_Prune (b.2.2.2.2.2.2.2.2.2.2.2.2, wr .i64 (b.2.2.1 + (1:Int)))) fun b_1 => obind (cnd (decide (b.1 =
    (1:Int))) (cnd (decide (Int.tmod (wr .i64 (b.2.2.1 + (1:Int))) (2:Int) = (0:Int))) (some (((0:Int), (0:Int), (0:Int), (0:Int), (0:Int), (0:Int), [],
    (0:Int), (0:Int), (0:Int), (0:Int), (0:Int), []), b.1, b.2.1, wr .i64 (b.2.2.1 + (1:Int)), b.2.2.2.1, b.2.2.2.2.1, b.2.2.2.2.2.1, b.2.2.2.2.2.2.1,
    wr .i64 (b.2.2.2.2.2.2.2.1 + (1:Int)), wr .i64 (b.2.2.1 + (1:Int)), b.2.2.2.2.2.2.2.2.2.1, b.2.2.2.2.2.2.2.2.2.2.1, b.2.2.2.2.2.2.2.2.2.2.2.1, b_1))
    (some (((0:Int), (0:Int), (0:Int), (0:Int), (0:Int), (0:Int), [], (0:Int), (0:Int), (0:Int), (0:Int), (0:Int), []), b.1, b.2.1, wr .i64 (b.2.2.1 +
    (1:Int)), b.2.2.2.1, b.2.2.2.2.1, b.2.2.2.2.2.1, b.2.2.2.2.2.2.1, b.2.2.2.2.2.2.2.1, b.2.2.2.2.2.2.2.2.1, b.2.2.2.2.2.2.2.2.2.1,
    b.2.2.2.2.2.2.2.2.2.2.1, b.2.2.2.2.2.2.2.2.2.2.2.1, b_1))) (some (((0:Int), (0:Int), (0:Int), (0:Int), (0:Int), (0:Int), [], (0:Int), (0:Int),
    (0:Int), (0:Int), (0:Int), []), b.1, b.2.1, wr .i64 (b.2.2.1 + (1:Int)), b.2.2.2.1, b.2.2.2.2.1, b.2.2.2.2.2.1, b.2.2.2.2.2.2.1, b.2.2.2.2.2.2.2.1,
    b.2.2.2.2.2.2.2.2.1, b.2.2.2.2.2.2.2.2.2.1, b.2.2.2.2.2.2.2.2.2.2.1, b.2.2.2.2.2.2.2.2.2.2.2.1, b_1))) fun (b_2 : (Int × A0_) × Int × A0_) => obind (cnd (decide (b_2.2.2.2.2.1 ≠ (0:Int))) (obind (w_tie_Fresh b_2.2) fun b => cnd (!b) (obind (w_tie_letGo
    (b_2.2, (0:Int))) fun b => some (b_2.1, b)) (some b_2)) (some b_2)) fun (b_3 : (Int × A0_) × Int × A0_) => obind (cnd
    (decide (b_3.2.2.2.2.1 = (0:Int))) (cnd (decide (b_3.2.1 ≠ (1:Int))) (obind (w_tie_seek b_3.2) fun b => some (b_3.1, b)) (some (b_3.1, b_3.2,
    []))) (some (b_3.1, b_3.2, []))) fun (b_4 : (Int × A0_) × (Int × A0_) × List A1_) => cnd (decide (Int.tmod (wr .i64 (b.2.2.1 + (1:Int))) (2:Int) = (0:Int))) (obind (w_tie_beat b_4.2.1) fun b
    => cnd (decide ((List.length b_4.2.2 + List.length b) * (104:Nat) ≤ (140737488355328:Nat))) (some (b_4.2.2 ++ b, b_4.2.1)) none) (some (b_4.2.2,
    b_4.2.1))
theorem FV_tie_Tick_eq (w_twin_Tie : Int × A0_ → Option (Int × A0_)) (w_kids_Prune : A3_ → Option (List (Int × Int × Int))) (w_tie_Fresh : Int × A0_ → Option (Bool)) (w_tie_letGo : (Int × A0_) × Int → Option (Int × A0_)) (w_tie_seek : Int × A0_ → Option ((Int × A0_) × List (M_))) (w_tie_beat : Int × A0_ → Option (List (M_))) (N : Nat) (x : Int × A0_) : F_tie_Tick w_twin_Tie w_kids_Prune w_tie_Fresh w_tie_letGo w_tie_seek w_tie_beat N x = V_tie_Tick w_twin_Tie w_kids_Prune w_tie_Fresh w_tie_letGo w_tie_seek w_tie_beat N x := by kernel_rfl
noncomputable def W_tie_Tick (N : Nat) (x : Int × A0_) : Option (List (M_) × Int × A0_) := V_tie_Tick (W_twin_Tie N) (W_kids_Prune N) (W_tie_Fresh N) (W_tie_letGo N) (W_tie_seek N) (W_tie_beat N) N x
theorem F_tie_Tick_eq (N : Nat) (x : Int × A0_) : F_tie_Tick (W_twin_Tie N) (W_kids_Prune N) (W_tie_Fresh N) (W_tie_letGo N) (W_tie_seek N) (W_tie_beat N) N x = W_tie_Tick N x := (FV_tie_Tick_eq (W_twin_Tie N) (W_kids_Prune N) (W_tie_Fresh N) (W_tie_letGo N) (W_tie_seek N) (W_tie_beat N) N x).trans (by kernel_rfl)
noncomputable def conw_tie_Tick (w : Int × A0_ → Option (List (M_) × Int × A0_)) : Con := ⟨11, as_tie_Tick, bs_tie_Tick, List (M_) × Int × Int × Int × Int × Int × Int × List Int × Int × Int × Int × Int × Int × List (Int × Int × Int), w, out_tie_Tick⟩
noncomputable def con_tie_Tick (N : Nat) : Con := conw_tie_Tick (W_tie_Tick N)
theorem R_tie_Tick_eq (x : Int × A0_) (y : List (M_) × Int × A0_) : retOf2 P0 Try.f11 (kpL []) (lbOf as_tie_Tick bs_tie_Tick x) (patS ⟨66, [], [], []⟩ pout_tie_Tick y) = some (out_tie_Tick y) := by kernel_rfl
theorem con_tie_Tick_ok (N : Nat) : Con.ok P0 (con_tie_Tick N) := ⟨⟨Try.f11, Try.func11, by kernel_rfl, by kernel_rfl⟩, fun (x : Int × A0_) (r : List (M_) × Int × A0_) (hr : W_tie_Tick N x = some r) =>
  spec2_evT (Γ := G_tie_Tick (W_twin_Tie N) (W_kids_Prune N) (W_tie_Fresh N) (W_tie_letGo N) (W_tie_seek N) (W_tie_beat N) N) (Λ := L0) (pout := pout_tie_Tick) (kp := kpL []) mixed (orcOf_ok _ (by simp only [List.mem_cons, List.not_mem_nil, or_false, forall_eq_or_imp, forall_eq]; exact ⟨con_twin_Tie_ok N, con_kids_Prune_ok N, con_tie_Fresh_ok N, con_tie_letGo_ok N, con_tie_seek_ok N, con_tie_beat_ok N⟩)) Try.func11 (c := bodyOf Try.f11) (by kernel_rfl) (by kernel_rfl) (of_decide_eq_true (by kernel_rfl)) ((F_tie_Tick_eq N x).trans hr) (R_tie_Tick_eq x r)⟩
def as_tie_of : List AS := [.val (.agg T0_), .val (.agg T_)]
def bs_tie_of : List BS := []
def pout_tie_of : Pat := ⟨[(4, .val (.alt 62 (.agg .unit) (.alt 90 (.agg .unit) (.alt1 91 (.agg .unit)))))], []⟩
noncomputable def G_tie_of  (N : Nat) : OrcT := orcOf []
noncomputable def F_tie_of  (N : Nat) (x : (Int × A0_) × M_) : Option (Unit ⊕ (Unit ⊕ Unit)) :=
  (evT (G_tie_of  N) L0 P0 []
    [] N 400 (bodyOf Try.f39) ⟨33, slots 0 (argsOf as_tie_of bs_tie_of x), tabU (lbOf as_tie_of bs_tie_of x) [], []⟩).elim (kRet 33 pout_tie_of (kpL []) (lbOf as_tie_of bs_tie_of x))
def out_tie_of (y : Unit ⊕ (Unit ⊕ Unit)) : V × List OK × List OK := (valW (.alt 62 (.agg .unit) (.alt 90 (.agg .unit) (.alt1 91 (.agg .unit)))) y, [], [])
noncomputable def V_tie_of  (N : Nat) (x : (Int × A0_) × M_) : Option (Unit ⊕ (Unit ⊕ Unit)) :=
  cnd (decide (x.1.2.2.2.1 ≠ (0:Int))) (cnd (decide (x.2.2.1 = x.1.2.2.2.1)) (some (Sum.inl ())) (cnd (decide (x.1.2.2.2.2.2.2.2.2.2.1 ≠ (0:Int))) (cnd
    (decide (x.2.2.1 = x.1.2.2.2.2.2.2.2.2.2.1)) (some (Sum.inr (Sum.inl ()))) (some (Sum.inr (Sum.inr ())))) (some (Sum.inr (Sum.inr ()))))) (cnd
    (decide (x.1.2.2.2.2.2.2.2.2.2.1 ≠ (0:Int))) (cnd (decide (x.2.2.1 = x.1.2.2.2.2.2.2.2.2.2.1)) (some (Sum.inr (Sum.inl ()))) (some (Sum.inr (Sum.inr
    ())))) (some (Sum.inr (Sum.inr ()))))
theorem FV_tie_of_eq  (N : Nat) (x : (Int × A0_) × M_) : F_tie_of  N x = V_tie_of  N x := by kernel_rfl
noncomputable def W_tie_of (N : Nat) (x : (Int × A0_) × M_) : Option (Unit ⊕ (Unit ⊕ Unit)) := V_tie_of  N x
theorem F_tie_of_eq (N : Nat) (x : (Int × A0_) × M_) : F_tie_of  N x = W_tie_of N x := (FV_tie_of_eq  N x).trans (by kernel_rfl)
noncomputable def conw_tie_of (w : (Int × A0_) × M_ → Option (Unit ⊕ (Unit ⊕ Unit))) : Con := ⟨39, as_tie_of, bs_tie_of, Unit ⊕ (Unit ⊕ Unit), w, out_tie_of⟩
noncomputable def con_tie_of (N : Nat) : Con := conw_tie_of (W_tie_of N)
theorem R_tie_of_eq (x : (Int × A0_) × M_) (y : Unit ⊕ (Unit ⊕ Unit)) : retOf2 P0 Try.f39 (kpL []) (lbOf as_tie_of bs_tie_of x) (patS ⟨33, [], [], []⟩ pout_tie_of y) = some (out_tie_of y) := by kernel_rfl
theorem con_tie_of_ok (N : Nat) : Con.ok P0 (con_tie_of N) := ⟨⟨Try.f39, Try.func39, by kernel_rfl, by kernel_rfl⟩, fun (x : (Int × A0_) × M_) (r : Unit ⊕ (Unit ⊕ Unit)) (hr : W_tie_of N x = some r) =>
  spec2_evT (Γ := G_tie_of N) (Λ := L0) (pout := pout_tie_of) (kp := kpL []) mixed (orcOf_ok [] (by simp)) Try.func39 (c := bodyOf Try.f39) (by kernel_rfl) (by kernel_rfl) (of_decide_eq_true (by kernel_rfl)) ((F_tie_of_eq N x).trans hr) (R_tie_of_eq x r)⟩
def as_kids_seek : List AS := [.val (.list T1_), .val (.int .i64)]
def bs_kids_seek : List BS := []
def pout_kids_seek : Pat := ⟨[(4, .val (.alt 97 (.agg (.pair (.int .i64) T1_)) (.alt1 101 (.agg (.int .i64)))))], []⟩
noncomputable def G_kids_seek  (N : Nat) : OrcT := orcOf []
noncomputable def F_kids_seek  (N : Nat) (x : A3_) : Option ((Int × Int × Int × Int) ⊕ Int) :=
  (evT (G_kids_seek  N) L0 P0 [(2, .loop [7] ⟨[(9, .val (.int .i64))], []⟩ [(.exit 0, ⟨[], []⟩), (.ret, ⟨[(4, .val (.alt 97 (.agg (.pair (.int .i64) T1_)) (.alt1 101 (.agg (.int .i64)))))], []⟩)])]
    [] N 400 (bodyOf Try.f79) ⟨34, slots 0 (argsOf as_kids_seek bs_kids_seek x), tabU (lbOf as_kids_seek bs_kids_seek x) [], []⟩).elim (kRet 34 pout_kids_seek (kpL []) (lbOf as_kids_seek bs_kids_seek x))
def out_kids_seek (y : (Int × Int × Int × Int) ⊕ Int) : V × List OK × List OK := (valW (.alt 97 (.agg (.pair (.int .i64) T1_)) (.alt1 101 (.agg (.int .i64)))) y, [], [])
noncomputable def V_kids_seek  (N : Nat) (x : A3_) : Option ((Int × Int × Int × Int) ⊕ Int) :=
  obind (loopN N (fun (v : Int) => cnd (decide (v < (↑(List.length x.1) : Int))) (cnd (decide ((0:Int) ≤ v) && decide (v < (↑(List.length x.1) : Int)))
    (cnd (decide (Prod.fst (List.getD x.1 (Int.toNat v) ((0:Int), (0:Int), (0:Int))) = x.2)) (some (Sum.inr (Sum.inr (Sum.inl (v, Prod.fst (List.getD
    x.1 (Int.toNat v) ((0:Int), (0:Int), (0:Int))), Prod.fst (Prod.snd (List.getD x.1 (Int.toNat v) ((0:Int), (0:Int), (0:Int)))), Prod.snd (Prod.snd
    (List.getD x.1 (Int.toNat v) ((0:Int), (0:Int), (0:Int))))))))) (cnd (decide (x.2 < Prod.fst (List.getD x.1 (Int.toNat v) ((0:Int), (0:Int),
    (0:Int))))) (some (Sum.inr (Sum.inr (Sum.inr v)))) (some (Sum.inl (wr .i64 (v + (1:Int))))))) none) (some (Sum.inr (Sum.inl ())))) (Int.ofNat
    (0:Nat))) fun (b : PUnit ⊕ Int × Int × Int × Int ⊕ Int) => selim (fun (b : PUnit) => some (Sum.inr (↑(List.length x.1) : Int))) (fun (c : Int × Int × Int × Int ⊕ Int) => some c) b
theorem FV_kids_seek_eq  (N : Nat) (x : A3_) : F_kids_seek  N x = V_kids_seek  N x := by kernel_rfl
noncomputable def W_kids_seek (N : Nat) (x : A3_) : Option ((Int × Int × Int × Int) ⊕ Int) := V_kids_seek  N x
theorem F_kids_seek_eq (N : Nat) (x : A3_) : F_kids_seek  N x = W_kids_seek N x := (FV_kids_seek_eq  N x).trans (by kernel_rfl)
noncomputable def conw_kids_seek (w : A3_ → Option ((Int × Int × Int × Int) ⊕ Int)) : Con := ⟨79, as_kids_seek, bs_kids_seek, (Int × Int × Int × Int) ⊕ Int, w, out_kids_seek⟩
noncomputable def con_kids_seek (N : Nat) : Con := conw_kids_seek (W_kids_seek N)
theorem R_kids_seek_eq (x : A3_) (y : (Int × Int × Int × Int) ⊕ Int) : retOf2 P0 Try.f79 (kpL []) (lbOf as_kids_seek bs_kids_seek x) (patS ⟨34, [], [], []⟩ pout_kids_seek y) = some (out_kids_seek y) := by kernel_rfl
theorem con_kids_seek_ok (N : Nat) : Con.ok P0 (con_kids_seek N) := ⟨⟨Try.f79, Try.func79, by kernel_rfl, by kernel_rfl⟩, fun (x : A3_) (r : (Int × Int × Int × Int) ⊕ Int) (hr : W_kids_seek N x = some r) =>
  spec2_evT (Γ := G_kids_seek N) (Λ := L0) (pout := pout_kids_seek) (kp := kpL []) mixed (orcOf_ok [] (by simp)) Try.func79 (c := bodyOf Try.f79) (by kernel_rfl) (by kernel_rfl) (of_decide_eq_true (by kernel_rfl)) ((F_kids_seek_eq N x).trans hr) (R_kids_seek_eq x r)⟩
def as_kids_Find : List AS := [.val (.list T1_), .val (.int .i64)]
def bs_kids_Find : List BS := []
def pout_kids_Find : Pat := ⟨[(4, .ptr 600004 0), (5, .val .bool)], [(600004, .box 73 (.val T3_))]⟩
noncomputable def G_kids_Find (w_kids_seek : A3_ → Option ((Int × Int × Int × Int) ⊕ Int)) (N : Nat) : OrcT := orcOf [conw_kids_seek w_kids_seek]
noncomputable def F_kids_Find (w_kids_seek : A3_ → Option ((Int × Int × Int × Int) ⊕ Int)) (N : Nat) (x : A3_) : Option (Bool × Int × Int × Int) :=
  (evT (G_kids_Find w_kids_seek N) L0 P0 []
    [] N 400 (bodyOf Try.f70) ⟨18, slots 0 (argsOf as_kids_Find bs_kids_Find x), tabU (lbOf as_kids_Find bs_kids_Find x) [], []⟩).elim (kRet 18 pout_kids_Find (kpL []) (lbOf as_kids_Find bs_kids_Find x))
def out_kids_Find (y : Bool × Int × Int × Int) : V × List OK × List OK := (.tup [valW T1_ y.2, valW .bool y.1], [], [])
noncomputable def V_kids_Find (w_kids_seek : A3_ → Option ((Int × Int × Int × Int) ⊕ Int)) (N : Nat) (x : A3_) : Option (Bool × Int × Int × Int) :=
  obind (w_kids_seek x) fun b => selim (fun (b : Int × Int × Int × Int) => some (true, b.2)) (fun (c : Int) => some (false, (0:Int), (0:Int), (0:Int))) b
theorem FV_kids_Find_eq (w_kids_seek : A3_ → Option ((Int × Int × Int × Int) ⊕ Int)) (N : Nat) (x : A3_) : F_kids_Find w_kids_seek N x = V_kids_Find w_kids_seek N x := by kernel_rfl
noncomputable def W_kids_Find (N : Nat) (x : A3_) : Option (Bool × Int × Int × Int) := V_kids_Find (W_kids_seek N) N x
theorem F_kids_Find_eq (N : Nat) (x : A3_) : F_kids_Find (W_kids_seek N) N x = W_kids_Find N x := (FV_kids_Find_eq (W_kids_seek N) N x).trans (by kernel_rfl)
noncomputable def conw_kids_Find (w : A3_ → Option (Bool × Int × Int × Int)) : Con := ⟨70, as_kids_Find, bs_kids_Find, Bool × Int × Int × Int, w, out_kids_Find⟩
noncomputable def con_kids_Find (N : Nat) : Con := conw_kids_Find (W_kids_Find N)
theorem R_kids_Find_eq (x : A3_) (y : Bool × Int × Int × Int) : retOf2 P0 Try.f70 (kpL []) (lbOf as_kids_Find bs_kids_Find x) (patS ⟨18, [], [], []⟩ pout_kids_Find y) = some (out_kids_Find y) := by kernel_rfl
theorem con_kids_Find_ok (N : Nat) : Con.ok P0 (con_kids_Find N) := ⟨⟨Try.f70, Try.func70, by kernel_rfl, by kernel_rfl⟩, fun (x : A3_) (r : Bool × Int × Int × Int) (hr : W_kids_Find N x = some r) =>
  spec2_evT (Γ := G_kids_Find (W_kids_seek N) N) (Λ := L0) (pout := pout_kids_Find) (kp := kpL []) mixed (orcOf_ok _ (by simp only [List.mem_cons, List.not_mem_nil, or_false, forall_eq_or_imp, forall_eq]; exact con_kids_seek_ok N)) Try.func70 (c := bodyOf Try.f70) (by kernel_rfl) (by kernel_rfl) (of_decide_eq_true (by kernel_rfl)) ((F_kids_Find_eq N x).trans hr) (R_kids_Find_eq x r)⟩
def as_kids_Old : List AS := [.val (.list T1_), .val (.int .i64), .val (.int .i64)]
def bs_kids_Old : List BS := []
def pout_kids_Old : Pat := ⟨[(6, .val .bool)], []⟩
noncomputable def G_kids_Old (w_kids_Find : A3_ → Option (Bool × Int × Int × Int)) (N : Nat) : OrcT := orcOf [conw_kids_Find w_kids_Find]
noncomputable def F_kids_Old (w_kids_Find : A3_ → Option (Bool × Int × Int × Int)) (N : Nat) (x : List (Int × Int × Int) × Int × Int) : Option (Bool) :=
  (evT (G_kids_Old w_kids_Find N) L0 P0 []
    [] N 400 (bodyOf Try.f40) ⟨22, slots 0 (argsOf as_kids_Old bs_kids_Old x), tabU (lbOf as_kids_Old bs_kids_Old x) [], []⟩).elim (kRet 22 pout_kids_Old (kpL []) (lbOf as_kids_Old bs_kids_Old x))
def out_kids_Old (y : Bool) : V × List OK × List OK := (valW .bool y, [], [])
noncomputable def V_kids_Old (w_kids_Find : A3_ → Option (Bool × Int × Int × Int)) (N : Nat) (x : List (Int × Int × Int) × Int × Int) : Option (Bool) :=
  obind (w_kids_Find (x.1, x.2.1)) fun b => cnd b.1 (some (decide (x.2.2 < b.2.2.1))) (some false)
theorem FV_kids_Old_eq (w_kids_Find : A3_ → Option (Bool × Int × Int × Int)) (N : Nat) (x : List (Int × Int × Int) × Int × Int) : F_kids_Old w_kids_Find N x = V_kids_Old w_kids_Find N x := by kernel_rfl
noncomputable def W_kids_Old (N : Nat) (x : List (Int × Int × Int) × Int × Int) : Option (Bool) := V_kids_Old (W_kids_Find N) N x
theorem F_kids_Old_eq (N : Nat) (x : List (Int × Int × Int) × Int × Int) : F_kids_Old (W_kids_Find N) N x = W_kids_Old N x := (FV_kids_Old_eq (W_kids_Find N) N x).trans (by kernel_rfl)
noncomputable def conw_kids_Old (w : List (Int × Int × Int) × Int × Int → Option (Bool)) : Con := ⟨40, as_kids_Old, bs_kids_Old, Bool, w, out_kids_Old⟩
noncomputable def con_kids_Old (N : Nat) : Con := conw_kids_Old (W_kids_Old N)
theorem R_kids_Old_eq (x : List (Int × Int × Int) × Int × Int) (y : Bool) : retOf2 P0 Try.f40 (kpL []) (lbOf as_kids_Old bs_kids_Old x) (patS ⟨22, [], [], []⟩ pout_kids_Old y) = some (out_kids_Old y) := by kernel_rfl
theorem con_kids_Old_ok (N : Nat) : Con.ok P0 (con_kids_Old N) := ⟨⟨Try.f40, Try.func40, by kernel_rfl, by kernel_rfl⟩, fun (x : List (Int × Int × Int) × Int × Int) (r : Bool) (hr : W_kids_Old N x = some r) =>
  spec2_evT (Γ := G_kids_Old (W_kids_Find N) N) (Λ := L0) (pout := pout_kids_Old) (kp := kpL []) mixed (orcOf_ok _ (by simp only [List.mem_cons, List.not_mem_nil, or_false, forall_eq_or_imp, forall_eq]; exact con_kids_Find_ok N)) Try.func40 (c := bodyOf Try.f40) (by kernel_rfl) (by kernel_rfl) (of_decide_eq_true (by kernel_rfl)) ((F_kids_Old_eq N x).trans hr) (R_kids_Old_eq x r)⟩
def as_slices_Index_int : List AS := [.val (.list (.int .i64)), .val (.int .i64)]
def bs_slices_Index_int : List BS := []
def pout_slices_Index_int : Pat := ⟨[(4, .val (.int .i64))], []⟩
noncomputable def G_slices_Index_int  (N : Nat) : OrcT := orcOf []
noncomputable def F_slices_Index_int  (N : Nat) (x : List Int × Int) : Option (Int) :=
  (evT (G_slices_Index_int  N) L0 P0 [(2, .loop [] ⟨[(8, .val (.int .i64))], []⟩ [(.exit 0, ⟨[], []⟩), (.ret, ⟨[(4, .val (.int .i64))], []⟩)])]
    [] N 400 (bodyOf Try.f84) ⟨19, slots 0 (argsOf as_slices_Index_int bs_slices_Index_int x), tabU (lbOf as_slices_Index_int bs_slices_Index_int x) [], []⟩).elim (kRet 19 pout_slices_Index_int (kpL []) (lbOf as_slices_Index_int bs_slices_Index_int x))
def out_slices_Index_int (y : Int) : V × List OK × List OK := (valW (.int .i64) y, [], [])
noncomputable def V_slices_Index_int  (N : Nat) (x : List Int × Int) : Option (Int) :=
  obind (loopN N (fun (v : Int) => cnd (decide (v < (↑(List.length x.1) : Int))) (cnd (decide ((0:Int) ≤ v) && decide (v < (↑(List.length x.1) : Int)))
    (cnd (decide (x.2 = List.getD x.1 (Int.toNat v) (0:Int))) (some (Sum.inr (Sum.inr v))) (some (Sum.inl (wr .i64 (v + (1:Int)))))) none) (some
    (Sum.inr (Sum.inl ())))) (Int.ofNat (0:Nat))) fun (b : PUnit ⊕ Int) => selim (fun (b : PUnit) => some (-1 : Int)) (fun (c : Int) => some c) b
theorem FV_slices_Index_int_eq  (N : Nat) (x : List Int × Int) : F_slices_Index_int  N x = V_slices_Index_int  N x := by kernel_rfl
noncomputable def W_slices_Index_int (N : Nat) (x : List Int × Int) : Option (Int) := V_slices_Index_int  N x
theorem F_slices_Index_int_eq (N : Nat) (x : List Int × Int) : F_slices_Index_int  N x = W_slices_Index_int N x := (FV_slices_Index_int_eq  N x).trans (by kernel_rfl)
noncomputable def conw_slices_Index_int (w : List Int × Int → Option (Int)) : Con := ⟨84, as_slices_Index_int, bs_slices_Index_int, Int, w, out_slices_Index_int⟩
noncomputable def con_slices_Index_int (N : Nat) : Con := conw_slices_Index_int (W_slices_Index_int N)
theorem R_slices_Index_int_eq (x : List Int × Int) (y : Int) : retOf2 P0 Try.f84 (kpL []) (lbOf as_slices_Index_int bs_slices_Index_int x) (patS ⟨19, [], [], []⟩ pout_slices_Index_int y) = some (out_slices_Index_int y) := by kernel_rfl
theorem con_slices_Index_int_ok (N : Nat) : Con.ok P0 (con_slices_Index_int N) := ⟨⟨Try.f84, Try.func84, by kernel_rfl, by kernel_rfl⟩, fun (x : List Int × Int) (r : Int) (hr : W_slices_Index_int N x = some r) =>
  spec2_evT (Γ := G_slices_Index_int N) (Λ := L0) (pout := pout_slices_Index_int) (kp := kpL []) mixed (orcOf_ok [] (by simp)) Try.func84 (c := bodyOf Try.f84) (by kernel_rfl) (by kernel_rfl) (of_decide_eq_true (by kernel_rfl)) ((F_slices_Index_int_eq N x).trans hr) (R_slices_Index_int_eq x r)⟩
def as_slices_Contains_int : List AS := [.val (.list (.int .i64)), .val (.int .i64)]
def bs_slices_Contains_int : List BS := []
def pout_slices_Contains_int : Pat := ⟨[(4, .val .bool)], []⟩
noncomputable def G_slices_Contains_int (w_slices_Index_int : List Int × Int → Option (Int)) (N : Nat) : OrcT := orcOf [conw_slices_Index_int w_slices_Index_int]
noncomputable def F_slices_Contains_int (w_slices_Index_int : List Int × Int → Option (Int)) (N : Nat) (x : List Int × Int) : Option (Bool) :=
  (evT (G_slices_Contains_int w_slices_Index_int N) L0 P0 []
    [] N 400 (bodyOf Try.f80) ⟨9, slots 0 (argsOf as_slices_Contains_int bs_slices_Contains_int x), tabU (lbOf as_slices_Contains_int bs_slices_Contains_int x) [], []⟩).elim (kRet 9 pout_slices_Contains_int (kpL []) (lbOf as_slices_Contains_int bs_slices_Contains_int x))
def out_slices_Contains_int (y : Bool) : V × List OK × List OK := (valW .bool y, [], [])
noncomputable def V_slices_Contains_int (w_slices_Index_int : List Int × Int → Option (Int)) (N : Nat) (x : List Int × Int) : Option (Bool) :=
  obind (w_slices_Index_int x) fun b => some (decide ((0:Int) ≤ b))
theorem FV_slices_Contains_int_eq (w_slices_Index_int : List Int × Int → Option (Int)) (N : Nat) (x : List Int × Int) : F_slices_Contains_int w_slices_Index_int N x = V_slices_Contains_int w_slices_Index_int N x := by kernel_rfl
noncomputable def W_slices_Contains_int (N : Nat) (x : List Int × Int) : Option (Bool) := V_slices_Contains_int (W_slices_Index_int N) N x
theorem F_slices_Contains_int_eq (N : Nat) (x : List Int × Int) : F_slices_Contains_int (W_slices_Index_int N) N x = W_slices_Contains_int N x := (FV_slices_Contains_int_eq (W_slices_Index_int N) N x).trans (by kernel_rfl)
noncomputable def conw_slices_Contains_int (w : List Int × Int → Option (Bool)) : Con := ⟨80, as_slices_Contains_int, bs_slices_Contains_int, Bool, w, out_slices_Contains_int⟩
noncomputable def con_slices_Contains_int (N : Nat) : Con := conw_slices_Contains_int (W_slices_Contains_int N)
theorem R_slices_Contains_int_eq (x : List Int × Int) (y : Bool) : retOf2 P0 Try.f80 (kpL []) (lbOf as_slices_Contains_int bs_slices_Contains_int x) (patS ⟨9, [], [], []⟩ pout_slices_Contains_int y) = some (out_slices_Contains_int y) := by kernel_rfl
theorem con_slices_Contains_int_ok (N : Nat) : Con.ok P0 (con_slices_Contains_int N) := ⟨⟨Try.f80, Try.func80, by kernel_rfl, by kernel_rfl⟩, fun (x : List Int × Int) (r : Bool) (hr : W_slices_Contains_int N x = some r) =>
  spec2_evT (Γ := G_slices_Contains_int (W_slices_Index_int N) N) (Λ := L0) (pout := pout_slices_Contains_int) (kp := kpL []) mixed (orcOf_ok _ (by simp only [List.mem_cons, List.not_mem_nil, or_false, forall_eq_or_imp, forall_eq]; exact con_slices_Index_int_ok N)) Try.func80 (c := bodyOf Try.f80) (by kernel_rfl) (by kernel_rfl) (of_decide_eq_true (by kernel_rfl)) ((F_slices_Contains_int_eq N x).trans hr) (R_slices_Contains_int_eq x r)⟩
def as_path_Has : List AS := [.val (.list (.int .i64)), .val (.int .i64)]
def bs_path_Has : List BS := []
def pout_path_Has : Pat := ⟨[(4, .val .bool)], []⟩
noncomputable def G_path_Has (w_slices_Contains_int : List Int × Int → Option (Bool)) (N : Nat) : OrcT := orcOf [conw_slices_Contains_int w_slices_Contains_int]
noncomputable def F_path_Has (w_slices_Contains_int : List Int × Int → Option (Bool)) (N : Nat) (x : List Int × Int) : Option (Bool) :=
  (evT (G_path_Has w_slices_Contains_int N) L0 P0 []
    [] N 400 (bodyOf Try.f71) ⟨8, slots 0 (argsOf as_path_Has bs_path_Has x), tabU (lbOf as_path_Has bs_path_Has x) [], []⟩).elim (kRet 8 pout_path_Has (kpL []) (lbOf as_path_Has bs_path_Has x))
def out_path_Has (y : Bool) : V × List OK × List OK := (valW .bool y, [], [])
noncomputable def V_path_Has (w_slices_Contains_int : List Int × Int → Option (Bool)) (N : Nat) (x : List Int × Int) : Option (Bool) :=
  obind (w_slices_Contains_int x) fun b => some b
theorem FV_path_Has_eq (w_slices_Contains_int : List Int × Int → Option (Bool)) (N : Nat) (x : List Int × Int) : F_path_Has w_slices_Contains_int N x = V_path_Has w_slices_Contains_int N x := by kernel_rfl
noncomputable def W_path_Has (N : Nat) (x : List Int × Int) : Option (Bool) := V_path_Has (W_slices_Contains_int N) N x
theorem F_path_Has_eq (N : Nat) (x : List Int × Int) : F_path_Has (W_slices_Contains_int N) N x = W_path_Has N x := (FV_path_Has_eq (W_slices_Contains_int N) N x).trans (by kernel_rfl)
noncomputable def conw_path_Has (w : List Int × Int → Option (Bool)) : Con := ⟨71, as_path_Has, bs_path_Has, Bool, w, out_path_Has⟩
noncomputable def con_path_Has (N : Nat) : Con := conw_path_Has (W_path_Has N)
theorem R_path_Has_eq (x : List Int × Int) (y : Bool) : retOf2 P0 Try.f71 (kpL []) (lbOf as_path_Has bs_path_Has x) (patS ⟨8, [], [], []⟩ pout_path_Has y) = some (out_path_Has y) := by kernel_rfl
theorem con_path_Has_ok (N : Nat) : Con.ok P0 (con_path_Has N) := ⟨⟨Try.f71, Try.func71, by kernel_rfl, by kernel_rfl⟩, fun (x : List Int × Int) (r : Bool) (hr : W_path_Has N x = some r) =>
  spec2_evT (Γ := G_path_Has (W_slices_Contains_int N) N) (Λ := L0) (pout := pout_path_Has) (kp := kpL []) mixed (orcOf_ok _ (by simp only [List.mem_cons, List.not_mem_nil, or_false, forall_eq_or_imp, forall_eq]; exact con_slices_Contains_int_ok N)) Try.func71 (c := bodyOf Try.f71) (by kernel_rfl) (by kernel_rfl) (of_decide_eq_true (by kernel_rfl)) ((F_path_Has_eq N x).trans hr) (R_path_Has_eq x r)⟩
def as_tie_most : List AS := [.val (.agg T0_)]
def bs_tie_most : List BS := []
def pout_tie_most : Pat := ⟨[(2, .val (.int .i64))], []⟩
noncomputable def G_tie_most  (N : Nat) : OrcT := orcOf []
noncomputable def F_tie_most  (N : Nat) (x : Int × A0_) : Option (Int) :=
  (evT (G_tie_most  N) L0 P0 []
    [] N 400 (bodyOf Try.f72) ⟨6, slots 0 (argsOf as_tie_most bs_tie_most x), tabU (lbOf as_tie_most bs_tie_most x) [], []⟩).elim (kRet 6 pout_tie_most (kpL []) (lbOf as_tie_most bs_tie_most x))
def out_tie_most (y : Int) : V × List OK × List OK := (valW (.int .i64) y, [], [])
noncomputable def V_tie_most  (N : Nat) (x : Int × A0_) : Option (Int) :=
  cnd (decide (x.1 = (1:Int))) (some (8:Int)) (some (3:Int))
theorem FV_tie_most_eq  (N : Nat) (x : Int × A0_) : F_tie_most  N x = V_tie_most  N x := by kernel_rfl
noncomputable def W_tie_most (N : Nat) (x : Int × A0_) : Option (Int) := V_tie_most  N x
theorem F_tie_most_eq (N : Nat) (x : Int × A0_) : F_tie_most  N x = W_tie_most N x := (FV_tie_most_eq  N x).trans (by kernel_rfl)
noncomputable def conw_tie_most (w : Int × A0_ → Option (Int)) : Con := ⟨72, as_tie_most, bs_tie_most, Int, w, out_tie_most⟩
noncomputable def con_tie_most (N : Nat) : Con := conw_tie_most (W_tie_most N)
theorem R_tie_most_eq (x : Int × A0_) (y : Int) : retOf2 P0 Try.f72 (kpL []) (lbOf as_tie_most bs_tie_most x) (patS ⟨6, [], [], []⟩ pout_tie_most y) = some (out_tie_most y) := by kernel_rfl
theorem con_tie_most_ok (N : Nat) : Con.ok P0 (con_tie_most N) := ⟨⟨Try.f72, Try.func72, by kernel_rfl, by kernel_rfl⟩, fun (x : Int × A0_) (r : Int) (hr : W_tie_most N x = some r) =>
  spec2_evT (Γ := G_tie_most N) (Λ := L0) (pout := pout_tie_most) (kp := kpL []) mixed (orcOf_ok [] (by simp)) Try.func72 (c := bodyOf Try.f72) (by kernel_rfl) (by kernel_rfl) (of_decide_eq_true (by kernel_rfl)) ((F_tie_most_eq N x).trans hr) (R_tie_most_eq x r)⟩
def as_slices_Insert_api_Kid : List AS := [.acc 0, .val (.int .i64), .val (.list T1_)]
def bs_slices_Insert_api_Kid : List BS := [.nrow 73 T1_ true]
def out_slices_Insert_api_Kid (y : List (Int × Int × Int)) : V × List OK × List OK := (.acc 2000000 0, [.dead], [.nrow 73 false true ⟨T1_, y⟩])
noncomputable def W_slices_Insert_api_Kid (N : Nat) (x : Int × List (Int × Int × Int) × List (Int × Int × Int)) : Option (List (Int × Int × Int)) :=
  cnd (decide ((0:Int) ≤ x.1) && decide (x.1 ≤ ((↑(List.length x.2.2) : Int) : Int)) && decide (List.length x.2.1 = (1:Nat)) && decide ((List.length x.2.2 + (1:Nat)) * (24:Nat) ≤ (140737488355328:Nat))) (some (List.take (Int.toNat x.1) x.2.2 ++ (x.2.1 ++ List.drop (Int.toNat x.1) x.2.2))) none
noncomputable def conw_slices_Insert_api_Kid (w : Int × List (Int × Int × Int) × List (Int × Int × Int) → Option (List (Int × Int × Int))) : Con := ⟨81, as_slices_Insert_api_Kid, bs_slices_Insert_api_Kid, List (Int × Int × Int), w, out_slices_Insert_api_Kid⟩
noncomputable def con_slices_Insert_api_Kid (N : Nat) : Con := conw_slices_Insert_api_Kid (W_slices_Insert_api_Kid N)
theorem con_slices_Insert_api_Kid_ok (N : Nat) : Con.ok P0 (con_slices_Insert_api_Kid N) := ⟨⟨Try.f81, Try.func81, by kernel_rfl, by kernel_rfl⟩, fun (x : Int × List (Int × Int × Int) × List (Int × Int × Int)) (r : List (Int × Int × Int)) (hr : W_slices_Insert_api_Kid N x = some r) => by
  obtain ⟨i, s, l⟩ := x
  exact ins_con (e := T1_) (t := 25) (ty := 73) (bytes := 24) (nl := true) (l := l) (r := s) (q := r) (i := i) insN81 insP81 rfl (by decide) (by decide) (by decide) hr⟩
def as_kids_Hear : List AS := [.val (.list T1_), .val T1_]
def bs_kids_Hear : List BS := []
def pout_kids_Hear : Pat := ⟨[(4, .val (.list T1_)), (5, .val .bool)], []⟩
noncomputable def G_kids_Hear (w_slices_Clone_api_Kid : List (Int × Int × Int) → Option (List (Int × Int × Int))) (w_kids_Old : List (Int × Int × Int) × Int × Int → Option (Bool)) (w_kids_seek : A3_ → Option ((Int × Int × Int × Int) ⊕ Int)) (w_slices_Insert_api_Kid : Int × List (Int × Int × Int) × List (Int × Int × Int) → Option (List (Int × Int × Int))) (N : Nat) : OrcT := orcOf [conw_slices_Clone_api_Kid w_slices_Clone_api_Kid, conw_kids_Old w_kids_Old, conw_kids_seek w_kids_seek, conw_slices_Insert_api_Kid w_slices_Insert_api_Kid]
noncomputable def F_kids_Hear (w_slices_Clone_api_Kid : List (Int × Int × Int) → Option (List (Int × Int × Int))) (w_kids_Old : List (Int × Int × Int) × Int × Int → Option (Bool)) (w_kids_seek : A3_ → Option ((Int × Int × Int × Int) ⊕ Int)) (w_slices_Insert_api_Kid : Int × List (Int × Int × Int) × List (Int × Int × Int) → Option (List (Int × Int × Int))) (N : Nat) (x : List (Int × Int × Int) × Int × Int × Int) : Option A2_ :=
  (evT (G_kids_Hear w_slices_Clone_api_Kid w_kids_Old w_kids_seek w_slices_Insert_api_Kid N) L0 P0 []
    [(8, .cut [7] [(.normal, ⟨[(3, .ptr 600003 0), (6, .acc 700047)], [(600003, .box 73 (.val T3_)), (700047, .nrow 73 T1_ false true)]⟩)])] N 400 (bodyOf Try.f73) ⟨49, slots 0 (argsOf as_kids_Hear bs_kids_Hear x), tabU (lbOf as_kids_Hear bs_kids_Hear x) [], []⟩).elim (kRet 49 pout_kids_Hear (kpL []) (lbOf as_kids_Hear bs_kids_Hear x))
def out_kids_Hear (y : A2_) : V × List OK × List OK := (.tup [valW (.list T1_) y.1, valW .bool y.2], [], [])
noncomputable def V_kids_Hear (w_slices_Clone_api_Kid : List (Int × Int × Int) → Option (List (Int × Int × Int))) (w_kids_Old : List (Int × Int × Int) × Int × Int → Option (Bool)) (w_kids_seek : A3_ → Option ((Int × Int × Int × Int) ⊕ Int)) (w_slices_Insert_api_Kid : Int × List (Int × Int × Int) × List (Int × Int × Int) → Option (List (Int × Int × Int))) (N : Nat) (x : List (Int × Int × Int) × Int × Int × Int) : Option A2_ :=
  obind (w_slices_Clone_api_Kid x.1) fun b => obind (w_kids_Old (x.1, x.2.1, x.2.2.1)) fun b_1 => cnd b_1 (some (b, false)) (obind (w_kids_seek
    (x.1, x.2.1)) fun b_2 => obind (selim (fun (b_3 : Int × Int × Int × Int) => cnd (decide ((0:Int) ≤ b_3.1) && decide (b_3.1 < (↑(List.length b) :
    Int))) (some (x.2, putL b [x.2] (Int.toNat b_3.1))) none) (fun (c : Int) => some (x.2, b)) b_2) fun (b : (Int × Int × Int) × List (Int × Int × Int))
    => selim (fun (b_3 : Int × Int × Int × Int) => some (b.2, true)) (fun (c : Int) => obind (w_slices_Insert_api_Kid (c, [b.1], b.2)) fun b => some
    (b, true)) b_2)
theorem FV_kids_Hear_eq (w_slices_Clone_api_Kid : List (Int × Int × Int) → Option (List (Int × Int × Int))) (w_kids_Old : List (Int × Int × Int) × Int × Int → Option (Bool)) (w_kids_seek : A3_ → Option ((Int × Int × Int × Int) ⊕ Int)) (w_slices_Insert_api_Kid : Int × List (Int × Int × Int) × List (Int × Int × Int) → Option (List (Int × Int × Int))) (N : Nat) (x : List (Int × Int × Int) × Int × Int × Int) : F_kids_Hear w_slices_Clone_api_Kid w_kids_Old w_kids_seek w_slices_Insert_api_Kid N x = V_kids_Hear w_slices_Clone_api_Kid w_kids_Old w_kids_seek w_slices_Insert_api_Kid N x := by kernel_rfl
noncomputable def W_kids_Hear (N : Nat) (x : List (Int × Int × Int) × Int × Int × Int) : Option A2_ := V_kids_Hear (W_slices_Clone_api_Kid N) (W_kids_Old N) (W_kids_seek N) (W_slices_Insert_api_Kid N) N x
theorem F_kids_Hear_eq (N : Nat) (x : List (Int × Int × Int) × Int × Int × Int) : F_kids_Hear (W_slices_Clone_api_Kid N) (W_kids_Old N) (W_kids_seek N) (W_slices_Insert_api_Kid N) N x = W_kids_Hear N x := (FV_kids_Hear_eq (W_slices_Clone_api_Kid N) (W_kids_Old N) (W_kids_seek N) (W_slices_Insert_api_Kid N) N x).trans (by kernel_rfl)
noncomputable def conw_kids_Hear (w : List (Int × Int × Int) × Int × Int × Int → Option A2_) : Con := ⟨73, as_kids_Hear, bs_kids_Hear, List (Int × Int × Int) × Bool, w, out_kids_Hear⟩
noncomputable def con_kids_Hear (N : Nat) : Con := conw_kids_Hear (W_kids_Hear N)
theorem R_kids_Hear_eq (x : List (Int × Int × Int) × Int × Int × Int) (y : A2_) : retOf2 P0 Try.f73 (kpL []) (lbOf as_kids_Hear bs_kids_Hear x) (patS ⟨49, [], [], []⟩ pout_kids_Hear y) = some (out_kids_Hear y) := by kernel_rfl
theorem con_kids_Hear_ok (N : Nat) : Con.ok P0 (con_kids_Hear N) := ⟨⟨Try.f73, Try.func73, by kernel_rfl, by kernel_rfl⟩, fun (x : List (Int × Int × Int) × Int × Int × Int) (r : A2_) (hr : W_kids_Hear N x = some r) =>
  spec2_evT (Γ := G_kids_Hear (W_slices_Clone_api_Kid N) (W_kids_Old N) (W_kids_seek N) (W_slices_Insert_api_Kid N) N) (Λ := L0) (pout := pout_kids_Hear) (kp := kpL []) mixed (orcOf_ok _ (by simp only [List.mem_cons, List.not_mem_nil, or_false, forall_eq_or_imp, forall_eq]; exact ⟨con_slices_Clone_api_Kid_ok N, con_kids_Old_ok N, con_kids_seek_ok N, con_slices_Insert_api_Kid_ok N⟩)) Try.func73 (c := bodyOf Try.f73) (by kernel_rfl) (by kernel_rfl) (of_decide_eq_true (by kernel_rfl)) ((F_kids_Hear_eq N x).trans hr) (R_kids_Hear_eq x r)⟩
def as_tie_attach : List AS := [.val (.agg T0_), .val (.agg T_), .val (.int .i64)]
def bs_tie_attach : List BS := []
def pout_tie_attach : Pat := ⟨[(6, .ptr 600006 0), (7, .val (.list (.agg T_)))], [(600006, .box 27 (.val T0_))]⟩
noncomputable def G_tie_attach (w_kids_Find : A3_ → Option (Bool × Int × Int × Int)) (w_tie_Fresh : Int × A0_ → Option (Bool)) (w_path_Has : List Int × Int → Option (Bool)) (w_tie_most : Int × A0_ → Option (Int)) (w_tie_tell : (Int × A0_) × Int × Int → Option (M_)) (w_kids_Hear : List (Int × Int × Int) × Int × Int × Int → Option A2_) (w_tie_tellWay : (Int × A0_) × Int × Int → Option (M_)) (N : Nat) : OrcT := orcOf [conw_kids_Find w_kids_Find, conw_tie_Fresh w_tie_Fresh, conw_path_Has w_path_Has, conw_tie_most w_tie_most, conw_tie_tell w_tie_tell, conw_kids_Hear w_kids_Hear, conw_tie_tellWay w_tie_tellWay]
noncomputable def F_tie_attach (w_kids_Find : A3_ → Option (Bool × Int × Int × Int)) (w_tie_Fresh : Int × A0_ → Option (Bool)) (w_path_Has : List Int × Int → Option (Bool)) (w_tie_most : Int × A0_ → Option (Int)) (w_tie_tell : (Int × A0_) × Int × Int → Option (M_)) (w_kids_Hear : List (Int × Int × Int) × Int × Int × Int → Option A2_) (w_tie_tellWay : (Int × A0_) × Int × Int → Option (M_)) (N : Nat) (x : (Int × A0_) × (M_) × Int) : Option (List (M_) × Int × A0_) :=
  (evT (G_tie_attach w_kids_Find w_tie_Fresh w_path_Has w_tie_most w_tie_tell w_kids_Hear w_tie_tellWay N) L0 P0 []
    [] N 400 (bodyOf Try.f41) ⟨70, slots 0 (argsOf as_tie_attach bs_tie_attach x), tabU (lbOf as_tie_attach bs_tie_attach x) [], []⟩).elim (kRet 70 pout_tie_attach (kpL []) (lbOf as_tie_attach bs_tie_attach x))
def out_tie_attach (y : List (M_) × Int × A0_) : V × List OK × List OK := (.tup [valW (.agg T0_) y.2, valW (.list (.agg T_)) y.1], [], [])
noncomputable def V_tie_attach (w_kids_Find : A3_ → Option (Bool × Int × Int × Int)) (w_tie_Fresh : Int × A0_ → Option (Bool)) (w_path_Has : List Int × Int → Option (Bool)) (w_tie_most : Int × A0_ → Option (Int)) (w_tie_tell : (Int × A0_) × Int × Int → Option (M_)) (w_kids_Hear : List (Int × Int × Int) × Int × Int × Int → Option A2_) (w_tie_tellWay : (Int × A0_) × Int × Int → Option (M_)) (N : Nat) (x : (Int × A0_) × (M_) × Int) : Option (List (M_) × Int × A0_) :=
  obind (w_kids_Find (x.1.2.2.2.2.2.2.2.2.2.2.2.2, x.2.1.2.1)) fun b => obind (w_tie_Fresh x.1) fun b_1 => cnd (!b_1) (obind (w_tie_tell (x.1,
    (3:Int), x.2.1.2.1)) fun b => some ([b], x.1)) (obind (w_path_Has (x.1.2.2.2.2.2.2.1, x.2.1.2.1)) fun b_2 => cnd b_2 (obind (w_tie_tell (x.1,
    (3:Int), x.2.1.2.1)) fun b => some ([b], x.1)) (cnd (!b.1) (obind (w_tie_most x.1) fun b => cnd (decide (b ≤ (↑(List.length
    x.1.2.2.2.2.2.2.2.2.2.2.2.2) : Int))) (obind (w_tie_tell (x.1, (3:Int), x.2.1.2.1)) fun b => some ([b], x.1)) (obind (w_kids_Hear
    (x.1.2.2.2.2.2.2.2.2.2.2.2.2, x.2.1.2.1, x.2.1.2.2.2.1, x.1.2.2.1)) fun b => obind (w_tie_tellWay ((x.1.1, x.1.2.1, x.1.2.2.1, x.1.2.2.2.1,
    x.1.2.2.2.2.1, x.1.2.2.2.2.2.1, x.1.2.2.2.2.2.2.1, x.1.2.2.2.2.2.2.2.1, x.1.2.2.2.2.2.2.2.2.1, x.1.2.2.2.2.2.2.2.2.2.1, x.1.2.2.2.2.2.2.2.2.2.2.1,
    x.1.2.2.2.2.2.2.2.2.2.2.2.1, b.1), (2:Int), x.2.1.2.1)) fun b_3 => some ([(b_3.1, b_3.2.1, b_3.2.2.1, b_3.2.2.2.1, b_3.2.2.2.2.1, b_3.2.2.2.2.2.1,
    b_3.2.2.2.2.2.2.1, x.2.2, b_3.2.2.2.2.2.2.2.2)], x.1.1, x.1.2.1, x.1.2.2.1, x.1.2.2.2.1, x.1.2.2.2.2.1, x.1.2.2.2.2.2.1, x.1.2.2.2.2.2.2.1,
    x.1.2.2.2.2.2.2.2.1, x.1.2.2.2.2.2.2.2.2.1, x.1.2.2.2.2.2.2.2.2.2.1, x.1.2.2.2.2.2.2.2.2.2.2.1, x.1.2.2.2.2.2.2.2.2.2.2.2.1, b.1))) (obind
    (w_kids_Hear (x.1.2.2.2.2.2.2.2.2.2.2.2.2, x.2.1.2.1, x.2.1.2.2.2.1, x.1.2.2.1)) fun b => obind (w_tie_tellWay ((x.1.1, x.1.2.1, x.1.2.2.1,
    x.1.2.2.2.1, x.1.2.2.2.2.1, x.1.2.2.2.2.2.1, x.1.2.2.2.2.2.2.1, x.1.2.2.2.2.2.2.2.1, x.1.2.2.2.2.2.2.2.2.1, x.1.2.2.2.2.2.2.2.2.2.1,
    x.1.2.2.2.2.2.2.2.2.2.2.1, x.1.2.2.2.2.2.2.2.2.2.2.2.1, b.1), (2:Int), x.2.1.2.1)) fun b_3 => some ([(b_3.1, b_3.2.1, b_3.2.2.1, b_3.2.2.2.1,
    b_3.2.2.2.2.1, b_3.2.2.2.2.2.1, b_3.2.2.2.2.2.2.1, x.2.2, b_3.2.2.2.2.2.2.2.2)], x.1.1, x.1.2.1, x.1.2.2.1, x.1.2.2.2.1, x.1.2.2.2.2.1,
    x.1.2.2.2.2.2.1, x.1.2.2.2.2.2.2.1, x.1.2.2.2.2.2.2.2.1, x.1.2.2.2.2.2.2.2.2.1, x.1.2.2.2.2.2.2.2.2.2.1, x.1.2.2.2.2.2.2.2.2.2.2.1,
    x.1.2.2.2.2.2.2.2.2.2.2.2.1, b.1))))
theorem FV_tie_attach_eq (w_kids_Find : A3_ → Option (Bool × Int × Int × Int)) (w_tie_Fresh : Int × A0_ → Option (Bool)) (w_path_Has : List Int × Int → Option (Bool)) (w_tie_most : Int × A0_ → Option (Int)) (w_tie_tell : (Int × A0_) × Int × Int → Option (M_)) (w_kids_Hear : List (Int × Int × Int) × Int × Int × Int → Option A2_) (w_tie_tellWay : (Int × A0_) × Int × Int → Option (M_)) (N : Nat) (x : (Int × A0_) × (M_) × Int) : F_tie_attach w_kids_Find w_tie_Fresh w_path_Has w_tie_most w_tie_tell w_kids_Hear w_tie_tellWay N x = V_tie_attach w_kids_Find w_tie_Fresh w_path_Has w_tie_most w_tie_tell w_kids_Hear w_tie_tellWay N x := by kernel_rfl
noncomputable def W_tie_attach (N : Nat) (x : (Int × A0_) × (M_) × Int) : Option (List (M_) × Int × A0_) := V_tie_attach (W_kids_Find N) (W_tie_Fresh N) (W_path_Has N) (W_tie_most N) (W_tie_tell N) (W_kids_Hear N) (W_tie_tellWay N) N x
theorem F_tie_attach_eq (N : Nat) (x : (Int × A0_) × (M_) × Int) : F_tie_attach (W_kids_Find N) (W_tie_Fresh N) (W_path_Has N) (W_tie_most N) (W_tie_tell N) (W_kids_Hear N) (W_tie_tellWay N) N x = W_tie_attach N x := (FV_tie_attach_eq (W_kids_Find N) (W_tie_Fresh N) (W_path_Has N) (W_tie_most N) (W_tie_tell N) (W_kids_Hear N) (W_tie_tellWay N) N x).trans (by kernel_rfl)
noncomputable def conw_tie_attach (w : (Int × A0_) × (M_) × Int → Option (List (M_) × Int × A0_)) : Con := ⟨41, as_tie_attach, bs_tie_attach, List (M_) × Int × Int × Int × Int × Int × Int × List Int × Int × Int × Int × Int × Int × List (Int × Int × Int), w, out_tie_attach⟩
noncomputable def con_tie_attach (N : Nat) : Con := conw_tie_attach (W_tie_attach N)
theorem R_tie_attach_eq (x : (Int × A0_) × (M_) × Int) (y : List (M_) × Int × A0_) : retOf2 P0 Try.f41 (kpL []) (lbOf as_tie_attach bs_tie_attach x) (patS ⟨70, [], [], []⟩ pout_tie_attach y) = some (out_tie_attach y) := by kernel_rfl
theorem con_tie_attach_ok (N : Nat) : Con.ok P0 (con_tie_attach N) := ⟨⟨Try.f41, Try.func41, by kernel_rfl, by kernel_rfl⟩, fun (x : (Int × A0_) × (M_) × Int) (r : List (M_) × Int × A0_) (hr : W_tie_attach N x = some r) =>
  spec2_evT (Γ := G_tie_attach (W_kids_Find N) (W_tie_Fresh N) (W_path_Has N) (W_tie_most N) (W_tie_tell N) (W_kids_Hear N) (W_tie_tellWay N) N) (Λ := L0) (pout := pout_tie_attach) (kp := kpL []) mixed (orcOf_ok _ (by simp only [List.mem_cons, List.not_mem_nil, or_false, forall_eq_or_imp, forall_eq]; exact ⟨con_kids_Find_ok N, con_tie_Fresh_ok N, con_path_Has_ok N, con_tie_most_ok N, con_tie_tell_ok N, con_kids_Hear_ok N, con_tie_tellWay_ok N⟩)) Try.func41 (c := bodyOf Try.f41) (by kernel_rfl) (by kernel_rfl) (of_decide_eq_true (by kernel_rfl)) ((F_tie_attach_eq N x).trans hr) (R_tie_attach_eq x r)⟩
def as_path_read : List AS := [.val (.list (.int .i64))]
def bs_path_read : List BS := []
def pout_path_read : Pat := ⟨[(2, .val (.alt 104 (.list (.int .i64)) (.alt1 109 (.agg .unit))))], []⟩
noncomputable def G_path_read (w_path_Has : List Int × Int → Option (Bool)) (N : Nat) : OrcT := orcOf [conw_path_Has w_path_Has]
noncomputable def F_path_read (w_path_Has : List Int × Int → Option (Bool)) (N : Nat) (x : List Int) : Option ((List Int) ⊕ Unit) :=
  (evT (G_path_read w_path_Has N) L0 P0 [(4, .loop [21] ⟨[(23, .val (.int .i64))], []⟩ [(.exit 0, ⟨[], []⟩), (.ret, ⟨[(2, .val (.alt 104 (.list (.int .i64)) (.alt1 109 (.agg .unit))))], []⟩)])]
    [(1000001, .reg [(8, [], ⟨[(12, .val .bool)], []⟩)]),
    (1000006, .reg [(6, [21], ⟨[(33, .val .bool)], []⟩)])] N 400 (bodyOf Try.f82) ⟨46, slots 0 (argsOf as_path_read bs_path_read x), tabU (lbOf as_path_read bs_path_read x) [], []⟩).elim (kRet 46 pout_path_read (kpL []) (lbOf as_path_read bs_path_read x))
def out_path_read (y : (List Int) ⊕ Unit) : V × List OK × List OK := (valW (.alt 104 (.list (.int .i64)) (.alt1 109 (.agg .unit))) y, [], [])
noncomputable def V_path_read (w_path_Has : List Int × Int → Option (Bool)) (N : Nat) (x : List Int) : Option ((List Int) ⊕ Unit) :=
  obind (cnd (decide ((↑(List.length x) : Int) < (1:Int))) (some true) (some (decide ((10:Int) < (↑(List.length x) : Int))))) fun (b : Bool) => cnd b
    (some (Sum.inr ())) (cnd (decide ((0:Int) ≤ (0:Int)) && decide ((0:Int) < (↑(List.length x) : Int))) (cnd (decide (List.getD x (0:Nat) (0:Int) ≠
    (1:Int))) (some (Sum.inr ())) (obind (loopN N (fun (v : Int) => cnd (decide (v < (↑(List.length x) : Int))) (cnd (decide ((0:Int) ≤ v) && decide (v
    < (↑(List.length x) : Int))) (obind (cnd (decide (List.getD x (Int.toNat v) (0:Int) < (1:Int))) (some true) (some (decide ((8:Int) < List.getD x
    (Int.toNat v) (0:Int))))) fun (b : Bool) => cnd b (some (Sum.inr (Sum.inr (Sum.inr ())))) (cnd (decide ((0:Int) ≤ v) && decide (v ≤ (↑(List.length
    x) : Int))) (obind (w_path_Has (List.drop (0:Nat) (List.take (Int.toNat v) x), List.getD x (Int.toNat v) (0:Int))) fun b => cnd b (some (Sum.inr
    (Sum.inr (Sum.inr ())))) (some (Sum.inl (wr .i64 (v + (1:Int)))))) none)) none) (some (Sum.inr (Sum.inl ())))) (Int.ofNat (0:Nat))) fun (b : PUnit ⊕
    List Int ⊕ PUnit) => selim (fun (b : PUnit) => some (Sum.inl x)) (fun (c : List Int ⊕ PUnit) => some c) b)) none)
theorem FV_path_read_eq (w_path_Has : List Int × Int → Option (Bool)) (N : Nat) (x : List Int) : F_path_read w_path_Has N x = V_path_read w_path_Has N x := by kernel_rfl
noncomputable def W_path_read (N : Nat) (x : List Int) : Option ((List Int) ⊕ Unit) := V_path_read (W_path_Has N) N x
theorem F_path_read_eq (N : Nat) (x : List Int) : F_path_read (W_path_Has N) N x = W_path_read N x := (FV_path_read_eq (W_path_Has N) N x).trans (by kernel_rfl)
noncomputable def conw_path_read (w : List Int → Option ((List Int) ⊕ Unit)) : Con := ⟨82, as_path_read, bs_path_read, (List Int) ⊕ Unit, w, out_path_read⟩
noncomputable def con_path_read (N : Nat) : Con := conw_path_read (W_path_read N)
theorem R_path_read_eq (x : List Int) (y : (List Int) ⊕ Unit) : retOf2 P0 Try.f82 (kpL []) (lbOf as_path_read bs_path_read x) (patS ⟨46, [], [], []⟩ pout_path_read y) = some (out_path_read y) := by kernel_rfl
theorem con_path_read_ok (N : Nat) : Con.ok P0 (con_path_read N) := ⟨⟨Try.f82, Try.func82, by kernel_rfl, by kernel_rfl⟩, fun (x : List Int) (r : (List Int) ⊕ Unit) (hr : W_path_read N x = some r) =>
  spec2_evT (Γ := G_path_read (W_path_Has N) N) (Λ := L0) (pout := pout_path_read) (kp := kpL []) mixed (orcOf_ok _ (by simp only [List.mem_cons, List.not_mem_nil, or_false, forall_eq_or_imp, forall_eq]; exact con_path_Has_ok N)) Try.func82 (c := bodyOf Try.f82) (by kernel_rfl) (by kernel_rfl) (of_decide_eq_true (by kernel_rfl)) ((F_path_read_eq N x).trans hr) (R_path_read_eq x r)⟩
def as_path_Add : List AS := [.val (.list (.int .i64)), .val (.int .i64)]
def bs_path_Add : List BS := []
def pout_path_Add : Pat := ⟨[(4, .val (.list (.int .i64))), (5, .val .bool)], []⟩
noncomputable def G_path_Add (w_slices_Clone_int : List Int → Option (List Int)) (w_path_read : List Int → Option ((List Int) ⊕ Unit)) (N : Nat) : OrcT := orcOf [conw_slices_Clone_int w_slices_Clone_int, conw_path_read w_path_read]
noncomputable def F_path_Add (w_slices_Clone_int : List Int → Option (List Int)) (w_path_read : List Int → Option ((List Int) ⊕ Unit)) (N : Nat) (x : List Int × Int) : Option (List Int × Bool) :=
  (evT (G_path_Add w_slices_Clone_int w_path_read N) L0 P0 []
    [] N 400 (bodyOf Try.f74) ⟨20, slots 0 (argsOf as_path_Add bs_path_Add x), tabU (lbOf as_path_Add bs_path_Add x) [], []⟩).elim (kRet 20 pout_path_Add (kpL []) (lbOf as_path_Add bs_path_Add x))
def out_path_Add (y : List Int × Bool) : V × List OK × List OK := (.tup [valW (.list (.int .i64)) y.1, valW .bool y.2], [], [])
noncomputable def V_path_Add (w_slices_Clone_int : List Int → Option (List Int)) (w_path_read : List Int → Option ((List Int) ⊕ Unit)) (N : Nat) (x : List Int × Int) : Option (List Int × Bool) :=
  obind (w_slices_Clone_int x.1) fun b => cnd (decide ((List.length b + List.length [x.2]) * (8:Nat) ≤ (140737488355328:Nat))) (obind (w_path_read (b ++ [x.2])) fun b => selim (fun (b : List Int) => some (b, true)) (fun (c : PUnit) => some ([], false)) b) none
theorem FV_path_Add_eq (w_slices_Clone_int : List Int → Option (List Int)) (w_path_read : List Int → Option ((List Int) ⊕ Unit)) (N : Nat) (x : List Int × Int) : F_path_Add w_slices_Clone_int w_path_read N x = V_path_Add w_slices_Clone_int w_path_read N x := by kernel_rfl
noncomputable def W_path_Add (N : Nat) (x : List Int × Int) : Option (List Int × Bool) := V_path_Add (W_slices_Clone_int N) (W_path_read N) N x
theorem F_path_Add_eq (N : Nat) (x : List Int × Int) : F_path_Add (W_slices_Clone_int N) (W_path_read N) N x = W_path_Add N x := (FV_path_Add_eq (W_slices_Clone_int N) (W_path_read N) N x).trans (by kernel_rfl)
noncomputable def conw_path_Add (w : List Int × Int → Option (List Int × Bool)) : Con := ⟨74, as_path_Add, bs_path_Add, List Int × Bool, w, out_path_Add⟩
noncomputable def con_path_Add (N : Nat) : Con := conw_path_Add (W_path_Add N)
theorem R_path_Add_eq (x : List Int × Int) (y : List Int × Bool) : retOf2 P0 Try.f74 (kpL []) (lbOf as_path_Add bs_path_Add x) (patS ⟨20, [], [], []⟩ pout_path_Add y) = some (out_path_Add y) := by kernel_rfl
theorem con_path_Add_ok (N : Nat) : Con.ok P0 (con_path_Add N) := ⟨⟨Try.f74, Try.func74, by kernel_rfl, by kernel_rfl⟩, fun (x : List Int × Int) (r : List Int × Bool) (hr : W_path_Add N x = some r) =>
  spec2_evT (Γ := G_path_Add (W_slices_Clone_int N) (W_path_read N) N) (Λ := L0) (pout := pout_path_Add) (kp := kpL []) mixed (orcOf_ok _ (by simp only [List.mem_cons, List.not_mem_nil, or_false, forall_eq_or_imp, forall_eq]; exact ⟨con_slices_Clone_int_ok N, con_path_read_ok N⟩)) Try.func74 (c := bodyOf Try.f74) (by kernel_rfl) (by kernel_rfl) (of_decide_eq_true (by kernel_rfl)) ((F_path_Add_eq N x).trans hr) (R_path_Add_eq x r)⟩
def as_path_Grand : List AS := [.val (.list (.int .i64))]
def bs_path_Grand : List BS := []
def pout_path_Grand : Pat := ⟨[(2, .val (.int .i64))], []⟩
noncomputable def G_path_Grand  (N : Nat) : OrcT := orcOf []
noncomputable def F_path_Grand  (N : Nat) (x : List Int) : Option (Int) :=
  (evT (G_path_Grand  N) L0 P0 []
    [] N 400 (bodyOf Try.f83) ⟨12, slots 0 (argsOf as_path_Grand bs_path_Grand x), tabU (lbOf as_path_Grand bs_path_Grand x) [], []⟩).elim (kRet 12 pout_path_Grand (kpL []) (lbOf as_path_Grand bs_path_Grand x))
def out_path_Grand (y : Int) : V × List OK × List OK := (valW (.int .i64) y, [], [])
noncomputable def V_path_Grand  (N : Nat) (x : List Int) : Option (Int) :=
  cnd (decide ((↑(List.length x) : Int) < (2:Int))) (some (0:Int)) (cnd (decide ((0:Int) ≤ wr .i64 ((↑(List.length x) : Int) - (2:Int))) && decide (wr
    .i64 ((↑(List.length x) : Int) - (2:Int)) < (↑(List.length x) : Int))) (some (List.getD x (Int.toNat (wr .i64 ((↑(List.length x) : Int) - (2:Int))))
    (0:Int))) none)
theorem FV_path_Grand_eq  (N : Nat) (x : List Int) : F_path_Grand  N x = V_path_Grand  N x := by kernel_rfl
noncomputable def W_path_Grand (N : Nat) (x : List Int) : Option (Int) := V_path_Grand  N x
theorem F_path_Grand_eq (N : Nat) (x : List Int) : F_path_Grand  N x = W_path_Grand N x := (FV_path_Grand_eq  N x).trans (by kernel_rfl)
noncomputable def conw_path_Grand (w : List Int → Option (Int)) : Con := ⟨83, as_path_Grand, bs_path_Grand, Int, w, out_path_Grand⟩
noncomputable def con_path_Grand (N : Nat) : Con := conw_path_Grand (W_path_Grand N)
theorem R_path_Grand_eq (x : List Int) (y : Int) : retOf2 P0 Try.f83 (kpL []) (lbOf as_path_Grand bs_path_Grand x) (patS ⟨12, [], [], []⟩ pout_path_Grand y) = some (out_path_Grand y) := by kernel_rfl
theorem con_path_Grand_ok (N : Nat) : Con.ok P0 (con_path_Grand N) := ⟨⟨Try.f83, Try.func83, by kernel_rfl, by kernel_rfl⟩, fun (x : List Int) (r : Int) (hr : W_path_Grand N x = some r) =>
  spec2_evT (Γ := G_path_Grand N) (Λ := L0) (pout := pout_path_Grand) (kp := kpL []) mixed (orcOf_ok [] (by simp)) Try.func83 (c := bodyOf Try.f83) (by kernel_rfl) (by kernel_rfl) (of_decide_eq_true (by kernel_rfl)) ((F_path_Grand_eq N x).trans hr) (R_path_Grand_eq x r)⟩
def as_tie_under : List AS := [.val (.agg T0_), .val (.agg T_), .val (.list (.int .i64))]
def bs_tie_under : List BS := []
def pout_tie_under : Pat := ⟨[(6, .ptr 600006 0)], [(600006, .box 27 (.val T0_))]⟩
noncomputable def G_tie_under (w_path_Grand : List Int → Option (Int)) (N : Nat) : OrcT := orcOf [conw_path_Grand w_path_Grand]
noncomputable def F_tie_under (w_path_Grand : List Int → Option (Int)) (N : Nat) (x : (Int × A0_) × (M_) × List Int) : Option (Int × A0_) :=
  (evT (G_tie_under w_path_Grand N) L0 P0 []
    [] N 400 (bodyOf Try.f75) ⟨18, slots 0 (argsOf as_tie_under bs_tie_under x), tabU (lbOf as_tie_under bs_tie_under x) [], []⟩).elim (kRet 18 pout_tie_under (kpL []) (lbOf as_tie_under bs_tie_under x))
def out_tie_under (y : Int × A0_) : V × List OK × List OK := (valW (.agg T0_) y, [], [])
noncomputable def V_tie_under (w_path_Grand : List Int → Option (Int)) (N : Nat) (x : (Int × A0_) × (M_) × List Int) : Option (Int × A0_) :=
  obind (w_path_Grand x.2.1.2.2.2.2.2.2.1) fun b => cnd (decide (b = (0:Int))) (some (x.1.1, x.1.2.1, x.1.2.2.1, x.1.2.2.2.1, x.1.2.2.2.2.1, (1:Int), x.2.2, x.1.2.2.2.2.2.2.2)) (some (x.1.1, x.1.2.1, x.1.2.2.1, x.1.2.2.2.1, x.1.2.2.2.2.1, b, x.2.2, x.1.2.2.2.2.2.2.2))
theorem FV_tie_under_eq (w_path_Grand : List Int → Option (Int)) (N : Nat) (x : (Int × A0_) × (M_) × List Int) : F_tie_under w_path_Grand N x = V_tie_under w_path_Grand N x := by kernel_rfl
noncomputable def W_tie_under (N : Nat) (x : (Int × A0_) × (M_) × List Int) : Option (Int × A0_) := V_tie_under (W_path_Grand N) N x
theorem F_tie_under_eq (N : Nat) (x : (Int × A0_) × (M_) × List Int) : F_tie_under (W_path_Grand N) N x = W_tie_under N x := (FV_tie_under_eq (W_path_Grand N) N x).trans (by kernel_rfl)
noncomputable def conw_tie_under (w : (Int × A0_) × (M_) × List Int → Option (Int × A0_)) : Con := ⟨75, as_tie_under, bs_tie_under, Int × Int × Int × Int × Int × Int × List Int × Int × Int × Int × Int × Int × List (Int × Int × Int), w, out_tie_under⟩
noncomputable def con_tie_under (N : Nat) : Con := conw_tie_under (W_tie_under N)
theorem R_tie_under_eq (x : (Int × A0_) × (M_) × List Int) (y : Int × A0_) : retOf2 P0 Try.f75 (kpL []) (lbOf as_tie_under bs_tie_under x) (patS ⟨18, [], [], []⟩ pout_tie_under y) = some (out_tie_under y) := by kernel_rfl
theorem con_tie_under_ok (N : Nat) : Con.ok P0 (con_tie_under N) := ⟨⟨Try.f75, Try.func75, by kernel_rfl, by kernel_rfl⟩, fun (x : (Int × A0_) × (M_) × List Int) (r : Int × A0_) (hr : W_tie_under N x = some r) =>
  spec2_evT (Γ := G_tie_under (W_path_Grand N) N) (Λ := L0) (pout := pout_tie_under) (kp := kpL []) mixed (orcOf_ok _ (by simp only [List.mem_cons, List.not_mem_nil, or_false, forall_eq_or_imp, forall_eq]; exact con_path_Grand_ok N)) Try.func75 (c := bodyOf Try.f75) (by kernel_rfl) (by kernel_rfl) (of_decide_eq_true (by kernel_rfl)) ((F_tie_under_eq N x).trans hr) (R_tie_under_eq x r)⟩
def as_tie_accept : List AS := [.val (.agg T0_), .val (.agg T_)]
def bs_tie_accept : List BS := []
def pout_tie_accept : Pat := ⟨[(4, .ptr 600004 0), (5, .val (.list (.agg T_)))], [(600004, .box 27 (.val T0_))]⟩
noncomputable def G_tie_accept (w_tie_of : (Int × A0_) × M_ → Option (Unit ⊕ (Unit ⊕ Unit))) (w_tie_tell : (Int × A0_) × Int × Int → Option (M_)) (w_path_Add : List Int × Int → Option (List Int × Bool)) (w_tie_vain : Int × A0_ → Option (Int × A0_)) (w_tie_under : (Int × A0_) × (M_) × List Int → Option (Int × A0_)) (N : Nat) : OrcT := orcOf [conw_tie_of w_tie_of, conw_tie_tell w_tie_tell, conw_path_Add w_path_Add, conw_tie_vain w_tie_vain, conw_tie_under w_tie_under]
noncomputable def F_tie_accept (w_tie_of : (Int × A0_) × M_ → Option (Unit ⊕ (Unit ⊕ Unit))) (w_tie_tell : (Int × A0_) × Int × Int → Option (M_)) (w_path_Add : List Int × Int → Option (List Int × Bool)) (w_tie_vain : Int × A0_ → Option (Int × A0_)) (w_tie_under : (Int × A0_) × (M_) × List Int → Option (Int × A0_)) (N : Nat) (x : (Int × A0_) × M_) : Option (List (M_) × Int × A0_) :=
  (evT (G_tie_accept w_tie_of w_tie_tell w_path_Add w_tie_vain w_tie_under N) L0 P0 []
    [] N 400 (bodyOf Try.f42) ⟨83, slots 0 (argsOf as_tie_accept bs_tie_accept x), tabU (lbOf as_tie_accept bs_tie_accept x) [], []⟩).elim (kRet 83 pout_tie_accept (kpL []) (lbOf as_tie_accept bs_tie_accept x))
def out_tie_accept (y : List (M_) × Int × A0_) : V × List OK × List OK := (.tup [valW (.agg T0_) y.2, valW (.list (.agg T_)) y.1], [], [])
noncomputable def V_tie_accept (w_tie_of : (Int × A0_) × M_ → Option (Unit ⊕ (Unit ⊕ Unit))) (w_tie_tell : (Int × A0_) × Int × Int → Option (M_)) (w_path_Add : List Int × Int → Option (List Int × Bool)) (w_tie_vain : Int × A0_ → Option (Int × A0_)) (w_tie_under : (Int × A0_) × (M_) × List Int → Option (Int × A0_)) (N : Nat) (x : (Int × A0_) × M_) : Option (List (M_) × Int × A0_) :=
  obind (w_tie_of x) fun b => selim (fun (b : PUnit) => some ([], x.1)) (fun (c : PUnit ⊕ PUnit) => selim (fun (b_1 : PUnit) => obind (w_tie_tell
    (x.1, (6:Int), x.2.2.1)) fun b_2 => selim (fun (b : PUnit) => some ([b_2], x.1)) (fun (c : PUnit ⊕ PUnit) => selim (fun (b : PUnit) => cnd (decide
    (x.1.2.2.2.1 ≠ (0:Int))) (some ([b_2], x.1)) (obind (w_path_Add (x.2.2.2.2.2.2.2.1, x.1.1)) fun b => cnd (!b.2) (obind (w_tie_vain x.1) fun b =>
    some ([b_2], b)) (cnd (decide ((20:Int) < x.2.2.2.2.2.2.1)) (obind (w_tie_vain x.1) fun b => some ([b_2], b)) (obind (w_tie_under (x.1, x.2,
    b.1)) fun b => some ([], b.1, b.2.1, b.2.2.1, x.2.2.1, x.2.2.2.2.1, b.2.2.2.2.2.1, b.2.2.2.2.2.2.1, x.2.2.2.2.2.1, wr .i64 (b.2.2.1 -
    x.2.2.2.2.2.2.1), (0:Int), b.2.2.2.2.2.2.2.2.2.2.1, (0:Int), b.2.2.2.2.2.2.2.2.2.2.2.2))))) (fun (c : PUnit) => some ([b_2], x.1)) c) b) (fun (c :
    PUnit) => obind (w_tie_tell (x.1, (6:Int), x.2.2.1)) fun b_1 => selim (fun (b : PUnit) => some ([b_1], x.1)) (fun (c : PUnit ⊕ PUnit) => selim
    (fun (b : PUnit) => cnd (decide (x.1.2.2.2.1 ≠ (0:Int))) (some ([b_1], x.1)) (obind (w_path_Add (x.2.2.2.2.2.2.2.1, x.1.1)) fun b => cnd (!b.2)
    (obind (w_tie_vain x.1) fun b => some ([b_1], b)) (cnd (decide ((20:Int) < x.2.2.2.2.2.2.1)) (obind (w_tie_vain x.1) fun b => some ([b_1], b))
    (obind (w_tie_under (x.1, x.2, b.1)) fun b => some ([], b.1, b.2.1, b.2.2.1, x.2.2.1, x.2.2.2.2.1, b.2.2.2.2.2.1, b.2.2.2.2.2.2.1, x.2.2.2.2.2.1,
    wr .i64 (b.2.2.1 - x.2.2.2.2.2.2.1), (0:Int), b.2.2.2.2.2.2.2.2.2.2.1, (0:Int), b.2.2.2.2.2.2.2.2.2.2.2.2))))) (fun (c : PUnit) => some ([b_1],
    x.1)) c) b) c) b
theorem FV_tie_accept_eq (w_tie_of : (Int × A0_) × M_ → Option (Unit ⊕ (Unit ⊕ Unit))) (w_tie_tell : (Int × A0_) × Int × Int → Option (M_)) (w_path_Add : List Int × Int → Option (List Int × Bool)) (w_tie_vain : Int × A0_ → Option (Int × A0_)) (w_tie_under : (Int × A0_) × (M_) × List Int → Option (Int × A0_)) (N : Nat) (x : (Int × A0_) × M_) : F_tie_accept w_tie_of w_tie_tell w_path_Add w_tie_vain w_tie_under N x = V_tie_accept w_tie_of w_tie_tell w_path_Add w_tie_vain w_tie_under N x := by kernel_rfl
noncomputable def W_tie_accept (N : Nat) (x : (Int × A0_) × M_) : Option (List (M_) × Int × A0_) := V_tie_accept (W_tie_of N) (W_tie_tell N) (W_path_Add N) (W_tie_vain N) (W_tie_under N) N x
theorem F_tie_accept_eq (N : Nat) (x : (Int × A0_) × M_) : F_tie_accept (W_tie_of N) (W_tie_tell N) (W_path_Add N) (W_tie_vain N) (W_tie_under N) N x = W_tie_accept N x := (FV_tie_accept_eq (W_tie_of N) (W_tie_tell N) (W_path_Add N) (W_tie_vain N) (W_tie_under N) N x).trans (by kernel_rfl)
noncomputable def conw_tie_accept (w : (Int × A0_) × M_ → Option (List (M_) × Int × A0_)) : Con := ⟨42, as_tie_accept, bs_tie_accept, List (M_) × Int × Int × Int × Int × Int × Int × List Int × Int × Int × Int × Int × Int × List (Int × Int × Int), w, out_tie_accept⟩
noncomputable def con_tie_accept (N : Nat) : Con := conw_tie_accept (W_tie_accept N)
theorem R_tie_accept_eq (x : (Int × A0_) × M_) (y : List (M_) × Int × A0_) : retOf2 P0 Try.f42 (kpL []) (lbOf as_tie_accept bs_tie_accept x) (patS ⟨83, [], [], []⟩ pout_tie_accept y) = some (out_tie_accept y) := by kernel_rfl
theorem con_tie_accept_ok (N : Nat) : Con.ok P0 (con_tie_accept N) := ⟨⟨Try.f42, Try.func42, by kernel_rfl, by kernel_rfl⟩, fun (x : (Int × A0_) × M_) (r : List (M_) × Int × A0_) (hr : W_tie_accept N x = some r) =>
  spec2_evT (Γ := G_tie_accept (W_tie_of N) (W_tie_tell N) (W_path_Add N) (W_tie_vain N) (W_tie_under N) N) (Λ := L0) (pout := pout_tie_accept) (kp := kpL []) mixed (orcOf_ok _ (by simp only [List.mem_cons, List.not_mem_nil, or_false, forall_eq_or_imp, forall_eq]; exact ⟨con_tie_of_ok N, con_tie_tell_ok N, con_path_Add_ok N, con_tie_vain_ok N, con_tie_under_ok N⟩)) Try.func42 (c := bodyOf Try.f42) (by kernel_rfl) (by kernel_rfl) (of_decide_eq_true (by kernel_rfl)) ((F_tie_accept_eq N x).trans hr) (R_tie_accept_eq x r)⟩
def as_tie_refuse : List AS := [.val (.agg T0_), .val (.agg T_)]
def bs_tie_refuse : List BS := []
def pout_tie_refuse : Pat := ⟨[(4, .ptr 600004 0)], [(600004, .box 27 (.val T0_))]⟩
noncomputable def G_tie_refuse (w_tie_of : (Int × A0_) × M_ → Option (Unit ⊕ (Unit ⊕ Unit))) (w_tie_vain : Int × A0_ → Option (Int × A0_)) (w_tie_letGo : (Int × A0_) × Int → Option (Int × A0_)) (N : Nat) : OrcT := orcOf [conw_tie_of w_tie_of, conw_tie_vain w_tie_vain, conw_tie_letGo w_tie_letGo]
noncomputable def F_tie_refuse (w_tie_of : (Int × A0_) × M_ → Option (Unit ⊕ (Unit ⊕ Unit))) (w_tie_vain : Int × A0_ → Option (Int × A0_)) (w_tie_letGo : (Int × A0_) × Int → Option (Int × A0_)) (N : Nat) (x : (Int × A0_) × M_) : Option (Int × A0_) :=
  (evT (G_tie_refuse w_tie_of w_tie_vain w_tie_letGo N) L0 P0 []
    [] N 400 (bodyOf Try.f43) ⟨30, slots 0 (argsOf as_tie_refuse bs_tie_refuse x), tabU (lbOf as_tie_refuse bs_tie_refuse x) [], []⟩).elim (kRet 30 pout_tie_refuse (kpL []) (lbOf as_tie_refuse bs_tie_refuse x))
def out_tie_refuse (y : Int × A0_) : V × List OK × List OK := (valW (.agg T0_) y, [], [])
noncomputable def V_tie_refuse (w_tie_of : (Int × A0_) × M_ → Option (Unit ⊕ (Unit ⊕ Unit))) (w_tie_vain : Int × A0_ → Option (Int × A0_)) (w_tie_letGo : (Int × A0_) × Int → Option (Int × A0_)) (N : Nat) (x : (Int × A0_) × M_) : Option (Int × A0_) :=
  obind (w_tie_of x) fun b => selim (fun (b_1 : PUnit) => selim (fun (b : PUnit) => obind (w_tie_letGo (x.1, (0:Int))) fun b => some b) (fun (c :
    PUnit ⊕ PUnit) => selim (fun (b : PUnit) => some x.1) (fun (c : PUnit) => some x.1) c) b) (fun (c : PUnit ⊕ PUnit) => selim (fun (b : PUnit) =>
    obind (w_tie_vain x.1) fun b => some b) (fun (c : PUnit) => selim (fun (b : PUnit) => obind (w_tie_letGo (x.1, (0:Int))) fun b => some b) (fun
    (c : PUnit ⊕ PUnit) => selim (fun (b : PUnit) => some x.1) (fun (c : PUnit) => some x.1) c) b) c) b
theorem FV_tie_refuse_eq (w_tie_of : (Int × A0_) × M_ → Option (Unit ⊕ (Unit ⊕ Unit))) (w_tie_vain : Int × A0_ → Option (Int × A0_)) (w_tie_letGo : (Int × A0_) × Int → Option (Int × A0_)) (N : Nat) (x : (Int × A0_) × M_) : F_tie_refuse w_tie_of w_tie_vain w_tie_letGo N x = V_tie_refuse w_tie_of w_tie_vain w_tie_letGo N x := by kernel_rfl
noncomputable def W_tie_refuse (N : Nat) (x : (Int × A0_) × M_) : Option (Int × A0_) := V_tie_refuse (W_tie_of N) (W_tie_vain N) (W_tie_letGo N) N x
theorem F_tie_refuse_eq (N : Nat) (x : (Int × A0_) × M_) : F_tie_refuse (W_tie_of N) (W_tie_vain N) (W_tie_letGo N) N x = W_tie_refuse N x := (FV_tie_refuse_eq (W_tie_of N) (W_tie_vain N) (W_tie_letGo N) N x).trans (by kernel_rfl)
noncomputable def conw_tie_refuse (w : (Int × A0_) × M_ → Option (Int × A0_)) : Con := ⟨43, as_tie_refuse, bs_tie_refuse, Int × Int × Int × Int × Int × Int × List Int × Int × Int × Int × Int × Int × List (Int × Int × Int), w, out_tie_refuse⟩
noncomputable def con_tie_refuse (N : Nat) : Con := conw_tie_refuse (W_tie_refuse N)
theorem R_tie_refuse_eq (x : (Int × A0_) × M_) (y : Int × A0_) : retOf2 P0 Try.f43 (kpL []) (lbOf as_tie_refuse bs_tie_refuse x) (patS ⟨30, [], [], []⟩ pout_tie_refuse y) = some (out_tie_refuse y) := by kernel_rfl
theorem con_tie_refuse_ok (N : Nat) : Con.ok P0 (con_tie_refuse N) := ⟨⟨Try.f43, Try.func43, by kernel_rfl, by kernel_rfl⟩, fun (x : (Int × A0_) × M_) (r : Int × A0_) (hr : W_tie_refuse N x = some r) =>
  spec2_evT (Γ := G_tie_refuse (W_tie_of N) (W_tie_vain N) (W_tie_letGo N) N) (Λ := L0) (pout := pout_tie_refuse) (kp := kpL []) mixed (orcOf_ok _ (by simp only [List.mem_cons, List.not_mem_nil, or_false, forall_eq_or_imp, forall_eq]; exact ⟨con_tie_of_ok N, con_tie_vain_ok N, con_tie_letGo_ok N⟩)) Try.func43 (c := bodyOf Try.f43) (by kernel_rfl) (by kernel_rfl) (of_decide_eq_true (by kernel_rfl)) ((F_tie_refuse_eq N x).trans hr) (R_tie_refuse_eq x r)⟩
def as_tie_beatUp : List AS := [.val (.agg T0_), .val (.agg T_)]
def bs_tie_beatUp : List BS := []
def pout_tie_beatUp : Pat := ⟨[(4, .ptr 600004 0), (5, .val (.list (.agg T_)))], [(600004, .box 27 (.val T0_))]⟩
noncomputable def G_tie_beatUp (w_kids_Find : A3_ → Option (Bool × Int × Int × Int)) (w_tie_tell : (Int × A0_) × Int × Int → Option (M_)) (w_kids_Hear : List (Int × Int × Int) × Int × Int × Int → Option A2_) (N : Nat) : OrcT := orcOf [conw_kids_Find w_kids_Find, conw_tie_tell w_tie_tell, conw_kids_Hear w_kids_Hear]
noncomputable def F_tie_beatUp (w_kids_Find : A3_ → Option (Bool × Int × Int × Int)) (w_tie_tell : (Int × A0_) × Int × Int → Option (M_)) (w_kids_Hear : List (Int × Int × Int) × Int × Int × Int → Option A2_) (N : Nat) (x : (Int × A0_) × M_) : Option (List (M_) × Int × A0_) :=
  (evT (G_tie_beatUp w_kids_Find w_tie_tell w_kids_Hear N) L0 P0 []
    [] N 400 (bodyOf Try.f44) ⟨39, slots 0 (argsOf as_tie_beatUp bs_tie_beatUp x), tabU (lbOf as_tie_beatUp bs_tie_beatUp x) [], []⟩).elim (kRet 39 pout_tie_beatUp (kpL []) (lbOf as_tie_beatUp bs_tie_beatUp x))
def out_tie_beatUp (y : List (M_) × Int × A0_) : V × List OK × List OK := (.tup [valW (.agg T0_) y.2, valW (.list (.agg T_)) y.1], [], [])
noncomputable def V_tie_beatUp (w_kids_Find : A3_ → Option (Bool × Int × Int × Int)) (w_tie_tell : (Int × A0_) × Int × Int → Option (M_)) (w_kids_Hear : List (Int × Int × Int) × Int × Int × Int → Option A2_) (N : Nat) (x : (Int × A0_) × M_) : Option (List (M_) × Int × A0_) :=
  obind (w_kids_Find (x.1.2.2.2.2.2.2.2.2.2.2.2.2, x.2.2.1)) fun b => cnd (!b.1) (obind (w_tie_tell (x.1, (3:Int), x.2.2.1)) fun b => some ([b],
    x.1)) (obind (w_kids_Hear (x.1.2.2.2.2.2.2.2.2.2.2.2.2, x.2.2.1, x.2.2.2.2.1, x.1.2.2.1)) fun b => some ([], x.1.1, x.1.2.1, x.1.2.2.1,
    x.1.2.2.2.1, x.1.2.2.2.2.1, x.1.2.2.2.2.2.1, x.1.2.2.2.2.2.2.1, x.1.2.2.2.2.2.2.2.1, x.1.2.2.2.2.2.2.2.2.1, x.1.2.2.2.2.2.2.2.2.2.1,
    x.1.2.2.2.2.2.2.2.2.2.2.1, x.1.2.2.2.2.2.2.2.2.2.2.2.1, b.1))
theorem FV_tie_beatUp_eq (w_kids_Find : A3_ → Option (Bool × Int × Int × Int)) (w_tie_tell : (Int × A0_) × Int × Int → Option (M_)) (w_kids_Hear : List (Int × Int × Int) × Int × Int × Int → Option A2_) (N : Nat) (x : (Int × A0_) × M_) : F_tie_beatUp w_kids_Find w_tie_tell w_kids_Hear N x = V_tie_beatUp w_kids_Find w_tie_tell w_kids_Hear N x := by kernel_rfl
noncomputable def W_tie_beatUp (N : Nat) (x : (Int × A0_) × M_) : Option (List (M_) × Int × A0_) := V_tie_beatUp (W_kids_Find N) (W_tie_tell N) (W_kids_Hear N) N x
theorem F_tie_beatUp_eq (N : Nat) (x : (Int × A0_) × M_) : F_tie_beatUp (W_kids_Find N) (W_tie_tell N) (W_kids_Hear N) N x = W_tie_beatUp N x := (FV_tie_beatUp_eq (W_kids_Find N) (W_tie_tell N) (W_kids_Hear N) N x).trans (by kernel_rfl)
noncomputable def conw_tie_beatUp (w : (Int × A0_) × M_ → Option (List (M_) × Int × A0_)) : Con := ⟨44, as_tie_beatUp, bs_tie_beatUp, List (M_) × Int × Int × Int × Int × Int × Int × List Int × Int × Int × Int × Int × Int × List (Int × Int × Int), w, out_tie_beatUp⟩
noncomputable def con_tie_beatUp (N : Nat) : Con := conw_tie_beatUp (W_tie_beatUp N)
theorem R_tie_beatUp_eq (x : (Int × A0_) × M_) (y : List (M_) × Int × A0_) : retOf2 P0 Try.f44 (kpL []) (lbOf as_tie_beatUp bs_tie_beatUp x) (patS ⟨39, [], [], []⟩ pout_tie_beatUp y) = some (out_tie_beatUp y) := by kernel_rfl
theorem con_tie_beatUp_ok (N : Nat) : Con.ok P0 (con_tie_beatUp N) := ⟨⟨Try.f44, Try.func44, by kernel_rfl, by kernel_rfl⟩, fun (x : (Int × A0_) × M_) (r : List (M_) × Int × A0_) (hr : W_tie_beatUp N x = some r) =>
  spec2_evT (Γ := G_tie_beatUp (W_kids_Find N) (W_tie_tell N) (W_kids_Hear N) N) (Λ := L0) (pout := pout_tie_beatUp) (kp := kpL []) mixed (orcOf_ok _ (by simp only [List.mem_cons, List.not_mem_nil, or_false, forall_eq_or_imp, forall_eq]; exact ⟨con_kids_Find_ok N, con_tie_tell_ok N, con_kids_Hear_ok N⟩)) Try.func44 (c := bodyOf Try.f44) (by kernel_rfl) (by kernel_rfl) (of_decide_eq_true (by kernel_rfl)) ((F_tie_beatUp_eq N x).trans hr) (R_tie_beatUp_eq x r)⟩
def as_tie_beatDn : List AS := [.val (.agg T0_), .val (.agg T_)]
def bs_tie_beatDn : List BS := []
def pout_tie_beatDn : Pat := ⟨[(4, .ptr 600004 0), (5, .val (.list (.agg T_)))], [(600004, .box 27 (.val T0_))]⟩
noncomputable def G_tie_beatDn (w_tie_tell : (Int × A0_) × Int × Int → Option (M_)) (w_tie_of : (Int × A0_) × M_ → Option (Unit ⊕ (Unit ⊕ Unit))) (w_path_Add : List Int × Int → Option (List Int × Bool)) (w_tie_letGo : (Int × A0_) × Int → Option (Int × A0_)) (w_tie_under : (Int × A0_) × (M_) × List Int → Option (Int × A0_)) (N : Nat) : OrcT := orcOf [conw_tie_tell w_tie_tell, conw_tie_of w_tie_of, conw_path_Add w_path_Add, conw_tie_letGo w_tie_letGo, conw_tie_under w_tie_under]
noncomputable def F_tie_beatDn (w_tie_tell : (Int × A0_) × Int × Int → Option (M_)) (w_tie_of : (Int × A0_) × M_ → Option (Unit ⊕ (Unit ⊕ Unit))) (w_path_Add : List Int × Int → Option (List Int × Bool)) (w_tie_letGo : (Int × A0_) × Int → Option (Int × A0_)) (w_tie_under : (Int × A0_) × (M_) × List Int → Option (Int × A0_)) (N : Nat) (x : (Int × A0_) × M_) : Option (List (M_) × Int × A0_) :=
  (evT (G_tie_beatDn w_tie_tell w_tie_of w_path_Add w_tie_letGo w_tie_under N) L0 P0 []
    [] N 400 (bodyOf Try.f45) ⟨60, slots 0 (argsOf as_tie_beatDn bs_tie_beatDn x), tabU (lbOf as_tie_beatDn bs_tie_beatDn x) [], []⟩).elim (kRet 60 pout_tie_beatDn (kpL []) (lbOf as_tie_beatDn bs_tie_beatDn x))
def out_tie_beatDn (y : List (M_) × Int × A0_) : V × List OK × List OK := (.tup [valW (.agg T0_) y.2, valW (.list (.agg T_)) y.1], [], [])
noncomputable def V_tie_beatDn (w_tie_tell : (Int × A0_) × Int × Int → Option (M_)) (w_tie_of : (Int × A0_) × M_ → Option (Unit ⊕ (Unit ⊕ Unit))) (w_path_Add : List Int × Int → Option (List Int × Bool)) (w_tie_letGo : (Int × A0_) × Int → Option (Int × A0_)) (w_tie_under : (Int × A0_) × (M_) × List Int → Option (Int × A0_)) (N : Nat) (x : (Int × A0_) × M_) : Option (List (M_) × Int × A0_) :=
  obind (w_tie_tell (x.1, (6:Int), x.2.2.1)) fun b => obind (w_tie_of x) fun b_1 => selim (fun (b_2 : PUnit) => obind (w_path_Add
    (x.2.2.2.2.2.2.2.1, x.1.1)) fun b_3 => cnd (!b_3.2) (obind (w_tie_letGo (x.1, (1:Int))) fun b_4 => some ([b], b_4)) (obind (w_tie_under (x.1,
    x.2, b_3.1)) fun b => cnd (decide (b.2.2.2.2.2.2.2.2.1 < wr .i64 (b.2.2.1 - x.2.2.2.2.2.2.1))) (some ([], b.1, b.2.1, b.2.2.1, b.2.2.2.1,
    b.2.2.2.2.1, b.2.2.2.2.2.1, b.2.2.2.2.2.2.1, x.2.2.2.2.2.1, wr .i64 (b.2.2.1 - x.2.2.2.2.2.2.1), b.2.2.2.2.2.2.2.2.2)) (some ([], b)))) (fun (c :
    PUnit ⊕ PUnit) => selim (fun (b_2 : PUnit) => some ([b], x.1)) (fun (c : PUnit) => some ([b], x.1)) c) b_1
theorem FV_tie_beatDn_eq (w_tie_tell : (Int × A0_) × Int × Int → Option (M_)) (w_tie_of : (Int × A0_) × M_ → Option (Unit ⊕ (Unit ⊕ Unit))) (w_path_Add : List Int × Int → Option (List Int × Bool)) (w_tie_letGo : (Int × A0_) × Int → Option (Int × A0_)) (w_tie_under : (Int × A0_) × (M_) × List Int → Option (Int × A0_)) (N : Nat) (x : (Int × A0_) × M_) : F_tie_beatDn w_tie_tell w_tie_of w_path_Add w_tie_letGo w_tie_under N x = V_tie_beatDn w_tie_tell w_tie_of w_path_Add w_tie_letGo w_tie_under N x := by kernel_rfl
noncomputable def W_tie_beatDn (N : Nat) (x : (Int × A0_) × M_) : Option (List (M_) × Int × A0_) := V_tie_beatDn (W_tie_tell N) (W_tie_of N) (W_path_Add N) (W_tie_letGo N) (W_tie_under N) N x
theorem F_tie_beatDn_eq (N : Nat) (x : (Int × A0_) × M_) : F_tie_beatDn (W_tie_tell N) (W_tie_of N) (W_path_Add N) (W_tie_letGo N) (W_tie_under N) N x = W_tie_beatDn N x := (FV_tie_beatDn_eq (W_tie_tell N) (W_tie_of N) (W_path_Add N) (W_tie_letGo N) (W_tie_under N) N x).trans (by kernel_rfl)
noncomputable def conw_tie_beatDn (w : (Int × A0_) × M_ → Option (List (M_) × Int × A0_)) : Con := ⟨45, as_tie_beatDn, bs_tie_beatDn, List (M_) × Int × Int × Int × Int × Int × Int × List Int × Int × Int × Int × Int × Int × List (Int × Int × Int), w, out_tie_beatDn⟩
noncomputable def con_tie_beatDn (N : Nat) : Con := conw_tie_beatDn (W_tie_beatDn N)
theorem R_tie_beatDn_eq (x : (Int × A0_) × M_) (y : List (M_) × Int × A0_) : retOf2 P0 Try.f45 (kpL []) (lbOf as_tie_beatDn bs_tie_beatDn x) (patS ⟨60, [], [], []⟩ pout_tie_beatDn y) = some (out_tie_beatDn y) := by kernel_rfl
theorem con_tie_beatDn_ok (N : Nat) : Con.ok P0 (con_tie_beatDn N) := ⟨⟨Try.f45, Try.func45, by kernel_rfl, by kernel_rfl⟩, fun (x : (Int × A0_) × M_) (r : List (M_) × Int × A0_) (hr : W_tie_beatDn N x = some r) =>
  spec2_evT (Γ := G_tie_beatDn (W_tie_tell N) (W_tie_of N) (W_path_Add N) (W_tie_letGo N) (W_tie_under N) N) (Λ := L0) (pout := pout_tie_beatDn) (kp := kpL []) mixed (orcOf_ok _ (by simp only [List.mem_cons, List.not_mem_nil, or_false, forall_eq_or_imp, forall_eq]; exact ⟨con_tie_tell_ok N, con_tie_of_ok N, con_path_Add_ok N, con_tie_letGo_ok N, con_tie_under_ok N⟩)) Try.func45 (c := bodyOf Try.f45) (by kernel_rfl) (by kernel_rfl) (of_decide_eq_true (by kernel_rfl)) ((F_tie_beatDn_eq N x).trans hr) (R_tie_beatDn_eq x r)⟩
def as_kids_Drop_1 : List AS := [.val T1_, .ptr 0 0]
def bs_kids_Drop_1 : List BS := [.box 3 (.int .i64)]
def pout_kids_Drop_1 : Pat := ⟨[(1, .ptr 1000000 0), (3, .val .bool)], [(1000000, .box 3 (.val (.int .i64)))]⟩
noncomputable def G_kids_Drop_1  (N : Nat) : OrcT := orcOf []
noncomputable def F_kids_Drop_1  (N : Nat) (x : (Int × Int × Int) × Int) : Option (Bool × Int) :=
  (evT (G_kids_Drop_1  N) L0 P0 []
    [] N 400 (bodyOf Try.f76) ⟨8, slots 0 (argsOf as_kids_Drop_1 bs_kids_Drop_1 x), tabU (lbOf as_kids_Drop_1 bs_kids_Drop_1 x) [], []⟩).elim (kRet 8 pout_kids_Drop_1 (kpL [true]) (lbOf as_kids_Drop_1 bs_kids_Drop_1 x))
def out_kids_Drop_1 (y : Bool × Int) : V × List OK × List OK := (valW .bool y.1, [.box 3 (cellsW (.int .i64) y.2)], [])
noncomputable def V_kids_Drop_1  (N : Nat) (x : (Int × Int × Int) × Int) : Option (Bool × Int) :=
  some (decide (x.1.1 = x.2), x.2)
theorem FV_kids_Drop_1_eq  (N : Nat) (x : (Int × Int × Int) × Int) : F_kids_Drop_1  N x = V_kids_Drop_1  N x := by kernel_rfl
noncomputable def W_kids_Drop_1 (N : Nat) (x : (Int × Int × Int) × Int) : Option (Bool × Int) := V_kids_Drop_1  N x
theorem F_kids_Drop_1_eq (N : Nat) (x : (Int × Int × Int) × Int) : F_kids_Drop_1  N x = W_kids_Drop_1 N x := (FV_kids_Drop_1_eq  N x).trans (by kernel_rfl)
noncomputable def conw_kids_Drop_1 (w : (Int × Int × Int) × Int → Option (Bool × Int)) : Con := ⟨76, as_kids_Drop_1, bs_kids_Drop_1, Bool × Int, w, out_kids_Drop_1⟩
noncomputable def con_kids_Drop_1 (N : Nat) : Con := conw_kids_Drop_1 (W_kids_Drop_1 N)
theorem R_kids_Drop_1_eq (x : (Int × Int × Int) × Int) (y : Bool × Int) : retOf2 P0 Try.f76 (kpL [true]) (lbOf as_kids_Drop_1 bs_kids_Drop_1 x) (patS ⟨8, [], [], []⟩ pout_kids_Drop_1 y) = some (out_kids_Drop_1 y) := by kernel_rfl
theorem con_kids_Drop_1_ok (N : Nat) : Con.ok P0 (con_kids_Drop_1 N) := ⟨⟨Try.f76, Try.func76, by kernel_rfl, by kernel_rfl⟩, fun (x : (Int × Int × Int) × Int) (r : Bool × Int) (hr : W_kids_Drop_1 N x = some r) =>
  spec2_evT (Γ := G_kids_Drop_1 N) (Λ := L0) (pout := pout_kids_Drop_1) (kp := kpL [true]) mixed (orcOf_ok [] (by simp)) Try.func76 (c := bodyOf Try.f76) (by kernel_rfl) (by kernel_rfl) (of_decide_eq_true (by kernel_rfl)) ((F_kids_Drop_1_eq N x).trans hr) (R_kids_Drop_1_eq x r)⟩
def as_slices_IndexFunc_api_Kid__kids_Drop_1 : List AS := [.val (.list T1_), .fn 76 [0]]
def bs_slices_IndexFunc_api_Kid__kids_Drop_1 : List BS := [.box 3 (.int .i64)]
def pout_slices_IndexFunc_api_Kid__kids_Drop_1 : Pat := ⟨[(1, .fn 76 [1000000]), (4, .val (.int .i64))], [(1000000, .box 3 (.val (.int .i64)))]⟩
noncomputable def G_slices_IndexFunc_api_Kid__kids_Drop_1 (w_kids_Drop_1 : (Int × Int × Int) × Int → Option (Bool × Int)) (N : Nat) : OrcT := orcOf [conw_kids_Drop_1 w_kids_Drop_1]
noncomputable def F_slices_IndexFunc_api_Kid__kids_Drop_1 (w_kids_Drop_1 : (Int × Int × Int) × Int → Option (Bool × Int)) (N : Nat) (x : A3_) : Option (Int × Int) :=
  (evT (G_slices_IndexFunc_api_Kid__kids_Drop_1 w_kids_Drop_1 N) L0 P0 [(2, .loop [] ⟨[(1, .fn 76 [1000000]), (8, .val (.int .i64))], [(1000000, .box 3 (.val (.int .i64)))]⟩ [(.exit 0, ⟨[(1, .fn 76 [1000000])], [(1000000, .box 3 (.val (.int .i64)))]⟩), (.ret, ⟨[(1, .fn 76 [1000000]), (4, .val (.int .i64))], [(1000000, .box 3 (.val (.int .i64)))]⟩)])]
    [] N 400 (bodyOf Try.f78) ⟨19, slots 0 (argsOf as_slices_IndexFunc_api_Kid__kids_Drop_1 bs_slices_IndexFunc_api_Kid__kids_Drop_1 x), tabU (lbOf as_slices_IndexFunc_api_Kid__kids_Drop_1 bs_slices_IndexFunc_api_Kid__kids_Drop_1 x) [], []⟩).elim (kRet 19 pout_slices_IndexFunc_api_Kid__kids_Drop_1 (kpL [true]) (lbOf as_slices_IndexFunc_api_Kid__kids_Drop_1 bs_slices_IndexFunc_api_Kid__kids_Drop_1 x))
def out_slices_IndexFunc_api_Kid__kids_Drop_1 (y : Int × Int) : V × List OK × List OK := (valW (.int .i64) y.1, [.box 3 (cellsW (.int .i64) y.2)], [])
noncomputable def V_slices_IndexFunc_api_Kid__kids_Drop_1 (w_kids_Drop_1 : (Int × Int × Int) × Int → Option (Bool × Int)) (N : Nat) (x : A3_) : Option (Int × Int) :=
  obind (loopN N (fun (v : Int × Int) => cnd (decide (v.1 < (↑(List.length x.1) : Int))) (cnd (decide ((0:Int) ≤ v.1) && decide (v.1 < (↑(List.length
    x.1) : Int))) (obind (w_kids_Drop_1 ((Prod.fst (List.getD x.1 (Int.toNat v.1) ((0:Int), (0:Int), (0:Int))), Prod.fst (Prod.snd (List.getD x.1
    (Int.toNat v.1) ((0:Int), (0:Int), (0:Int)))), Prod.snd (Prod.snd (List.getD x.1 (Int.toNat v.1) ((0:Int), (0:Int), (0:Int))))), v.2)) fun b => cnd
    b.1 (some (Sum.inr (Sum.inr (v.1, b.2)))) (some (Sum.inl (wr .i64 (v.1 + (1:Int)), b.2)))) none) (some (Sum.inr (Sum.inl v.2)))) ((0:Int), x.2)) fun
    (b : Int ⊕ Int × Int) => selim (fun (b : Int) => some ((-1 : Int), b)) (fun (c : Int × Int) => some c) b
theorem FV_slices_IndexFunc_api_Kid__kids_Drop_1_eq (w_kids_Drop_1 : (Int × Int × Int) × Int → Option (Bool × Int)) (N : Nat) (x : A3_) : F_slices_IndexFunc_api_Kid__kids_Drop_1 w_kids_Drop_1 N x = V_slices_IndexFunc_api_Kid__kids_Drop_1 w_kids_Drop_1 N x := by kernel_rfl
noncomputable def W_slices_IndexFunc_api_Kid__kids_Drop_1 (N : Nat) (x : A3_) : Option (Int × Int) := V_slices_IndexFunc_api_Kid__kids_Drop_1 (W_kids_Drop_1 N) N x
theorem F_slices_IndexFunc_api_Kid__kids_Drop_1_eq (N : Nat) (x : A3_) : F_slices_IndexFunc_api_Kid__kids_Drop_1 (W_kids_Drop_1 N) N x = W_slices_IndexFunc_api_Kid__kids_Drop_1 N x := (FV_slices_IndexFunc_api_Kid__kids_Drop_1_eq (W_kids_Drop_1 N) N x).trans (by kernel_rfl)
noncomputable def conw_slices_IndexFunc_api_Kid__kids_Drop_1 (w : A3_ → Option (Int × Int)) : Con := ⟨78, as_slices_IndexFunc_api_Kid__kids_Drop_1, bs_slices_IndexFunc_api_Kid__kids_Drop_1, Int × Int, w, out_slices_IndexFunc_api_Kid__kids_Drop_1⟩
noncomputable def con_slices_IndexFunc_api_Kid__kids_Drop_1 (N : Nat) : Con := conw_slices_IndexFunc_api_Kid__kids_Drop_1 (W_slices_IndexFunc_api_Kid__kids_Drop_1 N)
theorem R_slices_IndexFunc_api_Kid__kids_Drop_1_eq (x : A3_) (y : Int × Int) : retOf2 P0 Try.f78 (kpL [true]) (lbOf as_slices_IndexFunc_api_Kid__kids_Drop_1 bs_slices_IndexFunc_api_Kid__kids_Drop_1 x) (patS ⟨19, [], [], []⟩ pout_slices_IndexFunc_api_Kid__kids_Drop_1 y) = some (out_slices_IndexFunc_api_Kid__kids_Drop_1 y) := by kernel_rfl
theorem con_slices_IndexFunc_api_Kid__kids_Drop_1_ok (N : Nat) : Con.ok P0 (con_slices_IndexFunc_api_Kid__kids_Drop_1 N) := ⟨⟨Try.f78, Try.func78, by kernel_rfl, by kernel_rfl⟩, fun (x : A3_) (r : Int × Int) (hr : W_slices_IndexFunc_api_Kid__kids_Drop_1 N x = some r) =>
  spec2_evT (Γ := G_slices_IndexFunc_api_Kid__kids_Drop_1 (W_kids_Drop_1 N) N) (Λ := L0) (pout := pout_slices_IndexFunc_api_Kid__kids_Drop_1) (kp := kpL [true]) mixed (orcOf_ok _ (by simp only [List.mem_cons, List.not_mem_nil, or_false, forall_eq_or_imp, forall_eq]; exact con_kids_Drop_1_ok N)) Try.func78 (c := bodyOf Try.f78) (by kernel_rfl) (by kernel_rfl) (of_decide_eq_true (by kernel_rfl)) ((F_slices_IndexFunc_api_Kid__kids_Drop_1_eq N x).trans hr) (R_slices_IndexFunc_api_Kid__kids_Drop_1_eq x r)⟩
def as_slices_DeleteFunc_api_Kid__kids_Drop_1 : List AS := [.acc 0, .fn 76 [1]]
def bs_slices_DeleteFunc_api_Kid__kids_Drop_1 : List BS := [.nrow 73 T1_ true, .box 3 (.int .i64)]
def pout_slices_DeleteFunc_api_Kid__kids_Drop_1 : Pat := ⟨[(1, .fn 76 [1000001]), (4, .val (.list T1_))], [(1000001, .box 3 (.val (.int .i64)))]⟩
noncomputable def G_slices_DeleteFunc_api_Kid__kids_Drop_1 (w_slices_IndexFunc_api_Kid__kids_Drop_1 : A3_ → Option (Int × Int)) (w_kids_Drop_1 : (Int × Int × Int) × Int → Option (Bool × Int)) (N : Nat) : OrcT := orcOf [conw_slices_IndexFunc_api_Kid__kids_Drop_1 w_slices_IndexFunc_api_Kid__kids_Drop_1, conw_kids_Drop_1 w_kids_Drop_1]
noncomputable def F_slices_DeleteFunc_api_Kid__kids_Drop_1 (w_slices_IndexFunc_api_Kid__kids_Drop_1 : A3_ → Option (Int × Int)) (w_kids_Drop_1 : (Int × Int × Int) × Int → Option (Bool × Int)) (N : Nat) (x : A3_) : Option A3_ :=
  (evT (G_slices_DeleteFunc_api_Kid__kids_Drop_1 w_slices_IndexFunc_api_Kid__kids_Drop_1 w_kids_Drop_1 N) L0 P0 [(5, .loop [] ⟨[(0, .acc 1000000), (1, .fn 76 [1000001]), (5, .val (.int .i64)), (6, .val (.int .i64))], [(1000000, .nrow 73 T1_ false true), (1000001, .box 3 (.val (.int .i64)))]⟩ [(.exit 0, ⟨[(0, .acc 1000000), (1, .fn 76 [1000001]), (5, .val (.int .i64))], [(1000000, .nrow 73 T1_ false true), (1000001, .box 3 (.val (.int .i64)))]⟩)])]
    [] N 400 (bodyOf Try.f66) ⟨42, slots 0 (argsOf as_slices_DeleteFunc_api_Kid__kids_Drop_1 bs_slices_DeleteFunc_api_Kid__kids_Drop_1 x), tabU (lbOf as_slices_DeleteFunc_api_Kid__kids_Drop_1 bs_slices_DeleteFunc_api_Kid__kids_Drop_1 x) [], []⟩).elim (kRet 42 pout_slices_DeleteFunc_api_Kid__kids_Drop_1 (kpL [false, true]) (lbOf as_slices_DeleteFunc_api_Kid__kids_Drop_1 bs_slices_DeleteFunc_api_Kid__kids_Drop_1 x))
def out_slices_DeleteFunc_api_Kid__kids_Drop_1 (y : A3_) : V × List OK × List OK := (valW (.list T1_) y.1, [.dead, .box 3 (cellsW (.int .i64) y.2)], [])
noncomputable def V_slices_DeleteFunc_api_Kid__kids_Drop_1 (w_slices_IndexFunc_api_Kid__kids_Drop_1 : A3_ → Option (Int × Int)) (w_kids_Drop_1 : (Int × Int × Int) × Int → Option (Bool × Int)) (N : Nat) (x : A3_) : Option A3_ :=
  obind (w_slices_IndexFunc_api_Kid__kids_Drop_1 x) fun b => cnd (decide (b.1 = (-1 : Int))) (some (x.1, b.2)) (obind (loopN N (fun (v : Int × Int × A3_) => cnd (decide (v.2.1 < (↑(List.length v.2.2.1) : Int))) (cnd (decide ((0:Int) ≤ v.2.1) && decide (v.2.1 <
    (↑(List.length v.2.2.1) : Int))) (obind (w_kids_Drop_1 ((Prod.fst (List.getD v.2.2.1 (Int.toNat v.2.1) ((0:Int), (0:Int), (0:Int))), Prod.fst
    (Prod.snd (List.getD v.2.2.1 (Int.toNat v.2.1) ((0:Int), (0:Int), (0:Int)))), Prod.snd (Prod.snd (List.getD v.2.2.1 (Int.toNat v.2.1) ((0:Int),
    (0:Int), (0:Int))))), v.2.2.2)) fun b => cnd (!b.1) (cnd (decide ((0:Int) ≤ v.1) && decide (v.1 < (↑(List.length v.2.2.1) : Int))) (some (Sum.inl
    (wr .i64 (v.1 + (1:Int)), wr .i64 (v.2.1 + (1:Int)), putL v.2.2.1 [(Prod.fst (List.getD v.2.2.1 (Int.toNat v.2.1) ((0:Int), (0:Int), (0:Int))),
    Prod.fst (Prod.snd (List.getD v.2.2.1 (Int.toNat v.2.1) ((0:Int), (0:Int), (0:Int)))), Prod.snd (Prod.snd (List.getD v.2.2.1 (Int.toNat v.2.1)
    ((0:Int), (0:Int), (0:Int)))))] (Int.toNat v.1), b.2))) none) (some (Sum.inl (v.1, wr .i64 (v.2.1 + (1:Int)), v.2.2.1, b.2)))) none) (some (Sum.inr
    (v.1, v.2.2)))) (b.1, wr .i64 (b.1 + (1:Int)), x.1, b.2)) fun (b : Int × A3_) => cnd (decide ((0:Int) ≤ Option.getD (some
    b.1) (0:Int))) (cnd (decide (Option.getD (some b.1) (0:Int) ≤ (↑(List.length b.2.1) : Int))) (cnd (decide (Option.getD none (0:Int) ≤ b.1)) (cnd
    (decide ((↑(0:Nat) : Int) + b.1 ≤ (↑(List.length (putL b.2.1 (List.replicate (Prod.snd (Prod.snd (cutT (0:Nat) (List.length b.2.1) (List.length
    b.2.1) (some b.1) none)) - Prod.fst (Prod.snd (cutT (0:Nat) (List.length b.2.1) (List.length b.2.1) (some b.1) none))) ((0:Int), (0:Int), (0:Int)))
    ((0:Nat) + Prod.fst (Prod.snd (cutT (0:Nat) (List.length b.2.1) (List.length b.2.1) (some b.1) none))))) : Int))) (some (List.drop ((0:Nat) +
    Prod.fst (Prod.snd (cutT (0:Nat) (List.length (putL b.2.1 (List.replicate (Prod.snd (Prod.snd (cutT (0:Nat) (List.length b.2.1) (List.length b.2.1)
    (some b.1) none)) - Prod.fst (Prod.snd (cutT (0:Nat) (List.length b.2.1) (List.length b.2.1) (some b.1) none))) ((0:Int), (0:Int), (0:Int)))
    ((0:Nat) + Prod.fst (Prod.snd (cutT (0:Nat) (List.length b.2.1) (List.length b.2.1) (some b.1) none))))) (List.length (putL b.2.1 (List.replicate
    (Prod.snd (Prod.snd (cutT (0:Nat) (List.length b.2.1) (List.length b.2.1) (some b.1) none)) - Prod.fst (Prod.snd (cutT (0:Nat) (List.length b.2.1)
    (List.length b.2.1) (some b.1) none))) ((0:Int), (0:Int), (0:Int))) ((0:Nat) + Prod.fst (Prod.snd (cutT (0:Nat) (List.length b.2.1) (List.length
    b.2.1) (some b.1) none))))) none (some b.1)))) (List.take ((0:Nat) + Prod.fst (Prod.snd (cutT (0:Nat) (List.length (putL b.2.1 (List.replicate
    (Prod.snd (Prod.snd (cutT (0:Nat) (List.length b.2.1) (List.length b.2.1) (some b.1) none)) - Prod.fst (Prod.snd (cutT (0:Nat) (List.length b.2.1)
    (List.length b.2.1) (some b.1) none))) ((0:Int), (0:Int), (0:Int))) ((0:Nat) + Prod.fst (Prod.snd (cutT (0:Nat) (List.length b.2.1) (List.length
    b.2.1) (some b.1) none))))) (List.length (putL b.2.1 (List.replicate (Prod.snd (Prod.snd (cutT (0:Nat) (List.length b.2.1) (List.length b.2.1) (some
    b.1) none)) - Prod.fst (Prod.snd (cutT (0:Nat) (List.length b.2.1) (List.length b.2.1) (some b.1) none))) ((0:Int), (0:Int), (0:Int))) ((0:Nat) +
    Prod.fst (Prod.snd (cutT (0:Nat) (List.length b.2.1) (List.length b.2.1) (some b.1) none))))) none (some b.1))) + (Prod.snd (Prod.snd (cutT (0:Nat)
    (List.length (putL b.2.1 (List.replicate (Prod.snd (Prod.snd (cutT (0:Nat) (List.length b.2.1) (List.length b.2.1) (some b.1) none)) - Prod.fst
    (Prod.snd (cutT (0:Nat) (List.length b.2.1) (List.length b.2.1) (some b.1) none))) ((0:Int), (0:Int), (0:Int))) ((0:Nat) + Prod.fst (Prod.snd (cutT
    (0:Nat) (List.length b.2.1) (List.length b.2.1) (some b.1) none))))) (List.length (putL b.2.1 (List.replicate (Prod.snd (Prod.snd (cutT (0:Nat)
    (List.length b.2.1) (List.length b.2.1) (some b.1) none)) - Prod.fst (Prod.snd (cutT (0:Nat) (List.length b.2.1) (List.length b.2.1) (some b.1)
    none))) ((0:Int), (0:Int), (0:Int))) ((0:Nat) + Prod.fst (Prod.snd (cutT (0:Nat) (List.length b.2.1) (List.length b.2.1) (some b.1) none))))) none
    (some b.1))) - Prod.fst (Prod.snd (cutT (0:Nat) (List.length (putL b.2.1 (List.replicate (Prod.snd (Prod.snd (cutT (0:Nat) (List.length b.2.1)
    (List.length b.2.1) (some b.1) none)) - Prod.fst (Prod.snd (cutT (0:Nat) (List.length b.2.1) (List.length b.2.1) (some b.1) none))) ((0:Int),
    (0:Int), (0:Int))) ((0:Nat) + Prod.fst (Prod.snd (cutT (0:Nat) (List.length b.2.1) (List.length b.2.1) (some b.1) none))))) (List.length (putL b.2.1
    (List.replicate (Prod.snd (Prod.snd (cutT (0:Nat) (List.length b.2.1) (List.length b.2.1) (some b.1) none)) - Prod.fst (Prod.snd (cutT (0:Nat)
    (List.length b.2.1) (List.length b.2.1) (some b.1) none))) ((0:Int), (0:Int), (0:Int))) ((0:Nat) + Prod.fst (Prod.snd (cutT (0:Nat) (List.length
    b.2.1) (List.length b.2.1) (some b.1) none))))) none (some b.1))))) (putL b.2.1 (List.replicate (Prod.snd (Prod.snd (cutT (0:Nat) (List.length
    b.2.1) (List.length b.2.1) (some b.1) none)) - Prod.fst (Prod.snd (cutT (0:Nat) (List.length b.2.1) (List.length b.2.1) (some b.1) none))) ((0:Int),
    (0:Int), (0:Int))) ((0:Nat) + Prod.fst (Prod.snd (cutT (0:Nat) (List.length b.2.1) (List.length b.2.1) (some b.1) none))))), b.2.2)) none) none)
    none) none)
theorem FV_slices_DeleteFunc_api_Kid__kids_Drop_1_eq (w_slices_IndexFunc_api_Kid__kids_Drop_1 : A3_ → Option (Int × Int)) (w_kids_Drop_1 : (Int × Int × Int) × Int → Option (Bool × Int)) (N : Nat) (x : A3_) : F_slices_DeleteFunc_api_Kid__kids_Drop_1 w_slices_IndexFunc_api_Kid__kids_Drop_1 w_kids_Drop_1 N x = V_slices_DeleteFunc_api_Kid__kids_Drop_1 w_slices_IndexFunc_api_Kid__kids_Drop_1 w_kids_Drop_1 N x := by kernel_rfl
noncomputable def W_slices_DeleteFunc_api_Kid__kids_Drop_1 (N : Nat) (x : A3_) : Option A3_ := V_slices_DeleteFunc_api_Kid__kids_Drop_1 (W_slices_IndexFunc_api_Kid__kids_Drop_1 N) (W_kids_Drop_1 N) N x
theorem F_slices_DeleteFunc_api_Kid__kids_Drop_1_eq (N : Nat) (x : A3_) : F_slices_DeleteFunc_api_Kid__kids_Drop_1 (W_slices_IndexFunc_api_Kid__kids_Drop_1 N) (W_kids_Drop_1 N) N x = W_slices_DeleteFunc_api_Kid__kids_Drop_1 N x := (FV_slices_DeleteFunc_api_Kid__kids_Drop_1_eq (W_slices_IndexFunc_api_Kid__kids_Drop_1 N) (W_kids_Drop_1 N) N x).trans (by kernel_rfl)
noncomputable def conw_slices_DeleteFunc_api_Kid__kids_Drop_1 (w : A3_ → Option A3_) : Con := ⟨66, as_slices_DeleteFunc_api_Kid__kids_Drop_1, bs_slices_DeleteFunc_api_Kid__kids_Drop_1, List (Int × Int × Int) × Int, w, out_slices_DeleteFunc_api_Kid__kids_Drop_1⟩
noncomputable def con_slices_DeleteFunc_api_Kid__kids_Drop_1 (N : Nat) : Con := conw_slices_DeleteFunc_api_Kid__kids_Drop_1 (W_slices_DeleteFunc_api_Kid__kids_Drop_1 N)
theorem R_slices_DeleteFunc_api_Kid__kids_Drop_1_eq (x : A3_) (y : A3_) : retOf2 P0 Try.f66 (kpL [false, true]) (lbOf as_slices_DeleteFunc_api_Kid__kids_Drop_1 bs_slices_DeleteFunc_api_Kid__kids_Drop_1 x) (patS ⟨42, [], [], []⟩ pout_slices_DeleteFunc_api_Kid__kids_Drop_1 y) = some (out_slices_DeleteFunc_api_Kid__kids_Drop_1 y) := by kernel_rfl
theorem con_slices_DeleteFunc_api_Kid__kids_Drop_1_ok (N : Nat) : Con.ok P0 (con_slices_DeleteFunc_api_Kid__kids_Drop_1 N) := ⟨⟨Try.f66, Try.func66, by kernel_rfl, by kernel_rfl⟩, fun (x : A3_) (r : A3_) (hr : W_slices_DeleteFunc_api_Kid__kids_Drop_1 N x = some r) =>
  spec2_evT (Γ := G_slices_DeleteFunc_api_Kid__kids_Drop_1 (W_slices_IndexFunc_api_Kid__kids_Drop_1 N) (W_kids_Drop_1 N) N) (Λ := L0) (pout := pout_slices_DeleteFunc_api_Kid__kids_Drop_1) (kp := kpL [false, true]) mixed (orcOf_ok _ (by simp only [List.mem_cons, List.not_mem_nil, or_false, forall_eq_or_imp, forall_eq]; exact ⟨con_slices_IndexFunc_api_Kid__kids_Drop_1_ok N, con_kids_Drop_1_ok N⟩)) Try.func66 (c := bodyOf Try.f66) (by kernel_rfl) (by kernel_rfl) (of_decide_eq_true (by kernel_rfl)) ((F_slices_DeleteFunc_api_Kid__kids_Drop_1_eq N x).trans hr) (R_slices_DeleteFunc_api_Kid__kids_Drop_1_eq x r)⟩
def as_kids_Drop : List AS := [.val (.list T1_), .val (.int .i64)]
def bs_kids_Drop : List BS := []
def pout_kids_Drop : Pat := ⟨[(4, .val (.list T1_))], []⟩
noncomputable def G_kids_Drop (w_slices_Clone_api_Kid : List (Int × Int × Int) → Option (List (Int × Int × Int))) (w_slices_DeleteFunc_api_Kid__kids_Drop_1 : A3_ → Option A3_) (N : Nat) : OrcT := orcOf [conw_slices_Clone_api_Kid w_slices_Clone_api_Kid, conw_slices_DeleteFunc_api_Kid__kids_Drop_1 w_slices_DeleteFunc_api_Kid__kids_Drop_1]
noncomputable def F_kids_Drop (w_slices_Clone_api_Kid : List (Int × Int × Int) → Option (List (Int × Int × Int))) (w_slices_DeleteFunc_api_Kid__kids_Drop_1 : A3_ → Option A3_) (N : Nat) (x : A3_) : Option (List (Int × Int × Int)) :=
  (evT (G_kids_Drop w_slices_Clone_api_Kid w_slices_DeleteFunc_api_Kid__kids_Drop_1 N) L0 P0 []
    [] N 400 (bodyOf Try.f46) ⟨9, slots 0 (argsOf as_kids_Drop bs_kids_Drop x), tabU (lbOf as_kids_Drop bs_kids_Drop x) [], []⟩).elim (kRet 9 pout_kids_Drop (kpL []) (lbOf as_kids_Drop bs_kids_Drop x))
def out_kids_Drop (y : List (Int × Int × Int)) : V × List OK × List OK := (valW (.list T1_) y, [], [])
noncomputable def V_kids_Drop (w_slices_Clone_api_Kid : List (Int × Int × Int) → Option (List (Int × Int × Int))) (w_slices_DeleteFunc_api_Kid__kids_Drop_1 : A3_ → Option A3_) (N : Nat) (x : A3_) : Option (List (Int × Int × Int)) :=
  obind (w_slices_Clone_api_Kid x.1) fun b => obind (w_slices_DeleteFunc_api_Kid__kids_Drop_1 (b, x.2)) fun b => some b.1
theorem FV_kids_Drop_eq (w_slices_Clone_api_Kid : List (Int × Int × Int) → Option (List (Int × Int × Int))) (w_slices_DeleteFunc_api_Kid__kids_Drop_1 : A3_ → Option A3_) (N : Nat) (x : A3_) : F_kids_Drop w_slices_Clone_api_Kid w_slices_DeleteFunc_api_Kid__kids_Drop_1 N x = V_kids_Drop w_slices_Clone_api_Kid w_slices_DeleteFunc_api_Kid__kids_Drop_1 N x := by kernel_rfl
noncomputable def W_kids_Drop (N : Nat) (x : A3_) : Option (List (Int × Int × Int)) := V_kids_Drop (W_slices_Clone_api_Kid N) (W_slices_DeleteFunc_api_Kid__kids_Drop_1 N) N x
theorem F_kids_Drop_eq (N : Nat) (x : A3_) : F_kids_Drop (W_slices_Clone_api_Kid N) (W_slices_DeleteFunc_api_Kid__kids_Drop_1 N) N x = W_kids_Drop N x := (FV_kids_Drop_eq (W_slices_Clone_api_Kid N) (W_slices_DeleteFunc_api_Kid__kids_Drop_1 N) N x).trans (by kernel_rfl)
noncomputable def conw_kids_Drop (w : A3_ → Option (List (Int × Int × Int))) : Con := ⟨46, as_kids_Drop, bs_kids_Drop, List (Int × Int × Int), w, out_kids_Drop⟩
noncomputable def con_kids_Drop (N : Nat) : Con := conw_kids_Drop (W_kids_Drop N)
theorem R_kids_Drop_eq (x : A3_) (y : List (Int × Int × Int)) : retOf2 P0 Try.f46 (kpL []) (lbOf as_kids_Drop bs_kids_Drop x) (patS ⟨9, [], [], []⟩ pout_kids_Drop y) = some (out_kids_Drop y) := by kernel_rfl
theorem con_kids_Drop_ok (N : Nat) : Con.ok P0 (con_kids_Drop N) := ⟨⟨Try.f46, Try.func46, by kernel_rfl, by kernel_rfl⟩, fun (x : A3_) (r : List (Int × Int × Int)) (hr : W_kids_Drop N x = some r) =>
  spec2_evT (Γ := G_kids_Drop (W_slices_Clone_api_Kid N) (W_slices_DeleteFunc_api_Kid__kids_Drop_1 N) N) (Λ := L0) (pout := pout_kids_Drop) (kp := kpL []) mixed (orcOf_ok _ (by simp only [List.mem_cons, List.not_mem_nil, or_false, forall_eq_or_imp, forall_eq]; exact ⟨con_slices_Clone_api_Kid_ok N, con_slices_DeleteFunc_api_Kid__kids_Drop_1_ok N⟩)) Try.func46 (c := bodyOf Try.f46) (by kernel_rfl) (by kernel_rfl) (of_decide_eq_true (by kernel_rfl)) ((F_kids_Drop_eq N x).trans hr) (R_kids_Drop_eq x r)⟩
def as_tie_Comes : List AS := [.val (.agg T0_), .val (.agg T_), .val (.int .i64)]
def bs_tie_Comes : List BS := []
def pout_tie_Comes : Pat := ⟨[(6, .ptr 600006 0), (7, .val (.list (.agg T_)))], [(600006, .box 27 (.val T0_))]⟩
noncomputable def G_tie_Comes (w_twin_Tie : Int × A0_ → Option (Int × A0_)) (w_tie_of : (Int × A0_) × M_ → Option (Unit ⊕ (Unit ⊕ Unit))) (w_kids_Old : List (Int × Int × Int) × Int × Int → Option (Bool)) (w_tie_letGo : (Int × A0_) × Int → Option (Int × A0_)) (w_tie_attach : (Int × A0_) × (M_) × Int → Option (List (M_) × Int × A0_)) (w_tie_accept : (Int × A0_) × M_ → Option (List (M_) × Int × A0_)) (w_tie_refuse : (Int × A0_) × M_ → Option (Int × A0_)) (w_tie_beatUp : (Int × A0_) × M_ → Option (List (M_) × Int × A0_)) (w_tie_beatDn : (Int × A0_) × M_ → Option (List (M_) × Int × A0_)) (w_kids_Drop : A3_ → Option (List (Int × Int × Int))) (N : Nat) : OrcT := orcOf [conw_twin_Tie w_twin_Tie, conw_tie_of w_tie_of, conw_kids_Old w_kids_Old, conw_tie_letGo w_tie_letGo, conw_tie_attach w_tie_attach, conw_tie_accept w_tie_accept, conw_tie_refuse w_tie_refuse, conw_tie_beatUp w_tie_beatUp, conw_tie_beatDn w_tie_beatDn, conw_kids_Drop w_kids_Drop]
noncomputable def F_tie_Comes (w_twin_Tie : Int × A0_ → Option (Int × A0_)) (w_tie_of : (Int × A0_) × M_ → Option (Unit ⊕ (Unit ⊕ Unit))) (w_kids_Old : List (Int × Int × Int) × Int × Int → Option (Bool)) (w_tie_letGo : (Int × A0_) × Int → Option (Int × A0_)) (w_tie_attach : (Int × A0_) × (M_) × Int → Option (List (M_) × Int × A0_)) (w_tie_accept : (Int × A0_) × M_ → Option (List (M_) × Int × A0_)) (w_tie_refuse : (Int × A0_) × M_ → Option (Int × A0_)) (w_tie_beatUp : (Int × A0_) × M_ → Option (List (M_) × Int × A0_)) (w_tie_beatDn : (Int × A0_) × M_ → Option (List (M_) × Int × A0_)) (w_kids_Drop : A3_ → Option (List (Int × Int × Int))) (N : Nat) (x : (Int × A0_) × (M_) × Int) : Option (List (M_) × Int × A0_) :=
  (evT (G_tie_Comes w_twin_Tie w_tie_of w_kids_Old w_tie_letGo w_tie_attach w_tie_accept w_tie_refuse w_tie_beatUp w_tie_beatDn w_kids_Drop N) L0 P0 []
    [(7, .cut [] [(.normal, ⟨[(4, .ptr 600004 0), (6, .ptr 600006 0), (8, .ptr 600008 0)], [(600004, .box 33 (.val T_)), (600006, .box 27 (.val T0_)), (600008, .box 27 (.val T0_))]⟩)])] N 400 (bodyOf Try.f12) ⟨93, slots 0 (argsOf as_tie_Comes bs_tie_Comes x), tabU (lbOf as_tie_Comes bs_tie_Comes x) [], []⟩).elim (kRet 93 pout_tie_Comes (kpL []) (lbOf as_tie_Comes bs_tie_Comes x))
def out_tie_Comes (y : List (M_) × Int × A0_) : V × List OK × List OK := (.tup [valW (.agg T0_) y.2, valW (.list (.agg T_)) y.1], [], [])
noncomputable def V_tie_Comes (w_twin_Tie : Int × A0_ → Option (Int × A0_)) (w_tie_of : (Int × A0_) × M_ → Option (Unit ⊕ (Unit ⊕ Unit))) (w_kids_Old : List (Int × Int × Int) × Int × Int → Option (Bool)) (w_tie_letGo : (Int × A0_) × Int → Option (Int × A0_)) (w_tie_attach : (Int × A0_) × (M_) × Int → Option (List (M_) × Int × A0_)) (w_tie_accept : (Int × A0_) × M_ → Option (List (M_) × Int × A0_)) (w_tie_refuse : (Int × A0_) × M_ → Option (Int × A0_)) (w_tie_beatUp : (Int × A0_) × M_ → Option (List (M_) × Int × A0_)) (w_tie_beatDn : (Int × A0_) × M_ → Option (List (M_) × Int × A0_)) (w_kids_Drop : A3_ → Option (List (Int × Int × Int))) (N : Nat) (x : (Int × A0_) × (M_) × Int) : Option (List (M_) × Int × A0_) :=
  obind (w_twin_Tie x.1) fun b => obind (w_tie_of (b, x.2.1)) fun b_1 => selim (fun (b_2 : PUnit) => obind (w_kids_Old (b.2.2.2.2.2.2.2.2.2.2.2.2,
    x.2.1.2.1, x.2.1.2.2.2.1)) fun b_3 => cnd b_3 (some ([], b)) (cnd (decide (x.2.1.2.2.2.1 < b.2.2.2.2.1)) (some ([], b)) (obind (cnd (decide
    (b.2.2.2.2.1 < x.2.1.2.2.2.1)) (obind (w_tie_letGo (b, (0:Int))) fun b => some (x.2.1, ((0:Int), (0:Int), (0:Int), (0:Int), (0:Int), (0:Int), [],
    (0:Int), (0:Int), (0:Int), (0:Int), (0:Int), []), b)) (some (x.2.1, ((0:Int), (0:Int), (0:Int), (0:Int), (0:Int), (0:Int), [], (0:Int), (0:Int),
    (0:Int), (0:Int), (0:Int), []), b))) fun (b : A1_ × (Int × A0_) × Int × A0_) => cnd (decide (b.1.1 = (1:Int))) (obind (w_tie_attach (b.2.2, b.1, x.2.2)) fun b => some b) (cnd (decide (b.1.1 =
    (2:Int))) (obind (w_tie_accept (b.2.2, b.1)) fun b => some b) (cnd (decide (b.1.1 = (3:Int))) (obind (w_tie_refuse (b.2.2, b.1)) fun b => some
    ([], b)) (cnd (decide (b.1.1 = (4:Int))) (obind (w_tie_beatUp (b.2.2, b.1)) fun b => some b) (cnd (decide (b.1.1 = (5:Int))) (obind (w_tie_beatDn (b.2.2, b.1)) fun b => some b) (cnd (decide (b.1.1 = (6:Int))) (obind (w_kids_Drop (b.2.2.2.2.2.2.2.2.2.2.2.2.2.2, b.1.2.1)) fun b_4 => some
    ([], b.2.2.1, b.2.2.2.1, b.2.2.2.2.1, b.2.2.2.2.2.1, b.2.2.2.2.2.2.1, b.2.2.2.2.2.2.2.1, b.2.2.2.2.2.2.2.2.1, b.2.2.2.2.2.2.2.2.2.1,
    b.2.2.2.2.2.2.2.2.2.2.1, b.2.2.2.2.2.2.2.2.2.2.2.1, b.2.2.2.2.2.2.2.2.2.2.2.2.1, b.2.2.2.2.2.2.2.2.2.2.2.2.2.1, b_4)) (some ([], b.2.2))))))))))
    (fun (c : PUnit ⊕ PUnit) => selim (fun (b_2 : PUnit) => obind (w_kids_Old (b.2.2.2.2.2.2.2.2.2.2.2.2, x.2.1.2.1, x.2.1.2.2.2.1)) fun b_3 => cnd
    b_3 (some ([], b)) (cnd (decide (x.2.1.1 = (1:Int))) (obind (w_tie_attach (b, x.2)) fun b => some b) (cnd (decide (x.2.1.1 = (2:Int))) (obind
    (w_tie_accept (b, x.2.1)) fun b => some b) (cnd (decide (x.2.1.1 = (3:Int))) (obind (w_tie_refuse (b, x.2.1)) fun b => some ([], b)) (cnd
    (decide (x.2.1.1 = (4:Int))) (obind (w_tie_beatUp (b, x.2.1)) fun b => some b) (cnd (decide (x.2.1.1 = (5:Int))) (obind (w_tie_beatDn (b,
    x.2.1)) fun b => some b) (cnd (decide (x.2.1.1 = (6:Int))) (obind (w_kids_Drop (b.2.2.2.2.2.2.2.2.2.2.2.2, x.2.1.2.1)) fun b_4 => some ([], b.1,
    b.2.1, b.2.2.1, b.2.2.2.1, b.2.2.2.2.1, b.2.2.2.2.2.1, b.2.2.2.2.2.2.1, b.2.2.2.2.2.2.2.1, b.2.2.2.2.2.2.2.2.1, b.2.2.2.2.2.2.2.2.2.1,
    b.2.2.2.2.2.2.2.2.2.2.1, b.2.2.2.2.2.2.2.2.2.2.2.1, b_4)) (some ([], b))))))))) (fun (c : PUnit) => obind (w_kids_Old (b.2.2.2.2.2.2.2.2.2.2.2.2,
    x.2.1.2.1, x.2.1.2.2.2.1)) fun b_2 => cnd b_2 (some ([], b)) (cnd (decide (x.2.1.1 = (1:Int))) (obind (w_tie_attach (b, x.2)) fun b => some b)
    (cnd (decide (x.2.1.1 = (2:Int))) (obind (w_tie_accept (b, x.2.1)) fun b => some b) (cnd (decide (x.2.1.1 = (3:Int))) (obind (w_tie_refuse (b,
    x.2.1)) fun b => some ([], b)) (cnd (decide (x.2.1.1 = (4:Int))) (obind (w_tie_beatUp (b, x.2.1)) fun b => some b) (cnd (decide (x.2.1.1 =
    (5:Int))) (obind (w_tie_beatDn (b, x.2.1)) fun b => some b) (cnd (decide (x.2.1.1 = (6:Int))) (obind (w_kids_Drop (b.2.2.2.2.2.2.2.2.2.2.2.2,
    x.2.1.2.1)) fun b_3 => some ([], b.1, b.2.1, b.2.2.1, b.2.2.2.1, b.2.2.2.2.1, b.2.2.2.2.2.1, b.2.2.2.2.2.2.1, b.2.2.2.2.2.2.2.1,
    b.2.2.2.2.2.2.2.2.1, b.2.2.2.2.2.2.2.2.2.1, b.2.2.2.2.2.2.2.2.2.2.1, b.2.2.2.2.2.2.2.2.2.2.2.1, b_3)) (some ([], b))))))))) c) b_1
theorem FV_tie_Comes_eq (w_twin_Tie : Int × A0_ → Option (Int × A0_)) (w_tie_of : (Int × A0_) × M_ → Option (Unit ⊕ (Unit ⊕ Unit))) (w_kids_Old : List (Int × Int × Int) × Int × Int → Option (Bool)) (w_tie_letGo : (Int × A0_) × Int → Option (Int × A0_)) (w_tie_attach : (Int × A0_) × (M_) × Int → Option (List (M_) × Int × A0_)) (w_tie_accept : (Int × A0_) × M_ → Option (List (M_) × Int × A0_)) (w_tie_refuse : (Int × A0_) × M_ → Option (Int × A0_)) (w_tie_beatUp : (Int × A0_) × M_ → Option (List (M_) × Int × A0_)) (w_tie_beatDn : (Int × A0_) × M_ → Option (List (M_) × Int × A0_)) (w_kids_Drop : A3_ → Option (List (Int × Int × Int))) (N : Nat) (x : (Int × A0_) × (M_) × Int) : F_tie_Comes w_twin_Tie w_tie_of w_kids_Old w_tie_letGo w_tie_attach w_tie_accept w_tie_refuse w_tie_beatUp w_tie_beatDn w_kids_Drop N x = V_tie_Comes w_twin_Tie w_tie_of w_kids_Old w_tie_letGo w_tie_attach w_tie_accept w_tie_refuse w_tie_beatUp w_tie_beatDn w_kids_Drop N x := by kernel_rfl
noncomputable def W_tie_Comes (N : Nat) (x : (Int × A0_) × (M_) × Int) : Option (List (M_) × Int × A0_) := V_tie_Comes (W_twin_Tie N) (W_tie_of N) (W_kids_Old N) (W_tie_letGo N) (W_tie_attach N) (W_tie_accept N) (W_tie_refuse N) (W_tie_beatUp N) (W_tie_beatDn N) (W_kids_Drop N) N x
theorem F_tie_Comes_eq (N : Nat) (x : (Int × A0_) × (M_) × Int) : F_tie_Comes (W_twin_Tie N) (W_tie_of N) (W_kids_Old N) (W_tie_letGo N) (W_tie_attach N) (W_tie_accept N) (W_tie_refuse N) (W_tie_beatUp N) (W_tie_beatDn N) (W_kids_Drop N) N x = W_tie_Comes N x := (FV_tie_Comes_eq (W_twin_Tie N) (W_tie_of N) (W_kids_Old N) (W_tie_letGo N) (W_tie_attach N) (W_tie_accept N) (W_tie_refuse N) (W_tie_beatUp N) (W_tie_beatDn N) (W_kids_Drop N) N x).trans (by kernel_rfl)
noncomputable def conw_tie_Comes (w : (Int × A0_) × (M_) × Int → Option (List (M_) × Int × A0_)) : Con := ⟨12, as_tie_Comes, bs_tie_Comes, List (M_) × Int × Int × Int × Int × Int × Int × List Int × Int × Int × Int × Int × Int × List (Int × Int × Int), w, out_tie_Comes⟩
noncomputable def con_tie_Comes (N : Nat) : Con := conw_tie_Comes (W_tie_Comes N)
theorem R_tie_Comes_eq (x : (Int × A0_) × (M_) × Int) (y : List (M_) × Int × A0_) : retOf2 P0 Try.f12 (kpL []) (lbOf as_tie_Comes bs_tie_Comes x) (patS ⟨93, [], [], []⟩ pout_tie_Comes y) = some (out_tie_Comes y) := by kernel_rfl
theorem con_tie_Comes_ok (N : Nat) : Con.ok P0 (con_tie_Comes N) := ⟨⟨Try.f12, Try.func12, by kernel_rfl, by kernel_rfl⟩, fun (x : (Int × A0_) × (M_) × Int) (r : List (M_) × Int × A0_) (hr : W_tie_Comes N x = some r) =>
  spec2_evT (Γ := G_tie_Comes (W_twin_Tie N) (W_tie_of N) (W_kids_Old N) (W_tie_letGo N) (W_tie_attach N) (W_tie_accept N) (W_tie_refuse N) (W_tie_beatUp N) (W_tie_beatDn N) (W_kids_Drop N) N) (Λ := L0) (pout := pout_tie_Comes) (kp := kpL []) mixed (orcOf_ok _ (by simp only [List.mem_cons, List.not_mem_nil, or_false, forall_eq_or_imp, forall_eq]; exact ⟨con_twin_Tie_ok N, con_tie_of_ok N, con_kids_Old_ok N, con_tie_letGo_ok N, con_tie_attach_ok N, con_tie_accept_ok N, con_tie_refuse_ok N, con_tie_beatUp_ok N, con_tie_beatDn_ok N, con_kids_Drop_ok N⟩)) Try.func12 (c := bodyOf Try.f12) (by kernel_rfl) (by kernel_rfl) (of_decide_eq_true (by kernel_rfl)) ((F_tie_Comes_eq N x).trans hr) (R_tie_Comes_eq x r)⟩
def as_tie_Leave : List AS := [.val (.agg T0_)]
def bs_tie_Leave : List BS := []
def pout_tie_Leave : Pat := ⟨[(2, .val (.list (.agg T_)))], []⟩
noncomputable def G_tie_Leave (w_tie_tell : (Int × A0_) × Int × Int → Option (M_)) (N : Nat) : OrcT := orcOf [conw_tie_tell w_tie_tell]
noncomputable def F_tie_Leave (w_tie_tell : (Int × A0_) × Int × Int → Option (M_)) (N : Nat) (x : Int × A0_) : Option (List (M_)) :=
  (evT (G_tie_Leave w_tie_tell N) L0 P0 [(5, .loop [17] ⟨[(1, .ptr 600001 0), (3, .acc 700003), (19, .val (.int .i64))], [(600001, .box 27 (.val T0_)), (700003, .nrow 33 (.agg T_) true true)]⟩ [(.exit 0, ⟨[(3, .val (.list (.agg T_)))], []⟩)])]
    [(4, .cut [] [(.normal, ⟨[(1, .ptr 600001 0), (3, .acc 700003)], [(600001, .box 27 (.val T0_)), (700003, .nrow 33 (.agg T_) true true)]⟩)])] N 400 (bodyOf Try.f32) ⟨32, slots 0 (argsOf as_tie_Leave bs_tie_Leave x), tabU (lbOf as_tie_Leave bs_tie_Leave x) [], []⟩).elim (kRet 32 pout_tie_Leave (kpL []) (lbOf as_tie_Leave bs_tie_Leave x))
def out_tie_Leave (y : List (M_)) : V × List OK × List OK := (valW (.list (.agg T_)) y, [], [])
noncomputable def V_tie_Leave (w_tie_tell : (Int × A0_) × Int × Int → Option (M_)) (N : Nat) (x : Int × A0_) : Option (List (M_)) :=
  obind (cnd (decide (x.2.2.2.1 ≠ (0:Int))) (obind (w_tie_tell (x, (6:Int), x.2.2.2.1)) fun b => some (x, [b])) (some (x, []))) fun (b : (Int × A0_) × List A1_) => obind (loopN N (fun (v : Int × (Int × A0_) × List A1_) => cnd (decide (v.1 < (↑(List.length
    b.1.2.2.2.2.2.2.2.2.2.2.2.2) : Int))) (cnd (decide ((0:Int) ≤ v.1) && decide (v.1 < (↑(List.length b.1.2.2.2.2.2.2.2.2.2.2.2.2) : Int))) (obind
    (w_tie_tell (v.2.1, (3:Int), Prod.fst (List.getD b.1.2.2.2.2.2.2.2.2.2.2.2.2 (Int.toNat v.1) ((0:Int), (0:Int), (0:Int))))) fun b => cnd (decide
    ((List.length v.2.2 + List.length [b]) * (104:Nat) ≤ (140737488355328:Nat))) (some (Sum.inl (wr .i64 (v.1 + (1:Int)), v.2.1, v.2.2 ++ [b]))) none)
    none) (some (Sum.inr v.2.2))) ((0:Int), b)) fun (b : List A1_) => some b
theorem FV_tie_Leave_eq (w_tie_tell : (Int × A0_) × Int × Int → Option (M_)) (N : Nat) (x : Int × A0_) : F_tie_Leave w_tie_tell N x = V_tie_Leave w_tie_tell N x := by kernel_rfl
noncomputable def W_tie_Leave (N : Nat) (x : Int × A0_) : Option (List (M_)) := V_tie_Leave (W_tie_tell N) N x
theorem F_tie_Leave_eq (N : Nat) (x : Int × A0_) : F_tie_Leave (W_tie_tell N) N x = W_tie_Leave N x := (FV_tie_Leave_eq (W_tie_tell N) N x).trans (by kernel_rfl)
noncomputable def conw_tie_Leave (w : Int × A0_ → Option (List (M_))) : Con := ⟨32, as_tie_Leave, bs_tie_Leave, List (M_), w, out_tie_Leave⟩
noncomputable def con_tie_Leave (N : Nat) : Con := conw_tie_Leave (W_tie_Leave N)
theorem R_tie_Leave_eq (x : Int × A0_) (y : List (M_)) : retOf2 P0 Try.f32 (kpL []) (lbOf as_tie_Leave bs_tie_Leave x) (patS ⟨32, [], [], []⟩ pout_tie_Leave y) = some (out_tie_Leave y) := by kernel_rfl
theorem con_tie_Leave_ok (N : Nat) : Con.ok P0 (con_tie_Leave N) := ⟨⟨Try.f32, Try.func32, by kernel_rfl, by kernel_rfl⟩, fun (x : Int × A0_) (r : List (M_)) (hr : W_tie_Leave N x = some r) =>
  spec2_evT (Γ := G_tie_Leave (W_tie_tell N) N) (Λ := L0) (pout := pout_tie_Leave) (kp := kpL []) mixed (orcOf_ok _ (by simp only [List.mem_cons, List.not_mem_nil, or_false, forall_eq_or_imp, forall_eq]; exact con_tie_tell_ok N)) Try.func32 (c := bodyOf Try.f32) (by kernel_rfl) (by kernel_rfl) (of_decide_eq_true (by kernel_rfl)) ((F_tie_Leave_eq N x).trans hr) (R_tie_Leave_eq x r)⟩
def as_law19_begun : List AS := []
def bs_law19_begun : List BS := []
def pout_law19_begun : Pat := ⟨[(0, .val .bool)], []⟩
noncomputable def G_law19_begun (w_tie_New : Int × Int × Int × Int → Option (Int × A0_)) (w_tie_Tick : Int × A0_ → Option (List (M_) × Int × A0_)) (w_tie_Comes : (Int × A0_) × (M_) × Int → Option (List (M_) × Int × A0_)) (w_tie_Fresh : Int × A0_ → Option (Bool)) (w_tie_Leave : Int × A0_ → Option (List (M_))) (N : Nat) : OrcT := orcOf [conw_tie_New w_tie_New, conw_tie_Tick w_tie_Tick, conw_tie_Comes w_tie_Comes, conw_tie_Fresh w_tie_Fresh, conw_tie_Leave w_tie_Leave]
noncomputable def F_law19_begun (w_tie_New : Int × Int × Int × Int → Option (Int × A0_)) (w_tie_Tick : Int × A0_ → Option (List (M_) × Int × A0_)) (w_tie_Comes : (Int × A0_) × (M_) × Int → Option (List (M_) × Int × A0_)) (w_tie_Fresh : Int × A0_ → Option (Bool)) (w_tie_Leave : Int × A0_ → Option (List (M_))) (N : Nat) (x : Unit) : Option (Bool) :=
  (evT (G_law19_begun w_tie_New w_tie_Tick w_tie_Comes w_tie_Fresh w_tie_Leave N) L0 P0 []
    [(1000004, .reg [(10, [2, 4], ⟨[(1, .ptr 600001 0), (3, .ptr 600003 0), (5, .ptr 600005 0), (28, .val .bool)], [(600001, .box 27 (.val T0_)), (600003, .box 27 (.val T0_)), (600005, .box 27 (.val T0_))]⟩), (7, [4], ⟨[(1, .ptr 600001 0), (3, .ptr 600003 0), (5, .ptr 600005 0), (35, .val .bool)], [(600001, .box 27 (.val T0_)), (600003, .box 27 (.val T0_)), (600005, .box 27 (.val T0_))]⟩), (5, [4], ⟨[(1, .ptr 600001 0), (3, .ptr 600003 0), (5, .ptr 600005 0), (40, .val .bool)], [(600001, .box 27 (.val T0_)), (600003, .box 27 (.val T0_)), (600005, .box 27 (.val T0_))]⟩), (5, [4], ⟨[(1, .ptr 600001 0), (3, .ptr 600003 0), (5, .ptr 600005 0), (45, .val .bool)], [(600001, .box 27 (.val T0_)), (600003, .box 27 (.val T0_)), (600005, .box 27 (.val T0_))]⟩), (6, [4], ⟨[(1, .ptr 600001 0), (3, .ptr 600003 0), (5, .ptr 600005 0), (51, .val .bool)], [(600001, .box 27 (.val T0_)), (600003, .box 27 (.val T0_)), (600005, .box 27 (.val T0_))]⟩), (5, [], ⟨[(1, .ptr 600001 0), (3, .ptr 600003 0), (5, .ptr 600005 0), (56, .val .bool)], [(600001, .box 27 (.val T0_)), (600003, .box 27 (.val T0_)), (600005, .box 27 (.val T0_))]⟩), (4, [], ⟨[(1, .ptr 600001 0), (3, .ptr 600003 0), (5, .ptr 600005 0), (60, .val .bool)], [(600001, .box 27 (.val T0_)), (600003, .box 27 (.val T0_)), (600005, .box 27 (.val T0_))]⟩), (4, [], ⟨[(1, .ptr 600001 0), (3, .ptr 600003 0), (5, .ptr 600005 0), (64, .val .bool)], [(600001, .box 27 (.val T0_)), (600003, .box 27 (.val T0_)), (600005, .box 27 (.val T0_))]⟩), (5, [], ⟨[(3, .ptr 600003 0), (5, .ptr 600005 0), (69, .val .bool)], [(600003, .box 27 (.val T0_)), (600005, .box 27 (.val T0_))]⟩), (6, [], ⟨[(3, .ptr 600003 0), (75, .val .bool)], [(600003, .box 27 (.val T0_))]⟩)])] N 400 (bodyOf Try.f9) ⟨82, slots 0 (argsOf as_law19_begun bs_law19_begun x), tabU (lbOf as_law19_begun bs_law19_begun x) [], []⟩).elim (kRet 82 pout_law19_begun (kpL []) (lbOf as_law19_begun bs_law19_begun x))
def out_law19_begun (y : Bool) : V × List OK × List OK := (valW .bool y, [], [])
noncomputable def V_law19_begun (w_tie_New : Int × Int × Int × Int → Option (Int × A0_)) (w_tie_Tick : Int × A0_ → Option (List (M_) × Int × A0_)) (w_tie_Comes : (Int × A0_) × (M_) × Int → Option (List (M_) × Int × A0_)) (w_tie_Fresh : Int × A0_ → Option (Bool)) (w_tie_Leave : Int × A0_ → Option (List (M_))) (N : Nat) (x : Unit) : Option (Bool) :=
  obind (w_tie_New ((3:Int), (1:Int), (0:Int), (2:Int))) fun b => obind (w_tie_Tick b) fun b => obind (w_tie_Comes (b.2, ((2:Int), (2:Int),
    (3:Int), (1:Int), (4:Int), (1:Int), [(1:Int), (2:Int)], (1:Int), (0:Int), []), (1:Int))) fun b_1 => obind (w_tie_New ((1:Int), (1:Int), (0:Int),
    (0:Int))) fun b_2 => obind (cnd (decide ((↑(List.length b.1) : Int) = (1:Int))) (cnd (decide ((0:Int) ≤ (0:Int)) && decide ((0:Int) < (↑(List.length
    b.1) : Int))) (some (decide (Prod.fst (List.getD b.1 (0:Nat) ((0:Int), (0:Int), (0:Int), (0:Int), (0:Int), (0:Int), [], (0:Int), (0:Int), [])) =
    (1:Int)), b.2, b_1.2, b_2)) none) (some (false, b.2, b_1.2, b_2))) fun (b_3 : Bool × (Int × A0_) × (Int × A0_) × Int × A0_) => obind (cnd b_3.1 (cnd (decide ((0:Int) ≤
    (0:Int)) && decide ((0:Int) < (↑(List.length b.1) : Int))) (some (decide (Prod.fst (Prod.snd (Prod.snd (List.getD b.1 (0:Nat) ((0:Int), (0:Int),
    (0:Int), (0:Int), (0:Int), (0:Int), [], (0:Int), (0:Int), [])))) = (2:Int)), b_3.2)) none) (some (false, b_3.2))) fun (b : Bool × (Int × A0_) × (Int × A0_) × Int × A0_) =>
    obind (cnd b.1 (some (decide (b.2.1.2.2.2.2.2.2.2.2.2.1 = (2:Int)), b.2)) (some (false, b.2))) fun (b : Bool × (Int × A0_) × (Int × A0_) × Int × A0_) => obind (cnd b.1
    (some (decide (b.2.2.1.2.2.2.1 = (2:Int)), b.2)) (some (false, b.2))) fun (b : Bool × (Int × A0_) × (Int × A0_) × Int × A0_) => obind (cnd b.1 (some (decide ((↑(List.length
    b.2.2.1.2.2.2.2.2.2.1) : Int) = (3:Int)), b.2)) (some (false, b.2))) fun (b : Bool × (Int × A0_) × (Int × A0_) × Int × A0_) => obind (cnd b.1 (some (decide ((↑(List.length
    b_1.1) : Int) = (0:Int)), b.2)) (some (false, b.2))) fun (b : Bool × (Int × A0_) × (Int × A0_) × Int × A0_) => obind (cnd b.1 (obind (w_tie_Fresh b.2.2.1) fun b_4 => some
    (b_4, b.2)) (some (false, b.2))) fun (b : Bool × (Int × A0_) × (Int × A0_) × Int × A0_) => obind (cnd b.1 (obind (w_tie_Fresh b.2.2.2) fun b_4 => some (b_4, b.2)) (some
    (false, b.2))) fun (b : Bool × (Int × A0_) × (Int × A0_) × Int × A0_) => obind (cnd b.1 (obind (w_tie_Fresh b.2.1) fun b_4 => some (!b_4, b.2.2)) (some (false, b.2.2))) fun
    (b : Bool × (Int × A0_) × Int × A0_) => obind (cnd b.1 (some (decide ((↑(List.length b.2.2.2.2.2.2.2.2.1) : Int) =
    (1:Int)), b.2.1)) (some (false, b.2.1))) fun (b : Bool × Int × A0_) => cnd b.1 (obind (w_tie_Leave b.2) fun b => some (decide ((↑(List.length b) : Int) = (1:Int)))) (some false)
theorem FV_law19_begun_eq (w_tie_New : Int × Int × Int × Int → Option (Int × A0_)) (w_tie_Tick : Int × A0_ → Option (List (M_) × Int × A0_)) (w_tie_Comes : (Int × A0_) × (M_) × Int → Option (List (M_) × Int × A0_)) (w_tie_Fresh : Int × A0_ → Option (Bool)) (w_tie_Leave : Int × A0_ → Option (List (M_))) (N : Nat) (x : Unit) : F_law19_begun w_tie_New w_tie_Tick w_tie_Comes w_tie_Fresh w_tie_Leave N x = V_law19_begun w_tie_New w_tie_Tick w_tie_Comes w_tie_Fresh w_tie_Leave N x := by kernel_rfl
noncomputable def W_law19_begun (N : Nat) (x : Unit) : Option (Bool) := V_law19_begun (W_tie_New N) (W_tie_Tick N) (W_tie_Comes N) (W_tie_Fresh N) (W_tie_Leave N) N x
theorem F_law19_begun_eq (N : Nat) (x : Unit) : F_law19_begun (W_tie_New N) (W_tie_Tick N) (W_tie_Comes N) (W_tie_Fresh N) (W_tie_Leave N) N x = W_law19_begun N x := (FV_law19_begun_eq (W_tie_New N) (W_tie_Tick N) (W_tie_Comes N) (W_tie_Fresh N) (W_tie_Leave N) N x).trans (by kernel_rfl)
noncomputable def conw_law19_begun (w : Unit → Option (Bool)) : Con := ⟨9, as_law19_begun, bs_law19_begun, Bool, w, out_law19_begun⟩
noncomputable def con_law19_begun (N : Nat) : Con := conw_law19_begun (W_law19_begun N)
theorem R_law19_begun_eq (x : Unit) (y : Bool) : retOf2 P0 Try.f9 (kpL []) (lbOf as_law19_begun bs_law19_begun x) (patS ⟨82, [], [], []⟩ pout_law19_begun y) = some (out_law19_begun y) := by kernel_rfl
theorem con_law19_begun_ok (N : Nat) : Con.ok P0 (con_law19_begun N) := ⟨⟨Try.f9, Try.func9, by kernel_rfl, by kernel_rfl⟩, fun (x : Unit) (r : Bool) (hr : W_law19_begun N x = some r) =>
  spec2_evT (Γ := G_law19_begun (W_tie_New N) (W_tie_Tick N) (W_tie_Comes N) (W_tie_Fresh N) (W_tie_Leave N) N) (Λ := L0) (pout := pout_law19_begun) (kp := kpL []) mixed (orcOf_ok _ (by simp only [List.mem_cons, List.not_mem_nil, or_false, forall_eq_or_imp, forall_eq]; exact ⟨con_tie_New_ok N, con_tie_Tick_ok N, con_tie_Comes_ok N, con_tie_Fresh_ok N, con_tie_Leave_ok N⟩)) Try.func9 (c := bodyOf Try.f9) (by kernel_rfl) (by kernel_rfl) (of_decide_eq_true (by kernel_rfl)) ((F_law19_begun_eq N x).trans hr) (R_law19_begun_eq x r)⟩
def as_Made : List AS := [.val (.list (.int .u8))]
def bs_Made : List BS := []
def pout_Made : Pat := ⟨[(2, .ptr 600005 0)], [(600005, .box 69 (.val T2_))]⟩
noncomputable def G_Made  (N : Nat) : OrcT := orcOf []
noncomputable def F_Made  (N : Nat) (x : List Int) : Option (List Int × Int) :=
  (evT (G_Made  N) L0 P0 []
    [] N 400 (bodyOf Try.f13) ⟨6, slots 0 (argsOf as_Made bs_Made x), tabU (lbOf as_Made bs_Made x) [], []⟩).elim (kRet 6 pout_Made (kpL []) (lbOf as_Made bs_Made x))
def out_Made (y : List Int × Int) : V × List OK × List OK := (.ptr 2000000 0 0, [], [.box 69 (cellsW T2_ y)])
noncomputable def V_Made  (N : Nat) (x : List Int) : Option (List Int × Int) :=
  some (x, (0:Int))
theorem FV_Made_eq  (N : Nat) (x : List Int) : F_Made  N x = V_Made  N x := by kernel_rfl
noncomputable def W_Made (N : Nat) (x : List Int) : Option (List Int × Int) := V_Made  N x
theorem F_Made_eq (N : Nat) (x : List Int) : F_Made  N x = W_Made N x := (FV_Made_eq  N x).trans (by kernel_rfl)
noncomputable def conw_Made (w : List Int → Option (List Int × Int)) : Con := ⟨13, as_Made, bs_Made, List Int × Int, w, out_Made⟩
noncomputable def con_Made (N : Nat) : Con := conw_Made (W_Made N)
theorem R_Made_eq (x : List Int) (y : List Int × Int) : retOf2 P0 Try.f13 (kpL []) (lbOf as_Made bs_Made x) (patS ⟨6, [], [], []⟩ pout_Made y) = some (out_Made y) := by kernel_rfl
theorem con_Made_ok (N : Nat) : Con.ok P0 (con_Made N) := ⟨⟨Try.f13, Try.func13, by kernel_rfl, by kernel_rfl⟩, fun (x : List Int) (r : List Int × Int) (hr : W_Made N x = some r) =>
  spec2_evT (Γ := G_Made N) (Λ := L0) (pout := pout_Made) (kp := kpL []) mixed (orcOf_ok [] (by simp)) Try.func13 (c := bodyOf Try.f13) (by kernel_rfl) (by kernel_rfl) (of_decide_eq_true (by kernel_rfl)) ((F_Made_eq N x).trans hr) (R_Made_eq x r)⟩
def as_Picks_Num : List AS := [.ptr 0 0, .val (.int .i64)]
def bs_Picks_Num : List BS := [.box 69 T2_]
def pout_Picks_Num : Pat := ⟨[(0, .ptr 1000000 0), (4, .val (.int .i64))], [(1000000, .box 69 (.val T2_))]⟩
noncomputable def G_Picks_Num  (N : Nat) : OrcT := orcOf []
noncomputable def F_Picks_Num  (N : Nat) (x : Int × List Int × Int) : Option (Int × List Int × Int) :=
  (evT (G_Picks_Num  N) L0 P0 []
    [] N 400 (bodyOf Try.f18) ⟨40, slots 0 (argsOf as_Picks_Num bs_Picks_Num x), tabU (lbOf as_Picks_Num bs_Picks_Num x) [], []⟩).elim (kRet 40 pout_Picks_Num (kpL [true]) (lbOf as_Picks_Num bs_Picks_Num x))
def out_Picks_Num (y : Int × List Int × Int) : V × List OK × List OK := (valW (.int .i64) y.1, [.box 69 (cellsW T2_ y.2)], [])
noncomputable def V_Picks_Num  (N : Nat) (x : Int × List Int × Int) : Option (Int × List Int × Int) :=
  cnd (decide ((↑(List.length x.2.1) : Int) ≤ x.2.2)) (some ((0:Int), x.2)) (cnd (decide (x.1 < (1:Int))) (some ((0:Int), x.2)) (cnd (decide ((0:Int) ≤
    wr .i64 (wr .i64 (x.2.2 + (1:Int)) - (1:Int))) && decide (wr .i64 (wr .i64 (x.2.2 + (1:Int)) - (1:Int)) < (↑(List.length x.2.1) : Int))) (cnd
    (!decide (x.1 = (0:Int))) (some (Int.tmod (wr .i64 (List.getD x.2.1 (Int.toNat (wr .i64 (wr .i64 (x.2.2 + (1:Int)) - (1:Int)))) (0:Int))) x.1,
    x.2.1, wr .i64 (x.2.2 + (1:Int)))) none) none))
theorem FV_Picks_Num_eq  (N : Nat) (x : Int × List Int × Int) : F_Picks_Num  N x = V_Picks_Num  N x := by kernel_rfl
noncomputable def W_Picks_Num (N : Nat) (x : Int × List Int × Int) : Option (Int × List Int × Int) := V_Picks_Num  N x
theorem F_Picks_Num_eq (N : Nat) (x : Int × List Int × Int) : F_Picks_Num  N x = W_Picks_Num N x := (FV_Picks_Num_eq  N x).trans (by kernel_rfl)
noncomputable def conw_Picks_Num (w : Int × List Int × Int → Option (Int × List Int × Int)) : Con := ⟨18, as_Picks_Num, bs_Picks_Num, Int × List Int × Int, w, out_Picks_Num⟩
noncomputable def con_Picks_Num (N : Nat) : Con := conw_Picks_Num (W_Picks_Num N)
theorem R_Picks_Num_eq (x : Int × List Int × Int) (y : Int × List Int × Int) : retOf2 P0 Try.f18 (kpL [true]) (lbOf as_Picks_Num bs_Picks_Num x) (patS ⟨40, [], [], []⟩ pout_Picks_Num y) = some (out_Picks_Num y) := by kernel_rfl
theorem con_Picks_Num_ok (N : Nat) : Con.ok P0 (con_Picks_Num N) := ⟨⟨Try.f18, Try.func18, by kernel_rfl, by kernel_rfl⟩, fun (x : Int × List Int × Int) (r : Int × List Int × Int) (hr : W_Picks_Num N x = some r) =>
  spec2_evT (Γ := G_Picks_Num N) (Λ := L0) (pout := pout_Picks_Num) (kp := kpL [true]) mixed (orcOf_ok [] (by simp)) Try.func18 (c := bodyOf Try.f18) (by kernel_rfl) (by kernel_rfl) (of_decide_eq_true (by kernel_rfl)) ((F_Picks_Num_eq N x).trans hr) (R_Picks_Num_eq x r)⟩
def as_ref19_New : List AS := [.val (.int .i64), .val (.int .i64), .val (.int .i64), .val (.int .i64)]
def bs_ref19_New : List BS := []
def pout_ref19_New : Pat := ⟨[(8, .ptr 600008 0)], [(600008, .box 27 (.val T0_))]⟩
noncomputable def G_ref19_New  (N : Nat) : OrcT := orcOf []
noncomputable def F_ref19_New  (N : Nat) (x : Int × Int × Int × Int) : Option (Int × A0_) :=
  (evT (G_ref19_New  N) L0 P0 []
    [] N 400 (bodyOf Try.f26) ⟨22, slots 0 (argsOf as_ref19_New bs_ref19_New x), tabU (lbOf as_ref19_New bs_ref19_New x) [], []⟩).elim (kRet 22 pout_ref19_New (kpL []) (lbOf as_ref19_New bs_ref19_New x))
def out_ref19_New (y : Int × A0_) : V × List OK × List OK := (valW (.agg T0_) y, [], [])
noncomputable def V_ref19_New  (N : Nat) (x : Int × Int × Int × Int) : Option (Int × A0_) :=
  cnd (decide (x.1 = (1:Int))) (some (x.1, x.2.1, x.2.2.1, (0:Int), (0:Int), x.2.2.2, [(1:Int)], (0:Int), x.2.2.1, (0:Int), (0:Int), (0:Int), [])) (some (x.1, x.2.1, x.2.2.1, (0:Int), (0:Int), x.2.2.2, [], (0:Int), (0:Int), (0:Int), (0:Int), (0:Int), []))
theorem FV_ref19_New_eq  (N : Nat) (x : Int × Int × Int × Int) : F_ref19_New  N x = V_ref19_New  N x := by kernel_rfl
noncomputable def W_ref19_New (N : Nat) (x : Int × Int × Int × Int) : Option (Int × A0_) := V_ref19_New  N x
theorem F_ref19_New_eq (N : Nat) (x : Int × Int × Int × Int) : F_ref19_New  N x = W_ref19_New N x := (FV_ref19_New_eq  N x).trans (by kernel_rfl)
noncomputable def conw_ref19_New (w : Int × Int × Int × Int → Option (Int × A0_)) : Con := ⟨26, as_ref19_New, bs_ref19_New, Int × Int × Int × Int × Int × Int × List Int × Int × Int × Int × Int × Int × List (Int × Int × Int), w, out_ref19_New⟩
noncomputable def con_ref19_New (N : Nat) : Con := conw_ref19_New (W_ref19_New N)
theorem R_ref19_New_eq (x : Int × Int × Int × Int) (y : Int × A0_) : retOf2 P0 Try.f26 (kpL []) (lbOf as_ref19_New bs_ref19_New x) (patS ⟨22, [], [], []⟩ pout_ref19_New y) = some (out_ref19_New y) := by kernel_rfl
theorem con_ref19_New_ok (N : Nat) : Con.ok P0 (con_ref19_New N) := ⟨⟨Try.f26, Try.func26, by kernel_rfl, by kernel_rfl⟩, fun (x : Int × Int × Int × Int) (r : Int × A0_) (hr : W_ref19_New N x = some r) =>
  spec2_evT (Γ := G_ref19_New N) (Λ := L0) (pout := pout_ref19_New) (kp := kpL []) mixed (orcOf_ok [] (by simp)) Try.func26 (c := bodyOf Try.f26) (by kernel_rfl) (by kernel_rfl) (of_decide_eq_true (by kernel_rfl)) ((F_ref19_New_eq N x).trans hr) (R_ref19_New_eq x r)⟩
def as_Picks_Over : List AS := [.ptr 0 0]
def bs_Picks_Over : List BS := [.box 69 T2_]
def pout_Picks_Over : Pat := ⟨[(0, .ptr 1000000 0), (2, .val .bool)], [(1000000, .box 69 (.val T2_))]⟩
noncomputable def G_Picks_Over  (N : Nat) : OrcT := orcOf []
noncomputable def F_Picks_Over  (N : Nat) (x : List Int × Int) : Option (Bool × List Int × Int) :=
  (evT (G_Picks_Over  N) L0 P0 []
    [] N 400 (bodyOf Try.f19) ⟨13, slots 0 (argsOf as_Picks_Over bs_Picks_Over x), tabU (lbOf as_Picks_Over bs_Picks_Over x) [], []⟩).elim (kRet 13 pout_Picks_Over (kpL [true]) (lbOf as_Picks_Over bs_Picks_Over x))
def out_Picks_Over (y : Bool × List Int × Int) : V × List OK × List OK := (valW .bool y.1, [.box 69 (cellsW T2_ y.2)], [])
noncomputable def V_Picks_Over  (N : Nat) (x : List Int × Int) : Option (Bool × List Int × Int) :=
  some (decide ((↑(List.length x.1) : Int) ≤ x.2), x)
theorem FV_Picks_Over_eq  (N : Nat) (x : List Int × Int) : F_Picks_Over  N x = V_Picks_Over  N x := by kernel_rfl
noncomputable def W_Picks_Over (N : Nat) (x : List Int × Int) : Option (Bool × List Int × Int) := V_Picks_Over  N x
theorem F_Picks_Over_eq (N : Nat) (x : List Int × Int) : F_Picks_Over  N x = W_Picks_Over N x := (FV_Picks_Over_eq  N x).trans (by kernel_rfl)
noncomputable def conw_Picks_Over (w : List Int × Int → Option (Bool × List Int × Int)) : Con := ⟨19, as_Picks_Over, bs_Picks_Over, Bool × List Int × Int, w, out_Picks_Over⟩
noncomputable def con_Picks_Over (N : Nat) : Con := conw_Picks_Over (W_Picks_Over N)
theorem R_Picks_Over_eq (x : List Int × Int) (y : Bool × List Int × Int) : retOf2 P0 Try.f19 (kpL [true]) (lbOf as_Picks_Over bs_Picks_Over x) (patS ⟨13, [], [], []⟩ pout_Picks_Over y) = some (out_Picks_Over y) := by kernel_rfl
theorem con_Picks_Over_ok (N : Nat) : Con.ok P0 (con_Picks_Over N) := ⟨⟨Try.f19, Try.func19, by kernel_rfl, by kernel_rfl⟩, fun (x : List Int × Int) (r : Bool × List Int × Int) (hr : W_Picks_Over N x = some r) =>
  spec2_evT (Γ := G_Picks_Over N) (Λ := L0) (pout := pout_Picks_Over) (kp := kpL [true]) mixed (orcOf_ok [] (by simp)) Try.func19 (c := bodyOf Try.f19) (by kernel_rfl) (by kernel_rfl) (of_decide_eq_true (by kernel_rfl)) ((F_Picks_Over_eq N x).trans hr) (R_Picks_Over_eq x r)⟩
def as_ref1_Prune : List AS := [.val (.list T1_), .val (.int .i64)]
def bs_ref1_Prune : List BS := []
def pout_ref1_Prune : Pat := ⟨[(4, .val (.list T1_))], []⟩
noncomputable def G_ref1_Prune  (N : Nat) : OrcT := orcOf []
noncomputable def F_ref1_Prune  (N : Nat) (x : A3_) : Option (List (Int × Int × Int)) :=
  (evT (G_ref1_Prune  N) L0 P0 [(3, .loop [] ⟨[(5, .acc 700005), (6, .val (.int .i64))], [(700005, .nrow 73 T1_ true true)]⟩ [(.exit 0, ⟨[(5, .val (.list T1_))], []⟩)])]
    [] N 400 (bodyOf Try.f53) ⟨29, slots 0 (argsOf as_ref1_Prune bs_ref1_Prune x), tabU (lbOf as_ref1_Prune bs_ref1_Prune x) [], []⟩).elim (kRet 29 pout_ref1_Prune (kpL []) (lbOf as_ref1_Prune bs_ref1_Prune x))
def out_ref1_Prune (y : List (Int × Int × Int)) : V × List OK × List OK := (valW (.list T1_) y, [], [])
noncomputable def V_ref1_Prune  (N : Nat) (x : A3_) : Option (List (Int × Int × Int)) :=
  obind (loopN N (fun (v : Int × List (Int × Int × Int)) => cnd (decide (v.1 < (↑(List.length x.1) : Int))) (cnd (decide ((0:Int) ≤ v.1) && decide (v.1
    < (↑(List.length x.1) : Int))) (cnd (decide (wr .i64 (x.2 - Prod.snd (Prod.snd (List.getD x.1 (Int.toNat v.1) ((0:Int), (0:Int), (0:Int))))) ≤
    (20:Int))) (cnd (decide ((0:Int) ≤ v.1) && decide (v.1 < (↑(List.length x.1) : Int))) (cnd (decide ((List.length v.2 + List.length [(Prod.fst
    (List.getD x.1 (Int.toNat v.1) ((0:Int), (0:Int), (0:Int))), Prod.fst (Prod.snd (List.getD x.1 (Int.toNat v.1) ((0:Int), (0:Int), (0:Int)))),
    Prod.snd (Prod.snd (List.getD x.1 (Int.toNat v.1) ((0:Int), (0:Int), (0:Int)))))]) * (24:Nat) ≤ (140737488355328:Nat))) (some (Sum.inl (wr .i64 (v.1
    + (1:Int)), v.2 ++ [(Prod.fst (List.getD x.1 (Int.toNat v.1) ((0:Int), (0:Int), (0:Int))), Prod.fst (Prod.snd (List.getD x.1 (Int.toNat v.1)
    ((0:Int), (0:Int), (0:Int)))), Prod.snd (Prod.snd (List.getD x.1 (Int.toNat v.1) ((0:Int), (0:Int), (0:Int)))))]))) none) none) (some (Sum.inl (wr
    .i64 (v.1 + (1:Int)), v.2)))) none) (some (Sum.inr v.2))) ((0:Int), [])) fun (b : List (Int × Int × Int)) => some b
theorem FV_ref1_Prune_eq  (N : Nat) (x : A3_) : F_ref1_Prune  N x = V_ref1_Prune  N x := by kernel_rfl
noncomputable def W_ref1_Prune (N : Nat) (x : A3_) : Option (List (Int × Int × Int)) := V_ref1_Prune  N x
theorem F_ref1_Prune_eq (N : Nat) (x : A3_) : F_ref1_Prune  N x = W_ref1_Prune N x := (FV_ref1_Prune_eq  N x).trans (by kernel_rfl)
noncomputable def conw_ref1_Prune (w : A3_ → Option (List (Int × Int × Int))) : Con := ⟨53, as_ref1_Prune, bs_ref1_Prune, List (Int × Int × Int), w, out_ref1_Prune⟩
noncomputable def con_ref1_Prune (N : Nat) : Con := conw_ref1_Prune (W_ref1_Prune N)
theorem R_ref1_Prune_eq (x : A3_) (y : List (Int × Int × Int)) : retOf2 P0 Try.f53 (kpL []) (lbOf as_ref1_Prune bs_ref1_Prune x) (patS ⟨29, [], [], []⟩ pout_ref1_Prune y) = some (out_ref1_Prune y) := by kernel_rfl
theorem con_ref1_Prune_ok (N : Nat) : Con.ok P0 (con_ref1_Prune N) := ⟨⟨Try.f53, Try.func53, by kernel_rfl, by kernel_rfl⟩, fun (x : A3_) (r : List (Int × Int × Int)) (hr : W_ref1_Prune N x = some r) =>
  spec2_evT (Γ := G_ref1_Prune N) (Λ := L0) (pout := pout_ref1_Prune) (kp := kpL []) mixed (orcOf_ok [] (by simp)) Try.func53 (c := bodyOf Try.f53) (by kernel_rfl) (by kernel_rfl) (of_decide_eq_true (by kernel_rfl)) ((F_ref1_Prune_eq N x).trans hr) (R_ref1_Prune_eq x r)⟩
def as_ref19_Fresh : List AS := [.val (.agg T0_)]
def bs_ref19_Fresh : List BS := []
def pout_ref19_Fresh : Pat := ⟨[(2, .val .bool)], []⟩
noncomputable def G_ref19_Fresh  (N : Nat) : OrcT := orcOf []
noncomputable def F_ref19_Fresh  (N : Nat) (x : Int × A0_) : Option (Bool) :=
  (evT (G_ref19_Fresh  N) L0 P0 []
    [] N 400 (bodyOf Try.f31) ⟨19, slots 0 (argsOf as_ref19_Fresh bs_ref19_Fresh x), tabU (lbOf as_ref19_Fresh bs_ref19_Fresh x) [], []⟩).elim (kRet 19 pout_ref19_Fresh (kpL []) (lbOf as_ref19_Fresh bs_ref19_Fresh x))
def out_ref19_Fresh (y : Bool) : V × List OK × List OK := (valW .bool y, [], [])
noncomputable def V_ref19_Fresh  (N : Nat) (x : Int × A0_) : Option (Bool) :=
  cnd (decide (x.1 = (1:Int))) (some true) (cnd (decide (x.2.2.2.1 ≠ (0:Int))) (some (decide (wr .i64 (x.2.2.1 - x.2.2.2.2.2.2.2.2.1) ≤ (20:Int)))) (some false))
theorem FV_ref19_Fresh_eq  (N : Nat) (x : Int × A0_) : F_ref19_Fresh  N x = V_ref19_Fresh  N x := by kernel_rfl
noncomputable def W_ref19_Fresh (N : Nat) (x : Int × A0_) : Option (Bool) := V_ref19_Fresh  N x
theorem F_ref19_Fresh_eq (N : Nat) (x : Int × A0_) : F_ref19_Fresh  N x = W_ref19_Fresh N x := (FV_ref19_Fresh_eq  N x).trans (by kernel_rfl)
noncomputable def conw_ref19_Fresh (w : Int × A0_ → Option (Bool)) : Con := ⟨31, as_ref19_Fresh, bs_ref19_Fresh, Bool, w, out_ref19_Fresh⟩
noncomputable def con_ref19_Fresh (N : Nat) : Con := conw_ref19_Fresh (W_ref19_Fresh N)
theorem R_ref19_Fresh_eq (x : Int × A0_) (y : Bool) : retOf2 P0 Try.f31 (kpL []) (lbOf as_ref19_Fresh bs_ref19_Fresh x) (patS ⟨19, [], [], []⟩ pout_ref19_Fresh y) = some (out_ref19_Fresh y) := by kernel_rfl
theorem con_ref19_Fresh_ok (N : Nat) : Con.ok P0 (con_ref19_Fresh N) := ⟨⟨Try.f31, Try.func31, by kernel_rfl, by kernel_rfl⟩, fun (x : Int × A0_) (r : Bool) (hr : W_ref19_Fresh N x = some r) =>
  spec2_evT (Γ := G_ref19_Fresh N) (Λ := L0) (pout := pout_ref19_Fresh) (kp := kpL []) mixed (orcOf_ok [] (by simp)) Try.func31 (c := bodyOf Try.f31) (by kernel_rfl) (by kernel_rfl) (of_decide_eq_true (by kernel_rfl)) ((F_ref19_Fresh_eq N x).trans hr) (R_ref19_Fresh_eq x r)⟩
def as_ref19_off : List AS := [.val (.agg T0_), .val (.int .i64)]
def bs_ref19_off : List BS := []
def pout_ref19_off : Pat := ⟨[(4, .ptr 600004 0)], [(600004, .box 27 (.val T0_))]⟩
noncomputable def G_ref19_off  (N : Nat) : OrcT := orcOf []
noncomputable def F_ref19_off  (N : Nat) (x : (Int × A0_) × Int) : Option (Int × A0_) :=
  (evT (G_ref19_off  N) L0 P0 []
    [] N 400 (bodyOf Try.f54) ⟨12, slots 0 (argsOf as_ref19_off bs_ref19_off x), tabU (lbOf as_ref19_off bs_ref19_off x) [], []⟩).elim (kRet 12 pout_ref19_off (kpL []) (lbOf as_ref19_off bs_ref19_off x))
def out_ref19_off (y : Int × A0_) : V × List OK × List OK := (valW (.agg T0_) y, [], [])
noncomputable def V_ref19_off  (N : Nat) (x : (Int × A0_) × Int) : Option (Int × A0_) :=
  some (x.1.1, x.1.2.1, x.1.2.2.1, (0:Int), (0:Int), x.1.2.2.2.2.2.1, [], x.1.2.2.2.2.2.2.2.1, x.1.2.2.2.2.2.2.2.2.1, (0:Int), x.1.2.2.2.2.2.2.2.2.2.2.1, x.2, x.1.2.2.2.2.2.2.2.2.2.2.2.2)
theorem FV_ref19_off_eq  (N : Nat) (x : (Int × A0_) × Int) : F_ref19_off  N x = V_ref19_off  N x := by kernel_rfl
noncomputable def W_ref19_off (N : Nat) (x : (Int × A0_) × Int) : Option (Int × A0_) := V_ref19_off  N x
theorem F_ref19_off_eq (N : Nat) (x : (Int × A0_) × Int) : F_ref19_off  N x = W_ref19_off N x := (FV_ref19_off_eq  N x).trans (by kernel_rfl)
noncomputable def conw_ref19_off (w : (Int × A0_) × Int → Option (Int × A0_)) : Con := ⟨54, as_ref19_off, bs_ref19_off, Int × Int × Int × Int × Int × Int × List Int × Int × Int × Int × Int × Int × List (Int × Int × Int), w, out_ref19_off⟩
noncomputable def con_ref19_off (N : Nat) : Con := conw_ref19_off (W_ref19_off N)
theorem R_ref19_off_eq (x : (Int × A0_) × Int) (y : Int × A0_) : retOf2 P0 Try.f54 (kpL []) (lbOf as_ref19_off bs_ref19_off x) (patS ⟨12, [], [], []⟩ pout_ref19_off y) = some (out_ref19_off y) := by kernel_rfl
theorem con_ref19_off_ok (N : Nat) : Con.ok P0 (con_ref19_off N) := ⟨⟨Try.f54, Try.func54, by kernel_rfl, by kernel_rfl⟩, fun (x : (Int × A0_) × Int) (r : Int × A0_) (hr : W_ref19_off N x = some r) =>
  spec2_evT (Γ := G_ref19_off N) (Λ := L0) (pout := pout_ref19_off) (kp := kpL []) mixed (orcOf_ok [] (by simp)) Try.func54 (c := bodyOf Try.f54) (by kernel_rfl) (by kernel_rfl) (of_decide_eq_true (by kernel_rfl)) ((F_ref19_off_eq N x).trans hr) (R_ref19_off_eq x r)⟩
def as_ref19_says : List AS := [.val (.agg T0_), .val (.int .i64), .val (.int .i64)]
def bs_ref19_says : List BS := []
def pout_ref19_says : Pat := ⟨[(6, .ptr 600006 0)], [(600006, .box 33 (.val T_))]⟩
noncomputable def G_ref19_says  (N : Nat) : OrcT := orcOf []
noncomputable def F_ref19_says  (N : Nat) (x : (Int × A0_) × Int × Int) : Option (M_) :=
  (evT (G_ref19_says  N) L0 P0 []
    [] N 400 (bodyOf Try.f55) ⟨14, slots 0 (argsOf as_ref19_says bs_ref19_says x), tabU (lbOf as_ref19_says bs_ref19_says x) [], []⟩).elim (kRet 14 pout_ref19_says (kpL []) (lbOf as_ref19_says bs_ref19_says x))
def out_ref19_says (y : M_) : V × List OK × List OK := (valW (.agg T_) y, [], [])
noncomputable def V_ref19_says  (N : Nat) (x : (Int × A0_) × Int × Int) : Option (M_) :=
  some (x.2.1, x.1.1, x.2.2, x.1.2.1, (0:Int), (0:Int), [], (0:Int), (0:Int), [])
theorem FV_ref19_says_eq  (N : Nat) (x : (Int × A0_) × Int × Int) : F_ref19_says  N x = V_ref19_says  N x := by kernel_rfl
noncomputable def W_ref19_says (N : Nat) (x : (Int × A0_) × Int × Int) : Option (M_) := V_ref19_says  N x
theorem F_ref19_says_eq (N : Nat) (x : (Int × A0_) × Int × Int) : F_ref19_says  N x = W_ref19_says N x := (FV_ref19_says_eq  N x).trans (by kernel_rfl)
noncomputable def conw_ref19_says (w : (Int × A0_) × Int × Int → Option (M_)) : Con := ⟨55, as_ref19_says, bs_ref19_says, M_, w, out_ref19_says⟩
noncomputable def con_ref19_says (N : Nat) : Con := conw_ref19_says (W_ref19_says N)
theorem R_ref19_says_eq (x : (Int × A0_) × Int × Int) (y : M_) : retOf2 P0 Try.f55 (kpL []) (lbOf as_ref19_says bs_ref19_says x) (patS ⟨14, [], [], []⟩ pout_ref19_says y) = some (out_ref19_says y) := by kernel_rfl
theorem con_ref19_says_ok (N : Nat) : Con.ok P0 (con_ref19_says N) := ⟨⟨Try.f55, Try.func55, by kernel_rfl, by kernel_rfl⟩, fun (x : (Int × A0_) × Int × Int) (r : M_) (hr : W_ref19_says N x = some r) =>
  spec2_evT (Γ := G_ref19_says N) (Λ := L0) (pout := pout_ref19_says) (kp := kpL []) mixed (orcOf_ok [] (by simp)) Try.func55 (c := bodyOf Try.f55) (by kernel_rfl) (by kernel_rfl) (of_decide_eq_true (by kernel_rfl)) ((F_ref19_says_eq N x).trans hr) (R_ref19_says_eq x r)⟩
def as_ref19_full : List AS := [.val (.agg T0_), .val (.int .i64), .val (.int .i64)]
def bs_ref19_full : List BS := []
def pout_ref19_full : Pat := ⟨[(6, .ptr 600006 0)], [(600006, .box 33 (.val T_))]⟩
noncomputable def G_ref19_full (w_ref19_says : (Int × A0_) × Int × Int → Option (M_)) (N : Nat) : OrcT := orcOf [conw_ref19_says w_ref19_says]
noncomputable def F_ref19_full (w_ref19_says : (Int × A0_) × Int × Int → Option (M_)) (N : Nat) (x : (Int × A0_) × Int × Int) : Option (M_) :=
  (evT (G_ref19_full w_ref19_says N) L0 P0 []
    [] N 400 (bodyOf Try.f56) ⟨27, slots 0 (argsOf as_ref19_full bs_ref19_full x), tabU (lbOf as_ref19_full bs_ref19_full x) [], []⟩).elim (kRet 27 pout_ref19_full (kpL []) (lbOf as_ref19_full bs_ref19_full x))
def out_ref19_full (y : M_) : V × List OK × List OK := (valW (.agg T_) y, [], [])
noncomputable def V_ref19_full (w_ref19_says : (Int × A0_) × Int × Int → Option (M_)) (N : Nat) (x : (Int × A0_) × Int × Int) : Option (M_) :=
  obind (w_ref19_says x) fun b => cnd (decide (List.length x.1.2.2.2.2.2.2.1 * (8:Nat) ≤ (140737488355328:Nat))) (some (b.1, b.2.1, b.2.2.1, b.2.2.2.1, x.1.2.2.2.2.2.2.2.1, wr .i64 (x.1.2.2.1 - x.1.2.2.2.2.2.2.2.2.1), x.1.2.2.2.2.2.2.1, b.2.2.2.2.2.2.2)) none
theorem FV_ref19_full_eq (w_ref19_says : (Int × A0_) × Int × Int → Option (M_)) (N : Nat) (x : (Int × A0_) × Int × Int) : F_ref19_full w_ref19_says N x = V_ref19_full w_ref19_says N x := by kernel_rfl
noncomputable def W_ref19_full (N : Nat) (x : (Int × A0_) × Int × Int) : Option (M_) := V_ref19_full (W_ref19_says N) N x
theorem F_ref19_full_eq (N : Nat) (x : (Int × A0_) × Int × Int) : F_ref19_full (W_ref19_says N) N x = W_ref19_full N x := (FV_ref19_full_eq (W_ref19_says N) N x).trans (by kernel_rfl)
noncomputable def conw_ref19_full (w : (Int × A0_) × Int × Int → Option (M_)) : Con := ⟨56, as_ref19_full, bs_ref19_full, M_, w, out_ref19_full⟩
noncomputable def con_ref19_full (N : Nat) : Con := conw_ref19_full (W_ref19_full N)
theorem R_ref19_full_eq (x : (Int × A0_) × Int × Int) (y : M_) : retOf2 P0 Try.f56 (kpL []) (lbOf as_ref19_full bs_ref19_full x) (patS ⟨27, [], [], []⟩ pout_ref19_full y) = some (out_ref19_full y) := by kernel_rfl
theorem con_ref19_full_ok (N : Nat) : Con.ok P0 (con_ref19_full N) := ⟨⟨Try.f56, Try.func56, by kernel_rfl, by kernel_rfl⟩, fun (x : (Int × A0_) × Int × Int) (r : M_) (hr : W_ref19_full N x = some r) =>
  spec2_evT (Γ := G_ref19_full (W_ref19_says N) N) (Λ := L0) (pout := pout_ref19_full) (kp := kpL []) mixed (orcOf_ok _ (by simp only [List.mem_cons, List.not_mem_nil, or_false, forall_eq_or_imp, forall_eq]; exact con_ref19_says_ok N)) Try.func56 (c := bodyOf Try.f56) (by kernel_rfl) (by kernel_rfl) (of_decide_eq_true (by kernel_rfl)) ((F_ref19_full_eq N x).trans hr) (R_ref19_full_eq x r)⟩
def as_ref19_Tick : List AS := [.val (.agg T0_)]
def bs_ref19_Tick : List BS := []
def pout_ref19_Tick : Pat := ⟨[(2, .ptr 600002 0), (3, .val (.list (.agg T_)))], [(600002, .box 27 (.val T0_))]⟩
noncomputable def G_ref19_Tick (w_ref1_Prune : A3_ → Option (List (Int × Int × Int))) (w_ref19_Fresh : Int × A0_ → Option (Bool)) (w_ref19_off : (Int × A0_) × Int → Option (Int × A0_)) (w_ref19_says : (Int × A0_) × Int × Int → Option (M_)) (w_ref19_full : (Int × A0_) × Int × Int → Option (M_)) (N : Nat) : OrcT := orcOf [conw_ref1_Prune w_ref1_Prune, conw_ref19_Fresh w_ref19_Fresh, conw_ref19_off w_ref19_off, conw_ref19_says w_ref19_says, conw_ref19_full w_ref19_full]
noncomputable def F_ref19_Tick (w_ref1_Prune : A3_ → Option (List (Int × Int × Int))) (w_ref19_Fresh : Int × A0_ → Option (Bool)) (w_ref19_off : (Int × A0_) × Int → Option (Int × A0_)) (w_ref19_says : (Int × A0_) × Int × Int → Option (M_)) (w_ref19_full : (Int × A0_) × Int × Int → Option (M_)) (N : Nat) (x : Int × A0_) : Option (List (M_) × Int × A0_) :=
  (evT (G_ref19_Tick w_ref1_Prune w_ref19_Fresh w_ref19_off w_ref19_says w_ref19_full N) L0 P0 [(23, .loop [] ⟨[(1, .ptr 600001 0), (2, .ptr 600002 0), (5, .acc 700005), (6, .val (.int .i64))], [(600001, .box 27 (.val T0_)), (600002, .box 27 (.val T0_)), (700005, .nrow 33 (.agg T_) true true)]⟩ [(.exit 0, ⟨[(1, .ptr 600001 0), (2, .ptr 600002 0), (5, .val (.list (.agg T_)))], [(600001, .box 27 (.val T0_)), (600002, .box 27 (.val T0_))]⟩)])]
    [(1000015, .reg [(8, [], ⟨[(1, .ptr 600001 0), (2, .ptr 600002 0), (75, .val .bool)], [(600001, .box 27 (.val T0_)), (600002, .box 27 (.val T0_))]⟩)]),
    (17, .cut [] [(.normal, ⟨[(1, .ptr 600001 0), (2, .ptr 600002 0)], [(600001, .box 27 (.val T0_)), (600002, .box 27 (.val T0_))]⟩)]),
    (13, .cut [] [(.normal, ⟨[(1, .ptr 600001 0), (2, .ptr 600002 0)], [(600001, .box 27 (.val T0_)), (600002, .box 27 (.val T0_))]⟩)]),
    (10, .cut [] [(.normal, ⟨[(1, .ptr 600001 0), (2, .ptr 600002 0)], [(600001, .box 27 (.val T0_)), (600002, .box 27 (.val T0_))]⟩)]),
    (22, .cut [] [(.normal, ⟨[(1, .ptr 600001 0), (2, .ptr 600002 0), (5, .acc 700005)], [(600001, .box 27 (.val T0_)), (600002, .box 27 (.val T0_)), (700005, .nrow 33 (.agg T_) true true)]⟩)]),
    (18, .cut [] [(.normal, ⟨[(1, .ptr 600001 0), (2, .ptr 600002 0), (5, .acc 700005)], [(600001, .box 27 (.val T0_)), (600002, .box 27 (.val T0_)), (700005, .nrow 33 (.agg T_) true true)]⟩)])] N 400 (bodyOf Try.f28) ⟨131, slots 0 (argsOf as_ref19_Tick bs_ref19_Tick x), tabU (lbOf as_ref19_Tick bs_ref19_Tick x) [], []⟩).elim (kRet 131 pout_ref19_Tick (kpL []) (lbOf as_ref19_Tick bs_ref19_Tick x))
def out_ref19_Tick (y : List (M_) × Int × A0_) : V × List OK × List OK := (.tup [valW (.agg T0_) y.2, valW (.list (.agg T_)) y.1], [], [])
noncomputable def V_ref19_Tick (w_ref1_Prune : A3_ → Option (List (Int × Int × Int))) (w_ref19_Fresh : Int × A0_ → Option (Bool)) (w_ref19_off : (Int × A0_) × Int → Option (Int × A0_)) (w_ref19_says : (Int × A0_) × Int × Int → Option (M_)) (w_ref19_full : (Int × A0_) × Int × Int → Option (M_)) (N : Nat) (x : Int × A0_) : Option (List (M_) × Int × A0_) :=
  obind (w_ref1_Prune (x.2.2.2.2.2.2.2.2.2.2.2.2, wr .i64 (x.2.2.1 + (1:Int)))) fun b => obind (cnd (decide (x.1 = (1:Int))) (cnd (decide (Int.tmod
    (wr .i64 (x.2.2.1 + (1:Int))) (2:Int) = (0:Int))) (some ((x.1, x.2.1, wr .i64 (x.2.2.1 + (1:Int)), x.2.2.2.1, x.2.2.2.2.1, x.2.2.2.2.2.1,
    x.2.2.2.2.2.2.1, wr .i64 (x.2.2.2.2.2.2.2.1 + (1:Int)), wr .i64 (x.2.2.1 + (1:Int)), x.2.2.2.2.2.2.2.2.2.1, x.2.2.2.2.2.2.2.2.2.2.1,
    x.2.2.2.2.2.2.2.2.2.2.2.1, b), ((0:Int), (0:Int), (0:Int), (0:Int), (0:Int), (0:Int), [], (0:Int), (0:Int), (0:Int), (0:Int), (0:Int), []), []))
    (some ((x.1, x.2.1, wr .i64 (x.2.2.1 + (1:Int)), x.2.2.2.1, x.2.2.2.2.1, x.2.2.2.2.2.1, x.2.2.2.2.2.2.1, x.2.2.2.2.2.2.2.1, x.2.2.2.2.2.2.2.2.1,
    x.2.2.2.2.2.2.2.2.2.1, x.2.2.2.2.2.2.2.2.2.2.1, x.2.2.2.2.2.2.2.2.2.2.2.1, b), ((0:Int), (0:Int), (0:Int), (0:Int), (0:Int), (0:Int), [], (0:Int),
    (0:Int), (0:Int), (0:Int), (0:Int), []), []))) (obind (cnd (decide (x.2.2.2.1 ≠ (0:Int))) (obind (w_ref19_Fresh (x.1, x.2.1, wr .i64 (x.2.2.1 +
    (1:Int)), x.2.2.2.1, x.2.2.2.2.1, x.2.2.2.2.2.1, x.2.2.2.2.2.2.1, x.2.2.2.2.2.2.2.1, x.2.2.2.2.2.2.2.2.1, x.2.2.2.2.2.2.2.2.2.1,
    x.2.2.2.2.2.2.2.2.2.2.1, x.2.2.2.2.2.2.2.2.2.2.2.1, b)) fun b_1 => cnd (!b_1) (obind (w_ref19_off ((x.1, x.2.1, wr .i64 (x.2.2.1 + (1:Int)),
    x.2.2.2.1, x.2.2.2.2.1, x.2.2.2.2.2.1, x.2.2.2.2.2.2.1, x.2.2.2.2.2.2.2.1, x.2.2.2.2.2.2.2.2.1, x.2.2.2.2.2.2.2.2.2.1, x.2.2.2.2.2.2.2.2.2.2.1,
    x.2.2.2.2.2.2.2.2.2.2.2.1, b), (0:Int))) fun b => some (b, (0:Int), (0:Int), (0:Int), (0:Int), (0:Int), (0:Int), [], (0:Int), (0:Int), (0:Int),
    (0:Int), (0:Int), [])) (some ((x.1, x.2.1, wr .i64 (x.2.2.1 + (1:Int)), x.2.2.2.1, x.2.2.2.2.1, x.2.2.2.2.2.1, x.2.2.2.2.2.2.1, x.2.2.2.2.2.2.2.1,
    x.2.2.2.2.2.2.2.2.1, x.2.2.2.2.2.2.2.2.2.1, x.2.2.2.2.2.2.2.2.2.2.1, x.2.2.2.2.2.2.2.2.2.2.2.1, b), (0:Int), (0:Int), (0:Int), (0:Int), (0:Int),
    (0:Int), [], (0:Int), (0:Int), (0:Int), (0:Int), (0:Int), []))) (some ((x.1, x.2.1, wr .i64 (x.2.2.1 + (1:Int)), x.2.2.2.1, x.2.2.2.2.1,
    x.2.2.2.2.2.1, x.2.2.2.2.2.2.1, x.2.2.2.2.2.2.2.1, x.2.2.2.2.2.2.2.2.1, x.2.2.2.2.2.2.2.2.2.1, x.2.2.2.2.2.2.2.2.2.2.1, x.2.2.2.2.2.2.2.2.2.2.2.1,
    b), (0:Int), (0:Int), (0:Int), (0:Int), (0:Int), (0:Int), [], (0:Int), (0:Int), (0:Int), (0:Int), (0:Int), []))) fun (b : (Int × A0_) × Int × A0_) => cnd (decide (b.1.2.2.2.1 = (0:Int))) (obind (cnd (decide (b.1.2.2.2.2.2.2.2.2.2.1 ≠ (0:Int))) (cnd (decide
    (b.1.2.2.2.2.2.2.2.2.2.2.1 ≤ b.1.2.2.1)) (some ((b.1.1, b.1.2.1, b.1.2.2.1, b.1.2.2.2.1, b.1.2.2.2.2.1, b.1.2.2.2.2.2.1, b.1.2.2.2.2.2.2.1,
    b.1.2.2.2.2.2.2.2.1, b.1.2.2.2.2.2.2.2.2.1, (0:Int), b.1.2.2.2.2.2.2.2.2.2.2.1, wr .i64 (b.1.2.2.2.2.2.2.2.2.2.2.2.1 + (1:Int)),
    b.1.2.2.2.2.2.2.2.2.2.2.2.2), b.2)) (some b)) (some b)) fun (b : (Int × A0_) × Int × A0_) => cnd (decide
    (b.1.2.2.2.2.2.2.2.2.2.1 = (0:Int))) (obind (obind (cnd (decide (b.1.2.2.2.2.2.2.2.2.2.2.2.1 = (0:Int))) (some (decide (b.1.2.2.2.2.2.1 ≠ (0:Int)),
    (b.1.1, b.1.2.1, b.1.2.2.1, b.1.2.2.2.1, b.1.2.2.2.2.1, b.1.2.2.2.2.2.1, b.1.2.2.2.2.2.2.1, b.1.2.2.2.2.2.2.2.1, b.1.2.2.2.2.2.2.2.2.1, (1:Int), wr
    .i64 (b.1.2.2.1 + (3:Int)), b.1.2.2.2.2.2.2.2.2.2.2.2), b.2)) (some (false, (b.1.1, b.1.2.1, b.1.2.2.1, b.1.2.2.2.1, b.1.2.2.2.2.1, b.1.2.2.2.2.2.1,
    b.1.2.2.2.2.2.2.1, b.1.2.2.2.2.2.2.2.1, b.1.2.2.2.2.2.2.2.2.1, (1:Int), wr .i64 (b.1.2.2.1 + (3:Int)), b.1.2.2.2.2.2.2.2.2.2.2.2), b.2))) fun (b :
    Bool × (Int × A0_) × Int × A0_) => cnd b.1 (cnd (decide (b.2.1.2.2.2.2.2.1 ≠ b.2.1.1)) (some ((b.2.1.1, b.2.1.2.1,
    b.2.1.2.2.1, b.2.1.2.2.2.1, b.2.1.2.2.2.2.1, b.2.1.2.2.2.2.2.1, b.2.1.2.2.2.2.2.2.1, b.2.1.2.2.2.2.2.2.2.1, b.2.1.2.2.2.2.2.2.2.2.1,
    b.2.1.2.2.2.2.2.1, b.2.1.2.2.2.2.2.2.2.2.2.2), b.2.2)) (some b.2)) (some b.2)) fun (b : (Int × A0_) × Int × A0_) =>
    obind (w_ref19_says (b.1, (1:Int), b.1.2.2.2.2.2.2.2.2.2.1)) fun b_1 => some (b.1, b.2, [b_1])) (some (b.1, b.2, []))) (some (b.1, b.2, [])))) fun
    (b : (Int × A0_) × (Int × A0_) × List A1_) =>
    cnd (!decide (Int.tmod (wr .i64 (x.2.2.1 + (1:Int))) (2:Int) = (0:Int))) (some (b.2.2, b.1)) (obind (cnd (decide (b.1.2.2.2.1 ≠ (0:Int))) (obind
    (w_ref19_says (b.1, (4:Int), b.1.2.2.2.1)) fun b_1 => cnd (decide ((List.length b.2.2 + List.length [b_1]) * (104:Nat) ≤ (140737488355328:Nat)))
    (some (b.1, b.2.1, b.2.2 ++ [b_1])) none) (some b)) fun (b : (Int × A0_) × (Int × A0_) × List A1_) => obind (loopN N (fun (v : Int × (Int × A0_) × (Int × A0_) × List A1_) => cnd (decide (v.1 < (↑(List.length v.2.1.2.2.2.2.2.2.2.2.2.2.2.2) :
    Int))) (obind (w_ref19_Fresh v.2.1) fun b => cnd b (cnd (decide ((0:Int) ≤ v.1) && decide (v.1 < (↑(List.length v.2.1.2.2.2.2.2.2.2.2.2.2.2.2) :
    Int))) (obind (w_ref19_full (v.2.1, (5:Int), Prod.fst (List.getD v.2.1.2.2.2.2.2.2.2.2.2.2.2.2 (Int.toNat v.1) ((0:Int), (0:Int), (0:Int))))) fun
    b => cnd (decide ((List.length v.2.2.2 + List.length [b]) * (104:Nat) ≤ (140737488355328:Nat))) (some (Sum.inl (wr .i64 (v.1 + (1:Int)), v.2.1,
    v.2.2.1, v.2.2.2 ++ [b]))) none) none) (some (Sum.inr (v.2.2.2, v.2.1, v.2.2.1)))) (some (Sum.inr (v.2.2.2, v.2.1, v.2.2.1)))) ((0:Int), b)) fun (b
    : List A1_ × (Int × A0_) × Int × A0_) => some
    (b.1, b.2.1))
theorem FV_ref19_Tick_eq (w_ref1_Prune : A3_ → Option (List (Int × Int × Int))) (w_ref19_Fresh : Int × A0_ → Option (Bool)) (w_ref19_off : (Int × A0_) × Int → Option (Int × A0_)) (w_ref19_says : (Int × A0_) × Int × Int → Option (M_)) (w_ref19_full : (Int × A0_) × Int × Int → Option (M_)) (N : Nat) (x : Int × A0_) : F_ref19_Tick w_ref1_Prune w_ref19_Fresh w_ref19_off w_ref19_says w_ref19_full N x = V_ref19_Tick w_ref1_Prune w_ref19_Fresh w_ref19_off w_ref19_says w_ref19_full N x := by kernel_rfl
noncomputable def W_ref19_Tick (N : Nat) (x : Int × A0_) : Option (List (M_) × Int × A0_) := V_ref19_Tick (W_ref1_Prune N) (W_ref19_Fresh N) (W_ref19_off N) (W_ref19_says N) (W_ref19_full N) N x
theorem F_ref19_Tick_eq (N : Nat) (x : Int × A0_) : F_ref19_Tick (W_ref1_Prune N) (W_ref19_Fresh N) (W_ref19_off N) (W_ref19_says N) (W_ref19_full N) N x = W_ref19_Tick N x := (FV_ref19_Tick_eq (W_ref1_Prune N) (W_ref19_Fresh N) (W_ref19_off N) (W_ref19_says N) (W_ref19_full N) N x).trans (by kernel_rfl)
noncomputable def conw_ref19_Tick (w : Int × A0_ → Option (List (M_) × Int × A0_)) : Con := ⟨28, as_ref19_Tick, bs_ref19_Tick, List (M_) × Int × Int × Int × Int × Int × Int × List Int × Int × Int × Int × Int × Int × List (Int × Int × Int), w, out_ref19_Tick⟩
noncomputable def con_ref19_Tick (N : Nat) : Con := conw_ref19_Tick (W_ref19_Tick N)
theorem R_ref19_Tick_eq (x : Int × A0_) (y : List (M_) × Int × A0_) : retOf2 P0 Try.f28 (kpL []) (lbOf as_ref19_Tick bs_ref19_Tick x) (patS ⟨131, [], [], []⟩ pout_ref19_Tick y) = some (out_ref19_Tick y) := by kernel_rfl
theorem con_ref19_Tick_ok (N : Nat) : Con.ok P0 (con_ref19_Tick N) := ⟨⟨Try.f28, Try.func28, by kernel_rfl, by kernel_rfl⟩, fun (x : Int × A0_) (r : List (M_) × Int × A0_) (hr : W_ref19_Tick N x = some r) =>
  spec2_evT (Γ := G_ref19_Tick (W_ref1_Prune N) (W_ref19_Fresh N) (W_ref19_off N) (W_ref19_says N) (W_ref19_full N) N) (Λ := L0) (pout := pout_ref19_Tick) (kp := kpL []) mixed (orcOf_ok _ (by simp only [List.mem_cons, List.not_mem_nil, or_false, forall_eq_or_imp, forall_eq]; exact ⟨con_ref1_Prune_ok N, con_ref19_Fresh_ok N, con_ref19_off_ok N, con_ref19_says_ok N, con_ref19_full_ok N⟩)) Try.func28 (c := bodyOf Try.f28) (by kernel_rfl) (by kernel_rfl) (of_decide_eq_true (by kernel_rfl)) ((F_ref19_Tick_eq N x).trans hr) (R_ref19_Tick_eq x r)⟩
def as_ref1_Has : List AS := [.val (.list (.int .i64)), .val (.int .i64)]
def bs_ref1_Has : List BS := []
def pout_ref1_Has : Pat := ⟨[(4, .val .bool)], []⟩
noncomputable def G_ref1_Has  (N : Nat) : OrcT := orcOf []
noncomputable def F_ref1_Has  (N : Nat) (x : List Int × Int) : Option (Bool) :=
  (evT (G_ref1_Has  N) L0 P0 [(2, .loop [] ⟨[(5, .val (.int .i64))], []⟩ [(.exit 0, ⟨[], []⟩), (.ret, ⟨[(4, .val .bool)], []⟩)])]
    [] N 400 (bodyOf Try.f25) ⟨18, slots 0 (argsOf as_ref1_Has bs_ref1_Has x), tabU (lbOf as_ref1_Has bs_ref1_Has x) [], []⟩).elim (kRet 18 pout_ref1_Has (kpL []) (lbOf as_ref1_Has bs_ref1_Has x))
def out_ref1_Has (y : Bool) : V × List OK × List OK := (valW .bool y, [], [])
noncomputable def V_ref1_Has  (N : Nat) (x : List Int × Int) : Option (Bool) :=
  obind (loopN N (fun (v : Int) => cnd (decide (v < (↑(List.length x.1) : Int))) (cnd (decide ((0:Int) ≤ v) && decide (v < (↑(List.length x.1) : Int)))
    (cnd (decide (List.getD x.1 (Int.toNat v) (0:Int) = x.2)) (some (Sum.inr (Sum.inr true))) (some (Sum.inl (wr .i64 (v + (1:Int)))))) none) (some
    (Sum.inr (Sum.inl ())))) (Int.ofNat (0:Nat))) fun (b : PUnit ⊕ Bool) => selim (fun (b : PUnit) => some false) (fun (c : Bool) => some c) b
theorem FV_ref1_Has_eq  (N : Nat) (x : List Int × Int) : F_ref1_Has  N x = V_ref1_Has  N x := by kernel_rfl
noncomputable def W_ref1_Has (N : Nat) (x : List Int × Int) : Option (Bool) := V_ref1_Has  N x
theorem F_ref1_Has_eq (N : Nat) (x : List Int × Int) : F_ref1_Has  N x = W_ref1_Has N x := (FV_ref1_Has_eq  N x).trans (by kernel_rfl)
noncomputable def conw_ref1_Has (w : List Int × Int → Option (Bool)) : Con := ⟨25, as_ref1_Has, bs_ref1_Has, Bool, w, out_ref1_Has⟩
noncomputable def con_ref1_Has (N : Nat) : Con := conw_ref1_Has (W_ref1_Has N)
theorem R_ref1_Has_eq (x : List Int × Int) (y : Bool) : retOf2 P0 Try.f25 (kpL []) (lbOf as_ref1_Has bs_ref1_Has x) (patS ⟨18, [], [], []⟩ pout_ref1_Has y) = some (out_ref1_Has y) := by kernel_rfl
theorem con_ref1_Has_ok (N : Nat) : Con.ok P0 (con_ref1_Has N) := ⟨⟨Try.f25, Try.func25, by kernel_rfl, by kernel_rfl⟩, fun (x : List Int × Int) (r : Bool) (hr : W_ref1_Has N x = some r) =>
  spec2_evT (Γ := G_ref1_Has N) (Λ := L0) (pout := pout_ref1_Has) (kp := kpL []) mixed (orcOf_ok [] (by simp)) Try.func25 (c := bodyOf Try.f25) (by kernel_rfl) (by kernel_rfl) (of_decide_eq_true (by kernel_rfl)) ((F_ref1_Has_eq N x).trans hr) (R_ref1_Has_eq x r)⟩
def as_ref1_MayPath : List AS := [.val (.list (.int .i64))]
def bs_ref1_MayPath : List BS := []
def pout_ref1_MayPath : Pat := ⟨[(2, .val .bool)], []⟩
noncomputable def G_ref1_MayPath (w_ref1_Has : List Int × Int → Option (Bool)) (N : Nat) : OrcT := orcOf [conw_ref1_Has w_ref1_Has]
noncomputable def F_ref1_MayPath (w_ref1_Has : List Int × Int → Option (Bool)) (N : Nat) (x : List Int) : Option (Bool) :=
  (evT (G_ref1_MayPath w_ref1_Has N) L0 P0 [(4, .loop [] ⟨[(3, .val (.int .i64))], []⟩ [(.exit 0, ⟨[], []⟩), (.ret, ⟨[(2, .val .bool)], []⟩)])]
    [(1000001, .reg [(8, [], ⟨[(11, .val .bool)], []⟩)])] N 400 (bodyOf Try.f22) ⟨46, slots 0 (argsOf as_ref1_MayPath bs_ref1_MayPath x), tabU (lbOf as_ref1_MayPath bs_ref1_MayPath x) [], []⟩).elim (kRet 46 pout_ref1_MayPath (kpL []) (lbOf as_ref1_MayPath bs_ref1_MayPath x))
def out_ref1_MayPath (y : Bool) : V × List OK × List OK := (valW .bool y, [], [])
noncomputable def V_ref1_MayPath (w_ref1_Has : List Int × Int → Option (Bool)) (N : Nat) (x : List Int) : Option (Bool) :=
  obind (cnd (decide ((↑(List.length x) : Int) < (1:Int))) (some true) (some (decide ((10:Int) < (↑(List.length x) : Int))))) fun (b : Bool) => cnd b
    (some false) (cnd (decide ((0:Int) ≤ (0:Int)) && decide ((0:Int) < (↑(List.length x) : Int))) (cnd (decide (List.getD x (0:Nat) (0:Int) ≠ (1:Int)))
    (some false) (obind (loopN N (fun (v : Int) => cnd (decide (v < (↑(List.length x) : Int))) (cnd (decide ((0:Int) ≤ v) && decide (v < (↑(List.length
    x) : Int))) (cnd (decide (List.getD x (Int.toNat v) (0:Int) < (1:Int))) (some (Sum.inr (Sum.inr false))) (cnd (decide ((0:Int) ≤ v) && decide (v <
    (↑(List.length x) : Int))) (cnd (decide ((8:Int) < List.getD x (Int.toNat v) (0:Int))) (some (Sum.inr (Sum.inr false))) (cnd (decide ((0:Int) ≤ v)
    && decide (v ≤ (↑(List.length x) : Int))) (cnd (decide ((0:Int) ≤ v) && decide (v < (↑(List.length x) : Int))) (obind (w_ref1_Has (List.drop
    (0:Nat) (List.take (Int.toNat v) x), List.getD x (Int.toNat v) (0:Int))) fun b => cnd b (some (Sum.inr (Sum.inr false))) (some (Sum.inl (wr .i64 (v
    + (1:Int)))))) none) none)) none)) none) (some (Sum.inr (Sum.inl ())))) (Int.ofNat (0:Nat))) fun (b : PUnit ⊕ Bool) => selim (fun (b : PUnit) =>
    some true) (fun (c : Bool) => some c) b)) none)
theorem FV_ref1_MayPath_eq (w_ref1_Has : List Int × Int → Option (Bool)) (N : Nat) (x : List Int) : F_ref1_MayPath w_ref1_Has N x = V_ref1_MayPath w_ref1_Has N x := by kernel_rfl
noncomputable def W_ref1_MayPath (N : Nat) (x : List Int) : Option (Bool) := V_ref1_MayPath (W_ref1_Has N) N x
theorem F_ref1_MayPath_eq (N : Nat) (x : List Int) : F_ref1_MayPath (W_ref1_Has N) N x = W_ref1_MayPath N x := (FV_ref1_MayPath_eq (W_ref1_Has N) N x).trans (by kernel_rfl)
noncomputable def conw_ref1_MayPath (w : List Int → Option (Bool)) : Con := ⟨22, as_ref1_MayPath, bs_ref1_MayPath, Bool, w, out_ref1_MayPath⟩
noncomputable def con_ref1_MayPath (N : Nat) : Con := conw_ref1_MayPath (W_ref1_MayPath N)
theorem R_ref1_MayPath_eq (x : List Int) (y : Bool) : retOf2 P0 Try.f22 (kpL []) (lbOf as_ref1_MayPath bs_ref1_MayPath x) (patS ⟨46, [], [], []⟩ pout_ref1_MayPath y) = some (out_ref1_MayPath y) := by kernel_rfl
theorem con_ref1_MayPath_ok (N : Nat) : Con.ok P0 (con_ref1_MayPath N) := ⟨⟨Try.f22, Try.func22, by kernel_rfl, by kernel_rfl⟩, fun (x : List Int) (r : Bool) (hr : W_ref1_MayPath N x = some r) =>
  spec2_evT (Γ := G_ref1_MayPath (W_ref1_Has N) N) (Λ := L0) (pout := pout_ref1_MayPath) (kp := kpL []) mixed (orcOf_ok _ (by simp only [List.mem_cons, List.not_mem_nil, or_false, forall_eq_or_imp, forall_eq]; exact con_ref1_Has_ok N)) Try.func22 (c := bodyOf Try.f22) (by kernel_rfl) (by kernel_rfl) (of_decide_eq_true (by kernel_rfl)) ((F_ref1_MayPath_eq N x).trans hr) (R_ref1_MayPath_eq x r)⟩
def as_ref1_AddPath : List AS := [.val (.list (.int .i64)), .val (.int .i64)]
def bs_ref1_AddPath : List BS := []
def pout_ref1_AddPath : Pat := ⟨[(4, .val (.list (.int .i64))), (5, .val .bool)], []⟩
noncomputable def G_ref1_AddPath (w_ref1_MayPath : List Int → Option (Bool)) (N : Nat) : OrcT := orcOf [conw_ref1_MayPath w_ref1_MayPath]
noncomputable def F_ref1_AddPath (w_ref1_MayPath : List Int → Option (Bool)) (N : Nat) (x : List Int × Int) : Option (List Int × Bool) :=
  (evT (G_ref1_AddPath w_ref1_MayPath N) L0 P0 []
    [] N 400 (bodyOf Try.f16) ⟨17, slots 0 (argsOf as_ref1_AddPath bs_ref1_AddPath x), tabU (lbOf as_ref1_AddPath bs_ref1_AddPath x) [], []⟩).elim (kRet 17 pout_ref1_AddPath (kpL []) (lbOf as_ref1_AddPath bs_ref1_AddPath x))
def out_ref1_AddPath (y : List Int × Bool) : V × List OK × List OK := (.tup [valW (.list (.int .i64)) y.1, valW .bool y.2], [], [])
noncomputable def V_ref1_AddPath (w_ref1_MayPath : List Int → Option (Bool)) (N : Nat) (x : List Int × Int) : Option (List Int × Bool) :=
  cnd (decide (List.length x.1 * (8:Nat) ≤ (140737488355328:Nat))) (cnd (decide ((List.length x.1 + List.length [x.2]) * (8:Nat) ≤ (140737488355328:Nat))) (obind (w_ref1_MayPath (x.1 ++ [x.2])) fun b => cnd (!b) (some ([], false)) (some (x.1 ++ [x.2], true))) none) none
theorem FV_ref1_AddPath_eq (w_ref1_MayPath : List Int → Option (Bool)) (N : Nat) (x : List Int × Int) : F_ref1_AddPath w_ref1_MayPath N x = V_ref1_AddPath w_ref1_MayPath N x := by kernel_rfl
noncomputable def W_ref1_AddPath (N : Nat) (x : List Int × Int) : Option (List Int × Bool) := V_ref1_AddPath (W_ref1_MayPath N) N x
theorem F_ref1_AddPath_eq (N : Nat) (x : List Int × Int) : F_ref1_AddPath (W_ref1_MayPath N) N x = W_ref1_AddPath N x := (FV_ref1_AddPath_eq (W_ref1_MayPath N) N x).trans (by kernel_rfl)
noncomputable def conw_ref1_AddPath (w : List Int × Int → Option (List Int × Bool)) : Con := ⟨16, as_ref1_AddPath, bs_ref1_AddPath, List Int × Bool, w, out_ref1_AddPath⟩
noncomputable def con_ref1_AddPath (N : Nat) : Con := conw_ref1_AddPath (W_ref1_AddPath N)
theorem R_ref1_AddPath_eq (x : List Int × Int) (y : List Int × Bool) : retOf2 P0 Try.f16 (kpL []) (lbOf as_ref1_AddPath bs_ref1_AddPath x) (patS ⟨17, [], [], []⟩ pout_ref1_AddPath y) = some (out_ref1_AddPath y) := by kernel_rfl
theorem con_ref1_AddPath_ok (N : Nat) : Con.ok P0 (con_ref1_AddPath N) := ⟨⟨Try.f16, Try.func16, by kernel_rfl, by kernel_rfl⟩, fun (x : List Int × Int) (r : List Int × Bool) (hr : W_ref1_AddPath N x = some r) =>
  spec2_evT (Γ := G_ref1_AddPath (W_ref1_MayPath N) N) (Λ := L0) (pout := pout_ref1_AddPath) (kp := kpL []) mixed (orcOf_ok _ (by simp only [List.mem_cons, List.not_mem_nil, or_false, forall_eq_or_imp, forall_eq]; exact con_ref1_MayPath_ok N)) Try.func16 (c := bodyOf Try.f16) (by kernel_rfl) (by kernel_rfl) (of_decide_eq_true (by kernel_rfl)) ((F_ref1_AddPath_eq N x).trans hr) (R_ref1_AddPath_eq x r)⟩
def as_Picks_Path : List AS := [.ptr 0 0]
def bs_Picks_Path : List BS := [.box 69 T2_]
def pout_Picks_Path : Pat := ⟨[(0, .ptr 1000000 0), (2, .val (.list (.int .i64)))], [(1000000, .box 69 (.val T2_))]⟩
noncomputable def G_Picks_Path (w_Picks_Num : Int × List Int × Int → Option (Int × List Int × Int)) (w_ref1_AddPath : List Int × Int → Option (List Int × Bool)) (N : Nat) : OrcT := orcOf [conw_Picks_Num w_Picks_Num, conw_ref1_AddPath w_ref1_AddPath]
noncomputable def F_Picks_Path (w_Picks_Num : Int × List Int × Int → Option (Int × List Int × Int)) (w_ref1_AddPath : List Int × Int → Option (List Int × Bool)) (N : Nat) (x : List Int × Int) : Option (List Int × List Int × Int) :=
  (evT (G_Picks_Path w_Picks_Num w_ref1_AddPath N) L0 P0 [(3, .loop [] ⟨[(0, .ptr 1000000 0), (3, .val (.list (.int .i64))), (4, .val (.int .i64))], [(1000000, .box 69 (.val T2_))]⟩ [(.exit 0, ⟨[(0, .ptr 1000000 0), (3, .val (.list (.int .i64)))], [(1000000, .box 69 (.val T2_))]⟩)])]
    [] N 400 (bodyOf Try.f15) ⟨25, slots 0 (argsOf as_Picks_Path bs_Picks_Path x), tabU (lbOf as_Picks_Path bs_Picks_Path x) [], []⟩).elim (kRet 25 pout_Picks_Path (kpL [true]) (lbOf as_Picks_Path bs_Picks_Path x))
def out_Picks_Path (y : List Int × List Int × Int) : V × List OK × List OK := (valW (.list (.int .i64)) y.1, [.box 69 (cellsW T2_ y.2)], [])
noncomputable def V_Picks_Path (w_Picks_Num : Int × List Int × Int → Option (Int × List Int × Int)) (w_ref1_AddPath : List Int × Int → Option (List Int × Bool)) (N : Nat) (x : List Int × Int) : Option (List Int × List Int × Int) :=
  obind (w_Picks_Num ((4:Int), x)) fun b => obind (loopN N (fun (v : List Int × Int × List Int × Int) => cnd (decide ((0:Int) < v.2.1)) (obind
    (w_Picks_Num ((7:Int), v.2.2)) fun b => obind (w_ref1_AddPath (v.1, wr .i64 ((2:Int) + b.1))) fun b_1 => cnd b_1.2 (some (Sum.inl (b_1.1, wr
    .i64 (v.2.1 - (1:Int)), b.2))) (some (Sum.inl (v.1, wr .i64 (v.2.1 - (1:Int)), b.2)))) (some (Sum.inr (v.1, v.2.2)))) ([(1:Int)], b)) fun (b : List Int × List Int × Int) => some b
theorem FV_Picks_Path_eq (w_Picks_Num : Int × List Int × Int → Option (Int × List Int × Int)) (w_ref1_AddPath : List Int × Int → Option (List Int × Bool)) (N : Nat) (x : List Int × Int) : F_Picks_Path w_Picks_Num w_ref1_AddPath N x = V_Picks_Path w_Picks_Num w_ref1_AddPath N x := by kernel_rfl
noncomputable def W_Picks_Path (N : Nat) (x : List Int × Int) : Option (List Int × List Int × Int) := V_Picks_Path (W_Picks_Num N) (W_ref1_AddPath N) N x
theorem F_Picks_Path_eq (N : Nat) (x : List Int × Int) : F_Picks_Path (W_Picks_Num N) (W_ref1_AddPath N) N x = W_Picks_Path N x := (FV_Picks_Path_eq (W_Picks_Num N) (W_ref1_AddPath N) N x).trans (by kernel_rfl)
noncomputable def conw_Picks_Path (w : List Int × Int → Option (List Int × List Int × Int)) : Con := ⟨15, as_Picks_Path, bs_Picks_Path, List Int × List Int × Int, w, out_Picks_Path⟩
noncomputable def con_Picks_Path (N : Nat) : Con := conw_Picks_Path (W_Picks_Path N)
theorem R_Picks_Path_eq (x : List Int × Int) (y : List Int × List Int × Int) : retOf2 P0 Try.f15 (kpL [true]) (lbOf as_Picks_Path bs_Picks_Path x) (patS ⟨25, [], [], []⟩ pout_Picks_Path y) = some (out_Picks_Path y) := by kernel_rfl
theorem con_Picks_Path_ok (N : Nat) : Con.ok P0 (con_Picks_Path N) := ⟨⟨Try.f15, Try.func15, by kernel_rfl, by kernel_rfl⟩, fun (x : List Int × Int) (r : List Int × List Int × Int) (hr : W_Picks_Path N x = some r) =>
  spec2_evT (Γ := G_Picks_Path (W_Picks_Num N) (W_ref1_AddPath N) N) (Λ := L0) (pout := pout_Picks_Path) (kp := kpL [true]) mixed (orcOf_ok _ (by simp only [List.mem_cons, List.not_mem_nil, or_false, forall_eq_or_imp, forall_eq]; exact ⟨con_Picks_Num_ok N, con_ref1_AddPath_ok N⟩)) Try.func15 (c := bodyOf Try.f15) (by kernel_rfl) (by kernel_rfl) (of_decide_eq_true (by kernel_rfl)) ((F_Picks_Path_eq N x).trans hr) (R_Picks_Path_eq x r)⟩
def as_Picks_Text : List AS := [.ptr 0 0]
def bs_Picks_Text : List BS := [.box 69 T2_]
def pout_Picks_Text : Pat := ⟨[(0, .ptr 1000000 0), (2, .val .str)], [(1000000, .box 69 (.val T2_))]⟩
noncomputable def G_Picks_Text (w_Picks_Num : Int × List Int × Int → Option (Int × List Int × Int)) (N : Nat) : OrcT := orcOf [conw_Picks_Num w_Picks_Num]
noncomputable def F_Picks_Text (w_Picks_Num : Int × List Int × Int → Option (Int × List Int × Int)) (N : Nat) (x : List Int × Int) : Option (List UInt8 × List Int × Int) :=
  (evT (G_Picks_Text w_Picks_Num N) L0 P0 []
    [] N 400 (bodyOf Try.f47) ⟨8, slots 0 (argsOf as_Picks_Text bs_Picks_Text x), tabU (lbOf as_Picks_Text bs_Picks_Text x) [], []⟩).elim (kRet 8 pout_Picks_Text (kpL [true]) (lbOf as_Picks_Text bs_Picks_Text x))
def out_Picks_Text (y : List UInt8 × List Int × Int) : V × List OK × List OK := (valW .str y.1, [.box 69 (cellsW T2_ y.2)], [])
noncomputable def V_Picks_Text (w_Picks_Num : Int × List Int × Int → Option (Int × List Int × Int)) (N : Nat) (x : List Int × Int) : Option (List UInt8 × List Int × Int) :=
  obind (w_Picks_Num ((5:Int), x)) fun b => cnd (decide ((0:Int) ≤ b.1)) (cnd (decide (b.1 < (↑(5:Nat) : Int))) (some (List.getD [[], [(97 : UInt8)],
    [(98 : UInt8), (99 : UInt8)], [(104 : UInt8), (101 : UInt8), (108 : UInt8), (108 : UInt8), (111 : UInt8)], [(116 : UInt8), (119 : UInt8), (101 :
    UInt8), (108 : UInt8), (118 : UInt8), (101 : UInt8), (32 : UInt8), (98 : UInt8), (121 : UInt8), (116 : UInt8), (101 : UInt8), (115 : UInt8)]]
    (Int.toNat b.1) [], b.2)) none) none
theorem FV_Picks_Text_eq (w_Picks_Num : Int × List Int × Int → Option (Int × List Int × Int)) (N : Nat) (x : List Int × Int) : F_Picks_Text w_Picks_Num N x = V_Picks_Text w_Picks_Num N x := by kernel_rfl
noncomputable def W_Picks_Text (N : Nat) (x : List Int × Int) : Option (List UInt8 × List Int × Int) := V_Picks_Text (W_Picks_Num N) N x
theorem F_Picks_Text_eq (N : Nat) (x : List Int × Int) : F_Picks_Text (W_Picks_Num N) N x = W_Picks_Text N x := (FV_Picks_Text_eq (W_Picks_Num N) N x).trans (by kernel_rfl)
noncomputable def conw_Picks_Text (w : List Int × Int → Option (List UInt8 × List Int × Int)) : Con := ⟨47, as_Picks_Text, bs_Picks_Text, List UInt8 × List Int × Int, w, out_Picks_Text⟩
noncomputable def con_Picks_Text (N : Nat) : Con := conw_Picks_Text (W_Picks_Text N)
theorem R_Picks_Text_eq (x : List Int × Int) (y : List UInt8 × List Int × Int) : retOf2 P0 Try.f47 (kpL [true]) (lbOf as_Picks_Text bs_Picks_Text x) (patS ⟨8, [], [], []⟩ pout_Picks_Text y) = some (out_Picks_Text y) := by kernel_rfl
theorem con_Picks_Text_ok (N : Nat) : Con.ok P0 (con_Picks_Text N) := ⟨⟨Try.f47, Try.func47, by kernel_rfl, by kernel_rfl⟩, fun (x : List Int × Int) (r : List UInt8 × List Int × Int) (hr : W_Picks_Text N x = some r) =>
  spec2_evT (Γ := G_Picks_Text (W_Picks_Num N) N) (Λ := L0) (pout := pout_Picks_Text) (kp := kpL [true]) mixed (orcOf_ok _ (by simp only [List.mem_cons, List.not_mem_nil, or_false, forall_eq_or_imp, forall_eq]; exact con_Picks_Num_ok N)) Try.func47 (c := bodyOf Try.f47) (by kernel_rfl) (by kernel_rfl) (of_decide_eq_true (by kernel_rfl)) ((F_Picks_Text_eq N x).trans hr) (R_Picks_Text_eq x r)⟩
def as_Picks_Msg : List AS := [.ptr 0 0, .val (.int .i64)]
def bs_Picks_Msg : List BS := [.box 69 T2_]
def pout_Picks_Msg : Pat := ⟨[(0, .ptr 1000000 0), (4, .ptr 600004 0)], [(1000000, .box 69 (.val T2_)), (600004, .box 33 (.val T_))]⟩
noncomputable def G_Picks_Msg (w_Picks_Num : Int × List Int × Int → Option (Int × List Int × Int)) (w_Picks_Path : List Int × Int → Option (List Int × List Int × Int)) (w_Picks_Text : List Int × Int → Option (List UInt8 × List Int × Int)) (N : Nat) : OrcT := orcOf [conw_Picks_Num w_Picks_Num, conw_Picks_Path w_Picks_Path, conw_Picks_Text w_Picks_Text]
noncomputable def F_Picks_Msg (w_Picks_Num : Int × List Int × Int → Option (Int × List Int × Int)) (w_Picks_Path : List Int × Int → Option (List Int × List Int × Int)) (w_Picks_Text : List Int × Int → Option (List UInt8 × List Int × Int)) (N : Nat) (x : Int × List Int × Int) : Option ((List Int × Int) × M_) :=
  (evT (G_Picks_Msg w_Picks_Num w_Picks_Path w_Picks_Text N) L0 P0 []
    [(14, .cut [] [(.normal, ⟨[(0, .ptr 1000000 0), (4, .ptr 600004 0), (6, .ptr 600006 0), (64, .val .bool)], [(1000000, .box 69 (.val T2_)), (600004, .box 33 (.val T_)), (600006, .box 33 (.val T_))]⟩)]),
    (4, .cut [] [(.normal, ⟨[(0, .ptr 1000000 0), (4, .ptr 600004 0), (5, .val (.int .i64))], [(1000000, .box 69 (.val T2_)), (600004, .box 33 (.val T_))]⟩)])] N 400 (bodyOf Try.f20) ⟨78, slots 0 (argsOf as_Picks_Msg bs_Picks_Msg x), tabU (lbOf as_Picks_Msg bs_Picks_Msg x) [], []⟩).elim (kRet 78 pout_Picks_Msg (kpL [true]) (lbOf as_Picks_Msg bs_Picks_Msg x))
def out_Picks_Msg (y : (List Int × Int) × M_) : V × List OK × List OK := (valW (.agg T_) y.2, [.box 69 (cellsW T2_ y.1)], [])
noncomputable def V_Picks_Msg (w_Picks_Num : Int × List Int × Int → Option (Int × List Int × Int)) (w_Picks_Path : List Int × Int → Option (List Int × List Int × Int)) (w_Picks_Text : List Int × Int → Option (List UInt8 × List Int × Int)) (N : Nat) (x : Int × List Int × Int) : Option ((List Int × Int) × M_) :=
  obind (w_Picks_Num ((8:Int), x.2)) fun b => obind (cnd (decide (wr .i64 ((1:Int) + b.1) = x.1)) (some (wr .i64 ((1:Int) + Int.tmod x.1 (8:Int)),
    b.2, (0:Int), (0:Int), (0:Int), (0:Int), (0:Int), (0:Int), [], (0:Int), (0:Int), [])) (some (wr .i64 ((1:Int) + b.1), b.2, (0:Int), (0:Int),
    (0:Int), (0:Int), (0:Int), (0:Int), [], (0:Int), (0:Int), []))) fun (b : Int × (List Int × Int) × A1_) => obind (w_Picks_Num ((9:Int), b.2.1)) fun b_1 => obind (w_Picks_Num ((3:Int), b_1.2)) fun b_2 => cnd (decide (wr .i64
    ((1:Int) + b_1.1) = (2:Int))) (obind (w_Picks_Num ((20:Int), b_2.2)) fun b_3 => obind (w_Picks_Num ((25:Int), b_3.2)) fun b_4 => obind
    (w_Picks_Path b_4.2) fun b_5 => obind (w_Picks_Num ((9:Int), b_5.2)) fun b_6 => some (b_6.2, wr .i64 ((1:Int) + b_1.1), b.1, x.1, wr .i64
    ((1:Int) + b_2.1), b_3.1, b_4.1, b_5.1, b_6.1, (0:Int), [])) (cnd (decide (wr .i64 ((1:Int) + b_1.1) = (5:Int))) (obind (w_Picks_Num ((20:Int),
    b_2.2)) fun b_3 => obind (w_Picks_Num ((25:Int), b_3.2)) fun b_4 => obind (w_Picks_Path b_4.2) fun b_5 => obind (w_Picks_Num ((12:Int),
    b_5.2)) fun b_6 => some (b_6.2, wr .i64 ((1:Int) + b_1.1), b.1, x.1, wr .i64 ((1:Int) + b_2.1), b_3.1, b_4.1, b_5.1, (0:Int), b_6.1, [])) (cnd
    (decide (wr .i64 ((1:Int) + b_1.1) = (7:Int))) (obind (w_Picks_Num ((12:Int), b_2.2)) fun b_3 => obind (w_Picks_Text b_3.2) fun b_4 => some
    (b_4.2, wr .i64 ((1:Int) + b_1.1), b.1, x.1, wr .i64 ((1:Int) + b_2.1), (0:Int), (0:Int), [], wr .i64 ((1:Int) + b_3.1), (0:Int), b_4.1)) (obind
    (cnd (decide (wr .i64 ((1:Int) + b_1.1) = (8:Int))) (some (decide (wr .i64 ((1:Int) + b_1.1) = (8:Int)), b_2.2, b.2.2, wr .i64 ((1:Int) + b_1.1),
    b.1, x.1, wr .i64 ((1:Int) + b_2.1), (0:Int), (0:Int), [], (0:Int), (0:Int), [])) (some (decide (wr .i64 ((1:Int) + b_1.1) = (9:Int)), b_2.2, b.2.2,
    wr .i64 ((1:Int) + b_1.1), b.1, x.1, wr .i64 ((1:Int) + b_2.1), (0:Int), (0:Int), [], (0:Int), (0:Int), []))) fun (b : Bool × (List Int × Int) × A1_ × A1_) =>
    cnd b.1 (obind (w_Picks_Num ((9:Int), b.2.1)) fun b_3 => obind (w_Picks_Num ((6:Int), b_3.2)) fun b_4 => some (b_4.2, b.2.2.2.1, b.2.2.2.2.1,
    b.2.2.2.2.2.1, b.2.2.2.2.2.2.1, b.2.2.2.2.2.2.2.1, b.2.2.2.2.2.2.2.2.1, b.2.2.2.2.2.2.2.2.2.1, wr .i64 ((1:Int) + b_3.1), wr .i64 (wr .i64 ((1:Int)
    + b_3.1) + b_4.1), b.2.2.2.2.2.2.2.2.2.2.2.2)) (some (b.2.1, b.2.2.2)))))
theorem FV_Picks_Msg_eq (w_Picks_Num : Int × List Int × Int → Option (Int × List Int × Int)) (w_Picks_Path : List Int × Int → Option (List Int × List Int × Int)) (w_Picks_Text : List Int × Int → Option (List UInt8 × List Int × Int)) (N : Nat) (x : Int × List Int × Int) : F_Picks_Msg w_Picks_Num w_Picks_Path w_Picks_Text N x = V_Picks_Msg w_Picks_Num w_Picks_Path w_Picks_Text N x := by kernel_rfl
noncomputable def W_Picks_Msg (N : Nat) (x : Int × List Int × Int) : Option ((List Int × Int) × M_) := V_Picks_Msg (W_Picks_Num N) (W_Picks_Path N) (W_Picks_Text N) N x
theorem F_Picks_Msg_eq (N : Nat) (x : Int × List Int × Int) : F_Picks_Msg (W_Picks_Num N) (W_Picks_Path N) (W_Picks_Text N) N x = W_Picks_Msg N x := (FV_Picks_Msg_eq (W_Picks_Num N) (W_Picks_Path N) (W_Picks_Text N) N x).trans (by kernel_rfl)
noncomputable def conw_Picks_Msg (w : Int × List Int × Int → Option ((List Int × Int) × M_)) : Con := ⟨20, as_Picks_Msg, bs_Picks_Msg, (List Int × Int) × M_, w, out_Picks_Msg⟩
noncomputable def con_Picks_Msg (N : Nat) : Con := conw_Picks_Msg (W_Picks_Msg N)
theorem R_Picks_Msg_eq (x : Int × List Int × Int) (y : (List Int × Int) × M_) : retOf2 P0 Try.f20 (kpL [true]) (lbOf as_Picks_Msg bs_Picks_Msg x) (patS ⟨78, [], [], []⟩ pout_Picks_Msg y) = some (out_Picks_Msg y) := by kernel_rfl
theorem con_Picks_Msg_ok (N : Nat) : Con.ok P0 (con_Picks_Msg N) := ⟨⟨Try.f20, Try.func20, by kernel_rfl, by kernel_rfl⟩, fun (x : Int × List Int × Int) (r : (List Int × Int) × M_) (hr : W_Picks_Msg N x = some r) =>
  spec2_evT (Γ := G_Picks_Msg (W_Picks_Num N) (W_Picks_Path N) (W_Picks_Text N) N) (Λ := L0) (pout := pout_Picks_Msg) (kp := kpL [true]) mixed (orcOf_ok _ (by simp only [List.mem_cons, List.not_mem_nil, or_false, forall_eq_or_imp, forall_eq]; exact ⟨con_Picks_Num_ok N, con_Picks_Path_ok N, con_Picks_Text_ok N⟩)) Try.func20 (c := bodyOf Try.f20) (by kernel_rfl) (by kernel_rfl) (of_decide_eq_true (by kernel_rfl)) ((F_Picks_Msg_eq N x).trans hr) (R_Picks_Msg_eq x r)⟩
def as_ref1_Find : List AS := [.val (.list T1_), .val (.int .i64)]
def bs_ref1_Find : List BS := []
def pout_ref1_Find : Pat := ⟨[(4, .ptr 600004 0), (5, .val .bool)], [(600004, .box 73 (.val T3_))]⟩
noncomputable def G_ref1_Find  (N : Nat) : OrcT := orcOf []
noncomputable def F_ref1_Find  (N : Nat) (x : A3_) : Option (Bool × Int × Int × Int) :=
  (evT (G_ref1_Find  N) L0 P0 [(2, .loop [] ⟨[(4, .ptr 600004 0), (6, .val (.int .i64))], [(600004, .box 73 (.val T3_))]⟩ [(.exit 0, ⟨[(4, .ptr 600004 0)], [(600004, .box 73 (.val T3_))]⟩), (.ret, ⟨[(4, .ptr 600004 0), (5, .val .bool)], [(600004, .box 73 (.val T3_))]⟩)])]
    [] N 400 (bodyOf Try.f58) ⟨25, slots 0 (argsOf as_ref1_Find bs_ref1_Find x), tabU (lbOf as_ref1_Find bs_ref1_Find x) [], []⟩).elim (kRet 25 pout_ref1_Find (kpL []) (lbOf as_ref1_Find bs_ref1_Find x))
def out_ref1_Find (y : Bool × Int × Int × Int) : V × List OK × List OK := (.tup [valW T1_ y.2, valW .bool y.1], [], [])
noncomputable def V_ref1_Find  (N : Nat) (x : A3_) : Option (Bool × Int × Int × Int) :=
  obind (loopN N (fun (v : Int × Int × Int × Int) => cnd (decide (v.1 < (↑(List.length x.1) : Int))) (cnd (decide ((0:Int) ≤ v.1) && decide (v.1 <
    (↑(List.length x.1) : Int))) (cnd (decide (Prod.fst (List.getD x.1 (Int.toNat v.1) ((0:Int), (0:Int), (0:Int))) = x.2)) (cnd (decide ((0:Int) ≤ v.1)
    && decide (v.1 < (↑(List.length x.1) : Int))) (some (Sum.inr (Sum.inr (true, Prod.fst (List.getD x.1 (Int.toNat v.1) ((0:Int), (0:Int), (0:Int))),
    Prod.fst (Prod.snd (List.getD x.1 (Int.toNat v.1) ((0:Int), (0:Int), (0:Int)))), Prod.snd (Prod.snd (List.getD x.1 (Int.toNat v.1) ((0:Int),
    (0:Int), (0:Int)))))))) none) (some (Sum.inl (wr .i64 (v.1 + (1:Int)), v.2)))) none) (some (Sum.inr (Sum.inl v.2)))) ((0:Int), (0:Int), (0:Int),
    (0:Int))) fun (b : Int × Int × Int ⊕ Bool × Int × Int × Int) => selim (fun (b : Int × Int × Int) => some (false, (0:Int), (0:Int), (0:Int))) (fun (c
    : Bool × Int × Int × Int) => some c) b
theorem FV_ref1_Find_eq  (N : Nat) (x : A3_) : F_ref1_Find  N x = V_ref1_Find  N x := by kernel_rfl
noncomputable def W_ref1_Find (N : Nat) (x : A3_) : Option (Bool × Int × Int × Int) := V_ref1_Find  N x
theorem F_ref1_Find_eq (N : Nat) (x : A3_) : F_ref1_Find  N x = W_ref1_Find N x := (FV_ref1_Find_eq  N x).trans (by kernel_rfl)
noncomputable def conw_ref1_Find (w : A3_ → Option (Bool × Int × Int × Int)) : Con := ⟨58, as_ref1_Find, bs_ref1_Find, Bool × Int × Int × Int, w, out_ref1_Find⟩
noncomputable def con_ref1_Find (N : Nat) : Con := conw_ref1_Find (W_ref1_Find N)
theorem R_ref1_Find_eq (x : A3_) (y : Bool × Int × Int × Int) : retOf2 P0 Try.f58 (kpL []) (lbOf as_ref1_Find bs_ref1_Find x) (patS ⟨25, [], [], []⟩ pout_ref1_Find y) = some (out_ref1_Find y) := by kernel_rfl
theorem con_ref1_Find_ok (N : Nat) : Con.ok P0 (con_ref1_Find N) := ⟨⟨Try.f58, Try.func58, by kernel_rfl, by kernel_rfl⟩, fun (x : A3_) (r : Bool × Int × Int × Int) (hr : W_ref1_Find N x = some r) =>
  spec2_evT (Γ := G_ref1_Find N) (Λ := L0) (pout := pout_ref1_Find) (kp := kpL []) mixed (orcOf_ok [] (by simp)) Try.func58 (c := bodyOf Try.f58) (by kernel_rfl) (by kernel_rfl) (of_decide_eq_true (by kernel_rfl)) ((F_ref1_Find_eq N x).trans hr) (R_ref1_Find_eq x r)⟩
def as_ref1_Old : List AS := [.val (.list T1_), .val (.int .i64), .val (.int .i64)]
def bs_ref1_Old : List BS := []
def pout_ref1_Old : Pat := ⟨[(6, .val .bool)], []⟩
noncomputable def G_ref1_Old (w_ref1_Find : A3_ → Option (Bool × Int × Int × Int)) (N : Nat) : OrcT := orcOf [conw_ref1_Find w_ref1_Find]
noncomputable def F_ref1_Old (w_ref1_Find : A3_ → Option (Bool × Int × Int × Int)) (N : Nat) (x : List (Int × Int × Int) × Int × Int) : Option (Bool) :=
  (evT (G_ref1_Old w_ref1_Find N) L0 P0 []
    [] N 400 (bodyOf Try.f57) ⟨22, slots 0 (argsOf as_ref1_Old bs_ref1_Old x), tabU (lbOf as_ref1_Old bs_ref1_Old x) [], []⟩).elim (kRet 22 pout_ref1_Old (kpL []) (lbOf as_ref1_Old bs_ref1_Old x))
def out_ref1_Old (y : Bool) : V × List OK × List OK := (valW .bool y, [], [])
noncomputable def V_ref1_Old (w_ref1_Find : A3_ → Option (Bool × Int × Int × Int)) (N : Nat) (x : List (Int × Int × Int) × Int × Int) : Option (Bool) :=
  obind (w_ref1_Find (x.1, x.2.1)) fun b => cnd b.1 (some (decide (x.2.2 < b.2.2.1))) (some false)
theorem FV_ref1_Old_eq (w_ref1_Find : A3_ → Option (Bool × Int × Int × Int)) (N : Nat) (x : List (Int × Int × Int) × Int × Int) : F_ref1_Old w_ref1_Find N x = V_ref1_Old w_ref1_Find N x := by kernel_rfl
noncomputable def W_ref1_Old (N : Nat) (x : List (Int × Int × Int) × Int × Int) : Option (Bool) := V_ref1_Old (W_ref1_Find N) N x
theorem F_ref1_Old_eq (N : Nat) (x : List (Int × Int × Int) × Int × Int) : F_ref1_Old (W_ref1_Find N) N x = W_ref1_Old N x := (FV_ref1_Old_eq (W_ref1_Find N) N x).trans (by kernel_rfl)
noncomputable def conw_ref1_Old (w : List (Int × Int × Int) × Int × Int → Option (Bool)) : Con := ⟨57, as_ref1_Old, bs_ref1_Old, Bool, w, out_ref1_Old⟩
noncomputable def con_ref1_Old (N : Nat) : Con := conw_ref1_Old (W_ref1_Old N)
theorem R_ref1_Old_eq (x : List (Int × Int × Int) × Int × Int) (y : Bool) : retOf2 P0 Try.f57 (kpL []) (lbOf as_ref1_Old bs_ref1_Old x) (patS ⟨22, [], [], []⟩ pout_ref1_Old y) = some (out_ref1_Old y) := by kernel_rfl
theorem con_ref1_Old_ok (N : Nat) : Con.ok P0 (con_ref1_Old N) := ⟨⟨Try.f57, Try.func57, by kernel_rfl, by kernel_rfl⟩, fun (x : List (Int × Int × Int) × Int × Int) (r : Bool) (hr : W_ref1_Old N x = some r) =>
  spec2_evT (Γ := G_ref1_Old (W_ref1_Find N) N) (Λ := L0) (pout := pout_ref1_Old) (kp := kpL []) mixed (orcOf_ok _ (by simp only [List.mem_cons, List.not_mem_nil, or_false, forall_eq_or_imp, forall_eq]; exact con_ref1_Find_ok N)) Try.func57 (c := bodyOf Try.f57) (by kernel_rfl) (by kernel_rfl) (of_decide_eq_true (by kernel_rfl)) ((F_ref1_Old_eq N x).trans hr) (R_ref1_Old_eq x r)⟩
def as_ref1_Drop : List AS := [.val (.list T1_), .val (.int .i64)]
def bs_ref1_Drop : List BS := []
def pout_ref1_Drop : Pat := ⟨[(4, .acc 700005)], [(700005, .nrow 73 T1_ false true)]⟩
noncomputable def G_ref1_Drop  (N : Nat) : OrcT := orcOf []
noncomputable def F_ref1_Drop  (N : Nat) (x : A3_) : Option (List (Int × Int × Int)) :=
  (evT (G_ref1_Drop  N) L0 P0 [(3, .loop [] ⟨[(5, .acc 700005), (6, .val (.int .i64))], [(700005, .nrow 73 T1_ false true)]⟩ [(.exit 0, ⟨[(5, .acc 700005)], [(700005, .nrow 73 T1_ false true)]⟩)])]
    [] N 400 (bodyOf Try.f62) ⟨28, slots 0 (argsOf as_ref1_Drop bs_ref1_Drop x), tabU (lbOf as_ref1_Drop bs_ref1_Drop x) [], []⟩).elim (kRet 28 pout_ref1_Drop (kpL []) (lbOf as_ref1_Drop bs_ref1_Drop x))
def out_ref1_Drop (y : List (Int × Int × Int)) : V × List OK × List OK := (.acc 2000000 0, [], [.nrow 73 false true ⟨T1_, y⟩])
noncomputable def V_ref1_Drop  (N : Nat) (x : A3_) : Option (List (Int × Int × Int)) :=
  obind (loopN N (fun (v : Int × List (Int × Int × Int)) => cnd (decide (v.1 < (↑(List.length x.1) : Int))) (cnd (decide ((0:Int) ≤ v.1) && decide (v.1
    < (↑(List.length x.1) : Int))) (cnd (decide (Prod.fst (List.getD x.1 (Int.toNat v.1) ((0:Int), (0:Int), (0:Int))) ≠ x.2)) (cnd (decide ((0:Int) ≤
    v.1) && decide (v.1 < (↑(List.length x.1) : Int))) (cnd (decide ((List.length v.2 + List.length [(Prod.fst (List.getD x.1 (Int.toNat v.1) ((0:Int),
    (0:Int), (0:Int))), Prod.fst (Prod.snd (List.getD x.1 (Int.toNat v.1) ((0:Int), (0:Int), (0:Int)))), Prod.snd (Prod.snd (List.getD x.1 (Int.toNat
    v.1) ((0:Int), (0:Int), (0:Int)))))]) * (24:Nat) ≤ (140737488355328:Nat))) (some (Sum.inl (wr .i64 (v.1 + (1:Int)), v.2 ++ [(Prod.fst (List.getD x.1
    (Int.toNat v.1) ((0:Int), (0:Int), (0:Int))), Prod.fst (Prod.snd (List.getD x.1 (Int.toNat v.1) ((0:Int), (0:Int), (0:Int)))), Prod.snd (Prod.snd
    (List.getD x.1 (Int.toNat v.1) ((0:Int), (0:Int), (0:Int)))))]))) none) none) (some (Sum.inl (wr .i64 (v.1 + (1:Int)), v.2)))) none) (some (Sum.inr
    v.2))) ((0:Int), [])) fun (b : List (Int × Int × Int)) => some b
theorem FV_ref1_Drop_eq  (N : Nat) (x : A3_) : F_ref1_Drop  N x = V_ref1_Drop  N x := by kernel_rfl
noncomputable def W_ref1_Drop (N : Nat) (x : A3_) : Option (List (Int × Int × Int)) := V_ref1_Drop  N x
theorem F_ref1_Drop_eq (N : Nat) (x : A3_) : F_ref1_Drop  N x = W_ref1_Drop N x := (FV_ref1_Drop_eq  N x).trans (by kernel_rfl)
noncomputable def conw_ref1_Drop (w : A3_ → Option (List (Int × Int × Int))) : Con := ⟨62, as_ref1_Drop, bs_ref1_Drop, List (Int × Int × Int), w, out_ref1_Drop⟩
noncomputable def con_ref1_Drop (N : Nat) : Con := conw_ref1_Drop (W_ref1_Drop N)
theorem R_ref1_Drop_eq (x : A3_) (y : List (Int × Int × Int)) : retOf2 P0 Try.f62 (kpL []) (lbOf as_ref1_Drop bs_ref1_Drop x) (patS ⟨28, [], [], []⟩ pout_ref1_Drop y) = some (out_ref1_Drop y) := by kernel_rfl
theorem con_ref1_Drop_ok (N : Nat) : Con.ok P0 (con_ref1_Drop N) := ⟨⟨Try.f62, Try.func62, by kernel_rfl, by kernel_rfl⟩, fun (x : A3_) (r : List (Int × Int × Int)) (hr : W_ref1_Drop N x = some r) =>
  spec2_evT (Γ := G_ref1_Drop N) (Λ := L0) (pout := pout_ref1_Drop) (kp := kpL []) mixed (orcOf_ok [] (by simp)) Try.func62 (c := bodyOf Try.f62) (by kernel_rfl) (by kernel_rfl) (of_decide_eq_true (by kernel_rfl)) ((F_ref1_Drop_eq N x).trans hr) (R_ref1_Drop_eq x r)⟩
end Go.Proofs.Ythpfomhimmppiaa.tieAgesX
