/- NakServes: for all arguments the call returns true. The law is brought to a function of Lean's own (W_..) by the machine of the texts beside it, and that is reckoned; no condition. -/
import Derived.Test.YtkdgdpeoneegnaaExtYM
import Derived.Test.YtkdgdpeoneegnaaExtL
import Derived.Test.YtkdgdpeoneegnaaRows
import Derived.WalkKit
import Derived.ProofKit
import Derived.OpenShut
import Derived.ShutString
import Derived.ChangeOld
import Derived.Below
import Derived.Shelf.RegionOpenPlain
import Derived.Lib.Walk
namespace Go.Proofs.Ytkdgdpeoneegnaa.nakServesX
open Go.Abs Go.RowKit Go.ChangeShapes Go.WideShapes Go.ChangeAt
set_option maxRecDepth 100000
set_option linter.unusedVariables false
set_option linter.unusedSimpArgs false
noncomputable abbrev P0 : Program := Try.prog
noncomputable def bodyOf (fn : Func) : Code := fn.body.getD .skip
def L0 : Lend := fun f => aget [] [(91, [0])] f
def kpL (l : List Bool) : Nat → Bool := fun j => l.getD j true
theorem own : ownKnob Try.prog.godebug = none := by kernel_rfl
theorem laidOut : laidOutB Try.prog = true := by kernel_rfl
theorem mixed : P0.follows .mixedOrders = true := by decide +kernel
theorem progOk_ : progOk P0 = true := by decide +kernel
set_option linter.unusedSimpArgs false
set_option linter.unusedVariables false

theorem insU129 : Try.prog.underlying 49 = some (.slice 132) := by kernel_rfl
theorem insI129 : Try.prog.underlying 3 = some (.int .i64) := by kernel_rfl
theorem insE129 : ∃ (inf : TypeInfo) (z : Value), Try.prog.info? 132 = some inf ∧ inf.size = 3 ∧ inf.zero = some z ∧ z.cells.size = 3 ∧ inf.bytes = 24 := insE_of (by kernel_rfl)
set_option maxHeartbeats 4000000 in
theorem insShift129 {inf : TypeInfo} (hinf : Try.prog.info? 132 = some inf) (hsz : inf.size = 3) (w : World) (b i n c vb vo vc : Nat) (arr : Array Value) (tb : Nat) (fz : Nat × Nat) (cs vs : List Value) (hmem : w.heap[b]? = some (.cells arr tb fz)) (hf : ∀ j, j < arr.size → ¬ (fz.1 ≤ j ∧ j < fz.2))
    (hi : i < n) (hroom : n + 1 ≤ c) (hsize : arr.size = c * 3) (hby : (n + 1) * 24 ≤ 140737488355328) (hbn : vb ≠ b)
    (hcs : cs = (arr.toList.take (n * 3)).drop (i * 3)) (hvl : vs.length = 3) (hvs : ∀ (j : Nat) (u : Value), vs[j]? = some u → w.cell? ⟨vb, vo + j, none⟩ = some u) (h1c : ∀ u ∈ cs, u.oneCell' = true) (h1v : ∀ u ∈ vs, u.oneCell' = true)
    (hov : ∀ y, (callFunc 136 #[.slice (some ⟨vb, vo, none⟩) 1 vc, .slice (some ⟨b, (i + 1) * 3, none⟩) (n - i) y]).run Try.prog w = .ok (.value (.bool false)) w) (A1 A2 : Array Value)
    (hA1 : A1 = (arr.toList.take ((i + 1) * 3) ++ (cs ++ arr.toList.drop ((i + 1) * 3 + cs.length))).toArray) (hA2 : A2 = (A1.toList.take (i * 3) ++ (vs ++ A1.toList.drop (i * 3 + vs.length))).toArray) :
    Calls Try.prog 129 #[.slice (some ⟨b, 0, none⟩) n c, .int .i64 (i : Nat), .slice (some ⟨vb, vo, none⟩) 1 vc] w fun e w' => e = .returned (.slice (some ⟨b, 0, none⟩) (n + 1) c) ∧ w' = (w.drew.setRow b A1).setRow b A2 := by
  have mixed := mixed
  have hz2 : ¬ ((i : Int) = (n : Int)) := by omega
  have hw1 : IntKind.i64.wrap ((i : Int) + (1 : Int)) = (i : Int) + (1 : Int) := by rw [IntKind.wrap_i64]; omega
  have hw2 : IntKind.i64.wrap ((n : Int) + (1 : Int)) = (n : Int) + (1 : Int) := by rw [IntKind.wrap_i64]; omega
  have hcl : cs.length = (n - i) * 3 := by rw [hcs]; simp; omega
  have hA1s : A1.size = arr.size := by rw [hA1]; simp [hcl]; omega
  have hcp1 : ∀ ty dc sc, (Builtin.copy_ #[49, 49] ty #[.slice (some ⟨b, (i + 1) * 3, none⟩) (n - i) dc, .slice (some ⟨b, i * 3, none⟩) (n + 1 - i) sc]).run Try.prog w.drew = .ok (.int .i64 ((n - i : Nat) : Int)) (w.drew.setRow b A1) := fun ty dc sc => by
    rw [hA1]
    refine run_copyR insU129 hinf w.drew (fz := fz) hmem hf _ _ _ (m := n + 1 - i) (k := n - i) (by omega) (lenOf_slice _ _ _ _) (run_firstCells_some w.drew _ _ _ _ _ _ (by rw [hsz]; exact hcl) (fun j v hj => ?_)) (by omega) h1c
    rw [hcs, List.getElem?_drop, List.getElem?_take] at hj
    split at hj
    · have : (⟨b, i * 3, none⟩ : Addr).add j = ⟨b, i * 3 + j, none⟩ := by unfold Addr.add; split <;> simp_all
      rw [this]
      have e : w.drew.cell? ⟨b, i * 3 + j, none⟩ = arr[i * 3 + j]? := by simp [World.cell?, show w.drew.heap = w.heap from rfl, hmem]
      rw [e]; simpa using hj
    · cases hj
  have hcp2 : ∀ (W : World), W.heap = (w.drew.setRow b A1).heap → ∀ ty dc, (Builtin.copy_ #[49, 49] ty #[.slice (some ⟨b, i * 3, none⟩) (n + 1 - i) dc, .slice (some ⟨vb, vo, none⟩) 1 vc]).run Try.prog W = .ok (.int .i64 ((1 : Nat) : Int)) (W.setRow b A2) := fun W hW ty dc => by
    rw [hA2]
    have hm1 : W.heap[b]? = some (.cells A1 tb fz) := by rw [hW]; exact setRow_heap w.drew b arr A1 tb fz hmem
    refine run_copyR insU129 hinf W (fz := fz) hm1 (by rw [hA1s]; exact hf) _ _ _ (m := 1) (k := 1) (by omega) (lenOf_slice _ _ _ _) (run_firstCells_some W _ _ _ _ _ _ (by rw [hsz]; exact hvl) (fun j v hj => ?_)) (by omega) h1v
    have : (⟨vb, vo, none⟩ : Addr).add j = ⟨vb, vo + j, none⟩ := by unfold Addr.add; split <;> simp_all
    rw [this]
    have e : W.cell? ⟨vb, vo + j, none⟩ = w.cell? ⟨vb, vo + j, none⟩ := cell_congr (by rw [hW]; exact setRow_other w.drew b vb A1 hbn)
    rw [e]; exact hvs j v hj
  have hb1 : (0 : Int) ≤ (i : Int) + 1 := by omega
  have hin : i ≤ n := by omega
  have hb2 : ¬ (c = i + 1) := by omega
  have hb4 : ¬ (c = i) := by omega
  have hb3 : (i : Int) ≤ (n : Int) + 1 := by omega
  clear hcs hA1 hA2
  go_enter Try.func129, Try.ntmps129
  go_wp2_with (simp only [hov])
  go_region_law_o (refine step_copy_runR rfl _ _ 49 49 rfl _ _ (by simp [Act.eval, Act.put]) (by simp [Act.eval, Act.put]) (hcp1 _ _ _) ?_)
  go_wp2_with (at_builtin; refine wpList_copy_runR _ rfl _ _ 49 49 rfl _ _ rfl rfl (hcp2 _ rfl _ _) ?_)
  go_ret
  exact ⟨rfl, rfl⟩
set_option maxHeartbeats 4000000 in
theorem insGrow129 {inf : TypeInfo} {z : Value} (hinf : Try.prog.info? 132 = some inf) (hsz : inf.size = 3) (hzz : inf.zero = some z) (hzs : z.cells.size = 3) (hbb : inf.bytes = 24) (w : World) (b i n c vb vo vc : Nat) (arr : Array Value) (tb : Nat) (fz : Nat × Nat) (cs vs : List Value) (hmem : w.heap[b]? = some (.cells arr tb fz))
    (hi : i < n) (hnc : n ≤ c) (hroom : ¬ (n + 1 ≤ c)) (hsize : arr.size = c * 3) (hby : (n + 1) * 24 ≤ 140737488355328) (va : Array Value) (tv : Nat) (fv : Nat × Nat) (hmemv : w.heap[vb]? = some (.cells va tv fv))
    (hcs : cs = (arr.toList.take (n * 3)).drop (i * 3)) (hvl : vs.length = 3) (hvs : ∀ (j : Nat) (u : Value), vs[j]? = some u → va[vo + j]? = some u) (h1c : ∀ u ∈ cs, u.oneCell' = true) (h1v : ∀ u ∈ vs, u.oneCell' = true)
    (G : Nat) (hG : G = grownCap w (n + 1) c 132) (ROW A1 A2 : Array Value)
    (hROW : ROW = (arr.toList.take (i * 3)).toArray ++ Builtin.zeroCells z.cells (n + 1 - i) ++ Builtin.zeroCells z.cells (G - (n + 1)))
    (hA1 : A1 = (ROW.toList.take (i * 3) ++ (vs ++ ROW.toList.drop (i * 3 + vs.length))).toArray) (hA2 : A2 = (A1.toList.take ((i + 1) * 3) ++ (cs ++ A1.toList.drop ((i + 1) * 3 + cs.length))).toArray) :
    Calls Try.prog 129 #[.slice (some ⟨b, 0, none⟩) n c, .int .i64 (i : Nat), .slice (some ⟨vb, vo, none⟩) 1 vc] w fun e w' => e = .returned (.slice (some ⟨w.heap.size, 0, none⟩) (n + 1) G) ∧ w' = (((w.drew.alloc (.cells ROW 132)).setRow w.heap.size A1).drew).setRow w.heap.size A2 := by
  have mixed := mixed
  have hz2 : ¬ ((i : Int) = (n : Int)) := by omega
  have hw1 : IntKind.i64.wrap ((i : Int) + (1 : Int)) = (i : Int) + (1 : Int) := by rw [IntKind.wrap_i64]; omega
  have hw2 : IntKind.i64.wrap ((n : Int) + (1 : Int)) = (n : Int) + (1 : Int) := by rw [IntKind.wrap_i64]; omega
  have hw3 : IntKind.i64.wrap ((n : Int) + (1 : Int) - (i : Int)) = (n : Int) + (1 : Int) - (i : Int) := by rw [IntKind.wrap_i64]; omega
  have hcl : cs.length = (n - i) * 3 := by rw [hcs]; simp; omega
  have hGn : n + 1 ≤ G := by rw [hG]; exact grownCap_ge w _ _ _
  have hbw : b < w.heap.size := (Array.getElem?_eq_some_iff.1 hmem).1
  have hvw : vb < w.heap.size := (Array.getElem?_eq_some_iff.1 hmemv).1
  have hzc : ∀ k, (Builtin.zeroCells z.cells k).size = k * 3 := fun k => by rw [size_zeroCells, hzs]
  have hRs : ROW.size = G * 3 := by
    rw [hROW]; simp only [Array.size_append, hzc, List.size_toArray, List.length_take, Array.length_toList]; omega
  have hA1s : A1.size = ROW.size := by rw [hA1]; simp [hvl]; omega
  have hold : (Builtin.firstCells inf.size i (.slice (some ⟨b, 0, none⟩) i c)).run Try.prog w.drew = .ok (arr.toList.take (i * 3)).toArray w.drew := by
    rw [hsz]
    refine run_firstCells_some w.drew 3 i ⟨b, 0, none⟩ i c (arr.toList.take (i * 3)) (by rw [List.length_take]; simp; omega) (fun j v hj => ?_)
    rw [List.getElem?_take] at hj
    split at hj
    · have : (⟨b, 0, none⟩ : Addr).add j = ⟨b, j, none⟩ := by unfold Addr.add; split <;> simp_all
      rw [this]
      have e : w.drew.cell? ⟨b, j, none⟩ = arr[j]? := by simp [World.cell?, show w.drew.heap = w.heap from rfl, hmem]
      rw [e]; simpa using hj
    · cases hj
  have hik : i + (n + 1 - i) = n + 1 := by omega
  have hkk : (n : Int) + 1 - (i : Int) = ((n + 1 - i : Nat) : Int) := by omega
  obtain ⟨W1, hW1⟩ : ∃ W1, W1 = w.drew.alloc (.cells ROW 132) := ⟨_, rfl⟩
  have hrz : ∀ ty, (Builtin.append_ #[49, 3] ty #[.slice (some ⟨b, 0, none⟩) i c, .int .i64 ((n : Int) + 1 - (i : Int))]).run Try.prog w = .ok (.slice (some ⟨w.heap.size, 0, none⟩) (n + 1) G) W1 := fun ty => by
    have hnx := nextslicecap_le (need := n + 1) (old := c) (by omega)
    have h := Lib.run_append_grow_zeros w 49 3 ty 132 inf z .i64 .i64 insU129 insI129 hinf hzz (some ⟨b, 0, none⟩) i c (arr.toList.take (i * 3)) hold (n + 1 - i) (by omega) (by omega) (by omega) (by omega) (by rw [hbb]; omega) (by rw [hbb, hik]; omega)
    rw [hik, ← hG, ← hROW, ← hW1] at h
    rw [hkk]
    exact h
  have hWn : W1.heap[w.heap.size]? = some (.cells ROW 132 (0, 0)) := by rw [hW1]; exact heap_alloc_new w.drew _
  have hWo : ∀ j, j < w.heap.size → W1.heap[j]? = w.heap[j]? := fun j hj => by rw [hW1]; exact heap_alloc_old w.drew _ hj
  have hcp1 : ∀ (W : World), W.heap = W1.heap → ∀ ty dc, (Builtin.copy_ #[49, 49] ty #[.slice (some ⟨w.heap.size, i * 3, none⟩) (n + 1 - i) dc, .slice (some ⟨vb, vo, none⟩) 1 vc]).run Try.prog W = .ok (.int .i64 ((1 : Nat) : Int)) (W.setRow w.heap.size A1) := fun W hW ty dc => by
    rw [hA1]
    refine run_copyR insU129 hinf W (fz := (0, 0)) (by rw [hW]; exact hWn) (fun j _ hj => by simp at hj) _ _ _ (m := 1) (k := 1) (by omega) (lenOf_slice _ _ _ _) (run_firstCells_some W _ _ _ _ _ _ (by rw [hsz]; exact hvl) (fun j v hj => ?_)) (by omega) h1v
    have : (⟨vb, vo, none⟩ : Addr).add j = ⟨vb, vo + j, none⟩ := by unfold Addr.add; split <;> simp_all
    rw [this]
    have e : W.cell? ⟨vb, vo + j, none⟩ = va[vo + j]? := by simp [World.cell?, hW, hWo vb hvw, hmemv]
    rw [e]; exact hvs j v hj
  have hcp2 : ∀ (W : World), W.heap = (W1.setRow w.heap.size A1).heap → ∀ ty dc sc, (Builtin.copy_ #[49, 49] ty #[.slice (some ⟨w.heap.size, (i + 1) * 3, none⟩) (n - i) dc, .slice (some ⟨b, i * 3, none⟩) (n - i) sc]).run Try.prog W = .ok (.int .i64 ((n - i : Nat) : Int)) (W.setRow w.heap.size A2) := fun W hW ty dc sc => by
    rw [hA2]
    have hm1 : W.heap[w.heap.size]? = some (.cells A1 132 (0, 0)) := by rw [hW]; exact setRow_heap W1 w.heap.size ROW A1 132 (0, 0) hWn
    refine run_copyR insU129 hinf W (fz := (0, 0)) hm1 (fun j _ hj => by simp at hj) _ _ _ (m := n - i) (k := n - i) (by omega) (lenOf_slice _ _ _ _) (run_firstCells_some W _ _ _ _ _ _ (by rw [hsz]; exact hcl) (fun j v hj => ?_)) (by omega) h1c
    rw [hcs, List.getElem?_drop, List.getElem?_take] at hj
    split at hj
    · have : (⟨b, i * 3, none⟩ : Addr).add j = ⟨b, i * 3 + j, none⟩ := by unfold Addr.add; split <;> simp_all
      rw [this]
      have e : W.cell? ⟨b, i * 3 + j, none⟩ = arr[i * 3 + j]? := by
        have e1 : W.heap[b]? = w.heap[b]? := by rw [hW, setRow_other W1 w.heap.size b A1 (by omega)]; exact hWo b hbw
        simp [World.cell?, e1, hmem]
      rw [e]; simpa using hj
    · cases hj
  have hb1 : (0 : Int) ≤ (i : Int) + 1 := by omega
  have hin : i ≤ n := by omega
  have hb2 : ¬ (G = i + 1) := by omega
  have hb4 : ¬ (c = i) := by omega
  have hb5 : ¬ (G = i) := by omega
  have hb3 : (i : Int) ≤ (n : Int) + 1 := by omega
  have hb6 : (c : Int) < (n : Int) + 1 := by omega
  have hb7 : i ≤ c := by omega
  rw [← hW1]
  clear hG hcs hA1 hA2 hW1 hold hROW hWn hWo hik hkk
  go_enter Try.func129, Try.ntmps129
  go_wp2_with (first
    | (at_builtin; refine Lib.wpList_append_run _ rfl _ _ _ _ rfl _ _ rfl rfl _ _ (hrz _) ?_)
    | (at_builtin; refine wpList_copy_runR _ rfl _ _ 49 49 rfl _ _ rfl rfl (hcp1 _ (by exact rfl) _ _) ?_))
  have hF : ((W1.setRow w.heap.size A1).drew).heap = (W1.setRow w.heap.size A1).heap := rfl
  go_region_law_o (refine step_copy_runR rfl _ _ 49 49 rfl (.slice (some ⟨w.heap.size, (i + 1) * 3, none⟩) (n - i) (G - (i + 1))) (.slice (some ⟨b, i * 3, none⟩) (n - i) (c - i)) (by simp [Act.eval, Act.put]) (by simp [Act.eval, Act.put]) (hcp2 _ hF 3 (G - (i + 1)) (c - i)) ?_)
  go_wp2
  go_ret
  exact ⟨rfl, rfl⟩
theorem insF129 : InsF Try.prog 129 132 3 24 := by
  intro w b i n c vb vo vc arr va tb tv fz fv vs hmem hsize hf hmemv hfv hbn hvl hvs h1v h1c hi hnc hby
  obtain ⟨inf, z, hinf, hsz, hzz, hzs, hbb⟩ := insE129
  obtain ⟨cs, hcs⟩ : ∃ cs, cs = (arr.toList.take (n * 3)).drop (i * 3) := ⟨_, rfl⟩
  have h1 : ∀ u ∈ cs, u.oneCell' = true := fun u hu => h1c u (by rw [hcs] at hu; exact List.mem_of_mem_drop hu)
  have hcl : cs.length = (n - i) * 3 := by rw [hcs]; simp; omega
  by_cases hroom : n + 1 ≤ c
  · have hvo : vo < va.size := by
      have := hvs 0 vs[0] (List.getElem?_eq_getElem (by omega))
      have := (Array.getElem?_eq_some_iff.1 this).1
      omega
    have hov : ∀ y, (callFunc 136 #[.slice (some ⟨vb, vo, none⟩) 1 vc, .slice (some ⟨b, (i + 1) * 3, none⟩) (n - i) y]).run Try.prog w = .ok (.value (.bool false)) w := fun y => by
      rw [run_callFunc_extern Try.func136 (by kernel_rfl) (by kernel_rfl) (by kernel_rfl) (e := Extern.SlicesOverlaps.overlaps #[49, 49] #[4]) (by kernel_rfl),
        Lib.run_overlaps_apart w 49 4 132 insU129 3 (fun w => by rw [run_size hinf, hsz]) ⟨vb, vo, none⟩ ⟨b, (i + 1) * 3, none⟩ 1 vc (n - i) y hbn tv tb va.size arr.size (by simp [World.shape?, hmemv]) (by simp [World.shape?, hmem]) (by omega)
          (by have := hfv vo (by omega); simp only [World.frozen?, hmemv]; simp; omega) (by have := hfv va.size (Nat.le_refl _); simp only [World.frozen?, hmemv]; simp; omega)]
      rfl
    refine (insShift129 hinf hsz w b i n c vb vo vc arr tb fz cs vs hmem (fun j hj => hf j (by omega)) hi hroom hsize hby hbn hcs hvl (fun j u hj => by simpa [World.cell?, hmemv] using hvs j u hj) h1 h1v hov _ _ rfl rfl).mono fun x w' => ?_
    rintro ⟨rfl, rfl⟩
    have hA1s : (arr.toList.take ((i + 1) * 3) ++ (cs ++ arr.toList.drop ((i + 1) * 3 + cs.length))).toArray.size = arr.size := by simp [hcl]; omega
    have hm1 := setRow_heap w.drew b arr (arr.toList.take ((i + 1) * 3) ++ (cs ++ arr.toList.drop ((i + 1) * 3 + cs.length))).toArray tb fz hmem
    generalize hA1 : (arr.toList.take ((i + 1) * 3) ++ (cs ++ arr.toList.drop ((i + 1) * 3 + cs.length))).toArray = A1 at *
    have hA2s : (A1.toList.take (i * 3) ++ (vs ++ A1.toList.drop (i * 3 + vs.length))).toArray.size = A1.size := by simp [hvl]; omega
    have hm2 := setRow_heap (w.drew.setRow b A1) b A1 (A1.toList.take (i * 3) ++ (vs ++ A1.toList.drop (i * 3 + vs.length))).toArray tb fz hm1
    refine ⟨b, c, tb, _, fz, rfl, rfl, rfl, rfl, hm2, fun j hj => hf j (by rw [hA2s, hA1s] at hj; exact hj), by rw [hA2s, hA1s]; exact hsize, hroom, ?_, .inl ⟨rfl, rfl, by rw [hA2s, hA1s], by rw [setRow_size, setRow_size]; rfl, fun j hj => ?_⟩⟩
    · subst hA1
      exact insShiftL arr.toList vs cs (i * 3) (n * 3) 3 ((i + 1) * 3) ((n + 1) * 3) (by omega) (by omega) (by omega) (by simp; omega) hvl hcs
    · rw [setRow_other _ _ _ _ hj, setRow_other _ _ _ _ hj]; rfl
  · refine (insGrow129 hinf hsz hzz hzs hbb w b i n c vb vo vc arr tb fz cs vs hmem hi hnc hroom hsize hby va tv fv hmemv hcs hvl hvs h1 h1v _ rfl _ _ _ rfl rfl rfl).mono fun x w' => ?_
    rintro ⟨rfl, rfl⟩
    have hGn : n + 1 ≤ grownCap w (n + 1) c 132 := grownCap_ge w _ _ _
    have hzc : ∀ k, (Builtin.zeroCells z.cells k).size = k * 3 := fun k => by rw [size_zeroCells, hzs]
    have hRs : ((arr.toList.take (i * 3)).toArray ++ Builtin.zeroCells z.cells (n + 1 - i) ++ Builtin.zeroCells z.cells (grownCap w (n + 1) c 132 - (n + 1))).size = grownCap w (n + 1) c 132 * 3 := by
      simp only [Array.size_append, hzc, List.size_toArray, List.length_take, Array.length_toList]; omega
    have hRt : ((arr.toList.take (i * 3)).toArray ++ Builtin.zeroCells z.cells (n + 1 - i) ++ Builtin.zeroCells z.cells (grownCap w (n + 1) c 132 - (n + 1))).toList.take (i * 3) = arr.toList.take (i * 3) := by
      simp only [Array.toList_append, List.append_assoc]
      exact List.take_left' (by simp; omega)
    generalize hG : grownCap w (n + 1) c 132 = G at *
    generalize hR : (arr.toList.take (i * 3)).toArray ++ Builtin.zeroCells z.cells (n + 1 - i) ++ Builtin.zeroCells z.cells (G - (n + 1)) = ROW at *
    have hm0 : (w.drew.alloc (.cells ROW 132)).heap[w.heap.size]? = some (.cells ROW 132 (0, 0)) := heap_alloc_new w.drew _
    have hA1s : (ROW.toList.take (i * 3) ++ (vs ++ ROW.toList.drop (i * 3 + vs.length))).toArray.size = ROW.size := by simp [hvl]; omega
    have hm1 := setRow_heap (w.drew.alloc (.cells ROW 132)) w.heap.size ROW (ROW.toList.take (i * 3) ++ (vs ++ ROW.toList.drop (i * 3 + vs.length))).toArray 132 (0, 0) hm0
    generalize hA1 : (ROW.toList.take (i * 3) ++ (vs ++ ROW.toList.drop (i * 3 + vs.length))).toArray = A1 at *
    have hA2s : (A1.toList.take ((i + 1) * 3) ++ (cs ++ A1.toList.drop ((i + 1) * 3 + cs.length))).toArray.size = A1.size := by simp [hcl]; omega
    have hm2 := setRow_heap ((w.drew.alloc (.cells ROW 132)).setRow w.heap.size A1).drew w.heap.size A1 (A1.toList.take ((i + 1) * 3) ++ (cs ++ A1.toList.drop ((i + 1) * 3 + cs.length))).toArray 132 (0, 0) hm1
    refine ⟨w.heap.size, G, 132, _, (0, 0), rfl, rfl, rfl, rfl, hm2, fun j _ hj => by simp at hj, by rw [hA2s, hA1s]; exact hRs, hGn, ?_, .inr ⟨rfl, rfl, ?_, fun j hj => ?_⟩⟩
    · subst hA1
      exact insGrowL arr.toList ROW.toList vs cs (i * 3) (n * 3) 3 ((i + 1) * 3) ((n + 1) * 3) (by omega) (by omega) (by omega) (by simp; omega) hvl hcs hRt
    · rw [setRow_size]
      show ((w.drew.alloc (.cells ROW 132)).setRow w.heap.size A1).heap.size = _
      rw [setRow_size]
      simp
    · rw [setRow_other _ _ _ _ (by omega)]
      show ((w.drew.alloc (.cells ROW 132)).setRow w.heap.size A1).heap[j]? = _
      rw [setRow_other _ _ _ _ (by omega)]
      exact heap_alloc_old w.drew _ hj


theorem insU124 : Try.prog.underlying 24 = some (.slice 40) := by kernel_rfl
theorem insI124 : Try.prog.underlying 3 = some (.int .i64) := by kernel_rfl
theorem insE124 : ∃ (inf : TypeInfo) (z : Value), Try.prog.info? 40 = some inf ∧ inf.size = 2 ∧ inf.zero = some z ∧ z.cells.size = 2 ∧ inf.bytes = 24 := insE_of (by kernel_rfl)
set_option maxHeartbeats 4000000 in
theorem insShift124 {inf : TypeInfo} (hinf : Try.prog.info? 40 = some inf) (hsz : inf.size = 2) (w : World) (b i n c vb vo vc : Nat) (arr : Array Value) (tb : Nat) (fz : Nat × Nat) (cs vs : List Value) (hmem : w.heap[b]? = some (.cells arr tb fz)) (hf : ∀ j, j < arr.size → ¬ (fz.1 ≤ j ∧ j < fz.2))
    (hi : i < n) (hroom : n + 1 ≤ c) (hsize : arr.size = c * 2) (hby : (n + 1) * 24 ≤ 140737488355328) (hbn : vb ≠ b)
    (hcs : cs = (arr.toList.take (n * 2)).drop (i * 2)) (hvl : vs.length = 2) (hvs : ∀ (j : Nat) (u : Value), vs[j]? = some u → w.cell? ⟨vb, vo + j, none⟩ = some u) (h1c : ∀ u ∈ cs, u.oneCell' = true) (h1v : ∀ u ∈ vs, u.oneCell' = true)
    (hov : ∀ y, (callFunc 133 #[.slice (some ⟨vb, vo, none⟩) 1 vc, .slice (some ⟨b, (i + 1) * 2, none⟩) (n - i) y]).run Try.prog w = .ok (.value (.bool false)) w) (A1 A2 : Array Value)
    (hA1 : A1 = (arr.toList.take ((i + 1) * 2) ++ (cs ++ arr.toList.drop ((i + 1) * 2 + cs.length))).toArray) (hA2 : A2 = (A1.toList.take (i * 2) ++ (vs ++ A1.toList.drop (i * 2 + vs.length))).toArray) :
    Calls Try.prog 124 #[.slice (some ⟨b, 0, none⟩) n c, .int .i64 (i : Nat), .slice (some ⟨vb, vo, none⟩) 1 vc] w fun e w' => e = .returned (.slice (some ⟨b, 0, none⟩) (n + 1) c) ∧ w' = (w.drew.setRow b A1).setRow b A2 := by
  have mixed := mixed
  have hz2 : ¬ ((i : Int) = (n : Int)) := by omega
  have hw1 : IntKind.i64.wrap ((i : Int) + (1 : Int)) = (i : Int) + (1 : Int) := by rw [IntKind.wrap_i64]; omega
  have hw2 : IntKind.i64.wrap ((n : Int) + (1 : Int)) = (n : Int) + (1 : Int) := by rw [IntKind.wrap_i64]; omega
  have hcl : cs.length = (n - i) * 2 := by rw [hcs]; simp; omega
  have hA1s : A1.size = arr.size := by rw [hA1]; simp [hcl]; omega
  have hcp1 : ∀ ty dc sc, (Builtin.copy_ #[24, 24] ty #[.slice (some ⟨b, (i + 1) * 2, none⟩) (n - i) dc, .slice (some ⟨b, i * 2, none⟩) (n + 1 - i) sc]).run Try.prog w.drew = .ok (.int .i64 ((n - i : Nat) : Int)) (w.drew.setRow b A1) := fun ty dc sc => by
    rw [hA1]
    refine run_copyR insU124 hinf w.drew (fz := fz) hmem hf _ _ _ (m := n + 1 - i) (k := n - i) (by omega) (lenOf_slice _ _ _ _) (run_firstCells_some w.drew _ _ _ _ _ _ (by rw [hsz]; exact hcl) (fun j v hj => ?_)) (by omega) h1c
    rw [hcs, List.getElem?_drop, List.getElem?_take] at hj
    split at hj
    · have : (⟨b, i * 2, none⟩ : Addr).add j = ⟨b, i * 2 + j, none⟩ := by unfold Addr.add; split <;> simp_all
      rw [this]
      have e : w.drew.cell? ⟨b, i * 2 + j, none⟩ = arr[i * 2 + j]? := by simp [World.cell?, show w.drew.heap = w.heap from rfl, hmem]
      rw [e]; simpa using hj
    · cases hj
  have hcp2 : ∀ (W : World), W.heap = (w.drew.setRow b A1).heap → ∀ ty dc, (Builtin.copy_ #[24, 24] ty #[.slice (some ⟨b, i * 2, none⟩) (n + 1 - i) dc, .slice (some ⟨vb, vo, none⟩) 1 vc]).run Try.prog W = .ok (.int .i64 ((1 : Nat) : Int)) (W.setRow b A2) := fun W hW ty dc => by
    rw [hA2]
    have hm1 : W.heap[b]? = some (.cells A1 tb fz) := by rw [hW]; exact setRow_heap w.drew b arr A1 tb fz hmem
    refine run_copyR insU124 hinf W (fz := fz) hm1 (by rw [hA1s]; exact hf) _ _ _ (m := 1) (k := 1) (by omega) (lenOf_slice _ _ _ _) (run_firstCells_some W _ _ _ _ _ _ (by rw [hsz]; exact hvl) (fun j v hj => ?_)) (by omega) h1v
    have : (⟨vb, vo, none⟩ : Addr).add j = ⟨vb, vo + j, none⟩ := by unfold Addr.add; split <;> simp_all
    rw [this]
    have e : W.cell? ⟨vb, vo + j, none⟩ = w.cell? ⟨vb, vo + j, none⟩ := cell_congr (by rw [hW]; exact setRow_other w.drew b vb A1 hbn)
    rw [e]; exact hvs j v hj
  have hb1 : (0 : Int) ≤ (i : Int) + 1 := by omega
  have hin : i ≤ n := by omega
  have hb2 : ¬ (c = i + 1) := by omega
  have hb4 : ¬ (c = i) := by omega
  have hb3 : (i : Int) ≤ (n : Int) + 1 := by omega
  clear hcs hA1 hA2
  go_enter Try.func124, Try.ntmps124
  go_wp2_with (simp only [hov])
  go_region_law_o (refine step_copy_runR rfl _ _ 24 24 rfl _ _ (by simp [Act.eval, Act.put]) (by simp [Act.eval, Act.put]) (hcp1 _ _ _) ?_)
  go_wp2_with (at_builtin; refine wpList_copy_runR _ rfl _ _ 24 24 rfl _ _ rfl rfl (hcp2 _ rfl _ _) ?_)
  go_ret
  exact ⟨rfl, rfl⟩
set_option maxHeartbeats 4000000 in
theorem insGrow124 {inf : TypeInfo} {z : Value} (hinf : Try.prog.info? 40 = some inf) (hsz : inf.size = 2) (hzz : inf.zero = some z) (hzs : z.cells.size = 2) (hbb : inf.bytes = 24) (w : World) (b i n c vb vo vc : Nat) (arr : Array Value) (tb : Nat) (fz : Nat × Nat) (cs vs : List Value) (hmem : w.heap[b]? = some (.cells arr tb fz))
    (hi : i < n) (hnc : n ≤ c) (hroom : ¬ (n + 1 ≤ c)) (hsize : arr.size = c * 2) (hby : (n + 1) * 24 ≤ 140737488355328) (va : Array Value) (tv : Nat) (fv : Nat × Nat) (hmemv : w.heap[vb]? = some (.cells va tv fv))
    (hcs : cs = (arr.toList.take (n * 2)).drop (i * 2)) (hvl : vs.length = 2) (hvs : ∀ (j : Nat) (u : Value), vs[j]? = some u → va[vo + j]? = some u) (h1c : ∀ u ∈ cs, u.oneCell' = true) (h1v : ∀ u ∈ vs, u.oneCell' = true)
    (G : Nat) (hG : G = grownCap w (n + 1) c 40) (ROW A1 A2 : Array Value)
    (hROW : ROW = (arr.toList.take (i * 2)).toArray ++ Builtin.zeroCells z.cells (n + 1 - i) ++ Builtin.zeroCells z.cells (G - (n + 1)))
    (hA1 : A1 = (ROW.toList.take (i * 2) ++ (vs ++ ROW.toList.drop (i * 2 + vs.length))).toArray) (hA2 : A2 = (A1.toList.take ((i + 1) * 2) ++ (cs ++ A1.toList.drop ((i + 1) * 2 + cs.length))).toArray) :
    Calls Try.prog 124 #[.slice (some ⟨b, 0, none⟩) n c, .int .i64 (i : Nat), .slice (some ⟨vb, vo, none⟩) 1 vc] w fun e w' => e = .returned (.slice (some ⟨w.heap.size, 0, none⟩) (n + 1) G) ∧ w' = (((w.drew.alloc (.cells ROW 40)).setRow w.heap.size A1).drew).setRow w.heap.size A2 := by
  have mixed := mixed
  have hz2 : ¬ ((i : Int) = (n : Int)) := by omega
  have hw1 : IntKind.i64.wrap ((i : Int) + (1 : Int)) = (i : Int) + (1 : Int) := by rw [IntKind.wrap_i64]; omega
  have hw2 : IntKind.i64.wrap ((n : Int) + (1 : Int)) = (n : Int) + (1 : Int) := by rw [IntKind.wrap_i64]; omega
  have hw3 : IntKind.i64.wrap ((n : Int) + (1 : Int) - (i : Int)) = (n : Int) + (1 : Int) - (i : Int) := by rw [IntKind.wrap_i64]; omega
  have hcl : cs.length = (n - i) * 2 := by rw [hcs]; simp; omega
  have hGn : n + 1 ≤ G := by rw [hG]; exact grownCap_ge w _ _ _
  have hbw : b < w.heap.size := (Array.getElem?_eq_some_iff.1 hmem).1
  have hvw : vb < w.heap.size := (Array.getElem?_eq_some_iff.1 hmemv).1
  have hzc : ∀ k, (Builtin.zeroCells z.cells k).size = k * 2 := fun k => by rw [size_zeroCells, hzs]
  have hRs : ROW.size = G * 2 := by
    rw [hROW]; simp only [Array.size_append, hzc, List.size_toArray, List.length_take, Array.length_toList]; omega
  have hA1s : A1.size = ROW.size := by rw [hA1]; simp [hvl]; omega
  have hold : (Builtin.firstCells inf.size i (.slice (some ⟨b, 0, none⟩) i c)).run Try.prog w.drew = .ok (arr.toList.take (i * 2)).toArray w.drew := by
    rw [hsz]
    refine run_firstCells_some w.drew 2 i ⟨b, 0, none⟩ i c (arr.toList.take (i * 2)) (by rw [List.length_take]; simp; omega) (fun j v hj => ?_)
    rw [List.getElem?_take] at hj
    split at hj
    · have : (⟨b, 0, none⟩ : Addr).add j = ⟨b, j, none⟩ := by unfold Addr.add; split <;> simp_all
      rw [this]
      have e : w.drew.cell? ⟨b, j, none⟩ = arr[j]? := by simp [World.cell?, show w.drew.heap = w.heap from rfl, hmem]
      rw [e]; simpa using hj
    · cases hj
  have hik : i + (n + 1 - i) = n + 1 := by omega
  have hkk : (n : Int) + 1 - (i : Int) = ((n + 1 - i : Nat) : Int) := by omega
  obtain ⟨W1, hW1⟩ : ∃ W1, W1 = w.drew.alloc (.cells ROW 40) := ⟨_, rfl⟩
  have hrz : ∀ ty, (Builtin.append_ #[24, 3] ty #[.slice (some ⟨b, 0, none⟩) i c, .int .i64 ((n : Int) + 1 - (i : Int))]).run Try.prog w = .ok (.slice (some ⟨w.heap.size, 0, none⟩) (n + 1) G) W1 := fun ty => by
    have hnx := nextslicecap_le (need := n + 1) (old := c) (by omega)
    have h := Lib.run_append_grow_zeros w 24 3 ty 40 inf z .i64 .i64 insU124 insI124 hinf hzz (some ⟨b, 0, none⟩) i c (arr.toList.take (i * 2)) hold (n + 1 - i) (by omega) (by omega) (by omega) (by omega) (by rw [hbb]; omega) (by rw [hbb, hik]; omega)
    rw [hik, ← hG, ← hROW, ← hW1] at h
    rw [hkk]
    exact h
  have hWn : W1.heap[w.heap.size]? = some (.cells ROW 40 (0, 0)) := by rw [hW1]; exact heap_alloc_new w.drew _
  have hWo : ∀ j, j < w.heap.size → W1.heap[j]? = w.heap[j]? := fun j hj => by rw [hW1]; exact heap_alloc_old w.drew _ hj
  have hcp1 : ∀ (W : World), W.heap = W1.heap → ∀ ty dc, (Builtin.copy_ #[24, 24] ty #[.slice (some ⟨w.heap.size, i * 2, none⟩) (n + 1 - i) dc, .slice (some ⟨vb, vo, none⟩) 1 vc]).run Try.prog W = .ok (.int .i64 ((1 : Nat) : Int)) (W.setRow w.heap.size A1) := fun W hW ty dc => by
    rw [hA1]
    refine run_copyR insU124 hinf W (fz := (0, 0)) (by rw [hW]; exact hWn) (fun j _ hj => by simp at hj) _ _ _ (m := 1) (k := 1) (by omega) (lenOf_slice _ _ _ _) (run_firstCells_some W _ _ _ _ _ _ (by rw [hsz]; exact hvl) (fun j v hj => ?_)) (by omega) h1v
    have : (⟨vb, vo, none⟩ : Addr).add j = ⟨vb, vo + j, none⟩ := by unfold Addr.add; split <;> simp_all
    rw [this]
    have e : W.cell? ⟨vb, vo + j, none⟩ = va[vo + j]? := by simp [World.cell?, hW, hWo vb hvw, hmemv]
    rw [e]; exact hvs j v hj
  have hcp2 : ∀ (W : World), W.heap = (W1.setRow w.heap.size A1).heap → ∀ ty dc sc, (Builtin.copy_ #[24, 24] ty #[.slice (some ⟨w.heap.size, (i + 1) * 2, none⟩) (n - i) dc, .slice (some ⟨b, i * 2, none⟩) (n - i) sc]).run Try.prog W = .ok (.int .i64 ((n - i : Nat) : Int)) (W.setRow w.heap.size A2) := fun W hW ty dc sc => by
    rw [hA2]
    have hm1 : W.heap[w.heap.size]? = some (.cells A1 40 (0, 0)) := by rw [hW]; exact setRow_heap W1 w.heap.size ROW A1 40 (0, 0) hWn
    refine run_copyR insU124 hinf W (fz := (0, 0)) hm1 (fun j _ hj => by simp at hj) _ _ _ (m := n - i) (k := n - i) (by omega) (lenOf_slice _ _ _ _) (run_firstCells_some W _ _ _ _ _ _ (by rw [hsz]; exact hcl) (fun j v hj => ?_)) (by omega) h1c
    rw [hcs, List.getElem?_drop, List.getElem?_take] at hj
    split at hj
    · have : (⟨b, i * 2, none⟩ : Addr).add j = ⟨b, i * 2 + j, none⟩ := by unfold Addr.add; split <;> simp_all
      rw [this]
      have e : W.cell? ⟨b, i * 2 + j, none⟩ = arr[i * 2 + j]? := by
        have e1 : W.heap[b]? = w.heap[b]? := by rw [hW, setRow_other W1 w.heap.size b A1 (by omega)]; exact hWo b hbw
        simp [World.cell?, e1, hmem]
      rw [e]; simpa using hj
    · cases hj
  have hb1 : (0 : Int) ≤ (i : Int) + 1 := by omega
  have hin : i ≤ n := by omega
  have hb2 : ¬ (G = i + 1) := by omega
  have hb4 : ¬ (c = i) := by omega
  have hb5 : ¬ (G = i) := by omega
  have hb3 : (i : Int) ≤ (n : Int) + 1 := by omega
  have hb6 : (c : Int) < (n : Int) + 1 := by omega
  have hb7 : i ≤ c := by omega
  rw [← hW1]
  clear hG hcs hA1 hA2 hW1 hold hROW hWn hWo hik hkk
  go_enter Try.func124, Try.ntmps124
  go_wp2_with (first
    | (at_builtin; refine Lib.wpList_append_run _ rfl _ _ _ _ rfl _ _ rfl rfl _ _ (hrz _) ?_)
    | (at_builtin; refine wpList_copy_runR _ rfl _ _ 24 24 rfl _ _ rfl rfl (hcp1 _ (by exact rfl) _ _) ?_))
  have hF : ((W1.setRow w.heap.size A1).drew).heap = (W1.setRow w.heap.size A1).heap := rfl
  go_region_law_o (refine step_copy_runR rfl _ _ 24 24 rfl (.slice (some ⟨w.heap.size, (i + 1) * 2, none⟩) (n - i) (G - (i + 1))) (.slice (some ⟨b, i * 2, none⟩) (n - i) (c - i)) (by simp [Act.eval, Act.put]) (by simp [Act.eval, Act.put]) (hcp2 _ hF 3 (G - (i + 1)) (c - i)) ?_)
  go_wp2
  go_ret
  exact ⟨rfl, rfl⟩
theorem insF124 : InsF Try.prog 124 40 2 24 := by
  intro w b i n c vb vo vc arr va tb tv fz fv vs hmem hsize hf hmemv hfv hbn hvl hvs h1v h1c hi hnc hby
  obtain ⟨inf, z, hinf, hsz, hzz, hzs, hbb⟩ := insE124
  obtain ⟨cs, hcs⟩ : ∃ cs, cs = (arr.toList.take (n * 2)).drop (i * 2) := ⟨_, rfl⟩
  have h1 : ∀ u ∈ cs, u.oneCell' = true := fun u hu => h1c u (by rw [hcs] at hu; exact List.mem_of_mem_drop hu)
  have hcl : cs.length = (n - i) * 2 := by rw [hcs]; simp; omega
  by_cases hroom : n + 1 ≤ c
  · have hvo : vo < va.size := by
      have := hvs 0 vs[0] (List.getElem?_eq_getElem (by omega))
      have := (Array.getElem?_eq_some_iff.1 this).1
      omega
    have hov : ∀ y, (callFunc 133 #[.slice (some ⟨vb, vo, none⟩) 1 vc, .slice (some ⟨b, (i + 1) * 2, none⟩) (n - i) y]).run Try.prog w = .ok (.value (.bool false)) w := fun y => by
      rw [run_callFunc_extern Try.func133 (by kernel_rfl) (by kernel_rfl) (by kernel_rfl) (e := Extern.SlicesOverlaps.overlaps #[24, 24] #[4]) (by kernel_rfl),
        Lib.run_overlaps_apart w 24 4 40 insU124 2 (fun w => by rw [run_size hinf, hsz]) ⟨vb, vo, none⟩ ⟨b, (i + 1) * 2, none⟩ 1 vc (n - i) y hbn tv tb va.size arr.size (by simp [World.shape?, hmemv]) (by simp [World.shape?, hmem]) (by omega)
          (by have := hfv vo (by omega); simp only [World.frozen?, hmemv]; simp; omega) (by have := hfv va.size (Nat.le_refl _); simp only [World.frozen?, hmemv]; simp; omega)]
      rfl
    refine (insShift124 hinf hsz w b i n c vb vo vc arr tb fz cs vs hmem (fun j hj => hf j (by omega)) hi hroom hsize hby hbn hcs hvl (fun j u hj => by simpa [World.cell?, hmemv] using hvs j u hj) h1 h1v hov _ _ rfl rfl).mono fun x w' => ?_
    rintro ⟨rfl, rfl⟩
    have hA1s : (arr.toList.take ((i + 1) * 2) ++ (cs ++ arr.toList.drop ((i + 1) * 2 + cs.length))).toArray.size = arr.size := by simp [hcl]; omega
    have hm1 := setRow_heap w.drew b arr (arr.toList.take ((i + 1) * 2) ++ (cs ++ arr.toList.drop ((i + 1) * 2 + cs.length))).toArray tb fz hmem
    generalize hA1 : (arr.toList.take ((i + 1) * 2) ++ (cs ++ arr.toList.drop ((i + 1) * 2 + cs.length))).toArray = A1 at *
    have hA2s : (A1.toList.take (i * 2) ++ (vs ++ A1.toList.drop (i * 2 + vs.length))).toArray.size = A1.size := by simp [hvl]; omega
    have hm2 := setRow_heap (w.drew.setRow b A1) b A1 (A1.toList.take (i * 2) ++ (vs ++ A1.toList.drop (i * 2 + vs.length))).toArray tb fz hm1
    refine ⟨b, c, tb, _, fz, rfl, rfl, rfl, rfl, hm2, fun j hj => hf j (by rw [hA2s, hA1s] at hj; exact hj), by rw [hA2s, hA1s]; exact hsize, hroom, ?_, .inl ⟨rfl, rfl, by rw [hA2s, hA1s], by rw [setRow_size, setRow_size]; rfl, fun j hj => ?_⟩⟩
    · subst hA1
      exact insShiftL arr.toList vs cs (i * 2) (n * 2) 2 ((i + 1) * 2) ((n + 1) * 2) (by omega) (by omega) (by omega) (by simp; omega) hvl hcs
    · rw [setRow_other _ _ _ _ hj, setRow_other _ _ _ _ hj]; rfl
  · refine (insGrow124 hinf hsz hzz hzs hbb w b i n c vb vo vc arr tb fz cs vs hmem hi hnc hroom hsize hby va tv fv hmemv hcs hvl hvs h1 h1v _ rfl _ _ _ rfl rfl rfl).mono fun x w' => ?_
    rintro ⟨rfl, rfl⟩
    have hGn : n + 1 ≤ grownCap w (n + 1) c 40 := grownCap_ge w _ _ _
    have hzc : ∀ k, (Builtin.zeroCells z.cells k).size = k * 2 := fun k => by rw [size_zeroCells, hzs]
    have hRs : ((arr.toList.take (i * 2)).toArray ++ Builtin.zeroCells z.cells (n + 1 - i) ++ Builtin.zeroCells z.cells (grownCap w (n + 1) c 40 - (n + 1))).size = grownCap w (n + 1) c 40 * 2 := by
      simp only [Array.size_append, hzc, List.size_toArray, List.length_take, Array.length_toList]; omega
    have hRt : ((arr.toList.take (i * 2)).toArray ++ Builtin.zeroCells z.cells (n + 1 - i) ++ Builtin.zeroCells z.cells (grownCap w (n + 1) c 40 - (n + 1))).toList.take (i * 2) = arr.toList.take (i * 2) := by
      simp only [Array.toList_append, List.append_assoc]
      exact List.take_left' (by simp; omega)
    generalize hG : grownCap w (n + 1) c 40 = G at *
    generalize hR : (arr.toList.take (i * 2)).toArray ++ Builtin.zeroCells z.cells (n + 1 - i) ++ Builtin.zeroCells z.cells (G - (n + 1)) = ROW at *
    have hm0 : (w.drew.alloc (.cells ROW 40)).heap[w.heap.size]? = some (.cells ROW 40 (0, 0)) := heap_alloc_new w.drew _
    have hA1s : (ROW.toList.take (i * 2) ++ (vs ++ ROW.toList.drop (i * 2 + vs.length))).toArray.size = ROW.size := by simp [hvl]; omega
    have hm1 := setRow_heap (w.drew.alloc (.cells ROW 40)) w.heap.size ROW (ROW.toList.take (i * 2) ++ (vs ++ ROW.toList.drop (i * 2 + vs.length))).toArray 40 (0, 0) hm0
    generalize hA1 : (ROW.toList.take (i * 2) ++ (vs ++ ROW.toList.drop (i * 2 + vs.length))).toArray = A1 at *
    have hA2s : (A1.toList.take ((i + 1) * 2) ++ (cs ++ A1.toList.drop ((i + 1) * 2 + cs.length))).toArray.size = A1.size := by simp [hcl]; omega
    have hm2 := setRow_heap ((w.drew.alloc (.cells ROW 40)).setRow w.heap.size A1).drew w.heap.size A1 (A1.toList.take ((i + 1) * 2) ++ (cs ++ A1.toList.drop ((i + 1) * 2 + cs.length))).toArray 40 (0, 0) hm1
    refine ⟨w.heap.size, G, 40, _, (0, 0), rfl, rfl, rfl, rfl, hm2, fun j _ hj => by simp at hj, by rw [hA2s, hA1s]; exact hRs, hGn, ?_, .inr ⟨rfl, rfl, ?_, fun j hj => ?_⟩⟩
    · subst hA1
      exact insGrowL arr.toList ROW.toList vs cs (i * 2) (n * 2) 2 ((i + 1) * 2) ((n + 1) * 2) (by omega) (by omega) (by omega) (by simp; omega) hvl hcs hRt
    · rw [setRow_size]
      show ((w.drew.alloc (.cells ROW 40)).setRow w.heap.size A1).heap.size = _
      rw [setRow_size]
      simp
    · rw [setRow_other _ _ _ _ (by omega)]
      show ((w.drew.alloc (.cells ROW 40)).setRow w.heap.size A1).heap[j]? = _
      rw [setRow_other _ _ _ _ (by omega)]
      exact heap_alloc_old w.drew _ hj


def insT : InsT := [(129, (132, 3, 24)), (124, (40, 2, 24))]
theorem insT_ok : InsOk Try.prog insT := by
  intro f e sz bytes h
  by_cases h129 : f = 129
  · subst h129
    simp [insT, List.lookup] at h
    obtain ⟨rfl, rfl, rfl⟩ := h
    exact ⟨insF129, _, Try.func129, by kernel_rfl, by kernel_rfl⟩
  have e129 : (f == 129) = false := by simpa using h129
  by_cases h124 : f = 124
  · subst h124
    simp [insT, List.lookup] at h
    obtain ⟨rfl, rfl, rfl⟩ := h
    exact ⟨insF124, _, Try.func124, by kernel_rfl, by kernel_rfl⟩
  have e124 : (f == 124) = false := by simpa using h124
  simp [insT, List.lookup, e129, e124] at h

def tyN : Nat → Ty
  | 0 => .unit
  | n + 1 => .pair (.int .i64) (tyN n)
theorem cA89 : isA ((evOY nonJ noneΞ [91,96,94,74] P0 100000 60).1 89 [.snil] []) = true := by kernel_rfl
theorem cB89 : isB ((evOY nonJ noneΞ [91,96,94,74] P0 100000 60).1 89 [.nl ⟨tyN 5, []⟩] []) = true := by kernel_rfl
noncomputable def YC0 : Orc := addC 89 noneΞ
theorem okYC0 : GammaOk2 P0 YC0 := addC_ok (noneΞ_ok2 _) (evOY_ok (nonJ_ok _) (noneΞ_ok2 _) mixed progOk_ 60).1 cA89 cB89
theorem cA90 : isA ((evOY nonJ noneΞ [91,96,94,74] P0 100000 60).1 90 [.snil] []) = true := by kernel_rfl
theorem cB90 : isB ((evOY nonJ noneΞ [91,96,94,74] P0 100000 60).1 90 [.nl ⟨tyN 2, []⟩] []) = true := by kernel_rfl
noncomputable def YC1 : Orc := addC 90 YC0
theorem okYC1 : GammaOk2 P0 YC1 := addC_ok okYC0 (evOY_ok (nonJ_ok _) (noneΞ_ok2 _) mixed progOk_ 60).1 cA90 cB90
noncomputable def con_law17_begun (N : Nat) : Con := ⟨7, [], [], Unit, fun _ => some (), fun _ => (.bs true, [], [])⟩
theorem con_law17_begun_ok (N : Nat) : Con.ok P0 (con_law17_begun N) := closed_con2 (insIn_ok insT_ok) mixed progOk_ okYC1 (inl := [91,96,94,74]) (breath := 100000) (n := 60) (by kernel_rfl)
def as_Made : List AS := [.val (.list (.int .u8))]
def bs_Made : List BS := []
def pout_Made : Pat := ⟨[(2, .ptr 600005 0)], [(600005, .box 75 (.val (.pair (.list (.int .u8)) (.int .i64))))]⟩
noncomputable def G_Made  (N : Nat) : OrcT := orcOf []
noncomputable def F_Made  (N : Nat) (x : List Int) : Option ((List Int) × Int) :=
  (evT (G_Made  N) L0 P0 []
    [] N 400 (bodyOf Try.f8) ⟨6, slots 0 (argsOf as_Made bs_Made x), tabU (lbOf as_Made bs_Made x) [], []⟩).elim (kRet 6 pout_Made (kpL []) (lbOf as_Made bs_Made x))
def out_Made (y : (List Int) × Int) : V × List OK × List OK := (.ptr 2000000 0 0, [], [.box 75 (cellsW (.pair (.list (.int .u8)) (.int .i64)) y)])
noncomputable def V_Made  (N : Nat) (x : List Int) : Option ((List Int) × Int) :=
  some (x, (0 : Int))
theorem FV_Made_eq  (N : Nat) (x : List Int) : F_Made  N x = V_Made  N x := by kernel_rfl
noncomputable def W_Made (N : Nat) (x : List Int) : Option ((List Int) × Int) :=
  some (x, (0 : Int))
theorem F_Made_eq (N : Nat) (x : List Int) : F_Made  N x = W_Made N x := (FV_Made_eq  N x).trans (by kernel_rfl)
noncomputable def conw_Made (w : List Int → Option ((List Int) × Int)) : Con := ⟨8, as_Made, bs_Made, (List Int) × Int, w, out_Made⟩
noncomputable def con_Made (N : Nat) : Con := conw_Made (W_Made N)
theorem R_Made_eq (x : List Int) (y : (List Int) × Int) : retOf2 P0 Try.f8 (kpL []) (lbOf as_Made bs_Made x) (patS ⟨6, [], [], []⟩ pout_Made y) = some (out_Made y) := by kernel_rfl
theorem con_Made_ok (N : Nat) : Con.ok P0 (con_Made N) := ⟨⟨Try.f8, Try.func8, by kernel_rfl, by kernel_rfl⟩, fun (x : List Int) (r : (List Int) × Int) (hr : W_Made N x = some r) =>
  spec2_evT (Γ := G_Made N) (Λ := L0) (pout := pout_Made) (kp := kpL []) mixed (orcOf_ok [] (by simp)) Try.func8 (c := bodyOf Try.f8) (by kernel_rfl) (by kernel_rfl) (of_decide_eq_true (by kernel_rfl)) ((F_Made_eq N x).trans hr) (R_Made_eq x r)⟩
def as_Picks_Num : List AS := [.ptr 0 0, .val (.int .i64)]
def bs_Picks_Num : List BS := [.box 75 (.pair (.list (.int .u8)) (.int .i64))]
def pout_Picks_Num : Pat := ⟨[(0, .ptr 1000000 0), (4, .val (.int .i64))], [(1000000, .box 75 (.val (.pair (.list (.int .u8)) (.int .i64))))]⟩
noncomputable def G_Picks_Num  (N : Nat) : OrcT := orcOf []
noncomputable def F_Picks_Num  (N : Nat) (x : Int × (List Int) × Int) : Option (Int × (List Int) × Int) :=
  (evT (G_Picks_Num  N) L0 P0 []
    [] N 400 (bodyOf Try.f30) ⟨40, slots 0 (argsOf as_Picks_Num bs_Picks_Num x), tabU (lbOf as_Picks_Num bs_Picks_Num x) [], []⟩).elim (kRet 40 pout_Picks_Num (kpL [true]) (lbOf as_Picks_Num bs_Picks_Num x))
def out_Picks_Num (y : Int × (List Int) × Int) : V × List OK × List OK := (valW (.int .i64) y.1, [.box 75 (cellsW (.pair (.list (.int .u8)) (.int .i64)) y.2)], [])
noncomputable def V_Picks_Num  (N : Nat) (x : Int × (List Int) × Int) : Option (Int × (List Int) × Int) :=
  cnd (decide ((↑(List.length x.2.1) : Int) ≤ x.2.2)) (some ((0 : Int), x.2.1, x.2.2)) (cnd (decide (x.1 < (1 : Int))) (some ((0 : Int), x.2.1, x.2.2))
    (cnd (decide ((0 : Int) ≤ wr IntKind.i64 (wr IntKind.i64 (x.2.2 + (1 : Int)) - (1 : Int))) && decide (wr IntKind.i64 (wr IntKind.i64 (x.2.2 + (1 :
    Int)) - (1 : Int)) < (↑(List.length x.2.1) : Int))) (cnd (!decide (x.1 = (0 : Int))) (some (Int.tmod (wr IntKind.i64 (List.getD x.2.1 (Int.toNat (wr
    IntKind.i64 (wr IntKind.i64 (x.2.2 + (1 : Int)) - (1 : Int)))) (0 : Int))) x.1, x.2.1, wr IntKind.i64 (x.2.2 + (1 : Int)))) none) none))
theorem FV_Picks_Num_eq  (N : Nat) (x : Int × (List Int) × Int) : F_Picks_Num  N x = V_Picks_Num  N x := by kernel_rfl
noncomputable def W_Picks_Num (N : Nat) (x : Int × (List Int) × Int) : Option (Int × (List Int) × Int) :=
  cnd (decide ((↑(List.length x.2.1) : Int) ≤ x.2.2)) (some ((0 : Int), x.2.1, x.2.2)) (cnd (decide (x.1 < (1 : Int))) (some ((0 : Int), x.2.1, x.2.2))
    (cnd (decide ((0 : Int) ≤ wr IntKind.i64 (wr IntKind.i64 (x.2.2 + (1 : Int)) - (1 : Int))) && decide (wr IntKind.i64 (wr IntKind.i64 (x.2.2 + (1 :
    Int)) - (1 : Int)) < (↑(List.length x.2.1) : Int))) (cnd (!decide (x.1 = (0 : Int))) (some (Int.tmod (wr IntKind.i64 (List.getD x.2.1 (Int.toNat (wr
    IntKind.i64 (wr IntKind.i64 (x.2.2 + (1 : Int)) - (1 : Int)))) (0 : Int))) x.1, x.2.1, wr IntKind.i64 (x.2.2 + (1 : Int)))) none) none))
theorem F_Picks_Num_eq (N : Nat) (x : Int × (List Int) × Int) : F_Picks_Num  N x = W_Picks_Num N x := (FV_Picks_Num_eq  N x).trans (by kernel_rfl)
noncomputable def conw_Picks_Num (w : Int × (List Int) × Int → Option (Int × (List Int) × Int)) : Con := ⟨30, as_Picks_Num, bs_Picks_Num, Int × (List Int) × Int, w, out_Picks_Num⟩
noncomputable def con_Picks_Num (N : Nat) : Con := conw_Picks_Num (W_Picks_Num N)
theorem R_Picks_Num_eq (x : Int × (List Int) × Int) (y : Int × (List Int) × Int) : retOf2 P0 Try.f30 (kpL [true]) (lbOf as_Picks_Num bs_Picks_Num x) (patS ⟨40, [], [], []⟩ pout_Picks_Num y) = some (out_Picks_Num y) := by kernel_rfl
theorem con_Picks_Num_ok (N : Nat) : Con.ok P0 (con_Picks_Num N) := ⟨⟨Try.f30, Try.func30, by kernel_rfl, by kernel_rfl⟩, fun (x : Int × (List Int) × Int) (r : Int × (List Int) × Int) (hr : W_Picks_Num N x = some r) =>
  spec2_evT (Γ := G_Picks_Num N) (Λ := L0) (pout := pout_Picks_Num) (kp := kpL [true]) mixed (orcOf_ok [] (by simp)) Try.func30 (c := bodyOf Try.f30) (by kernel_rfl) (by kernel_rfl) (of_decide_eq_true (by kernel_rfl)) ((F_Picks_Num_eq N x).trans hr) (R_Picks_Num_eq x r)⟩
def as_ref13_Knows : List AS := [.val (.agg (.pair (.int .i64) (.pair (.int .i64) (.pair (.list (.agg (.pair (.int .i64) .str))) (.pair (.list (.agg (.pair (.int .i64) .str))) (.pair (.list (.agg (.pair (.int .i64) (.pair (.int .i64) (.pair (.int .i64) (.pair .str (.int .i64))))))) (.agg (.pair (.int .i64) (.int .i64))))))))), .val (.int .i64)]
def bs_ref13_Knows : List BS := []
def pout_ref13_Knows : Pat := ⟨[(4, .ptr 600004 0)], [(600004, .box 29 (.val (.pair (.int .i64) (.pair (.int .i64) (.pair (.list (.agg (.pair (.int .i64) .str))) (.pair (.list (.agg (.pair (.int .i64) .str))) (.pair (.list (.agg (.pair (.int .i64) (.pair (.int .i64) (.pair (.int .i64) (.pair .str (.int .i64))))))) (.agg (.pair (.int .i64) (.int .i64))))))))))]⟩
noncomputable def G_ref13_Knows  (N : Nat) : OrcT := orcOf []
noncomputable def F_ref13_Knows  (N : Nat) (x : (Int × Int × (List (Int × List UInt8)) × (List (Int × List UInt8)) × (List (Int × Int × Int × (List UInt8) × Int)) × Int × Int) × Int) : Option (Int × Int × (List (Int × List UInt8)) × (List (Int × List UInt8)) × (List (Int × Int × Int × (List UInt8) × Int)) × Int × Int) :=
  (evT (G_ref13_Knows  N) L0 P0 []
    [] N 400 (bodyOf Try.f33) ⟨18, slots 0 (argsOf as_ref13_Knows bs_ref13_Knows x), tabU (lbOf as_ref13_Knows bs_ref13_Knows x) [], []⟩).elim (kRet 18 pout_ref13_Knows (kpL []) (lbOf as_ref13_Knows bs_ref13_Knows x))
def out_ref13_Knows (y : Int × Int × (List (Int × List UInt8)) × (List (Int × List UInt8)) × (List (Int × Int × Int × (List UInt8) × Int)) × Int × Int) : V × List OK × List OK := (valW (.agg (.pair (.int .i64) (.pair (.int .i64) (.pair (.list (.agg (.pair (.int .i64) .str))) (.pair (.list (.agg (.pair (.int .i64) .str))) (.pair (.list (.agg (.pair (.int .i64) (.pair (.int .i64) (.pair (.int .i64) (.pair .str (.int .i64))))))) (.agg (.pair (.int .i64) (.int .i64))))))))) y, [], [])
noncomputable def V_ref13_Knows  (N : Nat) (x : (Int × Int × (List (Int × List UInt8)) × (List (Int × List UInt8)) × (List (Int × Int × Int × (List UInt8) × Int)) × Int × Int) × Int) : Option (Int × Int × (List (Int × List UInt8)) × (List (Int × List UInt8)) × (List (Int × Int × Int × (List UInt8) × Int)) × Int × Int) :=
  cnd (decide ((0 : Int) < x.1.1)) (cnd (decide (x.2 ≤ (1000000 : Int))) (some (x.1.1, max x.1.2.1 x.2, x.1.2.2.1, x.1.2.2.2.1, x.1.2.2.2.2.1,
    x.1.2.2.2.2.2.1, x.1.2.2.2.2.2.2)) (some (x.1.1, x.1.2.1, x.1.2.2.1, x.1.2.2.2.1, x.1.2.2.2.2.1, x.1.2.2.2.2.2.1, x.1.2.2.2.2.2.2))) (some (x.1.1,
    x.1.2.1, x.1.2.2.1, x.1.2.2.2.1, x.1.2.2.2.2.1, x.1.2.2.2.2.2.1, x.1.2.2.2.2.2.2))
theorem FV_ref13_Knows_eq  (N : Nat) (x : (Int × Int × (List (Int × List UInt8)) × (List (Int × List UInt8)) × (List (Int × Int × Int × (List UInt8) × Int)) × Int × Int) × Int) : F_ref13_Knows  N x = V_ref13_Knows  N x := by kernel_rfl
noncomputable def W_ref13_Knows (N : Nat) (x : (Int × Int × (List (Int × List UInt8)) × (List (Int × List UInt8)) × (List (Int × Int × Int × (List UInt8) × Int)) × Int × Int) × Int) : Option (Int × Int × (List (Int × List UInt8)) × (List (Int × List UInt8)) × (List (Int × Int × Int × (List UInt8) × Int)) × Int × Int) :=
  cnd (decide ((0 : Int) < x.1.1)) (cnd (decide (x.2 ≤ (1000000 : Int))) (some (x.1.1, max x.1.2.1 x.2, x.1.2.2.1, x.1.2.2.2.1, x.1.2.2.2.2.1,
    x.1.2.2.2.2.2.1, x.1.2.2.2.2.2.2)) (some (x.1.1, x.1.2.1, x.1.2.2.1, x.1.2.2.2.1, x.1.2.2.2.2.1, x.1.2.2.2.2.2.1, x.1.2.2.2.2.2.2))) (some (x.1.1,
    x.1.2.1, x.1.2.2.1, x.1.2.2.2.1, x.1.2.2.2.2.1, x.1.2.2.2.2.2.1, x.1.2.2.2.2.2.2))
theorem F_ref13_Knows_eq (N : Nat) (x : (Int × Int × (List (Int × List UInt8)) × (List (Int × List UInt8)) × (List (Int × Int × Int × (List UInt8) × Int)) × Int × Int) × Int) : F_ref13_Knows  N x = W_ref13_Knows N x := (FV_ref13_Knows_eq  N x).trans (by kernel_rfl)
noncomputable def conw_ref13_Knows (w : (Int × Int × (List (Int × List UInt8)) × (List (Int × List UInt8)) × (List (Int × Int × Int × (List UInt8) × Int)) × Int × Int) × Int → Option (Int × Int × (List (Int × List UInt8)) × (List (Int × List UInt8)) × (List (Int × Int × Int × (List UInt8) × Int)) × Int × Int)) : Con := ⟨33, as_ref13_Knows, bs_ref13_Knows, Int × Int × (List (Int × List UInt8)) × (List (Int × List UInt8)) × (List (Int × Int × Int × (List UInt8) × Int)) × Int × Int, w, out_ref13_Knows⟩
noncomputable def con_ref13_Knows (N : Nat) : Con := conw_ref13_Knows (W_ref13_Knows N)
theorem R_ref13_Knows_eq (x : (Int × Int × (List (Int × List UInt8)) × (List (Int × List UInt8)) × (List (Int × Int × Int × (List UInt8) × Int)) × Int × Int) × Int) (y : Int × Int × (List (Int × List UInt8)) × (List (Int × List UInt8)) × (List (Int × Int × Int × (List UInt8) × Int)) × Int × Int) : retOf2 P0 Try.f33 (kpL []) (lbOf as_ref13_Knows bs_ref13_Knows x) (patS ⟨18, [], [], []⟩ pout_ref13_Knows y) = some (out_ref13_Knows y) := by kernel_rfl
theorem con_ref13_Knows_ok (N : Nat) : Con.ok P0 (con_ref13_Knows N) := ⟨⟨Try.f33, Try.func33, by kernel_rfl, by kernel_rfl⟩, fun (x : (Int × Int × (List (Int × List UInt8)) × (List (Int × List UInt8)) × (List (Int × Int × Int × (List UInt8) × Int)) × Int × Int) × Int) (r : Int × Int × (List (Int × List UInt8)) × (List (Int × List UInt8)) × (List (Int × Int × Int × (List UInt8) × Int)) × Int × Int) (hr : W_ref13_Knows N x = some r) =>
  spec2_evT (Γ := G_ref13_Knows N) (Λ := L0) (pout := pout_ref13_Knows) (kp := kpL []) mixed (orcOf_ok [] (by simp)) Try.func33 (c := bodyOf Try.f33) (by kernel_rfl) (by kernel_rfl) (of_decide_eq_true (by kernel_rfl)) ((F_ref13_Knows_eq N x).trans hr) (R_ref13_Knows_eq x r)⟩
def as_ref13_Begin : List AS := [.val (.agg (.pair (.int .i64) (.pair (.int .i64) (.pair (.list (.agg (.pair (.int .i64) .str))) (.pair (.list (.agg (.pair (.int .i64) .str))) (.pair (.list (.agg (.pair (.int .i64) (.pair (.int .i64) (.pair (.int .i64) (.pair .str (.int .i64))))))) (.agg (.pair (.int .i64) (.int .i64))))))))), .val (.int .i64)]
def bs_ref13_Begin : List BS := []
def pout_ref13_Begin : Pat := ⟨[(4, .ptr 600004 0)], [(600004, .box 29 (.val (.pair (.int .i64) (.pair (.int .i64) (.pair (.list (.agg (.pair (.int .i64) .str))) (.pair (.list (.agg (.pair (.int .i64) .str))) (.pair (.list (.agg (.pair (.int .i64) (.pair (.int .i64) (.pair (.int .i64) (.pair .str (.int .i64))))))) (.agg (.pair (.int .i64) (.int .i64))))))))))]⟩
noncomputable def G_ref13_Begin (w_ref13_Knows : (Int × Int × (List (Int × List UInt8)) × (List (Int × List UInt8)) × (List (Int × Int × Int × (List UInt8) × Int)) × Int × Int) × Int → Option (Int × Int × (List (Int × List UInt8)) × (List (Int × List UInt8)) × (List (Int × Int × Int × (List UInt8) × Int)) × Int × Int)) (N : Nat) : OrcT := orcOf [conw_ref13_Knows w_ref13_Knows]
noncomputable def F_ref13_Begin (w_ref13_Knows : (Int × Int × (List (Int × List UInt8)) × (List (Int × List UInt8)) × (List (Int × Int × Int × (List UInt8) × Int)) × Int × Int) × Int → Option (Int × Int × (List (Int × List UInt8)) × (List (Int × List UInt8)) × (List (Int × Int × Int × (List UInt8) × Int)) × Int × Int)) (N : Nat) (x : (Int × Int × (List (Int × List UInt8)) × (List (Int × List UInt8)) × (List (Int × Int × Int × (List UInt8) × Int)) × Int × Int) × Int) : Option (Int × Int × (List (Int × List UInt8)) × (List (Int × List UInt8)) × (List (Int × Int × Int × (List UInt8) × Int)) × Int × Int) :=
  (evT (G_ref13_Begin w_ref13_Knows N) L0 P0 []
    [] N 400 (bodyOf Try.f29) ⟨21, slots 0 (argsOf as_ref13_Begin bs_ref13_Begin x), tabU (lbOf as_ref13_Begin bs_ref13_Begin x) [], []⟩).elim (kRet 21 pout_ref13_Begin (kpL []) (lbOf as_ref13_Begin bs_ref13_Begin x))
def out_ref13_Begin (y : Int × Int × (List (Int × List UInt8)) × (List (Int × List UInt8)) × (List (Int × Int × Int × (List UInt8) × Int)) × Int × Int) : V × List OK × List OK := (valW (.agg (.pair (.int .i64) (.pair (.int .i64) (.pair (.list (.agg (.pair (.int .i64) .str))) (.pair (.list (.agg (.pair (.int .i64) .str))) (.pair (.list (.agg (.pair (.int .i64) (.pair (.int .i64) (.pair (.int .i64) (.pair .str (.int .i64))))))) (.agg (.pair (.int .i64) (.int .i64))))))))) y, [], [])
noncomputable def V_ref13_Begin (w_ref13_Knows : (Int × Int × (List (Int × List UInt8)) × (List (Int × List UInt8)) × (List (Int × Int × Int × (List UInt8) × Int)) × Int × Int) × Int → Option (Int × Int × (List (Int × List UInt8)) × (List (Int × List UInt8)) × (List (Int × Int × Int × (List UInt8) × Int)) × Int × Int)) (N : Nat) (x : (Int × Int × (List (Int × List UInt8)) × (List (Int × List UInt8)) × (List (Int × Int × Int × (List UInt8) × Int)) × Int × Int) × Int) : Option (Int × Int × (List (Int × List UInt8)) × (List (Int × List UInt8)) × (List (Int × Int × Int × (List UInt8) × Int)) × Int × Int) :=
  cnd (decide ((0 : Int) < x.1.1)) (obind (w_ref13_Knows ((x.1.1, x.1.2.1, x.1.2.2.1, x.1.2.2.2.1, x.1.2.2.2.2.1, x.1.2.2.2.2.2.1, x.1.2.2.2.2.2.2),
    wr IntKind.i64 (x.2 - (1 : Int)))) fun (b : Int × Int × List (Int × List UInt8) × List (Int × List UInt8) × List (Int × Int × Int × List UInt8 ×
    Int) × Int × Int) => some (b.1, b.2.1, b.2.2.1, b.2.2.2.1, b.2.2.2.2.1, b.2.2.2.2.2.1, b.2.2.2.2.2.2)) (cnd (decide ((1 : Int) ≤ x.2)) (cnd (decide
    (x.2 ≤ (1000000 : Int))) (some (x.2, x.1.2.1, x.1.2.2.1, x.1.2.2.2.1, x.1.2.2.2.2.1, x.1.2.2.2.2.2.1, x.1.2.2.2.2.2.2)) (some (x.1.1, x.1.2.1,
    x.1.2.2.1, x.1.2.2.2.1, x.1.2.2.2.2.1, x.1.2.2.2.2.2.1, x.1.2.2.2.2.2.2))) (some (x.1.1, x.1.2.1, x.1.2.2.1, x.1.2.2.2.1, x.1.2.2.2.2.1,
    x.1.2.2.2.2.2.1, x.1.2.2.2.2.2.2)))
theorem FV_ref13_Begin_eq (w_ref13_Knows : (Int × Int × (List (Int × List UInt8)) × (List (Int × List UInt8)) × (List (Int × Int × Int × (List UInt8) × Int)) × Int × Int) × Int → Option (Int × Int × (List (Int × List UInt8)) × (List (Int × List UInt8)) × (List (Int × Int × Int × (List UInt8) × Int)) × Int × Int)) (N : Nat) (x : (Int × Int × (List (Int × List UInt8)) × (List (Int × List UInt8)) × (List (Int × Int × Int × (List UInt8) × Int)) × Int × Int) × Int) : F_ref13_Begin w_ref13_Knows N x = V_ref13_Begin w_ref13_Knows N x := by kernel_rfl
noncomputable def W_ref13_Begin (N : Nat) (x : (Int × Int × (List (Int × List UInt8)) × (List (Int × List UInt8)) × (List (Int × Int × Int × (List UInt8) × Int)) × Int × Int) × Int) : Option (Int × Int × (List (Int × List UInt8)) × (List (Int × List UInt8)) × (List (Int × Int × Int × (List UInt8) × Int)) × Int × Int) :=
  cnd (decide ((0 : Int) < x.1.1)) (obind (W_ref13_Knows N ((x.1.1, x.1.2.1, x.1.2.2.1, x.1.2.2.2.1, x.1.2.2.2.2.1, x.1.2.2.2.2.2.1, x.1.2.2.2.2.2.2),
    wr IntKind.i64 (x.2 - (1 : Int)))) fun (b : Int × Int × List (Int × List UInt8) × List (Int × List UInt8) × List (Int × Int × Int × List UInt8 ×
    Int) × Int × Int) => some (b.1, b.2.1, b.2.2.1, b.2.2.2.1, b.2.2.2.2.1, b.2.2.2.2.2.1, b.2.2.2.2.2.2)) (cnd (decide ((1 : Int) ≤ x.2)) (cnd (decide
    (x.2 ≤ (1000000 : Int))) (some (x.2, x.1.2.1, x.1.2.2.1, x.1.2.2.2.1, x.1.2.2.2.2.1, x.1.2.2.2.2.2.1, x.1.2.2.2.2.2.2)) (some (x.1.1, x.1.2.1,
    x.1.2.2.1, x.1.2.2.2.1, x.1.2.2.2.2.1, x.1.2.2.2.2.2.1, x.1.2.2.2.2.2.2))) (some (x.1.1, x.1.2.1, x.1.2.2.1, x.1.2.2.2.1, x.1.2.2.2.2.1,
    x.1.2.2.2.2.2.1, x.1.2.2.2.2.2.2)))
theorem F_ref13_Begin_eq (N : Nat) (x : (Int × Int × (List (Int × List UInt8)) × (List (Int × List UInt8)) × (List (Int × Int × Int × (List UInt8) × Int)) × Int × Int) × Int) : F_ref13_Begin (W_ref13_Knows N) N x = W_ref13_Begin N x := (FV_ref13_Begin_eq (W_ref13_Knows N) N x).trans (by kernel_rfl)
noncomputable def conw_ref13_Begin (w : (Int × Int × (List (Int × List UInt8)) × (List (Int × List UInt8)) × (List (Int × Int × Int × (List UInt8) × Int)) × Int × Int) × Int → Option (Int × Int × (List (Int × List UInt8)) × (List (Int × List UInt8)) × (List (Int × Int × Int × (List UInt8) × Int)) × Int × Int)) : Con := ⟨29, as_ref13_Begin, bs_ref13_Begin, Int × Int × (List (Int × List UInt8)) × (List (Int × List UInt8)) × (List (Int × Int × Int × (List UInt8) × Int)) × Int × Int, w, out_ref13_Begin⟩
noncomputable def con_ref13_Begin (N : Nat) : Con := conw_ref13_Begin (W_ref13_Begin N)
theorem R_ref13_Begin_eq (x : (Int × Int × (List (Int × List UInt8)) × (List (Int × List UInt8)) × (List (Int × Int × Int × (List UInt8) × Int)) × Int × Int) × Int) (y : Int × Int × (List (Int × List UInt8)) × (List (Int × List UInt8)) × (List (Int × Int × Int × (List UInt8) × Int)) × Int × Int) : retOf2 P0 Try.f29 (kpL []) (lbOf as_ref13_Begin bs_ref13_Begin x) (patS ⟨21, [], [], []⟩ pout_ref13_Begin y) = some (out_ref13_Begin y) := by kernel_rfl
theorem con_ref13_Begin_ok (N : Nat) : Con.ok P0 (con_ref13_Begin N) := ⟨⟨Try.f29, Try.func29, by kernel_rfl, by kernel_rfl⟩, fun (x : (Int × Int × (List (Int × List UInt8)) × (List (Int × List UInt8)) × (List (Int × Int × Int × (List UInt8) × Int)) × Int × Int) × Int) (r : Int × Int × (List (Int × List UInt8)) × (List (Int × List UInt8)) × (List (Int × Int × Int × (List UInt8) × Int)) × Int × Int) (hr : W_ref13_Begin N x = some r) =>
  spec2_evT (Γ := G_ref13_Begin (W_ref13_Knows N) N) (Λ := L0) (pout := pout_ref13_Begin) (kp := kpL []) mixed (orcOf_ok _ (by simp only [List.mem_cons, List.not_mem_nil, or_false, forall_eq_or_imp, forall_eq]; exact con_ref13_Knows_ok N)) Try.func29 (c := bodyOf Try.f29) (by kernel_rfl) (by kernel_rfl) (of_decide_eq_true (by kernel_rfl)) ((F_ref13_Begin_eq N x).trans hr) (R_ref13_Begin_eq x r)⟩
def as_Picks_Over : List AS := [.ptr 0 0]
def bs_Picks_Over : List BS := [.box 75 (.pair (.list (.int .u8)) (.int .i64))]
def pout_Picks_Over : Pat := ⟨[(0, .ptr 1000000 0), (2, .val .bool)], [(1000000, .box 75 (.val (.pair (.list (.int .u8)) (.int .i64))))]⟩
noncomputable def G_Picks_Over  (N : Nat) : OrcT := orcOf []
noncomputable def F_Picks_Over  (N : Nat) (x : (List Int) × Int) : Option (Bool × (List Int) × Int) :=
  (evT (G_Picks_Over  N) L0 P0 []
    [] N 400 (bodyOf Try.f31) ⟨13, slots 0 (argsOf as_Picks_Over bs_Picks_Over x), tabU (lbOf as_Picks_Over bs_Picks_Over x) [], []⟩).elim (kRet 13 pout_Picks_Over (kpL [true]) (lbOf as_Picks_Over bs_Picks_Over x))
def out_Picks_Over (y : Bool × (List Int) × Int) : V × List OK × List OK := (valW .bool y.1, [.box 75 (cellsW (.pair (.list (.int .u8)) (.int .i64)) y.2)], [])
noncomputable def V_Picks_Over  (N : Nat) (x : (List Int) × Int) : Option (Bool × (List Int) × Int) :=
  some (decide ((↑(List.length x.1) : Int) ≤ x.2), x.1, x.2)
theorem FV_Picks_Over_eq  (N : Nat) (x : (List Int) × Int) : F_Picks_Over  N x = V_Picks_Over  N x := by kernel_rfl
noncomputable def W_Picks_Over (N : Nat) (x : (List Int) × Int) : Option (Bool × (List Int) × Int) :=
  some (decide ((↑(List.length x.1) : Int) ≤ x.2), x.1, x.2)
theorem F_Picks_Over_eq (N : Nat) (x : (List Int) × Int) : F_Picks_Over  N x = W_Picks_Over N x := (FV_Picks_Over_eq  N x).trans (by kernel_rfl)
noncomputable def conw_Picks_Over (w : (List Int) × Int → Option (Bool × (List Int) × Int)) : Con := ⟨31, as_Picks_Over, bs_Picks_Over, Bool × (List Int) × Int, w, out_Picks_Over⟩
noncomputable def con_Picks_Over (N : Nat) : Con := conw_Picks_Over (W_Picks_Over N)
theorem R_Picks_Over_eq (x : (List Int) × Int) (y : Bool × (List Int) × Int) : retOf2 P0 Try.f31 (kpL [true]) (lbOf as_Picks_Over bs_Picks_Over x) (patS ⟨13, [], [], []⟩ pout_Picks_Over y) = some (out_Picks_Over y) := by kernel_rfl
theorem con_Picks_Over_ok (N : Nat) : Con.ok P0 (con_Picks_Over N) := ⟨⟨Try.f31, Try.func31, by kernel_rfl, by kernel_rfl⟩, fun (x : (List Int) × Int) (r : Bool × (List Int) × Int) (hr : W_Picks_Over N x = some r) =>
  spec2_evT (Γ := G_Picks_Over N) (Λ := L0) (pout := pout_Picks_Over) (kp := kpL [true]) mixed (orcOf_ok [] (by simp)) Try.func31 (c := bodyOf Try.f31) (by kernel_rfl) (by kernel_rfl) (of_decide_eq_true (by kernel_rfl)) ((F_Picks_Over_eq N x).trans hr) (R_Picks_Over_eq x r)⟩
def as_ref1_MaySpan : List AS := [.val (.agg (.pair (.int .i64) (.int .i64)))]
def bs_ref1_MaySpan : List BS := []
def pout_ref1_MaySpan : Pat := ⟨[(2, .val .bool)], []⟩
noncomputable def G_ref1_MaySpan  (N : Nat) : OrcT := orcOf []
noncomputable def F_ref1_MaySpan  (N : Nat) (x : Int × Int) : Option (Bool) :=
  (evT (G_ref1_MaySpan  N) L0 P0 []
    [(1000001, .reg [(10, [], ⟨[(1, .ptr 600001 0), (12, .val .bool)], [(600001, .box 67 (.val (.pair (.int .i64) (.int .i64))))]⟩)])] N 400 (bodyOf Try.f38) ⟨18, slots 0 (argsOf as_ref1_MaySpan bs_ref1_MaySpan x), tabU (lbOf as_ref1_MaySpan bs_ref1_MaySpan x) [], []⟩).elim (kRet 18 pout_ref1_MaySpan (kpL []) (lbOf as_ref1_MaySpan bs_ref1_MaySpan x))
def out_ref1_MaySpan (y : Bool) : V × List OK × List OK := (valW .bool y, [], [])
noncomputable def V_ref1_MaySpan  (N : Nat) (x : Int × Int) : Option (Bool) :=
  obind
    (cnd (decide ((1 : Int) ≤ x.1)) (some (decide (x.1 ≤ x.2), x.1, x.2))
      (some (false, x.1, x.2)))
    fun (b : Bool × Int × Int) => cnd b.1 (some (decide (b.2.2 ≤ (1000000 : Int)))) (some false)
theorem FV_ref1_MaySpan_eq  (N : Nat) (x : Int × Int) : F_ref1_MaySpan  N x = V_ref1_MaySpan  N x := by kernel_rfl
noncomputable def W_ref1_MaySpan (N : Nat) (x : Int × Int) : Option (Bool) :=
  obind
    (cnd (decide ((1 : Int) ≤ x.1)) (some (decide (x.1 ≤ x.2), x.1, x.2))
      (some (false, x.1, x.2)))
    fun (b : Bool × Int × Int) => cnd b.1 (some (decide (b.2.2 ≤ (1000000 : Int)))) (some false)
theorem F_ref1_MaySpan_eq (N : Nat) (x : Int × Int) : F_ref1_MaySpan  N x = W_ref1_MaySpan N x := (FV_ref1_MaySpan_eq  N x).trans (by kernel_rfl)
noncomputable def conw_ref1_MaySpan (w : Int × Int → Option (Bool)) : Con := ⟨38, as_ref1_MaySpan, bs_ref1_MaySpan, Bool, w, out_ref1_MaySpan⟩
noncomputable def con_ref1_MaySpan (N : Nat) : Con := conw_ref1_MaySpan (W_ref1_MaySpan N)
theorem R_ref1_MaySpan_eq (x : Int × Int) (y : Bool) : retOf2 P0 Try.f38 (kpL []) (lbOf as_ref1_MaySpan bs_ref1_MaySpan x) (patS ⟨18, [], [], []⟩ pout_ref1_MaySpan y) = some (out_ref1_MaySpan y) := by kernel_rfl
theorem con_ref1_MaySpan_ok (N : Nat) : Con.ok P0 (con_ref1_MaySpan N) := ⟨⟨Try.f38, Try.func38, by kernel_rfl, by kernel_rfl⟩, fun (x : Int × Int) (r : Bool) (hr : W_ref1_MaySpan N x = some r) =>
  spec2_evT (Γ := G_ref1_MaySpan N) (Λ := L0) (pout := pout_ref1_MaySpan) (kp := kpL []) mixed (orcOf_ok [] (by simp)) Try.func38 (c := bodyOf Try.f38) (by kernel_rfl) (by kernel_rfl) (of_decide_eq_true (by kernel_rfl)) ((F_ref1_MaySpan_eq N x).trans hr) (R_ref1_MaySpan_eq x r)⟩
def as_ref13_First : List AS := [.val (.list (.agg (.pair (.int .i64) .str)))]
def bs_ref13_First : List BS := []
def pout_ref13_First : Pat := ⟨[(2, .val (.int .i64))], []⟩
noncomputable def G_ref13_First  (N : Nat) : OrcT := orcOf []
noncomputable def F_ref13_First  (N : Nat) (x : List (Int × List UInt8)) : Option (Int) :=
  (evT (G_ref13_First  N) L0 P0 []
    [] N 400 (bodyOf Try.f120) ⟨10, slots 0 (argsOf as_ref13_First bs_ref13_First x), tabU (lbOf as_ref13_First bs_ref13_First x) [], []⟩).elim (kRet 10 pout_ref13_First (kpL []) (lbOf as_ref13_First bs_ref13_First x))
def out_ref13_First (y : Int) : V × List OK × List OK := (valW (.int .i64) y, [], [])
noncomputable def V_ref13_First  (N : Nat) (x : List (Int × List UInt8)) : Option (Int) :=
  cnd (decide ((↑(List.length x) : Int) = (0 : Int))) (some (0 : Int))
    (cnd (decide ((0 : Int) ≤ (0 : Int)) && decide ((0 : Int) < (↑(List.length x) : Int)))
      (some (Prod.fst (List.getD x (0 : Nat) ((0 : Int), [])))) none)
theorem FV_ref13_First_eq  (N : Nat) (x : List (Int × List UInt8)) : F_ref13_First  N x = V_ref13_First  N x := by kernel_rfl
noncomputable def W_ref13_First (N : Nat) (x : List (Int × List UInt8)) : Option (Int) :=
  cnd (decide ((↑(List.length x) : Int) = (0 : Int))) (some (0 : Int))
    (cnd (decide ((0 : Int) ≤ (0 : Int)) && decide ((0 : Int) < (↑(List.length x) : Int)))
      (some (Prod.fst (List.getD x (0 : Nat) ((0 : Int), [])))) none)
theorem F_ref13_First_eq (N : Nat) (x : List (Int × List UInt8)) : F_ref13_First  N x = W_ref13_First N x := (FV_ref13_First_eq  N x).trans (by kernel_rfl)
noncomputable def conw_ref13_First (w : List (Int × List UInt8) → Option (Int)) : Con := ⟨120, as_ref13_First, bs_ref13_First, Int, w, out_ref13_First⟩
noncomputable def con_ref13_First (N : Nat) : Con := conw_ref13_First (W_ref13_First N)
theorem R_ref13_First_eq (x : List (Int × List UInt8)) (y : Int) : retOf2 P0 Try.f120 (kpL []) (lbOf as_ref13_First bs_ref13_First x) (patS ⟨10, [], [], []⟩ pout_ref13_First y) = some (out_ref13_First y) := by kernel_rfl
theorem con_ref13_First_ok (N : Nat) : Con.ok P0 (con_ref13_First N) := ⟨⟨Try.f120, Try.func120, by kernel_rfl, by kernel_rfl⟩, fun (x : List (Int × List UInt8)) (r : Int) (hr : W_ref13_First N x = some r) =>
  spec2_evT (Γ := G_ref13_First N) (Λ := L0) (pout := pout_ref13_First) (kp := kpL []) mixed (orcOf_ok [] (by simp)) Try.func120 (c := bodyOf Try.f120) (by kernel_rfl) (by kernel_rfl) (of_decide_eq_true (by kernel_rfl)) ((F_ref13_First_eq N x).trans hr) (R_ref13_First_eq x r)⟩
def as_ref13_Skip : List AS := [.val (.list (.agg (.pair (.int .i64) (.pair (.int .i64) (.pair (.int .i64) (.pair .str (.int .i64))))))), .val (.int .i64), .val (.int .i64), .val (.int .i64)]
def bs_ref13_Skip : List BS := []
def pout_ref13_Skip : Pat := ⟨[(8, .val (.list (.agg (.pair (.int .i64) (.pair (.int .i64) (.pair (.int .i64) (.pair .str (.int .i64))))))))], []⟩
noncomputable def G_ref13_Skip  (N : Nat) : OrcT := orcOf []
noncomputable def F_ref13_Skip  (N : Nat) (x : (List (Int × Int × Int × (List UInt8) × Int)) × Int × Int × Int) : Option (List (Int × Int × Int × (List UInt8) × Int)) :=
  (evT (G_ref13_Skip  N) L0 P0 []
    [] N 400 (bodyOf Try.f121) ⟨18, slots 0 (argsOf as_ref13_Skip bs_ref13_Skip x), tabU (lbOf as_ref13_Skip bs_ref13_Skip x) [], []⟩).elim (kRet 18 pout_ref13_Skip (kpL []) (lbOf as_ref13_Skip bs_ref13_Skip x))
def out_ref13_Skip (y : List (Int × Int × Int × (List UInt8) × Int)) : V × List OK × List OK := (valW (.list (.agg (.pair (.int .i64) (.pair (.int .i64) (.pair (.int .i64) (.pair .str (.int .i64))))))) y, [], [])
noncomputable def V_ref13_Skip  (N : Nat) (x : (List (Int × Int × Int × (List UInt8) × Int)) × Int × Int × Int) : Option (List (Int × Int × Int × (List UInt8) × Int)) :=
  cnd (decide (List.length x.1 * (48 : Nat) ≤ (140737488355328 : Nat)))
    (cnd
      (decide
        ((List.length x.1 +
              (1 : Nat)) *
            (48 : Nat) ≤
          (140737488355328 : Nat)))
      (some
        (x.1 ++
          [((2 : Int), x.2.1, x.2.2.1, [], x.2.2.2)]))
      none)
    none
theorem FV_ref13_Skip_eq  (N : Nat) (x : (List (Int × Int × Int × (List UInt8) × Int)) × Int × Int × Int) : F_ref13_Skip  N x = V_ref13_Skip  N x := by kernel_rfl
noncomputable def W_ref13_Skip (N : Nat) (x : (List (Int × Int × Int × (List UInt8) × Int)) × Int × Int × Int) : Option (List (Int × Int × Int × (List UInt8) × Int)) :=
  cnd (decide (List.length x.1 * (48 : Nat) ≤ (140737488355328 : Nat)))
    (cnd
      (decide
        ((List.length x.1 +
              (1 : Nat)) *
            (48 : Nat) ≤
          (140737488355328 : Nat)))
      (some
        (x.1 ++
          [((2 : Int), x.2.1, x.2.2.1, [], x.2.2.2)]))
      none)
    none
theorem F_ref13_Skip_eq (N : Nat) (x : (List (Int × Int × Int × (List UInt8) × Int)) × Int × Int × Int) : F_ref13_Skip  N x = W_ref13_Skip N x := (FV_ref13_Skip_eq  N x).trans (by kernel_rfl)
noncomputable def conw_ref13_Skip (w : (List (Int × Int × Int × (List UInt8) × Int)) × Int × Int × Int → Option (List (Int × Int × Int × (List UInt8) × Int))) : Con := ⟨121, as_ref13_Skip, bs_ref13_Skip, List (Int × Int × Int × (List UInt8) × Int), w, out_ref13_Skip⟩
noncomputable def con_ref13_Skip (N : Nat) : Con := conw_ref13_Skip (W_ref13_Skip N)
theorem R_ref13_Skip_eq (x : (List (Int × Int × Int × (List UInt8) × Int)) × Int × Int × Int) (y : List (Int × Int × Int × (List UInt8) × Int)) : retOf2 P0 Try.f121 (kpL []) (lbOf as_ref13_Skip bs_ref13_Skip x) (patS ⟨18, [], [], []⟩ pout_ref13_Skip y) = some (out_ref13_Skip y) := by kernel_rfl
theorem con_ref13_Skip_ok (N : Nat) : Con.ok P0 (con_ref13_Skip N) := ⟨⟨Try.f121, Try.func121, by kernel_rfl, by kernel_rfl⟩, fun (x : (List (Int × Int × Int × (List UInt8) × Int)) × Int × Int × Int) (r : List (Int × Int × Int × (List UInt8) × Int)) (hr : W_ref13_Skip N x = some r) =>
  spec2_evT (Γ := G_ref13_Skip N) (Λ := L0) (pout := pout_ref13_Skip) (kp := kpL []) mixed (orcOf_ok [] (by simp)) Try.func121 (c := bodyOf Try.f121) (by kernel_rfl) (by kernel_rfl) (of_decide_eq_true (by kernel_rfl)) ((F_ref13_Skip_eq N x).trans hr) (R_ref13_Skip_eq x r)⟩
def as_ref13_TakeWin : List AS := [.val (.list (.agg (.pair (.int .i64) .str))), .val (.int .i64)]
def bs_ref13_TakeWin : List BS := []
def pout_ref13_TakeWin : Pat := ⟨[(4, .val (.list (.agg (.pair (.int .i64) .str)))), (5, .ptr 600005 0), (6, .val .bool)], [(600005, .box 40 (.val (.pair (.int .i64) .str)))]⟩
noncomputable def G_ref13_TakeWin  (N : Nat) : OrcT := orcOf []
noncomputable def F_ref13_TakeWin  (N : Nat) (x : (List (Int × List UInt8)) × Int) : Option ((List (Int × List UInt8)) × Bool × Int × List UInt8) :=
  (evT (G_ref13_TakeWin  N) L0 P0 []
    [] N 400 (bodyOf Try.f122) ⟨27, slots 0 (argsOf as_ref13_TakeWin bs_ref13_TakeWin x), tabU (lbOf as_ref13_TakeWin bs_ref13_TakeWin x) [], []⟩).elim (kRet 27 pout_ref13_TakeWin (kpL []) (lbOf as_ref13_TakeWin bs_ref13_TakeWin x))
def out_ref13_TakeWin (y : (List (Int × List UInt8)) × Bool × Int × List UInt8) : V × List OK × List OK := (.tup [valW (.list (.agg (.pair (.int .i64) .str))) y.1, valW (.agg (.pair (.int .i64) .str)) y.2.2, valW .bool y.2.1], [], [])
noncomputable def V_ref13_TakeWin  (N : Nat) (x : (List (Int × List UInt8)) × Int) : Option ((List (Int × List UInt8)) × Bool × Int × List UInt8) :=
  cnd (decide ((↑(List.length x.1) : Int) = (0 : Int))) (some (x.1, false, (0 : Int), [])) (cnd (decide ((0 : Int) ≤ (0 : Int)) && decide ((0 : Int) <
    (↑(List.length x.1) : Int))) (cnd (decide (Prod.fst (List.getD x.1 (0 : Nat) ((0 : Int), [])) ≠ x.2)) (some (x.1, false, (0 : Int), [])) (cnd
    (decide ((0 : Int) ≤ (1 : Int)) && decide ((1 : Int) ≤ (↑(List.length x.1) : Int))) (cnd (decide (List.length (List.drop (1 : Nat) (List.take
    (List.length x.1) x.1)) * (24 : Nat) ≤ (140737488355328 : Nat))) (cnd (decide ((0 : Int) ≤ (0 : Int)) && decide ((0 : Int) < (↑(List.length x.1) :
    Int))) (some (List.drop (1 : Nat) (List.take (List.length x.1) x.1), true, Prod.fst (List.getD x.1 (0 : Nat) ((0 : Int), [])), Prod.snd (List.getD
    x.1 (0 : Nat) ((0 : Int), [])))) none) none) none)) none)
theorem FV_ref13_TakeWin_eq  (N : Nat) (x : (List (Int × List UInt8)) × Int) : F_ref13_TakeWin  N x = V_ref13_TakeWin  N x := by kernel_rfl
noncomputable def W_ref13_TakeWin (N : Nat) (x : (List (Int × List UInt8)) × Int) : Option ((List (Int × List UInt8)) × Bool × Int × List UInt8) :=
  cnd (decide ((↑(List.length x.1) : Int) = (0 : Int))) (some (x.1, false, (0 : Int), [])) (cnd (decide ((0 : Int) ≤ (0 : Int)) && decide ((0 : Int) <
    (↑(List.length x.1) : Int))) (cnd (decide (Prod.fst (List.getD x.1 (0 : Nat) ((0 : Int), [])) ≠ x.2)) (some (x.1, false, (0 : Int), [])) (cnd
    (decide ((0 : Int) ≤ (1 : Int)) && decide ((1 : Int) ≤ (↑(List.length x.1) : Int))) (cnd (decide (List.length (List.drop (1 : Nat) (List.take
    (List.length x.1) x.1)) * (24 : Nat) ≤ (140737488355328 : Nat))) (cnd (decide ((0 : Int) ≤ (0 : Int)) && decide ((0 : Int) < (↑(List.length x.1) :
    Int))) (some (List.drop (1 : Nat) (List.take (List.length x.1) x.1), true, Prod.fst (List.getD x.1 (0 : Nat) ((0 : Int), [])), Prod.snd (List.getD
    x.1 (0 : Nat) ((0 : Int), [])))) none) none) none)) none)
theorem F_ref13_TakeWin_eq (N : Nat) (x : (List (Int × List UInt8)) × Int) : F_ref13_TakeWin  N x = W_ref13_TakeWin N x := (FV_ref13_TakeWin_eq  N x).trans (by kernel_rfl)
noncomputable def conw_ref13_TakeWin (w : (List (Int × List UInt8)) × Int → Option ((List (Int × List UInt8)) × Bool × Int × List UInt8)) : Con := ⟨122, as_ref13_TakeWin, bs_ref13_TakeWin, (List (Int × List UInt8)) × Bool × Int × List UInt8, w, out_ref13_TakeWin⟩
noncomputable def con_ref13_TakeWin (N : Nat) : Con := conw_ref13_TakeWin (W_ref13_TakeWin N)
theorem R_ref13_TakeWin_eq (x : (List (Int × List UInt8)) × Int) (y : (List (Int × List UInt8)) × Bool × Int × List UInt8) : retOf2 P0 Try.f122 (kpL []) (lbOf as_ref13_TakeWin bs_ref13_TakeWin x) (patS ⟨27, [], [], []⟩ pout_ref13_TakeWin y) = some (out_ref13_TakeWin y) := by kernel_rfl
theorem con_ref13_TakeWin_ok (N : Nat) : Con.ok P0 (con_ref13_TakeWin N) := ⟨⟨Try.f122, Try.func122, by kernel_rfl, by kernel_rfl⟩, fun (x : (List (Int × List UInt8)) × Int) (r : (List (Int × List UInt8)) × Bool × Int × List UInt8) (hr : W_ref13_TakeWin N x = some r) =>
  spec2_evT (Γ := G_ref13_TakeWin N) (Λ := L0) (pout := pout_ref13_TakeWin) (kp := kpL []) mixed (orcOf_ok [] (by simp)) Try.func122 (c := bodyOf Try.f122) (by kernel_rfl) (by kernel_rfl) (of_decide_eq_true (by kernel_rfl)) ((F_ref13_TakeWin_eq N x).trans hr) (R_ref13_TakeWin_eq x r)⟩
def as_ref13_Tell : List AS := [.val (.list (.agg (.pair (.int .i64) (.pair (.int .i64) (.pair (.int .i64) (.pair .str (.int .i64))))))), .val (.int .i64), .val .str]
def bs_ref13_Tell : List BS := []
def pout_ref13_Tell : Pat := ⟨[(6, .val (.list (.agg (.pair (.int .i64) (.pair (.int .i64) (.pair (.int .i64) (.pair .str (.int .i64))))))))], []⟩
noncomputable def G_ref13_Tell  (N : Nat) : OrcT := orcOf []
noncomputable def F_ref13_Tell  (N : Nat) (x : (List (Int × Int × Int × (List UInt8) × Int)) × Int × List UInt8) : Option (List (Int × Int × Int × (List UInt8) × Int)) :=
  (evT (G_ref13_Tell  N) L0 P0 []
    [] N 400 (bodyOf Try.f49) ⟨16, slots 0 (argsOf as_ref13_Tell bs_ref13_Tell x), tabU (lbOf as_ref13_Tell bs_ref13_Tell x) [], []⟩).elim (kRet 16 pout_ref13_Tell (kpL []) (lbOf as_ref13_Tell bs_ref13_Tell x))
def out_ref13_Tell (y : List (Int × Int × Int × (List UInt8) × Int)) : V × List OK × List OK := (valW (.list (.agg (.pair (.int .i64) (.pair (.int .i64) (.pair (.int .i64) (.pair .str (.int .i64))))))) y, [], [])
noncomputable def V_ref13_Tell  (N : Nat) (x : (List (Int × Int × Int × (List UInt8) × Int)) × Int × List UInt8) : Option (List (Int × Int × Int × (List UInt8) × Int)) :=
  cnd (decide (List.length x.1 * (48 : Nat) ≤ (140737488355328 : Nat))) (cnd (decide ((List.length x.1 + List.length [((1 : Int), x.2.1, x.2.1, x.2.2,
    (0 : Int))]) * (48 : Nat) ≤ (140737488355328 : Nat))) (some (x.1 ++ [((1 : Int), x.2.1, x.2.1, x.2.2, (0 : Int))])) none) none
theorem FV_ref13_Tell_eq  (N : Nat) (x : (List (Int × Int × Int × (List UInt8) × Int)) × Int × List UInt8) : F_ref13_Tell  N x = V_ref13_Tell  N x := by kernel_rfl
noncomputable def W_ref13_Tell (N : Nat) (x : (List (Int × Int × Int × (List UInt8) × Int)) × Int × List UInt8) : Option (List (Int × Int × Int × (List UInt8) × Int)) :=
  cnd (decide (List.length x.1 * (48 : Nat) ≤ (140737488355328 : Nat))) (cnd (decide ((List.length x.1 + List.length [((1 : Int), x.2.1, x.2.1, x.2.2,
    (0 : Int))]) * (48 : Nat) ≤ (140737488355328 : Nat))) (some (x.1 ++ [((1 : Int), x.2.1, x.2.1, x.2.2, (0 : Int))])) none) none
theorem F_ref13_Tell_eq (N : Nat) (x : (List (Int × Int × Int × (List UInt8) × Int)) × Int × List UInt8) : F_ref13_Tell  N x = W_ref13_Tell N x := (FV_ref13_Tell_eq  N x).trans (by kernel_rfl)
noncomputable def conw_ref13_Tell (w : (List (Int × Int × Int × (List UInt8) × Int)) × Int × List UInt8 → Option (List (Int × Int × Int × (List UInt8) × Int))) : Con := ⟨49, as_ref13_Tell, bs_ref13_Tell, List (Int × Int × Int × (List UInt8) × Int), w, out_ref13_Tell⟩
noncomputable def con_ref13_Tell (N : Nat) : Con := conw_ref13_Tell (W_ref13_Tell N)
theorem R_ref13_Tell_eq (x : (List (Int × Int × Int × (List UInt8) × Int)) × Int × List UInt8) (y : List (Int × Int × Int × (List UInt8) × Int)) : retOf2 P0 Try.f49 (kpL []) (lbOf as_ref13_Tell bs_ref13_Tell x) (patS ⟨16, [], [], []⟩ pout_ref13_Tell y) = some (out_ref13_Tell y) := by kernel_rfl
theorem con_ref13_Tell_ok (N : Nat) : Con.ok P0 (con_ref13_Tell N) := ⟨⟨Try.f49, Try.func49, by kernel_rfl, by kernel_rfl⟩, fun (x : (List (Int × Int × Int × (List UInt8) × Int)) × Int × List UInt8) (r : List (Int × Int × Int × (List UInt8) × Int)) (hr : W_ref13_Tell N x = some r) =>
  spec2_evT (Γ := G_ref13_Tell N) (Λ := L0) (pout := pout_ref13_Tell) (kp := kpL []) mixed (orcOf_ok [] (by simp)) Try.func49 (c := bodyOf Try.f49) (by kernel_rfl) (by kernel_rfl) (of_decide_eq_true (by kernel_rfl)) ((F_ref13_Tell_eq N x).trans hr) (R_ref13_Tell_eq x r)⟩
def as_ref13_AddRing : List AS := [.val (.list (.agg (.pair (.int .i64) .str))), .val (.agg (.pair (.int .i64) .str))]
def bs_ref13_AddRing : List BS := []
def pout_ref13_AddRing : Pat := ⟨[(4, .val (.list (.agg (.pair (.int .i64) .str))))], []⟩
noncomputable def G_ref13_AddRing  (N : Nat) : OrcT := orcOf []
noncomputable def F_ref13_AddRing  (N : Nat) (x : (List (Int × List UInt8)) × Int × List UInt8) : Option (List (Int × List UInt8)) :=
  (evT (G_ref13_AddRing  N) L0 P0 []
    [] N 400 (bodyOf Try.f50) ⟨35, slots 0 (argsOf as_ref13_AddRing bs_ref13_AddRing x), tabU (lbOf as_ref13_AddRing bs_ref13_AddRing x) [], []⟩).elim (kRet 35 pout_ref13_AddRing (kpL []) (lbOf as_ref13_AddRing bs_ref13_AddRing x))
def out_ref13_AddRing (y : List (Int × List UInt8)) : V × List OK × List OK := (valW (.list (.agg (.pair (.int .i64) .str))) y, [], [])
noncomputable def V_ref13_AddRing  (N : Nat) (x : (List (Int × List UInt8)) × Int × List UInt8) : Option (List (Int × List UInt8)) :=
  cnd (decide (List.length x.1 * (24 : Nat) ≤ (140737488355328 : Nat))) (cnd (decide ((0 : Int) < (↑(List.length x.1) : Int))) (cnd (decide ((0 : Int) ≤
    wr IntKind.i64 ((↑(List.length x.1) : Int) - (1 : Int))) && decide (wr IntKind.i64 ((↑(List.length x.1) : Int) - (1 : Int)) < (↑(List.length x.1) :
    Int))) (cnd (decide (x.2.1 ≤ Prod.fst (List.getD x.1 (Int.toNat (wr IntKind.i64 ((↑(List.length x.1) : Int) - (1 : Int)))) ((0 : Int), [])))) (some
    x.1) (cnd (decide ((List.length x.1 + List.length [(x.2.1, x.2.2)]) * (24 : Nat) ≤ (140737488355328 : Nat))) (cnd (decide ((6 : Int) <
    (↑(List.length (x.1 ++ [(x.2.1, x.2.2)])) : Int))) (cnd (decide (Option.getD (some (1 : Int)) (0 : Int) ≤ (↑(List.length (x.1 ++ [(x.2.1, x.2.2)]))
    : Int))) (some (List.drop ((0 : Nat) + Prod.fst (Prod.snd (cutT (0 : Nat) (List.length (x.1 ++ [(x.2.1, x.2.2)])) (List.length (x.1 ++ [(x.2.1,
    x.2.2)])) (some (1 : Int)) none))) (List.take ((0 : Nat) + Prod.fst (Prod.snd (cutT (0 : Nat) (List.length (x.1 ++ [(x.2.1, x.2.2)])) (List.length
    (x.1 ++ [(x.2.1, x.2.2)])) (some (1 : Int)) none)) + (Prod.snd (Prod.snd (cutT (0 : Nat) (List.length (x.1 ++ [(x.2.1, x.2.2)])) (List.length (x.1
    ++ [(x.2.1, x.2.2)])) (some (1 : Int)) none)) - Prod.fst (Prod.snd (cutT (0 : Nat) (List.length (x.1 ++ [(x.2.1, x.2.2)])) (List.length (x.1 ++
    [(x.2.1, x.2.2)])) (some (1 : Int)) none)))) (x.1 ++ [(x.2.1, x.2.2)])))) none) (some (x.1 ++ [(x.2.1, x.2.2)]))) none)) none) (cnd (decide
    ((List.length x.1 + List.length [(x.2.1, x.2.2)]) * (24 : Nat) ≤ (140737488355328 : Nat))) (cnd (decide ((6 : Int) < (↑(List.length (x.1 ++ [(x.2.1,
    x.2.2)])) : Int))) (cnd (decide (Option.getD (some (1 : Int)) (0 : Int) ≤ (↑(List.length (x.1 ++ [(x.2.1, x.2.2)])) : Int))) (some (List.drop ((0 :
    Nat) + Prod.fst (Prod.snd (cutT (0 : Nat) (List.length (x.1 ++ [(x.2.1, x.2.2)])) (List.length (x.1 ++ [(x.2.1, x.2.2)])) (some (1 : Int)) none)))
    (List.take ((0 : Nat) + Prod.fst (Prod.snd (cutT (0 : Nat) (List.length (x.1 ++ [(x.2.1, x.2.2)])) (List.length (x.1 ++ [(x.2.1, x.2.2)])) (some (1
    : Int)) none)) + (Prod.snd (Prod.snd (cutT (0 : Nat) (List.length (x.1 ++ [(x.2.1, x.2.2)])) (List.length (x.1 ++ [(x.2.1, x.2.2)])) (some (1 :
    Int)) none)) - Prod.fst (Prod.snd (cutT (0 : Nat) (List.length (x.1 ++ [(x.2.1, x.2.2)])) (List.length (x.1 ++ [(x.2.1, x.2.2)])) (some (1 : Int))
    none)))) (x.1 ++ [(x.2.1, x.2.2)])))) none) (some (x.1 ++ [(x.2.1, x.2.2)]))) none)) none
theorem FV_ref13_AddRing_eq  (N : Nat) (x : (List (Int × List UInt8)) × Int × List UInt8) : F_ref13_AddRing  N x = V_ref13_AddRing  N x := by kernel_rfl
noncomputable def W_ref13_AddRing (N : Nat) (x : (List (Int × List UInt8)) × Int × List UInt8) : Option (List (Int × List UInt8)) :=
  cnd (decide (List.length x.1 * (24 : Nat) ≤ (140737488355328 : Nat))) (cnd (decide ((0 : Int) < (↑(List.length x.1) : Int))) (cnd (decide ((0 : Int) ≤
    wr IntKind.i64 ((↑(List.length x.1) : Int) - (1 : Int))) && decide (wr IntKind.i64 ((↑(List.length x.1) : Int) - (1 : Int)) < (↑(List.length x.1) :
    Int))) (cnd (decide (x.2.1 ≤ Prod.fst (List.getD x.1 (Int.toNat (wr IntKind.i64 ((↑(List.length x.1) : Int) - (1 : Int)))) ((0 : Int), [])))) (some
    x.1) (cnd (decide ((List.length x.1 + List.length [(x.2.1, x.2.2)]) * (24 : Nat) ≤ (140737488355328 : Nat))) (cnd (decide ((6 : Int) <
    (↑(List.length (x.1 ++ [(x.2.1, x.2.2)])) : Int))) (cnd (decide (Option.getD (some (1 : Int)) (0 : Int) ≤ (↑(List.length (x.1 ++ [(x.2.1, x.2.2)]))
    : Int))) (some (List.drop ((0 : Nat) + Prod.fst (Prod.snd (cutT (0 : Nat) (List.length (x.1 ++ [(x.2.1, x.2.2)])) (List.length (x.1 ++ [(x.2.1,
    x.2.2)])) (some (1 : Int)) none))) (List.take ((0 : Nat) + Prod.fst (Prod.snd (cutT (0 : Nat) (List.length (x.1 ++ [(x.2.1, x.2.2)])) (List.length
    (x.1 ++ [(x.2.1, x.2.2)])) (some (1 : Int)) none)) + (Prod.snd (Prod.snd (cutT (0 : Nat) (List.length (x.1 ++ [(x.2.1, x.2.2)])) (List.length (x.1
    ++ [(x.2.1, x.2.2)])) (some (1 : Int)) none)) - Prod.fst (Prod.snd (cutT (0 : Nat) (List.length (x.1 ++ [(x.2.1, x.2.2)])) (List.length (x.1 ++
    [(x.2.1, x.2.2)])) (some (1 : Int)) none)))) (x.1 ++ [(x.2.1, x.2.2)])))) none) (some (x.1 ++ [(x.2.1, x.2.2)]))) none)) none) (cnd (decide
    ((List.length x.1 + List.length [(x.2.1, x.2.2)]) * (24 : Nat) ≤ (140737488355328 : Nat))) (cnd (decide ((6 : Int) < (↑(List.length (x.1 ++ [(x.2.1,
    x.2.2)])) : Int))) (cnd (decide (Option.getD (some (1 : Int)) (0 : Int) ≤ (↑(List.length (x.1 ++ [(x.2.1, x.2.2)])) : Int))) (some (List.drop ((0 :
    Nat) + Prod.fst (Prod.snd (cutT (0 : Nat) (List.length (x.1 ++ [(x.2.1, x.2.2)])) (List.length (x.1 ++ [(x.2.1, x.2.2)])) (some (1 : Int)) none)))
    (List.take ((0 : Nat) + Prod.fst (Prod.snd (cutT (0 : Nat) (List.length (x.1 ++ [(x.2.1, x.2.2)])) (List.length (x.1 ++ [(x.2.1, x.2.2)])) (some (1
    : Int)) none)) + (Prod.snd (Prod.snd (cutT (0 : Nat) (List.length (x.1 ++ [(x.2.1, x.2.2)])) (List.length (x.1 ++ [(x.2.1, x.2.2)])) (some (1 :
    Int)) none)) - Prod.fst (Prod.snd (cutT (0 : Nat) (List.length (x.1 ++ [(x.2.1, x.2.2)])) (List.length (x.1 ++ [(x.2.1, x.2.2)])) (some (1 : Int))
    none)))) (x.1 ++ [(x.2.1, x.2.2)])))) none) (some (x.1 ++ [(x.2.1, x.2.2)]))) none)) none
theorem F_ref13_AddRing_eq (N : Nat) (x : (List (Int × List UInt8)) × Int × List UInt8) : F_ref13_AddRing  N x = W_ref13_AddRing N x := (FV_ref13_AddRing_eq  N x).trans (by kernel_rfl)
noncomputable def conw_ref13_AddRing (w : (List (Int × List UInt8)) × Int × List UInt8 → Option (List (Int × List UInt8))) : Con := ⟨50, as_ref13_AddRing, bs_ref13_AddRing, List (Int × List UInt8), w, out_ref13_AddRing⟩
noncomputable def con_ref13_AddRing (N : Nat) : Con := conw_ref13_AddRing (W_ref13_AddRing N)
theorem R_ref13_AddRing_eq (x : (List (Int × List UInt8)) × Int × List UInt8) (y : List (Int × List UInt8)) : retOf2 P0 Try.f50 (kpL []) (lbOf as_ref13_AddRing bs_ref13_AddRing x) (patS ⟨35, [], [], []⟩ pout_ref13_AddRing y) = some (out_ref13_AddRing y) := by kernel_rfl
theorem con_ref13_AddRing_ok (N : Nat) : Con.ok P0 (con_ref13_AddRing N) := ⟨⟨Try.f50, Try.func50, by kernel_rfl, by kernel_rfl⟩, fun (x : (List (Int × List UInt8)) × Int × List UInt8) (r : List (Int × List UInt8)) (hr : W_ref13_AddRing N x = some r) =>
  spec2_evT (Γ := G_ref13_AddRing N) (Λ := L0) (pout := pout_ref13_AddRing) (kp := kpL []) mixed (orcOf_ok [] (by simp)) Try.func50 (c := bodyOf Try.f50) (by kernel_rfl) (by kernel_rfl) (of_decide_eq_true (by kernel_rfl)) ((F_ref13_AddRing_eq N x).trans hr) (R_ref13_AddRing_eq x r)⟩
def as_ref13_Goes : List AS := [.val (.agg (.pair (.int .i64) (.pair (.int .i64) (.pair (.list (.agg (.pair (.int .i64) .str))) (.pair (.list (.agg (.pair (.int .i64) .str))) (.pair (.list (.agg (.pair (.int .i64) (.pair (.int .i64) (.pair (.int .i64) (.pair .str (.int .i64))))))) (.agg (.pair (.int .i64) (.int .i64)))))))))]
def bs_ref13_Goes : List BS := []
def pout_ref13_Goes : Pat := ⟨[(2, .ptr 600002 0), (3, .val (.list (.agg (.pair (.int .i64) .str))))], [(600002, .box 29 (.val (.pair (.int .i64) (.pair (.int .i64) (.pair (.list (.agg (.pair (.int .i64) .str))) (.pair (.list (.agg (.pair (.int .i64) .str))) (.pair (.list (.agg (.pair (.int .i64) (.pair (.int .i64) (.pair (.int .i64) (.pair .str (.int .i64))))))) (.agg (.pair (.int .i64) (.int .i64))))))))))]⟩
noncomputable def G_ref13_Goes (w_ref13_TakeWin : (List (Int × List UInt8)) × Int → Option ((List (Int × List UInt8)) × Bool × Int × List UInt8)) (w_ref13_Tell : (List (Int × Int × Int × (List UInt8) × Int)) × Int × List UInt8 → Option (List (Int × Int × Int × (List UInt8) × Int))) (w_ref13_AddRing : (List (Int × List UInt8)) × Int × List UInt8 → Option (List (Int × List UInt8))) (N : Nat) : OrcT := orcOf [conw_ref13_TakeWin w_ref13_TakeWin, conw_ref13_Tell w_ref13_Tell, conw_ref13_AddRing w_ref13_AddRing]
noncomputable def F_ref13_Goes (w_ref13_TakeWin : (List (Int × List UInt8)) × Int → Option ((List (Int × List UInt8)) × Bool × Int × List UInt8)) (w_ref13_Tell : (List (Int × Int × Int × (List UInt8) × Int)) × Int × List UInt8 → Option (List (Int × Int × Int × (List UInt8) × Int))) (w_ref13_AddRing : (List (Int × List UInt8)) × Int × List UInt8 → Option (List (Int × List UInt8))) (N : Nat) (x : Int × Int × (List (Int × List UInt8)) × (List (Int × List UInt8)) × (List (Int × Int × Int × (List UInt8) × Int)) × Int × Int) : Option ((List (Int × List UInt8)) × Int × Int × (List (Int × List UInt8)) × (List (Int × List UInt8)) × (List (Int × Int × Int × (List UInt8) × Int)) × Int × Int) :=
  (evT (G_ref13_Goes w_ref13_TakeWin w_ref13_Tell w_ref13_AddRing N) L0 P0 [(2, .loop [] ⟨[(1, .ptr 600001 0), (2, .ptr 600002 0), (4, .acc 700004)], [(600001, .box 29 (.val (.pair (.int .i64) (.pair (.int .i64) (.pair (.list (.agg (.pair (.int .i64) .str))) (.pair (.list (.agg (.pair (.int .i64) .str))) (.pair (.list (.agg (.pair (.int .i64) (.pair (.int .i64) (.pair (.int .i64) (.pair .str (.int .i64))))))) (.agg (.pair (.int .i64) (.int .i64)))))))))), (600002, .box 29 (.val (.pair (.int .i64) (.pair (.int .i64) (.pair (.list (.agg (.pair (.int .i64) .str))) (.pair (.list (.agg (.pair (.int .i64) .str))) (.pair (.list (.agg (.pair (.int .i64) (.pair (.int .i64) (.pair (.int .i64) (.pair .str (.int .i64))))))) (.agg (.pair (.int .i64) (.int .i64)))))))))), (700004, .nrow 40 (.agg (.pair (.int .i64) .str)) true true)]⟩ [(.ret, ⟨[(2, .ptr 600002 0), (3, .val (.list (.agg (.pair (.int .i64) .str))))], [(600002, .box 29 (.val (.pair (.int .i64) (.pair (.int .i64) (.pair (.list (.agg (.pair (.int .i64) .str))) (.pair (.list (.agg (.pair (.int .i64) .str))) (.pair (.list (.agg (.pair (.int .i64) (.pair (.int .i64) (.pair (.int .i64) (.pair .str (.int .i64))))))) (.agg (.pair (.int .i64) (.int .i64))))))))))]⟩)])]
    [] N 400 (bodyOf Try.f79) ⟨46, slots 0 (argsOf as_ref13_Goes bs_ref13_Goes x), tabU (lbOf as_ref13_Goes bs_ref13_Goes x) [], []⟩).elim (kRet 46 pout_ref13_Goes (kpL []) (lbOf as_ref13_Goes bs_ref13_Goes x))
def out_ref13_Goes (y : (List (Int × List UInt8)) × Int × Int × (List (Int × List UInt8)) × (List (Int × List UInt8)) × (List (Int × Int × Int × (List UInt8) × Int)) × Int × Int) : V × List OK × List OK := (.tup [valW (.agg (.pair (.int .i64) (.pair (.int .i64) (.pair (.list (.agg (.pair (.int .i64) .str))) (.pair (.list (.agg (.pair (.int .i64) .str))) (.pair (.list (.agg (.pair (.int .i64) (.pair (.int .i64) (.pair (.int .i64) (.pair .str (.int .i64))))))) (.agg (.pair (.int .i64) (.int .i64))))))))) y.2, valW (.list (.agg (.pair (.int .i64) .str))) y.1], [], [])
noncomputable def V_ref13_Goes (w_ref13_TakeWin : (List (Int × List UInt8)) × Int → Option ((List (Int × List UInt8)) × Bool × Int × List UInt8)) (w_ref13_Tell : (List (Int × Int × Int × (List UInt8) × Int)) × Int × List UInt8 → Option (List (Int × Int × Int × (List UInt8) × Int))) (w_ref13_AddRing : (List (Int × List UInt8)) × Int × List UInt8 → Option (List (Int × List UInt8))) (N : Nat) (x : Int × Int × (List (Int × List UInt8)) × (List (Int × List UInt8)) × (List (Int × Int × Int × (List UInt8) × Int)) × Int × Int) : Option ((List (Int × List UInt8)) × Int × Int × (List (Int × List UInt8)) × (List (Int × List UInt8)) × (List (Int × Int × Int × (List UInt8) × Int)) × Int × Int) :=
  obind (loopN N (fun (v : (Int × Int × List (Int × List UInt8) × List (Int × List UInt8) × List (Int × Int × Int × List UInt8 × Int) × Int × Int) ×
    (Int × Int × List (Int × List UInt8) × List (Int × List UInt8) × List (Int × Int × Int × List UInt8 × Int) × Int × Int) × List (Int × List UInt8))
    => obind (w_ref13_TakeWin (v.1.2.2.2.1, v.1.1)) fun (b : List (Int × List UInt8) × Bool × Int × List UInt8) => cnd (!b.2.1) (some (Sum.inr (v.2.2,
    v.1.1, v.1.2.1, v.1.2.2.1, v.1.2.2.2.1, v.1.2.2.2.2.1, v.1.2.2.2.2.2.1, v.1.2.2.2.2.2.2))) (obind (w_ref13_Tell (v.1.2.2.2.2.1, b.2.2.1, b.2.2.2))
    fun (b_1 : List (Int × Int × Int × List UInt8 × Int)) => obind (w_ref13_AddRing (v.1.2.2.1, b.2.2.1, b.2.2.2)) fun (b_2 : List (Int × List UInt8))
    => cnd (decide ((List.length v.2.2 + List.length [(b.2.2.1, b.2.2.2)]) * (24 : Nat) ≤ (140737488355328 : Nat))) (some (Sum.inl ((wr IntKind.i64
    (v.1.1 + (1 : Int)), v.1.2.1, b_2, b.1, b_1, (0 : Int), (0 : Int)), (v.2.1.1, v.2.1.2.1, v.2.1.2.2.1, v.2.1.2.2.2.1, v.2.1.2.2.2.2.1,
    v.2.1.2.2.2.2.2.1, v.2.1.2.2.2.2.2.2), v.2.2 ++ [(b.2.2.1, b.2.2.2)]))) none)) ((x.1, x.2.1, x.2.2.1, x.2.2.2.1, x.2.2.2.2.1, x.2.2.2.2.2.1,
    x.2.2.2.2.2.2), ((0 : Int), (0 : Int), [], [], [], (0 : Int), (0 : Int)), [])) fun (b : List (Int × List UInt8) × Int × Int × List (Int × List
    UInt8) × List (Int × List UInt8) × List (Int × Int × Int × List UInt8 × Int) × Int × Int) => some (b.1, b.2.1, b.2.2.1, b.2.2.2.1, b.2.2.2.2.1,
    b.2.2.2.2.2.1, b.2.2.2.2.2.2.1, b.2.2.2.2.2.2.2)
theorem FV_ref13_Goes_eq (w_ref13_TakeWin : (List (Int × List UInt8)) × Int → Option ((List (Int × List UInt8)) × Bool × Int × List UInt8)) (w_ref13_Tell : (List (Int × Int × Int × (List UInt8) × Int)) × Int × List UInt8 → Option (List (Int × Int × Int × (List UInt8) × Int))) (w_ref13_AddRing : (List (Int × List UInt8)) × Int × List UInt8 → Option (List (Int × List UInt8))) (N : Nat) (x : Int × Int × (List (Int × List UInt8)) × (List (Int × List UInt8)) × (List (Int × Int × Int × (List UInt8) × Int)) × Int × Int) : F_ref13_Goes w_ref13_TakeWin w_ref13_Tell w_ref13_AddRing N x = V_ref13_Goes w_ref13_TakeWin w_ref13_Tell w_ref13_AddRing N x := by kernel_rfl
noncomputable def W_ref13_Goes (N : Nat) (x : Int × Int × (List (Int × List UInt8)) × (List (Int × List UInt8)) × (List (Int × Int × Int × (List UInt8) × Int)) × Int × Int) : Option ((List (Int × List UInt8)) × Int × Int × (List (Int × List UInt8)) × (List (Int × List UInt8)) × (List (Int × Int × Int × (List UInt8) × Int)) × Int × Int) :=
  obind (loopN N (fun (v : (Int × Int × List (Int × List UInt8) × List (Int × List UInt8) × List (Int × Int × Int × List UInt8 × Int) × Int × Int) ×
    (Int × Int × List (Int × List UInt8) × List (Int × List UInt8) × List (Int × Int × Int × List UInt8 × Int) × Int × Int) × List (Int × List UInt8))
    => obind (W_ref13_TakeWin N (v.1.2.2.2.1, v.1.1)) fun (b : List (Int × List UInt8) × Bool × Int × List UInt8) => cnd (!b.2.1) (some (Sum.inr (v.2.2,
    v.1.1, v.1.2.1, v.1.2.2.1, v.1.2.2.2.1, v.1.2.2.2.2.1, v.1.2.2.2.2.2.1, v.1.2.2.2.2.2.2))) (obind (W_ref13_Tell N (v.1.2.2.2.2.1, b.2.2.1, b.2.2.2))
    fun (b_1 : List (Int × Int × Int × List UInt8 × Int)) => obind (W_ref13_AddRing N (v.1.2.2.1, b.2.2.1, b.2.2.2)) fun (b_2 : List (Int × List UInt8))
    => cnd (decide ((List.length v.2.2 + List.length [(b.2.2.1, b.2.2.2)]) * (24 : Nat) ≤ (140737488355328 : Nat))) (some (Sum.inl ((wr IntKind.i64
    (v.1.1 + (1 : Int)), v.1.2.1, b_2, b.1, b_1, (0 : Int), (0 : Int)), (v.2.1.1, v.2.1.2.1, v.2.1.2.2.1, v.2.1.2.2.2.1, v.2.1.2.2.2.2.1,
    v.2.1.2.2.2.2.2.1, v.2.1.2.2.2.2.2.2), v.2.2 ++ [(b.2.2.1, b.2.2.2)]))) none)) ((x.1, x.2.1, x.2.2.1, x.2.2.2.1, x.2.2.2.2.1, x.2.2.2.2.2.1,
    x.2.2.2.2.2.2), ((0 : Int), (0 : Int), [], [], [], (0 : Int), (0 : Int)), [])) fun (b : List (Int × List UInt8) × Int × Int × List (Int × List
    UInt8) × List (Int × List UInt8) × List (Int × Int × Int × List UInt8 × Int) × Int × Int) => some (b.1, b.2.1, b.2.2.1, b.2.2.2.1, b.2.2.2.2.1,
    b.2.2.2.2.2.1, b.2.2.2.2.2.2.1, b.2.2.2.2.2.2.2)
theorem F_ref13_Goes_eq (N : Nat) (x : Int × Int × (List (Int × List UInt8)) × (List (Int × List UInt8)) × (List (Int × Int × Int × (List UInt8) × Int)) × Int × Int) : F_ref13_Goes (W_ref13_TakeWin N) (W_ref13_Tell N) (W_ref13_AddRing N) N x = W_ref13_Goes N x := (FV_ref13_Goes_eq (W_ref13_TakeWin N) (W_ref13_Tell N) (W_ref13_AddRing N) N x).trans (by kernel_rfl)
noncomputable def conw_ref13_Goes (w : Int × Int × (List (Int × List UInt8)) × (List (Int × List UInt8)) × (List (Int × Int × Int × (List UInt8) × Int)) × Int × Int → Option ((List (Int × List UInt8)) × Int × Int × (List (Int × List UInt8)) × (List (Int × List UInt8)) × (List (Int × Int × Int × (List UInt8) × Int)) × Int × Int)) : Con := ⟨79, as_ref13_Goes, bs_ref13_Goes, (List (Int × List UInt8)) × Int × Int × (List (Int × List UInt8)) × (List (Int × List UInt8)) × (List (Int × Int × Int × (List UInt8) × Int)) × Int × Int, w, out_ref13_Goes⟩
noncomputable def con_ref13_Goes (N : Nat) : Con := conw_ref13_Goes (W_ref13_Goes N)
theorem R_ref13_Goes_eq (x : Int × Int × (List (Int × List UInt8)) × (List (Int × List UInt8)) × (List (Int × Int × Int × (List UInt8) × Int)) × Int × Int) (y : (List (Int × List UInt8)) × Int × Int × (List (Int × List UInt8)) × (List (Int × List UInt8)) × (List (Int × Int × Int × (List UInt8) × Int)) × Int × Int) : retOf2 P0 Try.f79 (kpL []) (lbOf as_ref13_Goes bs_ref13_Goes x) (patS ⟨46, [], [], []⟩ pout_ref13_Goes y) = some (out_ref13_Goes y) := by kernel_rfl
theorem con_ref13_Goes_ok (N : Nat) : Con.ok P0 (con_ref13_Goes N) := ⟨⟨Try.f79, Try.func79, by kernel_rfl, by kernel_rfl⟩, fun (x : Int × Int × (List (Int × List UInt8)) × (List (Int × List UInt8)) × (List (Int × Int × Int × (List UInt8) × Int)) × Int × Int) (r : (List (Int × List UInt8)) × Int × Int × (List (Int × List UInt8)) × (List (Int × List UInt8)) × (List (Int × Int × Int × (List UInt8) × Int)) × Int × Int) (hr : W_ref13_Goes N x = some r) =>
  spec2_evT (Γ := G_ref13_Goes (W_ref13_TakeWin N) (W_ref13_Tell N) (W_ref13_AddRing N) N) (Λ := L0) (pout := pout_ref13_Goes) (kp := kpL []) mixed (orcOf_ok _ (by simp only [List.mem_cons, List.not_mem_nil, or_false, forall_eq_or_imp, forall_eq]; exact ⟨con_ref13_TakeWin_ok N, con_ref13_Tell_ok N, con_ref13_AddRing_ok N⟩)) Try.func79 (c := bodyOf Try.f79) (by kernel_rfl) (by kernel_rfl) (of_decide_eq_true (by kernel_rfl)) ((F_ref13_Goes_eq N x).trans hr) (R_ref13_Goes_eq x r)⟩
def as_ref13_Skips : List AS := [.val (.agg (.pair (.int .i64) (.pair (.int .i64) (.pair (.list (.agg (.pair (.int .i64) .str))) (.pair (.list (.agg (.pair (.int .i64) .str))) (.pair (.list (.agg (.pair (.int .i64) (.pair (.int .i64) (.pair (.int .i64) (.pair .str (.int .i64))))))) (.agg (.pair (.int .i64) (.int .i64))))))))), .val (.int .i64), .val (.int .i64)]
def bs_ref13_Skips : List BS := []
def pout_ref13_Skips : Pat := ⟨[(6, .ptr 600006 0), (7, .val (.list (.agg (.pair (.int .i64) (.int .i64)))))], [(600006, .box 29 (.val (.pair (.int .i64) (.pair (.int .i64) (.pair (.list (.agg (.pair (.int .i64) .str))) (.pair (.list (.agg (.pair (.int .i64) .str))) (.pair (.list (.agg (.pair (.int .i64) (.pair (.int .i64) (.pair (.int .i64) (.pair .str (.int .i64))))))) (.agg (.pair (.int .i64) (.int .i64))))))))))]⟩
noncomputable def G_ref13_Skips (w_ref13_First : List (Int × List UInt8) → Option (Int)) (w_ref13_Skip : (List (Int × Int × Int × (List UInt8) × Int)) × Int × Int × Int → Option (List (Int × Int × Int × (List UInt8) × Int))) (w_ref13_Goes : Int × Int × (List (Int × List UInt8)) × (List (Int × List UInt8)) × (List (Int × Int × Int × (List UInt8) × Int)) × Int × Int → Option ((List (Int × List UInt8)) × Int × Int × (List (Int × List UInt8)) × (List (Int × List UInt8)) × (List (Int × Int × Int × (List UInt8) × Int)) × Int × Int)) (N : Nat) : OrcT := orcOf [conw_ref13_First w_ref13_First, conw_ref13_Skip w_ref13_Skip, conw_ref13_Goes w_ref13_Goes]
noncomputable def F_ref13_Skips (w_ref13_First : List (Int × List UInt8) → Option (Int)) (w_ref13_Skip : (List (Int × Int × Int × (List UInt8) × Int)) × Int × Int × Int → Option (List (Int × Int × Int × (List UInt8) × Int))) (w_ref13_Goes : Int × Int × (List (Int × List UInt8)) × (List (Int × List UInt8)) × (List (Int × Int × Int × (List UInt8) × Int)) × Int × Int → Option ((List (Int × List UInt8)) × Int × Int × (List (Int × List UInt8)) × (List (Int × List UInt8)) × (List (Int × Int × Int × (List UInt8) × Int)) × Int × Int)) (N : Nat) (x : (Int × Int × (List (Int × List UInt8)) × (List (Int × List UInt8)) × (List (Int × Int × Int × (List UInt8) × Int)) × Int × Int) × Int × Int) : Option ((List (Int × Int)) × Int × Int × (List (Int × List UInt8)) × (List (Int × List UInt8)) × (List (Int × Int × Int × (List UInt8) × Int)) × Int × Int) :=
  (evT (G_ref13_Skips w_ref13_First w_ref13_Skip w_ref13_Goes N) L0 P0 [(4, .loop [] ⟨[(3, .ptr 600003 0), (6, .ptr 600006 0), (8, .acc 700008)], [(600003, .box 29 (.val (.pair (.int .i64) (.pair (.int .i64) (.pair (.list (.agg (.pair (.int .i64) .str))) (.pair (.list (.agg (.pair (.int .i64) .str))) (.pair (.list (.agg (.pair (.int .i64) (.pair (.int .i64) (.pair (.int .i64) (.pair .str (.int .i64))))))) (.agg (.pair (.int .i64) (.int .i64)))))))))), (600006, .box 29 (.val (.pair (.int .i64) (.pair (.int .i64) (.pair (.list (.agg (.pair (.int .i64) .str))) (.pair (.list (.agg (.pair (.int .i64) .str))) (.pair (.list (.agg (.pair (.int .i64) (.pair (.int .i64) (.pair (.int .i64) (.pair .str (.int .i64))))))) (.agg (.pair (.int .i64) (.int .i64)))))))))), (700008, .nrow 67 (.agg (.pair (.int .i64) (.int .i64))) true true)]⟩ [(.exit 0, ⟨[(3, .ptr 600003 0), (6, .ptr 600006 0), (8, .val (.list (.agg (.pair (.int .i64) (.int .i64)))))], [(600003, .box 29 (.val (.pair (.int .i64) (.pair (.int .i64) (.pair (.list (.agg (.pair (.int .i64) .str))) (.pair (.list (.agg (.pair (.int .i64) .str))) (.pair (.list (.agg (.pair (.int .i64) (.pair (.int .i64) (.pair (.int .i64) (.pair .str (.int .i64))))))) (.agg (.pair (.int .i64) (.int .i64)))))))))), (600006, .box 29 (.val (.pair (.int .i64) (.pair (.int .i64) (.pair (.list (.agg (.pair (.int .i64) .str))) (.pair (.list (.agg (.pair (.int .i64) .str))) (.pair (.list (.agg (.pair (.int .i64) (.pair (.int .i64) (.pair (.int .i64) (.pair .str (.int .i64))))))) (.agg (.pair (.int .i64) (.int .i64))))))))))]⟩)])]
    [(13, .cut [] [(.normal, ⟨[(3, .ptr 600003 0), (6, .ptr 600006 0), (8, .acc 700008)], [(600003, .box 29 (.val (.pair (.int .i64) (.pair (.int .i64) (.pair (.list (.agg (.pair (.int .i64) .str))) (.pair (.list (.agg (.pair (.int .i64) .str))) (.pair (.list (.agg (.pair (.int .i64) (.pair (.int .i64) (.pair (.int .i64) (.pair .str (.int .i64))))))) (.agg (.pair (.int .i64) (.int .i64)))))))))), (600006, .box 29 (.val (.pair (.int .i64) (.pair (.int .i64) (.pair (.list (.agg (.pair (.int .i64) .str))) (.pair (.list (.agg (.pair (.int .i64) .str))) (.pair (.list (.agg (.pair (.int .i64) (.pair (.int .i64) (.pair (.int .i64) (.pair .str (.int .i64))))))) (.agg (.pair (.int .i64) (.int .i64)))))))))), (700008, .nrow 67 (.agg (.pair (.int .i64) (.int .i64))) true true)]⟩)]),
    (9, .cut [] [(.normal, ⟨[(3, .ptr 600003 0), (6, .ptr 600006 0), (8, .acc 700008), (9, .val (.int .i64))], [(600003, .box 29 (.val (.pair (.int .i64) (.pair (.int .i64) (.pair (.list (.agg (.pair (.int .i64) .str))) (.pair (.list (.agg (.pair (.int .i64) .str))) (.pair (.list (.agg (.pair (.int .i64) (.pair (.int .i64) (.pair (.int .i64) (.pair .str (.int .i64))))))) (.agg (.pair (.int .i64) (.int .i64)))))))))), (600006, .box 29 (.val (.pair (.int .i64) (.pair (.int .i64) (.pair (.list (.agg (.pair (.int .i64) .str))) (.pair (.list (.agg (.pair (.int .i64) .str))) (.pair (.list (.agg (.pair (.int .i64) (.pair (.int .i64) (.pair (.int .i64) (.pair .str (.int .i64))))))) (.agg (.pair (.int .i64) (.int .i64)))))))))), (700008, .nrow 67 (.agg (.pair (.int .i64) (.int .i64))) true true)]⟩)])] N 400 (bodyOf Try.f78) ⟨73, slots 0 (argsOf as_ref13_Skips bs_ref13_Skips x), tabU (lbOf as_ref13_Skips bs_ref13_Skips x) [], []⟩).elim (kRet 73 pout_ref13_Skips (kpL []) (lbOf as_ref13_Skips bs_ref13_Skips x))
def out_ref13_Skips (y : (List (Int × Int)) × Int × Int × (List (Int × List UInt8)) × (List (Int × List UInt8)) × (List (Int × Int × Int × (List UInt8) × Int)) × Int × Int) : V × List OK × List OK := (.tup [valW (.agg (.pair (.int .i64) (.pair (.int .i64) (.pair (.list (.agg (.pair (.int .i64) .str))) (.pair (.list (.agg (.pair (.int .i64) .str))) (.pair (.list (.agg (.pair (.int .i64) (.pair (.int .i64) (.pair (.int .i64) (.pair .str (.int .i64))))))) (.agg (.pair (.int .i64) (.int .i64))))))))) y.2, valW (.list (.agg (.pair (.int .i64) (.int .i64)))) y.1], [], [])
noncomputable def V_ref13_Skips (w_ref13_First : List (Int × List UInt8) → Option (Int)) (w_ref13_Skip : (List (Int × Int × Int × (List UInt8) × Int)) × Int × Int × Int → Option (List (Int × Int × Int × (List UInt8) × Int))) (w_ref13_Goes : Int × Int × (List (Int × List UInt8)) × (List (Int × List UInt8)) × (List (Int × Int × Int × (List UInt8) × Int)) × Int × Int → Option ((List (Int × List UInt8)) × Int × Int × (List (Int × List UInt8)) × (List (Int × List UInt8)) × (List (Int × Int × Int × (List UInt8) × Int)) × Int × Int)) (N : Nat) (x : (Int × Int × (List (Int × List UInt8)) × (List (Int × List UInt8)) × (List (Int × Int × Int × (List UInt8) × Int)) × Int × Int) × Int × Int) : Option ((List (Int × Int)) × Int × Int × (List (Int × List UInt8)) × (List (Int × List UInt8)) × (List (Int × Int × Int × (List UInt8) × Int)) × Int × Int) :=
  cnd (decide (x.1.1 < (1 : Int))) (some ([], x.1.1, x.1.2.1, x.1.2.2.1, x.1.2.2.2.1, x.1.2.2.2.2.1, x.1.2.2.2.2.2.1, x.1.2.2.2.2.2.2)) (cnd (decide
    ((1000000 : Int) < x.2.1)) (some ([], x.1.1, x.1.2.1, x.1.2.2.1, x.1.2.2.2.1, x.1.2.2.2.2.1, x.1.2.2.2.2.2.1, x.1.2.2.2.2.2.2)) (obind (loopN N (fun
    (v : (Int × Int × List (Int × List UInt8) × List (Int × List UInt8) × List (Int × Int × Int × List UInt8 × Int) × Int × Int) × (Int × Int × List
    (Int × List UInt8) × List (Int × List UInt8) × List (Int × Int × Int × List UInt8 × Int) × Int × Int) × List (Int × Int)) => cnd (decide (v.1.1 ≤
    x.2.1)) (obind (cnd (decide ((0 : Int) < (↑(List.length v.1.2.2.2.1) : Int))) (obind (w_ref13_First v.1.2.2.2.1) fun (b : Int) => cnd (decide (b ≤
    x.2.1)) (obind (w_ref13_First v.1.2.2.2.1) fun (b : Int) => some (wr IntKind.i64 (b - (1 : Int)), (v.1.1, v.1.2.1, v.1.2.2.1, v.1.2.2.2.1,
    v.1.2.2.2.2.1, (0 : Int), (0 : Int)), (v.2.1.1, v.2.1.2.1, v.2.1.2.2.1, v.2.1.2.2.2.1, v.2.1.2.2.2.2.1, v.2.1.2.2.2.2.2.1, v.2.1.2.2.2.2.2.2),
    v.2.2)) (some (x.2.1, (v.1.1, v.1.2.1, v.1.2.2.1, v.1.2.2.2.1, v.1.2.2.2.2.1, (0 : Int), (0 : Int)), (v.2.1.1, v.2.1.2.1, v.2.1.2.2.1,
    v.2.1.2.2.2.1, v.2.1.2.2.2.2.1, v.2.1.2.2.2.2.2.1, v.2.1.2.2.2.2.2.2), v.2.2))) (some (x.2.1, (v.1.1, v.1.2.1, v.1.2.2.1, v.1.2.2.2.1,
    v.1.2.2.2.2.1, (0 : Int), (0 : Int)), (v.2.1.1, v.2.1.2.1, v.2.1.2.2.1, v.2.1.2.2.2.1, v.2.1.2.2.2.2.1, v.2.1.2.2.2.2.2.1, v.2.1.2.2.2.2.2.2),
    v.2.2))) fun (b : Int × (Int × Int × List (Int × List UInt8) × List (Int × List UInt8) × List (Int × Int × Int × List UInt8 × Int) × Int × Int) ×
    (Int × Int × List (Int × List UInt8) × List (Int × List UInt8) × List (Int × Int × Int × List UInt8 × Int) × Int × Int) × List (Int × Int)) => obind
    (cnd (decide (b.2.1.1 ≤ b.1)) (obind (w_ref13_Skip (b.2.1.2.2.2.2.1, b.2.1.1, b.1, x.2.2)) fun (b_1 : List (Int × Int × Int × List UInt8 × Int))
    => cnd (decide ((List.length b.2.2.2 + List.length [(b.2.1.1, b.1)]) * (16 : Nat) ≤ (140737488355328 : Nat))) (some ((wr IntKind.i64 (b.1 + (1 :
    Int)), b.2.1.2.1, b.2.1.2.2.1, b.2.1.2.2.2.1, b_1, b.2.1.2.2.2.2.2.1, b.2.1.2.2.2.2.2.2), (b.2.2.1.1, b.2.2.1.2.1, b.2.2.1.2.2.1, b.2.2.1.2.2.2.1,
    b.2.2.1.2.2.2.2.1, b.2.2.1.2.2.2.2.2.1, b.2.2.1.2.2.2.2.2.2), b.2.2.2 ++ [(b.2.1.1, b.1)])) none) (some ((b.2.1.1, b.2.1.2.1, b.2.1.2.2.1,
    b.2.1.2.2.2.1, b.2.1.2.2.2.2.1, b.2.1.2.2.2.2.2.1, b.2.1.2.2.2.2.2.2), (b.2.2.1.1, b.2.2.1.2.1, b.2.2.1.2.2.1, b.2.2.1.2.2.2.1, b.2.2.1.2.2.2.2.1,
    b.2.2.1.2.2.2.2.2.1, b.2.2.1.2.2.2.2.2.2), b.2.2.2))) fun (b : (Int × Int × List (Int × List UInt8) × List (Int × List UInt8) × List (Int × Int ×
    Int × List UInt8 × Int) × Int × Int) × (Int × Int × List (Int × List UInt8) × List (Int × List UInt8) × List (Int × Int × Int × List UInt8 × Int) ×
    Int × Int) × List (Int × Int)) => cnd (decide (b.1.1 ≤ x.2.1)) (obind (w_ref13_Goes (b.1.1, b.1.2.1, b.1.2.2.1, b.1.2.2.2.1, b.1.2.2.2.2.1,
    b.1.2.2.2.2.2.1, b.1.2.2.2.2.2.2)) fun (b_1 : List (Int × List UInt8) × Int × Int × List (Int × List UInt8) × List (Int × List UInt8) × List (Int ×
    Int × Int × List UInt8 × Int) × Int × Int) => some (Sum.inl ((b_1.2.1, b_1.2.2.1, b_1.2.2.2.1, b_1.2.2.2.2.1, b_1.2.2.2.2.2.1, b_1.2.2.2.2.2.2.1,
    b_1.2.2.2.2.2.2.2), (b.2.1.1, b.2.1.2.1, b.2.1.2.2.1, b.2.1.2.2.2.1, b.2.1.2.2.2.2.1, b.2.1.2.2.2.2.2.1, b.2.1.2.2.2.2.2.2), b.2.2))) (some (Sum.inl
    ((b.1.1, b.1.2.1, b.1.2.2.1, b.1.2.2.2.1, b.1.2.2.2.2.1, b.1.2.2.2.2.2.1, b.1.2.2.2.2.2.2), (b.2.1.1, b.2.1.2.1, b.2.1.2.2.1, b.2.1.2.2.2.1,
    b.2.1.2.2.2.2.1, b.2.1.2.2.2.2.2.1, b.2.1.2.2.2.2.2.2), b.2.2)))) (some (Sum.inr (v.2.2, (v.1.1, v.1.2.1, v.1.2.2.1, v.1.2.2.2.1, v.1.2.2.2.2.1,
    v.1.2.2.2.2.2.1, v.1.2.2.2.2.2.2), v.2.1.1, v.2.1.2.1, v.2.1.2.2.1, v.2.1.2.2.2.1, v.2.1.2.2.2.2.1, v.2.1.2.2.2.2.2.1, v.2.1.2.2.2.2.2.2))))
    ((x.1.1, x.1.2.1, x.1.2.2.1, x.1.2.2.2.1, x.1.2.2.2.2.1, x.1.2.2.2.2.2.1, x.1.2.2.2.2.2.2), ((0 : Int), (0 : Int), [], [], [], (0 : Int), (0 :
    Int)), [])) fun (b : List (Int × Int) × (Int × Int × List (Int × List UInt8) × List (Int × List UInt8) × List (Int × Int × Int × List UInt8 × Int) ×
    Int × Int) × Int × Int × List (Int × List UInt8) × List (Int × List UInt8) × List (Int × Int × Int × List UInt8 × Int) × Int × Int) => some (b.1,
    b.2.1.1, b.2.1.2.1, b.2.1.2.2.1, b.2.1.2.2.2.1, b.2.1.2.2.2.2.1, b.2.1.2.2.2.2.2.1, b.2.1.2.2.2.2.2.2)))
theorem FV_ref13_Skips_eq (w_ref13_First : List (Int × List UInt8) → Option (Int)) (w_ref13_Skip : (List (Int × Int × Int × (List UInt8) × Int)) × Int × Int × Int → Option (List (Int × Int × Int × (List UInt8) × Int))) (w_ref13_Goes : Int × Int × (List (Int × List UInt8)) × (List (Int × List UInt8)) × (List (Int × Int × Int × (List UInt8) × Int)) × Int × Int → Option ((List (Int × List UInt8)) × Int × Int × (List (Int × List UInt8)) × (List (Int × List UInt8)) × (List (Int × Int × Int × (List UInt8) × Int)) × Int × Int)) (N : Nat) (x : (Int × Int × (List (Int × List UInt8)) × (List (Int × List UInt8)) × (List (Int × Int × Int × (List UInt8) × Int)) × Int × Int) × Int × Int) : F_ref13_Skips w_ref13_First w_ref13_Skip w_ref13_Goes N x = V_ref13_Skips w_ref13_First w_ref13_Skip w_ref13_Goes N x := by kernel_rfl
noncomputable def W_ref13_Skips (N : Nat) (x : (Int × Int × (List (Int × List UInt8)) × (List (Int × List UInt8)) × (List (Int × Int × Int × (List UInt8) × Int)) × Int × Int) × Int × Int) : Option ((List (Int × Int)) × Int × Int × (List (Int × List UInt8)) × (List (Int × List UInt8)) × (List (Int × Int × Int × (List UInt8) × Int)) × Int × Int) :=
  cnd (decide (x.1.1 < (1 : Int))) (some ([], x.1.1, x.1.2.1, x.1.2.2.1, x.1.2.2.2.1, x.1.2.2.2.2.1, x.1.2.2.2.2.2.1, x.1.2.2.2.2.2.2)) (cnd (decide
    ((1000000 : Int) < x.2.1)) (some ([], x.1.1, x.1.2.1, x.1.2.2.1, x.1.2.2.2.1, x.1.2.2.2.2.1, x.1.2.2.2.2.2.1, x.1.2.2.2.2.2.2)) (obind (loopN N (fun
    (v : (Int × Int × List (Int × List UInt8) × List (Int × List UInt8) × List (Int × Int × Int × List UInt8 × Int) × Int × Int) × (Int × Int × List
    (Int × List UInt8) × List (Int × List UInt8) × List (Int × Int × Int × List UInt8 × Int) × Int × Int) × List (Int × Int)) => cnd (decide (v.1.1 ≤
    x.2.1)) (obind (cnd (decide ((0 : Int) < (↑(List.length v.1.2.2.2.1) : Int))) (obind (W_ref13_First N v.1.2.2.2.1) fun (b : Int) => cnd (decide (b ≤
    x.2.1)) (obind (W_ref13_First N v.1.2.2.2.1) fun (b : Int) => some (wr IntKind.i64 (b - (1 : Int)), (v.1.1, v.1.2.1, v.1.2.2.1, v.1.2.2.2.1,
    v.1.2.2.2.2.1, (0 : Int), (0 : Int)), (v.2.1.1, v.2.1.2.1, v.2.1.2.2.1, v.2.1.2.2.2.1, v.2.1.2.2.2.2.1, v.2.1.2.2.2.2.2.1, v.2.1.2.2.2.2.2.2),
    v.2.2)) (some (x.2.1, (v.1.1, v.1.2.1, v.1.2.2.1, v.1.2.2.2.1, v.1.2.2.2.2.1, (0 : Int), (0 : Int)), (v.2.1.1, v.2.1.2.1, v.2.1.2.2.1,
    v.2.1.2.2.2.1, v.2.1.2.2.2.2.1, v.2.1.2.2.2.2.2.1, v.2.1.2.2.2.2.2.2), v.2.2))) (some (x.2.1, (v.1.1, v.1.2.1, v.1.2.2.1, v.1.2.2.2.1,
    v.1.2.2.2.2.1, (0 : Int), (0 : Int)), (v.2.1.1, v.2.1.2.1, v.2.1.2.2.1, v.2.1.2.2.2.1, v.2.1.2.2.2.2.1, v.2.1.2.2.2.2.2.1, v.2.1.2.2.2.2.2.2),
    v.2.2))) fun (b : Int × (Int × Int × List (Int × List UInt8) × List (Int × List UInt8) × List (Int × Int × Int × List UInt8 × Int) × Int × Int) ×
    (Int × Int × List (Int × List UInt8) × List (Int × List UInt8) × List (Int × Int × Int × List UInt8 × Int) × Int × Int) × List (Int × Int)) => obind
    (cnd (decide (b.2.1.1 ≤ b.1)) (obind (W_ref13_Skip N (b.2.1.2.2.2.2.1, b.2.1.1, b.1, x.2.2)) fun (b_1 : List (Int × Int × Int × List UInt8 × Int))
    => cnd (decide ((List.length b.2.2.2 + List.length [(b.2.1.1, b.1)]) * (16 : Nat) ≤ (140737488355328 : Nat))) (some ((wr IntKind.i64 (b.1 + (1 :
    Int)), b.2.1.2.1, b.2.1.2.2.1, b.2.1.2.2.2.1, b_1, b.2.1.2.2.2.2.2.1, b.2.1.2.2.2.2.2.2), (b.2.2.1.1, b.2.2.1.2.1, b.2.2.1.2.2.1, b.2.2.1.2.2.2.1,
    b.2.2.1.2.2.2.2.1, b.2.2.1.2.2.2.2.2.1, b.2.2.1.2.2.2.2.2.2), b.2.2.2 ++ [(b.2.1.1, b.1)])) none) (some ((b.2.1.1, b.2.1.2.1, b.2.1.2.2.1,
    b.2.1.2.2.2.1, b.2.1.2.2.2.2.1, b.2.1.2.2.2.2.2.1, b.2.1.2.2.2.2.2.2), (b.2.2.1.1, b.2.2.1.2.1, b.2.2.1.2.2.1, b.2.2.1.2.2.2.1, b.2.2.1.2.2.2.2.1,
    b.2.2.1.2.2.2.2.2.1, b.2.2.1.2.2.2.2.2.2), b.2.2.2))) fun (b : (Int × Int × List (Int × List UInt8) × List (Int × List UInt8) × List (Int × Int ×
    Int × List UInt8 × Int) × Int × Int) × (Int × Int × List (Int × List UInt8) × List (Int × List UInt8) × List (Int × Int × Int × List UInt8 × Int) ×
    Int × Int) × List (Int × Int)) => cnd (decide (b.1.1 ≤ x.2.1)) (obind (W_ref13_Goes N (b.1.1, b.1.2.1, b.1.2.2.1, b.1.2.2.2.1, b.1.2.2.2.2.1,
    b.1.2.2.2.2.2.1, b.1.2.2.2.2.2.2)) fun (b_1 : List (Int × List UInt8) × Int × Int × List (Int × List UInt8) × List (Int × List UInt8) × List (Int ×
    Int × Int × List UInt8 × Int) × Int × Int) => some (Sum.inl ((b_1.2.1, b_1.2.2.1, b_1.2.2.2.1, b_1.2.2.2.2.1, b_1.2.2.2.2.2.1, b_1.2.2.2.2.2.2.1,
    b_1.2.2.2.2.2.2.2), (b.2.1.1, b.2.1.2.1, b.2.1.2.2.1, b.2.1.2.2.2.1, b.2.1.2.2.2.2.1, b.2.1.2.2.2.2.2.1, b.2.1.2.2.2.2.2.2), b.2.2))) (some (Sum.inl
    ((b.1.1, b.1.2.1, b.1.2.2.1, b.1.2.2.2.1, b.1.2.2.2.2.1, b.1.2.2.2.2.2.1, b.1.2.2.2.2.2.2), (b.2.1.1, b.2.1.2.1, b.2.1.2.2.1, b.2.1.2.2.2.1,
    b.2.1.2.2.2.2.1, b.2.1.2.2.2.2.2.1, b.2.1.2.2.2.2.2.2), b.2.2)))) (some (Sum.inr (v.2.2, (v.1.1, v.1.2.1, v.1.2.2.1, v.1.2.2.2.1, v.1.2.2.2.2.1,
    v.1.2.2.2.2.2.1, v.1.2.2.2.2.2.2), v.2.1.1, v.2.1.2.1, v.2.1.2.2.1, v.2.1.2.2.2.1, v.2.1.2.2.2.2.1, v.2.1.2.2.2.2.2.1, v.2.1.2.2.2.2.2.2))))
    ((x.1.1, x.1.2.1, x.1.2.2.1, x.1.2.2.2.1, x.1.2.2.2.2.1, x.1.2.2.2.2.2.1, x.1.2.2.2.2.2.2), ((0 : Int), (0 : Int), [], [], [], (0 : Int), (0 :
    Int)), [])) fun (b : List (Int × Int) × (Int × Int × List (Int × List UInt8) × List (Int × List UInt8) × List (Int × Int × Int × List UInt8 × Int) ×
    Int × Int) × Int × Int × List (Int × List UInt8) × List (Int × List UInt8) × List (Int × Int × Int × List UInt8 × Int) × Int × Int) => some (b.1,
    b.2.1.1, b.2.1.2.1, b.2.1.2.2.1, b.2.1.2.2.2.1, b.2.1.2.2.2.2.1, b.2.1.2.2.2.2.2.1, b.2.1.2.2.2.2.2.2)))
theorem F_ref13_Skips_eq (N : Nat) (x : (Int × Int × (List (Int × List UInt8)) × (List (Int × List UInt8)) × (List (Int × Int × Int × (List UInt8) × Int)) × Int × Int) × Int × Int) : F_ref13_Skips (W_ref13_First N) (W_ref13_Skip N) (W_ref13_Goes N) N x = W_ref13_Skips N x := (FV_ref13_Skips_eq (W_ref13_First N) (W_ref13_Skip N) (W_ref13_Goes N) N x).trans (by kernel_rfl)
noncomputable def conw_ref13_Skips (w : (Int × Int × (List (Int × List UInt8)) × (List (Int × List UInt8)) × (List (Int × Int × Int × (List UInt8) × Int)) × Int × Int) × Int × Int → Option ((List (Int × Int)) × Int × Int × (List (Int × List UInt8)) × (List (Int × List UInt8)) × (List (Int × Int × Int × (List UInt8) × Int)) × Int × Int)) : Con := ⟨78, as_ref13_Skips, bs_ref13_Skips, (List (Int × Int)) × Int × Int × (List (Int × List UInt8)) × (List (Int × List UInt8)) × (List (Int × Int × Int × (List UInt8) × Int)) × Int × Int, w, out_ref13_Skips⟩
noncomputable def con_ref13_Skips (N : Nat) : Con := conw_ref13_Skips (W_ref13_Skips N)
theorem R_ref13_Skips_eq (x : (Int × Int × (List (Int × List UInt8)) × (List (Int × List UInt8)) × (List (Int × Int × Int × (List UInt8) × Int)) × Int × Int) × Int × Int) (y : (List (Int × Int)) × Int × Int × (List (Int × List UInt8)) × (List (Int × List UInt8)) × (List (Int × Int × Int × (List UInt8) × Int)) × Int × Int) : retOf2 P0 Try.f78 (kpL []) (lbOf as_ref13_Skips bs_ref13_Skips x) (patS ⟨73, [], [], []⟩ pout_ref13_Skips y) = some (out_ref13_Skips y) := by kernel_rfl
theorem con_ref13_Skips_ok (N : Nat) : Con.ok P0 (con_ref13_Skips N) := ⟨⟨Try.f78, Try.func78, by kernel_rfl, by kernel_rfl⟩, fun (x : (Int × Int × (List (Int × List UInt8)) × (List (Int × List UInt8)) × (List (Int × Int × Int × (List UInt8) × Int)) × Int × Int) × Int × Int) (r : (List (Int × Int)) × Int × Int × (List (Int × List UInt8)) × (List (Int × List UInt8)) × (List (Int × Int × Int × (List UInt8) × Int)) × Int × Int) (hr : W_ref13_Skips N x = some r) =>
  spec2_evT (Γ := G_ref13_Skips (W_ref13_First N) (W_ref13_Skip N) (W_ref13_Goes N) N) (Λ := L0) (pout := pout_ref13_Skips) (kp := kpL []) mixed (orcOf_ok _ (by simp only [List.mem_cons, List.not_mem_nil, or_false, forall_eq_or_imp, forall_eq]; exact ⟨con_ref13_First_ok N, con_ref13_Skip_ok N, con_ref13_Goes_ok N⟩)) Try.func78 (c := bodyOf Try.f78) (by kernel_rfl) (by kernel_rfl) (of_decide_eq_true (by kernel_rfl)) ((F_ref13_Skips_eq N x).trans hr) (R_ref13_Skips_eq x r)⟩
def as_ref13_Notes : List AS := [.val (.agg (.pair (.int .i64) (.pair (.int .i64) (.pair (.list (.agg (.pair (.int .i64) .str))) (.pair (.list (.agg (.pair (.int .i64) .str))) (.pair (.list (.agg (.pair (.int .i64) (.pair (.int .i64) (.pair (.int .i64) (.pair .str (.int .i64))))))) (.agg (.pair (.int .i64) (.int .i64))))))))), .val (.int .i64), .val (.int .i64)]
def bs_ref13_Notes : List BS := []
def pout_ref13_Notes : Pat := ⟨[(6, .ptr 600006 0)], [(600006, .box 29 (.val (.pair (.int .i64) (.pair (.int .i64) (.pair (.list (.agg (.pair (.int .i64) .str))) (.pair (.list (.agg (.pair (.int .i64) .str))) (.pair (.list (.agg (.pair (.int .i64) (.pair (.int .i64) (.pair (.int .i64) (.pair .str (.int .i64))))))) (.agg (.pair (.int .i64) (.int .i64))))))))))]⟩
noncomputable def G_ref13_Notes (w_ref1_MaySpan : Int × Int → Option (Bool)) (w_ref13_Knows : (Int × Int × (List (Int × List UInt8)) × (List (Int × List UInt8)) × (List (Int × Int × Int × (List UInt8) × Int)) × Int × Int) × Int → Option (Int × Int × (List (Int × List UInt8)) × (List (Int × List UInt8)) × (List (Int × Int × Int × (List UInt8) × Int)) × Int × Int)) (w_ref13_Skips : (Int × Int × (List (Int × List UInt8)) × (List (Int × List UInt8)) × (List (Int × Int × Int × (List UInt8) × Int)) × Int × Int) × Int × Int → Option ((List (Int × Int)) × Int × Int × (List (Int × List UInt8)) × (List (Int × List UInt8)) × (List (Int × Int × Int × (List UInt8) × Int)) × Int × Int)) (w_ref13_Goes : Int × Int × (List (Int × List UInt8)) × (List (Int × List UInt8)) × (List (Int × Int × Int × (List UInt8) × Int)) × Int × Int → Option ((List (Int × List UInt8)) × Int × Int × (List (Int × List UInt8)) × (List (Int × List UInt8)) × (List (Int × Int × Int × (List UInt8) × Int)) × Int × Int)) (N : Nat) : OrcT := orcOf [conw_ref1_MaySpan w_ref1_MaySpan, conw_ref13_Knows w_ref13_Knows, conw_ref13_Skips w_ref13_Skips, conw_ref13_Goes w_ref13_Goes]
noncomputable def F_ref13_Notes (w_ref1_MaySpan : Int × Int → Option (Bool)) (w_ref13_Knows : (Int × Int × (List (Int × List UInt8)) × (List (Int × List UInt8)) × (List (Int × Int × Int × (List UInt8) × Int)) × Int × Int) × Int → Option (Int × Int × (List (Int × List UInt8)) × (List (Int × List UInt8)) × (List (Int × Int × Int × (List UInt8) × Int)) × Int × Int)) (w_ref13_Skips : (Int × Int × (List (Int × List UInt8)) × (List (Int × List UInt8)) × (List (Int × Int × Int × (List UInt8) × Int)) × Int × Int) × Int × Int → Option ((List (Int × Int)) × Int × Int × (List (Int × List UInt8)) × (List (Int × List UInt8)) × (List (Int × Int × Int × (List UInt8) × Int)) × Int × Int)) (w_ref13_Goes : Int × Int × (List (Int × List UInt8)) × (List (Int × List UInt8)) × (List (Int × Int × Int × (List UInt8) × Int)) × Int × Int → Option ((List (Int × List UInt8)) × Int × Int × (List (Int × List UInt8)) × (List (Int × List UInt8)) × (List (Int × Int × Int × (List UInt8) × Int)) × Int × Int)) (N : Nat) (x : (Int × Int × (List (Int × List UInt8)) × (List (Int × List UInt8)) × (List (Int × Int × Int × (List UInt8) × Int)) × Int × Int) × Int × Int) : Option (Int × Int × (List (Int × List UInt8)) × (List (Int × List UInt8)) × (List (Int × Int × Int × (List UInt8) × Int)) × Int × Int) :=
  (evT (G_ref13_Notes w_ref1_MaySpan w_ref13_Knows w_ref13_Skips w_ref13_Goes N) L0 P0 []
    [] N 400 (bodyOf Try.f32) ⟨44, slots 0 (argsOf as_ref13_Notes bs_ref13_Notes x), tabU (lbOf as_ref13_Notes bs_ref13_Notes x) [], []⟩).elim (kRet 44 pout_ref13_Notes (kpL []) (lbOf as_ref13_Notes bs_ref13_Notes x))
def out_ref13_Notes (y : Int × Int × (List (Int × List UInt8)) × (List (Int × List UInt8)) × (List (Int × Int × Int × (List UInt8) × Int)) × Int × Int) : V × List OK × List OK := (valW (.agg (.pair (.int .i64) (.pair (.int .i64) (.pair (.list (.agg (.pair (.int .i64) .str))) (.pair (.list (.agg (.pair (.int .i64) .str))) (.pair (.list (.agg (.pair (.int .i64) (.pair (.int .i64) (.pair (.int .i64) (.pair .str (.int .i64))))))) (.agg (.pair (.int .i64) (.int .i64))))))))) y, [], [])
noncomputable def V_ref13_Notes (w_ref1_MaySpan : Int × Int → Option (Bool)) (w_ref13_Knows : (Int × Int × (List (Int × List UInt8)) × (List (Int × List UInt8)) × (List (Int × Int × Int × (List UInt8) × Int)) × Int × Int) × Int → Option (Int × Int × (List (Int × List UInt8)) × (List (Int × List UInt8)) × (List (Int × Int × Int × (List UInt8) × Int)) × Int × Int)) (w_ref13_Skips : (Int × Int × (List (Int × List UInt8)) × (List (Int × List UInt8)) × (List (Int × Int × Int × (List UInt8) × Int)) × Int × Int) × Int × Int → Option ((List (Int × Int)) × Int × Int × (List (Int × List UInt8)) × (List (Int × List UInt8)) × (List (Int × Int × Int × (List UInt8) × Int)) × Int × Int)) (w_ref13_Goes : Int × Int × (List (Int × List UInt8)) × (List (Int × List UInt8)) × (List (Int × Int × Int × (List UInt8) × Int)) × Int × Int → Option ((List (Int × List UInt8)) × Int × Int × (List (Int × List UInt8)) × (List (Int × List UInt8)) × (List (Int × Int × Int × (List UInt8) × Int)) × Int × Int)) (N : Nat) (x : (Int × Int × (List (Int × List UInt8)) × (List (Int × List UInt8)) × (List (Int × Int × Int × (List UInt8) × Int)) × Int × Int) × Int × Int) : Option (Int × Int × (List (Int × List UInt8)) × (List (Int × List UInt8)) × (List (Int × Int × Int × (List UInt8) × Int)) × Int × Int) :=
  cnd (decide (x.1.1 = (0 : Int))) (some (x.1.1, x.1.2.1, x.1.2.2.1, x.1.2.2.2.1, x.1.2.2.2.2.1, x.1.2.2.2.2.2.1, x.1.2.2.2.2.2.2)) (obind
    (w_ref1_MaySpan (x.2.1, x.2.2)) fun (b : Bool) => cnd (!b) (some (x.1.1, x.1.2.1, x.1.2.2.1, x.1.2.2.2.1, x.1.2.2.2.2.1, x.1.2.2.2.2.2.1,
    x.1.2.2.2.2.2.2)) (obind (w_ref13_Knows ((x.1.1, x.1.2.1, x.1.2.2.1, x.1.2.2.2.1, x.1.2.2.2.2.1, x.1.2.2.2.2.2.1, x.1.2.2.2.2.2.2), x.2.2)) fun (b
    : Int × Int × List (Int × List UInt8) × List (Int × List UInt8) × List (Int × Int × Int × List UInt8 × Int) × Int × Int) => cnd (decide (b.1 <
    x.2.1)) (some (b.1, b.2.1, b.2.2.1, b.2.2.2.1, b.2.2.2.2.1, b.2.2.2.2.2.1, b.2.2.2.2.2.2)) (cnd (decide (x.2.2 < b.1)) (some (b.1, b.2.1, b.2.2.1,
    b.2.2.2.1, b.2.2.2.2.1, b.2.2.2.2.2.1, b.2.2.2.2.2.2)) (obind (w_ref13_Skips ((b.1, b.2.1, b.2.2.1, b.2.2.2.1, b.2.2.2.2.1, b.2.2.2.2.2.1,
    b.2.2.2.2.2.2), x.2.2, (1 : Int))) fun (b : List (Int × Int) × Int × Int × List (Int × List UInt8) × List (Int × List UInt8) × List (Int × Int × Int
    × List UInt8 × Int) × Int × Int) => obind (w_ref13_Goes (b.2.1, b.2.2.1, b.2.2.2.1, b.2.2.2.2.1, b.2.2.2.2.2.1, b.2.2.2.2.2.2.1, b.2.2.2.2.2.2.2))
    fun (b : List (Int × List UInt8) × Int × Int × List (Int × List UInt8) × List (Int × List UInt8) × List (Int × Int × Int × List UInt8 × Int) × Int ×
    Int) => some (b.2.1, b.2.2.1, b.2.2.2.1, b.2.2.2.2.1, b.2.2.2.2.2.1, b.2.2.2.2.2.2.1, b.2.2.2.2.2.2.2)))))
theorem FV_ref13_Notes_eq (w_ref1_MaySpan : Int × Int → Option (Bool)) (w_ref13_Knows : (Int × Int × (List (Int × List UInt8)) × (List (Int × List UInt8)) × (List (Int × Int × Int × (List UInt8) × Int)) × Int × Int) × Int → Option (Int × Int × (List (Int × List UInt8)) × (List (Int × List UInt8)) × (List (Int × Int × Int × (List UInt8) × Int)) × Int × Int)) (w_ref13_Skips : (Int × Int × (List (Int × List UInt8)) × (List (Int × List UInt8)) × (List (Int × Int × Int × (List UInt8) × Int)) × Int × Int) × Int × Int → Option ((List (Int × Int)) × Int × Int × (List (Int × List UInt8)) × (List (Int × List UInt8)) × (List (Int × Int × Int × (List UInt8) × Int)) × Int × Int)) (w_ref13_Goes : Int × Int × (List (Int × List UInt8)) × (List (Int × List UInt8)) × (List (Int × Int × Int × (List UInt8) × Int)) × Int × Int → Option ((List (Int × List UInt8)) × Int × Int × (List (Int × List UInt8)) × (List (Int × List UInt8)) × (List (Int × Int × Int × (List UInt8) × Int)) × Int × Int)) (N : Nat) (x : (Int × Int × (List (Int × List UInt8)) × (List (Int × List UInt8)) × (List (Int × Int × Int × (List UInt8) × Int)) × Int × Int) × Int × Int) : F_ref13_Notes w_ref1_MaySpan w_ref13_Knows w_ref13_Skips w_ref13_Goes N x = V_ref13_Notes w_ref1_MaySpan w_ref13_Knows w_ref13_Skips w_ref13_Goes N x := by kernel_rfl
noncomputable def W_ref13_Notes (N : Nat) (x : (Int × Int × (List (Int × List UInt8)) × (List (Int × List UInt8)) × (List (Int × Int × Int × (List UInt8) × Int)) × Int × Int) × Int × Int) : Option (Int × Int × (List (Int × List UInt8)) × (List (Int × List UInt8)) × (List (Int × Int × Int × (List UInt8) × Int)) × Int × Int) :=
  cnd (decide (x.1.1 = (0 : Int))) (some (x.1.1, x.1.2.1, x.1.2.2.1, x.1.2.2.2.1, x.1.2.2.2.2.1, x.1.2.2.2.2.2.1, x.1.2.2.2.2.2.2)) (obind
    (W_ref1_MaySpan N (x.2.1, x.2.2)) fun (b : Bool) => cnd (!b) (some (x.1.1, x.1.2.1, x.1.2.2.1, x.1.2.2.2.1, x.1.2.2.2.2.1, x.1.2.2.2.2.2.1,
    x.1.2.2.2.2.2.2)) (obind (W_ref13_Knows N ((x.1.1, x.1.2.1, x.1.2.2.1, x.1.2.2.2.1, x.1.2.2.2.2.1, x.1.2.2.2.2.2.1, x.1.2.2.2.2.2.2), x.2.2)) fun (b
    : Int × Int × List (Int × List UInt8) × List (Int × List UInt8) × List (Int × Int × Int × List UInt8 × Int) × Int × Int) => cnd (decide (b.1 <
    x.2.1)) (some (b.1, b.2.1, b.2.2.1, b.2.2.2.1, b.2.2.2.2.1, b.2.2.2.2.2.1, b.2.2.2.2.2.2)) (cnd (decide (x.2.2 < b.1)) (some (b.1, b.2.1, b.2.2.1,
    b.2.2.2.1, b.2.2.2.2.1, b.2.2.2.2.2.1, b.2.2.2.2.2.2)) (obind (W_ref13_Skips N ((b.1, b.2.1, b.2.2.1, b.2.2.2.1, b.2.2.2.2.1, b.2.2.2.2.2.1,
    b.2.2.2.2.2.2), x.2.2, (1 : Int))) fun (b : List (Int × Int) × Int × Int × List (Int × List UInt8) × List (Int × List UInt8) × List (Int × Int × Int
    × List UInt8 × Int) × Int × Int) => obind (W_ref13_Goes N (b.2.1, b.2.2.1, b.2.2.2.1, b.2.2.2.2.1, b.2.2.2.2.2.1, b.2.2.2.2.2.2.1, b.2.2.2.2.2.2.2))
    fun (b : List (Int × List UInt8) × Int × Int × List (Int × List UInt8) × List (Int × List UInt8) × List (Int × Int × Int × List UInt8 × Int) × Int ×
    Int) => some (b.2.1, b.2.2.1, b.2.2.2.1, b.2.2.2.2.1, b.2.2.2.2.2.1, b.2.2.2.2.2.2.1, b.2.2.2.2.2.2.2)))))
theorem F_ref13_Notes_eq (N : Nat) (x : (Int × Int × (List (Int × List UInt8)) × (List (Int × List UInt8)) × (List (Int × Int × Int × (List UInt8) × Int)) × Int × Int) × Int × Int) : F_ref13_Notes (W_ref1_MaySpan N) (W_ref13_Knows N) (W_ref13_Skips N) (W_ref13_Goes N) N x = W_ref13_Notes N x := (FV_ref13_Notes_eq (W_ref1_MaySpan N) (W_ref13_Knows N) (W_ref13_Skips N) (W_ref13_Goes N) N x).trans (by kernel_rfl)
noncomputable def conw_ref13_Notes (w : (Int × Int × (List (Int × List UInt8)) × (List (Int × List UInt8)) × (List (Int × Int × Int × (List UInt8) × Int)) × Int × Int) × Int × Int → Option (Int × Int × (List (Int × List UInt8)) × (List (Int × List UInt8)) × (List (Int × Int × Int × (List UInt8) × Int)) × Int × Int)) : Con := ⟨32, as_ref13_Notes, bs_ref13_Notes, Int × Int × (List (Int × List UInt8)) × (List (Int × List UInt8)) × (List (Int × Int × Int × (List UInt8) × Int)) × Int × Int, w, out_ref13_Notes⟩
noncomputable def con_ref13_Notes (N : Nat) : Con := conw_ref13_Notes (W_ref13_Notes N)
theorem R_ref13_Notes_eq (x : (Int × Int × (List (Int × List UInt8)) × (List (Int × List UInt8)) × (List (Int × Int × Int × (List UInt8) × Int)) × Int × Int) × Int × Int) (y : Int × Int × (List (Int × List UInt8)) × (List (Int × List UInt8)) × (List (Int × Int × Int × (List UInt8) × Int)) × Int × Int) : retOf2 P0 Try.f32 (kpL []) (lbOf as_ref13_Notes bs_ref13_Notes x) (patS ⟨44, [], [], []⟩ pout_ref13_Notes y) = some (out_ref13_Notes y) := by kernel_rfl
theorem con_ref13_Notes_ok (N : Nat) : Con.ok P0 (con_ref13_Notes N) := ⟨⟨Try.f32, Try.func32, by kernel_rfl, by kernel_rfl⟩, fun (x : (Int × Int × (List (Int × List UInt8)) × (List (Int × List UInt8)) × (List (Int × Int × Int × (List UInt8) × Int)) × Int × Int) × Int × Int) (r : Int × Int × (List (Int × List UInt8)) × (List (Int × List UInt8)) × (List (Int × Int × Int × (List UInt8) × Int)) × Int × Int) (hr : W_ref13_Notes N x = some r) =>
  spec2_evT (Γ := G_ref13_Notes (W_ref1_MaySpan N) (W_ref13_Knows N) (W_ref13_Skips N) (W_ref13_Goes N) N) (Λ := L0) (pout := pout_ref13_Notes) (kp := kpL []) mixed (orcOf_ok _ (by simp only [List.mem_cons, List.not_mem_nil, or_false, forall_eq_or_imp, forall_eq]; exact ⟨con_ref1_MaySpan_ok N, con_ref13_Knows_ok N, con_ref13_Skips_ok N, con_ref13_Goes_ok N⟩)) Try.func32 (c := bodyOf Try.f32) (by kernel_rfl) (by kernel_rfl) (of_decide_eq_true (by kernel_rfl)) ((F_ref13_Notes_eq N x).trans hr) (R_ref13_Notes_eq x r)⟩
def as_ref13_Wants : List AS := [.val (.agg (.pair (.int .i64) (.pair (.int .i64) (.pair (.list (.agg (.pair (.int .i64) .str))) (.pair (.list (.agg (.pair (.int .i64) .str))) (.pair (.list (.agg (.pair (.int .i64) (.pair (.int .i64) (.pair (.int .i64) (.pair .str (.int .i64))))))) (.agg (.pair (.int .i64) (.int .i64)))))))))]
def bs_ref13_Wants : List BS := []
def pout_ref13_Wants : Pat := ⟨[(2, .ptr 600002 0), (3, .val .bool)], [(600002, .box 67 (.val (.pair (.int .i64) (.int .i64))))]⟩
noncomputable def G_ref13_Wants (w_ref13_First : List (Int × List UInt8) → Option (Int)) (N : Nat) : OrcT := orcOf [conw_ref13_First w_ref13_First]
noncomputable def F_ref13_Wants (w_ref13_First : List (Int × List UInt8) → Option (Int)) (N : Nat) (x : Int × Int × (List (Int × List UInt8)) × (List (Int × List UInt8)) × (List (Int × Int × Int × (List UInt8) × Int)) × Int × Int) : Option (Bool × Int × Int) :=
  (evT (G_ref13_Wants w_ref13_First N) L0 P0 []
    [(4, .cut [] [(.normal, ⟨[(1, .ptr 600001 0), (2, .ptr 600002 0), (4, .val (.int .i64))], [(600001, .box 29 (.val (.pair (.int .i64) (.pair (.int .i64) (.pair (.list (.agg (.pair (.int .i64) .str))) (.pair (.list (.agg (.pair (.int .i64) .str))) (.pair (.list (.agg (.pair (.int .i64) (.pair (.int .i64) (.pair (.int .i64) (.pair .str (.int .i64))))))) (.agg (.pair (.int .i64) (.int .i64)))))))))), (600002, .box 67 (.val (.pair (.int .i64) (.int .i64))))]⟩)])] N 400 (bodyOf Try.f80) ⟨29, slots 0 (argsOf as_ref13_Wants bs_ref13_Wants x), tabU (lbOf as_ref13_Wants bs_ref13_Wants x) [], []⟩).elim (kRet 29 pout_ref13_Wants (kpL []) (lbOf as_ref13_Wants bs_ref13_Wants x))
def out_ref13_Wants (y : Bool × Int × Int) : V × List OK × List OK := (.tup [valW (.agg (.pair (.int .i64) (.int .i64))) y.2, valW .bool y.1], [], [])
noncomputable def V_ref13_Wants (w_ref13_First : List (Int × List UInt8) → Option (Int)) (N : Nat) (x : Int × Int × (List (Int × List UInt8)) × (List (Int × List UInt8)) × (List (Int × Int × Int × (List UInt8) × Int)) × Int × Int) : Option (Bool × Int × Int) :=
  obind (cnd (decide ((0 : Int) < (↑(List.length x.2.2.2.1) : Int))) (obind (w_ref13_First x.2.2.2.1) fun (b : Int) => some (wr IntKind.i64 (b - (1 :
    Int)), (x.1, x.2.1, x.2.2.1, x.2.2.2.1, x.2.2.2.2.1, x.2.2.2.2.2.1, x.2.2.2.2.2.2), (0 : Int), (0 : Int))) (some (x.2.1, (x.1, x.2.1, x.2.2.1,
    x.2.2.2.1, x.2.2.2.2.1, x.2.2.2.2.2.1, x.2.2.2.2.2.2), (0 : Int), (0 : Int)))) fun (b : Int × (Int × Int × List (Int × List UInt8) × List (Int ×
    List UInt8) × List (Int × Int × Int × List UInt8 × Int) × Int × Int) × Int × Int) => cnd (decide (b.2.1.1 = (0 : Int))) (some (false, (0 : Int), (0
    : Int))) (cnd (decide (b.1 < b.2.1.1)) (some (false, (0 : Int), (0 : Int))) (some (true, b.2.1.1, b.1)))
theorem FV_ref13_Wants_eq (w_ref13_First : List (Int × List UInt8) → Option (Int)) (N : Nat) (x : Int × Int × (List (Int × List UInt8)) × (List (Int × List UInt8)) × (List (Int × Int × Int × (List UInt8) × Int)) × Int × Int) : F_ref13_Wants w_ref13_First N x = V_ref13_Wants w_ref13_First N x := by kernel_rfl
noncomputable def W_ref13_Wants (N : Nat) (x : Int × Int × (List (Int × List UInt8)) × (List (Int × List UInt8)) × (List (Int × Int × Int × (List UInt8) × Int)) × Int × Int) : Option (Bool × Int × Int) :=
  obind (cnd (decide ((0 : Int) < (↑(List.length x.2.2.2.1) : Int))) (obind (W_ref13_First N x.2.2.2.1) fun (b : Int) => some (wr IntKind.i64 (b - (1 :
    Int)), (x.1, x.2.1, x.2.2.1, x.2.2.2.1, x.2.2.2.2.1, x.2.2.2.2.2.1, x.2.2.2.2.2.2), (0 : Int), (0 : Int))) (some (x.2.1, (x.1, x.2.1, x.2.2.1,
    x.2.2.2.1, x.2.2.2.2.1, x.2.2.2.2.2.1, x.2.2.2.2.2.2), (0 : Int), (0 : Int)))) fun (b : Int × (Int × Int × List (Int × List UInt8) × List (Int ×
    List UInt8) × List (Int × Int × Int × List UInt8 × Int) × Int × Int) × Int × Int) => cnd (decide (b.2.1.1 = (0 : Int))) (some (false, (0 : Int), (0
    : Int))) (cnd (decide (b.1 < b.2.1.1)) (some (false, (0 : Int), (0 : Int))) (some (true, b.2.1.1, b.1)))
theorem F_ref13_Wants_eq (N : Nat) (x : Int × Int × (List (Int × List UInt8)) × (List (Int × List UInt8)) × (List (Int × Int × Int × (List UInt8) × Int)) × Int × Int) : F_ref13_Wants (W_ref13_First N) N x = W_ref13_Wants N x := (FV_ref13_Wants_eq (W_ref13_First N) N x).trans (by kernel_rfl)
noncomputable def conw_ref13_Wants (w : Int × Int × (List (Int × List UInt8)) × (List (Int × List UInt8)) × (List (Int × Int × Int × (List UInt8) × Int)) × Int × Int → Option (Bool × Int × Int)) : Con := ⟨80, as_ref13_Wants, bs_ref13_Wants, Bool × Int × Int, w, out_ref13_Wants⟩
noncomputable def con_ref13_Wants (N : Nat) : Con := conw_ref13_Wants (W_ref13_Wants N)
theorem R_ref13_Wants_eq (x : Int × Int × (List (Int × List UInt8)) × (List (Int × List UInt8)) × (List (Int × Int × Int × (List UInt8) × Int)) × Int × Int) (y : Bool × Int × Int) : retOf2 P0 Try.f80 (kpL []) (lbOf as_ref13_Wants bs_ref13_Wants x) (patS ⟨29, [], [], []⟩ pout_ref13_Wants y) = some (out_ref13_Wants y) := by kernel_rfl
theorem con_ref13_Wants_ok (N : Nat) : Con.ok P0 (con_ref13_Wants N) := ⟨⟨Try.f80, Try.func80, by kernel_rfl, by kernel_rfl⟩, fun (x : Int × Int × (List (Int × List UInt8)) × (List (Int × List UInt8)) × (List (Int × Int × Int × (List UInt8) × Int)) × Int × Int) (r : Bool × Int × Int) (hr : W_ref13_Wants N x = some r) =>
  spec2_evT (Γ := G_ref13_Wants (W_ref13_First N) N) (Λ := L0) (pout := pout_ref13_Wants) (kp := kpL []) mixed (orcOf_ok _ (by simp only [List.mem_cons, List.not_mem_nil, or_false, forall_eq_or_imp, forall_eq]; exact con_ref13_First_ok N)) Try.func80 (c := bodyOf Try.f80) (by kernel_rfl) (by kernel_rfl) (of_decide_eq_true (by kernel_rfl)) ((F_ref13_Wants_eq N x).trans hr) (R_ref13_Wants_eq x r)⟩
def as_ref1_Now : List AS := [.val (.agg (.pair (.int .i64) (.int .i64))), .val (.int .i64)]
def bs_ref1_Now : List BS := []
def pout_ref1_Now : Pat := ⟨[(4, .val .bool)], []⟩
noncomputable def G_ref1_Now  (N : Nat) : OrcT := orcOf []
noncomputable def F_ref1_Now  (N : Nat) (x : (Int × Int) × Int) : Option (Bool) :=
  (evT (G_ref1_Now  N) L0 P0 []
    [] N 400 (bodyOf Try.f81) ⟨14, slots 0 (argsOf as_ref1_Now bs_ref1_Now x), tabU (lbOf as_ref1_Now bs_ref1_Now x) [], []⟩).elim (kRet 14 pout_ref1_Now (kpL []) (lbOf as_ref1_Now bs_ref1_Now x))
def out_ref1_Now (y : Bool) : V × List OK × List OK := (valW .bool y, [], [])
noncomputable def V_ref1_Now  (N : Nat) (x : (Int × Int) × Int) : Option (Bool) :=
  cnd (decide (x.1.1 = (0 : Int))) (some true) (some (decide (x.1.2 ≤ x.2)))
theorem FV_ref1_Now_eq  (N : Nat) (x : (Int × Int) × Int) : F_ref1_Now  N x = V_ref1_Now  N x := by kernel_rfl
noncomputable def W_ref1_Now (N : Nat) (x : (Int × Int) × Int) : Option (Bool) :=
  cnd (decide (x.1.1 = (0 : Int))) (some true) (some (decide (x.1.2 ≤ x.2)))
theorem F_ref1_Now_eq (N : Nat) (x : (Int × Int) × Int) : F_ref1_Now  N x = W_ref1_Now N x := (FV_ref1_Now_eq  N x).trans (by kernel_rfl)
noncomputable def conw_ref1_Now (w : (Int × Int) × Int → Option (Bool)) : Con := ⟨81, as_ref1_Now, bs_ref1_Now, Bool, w, out_ref1_Now⟩
noncomputable def con_ref1_Now (N : Nat) : Con := conw_ref1_Now (W_ref1_Now N)
theorem R_ref1_Now_eq (x : (Int × Int) × Int) (y : Bool) : retOf2 P0 Try.f81 (kpL []) (lbOf as_ref1_Now bs_ref1_Now x) (patS ⟨14, [], [], []⟩ pout_ref1_Now y) = some (out_ref1_Now y) := by kernel_rfl
theorem con_ref1_Now_ok (N : Nat) : Con.ok P0 (con_ref1_Now N) := ⟨⟨Try.f81, Try.func81, by kernel_rfl, by kernel_rfl⟩, fun (x : (Int × Int) × Int) (r : Bool) (hr : W_ref1_Now N x = some r) =>
  spec2_evT (Γ := G_ref1_Now N) (Λ := L0) (pout := pout_ref1_Now) (kp := kpL []) mixed (orcOf_ok [] (by simp)) Try.func81 (c := bodyOf Try.f81) (by kernel_rfl) (by kernel_rfl) (of_decide_eq_true (by kernel_rfl)) ((F_ref1_Now_eq N x).trans hr) (R_ref1_Now_eq x r)⟩
def as_ref1_Tried : List AS := [.val (.agg (.pair (.int .i64) (.int .i64))), .val (.int .i64)]
def bs_ref1_Tried : List BS := []
def pout_ref1_Tried : Pat := ⟨[(4, .ptr 600004 0)], [(600004, .box 27 (.val (.pair (.int .i64) (.int .i64))))]⟩
noncomputable def G_ref1_Tried  (N : Nat) : OrcT := orcOf []
noncomputable def F_ref1_Tried  (N : Nat) (x : (Int × Int) × Int) : Option (Int × Int) :=
  (evT (G_ref1_Tried  N) L0 P0 [(3, .loop [] ⟨[(2, .ptr 600002 0), (4, .ptr 600004 0), (5, .val (.int .i64)), (6, .val (.int .i64))], [(600002, .box 27 (.val (.pair (.int .i64) (.int .i64)))), (600004, .box 27 (.val (.pair (.int .i64) (.int .i64))))]⟩ [(.exit 0, ⟨[(2, .ptr 600002 0), (4, .ptr 600004 0), (5, .val (.int .i64))], [(600002, .box 27 (.val (.pair (.int .i64) (.int .i64)))), (600004, .box 27 (.val (.pair (.int .i64) (.int .i64))))]⟩)])]
    [] N 400 (bodyOf Try.f82) ⟨26, slots 0 (argsOf as_ref1_Tried bs_ref1_Tried x), tabU (lbOf as_ref1_Tried bs_ref1_Tried x) [], []⟩).elim (kRet 26 pout_ref1_Tried (kpL []) (lbOf as_ref1_Tried bs_ref1_Tried x))
def out_ref1_Tried (y : Int × Int) : V × List OK × List OK := (valW (.agg (.pair (.int .i64) (.int .i64))) y, [], [])
noncomputable def V_ref1_Tried  (N : Nat) (x : (Int × Int) × Int) : Option (Int × Int) :=
  obind (loopN N (fun (v : Int × Int × (Int × Int) × Int × Int) => cnd (decide (v.2.1 < v.2.2.1.1)) (cnd (decide (v.2.1 < (3 : Int))) (some (Sum.inl (wr
    IntKind.i64 (v.1 * (2 : Int)), wr IntKind.i64 (v.2.1 + (1 : Int)), (v.2.2.1.1, v.2.2.1.2), v.2.2.2.1, v.2.2.2.2))) (some (Sum.inr (v.1, (v.2.2.1.1,
    v.2.2.1.2), v.2.2.2.1, v.2.2.2.2)))) (some (Sum.inr (v.1, (v.2.2.1.1, v.2.2.1.2), v.2.2.2.1, v.2.2.2.2)))) ((2 : Int), (0 : Int), (x.1.1, x.1.2), (0
    : Int), (0 : Int))) fun (b : Int × (Int × Int) × Int × Int) => some (wr IntKind.i64 (b.2.1.1 + (1 : Int)), wr IntKind.i64 (x.2 + b.1))
theorem FV_ref1_Tried_eq  (N : Nat) (x : (Int × Int) × Int) : F_ref1_Tried  N x = V_ref1_Tried  N x := by kernel_rfl
noncomputable def W_ref1_Tried (N : Nat) (x : (Int × Int) × Int) : Option (Int × Int) :=
  obind (loopN N (fun (v : Int × Int × (Int × Int) × Int × Int) => cnd (decide (v.2.1 < v.2.2.1.1)) (cnd (decide (v.2.1 < (3 : Int))) (some (Sum.inl (wr
    IntKind.i64 (v.1 * (2 : Int)), wr IntKind.i64 (v.2.1 + (1 : Int)), (v.2.2.1.1, v.2.2.1.2), v.2.2.2.1, v.2.2.2.2))) (some (Sum.inr (v.1, (v.2.2.1.1,
    v.2.2.1.2), v.2.2.2.1, v.2.2.2.2)))) (some (Sum.inr (v.1, (v.2.2.1.1, v.2.2.1.2), v.2.2.2.1, v.2.2.2.2)))) ((2 : Int), (0 : Int), (x.1.1, x.1.2), (0
    : Int), (0 : Int))) fun (b : Int × (Int × Int) × Int × Int) => some (wr IntKind.i64 (b.2.1.1 + (1 : Int)), wr IntKind.i64 (x.2 + b.1))
theorem F_ref1_Tried_eq (N : Nat) (x : (Int × Int) × Int) : F_ref1_Tried  N x = W_ref1_Tried N x := (FV_ref1_Tried_eq  N x).trans (by kernel_rfl)
noncomputable def conw_ref1_Tried (w : (Int × Int) × Int → Option (Int × Int)) : Con := ⟨82, as_ref1_Tried, bs_ref1_Tried, Int × Int, w, out_ref1_Tried⟩
noncomputable def con_ref1_Tried (N : Nat) : Con := conw_ref1_Tried (W_ref1_Tried N)
theorem R_ref1_Tried_eq (x : (Int × Int) × Int) (y : Int × Int) : retOf2 P0 Try.f82 (kpL []) (lbOf as_ref1_Tried bs_ref1_Tried x) (patS ⟨26, [], [], []⟩ pout_ref1_Tried y) = some (out_ref1_Tried y) := by kernel_rfl
theorem con_ref1_Tried_ok (N : Nat) : Con.ok P0 (con_ref1_Tried N) := ⟨⟨Try.f82, Try.func82, by kernel_rfl, by kernel_rfl⟩, fun (x : (Int × Int) × Int) (r : Int × Int) (hr : W_ref1_Tried N x = some r) =>
  spec2_evT (Γ := G_ref1_Tried N) (Λ := L0) (pout := pout_ref1_Tried) (kp := kpL []) mixed (orcOf_ok [] (by simp)) Try.func82 (c := bodyOf Try.f82) (by kernel_rfl) (by kernel_rfl) (of_decide_eq_true (by kernel_rfl)) ((F_ref1_Tried_eq N x).trans hr) (R_ref1_Tried_eq x r)⟩
def as_ref13_Tick : List AS := [.val (.agg (.pair (.int .i64) (.pair (.int .i64) (.pair (.list (.agg (.pair (.int .i64) .str))) (.pair (.list (.agg (.pair (.int .i64) .str))) (.pair (.list (.agg (.pair (.int .i64) (.pair (.int .i64) (.pair (.int .i64) (.pair .str (.int .i64))))))) (.agg (.pair (.int .i64) (.int .i64))))))))), .val (.int .i64)]
def bs_ref13_Tick : List BS := []
def pout_ref13_Tick : Pat := ⟨[(4, .ptr 600004 0), (5, .ptr 600005 0), (6, .val .bool)], [(600004, .box 29 (.val (.pair (.int .i64) (.pair (.int .i64) (.pair (.list (.agg (.pair (.int .i64) .str))) (.pair (.list (.agg (.pair (.int .i64) .str))) (.pair (.list (.agg (.pair (.int .i64) (.pair (.int .i64) (.pair (.int .i64) (.pair .str (.int .i64))))))) (.agg (.pair (.int .i64) (.int .i64)))))))))), (600005, .box 67 (.val (.pair (.int .i64) (.int .i64))))]⟩
noncomputable def G_ref13_Tick (w_ref13_Wants : Int × Int × (List (Int × List UInt8)) × (List (Int × List UInt8)) × (List (Int × Int × Int × (List UInt8) × Int)) × Int × Int → Option (Bool × Int × Int)) (w_ref1_Now : (Int × Int) × Int → Option (Bool)) (w_ref13_Skips : (Int × Int × (List (Int × List UInt8)) × (List (Int × List UInt8)) × (List (Int × Int × Int × (List UInt8) × Int)) × Int × Int) × Int × Int → Option ((List (Int × Int)) × Int × Int × (List (Int × List UInt8)) × (List (Int × List UInt8)) × (List (Int × Int × Int × (List UInt8) × Int)) × Int × Int)) (w_ref13_Goes : Int × Int × (List (Int × List UInt8)) × (List (Int × List UInt8)) × (List (Int × Int × Int × (List UInt8) × Int)) × Int × Int → Option ((List (Int × List UInt8)) × Int × Int × (List (Int × List UInt8)) × (List (Int × List UInt8)) × (List (Int × Int × Int × (List UInt8) × Int)) × Int × Int)) (w_ref1_Tried : (Int × Int) × Int → Option (Int × Int)) (N : Nat) : OrcT := orcOf [conw_ref13_Wants w_ref13_Wants, conw_ref1_Now w_ref1_Now, conw_ref13_Skips w_ref13_Skips, conw_ref13_Goes w_ref13_Goes, conw_ref1_Tried w_ref1_Tried]
noncomputable def F_ref13_Tick (w_ref13_Wants : Int × Int × (List (Int × List UInt8)) × (List (Int × List UInt8)) × (List (Int × Int × Int × (List UInt8) × Int)) × Int × Int → Option (Bool × Int × Int)) (w_ref1_Now : (Int × Int) × Int → Option (Bool)) (w_ref13_Skips : (Int × Int × (List (Int × List UInt8)) × (List (Int × List UInt8)) × (List (Int × Int × Int × (List UInt8) × Int)) × Int × Int) × Int × Int → Option ((List (Int × Int)) × Int × Int × (List (Int × List UInt8)) × (List (Int × List UInt8)) × (List (Int × Int × Int × (List UInt8) × Int)) × Int × Int)) (w_ref13_Goes : Int × Int × (List (Int × List UInt8)) × (List (Int × List UInt8)) × (List (Int × Int × Int × (List UInt8) × Int)) × Int × Int → Option ((List (Int × List UInt8)) × Int × Int × (List (Int × List UInt8)) × (List (Int × List UInt8)) × (List (Int × Int × Int × (List UInt8) × Int)) × Int × Int)) (w_ref1_Tried : (Int × Int) × Int → Option (Int × Int)) (N : Nat) (x : (Int × Int × (List (Int × List UInt8)) × (List (Int × List UInt8)) × (List (Int × Int × Int × (List UInt8) × Int)) × Int × Int) × Int) : Option (Bool × (Int × Int × (List (Int × List UInt8)) × (List (Int × List UInt8)) × (List (Int × Int × Int × (List UInt8) × Int)) × Int × Int) × Int × Int) :=
  (evT (G_ref13_Tick w_ref13_Wants w_ref1_Now w_ref13_Skips w_ref13_Goes w_ref1_Tried N) L0 P0 []
    [] N 400 (bodyOf Try.f34) ⟨50, slots 0 (argsOf as_ref13_Tick bs_ref13_Tick x), tabU (lbOf as_ref13_Tick bs_ref13_Tick x) [], []⟩).elim (kRet 50 pout_ref13_Tick (kpL []) (lbOf as_ref13_Tick bs_ref13_Tick x))
def out_ref13_Tick (y : Bool × (Int × Int × (List (Int × List UInt8)) × (List (Int × List UInt8)) × (List (Int × Int × Int × (List UInt8) × Int)) × Int × Int) × Int × Int) : V × List OK × List OK := (.tup [valW (.agg (.pair (.int .i64) (.pair (.int .i64) (.pair (.list (.agg (.pair (.int .i64) .str))) (.pair (.list (.agg (.pair (.int .i64) .str))) (.pair (.list (.agg (.pair (.int .i64) (.pair (.int .i64) (.pair (.int .i64) (.pair .str (.int .i64))))))) (.agg (.pair (.int .i64) (.int .i64))))))))) y.2.1, valW (.agg (.pair (.int .i64) (.int .i64))) y.2.2, valW .bool y.1], [], [])
noncomputable def V_ref13_Tick (w_ref13_Wants : Int × Int × (List (Int × List UInt8)) × (List (Int × List UInt8)) × (List (Int × Int × Int × (List UInt8) × Int)) × Int × Int → Option (Bool × Int × Int)) (w_ref1_Now : (Int × Int) × Int → Option (Bool)) (w_ref13_Skips : (Int × Int × (List (Int × List UInt8)) × (List (Int × List UInt8)) × (List (Int × Int × Int × (List UInt8) × Int)) × Int × Int) × Int × Int → Option ((List (Int × Int)) × Int × Int × (List (Int × List UInt8)) × (List (Int × List UInt8)) × (List (Int × Int × Int × (List UInt8) × Int)) × Int × Int)) (w_ref13_Goes : Int × Int × (List (Int × List UInt8)) × (List (Int × List UInt8)) × (List (Int × Int × Int × (List UInt8) × Int)) × Int × Int → Option ((List (Int × List UInt8)) × Int × Int × (List (Int × List UInt8)) × (List (Int × List UInt8)) × (List (Int × Int × Int × (List UInt8) × Int)) × Int × Int)) (w_ref1_Tried : (Int × Int) × Int → Option (Int × Int)) (N : Nat) (x : (Int × Int × (List (Int × List UInt8)) × (List (Int × List UInt8)) × (List (Int × Int × Int × (List UInt8) × Int)) × Int × Int) × Int) : Option (Bool × (Int × Int × (List (Int × List UInt8)) × (List (Int × List UInt8)) × (List (Int × Int × Int × (List UInt8) × Int)) × Int × Int) × Int × Int) :=
  obind (w_ref13_Wants (x.1.1, x.1.2.1, x.1.2.2.1, x.1.2.2.2.1, x.1.2.2.2.2.1, x.1.2.2.2.2.2.1, x.1.2.2.2.2.2.2)) fun (b : Bool × Int × Int) => cnd
    (!b.1) (some (false, (x.1.1, x.1.2.1, x.1.2.2.1, x.1.2.2.2.1, x.1.2.2.2.2.1, x.1.2.2.2.2.2.1, x.1.2.2.2.2.2.2), (0 : Int), (0 : Int))) (obind
    (w_ref1_Now ((x.1.2.2.2.2.2.1, x.1.2.2.2.2.2.2), x.2)) fun (b_1 : Bool) => cnd (!b_1) (some (false, (x.1.1, x.1.2.1, x.1.2.2.1, x.1.2.2.2.1,
    x.1.2.2.2.2.1, x.1.2.2.2.2.2.1, x.1.2.2.2.2.2.2), (0 : Int), (0 : Int))) (cnd (decide ((3 : Int) ≤ x.1.2.2.2.2.2.1)) (obind (w_ref13_Skips
    ((x.1.1, x.1.2.1, x.1.2.2.1, x.1.2.2.2.1, x.1.2.2.2.2.1, x.1.2.2.2.2.2.1, x.1.2.2.2.2.2.2), b.2.2, (2 : Int))) fun (b : List (Int × Int) × Int × Int
    × List (Int × List UInt8) × List (Int × List UInt8) × List (Int × Int × Int × List UInt8 × Int) × Int × Int) => obind (w_ref13_Goes (b.2.1,
    b.2.2.1, b.2.2.2.1, b.2.2.2.2.1, b.2.2.2.2.2.1, b.2.2.2.2.2.2.1, b.2.2.2.2.2.2.2)) fun (b : List (Int × List UInt8) × Int × Int × List (Int × List
    UInt8) × List (Int × List UInt8) × List (Int × Int × Int × List UInt8 × Int) × Int × Int) => some (false, (b.2.1, b.2.2.1, b.2.2.2.1, b.2.2.2.2.1,
    b.2.2.2.2.2.1, b.2.2.2.2.2.2.1, b.2.2.2.2.2.2.2), (0 : Int), (0 : Int))) (obind (w_ref1_Tried ((x.1.2.2.2.2.2.1, x.1.2.2.2.2.2.2), x.2)) fun (b_2
    : Int × Int) => some (true, (x.1.1, x.1.2.1, x.1.2.2.1, x.1.2.2.2.1, x.1.2.2.2.2.1, b_2.1, b_2.2), b.2.1, b.2.2))))
theorem FV_ref13_Tick_eq (w_ref13_Wants : Int × Int × (List (Int × List UInt8)) × (List (Int × List UInt8)) × (List (Int × Int × Int × (List UInt8) × Int)) × Int × Int → Option (Bool × Int × Int)) (w_ref1_Now : (Int × Int) × Int → Option (Bool)) (w_ref13_Skips : (Int × Int × (List (Int × List UInt8)) × (List (Int × List UInt8)) × (List (Int × Int × Int × (List UInt8) × Int)) × Int × Int) × Int × Int → Option ((List (Int × Int)) × Int × Int × (List (Int × List UInt8)) × (List (Int × List UInt8)) × (List (Int × Int × Int × (List UInt8) × Int)) × Int × Int)) (w_ref13_Goes : Int × Int × (List (Int × List UInt8)) × (List (Int × List UInt8)) × (List (Int × Int × Int × (List UInt8) × Int)) × Int × Int → Option ((List (Int × List UInt8)) × Int × Int × (List (Int × List UInt8)) × (List (Int × List UInt8)) × (List (Int × Int × Int × (List UInt8) × Int)) × Int × Int)) (w_ref1_Tried : (Int × Int) × Int → Option (Int × Int)) (N : Nat) (x : (Int × Int × (List (Int × List UInt8)) × (List (Int × List UInt8)) × (List (Int × Int × Int × (List UInt8) × Int)) × Int × Int) × Int) : F_ref13_Tick w_ref13_Wants w_ref1_Now w_ref13_Skips w_ref13_Goes w_ref1_Tried N x = V_ref13_Tick w_ref13_Wants w_ref1_Now w_ref13_Skips w_ref13_Goes w_ref1_Tried N x := by kernel_rfl
noncomputable def W_ref13_Tick (N : Nat) (x : (Int × Int × (List (Int × List UInt8)) × (List (Int × List UInt8)) × (List (Int × Int × Int × (List UInt8) × Int)) × Int × Int) × Int) : Option (Bool × (Int × Int × (List (Int × List UInt8)) × (List (Int × List UInt8)) × (List (Int × Int × Int × (List UInt8) × Int)) × Int × Int) × Int × Int) :=
  obind (W_ref13_Wants N (x.1.1, x.1.2.1, x.1.2.2.1, x.1.2.2.2.1, x.1.2.2.2.2.1, x.1.2.2.2.2.2.1, x.1.2.2.2.2.2.2)) fun (b : Bool × Int × Int) => cnd
    (!b.1) (some (false, (x.1.1, x.1.2.1, x.1.2.2.1, x.1.2.2.2.1, x.1.2.2.2.2.1, x.1.2.2.2.2.2.1, x.1.2.2.2.2.2.2), (0 : Int), (0 : Int))) (obind
    (W_ref1_Now N ((x.1.2.2.2.2.2.1, x.1.2.2.2.2.2.2), x.2)) fun (b_1 : Bool) => cnd (!b_1) (some (false, (x.1.1, x.1.2.1, x.1.2.2.1, x.1.2.2.2.1,
    x.1.2.2.2.2.1, x.1.2.2.2.2.2.1, x.1.2.2.2.2.2.2), (0 : Int), (0 : Int))) (cnd (decide ((3 : Int) ≤ x.1.2.2.2.2.2.1)) (obind (W_ref13_Skips N
    ((x.1.1, x.1.2.1, x.1.2.2.1, x.1.2.2.2.1, x.1.2.2.2.2.1, x.1.2.2.2.2.2.1, x.1.2.2.2.2.2.2), b.2.2, (2 : Int))) fun (b : List (Int × Int) × Int × Int
    × List (Int × List UInt8) × List (Int × List UInt8) × List (Int × Int × Int × List UInt8 × Int) × Int × Int) => obind (W_ref13_Goes N (b.2.1,
    b.2.2.1, b.2.2.2.1, b.2.2.2.2.1, b.2.2.2.2.2.1, b.2.2.2.2.2.2.1, b.2.2.2.2.2.2.2)) fun (b : List (Int × List UInt8) × Int × Int × List (Int × List
    UInt8) × List (Int × List UInt8) × List (Int × Int × Int × List UInt8 × Int) × Int × Int) => some (false, (b.2.1, b.2.2.1, b.2.2.2.1, b.2.2.2.2.1,
    b.2.2.2.2.2.1, b.2.2.2.2.2.2.1, b.2.2.2.2.2.2.2), (0 : Int), (0 : Int))) (obind (W_ref1_Tried N ((x.1.2.2.2.2.2.1, x.1.2.2.2.2.2.2), x.2)) fun (b_2
    : Int × Int) => some (true, (x.1.1, x.1.2.1, x.1.2.2.1, x.1.2.2.2.1, x.1.2.2.2.2.1, b_2.1, b_2.2), b.2.1, b.2.2))))
theorem F_ref13_Tick_eq (N : Nat) (x : (Int × Int × (List (Int × List UInt8)) × (List (Int × List UInt8)) × (List (Int × Int × Int × (List UInt8) × Int)) × Int × Int) × Int) : F_ref13_Tick (W_ref13_Wants N) (W_ref1_Now N) (W_ref13_Skips N) (W_ref13_Goes N) (W_ref1_Tried N) N x = W_ref13_Tick N x := (FV_ref13_Tick_eq (W_ref13_Wants N) (W_ref1_Now N) (W_ref13_Skips N) (W_ref13_Goes N) (W_ref1_Tried N) N x).trans (by kernel_rfl)
noncomputable def conw_ref13_Tick (w : (Int × Int × (List (Int × List UInt8)) × (List (Int × List UInt8)) × (List (Int × Int × Int × (List UInt8) × Int)) × Int × Int) × Int → Option (Bool × (Int × Int × (List (Int × List UInt8)) × (List (Int × List UInt8)) × (List (Int × Int × Int × (List UInt8) × Int)) × Int × Int) × Int × Int)) : Con := ⟨34, as_ref13_Tick, bs_ref13_Tick, Bool × (Int × Int × (List (Int × List UInt8)) × (List (Int × List UInt8)) × (List (Int × Int × Int × (List UInt8) × Int)) × Int × Int) × Int × Int, w, out_ref13_Tick⟩
noncomputable def con_ref13_Tick (N : Nat) : Con := conw_ref13_Tick (W_ref13_Tick N)
theorem R_ref13_Tick_eq (x : (Int × Int × (List (Int × List UInt8)) × (List (Int × List UInt8)) × (List (Int × Int × Int × (List UInt8) × Int)) × Int × Int) × Int) (y : Bool × (Int × Int × (List (Int × List UInt8)) × (List (Int × List UInt8)) × (List (Int × Int × Int × (List UInt8) × Int)) × Int × Int) × Int × Int) : retOf2 P0 Try.f34 (kpL []) (lbOf as_ref13_Tick bs_ref13_Tick x) (patS ⟨50, [], [], []⟩ pout_ref13_Tick y) = some (out_ref13_Tick y) := by kernel_rfl
theorem con_ref13_Tick_ok (N : Nat) : Con.ok P0 (con_ref13_Tick N) := ⟨⟨Try.f34, Try.func34, by kernel_rfl, by kernel_rfl⟩, fun (x : (Int × Int × (List (Int × List UInt8)) × (List (Int × List UInt8)) × (List (Int × Int × Int × (List UInt8) × Int)) × Int × Int) × Int) (r : Bool × (Int × Int × (List (Int × List UInt8)) × (List (Int × List UInt8)) × (List (Int × Int × Int × (List UInt8) × Int)) × Int × Int) × Int × Int) (hr : W_ref13_Tick N x = some r) =>
  spec2_evT (Γ := G_ref13_Tick (W_ref13_Wants N) (W_ref1_Now N) (W_ref13_Skips N) (W_ref13_Goes N) (W_ref1_Tried N) N) (Λ := L0) (pout := pout_ref13_Tick) (kp := kpL []) mixed (orcOf_ok _ (by simp only [List.mem_cons, List.not_mem_nil, or_false, forall_eq_or_imp, forall_eq]; exact ⟨con_ref13_Wants_ok N, con_ref1_Now_ok N, con_ref13_Skips_ok N, con_ref13_Goes_ok N, con_ref1_Tried_ok N⟩)) Try.func34 (c := bodyOf Try.f34) (by kernel_rfl) (by kernel_rfl) (of_decide_eq_true (by kernel_rfl)) ((F_ref13_Tick_eq N x).trans hr) (R_ref13_Tick_eq x r)⟩
def as_Picks_Text : List AS := [.ptr 0 0]
def bs_Picks_Text : List BS := [.box 75 (.pair (.list (.int .u8)) (.int .i64))]
def pout_Picks_Text : Pat := ⟨[(0, .ptr 1000000 0), (2, .val .str)], [(1000000, .box 75 (.val (.pair (.list (.int .u8)) (.int .i64))))]⟩
noncomputable def G_Picks_Text (w_Picks_Num : Int × (List Int) × Int → Option (Int × (List Int) × Int)) (N : Nat) : OrcT := orcOf [conw_Picks_Num w_Picks_Num]
noncomputable def F_Picks_Text (w_Picks_Num : Int × (List Int) × Int → Option (Int × (List Int) × Int)) (N : Nat) (x : (List Int) × Int) : Option ((List UInt8) × (List Int) × Int) :=
  (evT (G_Picks_Text w_Picks_Num N) L0 P0 []
    [] N 400 (bodyOf Try.f36) ⟨8, slots 0 (argsOf as_Picks_Text bs_Picks_Text x), tabU (lbOf as_Picks_Text bs_Picks_Text x) [], []⟩).elim (kRet 8 pout_Picks_Text (kpL [true]) (lbOf as_Picks_Text bs_Picks_Text x))
def out_Picks_Text (y : (List UInt8) × (List Int) × Int) : V × List OK × List OK := (valW .str y.1, [.box 75 (cellsW (.pair (.list (.int .u8)) (.int .i64)) y.2)], [])
noncomputable def V_Picks_Text (w_Picks_Num : Int × (List Int) × Int → Option (Int × (List Int) × Int)) (N : Nat) (x : (List Int) × Int) : Option ((List UInt8) × (List Int) × Int) :=
  obind (w_Picks_Num ((5 : Int), x.1, x.2)) fun (b : Int × List Int × Int) => cnd (decide ((0 : Int) ≤ b.1)) (cnd (decide (b.1 < (↑(5 : Nat) : Int)))
    (some (List.getD [[], [(97 : UInt8)], [(98 : UInt8), (99 : UInt8)], [(104 : UInt8), (101 : UInt8), (108 : UInt8), (108 : UInt8), (111 : UInt8)],
    [(116 : UInt8), (119 : UInt8), (101 : UInt8), (108 : UInt8), (118 : UInt8), (101 : UInt8), (32 : UInt8), (98 : UInt8), (121 : UInt8), (116 : UInt8),
    (101 : UInt8), (115 : UInt8)]] (Int.toNat b.1) [], b.2.1, b.2.2)) none) none
theorem FV_Picks_Text_eq (w_Picks_Num : Int × (List Int) × Int → Option (Int × (List Int) × Int)) (N : Nat) (x : (List Int) × Int) : F_Picks_Text w_Picks_Num N x = V_Picks_Text w_Picks_Num N x := by kernel_rfl
noncomputable def W_Picks_Text (N : Nat) (x : (List Int) × Int) : Option ((List UInt8) × (List Int) × Int) :=
  obind (W_Picks_Num N ((5 : Int), x.1, x.2)) fun (b : Int × List Int × Int) => cnd (decide ((0 : Int) ≤ b.1)) (cnd (decide (b.1 < (↑(5 : Nat) : Int)))
    (some (List.getD [[], [(97 : UInt8)], [(98 : UInt8), (99 : UInt8)], [(104 : UInt8), (101 : UInt8), (108 : UInt8), (108 : UInt8), (111 : UInt8)],
    [(116 : UInt8), (119 : UInt8), (101 : UInt8), (108 : UInt8), (118 : UInt8), (101 : UInt8), (32 : UInt8), (98 : UInt8), (121 : UInt8), (116 : UInt8),
    (101 : UInt8), (115 : UInt8)]] (Int.toNat b.1) [], b.2.1, b.2.2)) none) none
theorem F_Picks_Text_eq (N : Nat) (x : (List Int) × Int) : F_Picks_Text (W_Picks_Num N) N x = W_Picks_Text N x := (FV_Picks_Text_eq (W_Picks_Num N) N x).trans (by kernel_rfl)
noncomputable def conw_Picks_Text (w : (List Int) × Int → Option ((List UInt8) × (List Int) × Int)) : Con := ⟨36, as_Picks_Text, bs_Picks_Text, (List UInt8) × (List Int) × Int, w, out_Picks_Text⟩
noncomputable def con_Picks_Text (N : Nat) : Con := conw_Picks_Text (W_Picks_Text N)
theorem R_Picks_Text_eq (x : (List Int) × Int) (y : (List UInt8) × (List Int) × Int) : retOf2 P0 Try.f36 (kpL [true]) (lbOf as_Picks_Text bs_Picks_Text x) (patS ⟨8, [], [], []⟩ pout_Picks_Text y) = some (out_Picks_Text y) := by kernel_rfl
theorem con_Picks_Text_ok (N : Nat) : Con.ok P0 (con_Picks_Text N) := ⟨⟨Try.f36, Try.func36, by kernel_rfl, by kernel_rfl⟩, fun (x : (List Int) × Int) (r : (List UInt8) × (List Int) × Int) (hr : W_Picks_Text N x = some r) =>
  spec2_evT (Γ := G_Picks_Text (W_Picks_Num N) N) (Λ := L0) (pout := pout_Picks_Text) (kp := kpL [true]) mixed (orcOf_ok _ (by simp only [List.mem_cons, List.not_mem_nil, or_false, forall_eq_or_imp, forall_eq]; exact con_Picks_Num_ok N)) Try.func36 (c := bodyOf Try.f36) (by kernel_rfl) (by kernel_rfl) (of_decide_eq_true (by kernel_rfl)) ((F_Picks_Text_eq N x).trans hr) (R_Picks_Text_eq x r)⟩
def as_ref13_Get : List AS := [.val (.list (.agg (.pair (.int .i64) .str))), .val (.int .i64)]
def bs_ref13_Get : List BS := []
def pout_ref13_Get : Pat := ⟨[(4, .val .str), (5, .val .bool)], []⟩
noncomputable def G_ref13_Get  (N : Nat) : OrcT := orcOf []
noncomputable def F_ref13_Get  (N : Nat) (x : (List (Int × List UInt8)) × Int) : Option ((List UInt8) × Bool) :=
  (evT (G_ref13_Get  N) L0 P0 [(2, .loop [] ⟨[(6, .val (.int .i64))], []⟩ [(.exit 0, ⟨[], []⟩), (.ret, ⟨[(4, .val .str), (5, .val .bool)], []⟩)])]
    [] N 400 (bodyOf Try.f12) ⟨25, slots 0 (argsOf as_ref13_Get bs_ref13_Get x), tabU (lbOf as_ref13_Get bs_ref13_Get x) [], []⟩).elim (kRet 25 pout_ref13_Get (kpL []) (lbOf as_ref13_Get bs_ref13_Get x))
def out_ref13_Get (y : (List UInt8) × Bool) : V × List OK × List OK := (.tup [valW .str y.1, valW .bool y.2], [], [])
noncomputable def V_ref13_Get  (N : Nat) (x : (List (Int × List UInt8)) × Int) : Option ((List UInt8) × Bool) :=
  obind (loopN N (fun (v : Int) => cnd (decide (v < (↑(List.length x.1) : Int))) (cnd (decide ((0 : Int) ≤ v) && decide (v < (↑(List.length x.1) :
    Int))) (cnd (decide (Prod.fst (List.getD x.1 (Int.toNat v) ((0 : Int), [])) = x.2)) (cnd (decide ((0 : Int) ≤ v) && decide (v < (↑(List.length x.1)
    : Int))) (some (Sum.inr (Sum.inr (Prod.snd (List.getD x.1 (Int.toNat v) ((0 : Int), [])), true)))) none) (some (Sum.inl (wr IntKind.i64 (v + (1 :
    Int)))))) none) (some (Sum.inr (Sum.inl ())))) (Int.ofNat (0 : Nat))) fun (b : PUnit ⊕ List UInt8 × Bool) => selim (fun (b : PUnit) => some ([],
    false)) (fun (c : List UInt8 × Bool) => some (c.1, c.2)) b
theorem FV_ref13_Get_eq  (N : Nat) (x : (List (Int × List UInt8)) × Int) : F_ref13_Get  N x = V_ref13_Get  N x := by kernel_rfl
noncomputable def W_ref13_Get (N : Nat) (x : (List (Int × List UInt8)) × Int) : Option ((List UInt8) × Bool) :=
  obind (loopN N (fun (v : Int) => cnd (decide (v < (↑(List.length x.1) : Int))) (cnd (decide ((0 : Int) ≤ v) && decide (v < (↑(List.length x.1) :
    Int))) (cnd (decide (Prod.fst (List.getD x.1 (Int.toNat v) ((0 : Int), [])) = x.2)) (cnd (decide ((0 : Int) ≤ v) && decide (v < (↑(List.length x.1)
    : Int))) (some (Sum.inr (Sum.inr (Prod.snd (List.getD x.1 (Int.toNat v) ((0 : Int), [])), true)))) none) (some (Sum.inl (wr IntKind.i64 (v + (1 :
    Int)))))) none) (some (Sum.inr (Sum.inl ())))) (Int.ofNat (0 : Nat))) fun (b : PUnit ⊕ List UInt8 × Bool) => selim (fun (b : PUnit) => some ([],
    false)) (fun (c : List UInt8 × Bool) => some (c.1, c.2)) b
theorem F_ref13_Get_eq (N : Nat) (x : (List (Int × List UInt8)) × Int) : F_ref13_Get  N x = W_ref13_Get N x := (FV_ref13_Get_eq  N x).trans (by kernel_rfl)
noncomputable def conw_ref13_Get (w : (List (Int × List UInt8)) × Int → Option ((List UInt8) × Bool)) : Con := ⟨12, as_ref13_Get, bs_ref13_Get, (List UInt8) × Bool, w, out_ref13_Get⟩
noncomputable def con_ref13_Get (N : Nat) : Con := conw_ref13_Get (W_ref13_Get N)
theorem R_ref13_Get_eq (x : (List (Int × List UInt8)) × Int) (y : (List UInt8) × Bool) : retOf2 P0 Try.f12 (kpL []) (lbOf as_ref13_Get bs_ref13_Get x) (patS ⟨25, [], [], []⟩ pout_ref13_Get y) = some (out_ref13_Get y) := by kernel_rfl
theorem con_ref13_Get_ok (N : Nat) : Con.ok P0 (con_ref13_Get N) := ⟨⟨Try.f12, Try.func12, by kernel_rfl, by kernel_rfl⟩, fun (x : (List (Int × List UInt8)) × Int) (r : (List UInt8) × Bool) (hr : W_ref13_Get N x = some r) =>
  spec2_evT (Γ := G_ref13_Get N) (Λ := L0) (pout := pout_ref13_Get) (kp := kpL []) mixed (orcOf_ok [] (by simp)) Try.func12 (c := bodyOf Try.f12) (by kernel_rfl) (by kernel_rfl) (of_decide_eq_true (by kernel_rfl)) ((F_ref13_Get_eq N x).trans hr) (R_ref13_Get_eq x r)⟩
def as_ref13_PutWin : List AS := [.val (.list (.agg (.pair (.int .i64) .str))), .val (.int .i64), .val (.agg (.pair (.int .i64) .str))]
def bs_ref13_PutWin : List BS := []
def pout_ref13_PutWin : Pat := ⟨[(6, .val (.list (.agg (.pair (.int .i64) .str)))), (7, .val .bool)], []⟩
noncomputable def G_ref13_PutWin (w_ref13_Get : (List (Int × List UInt8)) × Int → Option ((List UInt8) × Bool)) (N : Nat) : OrcT := orcOf [conw_ref13_Get w_ref13_Get]
noncomputable def F_ref13_PutWin (w_ref13_Get : (List (Int × List UInt8)) × Int → Option ((List UInt8) × Bool)) (N : Nat) (x : (List (Int × List UInt8)) × Int × Int × List UInt8) : Option ((List (Int × List UInt8)) × Bool) :=
  (evT (G_ref13_PutWin w_ref13_Get N) L0 P0 [(7, .loop [] ⟨[(5, .ptr 600005 0), (10, .acc 700010), (11, .val .bool), (12, .val (.int .i64))], [(600005, .box 40 (.val (.pair (.int .i64) .str))), (700010, .nrow 40 (.agg (.pair (.int .i64) .str)) true true)]⟩ [(.exit 0, ⟨[(5, .ptr 600005 0), (10, .acc 700010), (11, .val .bool)], [(600005, .box 40 (.val (.pair (.int .i64) .str))), (700010, .nrow 40 (.agg (.pair (.int .i64) .str)) true true)]⟩)])]
    [(11, .cut [] [(.normal, ⟨[(5, .ptr 600005 0), (10, .acc 700010), (11, .val .bool)], [(600005, .box 40 (.val (.pair (.int .i64) .str))), (700010, .nrow 40 (.agg (.pair (.int .i64) .str)) true true)]⟩)])] N 400 (bodyOf Try.f83) ⟨71, slots 0 (argsOf as_ref13_PutWin bs_ref13_PutWin x), tabU (lbOf as_ref13_PutWin bs_ref13_PutWin x) [], []⟩).elim (kRet 71 pout_ref13_PutWin (kpL []) (lbOf as_ref13_PutWin bs_ref13_PutWin x))
def out_ref13_PutWin (y : (List (Int × List UInt8)) × Bool) : V × List OK × List OK := (.tup [valW (.list (.agg (.pair (.int .i64) .str))) y.1, valW .bool y.2], [], [])
noncomputable def V_ref13_PutWin (w_ref13_Get : (List (Int × List UInt8)) × Int → Option ((List UInt8) × Bool)) (N : Nat) (x : (List (Int × List UInt8)) × Int × Int × List UInt8) : Option ((List (Int × List UInt8)) × Bool) :=
  obind (w_ref13_Get (x.1, x.2.2.1)) fun (b : List UInt8 × Bool) => cnd (decide (x.2.2.1 < x.2.1)) (some (x.1, false)) (cnd (decide ((8 : Int) ≤ wr
    IntKind.i64 (x.2.2.1 - x.2.1))) (some (x.1, false)) (cnd b.2 (some (x.1, false)) (obind (loopN N (fun (v : Bool × Int × (Int × List UInt8) × List
    (Int × List UInt8)) => cnd (decide (v.2.1 < (↑(List.length x.1) : Int))) (obind (cnd (!v.1) (cnd (decide ((0 : Int) ≤ v.2.1) && decide (v.2.1 <
    (↑(List.length x.1) : Int))) (cnd (decide (v.2.2.1.1 < Prod.fst (List.getD x.1 (Int.toNat v.2.1) ((0 : Int), [])))) (cnd (decide ((List.length
    v.2.2.2 + List.length [(v.2.2.1.1, v.2.2.1.2)]) * (24 : Nat) ≤ (140737488355328 : Nat))) (some (true, (v.2.2.1.1, v.2.2.1.2), v.2.2.2 ++
    [(v.2.2.1.1, v.2.2.1.2)])) none) (some (v.1, (v.2.2.1.1, v.2.2.1.2), v.2.2.2))) none) (some (v.1, (v.2.2.1.1, v.2.2.1.2), v.2.2.2))) fun (b : Bool ×
    (Int × List UInt8) × List (Int × List UInt8)) => cnd (decide ((0 : Int) ≤ v.2.1) && decide (v.2.1 < (↑(List.length x.1) : Int))) (cnd (decide
    ((List.length b.2.2 + (1 : Nat)) * (24 : Nat) ≤ (140737488355328 : Nat))) (some (Sum.inl (b.1, wr IntKind.i64 (v.2.1 + (1 : Int)), (b.2.1.1,
    b.2.1.2), b.2.2 ++ [(Prod.fst (List.getD x.1 (Int.toNat v.2.1) ((0 : Int), [])), Prod.snd (List.getD x.1 (Int.toNat v.2.1) ((0 : Int), [])))])))
    none) none) (some (Sum.inr (v.1, (v.2.2.1.1, v.2.2.1.2), v.2.2.2)))) (false, (0 : Int), (x.2.2.1, x.2.2.2), [])) fun (b : Bool × (Int × List UInt8)
    × List (Int × List UInt8)) => cnd (!b.1) (cnd (decide ((List.length b.2.2 + List.length [(b.2.1.1, b.2.1.2)]) * (24 : Nat) ≤ (140737488355328 :
    Nat))) (some (b.2.2 ++ [(b.2.1.1, b.2.1.2)], true)) none) (some (b.2.2, true)))))
theorem FV_ref13_PutWin_eq (w_ref13_Get : (List (Int × List UInt8)) × Int → Option ((List UInt8) × Bool)) (N : Nat) (x : (List (Int × List UInt8)) × Int × Int × List UInt8) : F_ref13_PutWin w_ref13_Get N x = V_ref13_PutWin w_ref13_Get N x := by kernel_rfl
noncomputable def W_ref13_PutWin (N : Nat) (x : (List (Int × List UInt8)) × Int × Int × List UInt8) : Option ((List (Int × List UInt8)) × Bool) :=
  obind (W_ref13_Get N (x.1, x.2.2.1)) fun (b : List UInt8 × Bool) => cnd (decide (x.2.2.1 < x.2.1)) (some (x.1, false)) (cnd (decide ((8 : Int) ≤ wr
    IntKind.i64 (x.2.2.1 - x.2.1))) (some (x.1, false)) (cnd b.2 (some (x.1, false)) (obind (loopN N (fun (v : Bool × Int × (Int × List UInt8) × List
    (Int × List UInt8)) => cnd (decide (v.2.1 < (↑(List.length x.1) : Int))) (obind (cnd (!v.1) (cnd (decide ((0 : Int) ≤ v.2.1) && decide (v.2.1 <
    (↑(List.length x.1) : Int))) (cnd (decide (v.2.2.1.1 < Prod.fst (List.getD x.1 (Int.toNat v.2.1) ((0 : Int), [])))) (cnd (decide ((List.length
    v.2.2.2 + List.length [(v.2.2.1.1, v.2.2.1.2)]) * (24 : Nat) ≤ (140737488355328 : Nat))) (some (true, (v.2.2.1.1, v.2.2.1.2), v.2.2.2 ++
    [(v.2.2.1.1, v.2.2.1.2)])) none) (some (v.1, (v.2.2.1.1, v.2.2.1.2), v.2.2.2))) none) (some (v.1, (v.2.2.1.1, v.2.2.1.2), v.2.2.2))) fun (b : Bool ×
    (Int × List UInt8) × List (Int × List UInt8)) => cnd (decide ((0 : Int) ≤ v.2.1) && decide (v.2.1 < (↑(List.length x.1) : Int))) (cnd (decide
    ((List.length b.2.2 + (1 : Nat)) * (24 : Nat) ≤ (140737488355328 : Nat))) (some (Sum.inl (b.1, wr IntKind.i64 (v.2.1 + (1 : Int)), (b.2.1.1,
    b.2.1.2), b.2.2 ++ [(Prod.fst (List.getD x.1 (Int.toNat v.2.1) ((0 : Int), [])), Prod.snd (List.getD x.1 (Int.toNat v.2.1) ((0 : Int), [])))])))
    none) none) (some (Sum.inr (v.1, (v.2.2.1.1, v.2.2.1.2), v.2.2.2)))) (false, (0 : Int), (x.2.2.1, x.2.2.2), [])) fun (b : Bool × (Int × List UInt8)
    × List (Int × List UInt8)) => cnd (!b.1) (cnd (decide ((List.length b.2.2 + List.length [(b.2.1.1, b.2.1.2)]) * (24 : Nat) ≤ (140737488355328 :
    Nat))) (some (b.2.2 ++ [(b.2.1.1, b.2.1.2)], true)) none) (some (b.2.2, true)))))
theorem F_ref13_PutWin_eq (N : Nat) (x : (List (Int × List UInt8)) × Int × Int × List UInt8) : F_ref13_PutWin (W_ref13_Get N) N x = W_ref13_PutWin N x := (FV_ref13_PutWin_eq (W_ref13_Get N) N x).trans (by kernel_rfl)
noncomputable def conw_ref13_PutWin (w : (List (Int × List UInt8)) × Int × Int × List UInt8 → Option ((List (Int × List UInt8)) × Bool)) : Con := ⟨83, as_ref13_PutWin, bs_ref13_PutWin, (List (Int × List UInt8)) × Bool, w, out_ref13_PutWin⟩
noncomputable def con_ref13_PutWin (N : Nat) : Con := conw_ref13_PutWin (W_ref13_PutWin N)
theorem R_ref13_PutWin_eq (x : (List (Int × List UInt8)) × Int × Int × List UInt8) (y : (List (Int × List UInt8)) × Bool) : retOf2 P0 Try.f83 (kpL []) (lbOf as_ref13_PutWin bs_ref13_PutWin x) (patS ⟨71, [], [], []⟩ pout_ref13_PutWin y) = some (out_ref13_PutWin y) := by kernel_rfl
theorem con_ref13_PutWin_ok (N : Nat) : Con.ok P0 (con_ref13_PutWin N) := ⟨⟨Try.f83, Try.func83, by kernel_rfl, by kernel_rfl⟩, fun (x : (List (Int × List UInt8)) × Int × Int × List UInt8) (r : (List (Int × List UInt8)) × Bool) (hr : W_ref13_PutWin N x = some r) =>
  spec2_evT (Γ := G_ref13_PutWin (W_ref13_Get N) N) (Λ := L0) (pout := pout_ref13_PutWin) (kp := kpL []) mixed (orcOf_ok _ (by simp only [List.mem_cons, List.not_mem_nil, or_false, forall_eq_or_imp, forall_eq]; exact con_ref13_Get_ok N)) Try.func83 (c := bodyOf Try.f83) (by kernel_rfl) (by kernel_rfl) (of_decide_eq_true (by kernel_rfl)) ((F_ref13_PutWin_eq N x).trans hr) (R_ref13_PutWin_eq x r)⟩
def as_ref13_Comes : List AS := [.val (.agg (.pair (.int .i64) (.pair (.int .i64) (.pair (.list (.agg (.pair (.int .i64) .str))) (.pair (.list (.agg (.pair (.int .i64) .str))) (.pair (.list (.agg (.pair (.int .i64) (.pair (.int .i64) (.pair (.int .i64) (.pair .str (.int .i64))))))) (.agg (.pair (.int .i64) (.int .i64))))))))), .val (.agg (.pair (.int .i64) .str))]
def bs_ref13_Comes : List BS := []
def pout_ref13_Comes : Pat := ⟨[(4, .ptr 600004 0)], [(600004, .box 29 (.val (.pair (.int .i64) (.pair (.int .i64) (.pair (.list (.agg (.pair (.int .i64) .str))) (.pair (.list (.agg (.pair (.int .i64) .str))) (.pair (.list (.agg (.pair (.int .i64) (.pair (.int .i64) (.pair (.int .i64) (.pair .str (.int .i64))))))) (.agg (.pair (.int .i64) (.int .i64))))))))))]⟩
noncomputable def G_ref13_Comes (w_ref13_Knows : (Int × Int × (List (Int × List UInt8)) × (List (Int × List UInt8)) × (List (Int × Int × Int × (List UInt8) × Int)) × Int × Int) × Int → Option (Int × Int × (List (Int × List UInt8)) × (List (Int × List UInt8)) × (List (Int × Int × Int × (List UInt8) × Int)) × Int × Int)) (w_ref13_PutWin : (List (Int × List UInt8)) × Int × Int × List UInt8 → Option ((List (Int × List UInt8)) × Bool)) (w_ref13_Goes : Int × Int × (List (Int × List UInt8)) × (List (Int × List UInt8)) × (List (Int × Int × Int × (List UInt8) × Int)) × Int × Int → Option ((List (Int × List UInt8)) × Int × Int × (List (Int × List UInt8)) × (List (Int × List UInt8)) × (List (Int × Int × Int × (List UInt8) × Int)) × Int × Int)) (N : Nat) : OrcT := orcOf [conw_ref13_Knows w_ref13_Knows, conw_ref13_PutWin w_ref13_PutWin, conw_ref13_Goes w_ref13_Goes]
noncomputable def F_ref13_Comes (w_ref13_Knows : (Int × Int × (List (Int × List UInt8)) × (List (Int × List UInt8)) × (List (Int × Int × Int × (List UInt8) × Int)) × Int × Int) × Int → Option (Int × Int × (List (Int × List UInt8)) × (List (Int × List UInt8)) × (List (Int × Int × Int × (List UInt8) × Int)) × Int × Int)) (w_ref13_PutWin : (List (Int × List UInt8)) × Int × Int × List UInt8 → Option ((List (Int × List UInt8)) × Bool)) (w_ref13_Goes : Int × Int × (List (Int × List UInt8)) × (List (Int × List UInt8)) × (List (Int × Int × Int × (List UInt8) × Int)) × Int × Int → Option ((List (Int × List UInt8)) × Int × Int × (List (Int × List UInt8)) × (List (Int × List UInt8)) × (List (Int × Int × Int × (List UInt8) × Int)) × Int × Int)) (N : Nat) (x : (Int × Int × (List (Int × List UInt8)) × (List (Int × List UInt8)) × (List (Int × Int × Int × (List UInt8) × Int)) × Int × Int) × Int × List UInt8) : Option (Int × Int × (List (Int × List UInt8)) × (List (Int × List UInt8)) × (List (Int × Int × Int × (List UInt8) × Int)) × Int × Int) :=
  (evT (G_ref13_Comes w_ref13_Knows w_ref13_PutWin w_ref13_Goes N) L0 P0 []
    [(1000001, .reg [(8, [], ⟨[(2, .ptr 600002 0), (3, .ptr 600003 0), (4, .ptr 600004 0), (12, .val .bool)], [(600002, .box 29 (.val (.pair (.int .i64) (.pair (.int .i64) (.pair (.list (.agg (.pair (.int .i64) .str))) (.pair (.list (.agg (.pair (.int .i64) .str))) (.pair (.list (.agg (.pair (.int .i64) (.pair (.int .i64) (.pair (.int .i64) (.pair .str (.int .i64))))))) (.agg (.pair (.int .i64) (.int .i64)))))))))), (600003, .box 40 (.val (.pair (.int .i64) .str))), (600004, .box 29 (.val (.pair (.int .i64) (.pair (.int .i64) (.pair (.list (.agg (.pair (.int .i64) .str))) (.pair (.list (.agg (.pair (.int .i64) .str))) (.pair (.list (.agg (.pair (.int .i64) (.pair (.int .i64) (.pair (.int .i64) (.pair .str (.int .i64))))))) (.agg (.pair (.int .i64) (.int .i64))))))))))]⟩), (5, [], ⟨[(2, .ptr 600002 0), (3, .ptr 600003 0), (4, .ptr 600004 0), (17, .val .bool)], [(600002, .box 29 (.val (.pair (.int .i64) (.pair (.int .i64) (.pair (.list (.agg (.pair (.int .i64) .str))) (.pair (.list (.agg (.pair (.int .i64) .str))) (.pair (.list (.agg (.pair (.int .i64) (.pair (.int .i64) (.pair (.int .i64) (.pair .str (.int .i64))))))) (.agg (.pair (.int .i64) (.int .i64)))))))))), (600003, .box 40 (.val (.pair (.int .i64) .str))), (600004, .box 29 (.val (.pair (.int .i64) (.pair (.int .i64) (.pair (.list (.agg (.pair (.int .i64) .str))) (.pair (.list (.agg (.pair (.int .i64) .str))) (.pair (.list (.agg (.pair (.int .i64) (.pair (.int .i64) (.pair (.int .i64) (.pair .str (.int .i64))))))) (.agg (.pair (.int .i64) (.int .i64))))))))))]⟩)])] N 400 (bodyOf Try.f35) ⟨45, slots 0 (argsOf as_ref13_Comes bs_ref13_Comes x), tabU (lbOf as_ref13_Comes bs_ref13_Comes x) [], []⟩).elim (kRet 45 pout_ref13_Comes (kpL []) (lbOf as_ref13_Comes bs_ref13_Comes x))
def out_ref13_Comes (y : Int × Int × (List (Int × List UInt8)) × (List (Int × List UInt8)) × (List (Int × Int × Int × (List UInt8) × Int)) × Int × Int) : V × List OK × List OK := (valW (.agg (.pair (.int .i64) (.pair (.int .i64) (.pair (.list (.agg (.pair (.int .i64) .str))) (.pair (.list (.agg (.pair (.int .i64) .str))) (.pair (.list (.agg (.pair (.int .i64) (.pair (.int .i64) (.pair (.int .i64) (.pair .str (.int .i64))))))) (.agg (.pair (.int .i64) (.int .i64))))))))) y, [], [])
noncomputable def V_ref13_Comes (w_ref13_Knows : (Int × Int × (List (Int × List UInt8)) × (List (Int × List UInt8)) × (List (Int × Int × Int × (List UInt8) × Int)) × Int × Int) × Int → Option (Int × Int × (List (Int × List UInt8)) × (List (Int × List UInt8)) × (List (Int × Int × Int × (List UInt8) × Int)) × Int × Int)) (w_ref13_PutWin : (List (Int × List UInt8)) × Int × Int × List UInt8 → Option ((List (Int × List UInt8)) × Bool)) (w_ref13_Goes : Int × Int × (List (Int × List UInt8)) × (List (Int × List UInt8)) × (List (Int × Int × Int × (List UInt8) × Int)) × Int × Int → Option ((List (Int × List UInt8)) × Int × Int × (List (Int × List UInt8)) × (List (Int × List UInt8)) × (List (Int × Int × Int × (List UInt8) × Int)) × Int × Int)) (N : Nat) (x : (Int × Int × (List (Int × List UInt8)) × (List (Int × List UInt8)) × (List (Int × Int × Int × (List UInt8) × Int)) × Int × Int) × Int × List UInt8) : Option (Int × Int × (List (Int × List UInt8)) × (List (Int × List UInt8)) × (List (Int × Int × Int × (List UInt8) × Int)) × Int × Int) :=
  obind (cnd (decide (x.1.1 = (0 : Int))) (some (true, (x.1.1, x.1.2.1, x.1.2.2.1, x.1.2.2.2.1, x.1.2.2.2.2.1, x.1.2.2.2.2.2.1, x.1.2.2.2.2.2.2),
    (x.2.1, x.2.2), (0 : Int), (0 : Int), [], [], [], (0 : Int), (0 : Int))) (some (decide (x.2.1 < (1 : Int)), (x.1.1, x.1.2.1, x.1.2.2.1, x.1.2.2.2.1,
    x.1.2.2.2.2.1, x.1.2.2.2.2.2.1, x.1.2.2.2.2.2.2), (x.2.1, x.2.2), (0 : Int), (0 : Int), [], [], [], (0 : Int), (0 : Int)))) fun (b : Bool × (Int ×
    Int × List (Int × List UInt8) × List (Int × List UInt8) × List (Int × Int × Int × List UInt8 × Int) × Int × Int) × (Int × List UInt8) × Int × Int ×
    List (Int × List UInt8) × List (Int × List UInt8) × List (Int × Int × Int × List UInt8 × Int) × Int × Int) => obind (cnd b.1 (some (true, (b.2.1.1,
    b.2.1.2.1, b.2.1.2.2.1, b.2.1.2.2.2.1, b.2.1.2.2.2.2.1, b.2.1.2.2.2.2.2.1, b.2.1.2.2.2.2.2.2), (b.2.2.1.1, b.2.2.1.2), b.2.2.2.1, b.2.2.2.2.1,
    b.2.2.2.2.2.1, b.2.2.2.2.2.2.1, b.2.2.2.2.2.2.2.1, b.2.2.2.2.2.2.2.2.1, b.2.2.2.2.2.2.2.2.2)) (some (decide ((1000000 : Int) < b.2.2.1.1), (b.2.1.1,
    b.2.1.2.1, b.2.1.2.2.1, b.2.1.2.2.2.1, b.2.1.2.2.2.2.1, b.2.1.2.2.2.2.2.1, b.2.1.2.2.2.2.2.2), (b.2.2.1.1, b.2.2.1.2), b.2.2.2.1, b.2.2.2.2.1,
    b.2.2.2.2.2.1, b.2.2.2.2.2.2.1, b.2.2.2.2.2.2.2.1, b.2.2.2.2.2.2.2.2.1, b.2.2.2.2.2.2.2.2.2))) fun (b : Bool × (Int × Int × List (Int × List UInt8)
    × List (Int × List UInt8) × List (Int × Int × Int × List UInt8 × Int) × Int × Int) × (Int × List UInt8) × Int × Int × List (Int × List UInt8) × List
    (Int × List UInt8) × List (Int × Int × Int × List UInt8 × Int) × Int × Int) => cnd b.1 (some (b.2.1.1, b.2.1.2.1, b.2.1.2.2.1, b.2.1.2.2.2.1,
    b.2.1.2.2.2.2.1, b.2.1.2.2.2.2.2.1, b.2.1.2.2.2.2.2.2)) (cnd (decide ((12 : Int) < (↑(List.length b.2.2.1.2) : Int))) (some (b.2.1.1, b.2.1.2.1,
    b.2.1.2.2.1, b.2.1.2.2.2.1, b.2.1.2.2.2.2.1, b.2.1.2.2.2.2.2.1, b.2.1.2.2.2.2.2.2)) (obind (w_ref13_Knows ((b.2.1.1, b.2.1.2.1, b.2.1.2.2.1,
    b.2.1.2.2.2.1, b.2.1.2.2.2.2.1, b.2.1.2.2.2.2.2.1, b.2.1.2.2.2.2.2.2), b.2.2.1.1)) fun (b_1 : Int × Int × List (Int × List UInt8) × List (Int × List
    UInt8) × List (Int × Int × Int × List UInt8 × Int) × Int × Int) => obind (w_ref13_PutWin (b_1.2.2.2.1, b_1.1, b.2.2.1.1, b.2.2.1.2)) fun (b : List
    (Int × List UInt8) × Bool) => obind (w_ref13_Goes (b_1.1, b_1.2.1, b_1.2.2.1, b.1, b_1.2.2.2.2.1, b_1.2.2.2.2.2.1, b_1.2.2.2.2.2.2)) fun (b : List
    (Int × List UInt8) × Int × Int × List (Int × List UInt8) × List (Int × List UInt8) × List (Int × Int × Int × List UInt8 × Int) × Int × Int) => some
    (b.2.1, b.2.2.1, b.2.2.2.1, b.2.2.2.2.1, b.2.2.2.2.2.1, b.2.2.2.2.2.2.1, b.2.2.2.2.2.2.2)))
theorem FV_ref13_Comes_eq (w_ref13_Knows : (Int × Int × (List (Int × List UInt8)) × (List (Int × List UInt8)) × (List (Int × Int × Int × (List UInt8) × Int)) × Int × Int) × Int → Option (Int × Int × (List (Int × List UInt8)) × (List (Int × List UInt8)) × (List (Int × Int × Int × (List UInt8) × Int)) × Int × Int)) (w_ref13_PutWin : (List (Int × List UInt8)) × Int × Int × List UInt8 → Option ((List (Int × List UInt8)) × Bool)) (w_ref13_Goes : Int × Int × (List (Int × List UInt8)) × (List (Int × List UInt8)) × (List (Int × Int × Int × (List UInt8) × Int)) × Int × Int → Option ((List (Int × List UInt8)) × Int × Int × (List (Int × List UInt8)) × (List (Int × List UInt8)) × (List (Int × Int × Int × (List UInt8) × Int)) × Int × Int)) (N : Nat) (x : (Int × Int × (List (Int × List UInt8)) × (List (Int × List UInt8)) × (List (Int × Int × Int × (List UInt8) × Int)) × Int × Int) × Int × List UInt8) : F_ref13_Comes w_ref13_Knows w_ref13_PutWin w_ref13_Goes N x = V_ref13_Comes w_ref13_Knows w_ref13_PutWin w_ref13_Goes N x := by kernel_rfl
noncomputable def W_ref13_Comes (N : Nat) (x : (Int × Int × (List (Int × List UInt8)) × (List (Int × List UInt8)) × (List (Int × Int × Int × (List UInt8) × Int)) × Int × Int) × Int × List UInt8) : Option (Int × Int × (List (Int × List UInt8)) × (List (Int × List UInt8)) × (List (Int × Int × Int × (List UInt8) × Int)) × Int × Int) :=
  obind (cnd (decide (x.1.1 = (0 : Int))) (some (true, (x.1.1, x.1.2.1, x.1.2.2.1, x.1.2.2.2.1, x.1.2.2.2.2.1, x.1.2.2.2.2.2.1, x.1.2.2.2.2.2.2),
    (x.2.1, x.2.2), (0 : Int), (0 : Int), [], [], [], (0 : Int), (0 : Int))) (some (decide (x.2.1 < (1 : Int)), (x.1.1, x.1.2.1, x.1.2.2.1, x.1.2.2.2.1,
    x.1.2.2.2.2.1, x.1.2.2.2.2.2.1, x.1.2.2.2.2.2.2), (x.2.1, x.2.2), (0 : Int), (0 : Int), [], [], [], (0 : Int), (0 : Int)))) fun (b : Bool × (Int ×
    Int × List (Int × List UInt8) × List (Int × List UInt8) × List (Int × Int × Int × List UInt8 × Int) × Int × Int) × (Int × List UInt8) × Int × Int ×
    List (Int × List UInt8) × List (Int × List UInt8) × List (Int × Int × Int × List UInt8 × Int) × Int × Int) => obind (cnd b.1 (some (true, (b.2.1.1,
    b.2.1.2.1, b.2.1.2.2.1, b.2.1.2.2.2.1, b.2.1.2.2.2.2.1, b.2.1.2.2.2.2.2.1, b.2.1.2.2.2.2.2.2), (b.2.2.1.1, b.2.2.1.2), b.2.2.2.1, b.2.2.2.2.1,
    b.2.2.2.2.2.1, b.2.2.2.2.2.2.1, b.2.2.2.2.2.2.2.1, b.2.2.2.2.2.2.2.2.1, b.2.2.2.2.2.2.2.2.2)) (some (decide ((1000000 : Int) < b.2.2.1.1), (b.2.1.1,
    b.2.1.2.1, b.2.1.2.2.1, b.2.1.2.2.2.1, b.2.1.2.2.2.2.1, b.2.1.2.2.2.2.2.1, b.2.1.2.2.2.2.2.2), (b.2.2.1.1, b.2.2.1.2), b.2.2.2.1, b.2.2.2.2.1,
    b.2.2.2.2.2.1, b.2.2.2.2.2.2.1, b.2.2.2.2.2.2.2.1, b.2.2.2.2.2.2.2.2.1, b.2.2.2.2.2.2.2.2.2))) fun (b : Bool × (Int × Int × List (Int × List UInt8)
    × List (Int × List UInt8) × List (Int × Int × Int × List UInt8 × Int) × Int × Int) × (Int × List UInt8) × Int × Int × List (Int × List UInt8) × List
    (Int × List UInt8) × List (Int × Int × Int × List UInt8 × Int) × Int × Int) => cnd b.1 (some (b.2.1.1, b.2.1.2.1, b.2.1.2.2.1, b.2.1.2.2.2.1,
    b.2.1.2.2.2.2.1, b.2.1.2.2.2.2.2.1, b.2.1.2.2.2.2.2.2)) (cnd (decide ((12 : Int) < (↑(List.length b.2.2.1.2) : Int))) (some (b.2.1.1, b.2.1.2.1,
    b.2.1.2.2.1, b.2.1.2.2.2.1, b.2.1.2.2.2.2.1, b.2.1.2.2.2.2.2.1, b.2.1.2.2.2.2.2.2)) (obind (W_ref13_Knows N ((b.2.1.1, b.2.1.2.1, b.2.1.2.2.1,
    b.2.1.2.2.2.1, b.2.1.2.2.2.2.1, b.2.1.2.2.2.2.2.1, b.2.1.2.2.2.2.2.2), b.2.2.1.1)) fun (b_1 : Int × Int × List (Int × List UInt8) × List (Int × List
    UInt8) × List (Int × Int × Int × List UInt8 × Int) × Int × Int) => obind (W_ref13_PutWin N (b_1.2.2.2.1, b_1.1, b.2.2.1.1, b.2.2.1.2)) fun (b : List
    (Int × List UInt8) × Bool) => obind (W_ref13_Goes N (b_1.1, b_1.2.1, b_1.2.2.1, b.1, b_1.2.2.2.2.1, b_1.2.2.2.2.2.1, b_1.2.2.2.2.2.2)) fun (b : List
    (Int × List UInt8) × Int × Int × List (Int × List UInt8) × List (Int × List UInt8) × List (Int × Int × Int × List UInt8 × Int) × Int × Int) => some
    (b.2.1, b.2.2.1, b.2.2.2.1, b.2.2.2.2.1, b.2.2.2.2.2.1, b.2.2.2.2.2.2.1, b.2.2.2.2.2.2.2)))
theorem F_ref13_Comes_eq (N : Nat) (x : (Int × Int × (List (Int × List UInt8)) × (List (Int × List UInt8)) × (List (Int × Int × Int × (List UInt8) × Int)) × Int × Int) × Int × List UInt8) : F_ref13_Comes (W_ref13_Knows N) (W_ref13_PutWin N) (W_ref13_Goes N) N x = W_ref13_Comes N x := (FV_ref13_Comes_eq (W_ref13_Knows N) (W_ref13_PutWin N) (W_ref13_Goes N) N x).trans (by kernel_rfl)
noncomputable def conw_ref13_Comes (w : (Int × Int × (List (Int × List UInt8)) × (List (Int × List UInt8)) × (List (Int × Int × Int × (List UInt8) × Int)) × Int × Int) × Int × List UInt8 → Option (Int × Int × (List (Int × List UInt8)) × (List (Int × List UInt8)) × (List (Int × Int × Int × (List UInt8) × Int)) × Int × Int)) : Con := ⟨35, as_ref13_Comes, bs_ref13_Comes, Int × Int × (List (Int × List UInt8)) × (List (Int × List UInt8)) × (List (Int × Int × Int × (List UInt8) × Int)) × Int × Int, w, out_ref13_Comes⟩
noncomputable def con_ref13_Comes (N : Nat) : Con := conw_ref13_Comes (W_ref13_Comes N)
theorem R_ref13_Comes_eq (x : (Int × Int × (List (Int × List UInt8)) × (List (Int × List UInt8)) × (List (Int × Int × Int × (List UInt8) × Int)) × Int × Int) × Int × List UInt8) (y : Int × Int × (List (Int × List UInt8)) × (List (Int × List UInt8)) × (List (Int × Int × Int × (List UInt8) × Int)) × Int × Int) : retOf2 P0 Try.f35 (kpL []) (lbOf as_ref13_Comes bs_ref13_Comes x) (patS ⟨45, [], [], []⟩ pout_ref13_Comes y) = some (out_ref13_Comes y) := by kernel_rfl
theorem con_ref13_Comes_ok (N : Nat) : Con.ok P0 (con_ref13_Comes N) := ⟨⟨Try.f35, Try.func35, by kernel_rfl, by kernel_rfl⟩, fun (x : (Int × Int × (List (Int × List UInt8)) × (List (Int × List UInt8)) × (List (Int × Int × Int × (List UInt8) × Int)) × Int × Int) × Int × List UInt8) (r : Int × Int × (List (Int × List UInt8)) × (List (Int × List UInt8)) × (List (Int × Int × Int × (List UInt8) × Int)) × Int × Int) (hr : W_ref13_Comes N x = some r) =>
  spec2_evT (Γ := G_ref13_Comes (W_ref13_Knows N) (W_ref13_PutWin N) (W_ref13_Goes N) N) (Λ := L0) (pout := pout_ref13_Comes) (kp := kpL []) mixed (orcOf_ok _ (by simp only [List.mem_cons, List.not_mem_nil, or_false, forall_eq_or_imp, forall_eq]; exact ⟨con_ref13_Knows_ok N, con_ref13_PutWin_ok N, con_ref13_Goes_ok N⟩)) Try.func35 (c := bodyOf Try.f35) (by kernel_rfl) (by kernel_rfl) (of_decide_eq_true (by kernel_rfl)) ((F_ref13_Comes_eq N x).trans hr) (R_ref13_Comes_eq x r)⟩
def as_Picks_Feed : List AS := [.ptr 0 0, .val (.int .i64)]
def bs_Picks_Feed : List BS := [.box 75 (.pair (.list (.int .u8)) (.int .i64))]
def pout_Picks_Feed : Pat := ⟨[(0, .ptr 1000000 0), (4, .ptr 600004 0)], [(1000000, .box 75 (.val (.pair (.list (.int .u8)) (.int .i64)))), (600004, .box 29 (.val (.pair (.int .i64) (.pair (.int .i64) (.pair (.list (.agg (.pair (.int .i64) .str))) (.pair (.list (.agg (.pair (.int .i64) .str))) (.pair (.list (.agg (.pair (.int .i64) (.pair (.int .i64) (.pair (.int .i64) (.pair .str (.int .i64))))))) (.agg (.pair (.int .i64) (.int .i64))))))))))]⟩
noncomputable def G_Picks_Feed (w_Picks_Num : Int × (List Int) × Int → Option (Int × (List Int) × Int)) (w_ref13_Begin : (Int × Int × (List (Int × List UInt8)) × (List (Int × List UInt8)) × (List (Int × Int × Int × (List UInt8) × Int)) × Int × Int) × Int → Option (Int × Int × (List (Int × List UInt8)) × (List (Int × List UInt8)) × (List (Int × Int × Int × (List UInt8) × Int)) × Int × Int)) (w_Picks_Over : (List Int) × Int → Option (Bool × (List Int) × Int)) (w_ref13_Notes : (Int × Int × (List (Int × List UInt8)) × (List (Int × List UInt8)) × (List (Int × Int × Int × (List UInt8) × Int)) × Int × Int) × Int × Int → Option (Int × Int × (List (Int × List UInt8)) × (List (Int × List UInt8)) × (List (Int × Int × Int × (List UInt8) × Int)) × Int × Int)) (w_ref13_Knows : (Int × Int × (List (Int × List UInt8)) × (List (Int × List UInt8)) × (List (Int × Int × Int × (List UInt8) × Int)) × Int × Int) × Int → Option (Int × Int × (List (Int × List UInt8)) × (List (Int × List UInt8)) × (List (Int × Int × Int × (List UInt8) × Int)) × Int × Int)) (w_ref13_Tick : (Int × Int × (List (Int × List UInt8)) × (List (Int × List UInt8)) × (List (Int × Int × Int × (List UInt8) × Int)) × Int × Int) × Int → Option (Bool × (Int × Int × (List (Int × List UInt8)) × (List (Int × List UInt8)) × (List (Int × Int × Int × (List UInt8) × Int)) × Int × Int) × Int × Int)) (w_Picks_Text : (List Int) × Int → Option ((List UInt8) × (List Int) × Int)) (w_ref13_Comes : (Int × Int × (List (Int × List UInt8)) × (List (Int × List UInt8)) × (List (Int × Int × Int × (List UInt8) × Int)) × Int × Int) × Int × List UInt8 → Option (Int × Int × (List (Int × List UInt8)) × (List (Int × List UInt8)) × (List (Int × Int × Int × (List UInt8) × Int)) × Int × Int)) (N : Nat) : OrcT := orcOf [conw_Picks_Num w_Picks_Num, conw_ref13_Begin w_ref13_Begin, conw_Picks_Over w_Picks_Over, conw_ref13_Notes w_ref13_Notes, conw_ref13_Knows w_ref13_Knows, conw_ref13_Tick w_ref13_Tick, conw_Picks_Text w_Picks_Text, conw_ref13_Comes w_ref13_Comes]
noncomputable def F_Picks_Feed (w_Picks_Num : Int × (List Int) × Int → Option (Int × (List Int) × Int)) (w_ref13_Begin : (Int × Int × (List (Int × List UInt8)) × (List (Int × List UInt8)) × (List (Int × Int × Int × (List UInt8) × Int)) × Int × Int) × Int → Option (Int × Int × (List (Int × List UInt8)) × (List (Int × List UInt8)) × (List (Int × Int × Int × (List UInt8) × Int)) × Int × Int)) (w_Picks_Over : (List Int) × Int → Option (Bool × (List Int) × Int)) (w_ref13_Notes : (Int × Int × (List (Int × List UInt8)) × (List (Int × List UInt8)) × (List (Int × Int × Int × (List UInt8) × Int)) × Int × Int) × Int × Int → Option (Int × Int × (List (Int × List UInt8)) × (List (Int × List UInt8)) × (List (Int × Int × Int × (List UInt8) × Int)) × Int × Int)) (w_ref13_Knows : (Int × Int × (List (Int × List UInt8)) × (List (Int × List UInt8)) × (List (Int × Int × Int × (List UInt8) × Int)) × Int × Int) × Int → Option (Int × Int × (List (Int × List UInt8)) × (List (Int × List UInt8)) × (List (Int × Int × Int × (List UInt8) × Int)) × Int × Int)) (w_ref13_Tick : (Int × Int × (List (Int × List UInt8)) × (List (Int × List UInt8)) × (List (Int × Int × Int × (List UInt8) × Int)) × Int × Int) × Int → Option (Bool × (Int × Int × (List (Int × List UInt8)) × (List (Int × List UInt8)) × (List (Int × Int × Int × (List UInt8) × Int)) × Int × Int) × Int × Int)) (w_Picks_Text : (List Int) × Int → Option ((List UInt8) × (List Int) × Int)) (w_ref13_Comes : (Int × Int × (List (Int × List UInt8)) × (List (Int × List UInt8)) × (List (Int × Int × Int × (List UInt8) × Int)) × Int × Int) × Int × List UInt8 → Option (Int × Int × (List (Int × List UInt8)) × (List (Int × List UInt8)) × (List (Int × Int × Int × (List UInt8) × Int)) × Int × Int)) (N : Nat) (x : Int × (List Int) × Int) : Option (((List Int) × Int) × Int × Int × (List (Int × List UInt8)) × (List (Int × List UInt8)) × (List (Int × Int × Int × (List UInt8) × Int)) × Int × Int) :=
  (evT (G_Picks_Feed w_Picks_Num w_ref13_Begin w_Picks_Over w_ref13_Notes w_ref13_Knows w_ref13_Tick w_Picks_Text w_ref13_Comes N) L0 P0 [(4, .loop [] ⟨[(0, .ptr 1000000 0), (4, .ptr 600004 0), (5, .ptr 600005 0), (6, .val (.int .i64)), (7, .val (.int .i64))], [(1000000, .box 75 (.val (.pair (.list (.int .u8)) (.int .i64)))), (600004, .box 29 (.val (.pair (.int .i64) (.pair (.int .i64) (.pair (.list (.agg (.pair (.int .i64) .str))) (.pair (.list (.agg (.pair (.int .i64) .str))) (.pair (.list (.agg (.pair (.int .i64) (.pair (.int .i64) (.pair (.int .i64) (.pair .str (.int .i64))))))) (.agg (.pair (.int .i64) (.int .i64)))))))))), (600005, .box 29 (.val (.pair (.int .i64) (.pair (.int .i64) (.pair (.list (.agg (.pair (.int .i64) .str))) (.pair (.list (.agg (.pair (.int .i64) .str))) (.pair (.list (.agg (.pair (.int .i64) (.pair (.int .i64) (.pair (.int .i64) (.pair .str (.int .i64))))))) (.agg (.pair (.int .i64) (.int .i64))))))))))]⟩ [(.exit 0, ⟨[(0, .ptr 1000000 0), (4, .ptr 600004 0), (5, .ptr 600005 0)], [(1000000, .box 75 (.val (.pair (.list (.int .u8)) (.int .i64)))), (600004, .box 29 (.val (.pair (.int .i64) (.pair (.int .i64) (.pair (.list (.agg (.pair (.int .i64) .str))) (.pair (.list (.agg (.pair (.int .i64) .str))) (.pair (.list (.agg (.pair (.int .i64) (.pair (.int .i64) (.pair (.int .i64) (.pair .str (.int .i64))))))) (.agg (.pair (.int .i64) (.int .i64)))))))))), (600005, .box 29 (.val (.pair (.int .i64) (.pair (.int .i64) (.pair (.list (.agg (.pair (.int .i64) .str))) (.pair (.list (.agg (.pair (.int .i64) .str))) (.pair (.list (.agg (.pair (.int .i64) (.pair (.int .i64) (.pair (.int .i64) (.pair .str (.int .i64))))))) (.agg (.pair (.int .i64) (.int .i64))))))))))]⟩)])]
    [] N 400 (bodyOf Try.f9) ⟨78, slots 0 (argsOf as_Picks_Feed bs_Picks_Feed x), tabU (lbOf as_Picks_Feed bs_Picks_Feed x) [], []⟩).elim (kRet 78 pout_Picks_Feed (kpL [true]) (lbOf as_Picks_Feed bs_Picks_Feed x))
def out_Picks_Feed (y : ((List Int) × Int) × Int × Int × (List (Int × List UInt8)) × (List (Int × List UInt8)) × (List (Int × Int × Int × (List UInt8) × Int)) × Int × Int) : V × List OK × List OK := (valW (.agg (.pair (.int .i64) (.pair (.int .i64) (.pair (.list (.agg (.pair (.int .i64) .str))) (.pair (.list (.agg (.pair (.int .i64) .str))) (.pair (.list (.agg (.pair (.int .i64) (.pair (.int .i64) (.pair (.int .i64) (.pair .str (.int .i64))))))) (.agg (.pair (.int .i64) (.int .i64))))))))) y.2, [.box 75 (cellsW (.pair (.list (.int .u8)) (.int .i64)) y.1)], [])
noncomputable def V_Picks_Feed (w_Picks_Num : Int × (List Int) × Int → Option (Int × (List Int) × Int)) (w_ref13_Begin : (Int × Int × (List (Int × List UInt8)) × (List (Int × List UInt8)) × (List (Int × Int × Int × (List UInt8) × Int)) × Int × Int) × Int → Option (Int × Int × (List (Int × List UInt8)) × (List (Int × List UInt8)) × (List (Int × Int × Int × (List UInt8) × Int)) × Int × Int)) (w_Picks_Over : (List Int) × Int → Option (Bool × (List Int) × Int)) (w_ref13_Notes : (Int × Int × (List (Int × List UInt8)) × (List (Int × List UInt8)) × (List (Int × Int × Int × (List UInt8) × Int)) × Int × Int) × Int × Int → Option (Int × Int × (List (Int × List UInt8)) × (List (Int × List UInt8)) × (List (Int × Int × Int × (List UInt8) × Int)) × Int × Int)) (w_ref13_Knows : (Int × Int × (List (Int × List UInt8)) × (List (Int × List UInt8)) × (List (Int × Int × Int × (List UInt8) × Int)) × Int × Int) × Int → Option (Int × Int × (List (Int × List UInt8)) × (List (Int × List UInt8)) × (List (Int × Int × Int × (List UInt8) × Int)) × Int × Int)) (w_ref13_Tick : (Int × Int × (List (Int × List UInt8)) × (List (Int × List UInt8)) × (List (Int × Int × Int × (List UInt8) × Int)) × Int × Int) × Int → Option (Bool × (Int × Int × (List (Int × List UInt8)) × (List (Int × List UInt8)) × (List (Int × Int × Int × (List UInt8) × Int)) × Int × Int) × Int × Int)) (w_Picks_Text : (List Int) × Int → Option ((List UInt8) × (List Int) × Int)) (w_ref13_Comes : (Int × Int × (List (Int × List UInt8)) × (List (Int × List UInt8)) × (List (Int × Int × Int × (List UInt8) × Int)) × Int × Int) × Int × List UInt8 → Option (Int × Int × (List (Int × List UInt8)) × (List (Int × List UInt8)) × (List (Int × Int × Int × (List UInt8) × Int)) × Int × Int)) (N : Nat) (x : Int × (List Int) × Int) : Option (((List Int) × Int) × Int × Int × (List (Int × List UInt8)) × (List (Int × List UInt8)) × (List (Int × Int × Int × (List UInt8) × Int)) × Int × Int) :=
  obind (w_Picks_Num ((5 : Int), x.2.1, x.2.2)) fun (b : Int × List Int × Int) => obind (w_ref13_Begin (((0 : Int), (0 : Int), [], [], [], (0 :
    Int), (0 : Int)), wr IntKind.i64 ((1 : Int) + b.1))) fun (b_1 : Int × Int × List (Int × List UInt8) × List (Int × List UInt8) × List (Int × Int ×
    Int × List UInt8 × Int) × Int × Int) => obind (loopN N (fun (v : Int × Int × (List Int × Int) × (Int × Int × List (Int × List UInt8) × List (Int ×
    List UInt8) × List (Int × Int × Int × List UInt8 × Int) × Int × Int) × Int × Int × List (Int × List UInt8) × List (Int × List UInt8) × List (Int ×
    Int × Int × List UInt8 × Int) × Int × Int) => cnd (decide (v.2.1 < x.1)) (obind (w_Picks_Over (v.2.2.1.1, v.2.2.1.2)) fun (b : Bool × List Int ×
    Int) => cnd (!b.1) (obind (w_Picks_Num ((6 : Int), b.2.1, b.2.2)) fun (b : Int × List Int × Int) => cnd (decide (b.1 = (0 : Int))) (obind
    (w_Picks_Num ((3 : Int), b.2.1, b.2.2)) fun (b : Int × List Int × Int) => obind (w_Picks_Num ((4 : Int), b.2.1, b.2.2)) fun (b_2 : Int × List
    Int × Int) => obind (w_ref13_Notes ((v.2.2.2.2.1, v.2.2.2.2.2.1, v.2.2.2.2.2.2.1, v.2.2.2.2.2.2.2.1, v.2.2.2.2.2.2.2.2.1, v.2.2.2.2.2.2.2.2.2.1,
    v.2.2.2.2.2.2.2.2.2.2), max (1 : Int) (wr IntKind.i64 (wr IntKind.i64 (v.2.2.2.2.1 - (1 : Int)) + b.1)), wr IntKind.i64 (max (1 : Int) (wr
    IntKind.i64 (wr IntKind.i64 (v.2.2.2.2.1 - (1 : Int)) + b.1)) + b_2.1))) fun (b : Int × Int × List (Int × List UInt8) × List (Int × List UInt8) ×
    List (Int × Int × Int × List UInt8 × Int) × Int × Int) => some (Sum.inl (v.1, wr IntKind.i64 (v.2.1 + (1 : Int)), (b_2.2.1, b_2.2.2), (v.2.2.2.1.1,
    v.2.2.2.1.2.1, v.2.2.2.1.2.2.1, v.2.2.2.1.2.2.2.1, v.2.2.2.1.2.2.2.2.1, v.2.2.2.1.2.2.2.2.2.1, v.2.2.2.1.2.2.2.2.2.2), b.1, b.2.1, b.2.2.1,
    b.2.2.2.1, b.2.2.2.2.1, b.2.2.2.2.2.1, b.2.2.2.2.2.2))) (cnd (decide (b.1 = (1 : Int))) (obind (w_Picks_Num ((5 : Int), b.2.1, b.2.2)) fun (b :
    Int × List Int × Int) => obind (w_ref13_Knows ((v.2.2.2.2.1, v.2.2.2.2.2.1, v.2.2.2.2.2.2.1, v.2.2.2.2.2.2.2.1, v.2.2.2.2.2.2.2.2.1,
    v.2.2.2.2.2.2.2.2.2.1, v.2.2.2.2.2.2.2.2.2.2), wr IntKind.i64 (v.2.2.2.2.1 + b.1))) fun (b_2 : Int × Int × List (Int × List UInt8) × List (Int ×
    List UInt8) × List (Int × Int × Int × List UInt8 × Int) × Int × Int) => some (Sum.inl (v.1, wr IntKind.i64 (v.2.1 + (1 : Int)), (b.2.1, b.2.2),
    (v.2.2.2.1.1, v.2.2.2.1.2.1, v.2.2.2.1.2.2.1, v.2.2.2.1.2.2.2.1, v.2.2.2.1.2.2.2.2.1, v.2.2.2.1.2.2.2.2.2.1, v.2.2.2.1.2.2.2.2.2.2), b_2.1, b_2.2.1,
    b_2.2.2.1, b_2.2.2.2.1, b_2.2.2.2.2.1, b_2.2.2.2.2.2.1, b_2.2.2.2.2.2.2))) (cnd (decide (b.1 = (2 : Int))) (obind (w_Picks_Num ((6 : Int), b.2.1,
    b.2.2)) fun (b : Int × List Int × Int) => obind (w_ref13_Tick ((v.2.2.2.2.1, v.2.2.2.2.2.1, v.2.2.2.2.2.2.1, v.2.2.2.2.2.2.2.1,
    v.2.2.2.2.2.2.2.2.1, v.2.2.2.2.2.2.2.2.2.1, v.2.2.2.2.2.2.2.2.2.2), wr IntKind.i64 (wr IntKind.i64 (v.1 + (1 : Int)) + b.1))) fun (b_2 : Bool × (Int
    × Int × List (Int × List UInt8) × List (Int × List UInt8) × List (Int × Int × Int × List UInt8 × Int) × Int × Int) × Int × Int) => some (Sum.inl (wr
    IntKind.i64 (wr IntKind.i64 (v.1 + (1 : Int)) + b.1), wr IntKind.i64 (v.2.1 + (1 : Int)), (b.2.1, b.2.2), (v.2.2.2.1.1, v.2.2.2.1.2.1,
    v.2.2.2.1.2.2.1, v.2.2.2.1.2.2.2.1, v.2.2.2.1.2.2.2.2.1, v.2.2.2.1.2.2.2.2.2.1, v.2.2.2.1.2.2.2.2.2.2), b_2.2.1.1, b_2.2.1.2.1, b_2.2.1.2.2.1,
    b_2.2.1.2.2.2.1, b_2.2.1.2.2.2.2.1, b_2.2.1.2.2.2.2.2.1, b_2.2.1.2.2.2.2.2.2))) (obind (w_Picks_Num ((5 : Int), b.2.1, b.2.2)) fun (b : Int × List
    Int × Int) => obind (w_Picks_Text (b.2.1, b.2.2)) fun (b_2 : List UInt8 × List Int × Int) => obind (w_ref13_Comes ((v.2.2.2.2.1, v.2.2.2.2.2.1,
    v.2.2.2.2.2.2.1, v.2.2.2.2.2.2.2.1, v.2.2.2.2.2.2.2.2.1, v.2.2.2.2.2.2.2.2.2.1, v.2.2.2.2.2.2.2.2.2.2), max (1 : Int) (wr IntKind.i64 (wr
    IntKind.i64 (v.2.2.2.2.1 - (1 : Int)) + b.1)), b_2.1)) fun (b : Int × Int × List (Int × List UInt8) × List (Int × List UInt8) × List (Int × Int ×
    Int × List UInt8 × Int) × Int × Int) => some (Sum.inl (v.1, wr IntKind.i64 (v.2.1 + (1 : Int)), (b_2.2.1, b_2.2.2), (v.2.2.2.1.1, v.2.2.2.1.2.1,
    v.2.2.2.1.2.2.1, v.2.2.2.1.2.2.2.1, v.2.2.2.1.2.2.2.2.1, v.2.2.2.1.2.2.2.2.2.1, v.2.2.2.1.2.2.2.2.2.2), b.1, b.2.1, b.2.2.1, b.2.2.2.1, b.2.2.2.2.1,
    b.2.2.2.2.2.1, b.2.2.2.2.2.2)))))) (some (Sum.inr ((b.2.1, b.2.2), (v.2.2.2.1.1, v.2.2.2.1.2.1, v.2.2.2.1.2.2.1, v.2.2.2.1.2.2.2.1,
    v.2.2.2.1.2.2.2.2.1, v.2.2.2.1.2.2.2.2.2.1, v.2.2.2.1.2.2.2.2.2.2), v.2.2.2.2.1, v.2.2.2.2.2.1, v.2.2.2.2.2.2.1, v.2.2.2.2.2.2.2.1,
    v.2.2.2.2.2.2.2.2.1, v.2.2.2.2.2.2.2.2.2.1, v.2.2.2.2.2.2.2.2.2.2)))) (some (Sum.inr ((v.2.2.1.1, v.2.2.1.2), (v.2.2.2.1.1, v.2.2.2.1.2.1,
    v.2.2.2.1.2.2.1, v.2.2.2.1.2.2.2.1, v.2.2.2.1.2.2.2.2.1, v.2.2.2.1.2.2.2.2.2.1, v.2.2.2.1.2.2.2.2.2.2), v.2.2.2.2.1, v.2.2.2.2.2.1, v.2.2.2.2.2.2.1,
    v.2.2.2.2.2.2.2.1, v.2.2.2.2.2.2.2.2.1, v.2.2.2.2.2.2.2.2.2.1, v.2.2.2.2.2.2.2.2.2.2)))) ((0 : Int), (0 : Int), (b.2.1, b.2.2), ((0 : Int), (0 :
    Int), [], [], [], (0 : Int), (0 : Int)), b_1.1, b_1.2.1, b_1.2.2.1, b_1.2.2.2.1, b_1.2.2.2.2.1, b_1.2.2.2.2.2.1, b_1.2.2.2.2.2.2)) fun (b : (List
    Int × Int) × (Int × Int × List (Int × List UInt8) × List (Int × List UInt8) × List (Int × Int × Int × List UInt8 × Int) × Int × Int) × Int × Int ×
    List (Int × List UInt8) × List (Int × List UInt8) × List (Int × Int × Int × List UInt8 × Int) × Int × Int) => some ((b.1.1, b.1.2), b.2.2.1,
    b.2.2.2.1, b.2.2.2.2.1, b.2.2.2.2.2.1, b.2.2.2.2.2.2.1, b.2.2.2.2.2.2.2.1, b.2.2.2.2.2.2.2.2)
theorem FV_Picks_Feed_eq (w_Picks_Num : Int × (List Int) × Int → Option (Int × (List Int) × Int)) (w_ref13_Begin : (Int × Int × (List (Int × List UInt8)) × (List (Int × List UInt8)) × (List (Int × Int × Int × (List UInt8) × Int)) × Int × Int) × Int → Option (Int × Int × (List (Int × List UInt8)) × (List (Int × List UInt8)) × (List (Int × Int × Int × (List UInt8) × Int)) × Int × Int)) (w_Picks_Over : (List Int) × Int → Option (Bool × (List Int) × Int)) (w_ref13_Notes : (Int × Int × (List (Int × List UInt8)) × (List (Int × List UInt8)) × (List (Int × Int × Int × (List UInt8) × Int)) × Int × Int) × Int × Int → Option (Int × Int × (List (Int × List UInt8)) × (List (Int × List UInt8)) × (List (Int × Int × Int × (List UInt8) × Int)) × Int × Int)) (w_ref13_Knows : (Int × Int × (List (Int × List UInt8)) × (List (Int × List UInt8)) × (List (Int × Int × Int × (List UInt8) × Int)) × Int × Int) × Int → Option (Int × Int × (List (Int × List UInt8)) × (List (Int × List UInt8)) × (List (Int × Int × Int × (List UInt8) × Int)) × Int × Int)) (w_ref13_Tick : (Int × Int × (List (Int × List UInt8)) × (List (Int × List UInt8)) × (List (Int × Int × Int × (List UInt8) × Int)) × Int × Int) × Int → Option (Bool × (Int × Int × (List (Int × List UInt8)) × (List (Int × List UInt8)) × (List (Int × Int × Int × (List UInt8) × Int)) × Int × Int) × Int × Int)) (w_Picks_Text : (List Int) × Int → Option ((List UInt8) × (List Int) × Int)) (w_ref13_Comes : (Int × Int × (List (Int × List UInt8)) × (List (Int × List UInt8)) × (List (Int × Int × Int × (List UInt8) × Int)) × Int × Int) × Int × List UInt8 → Option (Int × Int × (List (Int × List UInt8)) × (List (Int × List UInt8)) × (List (Int × Int × Int × (List UInt8) × Int)) × Int × Int)) (N : Nat) (x : Int × (List Int) × Int) : F_Picks_Feed w_Picks_Num w_ref13_Begin w_Picks_Over w_ref13_Notes w_ref13_Knows w_ref13_Tick w_Picks_Text w_ref13_Comes N x = V_Picks_Feed w_Picks_Num w_ref13_Begin w_Picks_Over w_ref13_Notes w_ref13_Knows w_ref13_Tick w_Picks_Text w_ref13_Comes N x := by kernel_rfl
noncomputable def W_Picks_Feed (N : Nat) (x : Int × (List Int) × Int) : Option (((List Int) × Int) × Int × Int × (List (Int × List UInt8)) × (List (Int × List UInt8)) × (List (Int × Int × Int × (List UInt8) × Int)) × Int × Int) :=
  obind (W_Picks_Num N ((5 : Int), x.2.1, x.2.2)) fun (b : Int × List Int × Int) => obind (W_ref13_Begin N (((0 : Int), (0 : Int), [], [], [], (0 :
    Int), (0 : Int)), wr IntKind.i64 ((1 : Int) + b.1))) fun (b_1 : Int × Int × List (Int × List UInt8) × List (Int × List UInt8) × List (Int × Int ×
    Int × List UInt8 × Int) × Int × Int) => obind (loopN N (fun (v : Int × Int × (List Int × Int) × (Int × Int × List (Int × List UInt8) × List (Int ×
    List UInt8) × List (Int × Int × Int × List UInt8 × Int) × Int × Int) × Int × Int × List (Int × List UInt8) × List (Int × List UInt8) × List (Int ×
    Int × Int × List UInt8 × Int) × Int × Int) => cnd (decide (v.2.1 < x.1)) (obind (W_Picks_Over N (v.2.2.1.1, v.2.2.1.2)) fun (b : Bool × List Int ×
    Int) => cnd (!b.1) (obind (W_Picks_Num N ((6 : Int), b.2.1, b.2.2)) fun (b : Int × List Int × Int) => cnd (decide (b.1 = (0 : Int))) (obind
    (W_Picks_Num N ((3 : Int), b.2.1, b.2.2)) fun (b : Int × List Int × Int) => obind (W_Picks_Num N ((4 : Int), b.2.1, b.2.2)) fun (b_2 : Int × List
    Int × Int) => obind (W_ref13_Notes N ((v.2.2.2.2.1, v.2.2.2.2.2.1, v.2.2.2.2.2.2.1, v.2.2.2.2.2.2.2.1, v.2.2.2.2.2.2.2.2.1, v.2.2.2.2.2.2.2.2.2.1,
    v.2.2.2.2.2.2.2.2.2.2), max (1 : Int) (wr IntKind.i64 (wr IntKind.i64 (v.2.2.2.2.1 - (1 : Int)) + b.1)), wr IntKind.i64 (max (1 : Int) (wr
    IntKind.i64 (wr IntKind.i64 (v.2.2.2.2.1 - (1 : Int)) + b.1)) + b_2.1))) fun (b : Int × Int × List (Int × List UInt8) × List (Int × List UInt8) ×
    List (Int × Int × Int × List UInt8 × Int) × Int × Int) => some (Sum.inl (v.1, wr IntKind.i64 (v.2.1 + (1 : Int)), (b_2.2.1, b_2.2.2), (v.2.2.2.1.1,
    v.2.2.2.1.2.1, v.2.2.2.1.2.2.1, v.2.2.2.1.2.2.2.1, v.2.2.2.1.2.2.2.2.1, v.2.2.2.1.2.2.2.2.2.1, v.2.2.2.1.2.2.2.2.2.2), b.1, b.2.1, b.2.2.1,
    b.2.2.2.1, b.2.2.2.2.1, b.2.2.2.2.2.1, b.2.2.2.2.2.2))) (cnd (decide (b.1 = (1 : Int))) (obind (W_Picks_Num N ((5 : Int), b.2.1, b.2.2)) fun (b :
    Int × List Int × Int) => obind (W_ref13_Knows N ((v.2.2.2.2.1, v.2.2.2.2.2.1, v.2.2.2.2.2.2.1, v.2.2.2.2.2.2.2.1, v.2.2.2.2.2.2.2.2.1,
    v.2.2.2.2.2.2.2.2.2.1, v.2.2.2.2.2.2.2.2.2.2), wr IntKind.i64 (v.2.2.2.2.1 + b.1))) fun (b_2 : Int × Int × List (Int × List UInt8) × List (Int ×
    List UInt8) × List (Int × Int × Int × List UInt8 × Int) × Int × Int) => some (Sum.inl (v.1, wr IntKind.i64 (v.2.1 + (1 : Int)), (b.2.1, b.2.2),
    (v.2.2.2.1.1, v.2.2.2.1.2.1, v.2.2.2.1.2.2.1, v.2.2.2.1.2.2.2.1, v.2.2.2.1.2.2.2.2.1, v.2.2.2.1.2.2.2.2.2.1, v.2.2.2.1.2.2.2.2.2.2), b_2.1, b_2.2.1,
    b_2.2.2.1, b_2.2.2.2.1, b_2.2.2.2.2.1, b_2.2.2.2.2.2.1, b_2.2.2.2.2.2.2))) (cnd (decide (b.1 = (2 : Int))) (obind (W_Picks_Num N ((6 : Int), b.2.1,
    b.2.2)) fun (b : Int × List Int × Int) => obind (W_ref13_Tick N ((v.2.2.2.2.1, v.2.2.2.2.2.1, v.2.2.2.2.2.2.1, v.2.2.2.2.2.2.2.1,
    v.2.2.2.2.2.2.2.2.1, v.2.2.2.2.2.2.2.2.2.1, v.2.2.2.2.2.2.2.2.2.2), wr IntKind.i64 (wr IntKind.i64 (v.1 + (1 : Int)) + b.1))) fun (b_2 : Bool × (Int
    × Int × List (Int × List UInt8) × List (Int × List UInt8) × List (Int × Int × Int × List UInt8 × Int) × Int × Int) × Int × Int) => some (Sum.inl (wr
    IntKind.i64 (wr IntKind.i64 (v.1 + (1 : Int)) + b.1), wr IntKind.i64 (v.2.1 + (1 : Int)), (b.2.1, b.2.2), (v.2.2.2.1.1, v.2.2.2.1.2.1,
    v.2.2.2.1.2.2.1, v.2.2.2.1.2.2.2.1, v.2.2.2.1.2.2.2.2.1, v.2.2.2.1.2.2.2.2.2.1, v.2.2.2.1.2.2.2.2.2.2), b_2.2.1.1, b_2.2.1.2.1, b_2.2.1.2.2.1,
    b_2.2.1.2.2.2.1, b_2.2.1.2.2.2.2.1, b_2.2.1.2.2.2.2.2.1, b_2.2.1.2.2.2.2.2.2))) (obind (W_Picks_Num N ((5 : Int), b.2.1, b.2.2)) fun (b : Int × List
    Int × Int) => obind (W_Picks_Text N (b.2.1, b.2.2)) fun (b_2 : List UInt8 × List Int × Int) => obind (W_ref13_Comes N ((v.2.2.2.2.1, v.2.2.2.2.2.1,
    v.2.2.2.2.2.2.1, v.2.2.2.2.2.2.2.1, v.2.2.2.2.2.2.2.2.1, v.2.2.2.2.2.2.2.2.2.1, v.2.2.2.2.2.2.2.2.2.2), max (1 : Int) (wr IntKind.i64 (wr
    IntKind.i64 (v.2.2.2.2.1 - (1 : Int)) + b.1)), b_2.1)) fun (b : Int × Int × List (Int × List UInt8) × List (Int × List UInt8) × List (Int × Int ×
    Int × List UInt8 × Int) × Int × Int) => some (Sum.inl (v.1, wr IntKind.i64 (v.2.1 + (1 : Int)), (b_2.2.1, b_2.2.2), (v.2.2.2.1.1, v.2.2.2.1.2.1,
    v.2.2.2.1.2.2.1, v.2.2.2.1.2.2.2.1, v.2.2.2.1.2.2.2.2.1, v.2.2.2.1.2.2.2.2.2.1, v.2.2.2.1.2.2.2.2.2.2), b.1, b.2.1, b.2.2.1, b.2.2.2.1, b.2.2.2.2.1,
    b.2.2.2.2.2.1, b.2.2.2.2.2.2)))))) (some (Sum.inr ((b.2.1, b.2.2), (v.2.2.2.1.1, v.2.2.2.1.2.1, v.2.2.2.1.2.2.1, v.2.2.2.1.2.2.2.1,
    v.2.2.2.1.2.2.2.2.1, v.2.2.2.1.2.2.2.2.2.1, v.2.2.2.1.2.2.2.2.2.2), v.2.2.2.2.1, v.2.2.2.2.2.1, v.2.2.2.2.2.2.1, v.2.2.2.2.2.2.2.1,
    v.2.2.2.2.2.2.2.2.1, v.2.2.2.2.2.2.2.2.2.1, v.2.2.2.2.2.2.2.2.2.2)))) (some (Sum.inr ((v.2.2.1.1, v.2.2.1.2), (v.2.2.2.1.1, v.2.2.2.1.2.1,
    v.2.2.2.1.2.2.1, v.2.2.2.1.2.2.2.1, v.2.2.2.1.2.2.2.2.1, v.2.2.2.1.2.2.2.2.2.1, v.2.2.2.1.2.2.2.2.2.2), v.2.2.2.2.1, v.2.2.2.2.2.1, v.2.2.2.2.2.2.1,
    v.2.2.2.2.2.2.2.1, v.2.2.2.2.2.2.2.2.1, v.2.2.2.2.2.2.2.2.2.1, v.2.2.2.2.2.2.2.2.2.2)))) ((0 : Int), (0 : Int), (b.2.1, b.2.2), ((0 : Int), (0 :
    Int), [], [], [], (0 : Int), (0 : Int)), b_1.1, b_1.2.1, b_1.2.2.1, b_1.2.2.2.1, b_1.2.2.2.2.1, b_1.2.2.2.2.2.1, b_1.2.2.2.2.2.2)) fun (b : (List
    Int × Int) × (Int × Int × List (Int × List UInt8) × List (Int × List UInt8) × List (Int × Int × Int × List UInt8 × Int) × Int × Int) × Int × Int ×
    List (Int × List UInt8) × List (Int × List UInt8) × List (Int × Int × Int × List UInt8 × Int) × Int × Int) => some ((b.1.1, b.1.2), b.2.2.1,
    b.2.2.2.1, b.2.2.2.2.1, b.2.2.2.2.2.1, b.2.2.2.2.2.2.1, b.2.2.2.2.2.2.2.1, b.2.2.2.2.2.2.2.2)
theorem F_Picks_Feed_eq (N : Nat) (x : Int × (List Int) × Int) : F_Picks_Feed (W_Picks_Num N) (W_ref13_Begin N) (W_Picks_Over N) (W_ref13_Notes N) (W_ref13_Knows N) (W_ref13_Tick N) (W_Picks_Text N) (W_ref13_Comes N) N x = W_Picks_Feed N x := (FV_Picks_Feed_eq (W_Picks_Num N) (W_ref13_Begin N) (W_Picks_Over N) (W_ref13_Notes N) (W_ref13_Knows N) (W_ref13_Tick N) (W_Picks_Text N) (W_ref13_Comes N) N x).trans (by kernel_rfl)
noncomputable def conw_Picks_Feed (w : Int × (List Int) × Int → Option (((List Int) × Int) × Int × Int × (List (Int × List UInt8)) × (List (Int × List UInt8)) × (List (Int × Int × Int × (List UInt8) × Int)) × Int × Int)) : Con := ⟨9, as_Picks_Feed, bs_Picks_Feed, ((List Int) × Int) × Int × Int × (List (Int × List UInt8)) × (List (Int × List UInt8)) × (List (Int × Int × Int × (List UInt8) × Int)) × Int × Int, w, out_Picks_Feed⟩
noncomputable def con_Picks_Feed (N : Nat) : Con := conw_Picks_Feed (W_Picks_Feed N)
theorem R_Picks_Feed_eq (x : Int × (List Int) × Int) (y : ((List Int) × Int) × Int × Int × (List (Int × List UInt8)) × (List (Int × List UInt8)) × (List (Int × Int × Int × (List UInt8) × Int)) × Int × Int) : retOf2 P0 Try.f9 (kpL [true]) (lbOf as_Picks_Feed bs_Picks_Feed x) (patS ⟨78, [], [], []⟩ pout_Picks_Feed y) = some (out_Picks_Feed y) := by kernel_rfl
theorem con_Picks_Feed_ok (N : Nat) : Con.ok P0 (con_Picks_Feed N) := ⟨⟨Try.f9, Try.func9, by kernel_rfl, by kernel_rfl⟩, fun (x : Int × (List Int) × Int) (r : ((List Int) × Int) × Int × Int × (List (Int × List UInt8)) × (List (Int × List UInt8)) × (List (Int × Int × Int × (List UInt8) × Int)) × Int × Int) (hr : W_Picks_Feed N x = some r) =>
  spec2_evT (Γ := G_Picks_Feed (W_Picks_Num N) (W_ref13_Begin N) (W_Picks_Over N) (W_ref13_Notes N) (W_ref13_Knows N) (W_ref13_Tick N) (W_Picks_Text N) (W_ref13_Comes N) N) (Λ := L0) (pout := pout_Picks_Feed) (kp := kpL [true]) mixed (orcOf_ok _ (by simp only [List.mem_cons, List.not_mem_nil, or_false, forall_eq_or_imp, forall_eq]; exact ⟨con_Picks_Num_ok N, con_ref13_Begin_ok N, con_Picks_Over_ok N, con_ref13_Notes_ok N, con_ref13_Knows_ok N, con_ref13_Tick_ok N, con_Picks_Text_ok N, con_ref13_Comes_ok N⟩)) Try.func9 (c := bodyOf Try.f9) (by kernel_rfl) (by kernel_rfl) (of_decide_eq_true (by kernel_rfl)) ((F_Picks_Feed_eq N x).trans hr) (R_Picks_Feed_eq x r)⟩
def as_ring_find : List AS := [.val (.list (.agg (.pair (.int .i64) .str))), .val (.int .i64)]
def bs_ring_find : List BS := []
def pout_ring_find : Pat := ⟨[(4, .val (.alt 119 .str (.alt1 149 (.agg .unit))))], []⟩
noncomputable def G_ring_find  (N : Nat) : OrcT := orcOf []
noncomputable def F_ring_find  (N : Nat) (x : (List (Int × List UInt8)) × Int) : Option ((List UInt8) ⊕ Unit) :=
  (evT (G_ring_find  N) L0 P0 [(2, .loop [7] ⟨[(9, .val (.int .i64))], []⟩ [(.exit 0, ⟨[], []⟩), (.ret, ⟨[(4, .val (.alt 119 .str (.alt1 149 (.agg .unit))))], []⟩)])]
    [] N 400 (bodyOf Try.f84) ⟨23, slots 0 (argsOf as_ring_find bs_ring_find x), tabU (lbOf as_ring_find bs_ring_find x) [], []⟩).elim (kRet 23 pout_ring_find (kpL []) (lbOf as_ring_find bs_ring_find x))
def out_ring_find (y : (List UInt8) ⊕ Unit) : V × List OK × List OK := (valW (.alt 119 .str (.alt1 149 (.agg .unit))) y, [], [])
noncomputable def V_ring_find  (N : Nat) (x : (List (Int × List UInt8)) × Int) : Option ((List UInt8) ⊕ Unit) :=
  obind (loopN N (fun (v : Int) => cnd (decide (v < (↑(List.length x.1) : Int))) (cnd (decide ((0 : Int) ≤ v) && decide (v < (↑(List.length x.1) :
    Int))) (cnd (decide (Prod.fst (List.getD x.1 (Int.toNat v) ((0 : Int), [])) = x.2)) (some (Sum.inr (Sum.inr (Sum.inl (Prod.snd (List.getD x.1
    (Int.toNat v) ((0 : Int), []))))))) (some (Sum.inl (wr IntKind.i64 (v + (1 : Int)))))) none) (some (Sum.inr (Sum.inl ())))) (Int.ofNat (0 : Nat)))
    fun (b : PUnit ⊕ List UInt8 ⊕ PUnit) => selim (fun (b : PUnit) => some (Sum.inr ())) (fun (c : List UInt8 ⊕ PUnit) => some c) b
theorem FV_ring_find_eq  (N : Nat) (x : (List (Int × List UInt8)) × Int) : F_ring_find  N x = V_ring_find  N x := by kernel_rfl
noncomputable def W_ring_find (N : Nat) (x : (List (Int × List UInt8)) × Int) : Option ((List UInt8) ⊕ Unit) :=
  obind (loopN N (fun (v : Int) => cnd (decide (v < (↑(List.length x.1) : Int))) (cnd (decide ((0 : Int) ≤ v) && decide (v < (↑(List.length x.1) :
    Int))) (cnd (decide (Prod.fst (List.getD x.1 (Int.toNat v) ((0 : Int), [])) = x.2)) (some (Sum.inr (Sum.inr (Sum.inl (Prod.snd (List.getD x.1
    (Int.toNat v) ((0 : Int), []))))))) (some (Sum.inl (wr IntKind.i64 (v + (1 : Int)))))) none) (some (Sum.inr (Sum.inl ())))) (Int.ofNat (0 : Nat)))
    fun (b : PUnit ⊕ List UInt8 ⊕ PUnit) => selim (fun (b : PUnit) => some (Sum.inr ())) (fun (c : List UInt8 ⊕ PUnit) => some c) b
theorem F_ring_find_eq (N : Nat) (x : (List (Int × List UInt8)) × Int) : F_ring_find  N x = W_ring_find N x := (FV_ring_find_eq  N x).trans (by kernel_rfl)
noncomputable def conw_ring_find (w : (List (Int × List UInt8)) × Int → Option ((List UInt8) ⊕ Unit)) : Con := ⟨84, as_ring_find, bs_ring_find, (List UInt8) ⊕ Unit, w, out_ring_find⟩
noncomputable def con_ring_find (N : Nat) : Con := conw_ring_find (W_ring_find N)
theorem R_ring_find_eq (x : (List (Int × List UInt8)) × Int) (y : (List UInt8) ⊕ Unit) : retOf2 P0 Try.f84 (kpL []) (lbOf as_ring_find bs_ring_find x) (patS ⟨23, [], [], []⟩ pout_ring_find y) = some (out_ring_find y) := by kernel_rfl
theorem con_ring_find_ok (N : Nat) : Con.ok P0 (con_ring_find N) := ⟨⟨Try.f84, Try.func84, by kernel_rfl, by kernel_rfl⟩, fun (x : (List (Int × List UInt8)) × Int) (r : (List UInt8) ⊕ Unit) (hr : W_ring_find N x = some r) =>
  spec2_evT (Γ := G_ring_find N) (Λ := L0) (pout := pout_ring_find) (kp := kpL []) mixed (orcOf_ok [] (by simp)) Try.func84 (c := bodyOf Try.f84) (by kernel_rfl) (by kernel_rfl) (of_decide_eq_true (by kernel_rfl)) ((F_ring_find_eq N x).trans hr) (R_ring_find_eq x r)⟩
def as_ring_Get : List AS := [.val (.list (.agg (.pair (.int .i64) .str))), .val (.int .i64)]
def bs_ring_Get : List BS := []
def pout_ring_Get : Pat := ⟨[(4, .val .str), (5, .val .bool)], []⟩
noncomputable def G_ring_Get (w_ring_find : (List (Int × List UInt8)) × Int → Option ((List UInt8) ⊕ Unit)) (N : Nat) : OrcT := orcOf [conw_ring_find w_ring_find]
noncomputable def F_ring_Get (w_ring_find : (List (Int × List UInt8)) × Int → Option ((List UInt8) ⊕ Unit)) (N : Nat) (x : (List (Int × List UInt8)) × Int) : Option ((List UInt8) × Bool) :=
  (evT (G_ring_Get w_ring_find N) L0 P0 []
    [] N 400 (bodyOf Try.f37) ⟨17, slots 0 (argsOf as_ring_Get bs_ring_Get x), tabU (lbOf as_ring_Get bs_ring_Get x) [], []⟩).elim (kRet 17 pout_ring_Get (kpL []) (lbOf as_ring_Get bs_ring_Get x))
def out_ring_Get (y : (List UInt8) × Bool) : V × List OK × List OK := (.tup [valW .str y.1, valW .bool y.2], [], [])
noncomputable def V_ring_Get (w_ring_find : (List (Int × List UInt8)) × Int → Option ((List UInt8) ⊕ Unit)) (N : Nat) (x : (List (Int × List UInt8)) × Int) : Option ((List UInt8) × Bool) :=
  obind (w_ring_find (x.1, x.2)) fun (b : List UInt8 ⊕ PUnit) =>
    selim (fun (b : List UInt8) => some (b, true)) (fun (c : PUnit) => some ([], false)) b
theorem FV_ring_Get_eq (w_ring_find : (List (Int × List UInt8)) × Int → Option ((List UInt8) ⊕ Unit)) (N : Nat) (x : (List (Int × List UInt8)) × Int) : F_ring_Get w_ring_find N x = V_ring_Get w_ring_find N x := by kernel_rfl
noncomputable def W_ring_Get (N : Nat) (x : (List (Int × List UInt8)) × Int) : Option ((List UInt8) × Bool) :=
  obind (W_ring_find N (x.1, x.2)) fun (b : List UInt8 ⊕ PUnit) =>
    selim (fun (b : List UInt8) => some (b, true)) (fun (c : PUnit) => some ([], false)) b
theorem F_ring_Get_eq (N : Nat) (x : (List (Int × List UInt8)) × Int) : F_ring_Get (W_ring_find N) N x = W_ring_Get N x := (FV_ring_Get_eq (W_ring_find N) N x).trans (by kernel_rfl)
noncomputable def conw_ring_Get (w : (List (Int × List UInt8)) × Int → Option ((List UInt8) × Bool)) : Con := ⟨37, as_ring_Get, bs_ring_Get, (List UInt8) × Bool, w, out_ring_Get⟩
noncomputable def con_ring_Get (N : Nat) : Con := conw_ring_Get (W_ring_Get N)
theorem R_ring_Get_eq (x : (List (Int × List UInt8)) × Int) (y : (List UInt8) × Bool) : retOf2 P0 Try.f37 (kpL []) (lbOf as_ring_Get bs_ring_Get x) (patS ⟨17, [], [], []⟩ pout_ring_Get y) = some (out_ring_Get y) := by kernel_rfl
theorem con_ring_Get_ok (N : Nat) : Con.ok P0 (con_ring_Get N) := ⟨⟨Try.f37, Try.func37, by kernel_rfl, by kernel_rfl⟩, fun (x : (List (Int × List UInt8)) × Int) (r : (List UInt8) × Bool) (hr : W_ring_Get N x = some r) =>
  spec2_evT (Γ := G_ring_Get (W_ring_find N) N) (Λ := L0) (pout := pout_ring_Get) (kp := kpL []) mixed (orcOf_ok _ (by simp only [List.mem_cons, List.not_mem_nil, or_false, forall_eq_or_imp, forall_eq]; exact con_ring_find_ok N)) Try.func37 (c := bodyOf Try.f37) (by kernel_rfl) (by kernel_rfl) (of_decide_eq_true (by kernel_rfl)) ((F_ring_Get_eq N x).trans hr) (R_ring_Get_eq x r)⟩
def as_nak_Serves : List AS := [.val (.agg (.pair (.int .i64) (.pair (.int .i64) (.pair (.list (.agg (.pair (.int .i64) .str))) (.pair (.list (.agg (.pair (.int .i64) .str))) (.pair (.list (.agg (.pair (.int .i64) (.pair (.int .i64) (.pair (.int .i64) (.pair .str (.int .i64))))))) (.agg (.pair (.int .i64) (.int .i64))))))))), .val (.int .i64), .val (.int .i64)]
def bs_nak_Serves : List BS := []
def pout_nak_Serves : Pat := ⟨[(6, .val (.list (.agg (.pair (.int .i64) .str)))), (7, .val (.list (.agg (.pair (.int .i64) (.int .i64)))))], []⟩
noncomputable def G_nak_Serves (w_ring_Get : (List (Int × List UInt8)) × Int → Option ((List UInt8) × Bool)) (N : Nat) : OrcT := orcOf [conw_ring_Get w_ring_Get]
noncomputable def F_nak_Serves (w_ring_Get : (List (Int × List UInt8)) × Int → Option ((List UInt8) × Bool)) (N : Nat) (x : (Int × Int × (List (Int × List UInt8)) × (List (Int × List UInt8)) × (List (Int × Int × Int × (List UInt8) × Int)) × Int × Int) × Int × Int) : Option ((List (Int × List UInt8)) × List (Int × Int)) :=
  (evT (G_nak_Serves w_ring_Get N) L0 P0 [(4, .loop [] ⟨[(3, .ptr 600003 0), (6, .acc 700006), (7, .acc 700007), (8, .val (.int .i64))], [(600003, .box 29 (.val (.pair (.int .i64) (.pair (.int .i64) (.pair (.list (.agg (.pair (.int .i64) .str))) (.pair (.list (.agg (.pair (.int .i64) .str))) (.pair (.list (.agg (.pair (.int .i64) (.pair (.int .i64) (.pair (.int .i64) (.pair .str (.int .i64))))))) (.agg (.pair (.int .i64) (.int .i64)))))))))), (700006, .nrow 40 (.agg (.pair (.int .i64) .str)) true true), (700007, .nrow 67 (.agg (.pair (.int .i64) (.int .i64))) false true)]⟩ [(.exit 0, ⟨[(6, .val (.list (.agg (.pair (.int .i64) .str)))), (7, .val (.list (.agg (.pair (.int .i64) (.int .i64)))))], []⟩)])]
    [] N 400 (bodyOf Try.f10) ⟨70, slots 0 (argsOf as_nak_Serves bs_nak_Serves x), tabU (lbOf as_nak_Serves bs_nak_Serves x) [], []⟩).elim (kRet 70 pout_nak_Serves (kpL []) (lbOf as_nak_Serves bs_nak_Serves x))
def out_nak_Serves (y : (List (Int × List UInt8)) × List (Int × Int)) : V × List OK × List OK := (.tup [valW (.list (.agg (.pair (.int .i64) .str))) y.1, valW (.list (.agg (.pair (.int .i64) (.int .i64)))) y.2], [], [])
noncomputable def V_nak_Serves (w_ring_Get : (List (Int × List UInt8)) × Int → Option ((List UInt8) × Bool)) (N : Nat) (x : (Int × Int × (List (Int × List UInt8)) × (List (Int × List UInt8)) × (List (Int × Int × Int × (List UInt8) × Int)) × Int × Int) × Int × Int) : Option ((List (Int × List UInt8)) × List (Int × Int)) :=
  cnd (decide (x.1.1 < (1 : Int))) (some ([], [])) (obind (loopN N (fun (v : Int × (Int × Int × List (Int × List UInt8) × List (Int × List UInt8) × List
    (Int × Int × Int × List UInt8 × Int) × Int × Int) × List (Int × List UInt8) × List (Int × Int)) => cnd (decide (v.1 ≤ min (min x.2.2 (wr IntKind.i64
    (v.2.1.1 - (1 : Int)))) (wr IntKind.i64 (wr IntKind.i64 (x.2.1 + (8 : Int)) - (1 : Int))))) (obind (w_ring_Get (v.2.1.2.2.1, v.1)) fun (b : List
    UInt8 × Bool) => cnd b.2 (cnd (decide ((List.length v.2.2.1 + List.length [(v.1, b.1)]) * (24 : Nat) ≤ (140737488355328 : Nat))) (some (Sum.inl (wr
    IntKind.i64 (v.1 + (1 : Int)), (v.2.1.1, v.2.1.2.1, v.2.1.2.2.1, v.2.1.2.2.2.1, v.2.1.2.2.2.2.1, v.2.1.2.2.2.2.2.1, v.2.1.2.2.2.2.2.2), v.2.2.1 ++
    [(v.1, b.1)], v.2.2.2))) none) (cnd (decide ((0 : Int) ≤ wr IntKind.i64 ((↑(List.length v.2.2.2) : Int) - (1 : Int)))) (cnd (decide ((0 : Int) ≤ wr
    IntKind.i64 ((↑(List.length v.2.2.2) : Int) - (1 : Int))) && decide (wr IntKind.i64 ((↑(List.length v.2.2.2) : Int) - (1 : Int)) < (↑(List.length
    v.2.2.2) : Int))) (cnd (decide (Prod.snd (List.getD v.2.2.2 (Int.toNat (wr IntKind.i64 ((↑(List.length v.2.2.2) : Int) - (1 : Int)))) ((0 : Int), (0
    : Int))) = wr IntKind.i64 (v.1 - (1 : Int)))) (cnd (decide ((0 : Int) ≤ wr IntKind.i64 ((↑(List.length v.2.2.2) : Int) - (1 : Int))) && decide (wr
    IntKind.i64 ((↑(List.length v.2.2.2) : Int) - (1 : Int)) < (↑(List.length v.2.2.2) : Int))) (some (Sum.inl (wr IntKind.i64 (v.1 + (1 : Int)),
    (v.2.1.1, v.2.1.2.1, v.2.1.2.2.1, v.2.1.2.2.2.1, v.2.1.2.2.2.2.1, v.2.1.2.2.2.2.2.1, v.2.1.2.2.2.2.2.2), v.2.2.1, putL v.2.2.2 [(Prod.fst (List.getD
    v.2.2.2 (Int.toNat (wr IntKind.i64 ((↑(List.length v.2.2.2) : Int) - (1 : Int)))) ((0 : Int), (0 : Int))), v.1)] (Int.toNat (wr IntKind.i64
    ((↑(List.length v.2.2.2) : Int) - (1 : Int))))))) none) (cnd (decide ((List.length v.2.2.2 + List.length [(v.1, v.1)]) * (16 : Nat) ≤
    (140737488355328 : Nat))) (some (Sum.inl (wr IntKind.i64 (v.1 + (1 : Int)), (v.2.1.1, v.2.1.2.1, v.2.1.2.2.1, v.2.1.2.2.2.1, v.2.1.2.2.2.2.1,
    v.2.1.2.2.2.2.2.1, v.2.1.2.2.2.2.2.2), v.2.2.1, v.2.2.2 ++ [(v.1, v.1)]))) none)) none) (cnd (decide ((List.length v.2.2.2 + List.length [(v.1,
    v.1)]) * (16 : Nat) ≤ (140737488355328 : Nat))) (some (Sum.inl (wr IntKind.i64 (v.1 + (1 : Int)), (v.2.1.1, v.2.1.2.1, v.2.1.2.2.1, v.2.1.2.2.2.1,
    v.2.1.2.2.2.2.1, v.2.1.2.2.2.2.2.1, v.2.1.2.2.2.2.2.2), v.2.2.1, v.2.2.2 ++ [(v.1, v.1)]))) none))) (some (Sum.inr (v.2.2.1, v.2.2.2)))) (x.2.1,
    (x.1.1, x.1.2.1, x.1.2.2.1, x.1.2.2.2.1, x.1.2.2.2.2.1, x.1.2.2.2.2.2.1, x.1.2.2.2.2.2.2), [], [])) fun (b : List (Int × List UInt8) × List (Int ×
    Int)) => some (b.1, b.2))
theorem FV_nak_Serves_eq (w_ring_Get : (List (Int × List UInt8)) × Int → Option ((List UInt8) × Bool)) (N : Nat) (x : (Int × Int × (List (Int × List UInt8)) × (List (Int × List UInt8)) × (List (Int × Int × Int × (List UInt8) × Int)) × Int × Int) × Int × Int) : F_nak_Serves w_ring_Get N x = V_nak_Serves w_ring_Get N x := by kernel_rfl
noncomputable def W_nak_Serves (N : Nat) (x : (Int × Int × (List (Int × List UInt8)) × (List (Int × List UInt8)) × (List (Int × Int × Int × (List UInt8) × Int)) × Int × Int) × Int × Int) : Option ((List (Int × List UInt8)) × List (Int × Int)) :=
  cnd (decide (x.1.1 < (1 : Int))) (some ([], [])) (obind (loopN N (fun (v : Int × (Int × Int × List (Int × List UInt8) × List (Int × List UInt8) × List
    (Int × Int × Int × List UInt8 × Int) × Int × Int) × List (Int × List UInt8) × List (Int × Int)) => cnd (decide (v.1 ≤ min (min x.2.2 (wr IntKind.i64
    (v.2.1.1 - (1 : Int)))) (wr IntKind.i64 (wr IntKind.i64 (x.2.1 + (8 : Int)) - (1 : Int))))) (obind (W_ring_Get N (v.2.1.2.2.1, v.1)) fun (b : List
    UInt8 × Bool) => cnd b.2 (cnd (decide ((List.length v.2.2.1 + List.length [(v.1, b.1)]) * (24 : Nat) ≤ (140737488355328 : Nat))) (some (Sum.inl (wr
    IntKind.i64 (v.1 + (1 : Int)), (v.2.1.1, v.2.1.2.1, v.2.1.2.2.1, v.2.1.2.2.2.1, v.2.1.2.2.2.2.1, v.2.1.2.2.2.2.2.1, v.2.1.2.2.2.2.2.2), v.2.2.1 ++
    [(v.1, b.1)], v.2.2.2))) none) (cnd (decide ((0 : Int) ≤ wr IntKind.i64 ((↑(List.length v.2.2.2) : Int) - (1 : Int)))) (cnd (decide ((0 : Int) ≤ wr
    IntKind.i64 ((↑(List.length v.2.2.2) : Int) - (1 : Int))) && decide (wr IntKind.i64 ((↑(List.length v.2.2.2) : Int) - (1 : Int)) < (↑(List.length
    v.2.2.2) : Int))) (cnd (decide (Prod.snd (List.getD v.2.2.2 (Int.toNat (wr IntKind.i64 ((↑(List.length v.2.2.2) : Int) - (1 : Int)))) ((0 : Int), (0
    : Int))) = wr IntKind.i64 (v.1 - (1 : Int)))) (cnd (decide ((0 : Int) ≤ wr IntKind.i64 ((↑(List.length v.2.2.2) : Int) - (1 : Int))) && decide (wr
    IntKind.i64 ((↑(List.length v.2.2.2) : Int) - (1 : Int)) < (↑(List.length v.2.2.2) : Int))) (some (Sum.inl (wr IntKind.i64 (v.1 + (1 : Int)),
    (v.2.1.1, v.2.1.2.1, v.2.1.2.2.1, v.2.1.2.2.2.1, v.2.1.2.2.2.2.1, v.2.1.2.2.2.2.2.1, v.2.1.2.2.2.2.2.2), v.2.2.1, putL v.2.2.2 [(Prod.fst (List.getD
    v.2.2.2 (Int.toNat (wr IntKind.i64 ((↑(List.length v.2.2.2) : Int) - (1 : Int)))) ((0 : Int), (0 : Int))), v.1)] (Int.toNat (wr IntKind.i64
    ((↑(List.length v.2.2.2) : Int) - (1 : Int))))))) none) (cnd (decide ((List.length v.2.2.2 + List.length [(v.1, v.1)]) * (16 : Nat) ≤
    (140737488355328 : Nat))) (some (Sum.inl (wr IntKind.i64 (v.1 + (1 : Int)), (v.2.1.1, v.2.1.2.1, v.2.1.2.2.1, v.2.1.2.2.2.1, v.2.1.2.2.2.2.1,
    v.2.1.2.2.2.2.2.1, v.2.1.2.2.2.2.2.2), v.2.2.1, v.2.2.2 ++ [(v.1, v.1)]))) none)) none) (cnd (decide ((List.length v.2.2.2 + List.length [(v.1,
    v.1)]) * (16 : Nat) ≤ (140737488355328 : Nat))) (some (Sum.inl (wr IntKind.i64 (v.1 + (1 : Int)), (v.2.1.1, v.2.1.2.1, v.2.1.2.2.1, v.2.1.2.2.2.1,
    v.2.1.2.2.2.2.1, v.2.1.2.2.2.2.2.1, v.2.1.2.2.2.2.2.2), v.2.2.1, v.2.2.2 ++ [(v.1, v.1)]))) none))) (some (Sum.inr (v.2.2.1, v.2.2.2)))) (x.2.1,
    (x.1.1, x.1.2.1, x.1.2.2.1, x.1.2.2.2.1, x.1.2.2.2.2.1, x.1.2.2.2.2.2.1, x.1.2.2.2.2.2.2), [], [])) fun (b : List (Int × List UInt8) × List (Int ×
    Int)) => some (b.1, b.2))
theorem F_nak_Serves_eq (N : Nat) (x : (Int × Int × (List (Int × List UInt8)) × (List (Int × List UInt8)) × (List (Int × Int × Int × (List UInt8) × Int)) × Int × Int) × Int × Int) : F_nak_Serves (W_ring_Get N) N x = W_nak_Serves N x := (FV_nak_Serves_eq (W_ring_Get N) N x).trans (by kernel_rfl)
noncomputable def conw_nak_Serves (w : (Int × Int × (List (Int × List UInt8)) × (List (Int × List UInt8)) × (List (Int × Int × Int × (List UInt8) × Int)) × Int × Int) × Int × Int → Option ((List (Int × List UInt8)) × List (Int × Int))) : Con := ⟨10, as_nak_Serves, bs_nak_Serves, (List (Int × List UInt8)) × List (Int × Int), w, out_nak_Serves⟩
noncomputable def con_nak_Serves (N : Nat) : Con := conw_nak_Serves (W_nak_Serves N)
theorem R_nak_Serves_eq (x : (Int × Int × (List (Int × List UInt8)) × (List (Int × List UInt8)) × (List (Int × Int × Int × (List UInt8) × Int)) × Int × Int) × Int × Int) (y : (List (Int × List UInt8)) × List (Int × Int)) : retOf2 P0 Try.f10 (kpL []) (lbOf as_nak_Serves bs_nak_Serves x) (patS ⟨70, [], [], []⟩ pout_nak_Serves y) = some (out_nak_Serves y) := by kernel_rfl
theorem con_nak_Serves_ok (N : Nat) : Con.ok P0 (con_nak_Serves N) := ⟨⟨Try.f10, Try.func10, by kernel_rfl, by kernel_rfl⟩, fun (x : (Int × Int × (List (Int × List UInt8)) × (List (Int × List UInt8)) × (List (Int × Int × Int × (List UInt8) × Int)) × Int × Int) × Int × Int) (r : (List (Int × List UInt8)) × List (Int × Int)) (hr : W_nak_Serves N x = some r) =>
  spec2_evT (Γ := G_nak_Serves (W_ring_Get N) N) (Λ := L0) (pout := pout_nak_Serves) (kp := kpL []) mixed (orcOf_ok _ (by simp only [List.mem_cons, List.not_mem_nil, or_false, forall_eq_or_imp, forall_eq]; exact con_ring_Get_ok N)) Try.func10 (c := bodyOf Try.f10) (by kernel_rfl) (by kernel_rfl) (of_decide_eq_true (by kernel_rfl)) ((F_nak_Serves_eq N x).trans hr) (R_nak_Serves_eq x r)⟩
def as_ref1_MaySpans : List AS := [.val (.list (.agg (.pair (.int .i64) (.int .i64))))]
def bs_ref1_MaySpans : List BS := []
def pout_ref1_MaySpans : Pat := ⟨[(2, .val .bool)], []⟩
noncomputable def G_ref1_MaySpans (w_ref1_MaySpan : Int × Int → Option (Bool)) (N : Nat) : OrcT := orcOf [conw_ref1_MaySpan w_ref1_MaySpan]
noncomputable def F_ref1_MaySpans (w_ref1_MaySpan : Int × Int → Option (Bool)) (N : Nat) (x : List (Int × Int)) : Option (Bool) :=
  (evT (G_ref1_MaySpans w_ref1_MaySpan N) L0 P0 [(2, .loop [] ⟨[(3, .val (.int .i64))], []⟩ [(.exit 0, ⟨[], []⟩), (.ret, ⟨[(2, .val .bool)], []⟩)])]
    [] N 400 (bodyOf Try.f11) ⟨35, slots 0 (argsOf as_ref1_MaySpans bs_ref1_MaySpans x), tabU (lbOf as_ref1_MaySpans bs_ref1_MaySpans x) [], []⟩).elim (kRet 35 pout_ref1_MaySpans (kpL []) (lbOf as_ref1_MaySpans bs_ref1_MaySpans x))
def out_ref1_MaySpans (y : Bool) : V × List OK × List OK := (valW .bool y, [], [])
noncomputable def V_ref1_MaySpans (w_ref1_MaySpan : Int × Int → Option (Bool)) (N : Nat) (x : List (Int × Int)) : Option (Bool) :=
  obind (loopN N (fun (v : Int) => cnd (decide (v < (↑(List.length x) : Int))) (cnd (decide ((0 : Int) ≤ v) && decide (v < (↑(List.length x) : Int)))
    (obind (w_ref1_MaySpan (Prod.fst (List.getD x (Int.toNat v) ((0 : Int), (0 : Int))), Prod.snd (List.getD x (Int.toNat v) ((0 : Int), (0 : Int)))))
    fun (b : Bool) => cnd (!b) (some (Sum.inr (Sum.inr false))) (cnd (decide ((0 : Int) < v)) (cnd (decide ((0 : Int) ≤ v) && decide (v < (↑(List.length
    x) : Int))) (cnd (decide ((0 : Int) ≤ wr IntKind.i64 (v - (1 : Int))) && decide (wr IntKind.i64 (v - (1 : Int)) < (↑(List.length x) : Int))) (cnd
    (decide (Prod.fst (List.getD x (Int.toNat v) ((0 : Int), (0 : Int))) ≤ wr IntKind.i64 (Prod.snd (List.getD x (Int.toNat (wr IntKind.i64 (v - (1 :
    Int)))) ((0 : Int), (0 : Int))) + (1 : Int)))) (some (Sum.inr (Sum.inr false))) (some (Sum.inl (wr IntKind.i64 (v + (1 : Int)))))) none) none) (some
    (Sum.inl (wr IntKind.i64 (v + (1 : Int))))))) none) (some (Sum.inr (Sum.inl ())))) (Int.ofNat (0 : Nat))) fun (b : PUnit ⊕ Bool) => selim (fun (b :
    PUnit) => some true) (fun (c : Bool) => some c) b
theorem FV_ref1_MaySpans_eq (w_ref1_MaySpan : Int × Int → Option (Bool)) (N : Nat) (x : List (Int × Int)) : F_ref1_MaySpans w_ref1_MaySpan N x = V_ref1_MaySpans w_ref1_MaySpan N x := by kernel_rfl
noncomputable def W_ref1_MaySpans (N : Nat) (x : List (Int × Int)) : Option (Bool) :=
  obind (loopN N (fun (v : Int) => cnd (decide (v < (↑(List.length x) : Int))) (cnd (decide ((0 : Int) ≤ v) && decide (v < (↑(List.length x) : Int)))
    (obind (W_ref1_MaySpan N (Prod.fst (List.getD x (Int.toNat v) ((0 : Int), (0 : Int))), Prod.snd (List.getD x (Int.toNat v) ((0 : Int), (0 : Int)))))
    fun (b : Bool) => cnd (!b) (some (Sum.inr (Sum.inr false))) (cnd (decide ((0 : Int) < v)) (cnd (decide ((0 : Int) ≤ v) && decide (v < (↑(List.length
    x) : Int))) (cnd (decide ((0 : Int) ≤ wr IntKind.i64 (v - (1 : Int))) && decide (wr IntKind.i64 (v - (1 : Int)) < (↑(List.length x) : Int))) (cnd
    (decide (Prod.fst (List.getD x (Int.toNat v) ((0 : Int), (0 : Int))) ≤ wr IntKind.i64 (Prod.snd (List.getD x (Int.toNat (wr IntKind.i64 (v - (1 :
    Int)))) ((0 : Int), (0 : Int))) + (1 : Int)))) (some (Sum.inr (Sum.inr false))) (some (Sum.inl (wr IntKind.i64 (v + (1 : Int)))))) none) none) (some
    (Sum.inl (wr IntKind.i64 (v + (1 : Int))))))) none) (some (Sum.inr (Sum.inl ())))) (Int.ofNat (0 : Nat))) fun (b : PUnit ⊕ Bool) => selim (fun (b :
    PUnit) => some true) (fun (c : Bool) => some c) b
theorem F_ref1_MaySpans_eq (N : Nat) (x : List (Int × Int)) : F_ref1_MaySpans (W_ref1_MaySpan N) N x = W_ref1_MaySpans N x := (FV_ref1_MaySpans_eq (W_ref1_MaySpan N) N x).trans (by kernel_rfl)
noncomputable def conw_ref1_MaySpans (w : List (Int × Int) → Option (Bool)) : Con := ⟨11, as_ref1_MaySpans, bs_ref1_MaySpans, Bool, w, out_ref1_MaySpans⟩
noncomputable def con_ref1_MaySpans (N : Nat) : Con := conw_ref1_MaySpans (W_ref1_MaySpans N)
theorem R_ref1_MaySpans_eq (x : List (Int × Int)) (y : Bool) : retOf2 P0 Try.f11 (kpL []) (lbOf as_ref1_MaySpans bs_ref1_MaySpans x) (patS ⟨35, [], [], []⟩ pout_ref1_MaySpans y) = some (out_ref1_MaySpans y) := by kernel_rfl
theorem con_ref1_MaySpans_ok (N : Nat) : Con.ok P0 (con_ref1_MaySpans N) := ⟨⟨Try.f11, Try.func11, by kernel_rfl, by kernel_rfl⟩, fun (x : List (Int × Int)) (r : Bool) (hr : W_ref1_MaySpans N x = some r) =>
  spec2_evT (Γ := G_ref1_MaySpans (W_ref1_MaySpan N) N) (Λ := L0) (pout := pout_ref1_MaySpans) (kp := kpL []) mixed (orcOf_ok _ (by simp only [List.mem_cons, List.not_mem_nil, or_false, forall_eq_or_imp, forall_eq]; exact con_ref1_MaySpan_ok N)) Try.func11 (c := bodyOf Try.f11) (by kernel_rfl) (by kernel_rfl) (of_decide_eq_true (by kernel_rfl)) ((F_ref1_MaySpans_eq N x).trans hr) (R_ref1_MaySpans_eq x r)⟩
def as_ref1_HasSpan : List AS := [.val (.list (.agg (.pair (.int .i64) (.int .i64)))), .val (.int .i64)]
def bs_ref1_HasSpan : List BS := []
def pout_ref1_HasSpan : Pat := ⟨[(4, .val .bool)], []⟩
noncomputable def G_ref1_HasSpan  (N : Nat) : OrcT := orcOf []
noncomputable def F_ref1_HasSpan  (N : Nat) (x : (List (Int × Int)) × Int) : Option (Bool) :=
  (evT (G_ref1_HasSpan  N) L0 P0 [(2, .loop [] ⟨[(5, .val (.int .i64))], []⟩ [(.exit 0, ⟨[], []⟩), (.ret, ⟨[(4, .val .bool)], []⟩)])]
    [] N 400 (bodyOf Try.f13) ⟨28, slots 0 (argsOf as_ref1_HasSpan bs_ref1_HasSpan x), tabU (lbOf as_ref1_HasSpan bs_ref1_HasSpan x) [], []⟩).elim (kRet 28 pout_ref1_HasSpan (kpL []) (lbOf as_ref1_HasSpan bs_ref1_HasSpan x))
def out_ref1_HasSpan (y : Bool) : V × List OK × List OK := (valW .bool y, [], [])
noncomputable def V_ref1_HasSpan  (N : Nat) (x : (List (Int × Int)) × Int) : Option (Bool) :=
  obind (loopN N (fun (v : Int) => cnd (decide (v < (↑(List.length x.1) : Int))) (cnd (decide ((0 : Int) ≤ v) && decide (v < (↑(List.length x.1) :
    Int))) (cnd (decide (Prod.fst (List.getD x.1 (Int.toNat v) ((0 : Int), (0 : Int))) ≤ x.2)) (cnd (decide ((0 : Int) ≤ v) && decide (v <
    (↑(List.length x.1) : Int))) (cnd (decide (x.2 ≤ Prod.snd (List.getD x.1 (Int.toNat v) ((0 : Int), (0 : Int))))) (some (Sum.inr (Sum.inr true)))
    (some (Sum.inl (wr IntKind.i64 (v + (1 : Int)))))) none) (some (Sum.inl (wr IntKind.i64 (v + (1 : Int)))))) none) (some (Sum.inr (Sum.inl ()))))
    (Int.ofNat (0 : Nat))) fun (b : PUnit ⊕ Bool) => selim (fun (b : PUnit) => some false) (fun (c : Bool) => some c) b
theorem FV_ref1_HasSpan_eq  (N : Nat) (x : (List (Int × Int)) × Int) : F_ref1_HasSpan  N x = V_ref1_HasSpan  N x := by kernel_rfl
noncomputable def W_ref1_HasSpan (N : Nat) (x : (List (Int × Int)) × Int) : Option (Bool) :=
  obind (loopN N (fun (v : Int) => cnd (decide (v < (↑(List.length x.1) : Int))) (cnd (decide ((0 : Int) ≤ v) && decide (v < (↑(List.length x.1) :
    Int))) (cnd (decide (Prod.fst (List.getD x.1 (Int.toNat v) ((0 : Int), (0 : Int))) ≤ x.2)) (cnd (decide ((0 : Int) ≤ v) && decide (v <
    (↑(List.length x.1) : Int))) (cnd (decide (x.2 ≤ Prod.snd (List.getD x.1 (Int.toNat v) ((0 : Int), (0 : Int))))) (some (Sum.inr (Sum.inr true)))
    (some (Sum.inl (wr IntKind.i64 (v + (1 : Int)))))) none) (some (Sum.inl (wr IntKind.i64 (v + (1 : Int)))))) none) (some (Sum.inr (Sum.inl ()))))
    (Int.ofNat (0 : Nat))) fun (b : PUnit ⊕ Bool) => selim (fun (b : PUnit) => some false) (fun (c : Bool) => some c) b
theorem F_ref1_HasSpan_eq (N : Nat) (x : (List (Int × Int)) × Int) : F_ref1_HasSpan  N x = W_ref1_HasSpan N x := (FV_ref1_HasSpan_eq  N x).trans (by kernel_rfl)
noncomputable def conw_ref1_HasSpan (w : (List (Int × Int)) × Int → Option (Bool)) : Con := ⟨13, as_ref1_HasSpan, bs_ref1_HasSpan, Bool, w, out_ref1_HasSpan⟩
noncomputable def con_ref1_HasSpan (N : Nat) : Con := conw_ref1_HasSpan (W_ref1_HasSpan N)
theorem R_ref1_HasSpan_eq (x : (List (Int × Int)) × Int) (y : Bool) : retOf2 P0 Try.f13 (kpL []) (lbOf as_ref1_HasSpan bs_ref1_HasSpan x) (patS ⟨28, [], [], []⟩ pout_ref1_HasSpan y) = some (out_ref1_HasSpan y) := by kernel_rfl
theorem con_ref1_HasSpan_ok (N : Nat) : Con.ok P0 (con_ref1_HasSpan N) := ⟨⟨Try.f13, Try.func13, by kernel_rfl, by kernel_rfl⟩, fun (x : (List (Int × Int)) × Int) (r : Bool) (hr : W_ref1_HasSpan N x = some r) =>
  spec2_evT (Γ := G_ref1_HasSpan N) (Λ := L0) (pout := pout_ref1_HasSpan) (kp := kpL []) mixed (orcOf_ok [] (by simp)) Try.func13 (c := bodyOf Try.f13) (by kernel_rfl) (by kernel_rfl) (of_decide_eq_true (by kernel_rfl)) ((F_ref1_HasSpan_eq N x).trans hr) (R_ref1_HasSpan_eq x r)⟩
def as_law17_NakServes : List AS := [.val (.list (.int .u8)), .val (.int .u8), .val (.int .u8)]
def bs_law17_NakServes : List BS := []
def pout_law17_NakServes : Pat := ⟨[(6, .val .bool)], []⟩
noncomputable def G_law17_NakServes (w_Made : List Int → Option ((List Int) × Int)) (w_Picks_Feed : Int × (List Int) × Int → Option (((List Int) × Int) × Int × Int × (List (Int × List UInt8)) × (List (Int × List UInt8)) × (List (Int × Int × Int × (List UInt8) × Int)) × Int × Int)) (w_nak_Serves : (Int × Int × (List (Int × List UInt8)) × (List (Int × List UInt8)) × (List (Int × Int × Int × (List UInt8) × Int)) × Int × Int) × Int × Int → Option ((List (Int × List UInt8)) × List (Int × Int))) (w_ref1_MaySpans : List (Int × Int) → Option (Bool)) (w_ref13_Get : (List (Int × List UInt8)) × Int → Option ((List UInt8) × Bool)) (w_ref1_HasSpan : (List (Int × Int)) × Int → Option (Bool)) (N : Nat) : OrcT := orcOf [con_law17_begun N, conw_Made w_Made, conw_Picks_Feed w_Picks_Feed, conw_nak_Serves w_nak_Serves, conw_ref1_MaySpans w_ref1_MaySpans, conw_ref13_Get w_ref13_Get, conw_ref1_HasSpan w_ref1_HasSpan]
noncomputable def F_law17_NakServes (w_Made : List Int → Option ((List Int) × Int)) (w_Picks_Feed : Int × (List Int) × Int → Option (((List Int) × Int) × Int × Int × (List (Int × List UInt8)) × (List (Int × List UInt8)) × (List (Int × Int × Int × (List UInt8) × Int)) × Int × Int)) (w_nak_Serves : (Int × Int × (List (Int × List UInt8)) × (List (Int × List UInt8)) × (List (Int × Int × Int × (List UInt8) × Int)) × Int × Int) × Int × Int → Option ((List (Int × List UInt8)) × List (Int × Int))) (w_ref1_MaySpans : List (Int × Int) → Option (Bool)) (w_ref13_Get : (List (Int × List UInt8)) × Int → Option ((List UInt8) × Bool)) (w_ref1_HasSpan : (List (Int × Int)) × Int → Option (Bool)) (N : Nat) (x : (List Int) × Int × Int) : Option (Bool) :=
  (evT (G_law17_NakServes w_Made w_Picks_Feed w_nak_Serves w_ref1_MaySpans w_ref13_Get w_ref1_HasSpan N) L0 P0 [(13, .loop [10, 11] ⟨[(7, .ptr 600007 0), (12, .val (.int .i64)), (13, .val (.int .i64))], [(600007, .box 29 (.val (.pair (.int .i64) (.pair (.int .i64) (.pair (.list (.agg (.pair (.int .i64) .str))) (.pair (.list (.agg (.pair (.int .i64) .str))) (.pair (.list (.agg (.pair (.int .i64) (.pair (.int .i64) (.pair (.int .i64) (.pair .str (.int .i64))))))) (.agg (.pair (.int .i64) (.int .i64))))))))))]⟩ [(.exit 0, ⟨[(12, .val (.int .i64))], []⟩), (.ret, ⟨[(6, .val .bool)], []⟩)])]
    [(1000018, .reg [(10, [10, 11], ⟨[(7, .ptr 600007 0), (90, .val .bool)], [(600007, .box 29 (.val (.pair (.int .i64) (.pair (.int .i64) (.pair (.list (.agg (.pair (.int .i64) .str))) (.pair (.list (.agg (.pair (.int .i64) .str))) (.pair (.list (.agg (.pair (.int .i64) (.pair (.int .i64) (.pair (.int .i64) (.pair .str (.int .i64))))))) (.agg (.pair (.int .i64) (.int .i64))))))))))]⟩), (8, [10, 11], ⟨[(7, .ptr 600007 0), (98, .val .bool)], [(600007, .box 29 (.val (.pair (.int .i64) (.pair (.int .i64) (.pair (.list (.agg (.pair (.int .i64) .str))) (.pair (.list (.agg (.pair (.int .i64) .str))) (.pair (.list (.agg (.pair (.int .i64) (.pair (.int .i64) (.pair (.int .i64) (.pair .str (.int .i64))))))) (.agg (.pair (.int .i64) (.int .i64))))))))))]⟩)]),
    (1000022, .reg [(11, [11], ⟨[(123, .val .bool)], []⟩)])] N 400 (bodyOf Try.f3) ⟨131, slots 0 (argsOf as_law17_NakServes bs_law17_NakServes x), tabU (lbOf as_law17_NakServes bs_law17_NakServes x) [], []⟩).elim (kRet 131 pout_law17_NakServes (kpL []) (lbOf as_law17_NakServes bs_law17_NakServes x))
def out_law17_NakServes (y : Bool) : V × List OK × List OK := (valW .bool y, [], [])
noncomputable def V_law17_NakServes (w_Made : List Int → Option ((List Int) × Int)) (w_Picks_Feed : Int × (List Int) × Int → Option (((List Int) × Int) × Int × Int × (List (Int × List UInt8)) × (List (Int × List UInt8)) × (List (Int × Int × Int × (List UInt8) × Int)) × Int × Int)) (w_nak_Serves : (Int × Int × (List (Int × List UInt8)) × (List (Int × List UInt8)) × (List (Int × Int × Int × (List UInt8) × Int)) × Int × Int) × Int × Int → Option ((List (Int × List UInt8)) × List (Int × Int))) (w_ref1_MaySpans : List (Int × Int) → Option (Bool)) (w_ref13_Get : (List (Int × List UInt8)) × Int → Option ((List UInt8) × Bool)) (w_ref1_HasSpan : (List (Int × Int)) × Int → Option (Bool)) (N : Nat) (x : (List Int) × Int × Int) : Option (Bool) :=
  cnd (decide ((60 : Int) < (↑(List.length x.1) : Int))) (some true) (obind (w_Made x.1) fun (b : List Int × Int) => obind (w_Picks_Feed ((15 :
    Int), b.1, b.2)) fun (b : (List Int × Int) × Int × Int × List (Int × List UInt8) × List (Int × List UInt8) × List (Int × Int × Int × List UInt8 ×
    Int) × Int × Int) => obind (w_nak_Serves ((b.2.1, b.2.2.1, b.2.2.2.1, b.2.2.2.2.1, b.2.2.2.2.2.1, b.2.2.2.2.2.2.1, b.2.2.2.2.2.2.2), wr
    IntKind.i64 ((1 : Int) + wr IntKind.i64 (Int.tmod x.2.1 (20 : Int))), wr IntKind.i64 (wr IntKind.i64 ((1 : Int) + wr IntKind.i64 (Int.tmod x.2.1 (20
    : Int))) + wr IntKind.i64 (Int.tmod x.2.2 (12 : Int))))) fun (b_1 : List (Int × List UInt8) × List (Int × Int)) => obind (w_ref1_MaySpans b_1.2)
    fun (b_2 : Bool) => cnd (!b_2) (some false) (obind (loopN N (fun (v : Int × Int × Int × Int × List (Int × List UInt8) × List (Int × List UInt8) ×
    List (Int × Int × Int × List UInt8 × Int) × Int × Int) => cnd (decide (v.2.1 ≤ wr IntKind.i64 (wr IntKind.i64 ((1 : Int) + wr IntKind.i64 (Int.tmod
    x.2.1 (20 : Int))) + wr IntKind.i64 (Int.tmod x.2.2 (12 : Int))))) (obind (w_ref13_Get (v.2.2.2.2.1, v.2.1)) fun (b : List UInt8 × Bool) => cnd
    (decide (v.2.1 < v.2.2.1)) (cnd (decide (v.1 < (↑(List.length b_1.1) : Int))) (cnd (decide ((0 : Int) ≤ v.1) && decide (v.1 < (↑(List.length b_1.1)
    : Int))) (obind (cnd (decide (Prod.fst (List.getD b_1.1 (Int.toNat v.1) ((0 : Int), [])) = v.2.1)) (cnd (decide ((0 : Int) ≤ v.1) && decide (v.1 <
    (↑(List.length b_1.1) : Int))) (some (!Prod.snd (List.getD b_1.1 (Int.toNat v.1) ((0 : Int), [])) == b.1, v.2.2.1, v.2.2.2.1, v.2.2.2.2.1,
    v.2.2.2.2.2.1, v.2.2.2.2.2.2.1, v.2.2.2.2.2.2.2.1, v.2.2.2.2.2.2.2.2)) none) (some (false, v.2.2.1, v.2.2.2.1, v.2.2.2.2.1, v.2.2.2.2.2.1,
    v.2.2.2.2.2.2.1, v.2.2.2.2.2.2.2.1, v.2.2.2.2.2.2.2.2))) fun (b_3 : Bool × Int × Int × List (Int × List UInt8) × List (Int × List UInt8) × List (Int
    × Int × Int × List UInt8 × Int) × Int × Int) => obind (cnd b_3.1 (some (true, b_3.2.1, b_3.2.2.1, b_3.2.2.2.1, b_3.2.2.2.2.1, b_3.2.2.2.2.2.1,
    b_3.2.2.2.2.2.2.1, b_3.2.2.2.2.2.2.2)) (cnd (decide (v.2.1 < wr IntKind.i64 (wr IntKind.i64 ((1 : Int) + wr IntKind.i64 (Int.tmod x.2.1 (20 : Int)))
    + (8 : Int)))) (some (!decide (Prod.fst (List.getD b_1.1 (Int.toNat v.1) ((0 : Int), [])) = v.2.1) == b.2, b_3.2.1, b_3.2.2.1, b_3.2.2.2.1,
    b_3.2.2.2.2.1, b_3.2.2.2.2.2.1, b_3.2.2.2.2.2.2.1, b_3.2.2.2.2.2.2.2)) (some (!decide (Prod.fst (List.getD b_1.1 (Int.toNat v.1) ((0 : Int), [])) =
    v.2.1) == false, b_3.2.1, b_3.2.2.1, b_3.2.2.2.1, b_3.2.2.2.2.1, b_3.2.2.2.2.2.1, b_3.2.2.2.2.2.2.1, b_3.2.2.2.2.2.2.2)))) fun (b_4 : Bool × Int ×
    Int × List (Int × List UInt8) × List (Int × List UInt8) × List (Int × Int × Int × List UInt8 × Int) × Int × Int) => cnd b_4.1 (some (Sum.inr
    (Sum.inr false))) (obind (w_ref1_HasSpan (b_1.2, v.2.1)) fun (b_5 : Bool) => cnd (decide (v.2.1 < wr IntKind.i64 (wr IntKind.i64 ((1 : Int) + wr
    IntKind.i64 (Int.tmod x.2.1 (20 : Int))) + (8 : Int)))) (cnd (!b_5 == !b.2) (some (Sum.inr (Sum.inr false))) (cnd (decide (Prod.fst (List.getD b_1.1
    (Int.toNat v.1) ((0 : Int), [])) = v.2.1)) (some (Sum.inl (wr IntKind.i64 (v.1 + (1 : Int)), wr IntKind.i64 (v.2.1 + (1 : Int)), b_4.2.1, b_4.2.2.1,
    b_4.2.2.2.1, b_4.2.2.2.2.1, b_4.2.2.2.2.2.1, b_4.2.2.2.2.2.2.1, b_4.2.2.2.2.2.2.2))) (some (Sum.inl (v.1, wr IntKind.i64 (v.2.1 + (1 : Int)),
    b_4.2.1, b_4.2.2.1, b_4.2.2.2.1, b_4.2.2.2.2.1, b_4.2.2.2.2.2.1, b_4.2.2.2.2.2.2.1, b_4.2.2.2.2.2.2.2))))) (cnd (!b_5 == false) (some (Sum.inr
    (Sum.inr false))) (cnd (decide (Prod.fst (List.getD b_1.1 (Int.toNat v.1) ((0 : Int), [])) = v.2.1)) (some (Sum.inl (wr IntKind.i64 (v.1 + (1 :
    Int)), wr IntKind.i64 (v.2.1 + (1 : Int)), b_4.2.1, b_4.2.2.1, b_4.2.2.2.1, b_4.2.2.2.2.1, b_4.2.2.2.2.2.1, b_4.2.2.2.2.2.2.1, b_4.2.2.2.2.2.2.2)))
    (some (Sum.inl (v.1, wr IntKind.i64 (v.2.1 + (1 : Int)), b_4.2.1, b_4.2.2.1, b_4.2.2.2.1, b_4.2.2.2.2.1, b_4.2.2.2.2.2.1, b_4.2.2.2.2.2.2.1,
    b_4.2.2.2.2.2.2.2))))))) none) (obind (cnd false (some (true, v.2.2.1, v.2.2.2.1, v.2.2.2.2.1, v.2.2.2.2.2.1, v.2.2.2.2.2.2.1, v.2.2.2.2.2.2.2.1,
    v.2.2.2.2.2.2.2.2)) (cnd (decide (v.2.1 < wr IntKind.i64 (wr IntKind.i64 ((1 : Int) + wr IntKind.i64 (Int.tmod x.2.1 (20 : Int))) + (8 : Int))))
    (some (!false == b.2, v.2.2.1, v.2.2.2.1, v.2.2.2.2.1, v.2.2.2.2.2.1, v.2.2.2.2.2.2.1, v.2.2.2.2.2.2.2.1, v.2.2.2.2.2.2.2.2)) (some (!false ==
    false, v.2.2.1, v.2.2.2.1, v.2.2.2.2.1, v.2.2.2.2.2.1, v.2.2.2.2.2.2.1, v.2.2.2.2.2.2.2.1, v.2.2.2.2.2.2.2.2)))) fun (b_3 : Bool × Int × Int × List
    (Int × List UInt8) × List (Int × List UInt8) × List (Int × Int × Int × List UInt8 × Int) × Int × Int) => cnd b_3.1 (some (Sum.inr (Sum.inr false)))
    (obind (w_ref1_HasSpan (b_1.2, v.2.1)) fun (b_4 : Bool) => cnd (decide (v.2.1 < wr IntKind.i64 (wr IntKind.i64 ((1 : Int) + wr IntKind.i64
    (Int.tmod x.2.1 (20 : Int))) + (8 : Int)))) (cnd (!b_4 == !b.2) (some (Sum.inr (Sum.inr false))) (some (Sum.inl (v.1, wr IntKind.i64 (v.2.1 + (1 :
    Int)), b_3.2.1, b_3.2.2.1, b_3.2.2.2.1, b_3.2.2.2.2.1, b_3.2.2.2.2.2.1, b_3.2.2.2.2.2.2.1, b_3.2.2.2.2.2.2.2)))) (cnd (!b_4 == false) (some (Sum.inr
    (Sum.inr false))) (some (Sum.inl (v.1, wr IntKind.i64 (v.2.1 + (1 : Int)), b_3.2.1, b_3.2.2.1, b_3.2.2.2.1, b_3.2.2.2.2.1, b_3.2.2.2.2.2.1,
    b_3.2.2.2.2.2.2.1, b_3.2.2.2.2.2.2.2))))))) (cnd (decide (v.1 < (↑(List.length b_1.1) : Int))) (cnd (decide ((0 : Int) ≤ v.1) && decide (v.1 <
    (↑(List.length b_1.1) : Int))) (obind (cnd (decide (Prod.fst (List.getD b_1.1 (Int.toNat v.1) ((0 : Int), [])) = v.2.1)) (cnd (decide ((0 : Int) ≤
    v.1) && decide (v.1 < (↑(List.length b_1.1) : Int))) (some (!Prod.snd (List.getD b_1.1 (Int.toNat v.1) ((0 : Int), [])) == b.1, v.2.2.1, v.2.2.2.1,
    v.2.2.2.2.1, v.2.2.2.2.2.1, v.2.2.2.2.2.2.1, v.2.2.2.2.2.2.2.1, v.2.2.2.2.2.2.2.2)) none) (some (false, v.2.2.1, v.2.2.2.1, v.2.2.2.2.1,
    v.2.2.2.2.2.1, v.2.2.2.2.2.2.1, v.2.2.2.2.2.2.2.1, v.2.2.2.2.2.2.2.2))) fun (b : Bool × Int × Int × List (Int × List UInt8) × List (Int × List
    UInt8) × List (Int × Int × Int × List UInt8 × Int) × Int × Int) => obind (cnd b.1 (some (true, b.2.1, b.2.2.1, b.2.2.2.1, b.2.2.2.2.1,
    b.2.2.2.2.2.1, b.2.2.2.2.2.2.1, b.2.2.2.2.2.2.2)) (some (!decide (Prod.fst (List.getD b_1.1 (Int.toNat v.1) ((0 : Int), [])) = v.2.1) == false,
    b.2.1, b.2.2.1, b.2.2.2.1, b.2.2.2.2.1, b.2.2.2.2.2.1, b.2.2.2.2.2.2.1, b.2.2.2.2.2.2.2))) fun (b : Bool × Int × Int × List (Int × List UInt8) ×
    List (Int × List UInt8) × List (Int × Int × Int × List UInt8 × Int) × Int × Int) => cnd b.1 (some (Sum.inr (Sum.inr false))) (obind (w_ref1_HasSpan (b_1.2, v.2.1)) fun (b_3 : Bool) => cnd (!b_3 == false) (some (Sum.inr (Sum.inr false))) (cnd (decide (Prod.fst (List.getD b_1.1 (Int.toNat v.1)
    ((0 : Int), [])) = v.2.1)) (some (Sum.inl (wr IntKind.i64 (v.1 + (1 : Int)), wr IntKind.i64 (v.2.1 + (1 : Int)), b.2.1, b.2.2.1, b.2.2.2.1,
    b.2.2.2.2.1, b.2.2.2.2.2.1, b.2.2.2.2.2.2.1, b.2.2.2.2.2.2.2))) (some (Sum.inl (v.1, wr IntKind.i64 (v.2.1 + (1 : Int)), b.2.1, b.2.2.1, b.2.2.2.1,
    b.2.2.2.2.1, b.2.2.2.2.2.1, b.2.2.2.2.2.2.1, b.2.2.2.2.2.2.2)))))) none) (obind (cnd false (some (true, v.2.2.1, v.2.2.2.1, v.2.2.2.2.1,
    v.2.2.2.2.2.1, v.2.2.2.2.2.2.1, v.2.2.2.2.2.2.2.1, v.2.2.2.2.2.2.2.2)) (some (!false == false, v.2.2.1, v.2.2.2.1, v.2.2.2.2.1, v.2.2.2.2.2.1,
    v.2.2.2.2.2.2.1, v.2.2.2.2.2.2.2.1, v.2.2.2.2.2.2.2.2))) fun (b : Bool × Int × Int × List (Int × List UInt8) × List (Int × List UInt8) × List (Int ×
    Int × Int × List UInt8 × Int) × Int × Int) => cnd b.1 (some (Sum.inr (Sum.inr false))) (obind (w_ref1_HasSpan (b_1.2, v.2.1)) fun (b_3 : Bool) =>
    cnd (!b_3 == false) (some (Sum.inr (Sum.inr false))) (some (Sum.inl (v.1, wr IntKind.i64 (v.2.1 + (1 : Int)), b.2.1, b.2.2.1, b.2.2.2.1,
    b.2.2.2.2.1, b.2.2.2.2.2.1, b.2.2.2.2.2.2.1, b.2.2.2.2.2.2.2))))))) (some (Sum.inr (Sum.inl v.1)))) ((0 : Int), wr IntKind.i64 ((1 : Int) + wr
    IntKind.i64 (Int.tmod x.2.1 (20 : Int))), b.2.1, b.2.2.1, b.2.2.2.1, b.2.2.2.2.1, b.2.2.2.2.2.1, b.2.2.2.2.2.2.1, b.2.2.2.2.2.2.2)) fun (b : Int ⊕
    Bool) => selim (fun (b : Int) => obind (cnd (decide (b = (↑(List.length b_1.1) : Int))) (obind (w_ref1_HasSpan (b_1.2, wr IntKind.i64 (wr
    IntKind.i64 ((1 : Int) + wr IntKind.i64 (Int.tmod x.2.1 (20 : Int))) - (1 : Int)))) fun (b : Bool) => some !b) (some false)) fun (b : Bool) => cnd b
    (obind (w_ref1_HasSpan (b_1.2, wr IntKind.i64 (wr IntKind.i64 (wr IntKind.i64 ((1 : Int) + wr IntKind.i64 (Int.tmod x.2.1 (20 : Int))) + wr
    IntKind.i64 (Int.tmod x.2.2 (12 : Int))) + (1 : Int)))) fun (b : Bool) => some !b) (some false)) (fun (c : Bool) => some c) b))
theorem FV_law17_NakServes_eq (w_Made : List Int → Option ((List Int) × Int)) (w_Picks_Feed : Int × (List Int) × Int → Option (((List Int) × Int) × Int × Int × (List (Int × List UInt8)) × (List (Int × List UInt8)) × (List (Int × Int × Int × (List UInt8) × Int)) × Int × Int)) (w_nak_Serves : (Int × Int × (List (Int × List UInt8)) × (List (Int × List UInt8)) × (List (Int × Int × Int × (List UInt8) × Int)) × Int × Int) × Int × Int → Option ((List (Int × List UInt8)) × List (Int × Int))) (w_ref1_MaySpans : List (Int × Int) → Option (Bool)) (w_ref13_Get : (List (Int × List UInt8)) × Int → Option ((List UInt8) × Bool)) (w_ref1_HasSpan : (List (Int × Int)) × Int → Option (Bool)) (N : Nat) (x : (List Int) × Int × Int) : F_law17_NakServes w_Made w_Picks_Feed w_nak_Serves w_ref1_MaySpans w_ref13_Get w_ref1_HasSpan N x = V_law17_NakServes w_Made w_Picks_Feed w_nak_Serves w_ref1_MaySpans w_ref13_Get w_ref1_HasSpan N x := by kernel_rfl
noncomputable def W_law17_NakServes (N : Nat) (x : (List Int) × Int × Int) : Option (Bool) :=
  cnd (decide ((60 : Int) < (↑(List.length x.1) : Int))) (some true) (obind (W_Made N x.1) fun (b : List Int × Int) => obind (W_Picks_Feed N ((15 :
    Int), b.1, b.2)) fun (b : (List Int × Int) × Int × Int × List (Int × List UInt8) × List (Int × List UInt8) × List (Int × Int × Int × List UInt8 ×
    Int) × Int × Int) => obind (W_nak_Serves N ((b.2.1, b.2.2.1, b.2.2.2.1, b.2.2.2.2.1, b.2.2.2.2.2.1, b.2.2.2.2.2.2.1, b.2.2.2.2.2.2.2), wr
    IntKind.i64 ((1 : Int) + wr IntKind.i64 (Int.tmod x.2.1 (20 : Int))), wr IntKind.i64 (wr IntKind.i64 ((1 : Int) + wr IntKind.i64 (Int.tmod x.2.1 (20
    : Int))) + wr IntKind.i64 (Int.tmod x.2.2 (12 : Int))))) fun (b_1 : List (Int × List UInt8) × List (Int × Int)) => obind (W_ref1_MaySpans N b_1.2)
    fun (b_2 : Bool) => cnd (!b_2) (some false) (obind (loopN N (fun (v : Int × Int × Int × Int × List (Int × List UInt8) × List (Int × List UInt8) ×
    List (Int × Int × Int × List UInt8 × Int) × Int × Int) => cnd (decide (v.2.1 ≤ wr IntKind.i64 (wr IntKind.i64 ((1 : Int) + wr IntKind.i64 (Int.tmod
    x.2.1 (20 : Int))) + wr IntKind.i64 (Int.tmod x.2.2 (12 : Int))))) (obind (W_ref13_Get N (v.2.2.2.2.1, v.2.1)) fun (b : List UInt8 × Bool) => cnd
    (decide (v.2.1 < v.2.2.1)) (cnd (decide (v.1 < (↑(List.length b_1.1) : Int))) (cnd (decide ((0 : Int) ≤ v.1) && decide (v.1 < (↑(List.length b_1.1)
    : Int))) (obind (cnd (decide (Prod.fst (List.getD b_1.1 (Int.toNat v.1) ((0 : Int), [])) = v.2.1)) (cnd (decide ((0 : Int) ≤ v.1) && decide (v.1 <
    (↑(List.length b_1.1) : Int))) (some (!Prod.snd (List.getD b_1.1 (Int.toNat v.1) ((0 : Int), [])) == b.1, v.2.2.1, v.2.2.2.1, v.2.2.2.2.1,
    v.2.2.2.2.2.1, v.2.2.2.2.2.2.1, v.2.2.2.2.2.2.2.1, v.2.2.2.2.2.2.2.2)) none) (some (false, v.2.2.1, v.2.2.2.1, v.2.2.2.2.1, v.2.2.2.2.2.1,
    v.2.2.2.2.2.2.1, v.2.2.2.2.2.2.2.1, v.2.2.2.2.2.2.2.2))) fun (b_3 : Bool × Int × Int × List (Int × List UInt8) × List (Int × List UInt8) × List (Int
    × Int × Int × List UInt8 × Int) × Int × Int) => obind (cnd b_3.1 (some (true, b_3.2.1, b_3.2.2.1, b_3.2.2.2.1, b_3.2.2.2.2.1, b_3.2.2.2.2.2.1,
    b_3.2.2.2.2.2.2.1, b_3.2.2.2.2.2.2.2)) (cnd (decide (v.2.1 < wr IntKind.i64 (wr IntKind.i64 ((1 : Int) + wr IntKind.i64 (Int.tmod x.2.1 (20 : Int)))
    + (8 : Int)))) (some (!decide (Prod.fst (List.getD b_1.1 (Int.toNat v.1) ((0 : Int), [])) = v.2.1) == b.2, b_3.2.1, b_3.2.2.1, b_3.2.2.2.1,
    b_3.2.2.2.2.1, b_3.2.2.2.2.2.1, b_3.2.2.2.2.2.2.1, b_3.2.2.2.2.2.2.2)) (some (!decide (Prod.fst (List.getD b_1.1 (Int.toNat v.1) ((0 : Int), [])) =
    v.2.1) == false, b_3.2.1, b_3.2.2.1, b_3.2.2.2.1, b_3.2.2.2.2.1, b_3.2.2.2.2.2.1, b_3.2.2.2.2.2.2.1, b_3.2.2.2.2.2.2.2)))) fun (b_4 : Bool × Int ×
    Int × List (Int × List UInt8) × List (Int × List UInt8) × List (Int × Int × Int × List UInt8 × Int) × Int × Int) => cnd b_4.1 (some (Sum.inr
    (Sum.inr false))) (obind (W_ref1_HasSpan N (b_1.2, v.2.1)) fun (b_5 : Bool) => cnd (decide (v.2.1 < wr IntKind.i64 (wr IntKind.i64 ((1 : Int) + wr
    IntKind.i64 (Int.tmod x.2.1 (20 : Int))) + (8 : Int)))) (cnd (!b_5 == !b.2) (some (Sum.inr (Sum.inr false))) (cnd (decide (Prod.fst (List.getD b_1.1
    (Int.toNat v.1) ((0 : Int), [])) = v.2.1)) (some (Sum.inl (wr IntKind.i64 (v.1 + (1 : Int)), wr IntKind.i64 (v.2.1 + (1 : Int)), b_4.2.1, b_4.2.2.1,
    b_4.2.2.2.1, b_4.2.2.2.2.1, b_4.2.2.2.2.2.1, b_4.2.2.2.2.2.2.1, b_4.2.2.2.2.2.2.2))) (some (Sum.inl (v.1, wr IntKind.i64 (v.2.1 + (1 : Int)),
    b_4.2.1, b_4.2.2.1, b_4.2.2.2.1, b_4.2.2.2.2.1, b_4.2.2.2.2.2.1, b_4.2.2.2.2.2.2.1, b_4.2.2.2.2.2.2.2))))) (cnd (!b_5 == false) (some (Sum.inr
    (Sum.inr false))) (cnd (decide (Prod.fst (List.getD b_1.1 (Int.toNat v.1) ((0 : Int), [])) = v.2.1)) (some (Sum.inl (wr IntKind.i64 (v.1 + (1 :
    Int)), wr IntKind.i64 (v.2.1 + (1 : Int)), b_4.2.1, b_4.2.2.1, b_4.2.2.2.1, b_4.2.2.2.2.1, b_4.2.2.2.2.2.1, b_4.2.2.2.2.2.2.1, b_4.2.2.2.2.2.2.2)))
    (some (Sum.inl (v.1, wr IntKind.i64 (v.2.1 + (1 : Int)), b_4.2.1, b_4.2.2.1, b_4.2.2.2.1, b_4.2.2.2.2.1, b_4.2.2.2.2.2.1, b_4.2.2.2.2.2.2.1,
    b_4.2.2.2.2.2.2.2))))))) none) (obind (cnd false (some (true, v.2.2.1, v.2.2.2.1, v.2.2.2.2.1, v.2.2.2.2.2.1, v.2.2.2.2.2.2.1, v.2.2.2.2.2.2.2.1,
    v.2.2.2.2.2.2.2.2)) (cnd (decide (v.2.1 < wr IntKind.i64 (wr IntKind.i64 ((1 : Int) + wr IntKind.i64 (Int.tmod x.2.1 (20 : Int))) + (8 : Int))))
    (some (!false == b.2, v.2.2.1, v.2.2.2.1, v.2.2.2.2.1, v.2.2.2.2.2.1, v.2.2.2.2.2.2.1, v.2.2.2.2.2.2.2.1, v.2.2.2.2.2.2.2.2)) (some (!false ==
    false, v.2.2.1, v.2.2.2.1, v.2.2.2.2.1, v.2.2.2.2.2.1, v.2.2.2.2.2.2.1, v.2.2.2.2.2.2.2.1, v.2.2.2.2.2.2.2.2)))) fun (b_3 : Bool × Int × Int × List
    (Int × List UInt8) × List (Int × List UInt8) × List (Int × Int × Int × List UInt8 × Int) × Int × Int) => cnd b_3.1 (some (Sum.inr (Sum.inr false)))
    (obind (W_ref1_HasSpan N (b_1.2, v.2.1)) fun (b_4 : Bool) => cnd (decide (v.2.1 < wr IntKind.i64 (wr IntKind.i64 ((1 : Int) + wr IntKind.i64
    (Int.tmod x.2.1 (20 : Int))) + (8 : Int)))) (cnd (!b_4 == !b.2) (some (Sum.inr (Sum.inr false))) (some (Sum.inl (v.1, wr IntKind.i64 (v.2.1 + (1 :
    Int)), b_3.2.1, b_3.2.2.1, b_3.2.2.2.1, b_3.2.2.2.2.1, b_3.2.2.2.2.2.1, b_3.2.2.2.2.2.2.1, b_3.2.2.2.2.2.2.2)))) (cnd (!b_4 == false) (some (Sum.inr
    (Sum.inr false))) (some (Sum.inl (v.1, wr IntKind.i64 (v.2.1 + (1 : Int)), b_3.2.1, b_3.2.2.1, b_3.2.2.2.1, b_3.2.2.2.2.1, b_3.2.2.2.2.2.1,
    b_3.2.2.2.2.2.2.1, b_3.2.2.2.2.2.2.2))))))) (cnd (decide (v.1 < (↑(List.length b_1.1) : Int))) (cnd (decide ((0 : Int) ≤ v.1) && decide (v.1 <
    (↑(List.length b_1.1) : Int))) (obind (cnd (decide (Prod.fst (List.getD b_1.1 (Int.toNat v.1) ((0 : Int), [])) = v.2.1)) (cnd (decide ((0 : Int) ≤
    v.1) && decide (v.1 < (↑(List.length b_1.1) : Int))) (some (!Prod.snd (List.getD b_1.1 (Int.toNat v.1) ((0 : Int), [])) == b.1, v.2.2.1, v.2.2.2.1,
    v.2.2.2.2.1, v.2.2.2.2.2.1, v.2.2.2.2.2.2.1, v.2.2.2.2.2.2.2.1, v.2.2.2.2.2.2.2.2)) none) (some (false, v.2.2.1, v.2.2.2.1, v.2.2.2.2.1,
    v.2.2.2.2.2.1, v.2.2.2.2.2.2.1, v.2.2.2.2.2.2.2.1, v.2.2.2.2.2.2.2.2))) fun (b : Bool × Int × Int × List (Int × List UInt8) × List (Int × List
    UInt8) × List (Int × Int × Int × List UInt8 × Int) × Int × Int) => obind (cnd b.1 (some (true, b.2.1, b.2.2.1, b.2.2.2.1, b.2.2.2.2.1,
    b.2.2.2.2.2.1, b.2.2.2.2.2.2.1, b.2.2.2.2.2.2.2)) (some (!decide (Prod.fst (List.getD b_1.1 (Int.toNat v.1) ((0 : Int), [])) = v.2.1) == false,
    b.2.1, b.2.2.1, b.2.2.2.1, b.2.2.2.2.1, b.2.2.2.2.2.1, b.2.2.2.2.2.2.1, b.2.2.2.2.2.2.2))) fun (b : Bool × Int × Int × List (Int × List UInt8) ×
    List (Int × List UInt8) × List (Int × Int × Int × List UInt8 × Int) × Int × Int) => cnd b.1 (some (Sum.inr (Sum.inr false))) (obind (W_ref1_HasSpan
    N (b_1.2, v.2.1)) fun (b_3 : Bool) => cnd (!b_3 == false) (some (Sum.inr (Sum.inr false))) (cnd (decide (Prod.fst (List.getD b_1.1 (Int.toNat v.1)
    ((0 : Int), [])) = v.2.1)) (some (Sum.inl (wr IntKind.i64 (v.1 + (1 : Int)), wr IntKind.i64 (v.2.1 + (1 : Int)), b.2.1, b.2.2.1, b.2.2.2.1,
    b.2.2.2.2.1, b.2.2.2.2.2.1, b.2.2.2.2.2.2.1, b.2.2.2.2.2.2.2))) (some (Sum.inl (v.1, wr IntKind.i64 (v.2.1 + (1 : Int)), b.2.1, b.2.2.1, b.2.2.2.1,
    b.2.2.2.2.1, b.2.2.2.2.2.1, b.2.2.2.2.2.2.1, b.2.2.2.2.2.2.2)))))) none) (obind (cnd false (some (true, v.2.2.1, v.2.2.2.1, v.2.2.2.2.1,
    v.2.2.2.2.2.1, v.2.2.2.2.2.2.1, v.2.2.2.2.2.2.2.1, v.2.2.2.2.2.2.2.2)) (some (!false == false, v.2.2.1, v.2.2.2.1, v.2.2.2.2.1, v.2.2.2.2.2.1,
    v.2.2.2.2.2.2.1, v.2.2.2.2.2.2.2.1, v.2.2.2.2.2.2.2.2))) fun (b : Bool × Int × Int × List (Int × List UInt8) × List (Int × List UInt8) × List (Int ×
    Int × Int × List UInt8 × Int) × Int × Int) => cnd b.1 (some (Sum.inr (Sum.inr false))) (obind (W_ref1_HasSpan N (b_1.2, v.2.1)) fun (b_3 : Bool) =>
    cnd (!b_3 == false) (some (Sum.inr (Sum.inr false))) (some (Sum.inl (v.1, wr IntKind.i64 (v.2.1 + (1 : Int)), b.2.1, b.2.2.1, b.2.2.2.1,
    b.2.2.2.2.1, b.2.2.2.2.2.1, b.2.2.2.2.2.2.1, b.2.2.2.2.2.2.2))))))) (some (Sum.inr (Sum.inl v.1)))) ((0 : Int), wr IntKind.i64 ((1 : Int) + wr
    IntKind.i64 (Int.tmod x.2.1 (20 : Int))), b.2.1, b.2.2.1, b.2.2.2.1, b.2.2.2.2.1, b.2.2.2.2.2.1, b.2.2.2.2.2.2.1, b.2.2.2.2.2.2.2)) fun (b : Int ⊕
    Bool) => selim (fun (b : Int) => obind (cnd (decide (b = (↑(List.length b_1.1) : Int))) (obind (W_ref1_HasSpan N (b_1.2, wr IntKind.i64 (wr
    IntKind.i64 ((1 : Int) + wr IntKind.i64 (Int.tmod x.2.1 (20 : Int))) - (1 : Int)))) fun (b : Bool) => some !b) (some false)) fun (b : Bool) => cnd b
    (obind (W_ref1_HasSpan N (b_1.2, wr IntKind.i64 (wr IntKind.i64 (wr IntKind.i64 ((1 : Int) + wr IntKind.i64 (Int.tmod x.2.1 (20 : Int))) + wr
    IntKind.i64 (Int.tmod x.2.2 (12 : Int))) + (1 : Int)))) fun (b : Bool) => some !b) (some false)) (fun (c : Bool) => some c) b))
theorem F_law17_NakServes_eq (N : Nat) (x : (List Int) × Int × Int) : F_law17_NakServes (W_Made N) (W_Picks_Feed N) (W_nak_Serves N) (W_ref1_MaySpans N) (W_ref13_Get N) (W_ref1_HasSpan N) N x = W_law17_NakServes N x := (FV_law17_NakServes_eq (W_Made N) (W_Picks_Feed N) (W_nak_Serves N) (W_ref1_MaySpans N) (W_ref13_Get N) (W_ref1_HasSpan N) N x).trans (by kernel_rfl)
noncomputable def conw_law17_NakServes (w : (List Int) × Int × Int → Option (Bool)) : Con := ⟨3, as_law17_NakServes, bs_law17_NakServes, Bool, w, out_law17_NakServes⟩
noncomputable def con_law17_NakServes (N : Nat) : Con := conw_law17_NakServes (W_law17_NakServes N)
theorem R_law17_NakServes_eq (x : (List Int) × Int × Int) (y : Bool) : retOf2 P0 Try.f3 (kpL []) (lbOf as_law17_NakServes bs_law17_NakServes x) (patS ⟨131, [], [], []⟩ pout_law17_NakServes y) = some (out_law17_NakServes y) := by kernel_rfl
theorem con_law17_NakServes_ok (N : Nat) : Con.ok P0 (con_law17_NakServes N) := ⟨⟨Try.f3, Try.func3, by kernel_rfl, by kernel_rfl⟩, fun (x : (List Int) × Int × Int) (r : Bool) (hr : W_law17_NakServes N x = some r) =>
  spec2_evT (Γ := G_law17_NakServes (W_Made N) (W_Picks_Feed N) (W_nak_Serves N) (W_ref1_MaySpans N) (W_ref13_Get N) (W_ref1_HasSpan N) N) (Λ := L0) (pout := pout_law17_NakServes) (kp := kpL []) mixed (orcOf_ok _ (by simp only [List.mem_cons, List.not_mem_nil, or_false, forall_eq_or_imp, forall_eq]; exact ⟨con_law17_begun_ok N, con_Made_ok N, con_Picks_Feed_ok N, con_nak_Serves_ok N, con_ref1_MaySpans_ok N, con_ref13_Get_ok N, con_ref1_HasSpan_ok N⟩)) Try.func3 (c := bodyOf Try.f3) (by kernel_rfl) (by kernel_rfl) (of_decide_eq_true (by kernel_rfl)) ((F_law17_NakServes_eq N x).trans hr) (R_law17_NakServes_eq x r)⟩
end Go.Proofs.Ytkdgdpeoneegnaa.nakServesX
