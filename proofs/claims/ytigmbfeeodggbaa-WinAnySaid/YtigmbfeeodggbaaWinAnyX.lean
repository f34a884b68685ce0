/- WinAny: for all arguments the call returns true. The law is brought to a function of Lean's own (W_..) by the machine of the texts beside it, and that is reckoned; no condition. -/
import Derived.Test.YtigmbfeeodggbaaExtYM
import Derived.Test.YtigmbfeeodggbaaExtIn
import Derived.Test.YtigmbfeeodggbaaExtL
import Derived.Test.YtigmbfeeodggbaaRows
import Derived.WalkKit
import Derived.ProofKit
import Derived.OpenShut
import Derived.ShutString
import Derived.ChangeOld
import Derived.Below
import Derived.Shelf.RegionOpenPlain
import Derived.Deep.RegionLaw
import Derived.Lib.Walk
import Derived.Shelf.RegionOpenPlain
import Derived.Lib.Walk
namespace Go.Proofs.Ytigmbfeeodggbaa.winAnyX
open Go.Abs Go.RowKit Go.ChangeShapes Go.WideShapes Go.ChangeAt
set_option maxRecDepth 100000
set_option linter.unusedVariables false
set_option linter.unusedSimpArgs false
noncomputable abbrev P0 : Program := Try.prog
noncomputable def bodyOf (fn : Func) : Code := fn.body.getD .skip
def L0 : Lend := fun f => aget [] [(53, [0]), (85, [0])] f
def kpL (l : List Bool) : Nat → Bool := fun j => l.getD j true
theorem own : ownKnob Try.prog.godebug = none := by kernel_rfl
theorem laidOut : laidOutB Try.prog = true := by kernel_rfl
theorem mixed : P0.follows .mixedOrders = true := by decide +kernel
theorem progOk_ : progOk P0 = true := by decide +kernel
set_option linter.unusedSimpArgs false
set_option linter.unusedVariables false

theorem insU53 : Try.prog.underlying 24 = some (.slice 28) := by kernel_rfl
theorem insI53 : Try.prog.underlying 3 = some (.int .i64) := by kernel_rfl
theorem insE53 : ∃ (inf : TypeInfo) (z : Value), Try.prog.info? 28 = some inf ∧ inf.size = 2 ∧ inf.zero = some z ∧ z.cells.size = 2 ∧ inf.bytes = 24 := insE_of (by kernel_rfl)
set_option maxHeartbeats 4000000 in
theorem insShift53 {inf : TypeInfo} (hinf : Try.prog.info? 28 = some inf) (hsz : inf.size = 2) (w : World) (b i n c vb vo vc : Nat) (arr : Array Value) (tb : Nat) (fz : Nat × Nat) (cs vs : List Value) (hmem : w.heap[b]? = some (.cells arr tb fz)) (hf : ∀ j, j < arr.size → ¬ (fz.1 ≤ j ∧ j < fz.2))
    (hi : i < n) (hroom : n + 1 ≤ c) (hsize : arr.size = c * 2) (hby : (n + 1) * 24 ≤ 140737488355328) (hbn : vb ≠ b)
    (hcs : cs = (arr.toList.take (n * 2)).drop (i * 2)) (hvl : vs.length = 2) (hvs : ∀ (j : Nat) (u : Value), vs[j]? = some u → w.cell? ⟨vb, vo + j, none⟩ = some u) (h1c : ∀ u ∈ cs, u.oneCell' = true) (h1v : ∀ u ∈ vs, u.oneCell' = true)
    (hov : ∀ y, (callFunc 80 #[.slice (some ⟨vb, vo, none⟩) 1 vc, .slice (some ⟨b, (i + 1) * 2, none⟩) (n - i) y]).run Try.prog w = .ok (.value (.bool false)) w) (A1 A2 : Array Value)
    (hA1 : A1 = (arr.toList.take ((i + 1) * 2) ++ (cs ++ arr.toList.drop ((i + 1) * 2 + cs.length))).toArray) (hA2 : A2 = (A1.toList.take (i * 2) ++ (vs ++ A1.toList.drop (i * 2 + vs.length))).toArray) :
    Calls Try.prog 53 #[.slice (some ⟨b, 0, none⟩) n c, .int .i64 (i : Nat), .slice (some ⟨vb, vo, none⟩) 1 vc] w fun e w' => e = .returned (.slice (some ⟨b, 0, none⟩) (n + 1) c) ∧ w' = (w.drew.setRow b A1).setRow b A2 := by
  have mixed := mixed
  have hz2 : ¬ ((i : Int) = (n : Int)) := by omega
  have hw1 : IntKind.i64.wrap ((i : Int) + (1 : Int)) = (i : Int) + (1 : Int) := by rw [IntKind.wrap_i64]; omega
  have hw2 : IntKind.i64.wrap ((n : Int) + (1 : Int)) = (n : Int) + (1 : Int) := by rw [IntKind.wrap_i64]; omega
  have hcl : cs.length = (n - i) * 2 := by rw [hcs]; simp; omega
  have hA1s : A1.size = arr.size := by rw [hA1]; simp [hcl]; omega
  have hcp1 : ∀ ty dc sc, (Builtin.copy_ #[24, 24] ty #[.slice (some ⟨b, (i + 1) * 2, none⟩) (n - i) dc, .slice (some ⟨b, i * 2, none⟩) (n + 1 - i) sc]).run Try.prog w.drew = .ok (.int .i64 ((n - i : Nat) : Int)) (w.drew.setRow b A1) := fun ty dc sc => by
    rw [hA1]
    refine run_copyR insU53 hinf w.drew (fz := fz) hmem hf _ _ _ (m := n + 1 - i) (k := n - i) (by omega) (lenOf_slice _ _ _ _) (run_firstCells_some w.drew _ _ _ _ _ _ (by rw [hsz]; exact hcl) (fun j v hj => ?_)) (by omega) h1c
    rw [hcs, List.getElem?_drop, List.getElem?_take] at hj
    split at hj
    · have : (⟨b, i * 2, none⟩ : Addr).add j = ⟨b, i * 2 + j, none⟩ := by unfold Addr.add; split <;> simp_all
      rw [this]
      have e : w.drew.cell? ⟨b, i * 2 + j, none⟩ = arr[i * 2 + j]? := by simp [World.cell?, show w.drew.heap = w.heap from rfl, hmem]
      rw [e]; simpa using hj
    · cases hj
  have hcp2 : ∀ (W : World), W.heap = (w.drew.setRow b A1).heap → ∀ ty dc, (Builtin.copy_ #[24, 24] ty #[.slice (some ⟨b, i * 2, none⟩) (n + 1 - i) dc, .slice (some ⟨vb, vo, none⟩) 1 vc]).run Try.prog W = .ok (.int .i64 ((1 : Nat) : Int)) (W.setRow b A2) := fun W hW ty dc => by
    rw [hA2]
    have hm1 : W.heap[b]? = some (.cells A1 tb fz) := by rw [hW]; exact setRow_heap w.drew b arr A1 tb fz hmem
    refine run_copyR insU53 hinf W (fz := fz) hm1 (by rw [hA1s]; exact hf) _ _ _ (m := 1) (k := 1) (by omega) (lenOf_slice _ _ _ _) (run_firstCells_some W _ _ _ _ _ _ (by rw [hsz]; exact hvl) (fun j v hj => ?_)) (by omega) h1v
    have : (⟨vb, vo, none⟩ : Addr).add j = ⟨vb, vo + j, none⟩ := by unfold Addr.add; split <;> simp_all
    rw [this]
    have e : W.cell? ⟨vb, vo + j, none⟩ = w.cell? ⟨vb, vo + j, none⟩ := cell_congr (by rw [hW]; exact setRow_other w.drew b vb A1 hbn)
    rw [e]; exact hvs j v hj
  have hb1 : (0 : Int) ≤ (i : Int) + 1 := by omega
  have hin : i ≤ n := by omega
  have hb2 : ¬ (c = i + 1) := by omega
  have hb4 : ¬ (c = i) := by omega
  have hb3 : (i : Int) ≤ (n : Int) + 1 := by omega
  clear hcs hA1 hA2
  go_enter Try.func53, Try.ntmps53
  go_wp2_with (simp only [hov])
  go_region_law_o (refine step_copy_runR rfl _ _ 24 24 rfl _ _ (by simp [Act.eval, Act.put]) (by simp [Act.eval, Act.put]) (hcp1 _ _ _) ?_)
  go_wp2_with (at_builtin; refine wpList_copy_runR _ rfl _ _ 24 24 rfl _ _ rfl rfl (hcp2 _ rfl _ _) ?_)
  go_ret
  exact ⟨rfl, rfl⟩
set_option maxHeartbeats 4000000 in
theorem insGrow53 {inf : TypeInfo} {z : Value} (hinf : Try.prog.info? 28 = some inf) (hsz : inf.size = 2) (hzz : inf.zero = some z) (hzs : z.cells.size = 2) (hbb : inf.bytes = 24) (w : World) (b i n c vb vo vc : Nat) (arr : Array Value) (tb : Nat) (fz : Nat × Nat) (cs vs : List Value) (hmem : w.heap[b]? = some (.cells arr tb fz))
    (hi : i < n) (hnc : n ≤ c) (hroom : ¬ (n + 1 ≤ c)) (hsize : arr.size = c * 2) (hby : (n + 1) * 24 ≤ 140737488355328) (va : Array Value) (tv : Nat) (fv : Nat × Nat) (hmemv : w.heap[vb]? = some (.cells va tv fv))
    (hcs : cs = (arr.toList.take (n * 2)).drop (i * 2)) (hvl : vs.length = 2) (hvs : ∀ (j : Nat) (u : Value), vs[j]? = some u → va[vo + j]? = some u) (h1c : ∀ u ∈ cs, u.oneCell' = true) (h1v : ∀ u ∈ vs, u.oneCell' = true)
    (G : Nat) (hG : G = grownCap w (n + 1) c 28) (ROW A1 A2 : Array Value)
    (hROW : ROW = (arr.toList.take (i * 2)).toArray ++ Builtin.zeroCells z.cells (n + 1 - i) ++ Builtin.zeroCells z.cells (G - (n + 1)))
    (hA1 : A1 = (ROW.toList.take (i * 2) ++ (vs ++ ROW.toList.drop (i * 2 + vs.length))).toArray) (hA2 : A2 = (A1.toList.take ((i + 1) * 2) ++ (cs ++ A1.toList.drop ((i + 1) * 2 + cs.length))).toArray) :
    Calls Try.prog 53 #[.slice (some ⟨b, 0, none⟩) n c, .int .i64 (i : Nat), .slice (some ⟨vb, vo, none⟩) 1 vc] w fun e w' => e = .returned (.slice (some ⟨w.heap.size, 0, none⟩) (n + 1) G) ∧ w' = (((w.drew.alloc (.cells ROW 28)).setRow w.heap.size A1).drew).setRow w.heap.size A2 := by
  have mixed := mixed
  have hz2 : ¬ ((i : Int) = (n : Int)) := by omega
  have hw1 : IntKind.i64.wrap ((i : Int) + (1 : Int)) = (i : Int) + (1 : Int) := by rw [IntKind.wrap_i64]; omega
  have hw2 : IntKind.i64.wrap ((n : Int) + (1 : Int)) = (n : Int) + (1 : Int) := by rw [IntKind.wrap_i64]; omega
  have hw3 : IntKind.i64.wrap ((n : Int) + (1 : Int) - (i : Int)) = (n : Int) + (1 : Int) - (i : Int) := by rw [IntKind.wrap_i64]; omega
  have hcl : cs.length = (n - i) * 2 := by rw [hcs]; simp; omega
  have hGn : n + 1 ≤ G := by rw [hG]; exact grownCap_ge w _ _ _
  have hbw : b < w.heap.size := (Array.getElem?_eq_some_iff.1 hmem).1
  have hvw : vb < w.heap.size := (Array.getElem?_eq_some_iff.1 hmemv).1
  have hzc : ∀ k, (Builtin.zeroCells z.cells k).size = k * 2 := fun k => by rw [size_zeroCells, hzs]
  have hRs : ROW.size = G * 2 := by
    rw [hROW]; simp only [Array.size_append, hzc, List.size_toArray, List.length_take, Array.length_toList]; omega
  have hA1s : A1.size = ROW.size := by rw [hA1]; simp [hvl]; omega
  have hold : (Builtin.firstCells inf.size i (.slice (some ⟨b, 0, none⟩) i c)).run Try.prog w.drew = .ok (arr.toList.take (i * 2)).toArray w.drew := by
    rw [hsz]
    refine run_firstCells_some w.drew 2 i ⟨b, 0, none⟩ i c (arr.toList.take (i * 2)) (by rw [List.length_take]; simp; omega) (fun j v hj => ?_)
    rw [List.getElem?_take] at hj
    split at hj
    · have : (⟨b, 0, none⟩ : Addr).add j = ⟨b, j, none⟩ := by unfold Addr.add; split <;> simp_all
      rw [this]
      have e : w.drew.cell? ⟨b, j, none⟩ = arr[j]? := by simp [World.cell?, show w.drew.heap = w.heap from rfl, hmem]
      rw [e]; simpa using hj
    · cases hj
  have hik : i + (n + 1 - i) = n + 1 := by omega
  have hkk : (n : Int) + 1 - (i : Int) = ((n + 1 - i : Nat) : Int) := by omega
  obtain ⟨W1, hW1⟩ : ∃ W1, W1 = w.drew.alloc (.cells ROW 28) := ⟨_, rfl⟩
  have hrz : ∀ ty, (Builtin.append_ #[24, 3] ty #[.slice (some ⟨b, 0, none⟩) i c, .int .i64 ((n : Int) + 1 - (i : Int))]).run Try.prog w = .ok (.slice (some ⟨w.heap.size, 0, none⟩) (n + 1) G) W1 := fun ty => by
    have hnx := nextslicecap_le (need := n + 1) (old := c) (by omega)
    have h := Lib.run_append_grow_zeros w 24 3 ty 28 inf z .i64 .i64 insU53 insI53 hinf hzz (some ⟨b, 0, none⟩) i c (arr.toList.take (i * 2)) hold (n + 1 - i) (by omega) (by omega) (by omega) (by omega) (by rw [hbb]; omega) (by rw [hbb, hik]; omega)
    rw [hik, ← hG, ← hROW, ← hW1] at h
    rw [hkk]
    exact h
  have hWn : W1.heap[w.heap.size]? = some (.cells ROW 28 (0, 0)) := by rw [hW1]; exact heap_alloc_new w.drew _
  have hWo : ∀ j, j < w.heap.size → W1.heap[j]? = w.heap[j]? := fun j hj => by rw [hW1]; exact heap_alloc_old w.drew _ hj
  have hcp1 : ∀ (W : World), W.heap = W1.heap → ∀ ty dc, (Builtin.copy_ #[24, 24] ty #[.slice (some ⟨w.heap.size, i * 2, none⟩) (n + 1 - i) dc, .slice (some ⟨vb, vo, none⟩) 1 vc]).run Try.prog W = .ok (.int .i64 ((1 : Nat) : Int)) (W.setRow w.heap.size A1) := fun W hW ty dc => by
    rw [hA1]
    refine run_copyR insU53 hinf W (fz := (0, 0)) (by rw [hW]; exact hWn) (fun j _ hj => by simp at hj) _ _ _ (m := 1) (k := 1) (by omega) (lenOf_slice _ _ _ _) (run_firstCells_some W _ _ _ _ _ _ (by rw [hsz]; exact hvl) (fun j v hj => ?_)) (by omega) h1v
    have : (⟨vb, vo, none⟩ : Addr).add j = ⟨vb, vo + j, none⟩ := by unfold Addr.add; split <;> simp_all
    rw [this]
    have e : W.cell? ⟨vb, vo + j, none⟩ = va[vo + j]? := by simp [World.cell?, hW, hWo vb hvw, hmemv]
    rw [e]; exact hvs j v hj
  have hcp2 : ∀ (W : World), W.heap = (W1.setRow w.heap.size A1).heap → ∀ ty dc sc, (Builtin.copy_ #[24, 24] ty #[.slice (some ⟨w.heap.size, (i + 1) * 2, none⟩) (n - i) dc, .slice (some ⟨b, i * 2, none⟩) (n - i) sc]).run Try.prog W = .ok (.int .i64 ((n - i : Nat) : Int)) (W.setRow w.heap.size A2) := fun W hW ty dc sc => by
    rw [hA2]
    have hm1 : W.heap[w.heap.size]? = some (.cells A1 28 (0, 0)) := by rw [hW]; exact setRow_heap W1 w.heap.size ROW A1 28 (0, 0) hWn
    refine run_copyR insU53 hinf W (fz := (0, 0)) hm1 (fun j _ hj => by simp at hj) _ _ _ (m := n - i) (k := n - i) (by omega) (lenOf_slice _ _ _ _) (run_firstCells_some W _ _ _ _ _ _ (by rw [hsz]; exact hcl) (fun j v hj => ?_)) (by omega) h1c
    rw [hcs, List.getElem?_drop, List.getElem?_take] at hj
    split at hj
    · have : (⟨b, i * 2, none⟩ : Addr).add j = ⟨b, i * 2 + j, none⟩ := by unfold Addr.add; split <;> simp_all
      rw [this]
      have e : W.cell? ⟨b, i * 2 + j, none⟩ = arr[i * 2 + j]? := by
        have e1 : W.heap[b]? = w.heap[b]? := by rw [hW, setRow_other W1 w.heap.size b A1 (by omega)]; exact hWo b hbw
        simp [World.cell?, e1, hmem]
      rw [e]; simpa using hj
    · cases hj
  have hb1 : (0 : Int) ≤ (i : Int) + 1 := by omega
  have hin : i ≤ n := by omega
  have hb2 : ¬ (G = i + 1) := by omega
  have hb4 : ¬ (c = i) := by omega
  have hb5 : ¬ (G = i) := by omega
  have hb3 : (i : Int) ≤ (n : Int) + 1 := by omega
  have hb6 : (c : Int) < (n : Int) + 1 := by omega
  have hb7 : i ≤ c := by omega
  rw [← hW1]
  clear hG hcs hA1 hA2 hW1 hold hROW hWn hWo hik hkk
  go_enter Try.func53, Try.ntmps53
  go_wp2_with (first
    | (at_builtin; refine Lib.wpList_append_run _ rfl _ _ _ _ rfl _ _ rfl rfl _ _ (hrz _) ?_)
    | (at_builtin; refine wpList_copy_runR _ rfl _ _ 24 24 rfl _ _ rfl rfl (hcp1 _ (by exact rfl) _ _) ?_))
  have hF : ((W1.setRow w.heap.size A1).drew).heap = (W1.setRow w.heap.size A1).heap := rfl
  go_region_law_o (refine step_copy_runR rfl _ _ 24 24 rfl (.slice (some ⟨w.heap.size, (i + 1) * 2, none⟩) (n - i) (G - (i + 1))) (.slice (some ⟨b, i * 2, none⟩) (n - i) (c - i)) (by simp [Act.eval, Act.put]) (by simp [Act.eval, Act.put]) (hcp2 _ hF 3 (G - (i + 1)) (c - i)) ?_)
  go_wp2
  go_ret
  exact ⟨rfl, rfl⟩
theorem insF53 : InsF Try.prog 53 28 2 24 := by
  intro w b i n c vb vo vc arr va tb tv fz fv vs hmem hsize hf hmemv hfv hbn hvl hvs h1v h1c hi hnc hby
  obtain ⟨inf, z, hinf, hsz, hzz, hzs, hbb⟩ := insE53
  obtain ⟨cs, hcs⟩ : ∃ cs, cs = (arr.toList.take (n * 2)).drop (i * 2) := ⟨_, rfl⟩
  have h1 : ∀ u ∈ cs, u.oneCell' = true := fun u hu => h1c u (by rw [hcs] at hu; exact List.mem_of_mem_drop hu)
  have hcl : cs.length = (n - i) * 2 := by rw [hcs]; simp; omega
  by_cases hroom : n + 1 ≤ c
  · have hvo : vo < va.size := by
      have := hvs 0 vs[0] (List.getElem?_eq_getElem (by omega))
      have := (Array.getElem?_eq_some_iff.1 this).1
      omega
    have hov : ∀ y, (callFunc 80 #[.slice (some ⟨vb, vo, none⟩) 1 vc, .slice (some ⟨b, (i + 1) * 2, none⟩) (n - i) y]).run Try.prog w = .ok (.value (.bool false)) w := fun y => by
      rw [run_callFunc_extern Try.func80 (by kernel_rfl) (by kernel_rfl) (by kernel_rfl) (e := Extern.SlicesOverlaps.overlaps #[24, 24] #[4]) (by kernel_rfl),
        Lib.run_overlaps_apart w 24 4 28 insU53 2 (fun w => by rw [run_size hinf, hsz]) ⟨vb, vo, none⟩ ⟨b, (i + 1) * 2, none⟩ 1 vc (n - i) y hbn tv tb va.size arr.size (by simp [World.shape?, hmemv]) (by simp [World.shape?, hmem]) (by omega)
          (by have := hfv vo (by omega); simp only [World.frozen?, hmemv]; simp; omega) (by have := hfv va.size (Nat.le_refl _); simp only [World.frozen?, hmemv]; simp; omega)]
      rfl
    refine (insShift53 hinf hsz w b i n c vb vo vc arr tb fz cs vs hmem (fun j hj => hf j (by omega)) hi hroom hsize hby hbn hcs hvl (fun j u hj => by simpa [World.cell?, hmemv] using hvs j u hj) h1 h1v hov _ _ rfl rfl).mono fun x w' => ?_
    rintro ⟨rfl, rfl⟩
    have hA1s : (arr.toList.take ((i + 1) * 2) ++ (cs ++ arr.toList.drop ((i + 1) * 2 + cs.length))).toArray.size = arr.size := by simp [hcl]; omega
    have hm1 := setRow_heap w.drew b arr (arr.toList.take ((i + 1) * 2) ++ (cs ++ arr.toList.drop ((i + 1) * 2 + cs.length))).toArray tb fz hmem
    generalize hA1 : (arr.toList.take ((i + 1) * 2) ++ (cs ++ arr.toList.drop ((i + 1) * 2 + cs.length))).toArray = A1 at *
    have hA2s : (A1.toList.take (i * 2) ++ (vs ++ A1.toList.drop (i * 2 + vs.length))).toArray.size = A1.size := by simp [hvl]; omega
    have hm2 := setRow_heap (w.drew.setRow b A1) b A1 (A1.toList.take (i * 2) ++ (vs ++ A1.toList.drop (i * 2 + vs.length))).toArray tb fz hm1
    refine ⟨b, c, tb, _, fz, rfl, rfl, rfl, rfl, hm2, fun j hj => hf j (by rw [hA2s, hA1s] at hj; exact hj), by rw [hA2s, hA1s]; exact hsize, hroom, ?_, .inl ⟨rfl, rfl, by rw [hA2s, hA1s], by rw [setRow_size, setRow_size]; rfl, fun j hj => ?_⟩⟩
    · subst hA1
      exact insShiftL arr.toList vs cs (i * 2) (n * 2) 2 ((i + 1) * 2) ((n + 1) * 2) (by omega) (by omega) (by omega) (by simp; omega) hvl hcs
    · rw [setRow_other _ _ _ _ hj, setRow_other _ _ _ _ hj]; rfl
  · refine (insGrow53 hinf hsz hzz hzs hbb w b i n c vb vo vc arr tb fz cs vs hmem hi hnc hroom hsize hby va tv fv hmemv hcs hvl hvs h1 h1v _ rfl _ _ _ rfl rfl rfl).mono fun x w' => ?_
    rintro ⟨rfl, rfl⟩
    have hGn : n + 1 ≤ grownCap w (n + 1) c 28 := grownCap_ge w _ _ _
    have hzc : ∀ k, (Builtin.zeroCells z.cells k).size = k * 2 := fun k => by rw [size_zeroCells, hzs]
    have hRs : ((arr.toList.take (i * 2)).toArray ++ Builtin.zeroCells z.cells (n + 1 - i) ++ Builtin.zeroCells z.cells (grownCap w (n + 1) c 28 - (n + 1))).size = grownCap w (n + 1) c 28 * 2 := by
      simp only [Array.size_append, hzc, List.size_toArray, List.length_take, Array.length_toList]; omega
    have hRt : ((arr.toList.take (i * 2)).toArray ++ Builtin.zeroCells z.cells (n + 1 - i) ++ Builtin.zeroCells z.cells (grownCap w (n + 1) c 28 - (n + 1))).toList.take (i * 2) = arr.toList.take (i * 2) := by
      simp only [Array.toList_append, List.append_assoc]
      exact List.take_left' (by simp; omega)
    generalize hG : grownCap w (n + 1) c 28 = G at *
    generalize hR : (arr.toList.take (i * 2)).toArray ++ Builtin.zeroCells z.cells (n + 1 - i) ++ Builtin.zeroCells z.cells (G - (n + 1)) = ROW at *
    have hm0 : (w.drew.alloc (.cells ROW 28)).heap[w.heap.size]? = some (.cells ROW 28 (0, 0)) := heap_alloc_new w.drew _
    have hA1s : (ROW.toList.take (i * 2) ++ (vs ++ ROW.toList.drop (i * 2 + vs.length))).toArray.size = ROW.size := by simp [hvl]; omega
    have hm1 := setRow_heap (w.drew.alloc (.cells ROW 28)) w.heap.size ROW (ROW.toList.take (i * 2) ++ (vs ++ ROW.toList.drop (i * 2 + vs.length))).toArray 28 (0, 0) hm0
    generalize hA1 : (ROW.toList.take (i * 2) ++ (vs ++ ROW.toList.drop (i * 2 + vs.length))).toArray = A1 at *
    have hA2s : (A1.toList.take ((i + 1) * 2) ++ (cs ++ A1.toList.drop ((i + 1) * 2 + cs.length))).toArray.size = A1.size := by simp [hcl]; omega
    have hm2 := setRow_heap ((w.drew.alloc (.cells ROW 28)).setRow w.heap.size A1).drew w.heap.size A1 (A1.toList.take ((i + 1) * 2) ++ (cs ++ A1.toList.drop ((i + 1) * 2 + cs.length))).toArray 28 (0, 0) hm1
    refine ⟨w.heap.size, G, 28, _, (0, 0), rfl, rfl, rfl, rfl, hm2, fun j _ hj => by simp at hj, by rw [hA2s, hA1s]; exact hRs, hGn, ?_, .inr ⟨rfl, rfl, ?_, fun j hj => ?_⟩⟩
    · subst hA1
      exact insGrowL arr.toList ROW.toList vs cs (i * 2) (n * 2) 2 ((i + 1) * 2) ((n + 1) * 2) (by omega) (by omega) (by omega) (by simp; omega) hvl hcs hRt
    · rw [setRow_size]
      show ((w.drew.alloc (.cells ROW 28)).setRow w.heap.size A1).heap.size = _
      rw [setRow_size]
      simp
    · rw [setRow_other _ _ _ _ (by omega)]
      show ((w.drew.alloc (.cells ROW 28)).setRow w.heap.size A1).heap[j]? = _
      rw [setRow_other _ _ _ _ (by omega)]
      exact heap_alloc_old w.drew _ hj


def insT : InsT := [(53, (28, 2, 24))]
theorem insT_ok : InsOk Try.prog insT := by
  intro f e sz bytes h
  by_cases h53 : f = 53
  · subst h53
    simp [insT, List.lookup] at h
    obtain ⟨rfl, rfl, rfl⟩ := h
    exact ⟨insF53, _, Try.func53, by kernel_rfl, by kernel_rfl⟩
  have e53 : (f == 53) = false := by simpa using h53
  simp [insT, List.lookup, e53] at h

set_option linter.unusedSimpArgs false
set_option linter.unusedVariables false

theorem iqU53 : Try.prog.underlying 24 = some (.slice 28) := by kernel_rfl
theorem iqI53 : Try.prog.underlying 3 = some (.int .i64) := by kernel_rfl
theorem iqE53 : ∃ (inf : TypeInfo) (z : Value), Try.prog.info? 28 = some inf ∧ inf.size = 2 ∧ inf.zero = some z ∧ z.cells.size = 2 ∧ inf.bytes = 24 := insE_of (by kernel_rfl)
set_option maxHeartbeats 4000000 in
theorem iqShift53 {inf : TypeInfo} (hinf : Try.prog.info? 28 = some inf) (hsz : inf.size = 2) (w : World) (b i n c vb vo vc : Nat) (arr : Array Value) (tb : Nat) (fz : Nat × Nat) (cs vs : List Value) (hmem : w.heap[b]? = some (.cells arr tb fz)) (hf : ∀ j, j < arr.size → ¬ (fz.1 ≤ j ∧ j < fz.2))
    (hi : i < n) (hroom : n + 1 ≤ c) (hsize : arr.size = c * 2) (hby : (n + 1) * 24 ≤ 140737488355328) (hbn : vb ≠ b)
    (hcs : cs = (arr.toList.take (n * 2)).drop (i * 2)) (hvl : vs.length = 2) (hvs : ∀ (j : Nat) (u : Value), vs[j]? = some u → w.cell? ⟨vb, vo + j, none⟩ = some u) (h1c : ∀ u ∈ cs, u.oneCell' = true) (h1v : ∀ u ∈ vs, u.oneCell' = true)
    (hov : ∀ y, (callFunc 80 #[.slice (some ⟨vb, vo, none⟩) 1 vc, .slice (some ⟨b, (i + 1) * 2, none⟩) (n - i) y]).run Try.prog w = .ok (.value (.bool false)) w) (A1 A2 : Array Value)
    (hA1 : A1 = (arr.toList.take ((i + 1) * 2) ++ (cs ++ arr.toList.drop ((i + 1) * 2 + cs.length))).toArray) (hA2 : A2 = (A1.toList.take (i * 2) ++ (vs ++ A1.toList.drop (i * 2 + vs.length))).toArray) :
    Calls Try.prog 53 #[.slice (some ⟨b, 0, none⟩) n c, .int .i64 (i : Nat), .slice (some ⟨vb, vo, none⟩) 1 vc] w fun e w' => e = .returned (.slice (some ⟨b, 0, none⟩) (n + 1) c) ∧ w' = (w.drew.setRow b A1).setRow b A2 := by
  have mixed := mixed
  have hz2 : ¬ ((i : Int) = (n : Int)) := by omega
  have hw1 : IntKind.i64.wrap ((i : Int) + (1 : Int)) = (i : Int) + (1 : Int) := by rw [IntKind.wrap_i64]; omega
  have hw2 : IntKind.i64.wrap ((n : Int) + (1 : Int)) = (n : Int) + (1 : Int) := by rw [IntKind.wrap_i64]; omega
  have hcl : cs.length = (n - i) * 2 := by rw [hcs]; simp; omega
  have hA1s : A1.size = arr.size := by rw [hA1]; simp [hcl]; omega
  have hcp1 : ∀ ty dc sc, (Builtin.copy_ #[24, 24] ty #[.slice (some ⟨b, (i + 1) * 2, none⟩) (n - i) dc, .slice (some ⟨b, i * 2, none⟩) (n + 1 - i) sc]).run Try.prog w.drew = .ok (.int .i64 ((n - i : Nat) : Int)) (w.drew.setRow b A1) := fun ty dc sc => by
    rw [hA1]
    refine run_copyR iqU53 hinf w.drew (fz := fz) hmem hf _ _ _ (m := n + 1 - i) (k := n - i) (by omega) (lenOf_slice _ _ _ _) (run_firstCells_some w.drew _ _ _ _ _ _ (by rw [hsz]; exact hcl) (fun j v hj => ?_)) (by omega) h1c
    rw [hcs, List.getElem?_drop, List.getElem?_take] at hj
    split at hj
    · have : (⟨b, i * 2, none⟩ : Addr).add j = ⟨b, i * 2 + j, none⟩ := by unfold Addr.add; split <;> simp_all
      rw [this]
      have e : w.drew.cell? ⟨b, i * 2 + j, none⟩ = arr[i * 2 + j]? := by simp [World.cell?, show w.drew.heap = w.heap from rfl, hmem]
      rw [e]; simpa using hj
    · cases hj
  have hcp2 : ∀ (W : World), W.heap = (w.drew.setRow b A1).heap → ∀ ty dc, (Builtin.copy_ #[24, 24] ty #[.slice (some ⟨b, i * 2, none⟩) (n + 1 - i) dc, .slice (some ⟨vb, vo, none⟩) 1 vc]).run Try.prog W = .ok (.int .i64 ((1 : Nat) : Int)) (W.setRow b A2) := fun W hW ty dc => by
    rw [hA2]
    have hm1 : W.heap[b]? = some (.cells A1 tb fz) := by rw [hW]; exact setRow_heap w.drew b arr A1 tb fz hmem
    refine run_copyR iqU53 hinf W (fz := fz) hm1 (by rw [hA1s]; exact hf) _ _ _ (m := 1) (k := 1) (by omega) (lenOf_slice _ _ _ _) (run_firstCells_some W _ _ _ _ _ _ (by rw [hsz]; exact hvl) (fun j v hj => ?_)) (by omega) h1v
    have : (⟨vb, vo, none⟩ : Addr).add j = ⟨vb, vo + j, none⟩ := by unfold Addr.add; split <;> simp_all
    rw [this]
    have e : W.cell? ⟨vb, vo + j, none⟩ = w.cell? ⟨vb, vo + j, none⟩ := cell_congr (by rw [hW]; exact setRow_other w.drew b vb A1 hbn)
    rw [e]; exact hvs j v hj
  have hb1 : (0 : Int) ≤ (i : Int) + 1 := by omega
  have hin : i ≤ n := by omega
  have hb2 : ¬ (c = i + 1) := by omega
  have hb4 : ¬ (c = i) := by omega
  have hb3 : (i : Int) ≤ (n : Int) + 1 := by omega
  clear hcs hA1 hA2
  go_enter Try.func53, Try.ntmps53
  go_wp2_with (simp only [hov])
  go_region_law_o (refine step_copy_runR rfl _ _ 24 24 rfl _ _ (by simp [Act.eval, Act.put]) (by simp [Act.eval, Act.put]) (hcp1 _ _ _) ?_)
  go_wp2_with (at_builtin; refine wpList_copy_runR _ rfl _ _ 24 24 rfl _ _ rfl rfl (hcp2 _ rfl _ _) ?_)
  go_ret
  exact ⟨rfl, rfl⟩
set_option maxHeartbeats 4000000 in
theorem iqGrow53 {inf : TypeInfo} {z : Value} (hinf : Try.prog.info? 28 = some inf) (hsz : inf.size = 2) (hzz : inf.zero = some z) (hzs : z.cells.size = 2) (hbb : inf.bytes = 24) (w : World) (b i n c vb vo vc : Nat) (arr : Array Value) (tb : Nat) (fz : Nat × Nat) (cs vs : List Value) (hmem : w.heap[b]? = some (.cells arr tb fz))
    (hi : i < n) (hnc : n ≤ c) (hroom : ¬ (n + 1 ≤ c)) (hsize : arr.size = c * 2) (hby : (n + 1) * 24 ≤ 140737488355328) (va : Array Value) (tv : Nat) (fv : Nat × Nat) (hmemv : w.heap[vb]? = some (.cells va tv fv))
    (hcs : cs = (arr.toList.take (n * 2)).drop (i * 2)) (hvl : vs.length = 2) (hvs : ∀ (j : Nat) (u : Value), vs[j]? = some u → va[vo + j]? = some u) (h1c : ∀ u ∈ cs, u.oneCell' = true) (h1v : ∀ u ∈ vs, u.oneCell' = true)
    (G : Nat) (hG : G = grownCap w (n + 1) c 28) (ROW A1 A2 : Array Value)
    (hROW : ROW = (arr.toList.take (i * 2)).toArray ++ Builtin.zeroCells z.cells (n + 1 - i) ++ Builtin.zeroCells z.cells (G - (n + 1)))
    (hA1 : A1 = (ROW.toList.take (i * 2) ++ (vs ++ ROW.toList.drop (i * 2 + vs.length))).toArray) (hA2 : A2 = (A1.toList.take ((i + 1) * 2) ++ (cs ++ A1.toList.drop ((i + 1) * 2 + cs.length))).toArray) :
    Calls Try.prog 53 #[.slice (some ⟨b, 0, none⟩) n c, .int .i64 (i : Nat), .slice (some ⟨vb, vo, none⟩) 1 vc] w fun e w' => e = .returned (.slice (some ⟨w.heap.size, 0, none⟩) (n + 1) G) ∧ w' = (((w.drew.alloc (.cells ROW 28)).setRow w.heap.size A1).drew).setRow w.heap.size A2 := by
  have mixed := mixed
  have hz2 : ¬ ((i : Int) = (n : Int)) := by omega
  have hw1 : IntKind.i64.wrap ((i : Int) + (1 : Int)) = (i : Int) + (1 : Int) := by rw [IntKind.wrap_i64]; omega
  have hw2 : IntKind.i64.wrap ((n : Int) + (1 : Int)) = (n : Int) + (1 : Int) := by rw [IntKind.wrap_i64]; omega
  have hw3 : IntKind.i64.wrap ((n : Int) + (1 : Int) - (i : Int)) = (n : Int) + (1 : Int) - (i : Int) := by rw [IntKind.wrap_i64]; omega
  have hcl : cs.length = (n - i) * 2 := by rw [hcs]; simp; omega
  have hGn : n + 1 ≤ G := by rw [hG]; exact grownCap_ge w _ _ _
  have hbw : b < w.heap.size := (Array.getElem?_eq_some_iff.1 hmem).1
  have hvw : vb < w.heap.size := (Array.getElem?_eq_some_iff.1 hmemv).1
  have hzc : ∀ k, (Builtin.zeroCells z.cells k).size = k * 2 := fun k => by rw [size_zeroCells, hzs]
  have hRs : ROW.size = G * 2 := by
    rw [hROW]; simp only [Array.size_append, hzc, List.size_toArray, List.length_take, Array.length_toList]; omega
  have hA1s : A1.size = ROW.size := by rw [hA1]; simp [hvl]; omega
  have hold : (Builtin.firstCells inf.size i (.slice (some ⟨b, 0, none⟩) i c)).run Try.prog w.drew = .ok (arr.toList.take (i * 2)).toArray w.drew := by
    rw [hsz]
    refine run_firstCells_some w.drew 2 i ⟨b, 0, none⟩ i c (arr.toList.take (i * 2)) (by rw [List.length_take]; simp; omega) (fun j v hj => ?_)
    rw [List.getElem?_take] at hj
    split at hj
    · have : (⟨b, 0, none⟩ : Addr).add j = ⟨b, j, none⟩ := by unfold Addr.add; split <;> simp_all
      rw [this]
      have e : w.drew.cell? ⟨b, j, none⟩ = arr[j]? := by simp [World.cell?, show w.drew.heap = w.heap from rfl, hmem]
      rw [e]; simpa using hj
    · cases hj
  have hik : i + (n + 1 - i) = n + 1 := by omega
  have hkk : (n : Int) + 1 - (i : Int) = ((n + 1 - i : Nat) : Int) := by omega
  obtain ⟨W1, hW1⟩ : ∃ W1, W1 = w.drew.alloc (.cells ROW 28) := ⟨_, rfl⟩
  have hrz : ∀ ty, (Builtin.append_ #[24, 3] ty #[.slice (some ⟨b, 0, none⟩) i c, .int .i64 ((n : Int) + 1 - (i : Int))]).run Try.prog w = .ok (.slice (some ⟨w.heap.size, 0, none⟩) (n + 1) G) W1 := fun ty => by
    have hnx := nextslicecap_le (need := n + 1) (old := c) (by omega)
    have h := Lib.run_append_grow_zeros w 24 3 ty 28 inf z .i64 .i64 iqU53 iqI53 hinf hzz (some ⟨b, 0, none⟩) i c (arr.toList.take (i * 2)) hold (n + 1 - i) (by omega) (by omega) (by omega) (by omega) (by rw [hbb]; omega) (by rw [hbb, hik]; omega)
    rw [hik, ← hG, ← hROW, ← hW1] at h
    rw [hkk]
    exact h
  have hWn : W1.heap[w.heap.size]? = some (.cells ROW 28 (0, 0)) := by rw [hW1]; exact heap_alloc_new w.drew _
  have hWo : ∀ j, j < w.heap.size → W1.heap[j]? = w.heap[j]? := fun j hj => by rw [hW1]; exact heap_alloc_old w.drew _ hj
  have hcp1 : ∀ (W : World), W.heap = W1.heap → ∀ ty dc, (Builtin.copy_ #[24, 24] ty #[.slice (some ⟨w.heap.size, i * 2, none⟩) (n + 1 - i) dc, .slice (some ⟨vb, vo, none⟩) 1 vc]).run Try.prog W = .ok (.int .i64 ((1 : Nat) : Int)) (W.setRow w.heap.size A1) := fun W hW ty dc => by
    rw [hA1]
    refine run_copyR iqU53 hinf W (fz := (0, 0)) (by rw [hW]; exact hWn) (fun j _ hj => by simp at hj) _ _ _ (m := 1) (k := 1) (by omega) (lenOf_slice _ _ _ _) (run_firstCells_some W _ _ _ _ _ _ (by rw [hsz]; exact hvl) (fun j v hj => ?_)) (by omega) h1v
    have : (⟨vb, vo, none⟩ : Addr).add j = ⟨vb, vo + j, none⟩ := by unfold Addr.add; split <;> simp_all
    rw [this]
    have e : W.cell? ⟨vb, vo + j, none⟩ = va[vo + j]? := by simp [World.cell?, hW, hWo vb hvw, hmemv]
    rw [e]; exact hvs j v hj
  have hcp2 : ∀ (W : World), W.heap = (W1.setRow w.heap.size A1).heap → ∀ ty dc sc, (Builtin.copy_ #[24, 24] ty #[.slice (some ⟨w.heap.size, (i + 1) * 2, none⟩) (n - i) dc, .slice (some ⟨b, i * 2, none⟩) (n - i) sc]).run Try.prog W = .ok (.int .i64 ((n - i : Nat) : Int)) (W.setRow w.heap.size A2) := fun W hW ty dc sc => by
    rw [hA2]
    have hm1 : W.heap[w.heap.size]? = some (.cells A1 28 (0, 0)) := by rw [hW]; exact setRow_heap W1 w.heap.size ROW A1 28 (0, 0) hWn
    refine run_copyR iqU53 hinf W (fz := (0, 0)) hm1 (fun j _ hj => by simp at hj) _ _ _ (m := n - i) (k := n - i) (by omega) (lenOf_slice _ _ _ _) (run_firstCells_some W _ _ _ _ _ _ (by rw [hsz]; exact hcl) (fun j v hj => ?_)) (by omega) h1c
    rw [hcs, List.getElem?_drop, List.getElem?_take] at hj
    split at hj
    · have : (⟨b, i * 2, none⟩ : Addr).add j = ⟨b, i * 2 + j, none⟩ := by unfold Addr.add; split <;> simp_all
      rw [this]
      have e : W.cell? ⟨b, i * 2 + j, none⟩ = arr[i * 2 + j]? := by
        have e1 : W.heap[b]? = w.heap[b]? := by rw [hW, setRow_other W1 w.heap.size b A1 (by omega)]; exact hWo b hbw
        simp [World.cell?, e1, hmem]
      rw [e]; simpa using hj
    · cases hj
  have hb1 : (0 : Int) ≤ (i : Int) + 1 := by omega
  have hin : i ≤ n := by omega
  have hb2 : ¬ (G = i + 1) := by omega
  have hb4 : ¬ (c = i) := by omega
  have hb5 : ¬ (G = i) := by omega
  have hb3 : (i : Int) ≤ (n : Int) + 1 := by omega
  have hb6 : (c : Int) < (n : Int) + 1 := by omega
  have hb7 : i ≤ c := by omega
  rw [← hW1]
  clear hG hcs hA1 hA2 hW1 hold hROW hWn hWo hik hkk
  go_enter Try.func53, Try.ntmps53
  go_wp2_with (first
    | (at_builtin; refine Lib.wpList_append_run _ rfl _ _ _ _ rfl _ _ rfl rfl _ _ (hrz _) ?_)
    | (at_builtin; refine wpList_copy_runR _ rfl _ _ 24 24 rfl _ _ rfl rfl (hcp1 _ (by exact rfl) _ _) ?_))
  have hF : ((W1.setRow w.heap.size A1).drew).heap = (W1.setRow w.heap.size A1).heap := rfl
  go_region_law_o (refine step_copy_runR rfl _ _ 24 24 rfl (.slice (some ⟨w.heap.size, (i + 1) * 2, none⟩) (n - i) (G - (i + 1))) (.slice (some ⟨b, i * 2, none⟩) (n - i) (c - i)) (by simp [Act.eval, Act.put]) (by simp [Act.eval, Act.put]) (hcp2 _ hF 3 (G - (i + 1)) (c - i)) ?_)
  go_wp2
  go_ret
  exact ⟨rfl, rfl⟩
theorem insP53 : InsP Try.prog 53 28 2 24 := by
  intro w b i n c vb vo vc arr va tb tv fz fv vs hmem hsize hf hmemv hbn hvl hvs h1v h1c hi hnc hby
  obtain ⟨inf, z, hinf, hsz, hzz, hzs, hbb⟩ := iqE53
  obtain ⟨cs, hcs⟩ : ∃ cs, cs = (arr.toList.take (n * 2)).drop (i * 2) := ⟨_, rfl⟩
  have h1 : ∀ u ∈ cs, u.oneCell' = true := fun u hu => h1c u (by rw [hcs] at hu; exact List.mem_of_mem_drop hu)
  have hcl : cs.length = (n - i) * 2 := by rw [hcs]; simp; omega
  by_cases hroom : n + 1 ≤ c
  · have hvo : vo < va.size := by
      have := hvs 0 vs[0] (List.getElem?_eq_getElem (by omega))
      have := (Array.getElem?_eq_some_iff.1 this).1
      omega
    have hov : ∀ y, (callFunc 80 #[.slice (some ⟨vb, vo, none⟩) 1 vc, .slice (some ⟨b, (i + 1) * 2, none⟩) (n - i) y]).run Try.prog w = .ok (.value (.bool false)) w := fun y => by
      rw [run_callFunc_extern Try.func80 (by kernel_rfl) (by kernel_rfl) (by kernel_rfl) (e := Extern.SlicesOverlaps.overlaps #[24, 24] #[4]) (by kernel_rfl),
        overlaps_apart2 w 24 4 28 iqU53 2 (fun w => by rw [run_size hinf, hsz]) ⟨vb, vo, none⟩ ⟨b, (i + 1) * 2, none⟩ 1 vc (n - i) y hbn tv tb va.size arr.size (by simp [World.shape?, hmemv]) (by simp [World.shape?, hmem]) (by omega)
          (by have := hf ((i + 1) * 2) (by omega); simp only [World.frozen?, hmem]; simp; omega) (by have := hf arr.size (Nat.le_refl _); simp only [World.frozen?, hmem]; simp; omega)]
      rfl
    refine (iqShift53 hinf hsz w b i n c vb vo vc arr tb fz cs vs hmem (fun j hj => hf j (by omega)) hi hroom hsize hby hbn hcs hvl (fun j u hj => by simpa [World.cell?, hmemv] using hvs j u hj) h1 h1v hov _ _ rfl rfl).mono fun x w' => ?_
    rintro ⟨rfl, rfl⟩
    have hA1s : (arr.toList.take ((i + 1) * 2) ++ (cs ++ arr.toList.drop ((i + 1) * 2 + cs.length))).toArray.size = arr.size := by simp [hcl]; omega
    have hm1 := setRow_heap w.drew b arr (arr.toList.take ((i + 1) * 2) ++ (cs ++ arr.toList.drop ((i + 1) * 2 + cs.length))).toArray tb fz hmem
    generalize hA1 : (arr.toList.take ((i + 1) * 2) ++ (cs ++ arr.toList.drop ((i + 1) * 2 + cs.length))).toArray = A1 at *
    have hA2s : (A1.toList.take (i * 2) ++ (vs ++ A1.toList.drop (i * 2 + vs.length))).toArray.size = A1.size := by simp [hvl]; omega
    have hm2 := setRow_heap (w.drew.setRow b A1) b A1 (A1.toList.take (i * 2) ++ (vs ++ A1.toList.drop (i * 2 + vs.length))).toArray tb fz hm1
    refine ⟨b, c, tb, _, fz, rfl, rfl, rfl, rfl, hm2, fun j hj => hf j (by rw [hA2s, hA1s] at hj; exact hj), by rw [hA2s, hA1s]; exact hsize, hroom, ?_, .inl ⟨rfl, rfl, by rw [hA2s, hA1s], by rw [setRow_size, setRow_size]; rfl, fun j hj => ?_⟩⟩
    · subst hA1
      exact insShiftL arr.toList vs cs (i * 2) (n * 2) 2 ((i + 1) * 2) ((n + 1) * 2) (by omega) (by omega) (by omega) (by simp; omega) hvl hcs
    · rw [setRow_other _ _ _ _ hj, setRow_other _ _ _ _ hj]; rfl
  · refine (iqGrow53 hinf hsz hzz hzs hbb w b i n c vb vo vc arr tb fz cs vs hmem hi hnc hroom hsize hby va tv fv hmemv hcs hvl hvs h1 h1v _ rfl _ _ _ rfl rfl rfl).mono fun x w' => ?_
    rintro ⟨rfl, rfl⟩
    have hGn : n + 1 ≤ grownCap w (n + 1) c 28 := grownCap_ge w _ _ _
    have hzc : ∀ k, (Builtin.zeroCells z.cells k).size = k * 2 := fun k => by rw [size_zeroCells, hzs]
    have hRs : ((arr.toList.take (i * 2)).toArray ++ Builtin.zeroCells z.cells (n + 1 - i) ++ Builtin.zeroCells z.cells (grownCap w (n + 1) c 28 - (n + 1))).size = grownCap w (n + 1) c 28 * 2 := by
      simp only [Array.size_append, hzc, List.size_toArray, List.length_take, Array.length_toList]; omega
    have hRt : ((arr.toList.take (i * 2)).toArray ++ Builtin.zeroCells z.cells (n + 1 - i) ++ Builtin.zeroCells z.cells (grownCap w (n + 1) c 28 - (n + 1))).toList.take (i * 2) = arr.toList.take (i * 2) := by
      simp only [Array.toList_append, List.append_assoc]
      exact List.take_left' (by simp; omega)
    generalize hG : grownCap w (n + 1) c 28 = G at *
    generalize hR : (arr.toList.take (i * 2)).toArray ++ Builtin.zeroCells z.cells (n + 1 - i) ++ Builtin.zeroCells z.cells (G - (n + 1)) = ROW at *
    have hm0 : (w.drew.alloc (.cells ROW 28)).heap[w.heap.size]? = some (.cells ROW 28 (0, 0)) := heap_alloc_new w.drew _
    have hA1s : (ROW.toList.take (i * 2) ++ (vs ++ ROW.toList.drop (i * 2 + vs.length))).toArray.size = ROW.size := by simp [hvl]; omega
    have hm1 := setRow_heap (w.drew.alloc (.cells ROW 28)) w.heap.size ROW (ROW.toList.take (i * 2) ++ (vs ++ ROW.toList.drop (i * 2 + vs.length))).toArray 28 (0, 0) hm0
    generalize hA1 : (ROW.toList.take (i * 2) ++ (vs ++ ROW.toList.drop (i * 2 + vs.length))).toArray = A1 at *
    have hA2s : (A1.toList.take ((i + 1) * 2) ++ (cs ++ A1.toList.drop ((i + 1) * 2 + cs.length))).toArray.size = A1.size := by simp [hcl]; omega
    have hm2 := setRow_heap ((w.drew.alloc (.cells ROW 28)).setRow w.heap.size A1).drew w.heap.size A1 (A1.toList.take ((i + 1) * 2) ++ (cs ++ A1.toList.drop ((i + 1) * 2 + cs.length))).toArray 28 (0, 0) hm1
    refine ⟨w.heap.size, G, 28, _, (0, 0), rfl, rfl, rfl, rfl, hm2, fun j _ hj => by simp at hj, by rw [hA2s, hA1s]; exact hRs, hGn, ?_, .inr ⟨rfl, rfl, ?_, fun j hj => ?_⟩⟩
    · subst hA1
      exact insGrowL arr.toList ROW.toList vs cs (i * 2) (n * 2) 2 ((i + 1) * 2) ((n + 1) * 2) (by omega) (by omega) (by omega) (by simp; omega) hvl hcs hRt
    · rw [setRow_size]
      show ((w.drew.alloc (.cells ROW 28)).setRow w.heap.size A1).heap.size = _
      rw [setRow_size]
      simp
    · rw [setRow_other _ _ _ _ (by omega)]
      show ((w.drew.alloc (.cells ROW 28)).setRow w.heap.size A1).heap[j]? = _
      rw [setRow_other _ _ _ _ (by omega)]
      exact heap_alloc_old w.drew _ hj


set_option maxHeartbeats 4000000 in
theorem insEndN53 (w : World) (n c : Nat) (a : Addr) (vc : Nat) (hnc : n ≤ c) (hc0 : c = 0) (hn : n ≤ 140737488355328) (x : Option Addr) (m k : Nat) {w1 : World}
    (hap : ∀ ty, (Builtin.append_ #[24, 24] ty #[.slice none n c, .slice (some a) 1 vc]).run Try.prog w = .ok (.slice x m k) w1) :
    Calls Try.prog 53 #[.slice none n c, .int .i64 (n : Nat), .slice (some a) 1 vc] w fun e w' => e = .returned (.slice x m k) ∧ w' = w1 := by
  have mixed := mixed
  have hb1 : (0 : Int) ≤ (n : Int) := by omega
  have hb2 : (n : Int) ≤ (n : Int) := Int.le_refl _
  have hb7 : (n : Int) ≤ (c : Int) := by omega
  have hn0 : n = 0 := by omega
  subst hc0 hn0
  all_goals
    go_enter Try.func53, Try.ntmps53
    go_wp2_with (at_builtin; refine Lib.wpList_append_run _ rfl _ _ _ _ rfl _ _ rfl rfl _ _ (hap _) ?_)
    all_goals
      go_ret
      exact ⟨rfl, rfl⟩


set_option maxHeartbeats 4000000 in
theorem insEndS53 (w : World) (b : Addr) (n c : Nat) (a : Addr) (vc : Nat) (hnc : n ≤ c) (hn : n ≤ 140737488355328) (x : Option Addr) (m k : Nat) {w1 : World}
    (hap : ∀ ty, (Builtin.append_ #[24, 24] ty #[.slice (some b) n c, .slice (some a) 1 vc]).run Try.prog w = .ok (.slice x m k) w1) :
    Calls Try.prog 53 #[.slice (some b) n c, .int .i64 (n : Nat), .slice (some a) 1 vc] w fun e w' => e = .returned (.slice x m k) ∧ w' = w1 := by
  have mixed := mixed
  have hb1 : (0 : Int) ≤ (n : Int) := by omega
  have hb2 : (n : Int) ≤ (n : Int) := Int.le_refl _
  have hb7 : (n : Int) ≤ (c : Int) := by omega
  have hb8 : True := trivial
  by_cases hcn : c = n
  all_goals
    go_enter Try.func53, Try.ntmps53
    go_wp2_with (at_builtin; refine Lib.wpList_append_run _ rfl _ _ _ _ rfl _ _ rfl rfl _ _ (hap _) ?_)
    all_goals
      go_ret
      exact ⟨rfl, rfl⟩


theorem insN53 : InsE Try.prog 53 24 28 2 24 := by
  refine ⟨iqU53, ?_, fun w base n c a vc hnc hbn hn x m k w1 hap => ?_⟩
  · obtain ⟨inf, z, h1, h2, h3, h4, h5⟩ := iqE53
    exact ⟨inf, z, h1, h2, h3, h4, h5⟩
  · cases base with
    | none => exact insEndN53 w n c a vc hnc (hbn rfl) hn x m k hap
    | some b => exact insEndS53 w b n c a vc hnc hn x m k hap

def tyN : Nat → Ty
  | 0 => .unit
  | n + 1 => .pair (.int .i64) (tyN n)
theorem cA51 : isA ((evOY nonJ noneΞ [85] P0 100000 60).1 51 [.snil] []) = true := by kernel_rfl
theorem cB51 : isB ((evOY nonJ noneΞ [85] P0 100000 60).1 51 [.nl ⟨tyN 2, []⟩] []) = true := by kernel_rfl
noncomputable def YC0 : Orc := addC 51 noneΞ
theorem okYC0 : GammaOk2 P0 YC0 := addC_ok (noneΞ_ok2 _) (evOY_ok (nonJ_ok _) (noneΞ_ok2 _) mixed progOk_ 60).1 cA51 cB51
noncomputable def con_law15_begun (N : Nat) : Con := ⟨14, [], [], Unit, fun _ => some (), fun _ => (.bs true, [], [])⟩
theorem con_law15_begun_ok (N : Nat) : Con.ok P0 (con_law15_begun N) := closed_con2 (insIn_ok insT_ok) mixed progOk_ okYC0 (inl := [85]) (breath := 100000) (n := 60) (by kernel_rfl)
def as_slices_Clone_api_Item : List AS := [.val (.list (.agg (.pair (.int .i64) .str)))]
def bs_slices_Clone_api_Item : List BS := []
def pout_slices_Clone_api_Item : Pat := ⟨[(2, .acc 700005)], [(700005, .nrow 28 (.agg (.pair (.int .i64) .str)) false true)]⟩
noncomputable def G_slices_Clone_api_Item  (N : Nat) : OrcT := orcOf []
noncomputable def F_slices_Clone_api_Item  (N : Nat) (x : List (Int × List UInt8)) : Option (List (Int × List UInt8)) :=
  (evT (G_slices_Clone_api_Item  N) L0 P0 []
    [] N 400 (bodyOf Try.f51) ⟨8, slots 0 [.nl ⟨(.agg (.pair (.int .i64) .str)), x⟩], tabU (lbOf as_slices_Clone_api_Item bs_slices_Clone_api_Item x) [], []⟩).elim (kRet 8 pout_slices_Clone_api_Item (kpL []) (lbOf as_slices_Clone_api_Item bs_slices_Clone_api_Item x))
def out_slices_Clone_api_Item (y : List (Int × List UInt8)) : V × List OK × List OK := (.acc 2000000 0, [], [.nrow 28 false true ⟨(.agg (.pair (.int .i64) .str)), y⟩])
noncomputable def V_slices_Clone_api_Item  (N : Nat) (x : List (Int × List UInt8)) : Option (List (Int × List UInt8)) :=
  cnd (decide (List.length x * (24 : Nat) ≤ (140737488355328 : Nat))) (some x) none
theorem FV_slices_Clone_api_Item_eq  (N : Nat) (x : List (Int × List UInt8)) : F_slices_Clone_api_Item  N x = V_slices_Clone_api_Item  N x := by kernel_rfl
noncomputable def W_slices_Clone_api_Item (N : Nat) (x : List (Int × List UInt8)) : Option (List (Int × List UInt8)) :=
  cnd (decide (List.length x * (24 : Nat) ≤ (140737488355328 : Nat))) (some x) none
theorem F_slices_Clone_api_Item_eq (N : Nat) (x : List (Int × List UInt8)) : F_slices_Clone_api_Item  N x = W_slices_Clone_api_Item N x := (FV_slices_Clone_api_Item_eq  N x).trans (by kernel_rfl)
noncomputable def conw_slices_Clone_api_Item (w : List (Int × List UInt8) → Option (List (Int × List UInt8))) : Con := ⟨51, as_slices_Clone_api_Item, bs_slices_Clone_api_Item, List (Int × List UInt8), w, out_slices_Clone_api_Item⟩
noncomputable def con_slices_Clone_api_Item (N : Nat) : Con := conw_slices_Clone_api_Item (W_slices_Clone_api_Item N)
theorem R_slices_Clone_api_Item_eq (x : List (Int × List UInt8)) (y : List (Int × List UInt8)) : retOf2 P0 Try.f51 (kpL []) (lbOf as_slices_Clone_api_Item bs_slices_Clone_api_Item x) (patS ⟨8, [], [], []⟩ pout_slices_Clone_api_Item y) = some (out_slices_Clone_api_Item y) := by kernel_rfl
noncomputable def FA_slices_Clone_api_Item : Option (List (Int × List UInt8)) := (evT (G_slices_Clone_api_Item 1) L0 P0 [] [] 1 400 (bodyOf Try.f51) ⟨8, slots 0 [.snil], tabU [] [], []⟩).elim (kRet 8 pout_slices_Clone_api_Item (kpL []) [])
theorem FA_slices_Clone_api_Item_eq : FA_slices_Clone_api_Item = some [] := by kernel_rfl
theorem WN_slices_Clone_api_Item (N : Nat) (r : List (Int × List UInt8)) (h : W_slices_Clone_api_Item N [] = some r) : r = [] := by
  have e : W_slices_Clone_api_Item N [] = some [] := by kernel_rfl
  rw [e] at h; injection h with h; exact h.symm
theorem con_slices_Clone_api_Item_ok (N : Nat) : Con.ok P0 (con_slices_Clone_api_Item N) := ⟨⟨Try.f51, Try.func51, by kernel_rfl, by kernel_rfl⟩, fun (x : List (Int × List UInt8)) (r : List (Int × List UInt8)) (hr : W_slices_Clone_api_Item N x = some r) =>
  clone_split (e := (.agg (.pair (.int .i64) .str))) (ty := 28) (l := x) (r := r)
    (spec2_evT (Γ := G_slices_Clone_api_Item 1) (Λ := L0) (lb := []) (pout := pout_slices_Clone_api_Item) (kp := kpL []) mixed (orcOf_ok [] (by simp)) Try.func51 (c := bodyOf Try.f51) (by kernel_rfl) (by kernel_rfl) (of_decide_eq_true (by kernel_rfl)) FA_slices_Clone_api_Item_eq (R_slices_Clone_api_Item_eq x []))
    (spec2_evT (Γ := G_slices_Clone_api_Item N) (Λ := L0) (lb := []) (pout := pout_slices_Clone_api_Item) (kp := kpL []) mixed (orcOf_ok [] (by simp)) Try.func51 (c := bodyOf Try.f51) (by kernel_rfl) (by kernel_rfl) (of_decide_eq_true (by kernel_rfl)) ((F_slices_Clone_api_Item_eq N x).trans hr) (R_slices_Clone_api_Item_eq x r))
    (fun h => by subst h; exact WN_slices_Clone_api_Item N r hr)⟩
def as_win_place : List AS := [.val (.list (.agg (.pair (.int .i64) .str))), .val (.int .i64)]
def bs_win_place : List BS := []
def pout_win_place : Pat := ⟨[(4, .val (.alt 87 (.agg (.int .i64)) (.alt1 116 (.agg .unit))))], []⟩
noncomputable def G_win_place  (N : Nat) : OrcT := orcOf []
noncomputable def F_win_place  (N : Nat) (x : (List (Int × List UInt8)) × Int) : Option (Int ⊕ Unit) :=
  (evT (G_win_place  N) L0 P0 [(2, .loop [7] ⟨[(9, .val (.int .i64))], []⟩ [(.exit 0, ⟨[], []⟩), (.ret, ⟨[(4, .val (.alt 87 (.agg (.int .i64)) (.alt1 116 (.agg .unit))))], []⟩)])]
    [] N 400 (bodyOf Try.f52) ⟨32, slots 0 (argsOf as_win_place bs_win_place x), tabU (lbOf as_win_place bs_win_place x) [], []⟩).elim (kRet 32 pout_win_place (kpL []) (lbOf as_win_place bs_win_place x))
def out_win_place (y : Int ⊕ Unit) : V × List OK × List OK := (valW (.alt 87 (.agg (.int .i64)) (.alt1 116 (.agg .unit))) y, [], [])
noncomputable def V_win_place  (N : Nat) (x : (List (Int × List UInt8)) × Int) : Option (Int ⊕ Unit) :=
  obind (loopN N (fun (v : Int) => cnd (decide (v < (↑(List.length x.1) : Int))) (cnd (decide ((0 : Int) ≤ v) && decide (v < (↑(List.length x.1) :
    Int))) (cnd (decide (Prod.fst (List.getD x.1 (Int.toNat v) ((0 : Int), [])) = x.2)) (some (Sum.inr (Sum.inr (Sum.inr ())))) (cnd (decide (x.2 <
    Prod.fst (List.getD x.1 (Int.toNat v) ((0 : Int), [])))) (some (Sum.inr (Sum.inr (Sum.inl v)))) (some (Sum.inl (wr IntKind.i64 (v + (1 : Int)))))))
    none) (some (Sum.inr (Sum.inl ())))) (Int.ofNat (0 : Nat))) fun (b : PUnit ⊕ Int ⊕ PUnit) => selim (fun (b : PUnit) => some (Sum.inl (↑(List.length
    x.1) : Int))) (fun (c : Int ⊕ PUnit) => some c) b
theorem FV_win_place_eq  (N : Nat) (x : (List (Int × List UInt8)) × Int) : F_win_place  N x = V_win_place  N x := by kernel_rfl
noncomputable def W_win_place (N : Nat) (x : (List (Int × List UInt8)) × Int) : Option (Int ⊕ Unit) :=
  obind (loopN N (fun (v : Int) => cnd (decide (v < (↑(List.length x.1) : Int))) (cnd (decide ((0 : Int) ≤ v) && decide (v < (↑(List.length x.1) :
    Int))) (cnd (decide (Prod.fst (List.getD x.1 (Int.toNat v) ((0 : Int), [])) = x.2)) (some (Sum.inr (Sum.inr (Sum.inr ())))) (cnd (decide (x.2 <
    Prod.fst (List.getD x.1 (Int.toNat v) ((0 : Int), [])))) (some (Sum.inr (Sum.inr (Sum.inl v)))) (some (Sum.inl (wr IntKind.i64 (v + (1 : Int)))))))
    none) (some (Sum.inr (Sum.inl ())))) (Int.ofNat (0 : Nat))) fun (b : PUnit ⊕ Int ⊕ PUnit) => selim (fun (b : PUnit) => some (Sum.inl (↑(List.length
    x.1) : Int))) (fun (c : Int ⊕ PUnit) => some c) b
theorem F_win_place_eq (N : Nat) (x : (List (Int × List UInt8)) × Int) : F_win_place  N x = W_win_place N x := (FV_win_place_eq  N x).trans (by kernel_rfl)
noncomputable def conw_win_place (w : (List (Int × List UInt8)) × Int → Option (Int ⊕ Unit)) : Con := ⟨52, as_win_place, bs_win_place, Int ⊕ Unit, w, out_win_place⟩
noncomputable def con_win_place (N : Nat) : Con := conw_win_place (W_win_place N)
theorem R_win_place_eq (x : (List (Int × List UInt8)) × Int) (y : Int ⊕ Unit) : retOf2 P0 Try.f52 (kpL []) (lbOf as_win_place bs_win_place x) (patS ⟨32, [], [], []⟩ pout_win_place y) = some (out_win_place y) := by kernel_rfl
theorem con_win_place_ok (N : Nat) : Con.ok P0 (con_win_place N) := ⟨⟨Try.f52, Try.func52, by kernel_rfl, by kernel_rfl⟩, fun (x : (List (Int × List UInt8)) × Int) (r : Int ⊕ Unit) (hr : W_win_place N x = some r) =>
  spec2_evT (Γ := G_win_place N) (Λ := L0) (pout := pout_win_place) (kp := kpL []) mixed (orcOf_ok [] (by simp)) Try.func52 (c := bodyOf Try.f52) (by kernel_rfl) (by kernel_rfl) (of_decide_eq_true (by kernel_rfl)) ((F_win_place_eq N x).trans hr) (R_win_place_eq x r)⟩
def as_slices_Insert_api_Item : List AS := [.acc 0, .val (.int .i64), .val (.list (.agg (.pair (.int .i64) .str)))]
def bs_slices_Insert_api_Item : List BS := [.nrow 28 (.agg (.pair (.int .i64) .str)) true]
def out_slices_Insert_api_Item (y : List (Int × List UInt8)) : V × List OK × List OK := (.acc 2000000 0, [.dead], [.nrow 28 false true ⟨(.agg (.pair (.int .i64) .str)), y⟩])
noncomputable def W_slices_Insert_api_Item (N : Nat) (x : Int × (List (Int × List UInt8)) × List (Int × List UInt8)) : Option (List (Int × List UInt8)) :=
  cnd (decide ((0 : Int) ≤ x.1) && decide (x.1 ≤ ((↑(List.length x.2.2) : Int) : Int)) && decide (List.length x.2.1 = (1 : Nat)) && decide ((List.length
    x.2.2 + (1 : Nat)) * (24 : Nat) ≤ (140737488355328 : Nat))) (some (List.take (Int.toNat x.1) x.2.2 ++ (x.2.1 ++ List.drop (Int.toNat x.1) x.2.2)))
    none
noncomputable def conw_slices_Insert_api_Item (w : Int × (List (Int × List UInt8)) × List (Int × List UInt8) → Option (List (Int × List UInt8))) : Con := ⟨53, as_slices_Insert_api_Item, bs_slices_Insert_api_Item, List (Int × List UInt8), w, out_slices_Insert_api_Item⟩
noncomputable def con_slices_Insert_api_Item (N : Nat) : Con := conw_slices_Insert_api_Item (W_slices_Insert_api_Item N)
theorem con_slices_Insert_api_Item_ok (N : Nat) : Con.ok P0 (con_slices_Insert_api_Item N) := ⟨⟨Try.f53, Try.func53, by kernel_rfl, by kernel_rfl⟩, fun (x : Int × (List (Int × List UInt8)) × List (Int × List UInt8)) (r : List (Int × List UInt8)) (hr : W_slices_Insert_api_Item N x = some r) => by
  obtain ⟨i, s, l⟩ := x
  exact ins_con (e := (.agg (.pair (.int .i64) .str))) (t := 24) (ty := 28) (bytes := 24) (nl := true) (l := l) (r := s) (q := r) (i := i) insN53 insP53 rfl (by decide) (by decide) (by decide) hr⟩
def as_win_Put : List AS := [.val (.list (.agg (.pair (.int .i64) .str))), .val (.int .i64), .val (.agg (.pair (.int .i64) .str))]
def bs_win_Put : List BS := []
def pout_win_Put : Pat := ⟨[(6, .val (.list (.agg (.pair (.int .i64) .str)))), (7, .val .bool)], []⟩
noncomputable def G_win_Put (w_slices_Clone_api_Item : List (Int × List UInt8) → Option (List (Int × List UInt8))) (w_win_place : (List (Int × List UInt8)) × Int → Option (Int ⊕ Unit)) (w_slices_Insert_api_Item : Int × (List (Int × List UInt8)) × List (Int × List UInt8) → Option (List (Int × List UInt8))) (N : Nat) : OrcT := orcOf [conw_slices_Clone_api_Item w_slices_Clone_api_Item, conw_win_place w_win_place, conw_slices_Insert_api_Item w_slices_Insert_api_Item]
noncomputable def F_win_Put (w_slices_Clone_api_Item : List (Int × List UInt8) → Option (List (Int × List UInt8))) (w_win_place : (List (Int × List UInt8)) × Int → Option (Int ⊕ Unit)) (w_slices_Insert_api_Item : Int × (List (Int × List UInt8)) × List (Int × List UInt8) → Option (List (Int × List UInt8))) (N : Nat) (x : (List (Int × List UInt8)) × Int × Int × List UInt8) : Option ((List (Int × List UInt8)) × Bool) :=
  (evT (G_win_Put w_slices_Clone_api_Item w_win_place w_slices_Insert_api_Item N) L0 P0 []
    [(1000003, .reg [(8, [], ⟨[(5, .ptr 600005 0), (8, .acc 700042), (9, .ptr 600009 0), (28, .val .bool)], [(600005, .box 28 (.val (.pair (.int .i64) .str))), (700042, .nrow 28 (.agg (.pair (.int .i64) .str)) false true), (600009, .box 87 (.val (.int .i64)))]⟩)])] N 400 (bodyOf Try.f15) ⟨43, slots 0 (argsOf as_win_Put bs_win_Put x), tabU (lbOf as_win_Put bs_win_Put x) [], []⟩).elim (kRet 43 pout_win_Put (kpL []) (lbOf as_win_Put bs_win_Put x))
def out_win_Put (y : (List (Int × List UInt8)) × Bool) : V × List OK × List OK := (.tup [valW (.list (.agg (.pair (.int .i64) .str))) y.1, valW .bool y.2], [], [])
noncomputable def V_win_Put (w_slices_Clone_api_Item : List (Int × List UInt8) → Option (List (Int × List UInt8))) (w_win_place : (List (Int × List UInt8)) × Int → Option (Int ⊕ Unit)) (w_slices_Insert_api_Item : Int × (List (Int × List UInt8)) × List (Int × List UInt8) → Option (List (Int × List UInt8))) (N : Nat) (x : (List (Int × List UInt8)) × Int × Int × List UInt8) : Option ((List (Int × List UInt8)) × Bool) :=
  obind (w_slices_Clone_api_Item x.1) fun (b : List (Int × List UInt8)) => obind (w_win_place (x.1, x.2.2.1)) fun (b_1 : Int ⊕ PUnit) => selim (fun
    (b_2 : Int) => cnd (decide (x.2.2.1 < x.2.1)) (some (b, false)) (cnd (decide (wr IntKind.i64 (x.2.1 + (8 : Int)) ≤ x.2.2.1)) (some (b, false))
    (obind (w_slices_Insert_api_Item (b_2, [(x.2.2.1, x.2.2.2)], b)) fun (b : List (Int × List UInt8)) => some (b, true)))) (fun (c : PUnit) => cnd
    true (some (b, false)) (cnd (decide (wr IntKind.i64 (x.2.1 + (8 : Int)) ≤ x.2.2.1)) (some (b, false)) (obind (w_slices_Insert_api_Item ((0 : Int),
    [(x.2.2.1, x.2.2.2)], b)) fun (b : List (Int × List UInt8)) => some (b, true)))) b_1
theorem FV_win_Put_eq (w_slices_Clone_api_Item : List (Int × List UInt8) → Option (List (Int × List UInt8))) (w_win_place : (List (Int × List UInt8)) × Int → Option (Int ⊕ Unit)) (w_slices_Insert_api_Item : Int × (List (Int × List UInt8)) × List (Int × List UInt8) → Option (List (Int × List UInt8))) (N : Nat) (x : (List (Int × List UInt8)) × Int × Int × List UInt8) : F_win_Put w_slices_Clone_api_Item w_win_place w_slices_Insert_api_Item N x = V_win_Put w_slices_Clone_api_Item w_win_place w_slices_Insert_api_Item N x := by kernel_rfl
noncomputable def W_win_Put (N : Nat) (x : (List (Int × List UInt8)) × Int × Int × List UInt8) : Option ((List (Int × List UInt8)) × Bool) :=
  obind (W_slices_Clone_api_Item N x.1) fun (b : List (Int × List UInt8)) => obind (W_win_place N (x.1, x.2.2.1)) fun (b_1 : Int ⊕ PUnit) => selim (fun
    (b_2 : Int) => cnd (decide (x.2.2.1 < x.2.1)) (some (b, false)) (cnd (decide (wr IntKind.i64 (x.2.1 + (8 : Int)) ≤ x.2.2.1)) (some (b, false))
    (obind (W_slices_Insert_api_Item N (b_2, [(x.2.2.1, x.2.2.2)], b)) fun (b : List (Int × List UInt8)) => some (b, true)))) (fun (c : PUnit) => cnd
    true (some (b, false)) (cnd (decide (wr IntKind.i64 (x.2.1 + (8 : Int)) ≤ x.2.2.1)) (some (b, false)) (obind (W_slices_Insert_api_Item N ((0 : Int),
    [(x.2.2.1, x.2.2.2)], b)) fun (b : List (Int × List UInt8)) => some (b, true)))) b_1
theorem F_win_Put_eq (N : Nat) (x : (List (Int × List UInt8)) × Int × Int × List UInt8) : F_win_Put (W_slices_Clone_api_Item N) (W_win_place N) (W_slices_Insert_api_Item N) N x = W_win_Put N x := (FV_win_Put_eq (W_slices_Clone_api_Item N) (W_win_place N) (W_slices_Insert_api_Item N) N x).trans (by kernel_rfl)
noncomputable def conw_win_Put (w : (List (Int × List UInt8)) × Int × Int × List UInt8 → Option ((List (Int × List UInt8)) × Bool)) : Con := ⟨15, as_win_Put, bs_win_Put, (List (Int × List UInt8)) × Bool, w, out_win_Put⟩
noncomputable def con_win_Put (N : Nat) : Con := conw_win_Put (W_win_Put N)
theorem R_win_Put_eq (x : (List (Int × List UInt8)) × Int × Int × List UInt8) (y : (List (Int × List UInt8)) × Bool) : retOf2 P0 Try.f15 (kpL []) (lbOf as_win_Put bs_win_Put x) (patS ⟨43, [], [], []⟩ pout_win_Put y) = some (out_win_Put y) := by kernel_rfl
theorem con_win_Put_ok (N : Nat) : Con.ok P0 (con_win_Put N) := ⟨⟨Try.f15, Try.func15, by kernel_rfl, by kernel_rfl⟩, fun (x : (List (Int × List UInt8)) × Int × Int × List UInt8) (r : (List (Int × List UInt8)) × Bool) (hr : W_win_Put N x = some r) =>
  spec2_evT (Γ := G_win_Put (W_slices_Clone_api_Item N) (W_win_place N) (W_slices_Insert_api_Item N) N) (Λ := L0) (pout := pout_win_Put) (kp := kpL []) mixed (orcOf_ok _ (by simp only [List.mem_cons, List.not_mem_nil, or_false, forall_eq_or_imp, forall_eq]; exact ⟨con_slices_Clone_api_Item_ok N, con_win_place_ok N, con_slices_Insert_api_Item_ok N⟩)) Try.func15 (c := bodyOf Try.f15) (by kernel_rfl) (by kernel_rfl) (of_decide_eq_true (by kernel_rfl)) ((F_win_Put_eq N x).trans hr) (R_win_Put_eq x r)⟩
def as_ref13_SameItems : List AS := [.val (.list (.agg (.pair (.int .i64) .str))), .val (.list (.agg (.pair (.int .i64) .str)))]
def bs_ref13_SameItems : List BS := []
def pout_ref13_SameItems : Pat := ⟨[(4, .val .bool)], []⟩
noncomputable def G_ref13_SameItems  (N : Nat) : OrcT := orcOf []
noncomputable def F_ref13_SameItems  (N : Nat) (x : (List (Int × List UInt8)) × List (Int × List UInt8)) : Option (Bool) :=
  (evT (G_ref13_SameItems  N) L0 P0 [(4, .loop [] ⟨[(5, .val (.int .i64))], []⟩ [(.exit 0, ⟨[], []⟩), (.ret, ⟨[(4, .val .bool)], []⟩)])]
    [] N 400 (bodyOf Try.f16) ⟨26, slots 0 (argsOf as_ref13_SameItems bs_ref13_SameItems x), tabU (lbOf as_ref13_SameItems bs_ref13_SameItems x) [], []⟩).elim (kRet 26 pout_ref13_SameItems (kpL []) (lbOf as_ref13_SameItems bs_ref13_SameItems x))
def out_ref13_SameItems (y : Bool) : V × List OK × List OK := (valW .bool y, [], [])
noncomputable def V_ref13_SameItems  (N : Nat) (x : (List (Int × List UInt8)) × List (Int × List UInt8)) : Option (Bool) :=
  cnd (decide ((↑(List.length x.1) : Int) ≠ (↑(List.length x.2) : Int))) (some false) (obind (loopN N (fun (v : Int) => cnd (decide (v < (↑(List.length
    x.1) : Int))) (cnd (decide ((0 : Int) ≤ v) && decide (v < (↑(List.length x.1) : Int))) (cnd (decide ((0 : Int) ≤ v) && decide (v < (↑(List.length
    x.2) : Int))) (cnd (!(decide (Prod.fst (List.getD x.1 (Int.toNat v) ((0 : Int), [])) = Prod.fst (List.getD x.2 (Int.toNat v) ((0 : Int), []))) &&
    Prod.snd (List.getD x.1 (Int.toNat v) ((0 : Int), [])) == Prod.snd (List.getD x.2 (Int.toNat v) ((0 : Int), [])))) (some (Sum.inr (Sum.inr false)))
    (some (Sum.inl (wr IntKind.i64 (v + (1 : Int)))))) none) none) (some (Sum.inr (Sum.inl ())))) (Int.ofNat (0 : Nat))) fun (b : PUnit ⊕ Bool) => selim
    (fun (b : PUnit) => some true) (fun (c : Bool) => some c) b)
theorem FV_ref13_SameItems_eq  (N : Nat) (x : (List (Int × List UInt8)) × List (Int × List UInt8)) : F_ref13_SameItems  N x = V_ref13_SameItems  N x := by kernel_rfl
noncomputable def W_ref13_SameItems (N : Nat) (x : (List (Int × List UInt8)) × List (Int × List UInt8)) : Option (Bool) :=
  cnd (decide ((↑(List.length x.1) : Int) ≠ (↑(List.length x.2) : Int))) (some false) (obind (loopN N (fun (v : Int) => cnd (decide (v < (↑(List.length
    x.1) : Int))) (cnd (decide ((0 : Int) ≤ v) && decide (v < (↑(List.length x.1) : Int))) (cnd (decide ((0 : Int) ≤ v) && decide (v < (↑(List.length
    x.2) : Int))) (cnd (!(decide (Prod.fst (List.getD x.1 (Int.toNat v) ((0 : Int), [])) = Prod.fst (List.getD x.2 (Int.toNat v) ((0 : Int), []))) &&
    Prod.snd (List.getD x.1 (Int.toNat v) ((0 : Int), [])) == Prod.snd (List.getD x.2 (Int.toNat v) ((0 : Int), [])))) (some (Sum.inr (Sum.inr false)))
    (some (Sum.inl (wr IntKind.i64 (v + (1 : Int)))))) none) none) (some (Sum.inr (Sum.inl ())))) (Int.ofNat (0 : Nat))) fun (b : PUnit ⊕ Bool) => selim
    (fun (b : PUnit) => some true) (fun (c : Bool) => some c) b)
theorem F_ref13_SameItems_eq (N : Nat) (x : (List (Int × List UInt8)) × List (Int × List UInt8)) : F_ref13_SameItems  N x = W_ref13_SameItems N x := (FV_ref13_SameItems_eq  N x).trans (by kernel_rfl)
noncomputable def conw_ref13_SameItems (w : (List (Int × List UInt8)) × List (Int × List UInt8) → Option (Bool)) : Con := ⟨16, as_ref13_SameItems, bs_ref13_SameItems, Bool, w, out_ref13_SameItems⟩
noncomputable def con_ref13_SameItems (N : Nat) : Con := conw_ref13_SameItems (W_ref13_SameItems N)
theorem R_ref13_SameItems_eq (x : (List (Int × List UInt8)) × List (Int × List UInt8)) (y : Bool) : retOf2 P0 Try.f16 (kpL []) (lbOf as_ref13_SameItems bs_ref13_SameItems x) (patS ⟨26, [], [], []⟩ pout_ref13_SameItems y) = some (out_ref13_SameItems y) := by kernel_rfl
theorem con_ref13_SameItems_ok (N : Nat) : Con.ok P0 (con_ref13_SameItems N) := ⟨⟨Try.f16, Try.func16, by kernel_rfl, by kernel_rfl⟩, fun (x : (List (Int × List UInt8)) × List (Int × List UInt8)) (r : Bool) (hr : W_ref13_SameItems N x = some r) =>
  spec2_evT (Γ := G_ref13_SameItems N) (Λ := L0) (pout := pout_ref13_SameItems) (kp := kpL []) mixed (orcOf_ok [] (by simp)) Try.func16 (c := bodyOf Try.f16) (by kernel_rfl) (by kernel_rfl) (of_decide_eq_true (by kernel_rfl)) ((F_ref13_SameItems_eq N x).trans hr) (R_ref13_SameItems_eq x r)⟩
def as_law15_WinAny : List AS := [.val (.list (.int .u8)), .val (.int .u8), .val (.int .u8)]
def bs_law15_WinAny : List BS := []
def pout_law15_WinAny : Pat := ⟨[(6, .val .bool)], []⟩
noncomputable def G_law15_WinAny (w_win_Put : (List (Int × List UInt8)) × Int × Int × List UInt8 → Option ((List (Int × List UInt8)) × Bool)) (w_ref13_SameItems : (List (Int × List UInt8)) × List (Int × List UInt8) → Option (Bool)) (N : Nat) : OrcT := orcOf [con_law15_begun N, conw_win_Put w_win_Put, conw_ref13_SameItems w_ref13_SameItems]
noncomputable def F_law15_WinAny (w_win_Put : (List (Int × List UInt8)) × Int × Int × List UInt8 → Option ((List (Int × List UInt8)) × Bool)) (w_ref13_SameItems : (List (Int × List UInt8)) × List (Int × List UInt8) → Option (Bool)) (N : Nat) (x : (List Int) × Int × Int) : Option (Bool) :=
  (evT (G_law15_WinAny w_win_Put w_ref13_SameItems N) L0 P0 [(7, .loop [] ⟨[(7, .val (.list (.agg (.pair (.int .i64) .str)))), (8, .val (.int .i64))], []⟩ [(.exit 0, ⟨[(7, .val (.list (.agg (.pair (.int .i64) .str))))], []⟩)])]
    [(1000017, .reg [(10, [11], ⟨[(87, .val .bool)], []⟩)])] N 400 (bodyOf Try.f3) ⟨93, slots 0 (argsOf as_law15_WinAny bs_law15_WinAny x), tabU (lbOf as_law15_WinAny bs_law15_WinAny x) [], []⟩).elim (kRet 93 pout_law15_WinAny (kpL []) (lbOf as_law15_WinAny bs_law15_WinAny x))
def out_law15_WinAny (y : Bool) : V × List OK × List OK := (valW .bool y, [], [])
noncomputable def V_law15_WinAny (w_win_Put : (List (Int × List UInt8)) × Int × Int × List UInt8 → Option ((List (Int × List UInt8)) × Bool)) (w_ref13_SameItems : (List (Int × List UInt8)) × List (Int × List UInt8) → Option (Bool)) (N : Nat) (x : (List Int) × Int × Int) : Option (Bool) :=
  cnd (decide ((20 : Int) < (↑(List.length x.1) : Int))) (some true) (obind (loopN N (fun (v : List (Int × List UInt8) × Int) => cnd (decide (v.2 <
    (↑(List.length x.1) : Int))) (cnd (decide ((0 : Int) ≤ v.2) && decide (v.2 < (↑(List.length x.1) : Int))) (obind (w_win_Put (v.1, (3 : Int), wr
    IntKind.i64 ((3 : Int) + wr IntKind.i64 (Int.tmod (List.getD x.1 (Int.toNat v.2) (0 : Int)) (9 : Int))), [(120 : UInt8)])) fun (b : List (Int × List
    UInt8) × Bool) => some (Sum.inl (b.1, wr IntKind.i64 (v.2 + (1 : Int))))) none) (some (Sum.inr v.1))) ([], (0 : Int))) fun (b : List (Int × List
    UInt8)) => cnd (decide (wr IntKind.i64 ((1 : Int) + wr IntKind.i64 (Int.tmod x.2.1 (13 : Int))) = wr IntKind.i64 ((1 : Int) + wr IntKind.i64
    (Int.tmod x.2.2 (13 : Int))))) (some true) (obind (w_win_Put (b, (3 : Int), wr IntKind.i64 ((1 : Int) + wr IntKind.i64 (Int.tmod x.2.1 (13 :
    Int))), [(112 : UInt8)])) fun (b_1 : List (Int × List UInt8) × Bool) => obind (w_win_Put (b_1.1, (3 : Int), wr IntKind.i64 ((1 : Int) + wr
    IntKind.i64 (Int.tmod x.2.2 (13 : Int))), [(113 : UInt8)])) fun (b_2 : List (Int × List UInt8) × Bool) => obind (w_win_Put (b, (3 : Int), wr
    IntKind.i64 ((1 : Int) + wr IntKind.i64 (Int.tmod x.2.2 (13 : Int))), [(113 : UInt8)])) fun (b_3 : List (Int × List UInt8) × Bool) => obind
    (w_win_Put (b_3.1, (3 : Int), wr IntKind.i64 ((1 : Int) + wr IntKind.i64 (Int.tmod x.2.1 (13 : Int))), [(112 : UInt8)])) fun (b_4 : List (Int ×
    List UInt8) × Bool) => obind (obind (w_ref13_SameItems (b_2.1, b_4.1)) fun (b_5 : Bool) => cnd b_5 (some (decide ((↑(List.length b) : Int) ≤
    (↑(List.length b_2.1) : Int)))) (some false)) fun (b : Bool) => cnd b (some (decide ((↑(List.length b_2.1) : Int) ≤ (8 : Int)))) (some false)))
theorem FV_law15_WinAny_eq (w_win_Put : (List (Int × List UInt8)) × Int × Int × List UInt8 → Option ((List (Int × List UInt8)) × Bool)) (w_ref13_SameItems : (List (Int × List UInt8)) × List (Int × List UInt8) → Option (Bool)) (N : Nat) (x : (List Int) × Int × Int) : F_law15_WinAny w_win_Put w_ref13_SameItems N x = V_law15_WinAny w_win_Put w_ref13_SameItems N x := by kernel_rfl
noncomputable def W_law15_WinAny (N : Nat) (x : (List Int) × Int × Int) : Option (Bool) :=
  cnd (decide ((20 : Int) < (↑(List.length x.1) : Int))) (some true) (obind (loopN N (fun (v : List (Int × List UInt8) × Int) => cnd (decide (v.2 <
    (↑(List.length x.1) : Int))) (cnd (decide ((0 : Int) ≤ v.2) && decide (v.2 < (↑(List.length x.1) : Int))) (obind (W_win_Put N (v.1, (3 : Int), wr
    IntKind.i64 ((3 : Int) + wr IntKind.i64 (Int.tmod (List.getD x.1 (Int.toNat v.2) (0 : Int)) (9 : Int))), [(120 : UInt8)])) fun (b : List (Int × List
    UInt8) × Bool) => some (Sum.inl (b.1, wr IntKind.i64 (v.2 + (1 : Int))))) none) (some (Sum.inr v.1))) ([], (0 : Int))) fun (b : List (Int × List
    UInt8)) => cnd (decide (wr IntKind.i64 ((1 : Int) + wr IntKind.i64 (Int.tmod x.2.1 (13 : Int))) = wr IntKind.i64 ((1 : Int) + wr IntKind.i64
    (Int.tmod x.2.2 (13 : Int))))) (some true) (obind (W_win_Put N (b, (3 : Int), wr IntKind.i64 ((1 : Int) + wr IntKind.i64 (Int.tmod x.2.1 (13 :
    Int))), [(112 : UInt8)])) fun (b_1 : List (Int × List UInt8) × Bool) => obind (W_win_Put N (b_1.1, (3 : Int), wr IntKind.i64 ((1 : Int) + wr
    IntKind.i64 (Int.tmod x.2.2 (13 : Int))), [(113 : UInt8)])) fun (b_2 : List (Int × List UInt8) × Bool) => obind (W_win_Put N (b, (3 : Int), wr
    IntKind.i64 ((1 : Int) + wr IntKind.i64 (Int.tmod x.2.2 (13 : Int))), [(113 : UInt8)])) fun (b_3 : List (Int × List UInt8) × Bool) => obind
    (W_win_Put N (b_3.1, (3 : Int), wr IntKind.i64 ((1 : Int) + wr IntKind.i64 (Int.tmod x.2.1 (13 : Int))), [(112 : UInt8)])) fun (b_4 : List (Int ×
    List UInt8) × Bool) => obind (obind (W_ref13_SameItems N (b_2.1, b_4.1)) fun (b_5 : Bool) => cnd b_5 (some (decide ((↑(List.length b) : Int) ≤
    (↑(List.length b_2.1) : Int)))) (some false)) fun (b : Bool) => cnd b (some (decide ((↑(List.length b_2.1) : Int) ≤ (8 : Int)))) (some false)))
theorem F_law15_WinAny_eq (N : Nat) (x : (List Int) × Int × Int) : F_law15_WinAny (W_win_Put N) (W_ref13_SameItems N) N x = W_law15_WinAny N x := (FV_law15_WinAny_eq (W_win_Put N) (W_ref13_SameItems N) N x).trans (by kernel_rfl)
noncomputable def conw_law15_WinAny (w : (List Int) × Int × Int → Option (Bool)) : Con := ⟨3, as_law15_WinAny, bs_law15_WinAny, Bool, w, out_law15_WinAny⟩
noncomputable def con_law15_WinAny (N : Nat) : Con := conw_law15_WinAny (W_law15_WinAny N)
theorem R_law15_WinAny_eq (x : (List Int) × Int × Int) (y : Bool) : retOf2 P0 Try.f3 (kpL []) (lbOf as_law15_WinAny bs_law15_WinAny x) (patS ⟨93, [], [], []⟩ pout_law15_WinAny y) = some (out_law15_WinAny y) := by kernel_rfl
theorem con_law15_WinAny_ok (N : Nat) : Con.ok P0 (con_law15_WinAny N) := ⟨⟨Try.f3, Try.func3, by kernel_rfl, by kernel_rfl⟩, fun (x : (List Int) × Int × Int) (r : Bool) (hr : W_law15_WinAny N x = some r) =>
  spec2_evT (Γ := G_law15_WinAny (W_win_Put N) (W_ref13_SameItems N) N) (Λ := L0) (pout := pout_law15_WinAny) (kp := kpL []) mixed (orcOf_ok _ (by simp only [List.mem_cons, List.not_mem_nil, or_false, forall_eq_or_imp, forall_eq]; exact ⟨con_law15_begun_ok N, con_win_Put_ok N, con_ref13_SameItems_ok N⟩)) Try.func3 (c := bodyOf Try.f3) (by kernel_rfl) (by kernel_rfl) (of_decide_eq_true (by kernel_rfl)) ((F_law15_WinAny_eq N x).trans hr) (R_law15_WinAny_eq x r)⟩
/-! What is reckoned. -/
-- PURE
theorem loopG {σ ρ : Type} {f : σ → Option (σ ⊕ ρ)} (I : Nat → σ → Prop) (B : Nat) (J : ρ → Prop) (hb : ∀ k x, I k x → k ≤ B) (hs : ∀ k x, I k x → (∃ y, f x = some (.inl y) ∧ I (k + 1) y) ∨ ∃ r, f x = some (.inr r) ∧ J r) :
    ∀ (M k : Nat) (x : σ), I k x → B < M + k → ∃ r, loopN M f x = some r ∧ J r
  | 0, k, x, h, hm => by have := hb k x h; omega
  | M + 1, k, x, h, hm => by
    rcases hs k x h with ⟨y, h1, h2⟩ | ⟨r, h1, h2⟩
    · obtain ⟨r, h4, h5⟩ := loopG I B J hb hs M (k + 1) y h2 (by omega)
      exact ⟨r, by simp only [loopN, h1]; exact h4, h5⟩
    · exact ⟨r, by simp only [loopN, h1], h2⟩
theorem loop_G {σ ρ β : Type} {f : σ → Option (σ ⊕ ρ)} {g : ρ → Option β} {x : σ} {N : Nat} (Q : Option β → Prop) (I : Nat → σ → Prop) (B : Nat) (J : ρ → Prop) (hx : I 0 x) (hm : B < N) (hk : ∀ r, J r → Q (g r)) (hb : ∀ k x, I k x → k ≤ B)
    (hs : ∀ k x, I k x → (∃ y, f x = some (.inl y) ∧ I (k + 1) y) ∨ ∃ r, f x = some (.inr r) ∧ J r) : Q (obind (loopN N f x) g) := by
  obtain ⟨r, h1, h2⟩ := loopG I B J hb hs N 0 x hx (by omega)
  rw [h1]; exact hk r h2
theorem wr_m {z : Int} (h : -140737488355328 ≤ z) (h2 : z ≤ 140737488355328) : wr .i64 z = z := wr_i64 (by omega) (by omega)
abbrev It := Int × List UInt8
abbrev iD : It := ((0 : Int), ([] : List UInt8))
theorem drop_consI {l : List It} {i : Nat} (h : i < l.length) : l.drop i = l.getD i iD :: l.drop (i + 1) := by
  rw [List.drop_eq_getElem_cons h, List.getD_eq_getElem?_getD, List.getElem?_eq_getElem h]; rfl
theorem getD_mem {l : List Int} {j : Nat} (h : j < l.length) : l.getD j 0 ∈ l := by
  rw [List.getD_eq_getElem?_getD, List.getElem?_eq_getElem h]; exact List.getElem_mem h
theorem SameI_self (N : Nat) (l : List It) (hN : l.length < N) (hl : l.length ≤ 1000) : W_ref13_SameItems N (l, l) = some true := by
  unfold W_ref13_SameItems
  simp only
  rw [dF (by simp), cnd_f]
  refine obind_loop (fun v : Int => 0 ≤ v ∧ v ≤ l.length) (fun v => l.length - v.toNat) (fun r : PUnit ⊕ Bool => r = .inl ()) ⟨by simp, by simp⟩ (by simp; omega) ?_ ?_
  · rintro r rfl; rw [selim_l]
  · rintro v ⟨g1, g2⟩
    by_cases h : v < l.length
    case neg => right; rw [dF h, cnd_f]; exact ⟨_, rfl, rfl⟩
    left
    rw [dT h, cnd_t, dT g1, Bool.and_self, cnd_t, cnd_t, dT trivial, BEq.rfl, Bool.and_self, Bool.not_true, cnd_f, wr_m (by omega) (by omega)]
    exact ⟨_, rfl, ⟨by omega, by omega⟩, by omega⟩
def insI : List It → It → List It
  | [], e => [e]
  | w :: r, e => if w.1 = e.1 then w :: r else if e.1 < w.1 then e :: w :: r else w :: insI r e
theorem insI_comm (p q : It) (h : p.1 ≠ q.1) : ∀ l, insI (insI l p) q = insI (insI l q) p
  | [] => by
    simp only [insI]
    by_cases c : q.1 < p.1
    · rw [if_neg h, if_pos c, if_neg (Ne.symm h), if_neg (by omega)]
    · rw [if_neg h, if_neg c, if_neg (Ne.symm h), if_pos (by omega)]
  | w :: r => by
    have ih := insI_comm p q h r
    have e1 : ∀ x : It, w.1 = x.1 → insI (w :: r) x = w :: r := fun x hx => by simp only [insI]; rw [if_pos hx]
    have e2 : ∀ (x : It) (y : List It), x.1 < w.1 → insI (w :: y) x = x :: w :: y := fun x y hx => by simp only [insI]; rw [if_neg (by omega), if_pos hx]
    have e3 : ∀ (x : It) (y : List It), w.1 < x.1 → insI (w :: y) x = w :: insI y x := fun x y hx => by simp only [insI]; rw [if_neg (by omega), if_neg (by omega)]
    have f1 : ∀ (x y : It) (z : List It), x.1 < y.1 → insI (x :: z) y = x :: insI z y := fun x y z hx => by simp only [insI]; rw [if_neg (by omega), if_neg (by omega)]
    have f2 : ∀ (x y : It) (z : List It), y.1 < x.1 → insI (x :: z) y = y :: x :: z := fun x y z hx => by simp only [insI]; rw [if_neg (by omega), if_pos hx]
    have f3 : ∀ (x : It) (z : List It), w.1 = x.1 → insI (w :: z) x = w :: z := fun x z hx => by simp only [insI]; rw [if_pos hx]
    rcases Int.lt_trichotomy p.1 w.1 with hp | hp | hp <;> rcases Int.lt_trichotomy q.1 w.1 with hq | hq | hq
    · rw [e2 p r hp, e2 q r hq]
      rcases Int.lt_or_gt_of_ne h with c | c
      · rw [f1 p q _ c, f2 q p _ c, e2 q r hq]
      · rw [f2 p q _ c, f1 q p _ c, e2 p r hp]
    · rw [e2 p r hp, f3 q r hq.symm, e2 p r hp, f1 p q _ (by omega), f3 q r hq.symm]
    · rw [e2 p r hp, e3 q r hq, e2 p _ hp, f1 p q _ (by omega), e3 q r hq]
    · rw [f3 p r hp.symm, e2 q r hq, f1 q p _ (by omega), f3 p r hp.symm]
    · omega
    · rw [f3 p r hp.symm, e3 q r hq, f3 p _ hp.symm]
    · rw [e3 p r hp, e2 q r hq, e2 q _ hq, f1 q p _ (by omega), e3 p r hp]
    · rw [e3 p r hp, f3 q r hq.symm, f3 q _ hq.symm, e3 p r hp]
    · rw [e3 p r hp, e3 q r hq, e3 q _ hq, e3 p _ hp, ih]
theorem insI_len (e : It) : ∀ l, l.length ≤ (insI l e).length
  | [] => by simp [insI]
  | w :: r => by
    have := insI_len e r
    simp only [insI]
    split
    · exact Nat.le_refl _
    · split
      · simp only [List.length_cons]; omega
      · simp only [List.length_cons]; omega
def Wk (n K : Int) : List It → Prop
  | [] => True
  | w :: r => n ≤ w.1 ∧ w.1 ≤ K ∧ Wk (w.1 + 1) K r
theorem Wk_len {K : Int} : ∀ (l : List It) (n : Int), Wk n K l → l.length ≤ (K + 1 - n).toNat
  | [], n, _ => by simp
  | w :: r, n, ⟨h1, h2, h3⟩ => by
    have := Wk_len r (w.1 + 1) h3
    simp only [List.length_cons]
    omega
theorem Wk_ins {K : Int} (e : It) : ∀ (l : List It) (n : Int), Wk n K l → n ≤ e.1 → e.1 ≤ K → Wk n K (insI l e)
  | [], n, _, h1, h2 => ⟨h1, h2, trivial⟩
  | w :: r, n, ⟨h1, h2, h3⟩, h4, h5 => by
    simp only [insI]
    split
    · exact ⟨h1, h2, h3⟩
    · rename_i c
      split
      · exact ⟨h4, h5, by omega, h2, h3⟩
      · exact ⟨h1, h2, Wk_ins e r (w.1 + 1) h3 (by omega) h5⟩
def putF (l : List It) (e : It) : List It := if 3 ≤ e.1 ∧ e.1 ≤ 10 then insI l e else l
theorem putF_comm (l : List It) (p q : It) (h : p.1 ≠ q.1) : putF (putF l p) q = putF (putF l q) p := by
  unfold putF
  by_cases c : 3 ≤ p.1 ∧ p.1 ≤ 10 <;> by_cases d : 3 ≤ q.1 ∧ q.1 ≤ 10
  · rw [if_pos c, if_pos d, if_pos d, if_pos c]; exact insI_comm p q h l
  · rw [if_pos c, if_neg d, if_neg d, if_pos c]
  · rw [if_neg c, if_pos d, if_neg c]
  · rw [if_neg c, if_neg d, if_neg c]
theorem putF_len (l : List It) (e : It) : l.length ≤ (putF l e).length := by
  unfold putF; split
  · exact insI_len e l
  · exact Nat.le_refl _
theorem putF_Wk {l : List It} (e : It) (h : Wk 3 10 l) : Wk 3 10 (putF l e) := by
  unfold putF; split
  · rename_i c; exact Wk_ins e l 3 h c.1 c.2
  · exact h
theorem Clone_eq (N : Nat) (l : List It) (hl : l.length ≤ 1000) : W_slices_Clone_api_Item N l = some l := by
  unfold W_slices_Clone_api_Item
  rw [dT (by omega), cnd_t]
theorem place_eq (N : Nat) (l : List It) (s : Int) (hN : 2000 ≤ N) (hl : l.length ≤ 1000) : ∃ r : Int ⊕ Unit, W_win_place N (l, s) = some r ∧
    ((r = .inr () ∧ ∀ t, insI l (s, t) = l) ∨ ∃ p : Nat, r = .inl (p : Int) ∧ p ≤ l.length ∧ ∀ t, insI l (s, t) = l.take p ++ ([(s, t)] ++ l.drop p)) := by
  unfold W_win_place
  simp only
  refine loop_G (N := N) (fun o => ∃ r : Int ⊕ Unit, o = some r ∧ ((r = .inr () ∧ ∀ t, insI l (s, t) = l) ∨ ∃ p : Nat, r = .inl (p : Int) ∧ p ≤ l.length ∧ ∀ t, insI l (s, t) = l.take p ++ ([(s, t)] ++ l.drop p)))
    (fun k (v : Int) => v = k ∧ k ≤ l.length ∧ ∀ t, insI l (s, t) = l.take k ++ insI (l.drop k) (s, t)) l.length
    (fun r : PUnit ⊕ Int ⊕ PUnit => (r = .inl () ∧ ∀ t, insI l (s, t) = l.take l.length ++ ([(s, t)] ++ l.drop l.length)) ∨ (r = .inr (.inr ()) ∧ ∀ t, insI l (s, t) = l) ∨ ∃ p : Nat, r = .inr (.inl (p : Int)) ∧ p ≤ l.length ∧ ∀ t, insI l (s, t) = l.take p ++ ([(s, t)] ++ l.drop p))
    ⟨rfl, by omega, fun t => by simp⟩ (by omega) ?_ (fun k v h => h.2.1) ?_
  · rintro r (⟨rfl, h⟩ | ⟨rfl, h⟩ | ⟨p, rfl, h1, h2⟩)
    · rw [selim_l]; exact ⟨_, rfl, .inr ⟨l.length, rfl, Nat.le_refl _, h⟩⟩
    · rw [selim_r]; exact ⟨_, rfl, .inl ⟨rfl, h⟩⟩
    · rw [selim_r]; exact ⟨_, rfl, .inr ⟨p, rfl, h1, h2⟩⟩
  · rintro k v ⟨e, hk, hg⟩
    subst e
    by_cases c : (k : Int) < l.length
    case neg =>
      right
      rw [dF c, cnd_f]
      have hkl : k = l.length := by omega
      refine ⟨_, rfl, .inl ⟨rfl, fun t => ?_⟩⟩
      rw [hg t, hkl, List.drop_length]; rfl
    have hd := drop_consI (l := l) (i := k) (by omega)
    rw [dT c, cnd_t, dT (by omega), Bool.and_self, cnd_t, Int.toNat_natCast]
    by_cases c1 : (l.getD k iD).1 = s
    · right
      rw [dT c1, cnd_t]
      refine ⟨_, rfl, .inr (.inl ⟨rfl, fun t => ?_⟩)⟩
      rw [hg t, hd]
      simp only [insI]
      rw [if_pos c1, ← hd, List.take_append_drop]
    · rw [dF c1, cnd_f]
      by_cases c2 : s < (l.getD k iD).1
      · right
        rw [dT c2, cnd_t]
        refine ⟨_, rfl, .inr (.inr ⟨k, rfl, hk, fun t => ?_⟩)⟩
        rw [hg t, hd]
        simp only [insI]
        rw [if_neg c1, if_pos c2]; rfl
      · left
        rw [dF c2, cnd_f, wr_m (by omega) (by omega)]
        refine ⟨_, rfl, by omega, by omega, fun t => ?_⟩
        rw [hg t, hd]
        simp only [insI]
        rw [if_neg c1, if_neg c2, List.take_succ_eq_append_getElem (by omega), List.append_assoc, List.getD_eq_getElem?_getD, List.getElem?_eq_getElem (by omega)]; rfl
theorem Put_eq (N : Nat) (l : List It) (s : Int) (t : List UInt8) (hN : 2000 ≤ N) (hl : l.length ≤ 1000) : ∃ b, W_win_Put N (l, 3, s, t) = some (putF l (s, t), b) := by
  unfold W_win_Put
  simp only
  rw [Clone_eq N l hl, obind_s]
  obtain ⟨r, h1, h2⟩ := place_eq N l s hN hl
  rw [h1, obind_s, wr_m (z := 3 + 8) (by omega) (by omega)]
  rcases h2 with ⟨rfl, h2⟩ | ⟨p, rfl, h2, h3⟩
  · rw [selim_r, cnd_t]
    refine ⟨_, congrArg (fun x => some (x, false)) ?_⟩
    unfold putF
    split
    · exact (h2 t).symm
    · rfl
  · rw [selim_l]
    unfold putF
    by_cases c1 : s < 3
    · rw [dT c1, cnd_t, if_neg (by simp only; omega)]; exact ⟨_, rfl⟩
    rw [dF c1, cnd_f]
    by_cases c2 : (3 : Int) + 8 ≤ s
    · rw [dT c2, cnd_t, if_neg (by simp only; omega)]; exact ⟨_, rfl⟩
    rw [dF c2, cnd_f, if_pos (by simp only; omega)]
    unfold W_slices_Insert_api_Item
    simp only
    rw [dT (show (0 : Int) ≤ (p : Int) by omega), dT (show (p : Int) ≤ l.length by omega), dT (show [(s, t)].length = 1 from rfl), dT (show (l.length + 1) * 24 ≤ 140737488355328 by omega), Bool.and_self, Bool.and_self, Bool.and_self, cnd_t, obind_s, Int.toNat_natCast, h3 t]
    exact ⟨_, rfl⟩
theorem law_aux (N : Nat) (hN : 2000 ≤ N) (l : List Int) (hel : ∀ x ∈ l, 0 ≤ x ∧ x ≤ 255) (a b : Int) (ha : 0 ≤ a) (ha2 : a ≤ 255) (hb : 0 ≤ b) (hb2 : b ≤ 255) : W_law15_WinAny N (l, a, b) = some true := by
  unfold W_law15_WinAny
  simp only
  by_cases h20 : (20 : Int) < l.length
  · rw [dT h20, cnd_t]
  rw [dF h20, cnd_f]
  refine loop_G (N := N) (fun o => o = some true) (fun k (v : List It × Int) => v.2 = k ∧ k ≤ l.length ∧ Wk 3 10 v.1) l.length (fun r : List It => Wk 3 10 r) ⟨rfl, by omega, trivial⟩ (by omega) ?_ (fun k v h => h.2.1) ?_
  · intro x hx
    rw [Int.tmod_eq_emod_of_nonneg ha, Int.tmod_eq_emod_of_nonneg hb, wr_m (z := a % 13) (by omega) (by omega), wr_m (z := b % 13) (by omega) (by omega), wr_m (z := 1 + a % 13) (by omega) (by omega), wr_m (z := 1 + b % 13) (by omega) (by omega)]
    by_cases c : 1 + a % 13 = 1 + b % 13
    · rw [dT c, cnd_t]
    rw [dF c, cnd_f]
    have lx := Wk_len x 3 hx
    have w1 := putF_Wk (1 + a % 13, [112]) hx
    have w2 := putF_Wk (1 + b % 13, [113]) hx
    have w3 := putF_Wk (1 + b % 13, [113]) w1
    have l1 := Wk_len _ 3 w1
    have l2 := Wk_len _ 3 w2
    have l3 := Wk_len _ 3 w3
    have g1 := putF_len x (1 + a % 13, [112])
    have g2 := putF_len (putF x (1 + a % 13, [112])) (1 + b % 13, [113])
    obtain ⟨b1, e1⟩ := Put_eq N x (1 + a % 13) [112] hN (by omega)
    obtain ⟨b2, e2⟩ := Put_eq N (putF x (1 + a % 13, [112])) (1 + b % 13) [113] hN (by omega)
    obtain ⟨b3, e3⟩ := Put_eq N x (1 + b % 13) [113] hN (by omega)
    obtain ⟨b4, e4⟩ := Put_eq N (putF x (1 + b % 13, [113])) (1 + a % 13) [112] hN (by omega)
    rw [e1, obind_s]
    simp only
    rw [e2, obind_s, e3, obind_s]
    simp only
    rw [e4, obind_s]
    simp only
    rw [putF_comm x (1 + b % 13, [113]) (1 + a % 13, [112]) (fun q => c q.symm), SameI_self N _ (by omega) (by omega), obind_s, cnd_t, obind_s, dT (by omega), cnd_t, dT (by omega)]
  · rintro k ⟨x, v⟩ ⟨e, hk, hx⟩
    simp only at e hx ⊢
    subst e
    by_cases c : (k : Int) < l.length
    · left
      have hb := hel (l.getD k 0) (getD_mem (by omega))
      have lx := Wk_len x 3 hx
      obtain ⟨b1, e1⟩ := Put_eq N x (3 + l.getD k 0 % 9) [120] hN (by omega)
      rw [dT c, cnd_t, dT (by omega), Bool.and_self, cnd_t, Int.toNat_natCast, Int.tmod_eq_emod_of_nonneg hb.1, wr_m (z := l.getD k 0 % 9) (by omega) (by omega), wr_m (z := 3 + l.getD k 0 % 9) (by omega) (by omega), e1, obind_s, wr_m (z := (k : Int) + 1) (by omega) (by omega)]
      exact ⟨_, rfl, by simp only; omega, by omega, putF_Wk _ hx⟩
    · right
      rw [dF c, cnd_f]
      exact ⟨_, rfl, hx⟩
def NN : Nat := 2000
theorem law_true (y0 : List Int) (y1 : Int) (y2 : Int) (h0 : Twf (.list (.int .u8)) y0) (h1 : Twf (.int .u8) y1) (h2 : Twf (.int .u8) y2) : W_law15_WinAny NN (y0, y1, y2) = some true :=
  law_aux NN (Nat.le_refl _) y0 (fun x hx => ⟨(h0.2 x hx).1, (h0.2 x hx).2⟩) y1 y2 h1.1 (by have : y1 ≤ 255 := h1.2; omega) h2.1 (by have : y2 ≤ 255 := h2.2; omega)

theorem spec (y0 : List Int) (y1 : Int) (y2 : Int) (h0 : Twf (.list (.int .u8)) y0) (h1 : Twf (.int .u8) y1) (h2 : Twf (.int .u8) y2) : Spec2 P0 3 [valW (.list (.int .u8)) y0, valW (.int .u8) y1, valW (.int .u8) y2] [] (.bs true) [] [] := (con_law15_WinAny_ok NN).2 (y0, y1, y2) true (law_true y0 y1 y2 h0 h1 h2)
theorem lifted (os : Os) (started : os.Started) (H : Type) (enc : TypeId × Value → H) :
    ReturnsInHanded {} Try.checked os 3 .any (Rows.winAnySpec.pre6 enc Try.prog Try.f3 Rows.winAnyRow.domain false) (Rows.winAnySpec.post enc Try.prog Try.f3 false true false false) := by
  refine returnsInHanded_of_change (C := Try.checked) own started (by kernel_rfl) Try.func3
    (ChangeSpec.witness6 (enc := enc) (C := Try.checked) false ⟨#[], #[.slice none 0 0, .int .u8 0, .int .u8 0], []⟩ 8 (by kernel_rfl) (by kernel_rfl) (by kernel_rfl) (by kernel_rfl)) ?_
  intro W base args ds gs before hval0 hW hcnd _
  have hval : ∀ (j : Nat) t v, Try.f3.params[j]? = some t → args[j]? = some v → Value.okWide Try.prog W .any base t v := hval0
  have hW' := hW
  obtain ⟨p, q, hA0, hV, rfl, hfz, hnd⟩ := hW
  have hA : DataW.TrodAll enc Try.prog W 0 (fun _ => true) true Try.f3.params.toList args.toList ds p := hA0
  rw [Try.params3] at hA hval
  obtain ⟨v0, vs0, d0, ds0, p0, q0, hargs, rfl, rfl, h0, r0⟩ := trodAll_cons hA
  obtain ⟨v1, vs1, d1, ds1, p1, q1, rfl, rfl, rfl, h1, r1⟩ := trodAll_cons r0
  obtain ⟨v2, vs2, d2, ds2, p2, q2, rfl, rfl, rfl, h2, r2⟩ := trodAll_cons r1
  obtain ⟨rfl, rfl, rfl⟩ := trodAll_nil r2
  obtain rfl : args = #[v0, v1, v2] := by cases args; simp_all
  obtain ⟨rfl, rfl⟩ := trodVars_none hV
  have k0 := h0
  have lt0 : ∀ x ∈ p0, x.block < W.heap.size := by obtain ⟨m, hm⟩ := k0; exact DataW.trod_lt m _ _ _ hm
  obtain ⟨y0, rp0, wf0⟩ := arg_ok (n := 12) (ty := (.list (.int .u8))) (by kernel_rfl) (hval 0 _ v0 rfl rfl) h0
  have k1 := h1
  have lt1 : ∀ x ∈ p1, x.block < W.heap.size := by obtain ⟨m, hm⟩ := k1; exact DataW.trod_lt m _ _ _ hm
  obtain ⟨y1, rp1, wf1⟩ := arg_ok (n := 12) (ty := (.int .u8)) (by kernel_rfl) (hval 1 _ v1 rfl rfl) h1
  have k2 := h2
  have lt2 : ∀ x ∈ p2, x.block < W.heap.size := by obtain ⟨m, hm⟩ := k2; exact DataW.trod_lt m _ _ _ hm
  obtain ⟨y2, rp2, wf2⟩ := arg_ok (n := 12) (ty := (.int .u8)) (by kernel_rfl) (hval 2 _ v2 rfl rfl) h2
  clear hA0 hval0
  refine (law_of2 (spec y0 y1 y2 wf0 wf1 wf2) W #[v0, v1, v2] (.cons rp0 (.cons rp1 (.cons rp2 .nil)))).mono fun e W' ⟨he, bel⟩ => ?_
  subst he
  exact ⟨_, rfl, _, _, _, [], _, [], hW', trodAll_mk1 (shut_bool Try.underlying4 _), (trodAll_cons_mk (Below.trod laidOut (by kernel_rfl) (of_decide_eq_true (by kernel_rfl)) k0 bel lt0) (trodAll_cons_mk (Below.trod laidOut (by kernel_rfl) (of_decide_eq_true (by kernel_rfl)) k1 bel lt1) (trodAll_cons_mk (Below.trod laidOut (by kernel_rfl) (of_decide_eq_true (by kernel_rfl)) k2 bel lt2) trodAll_mk0))), rfl, bel.frame _, fun h => by cases h⟩

theorem over : Rows.winAnyRow.holds Try.pinned (OpenSpec.ofChange Rows.winAnySpec) :=
  OpenClaim.holds_of_wide 3 Try.f3 rfl rfl rfl rfl rfl rfl rfl ⟨rfl, rfl, rfl, rfl, rfl⟩ rfl rfl rfl rfl rfl (by kernel_rfl) Try.func3 (by kernel_rfl)
    (of_decide_eq_true (by kernel_rfl)) (by unfold Func.isWrapper; first | (rw [if_pos (by decide +kernel)]; kernel_rfl) | (rw [if_neg (by decide +kernel)]; exact ⟨rfl, rfl⟩))
    (fun os started H enc _ => lifted os started H enc)

theorem holds : Rows.WinAnySaid := over
end Go.Proofs.Ytigmbfeeodggbaa.winAnyX
