/- FeedSays: for all arguments the call returns true. The law is brought to a function of Lean's own (W_..) by the machine of the texts beside it, and that is reckoned; no condition. -/
import Derived.Test.YtkdgdpeoneegnaaExtYM
import Derived.Test.YtkdgdpeoneegnaaExtDl
import Derived.Test.YtkdgdpeoneegnaaExtL
import Derived.Test.YtkdgdpeoneegnaaRows
import Derived.WalkKit
import Derived.ProofKit
import Derived.OpenShut
import Derived.ShutString
import Derived.ChangeOld
import Derived.Below
import Derived.Shelf.RegionOpenPlain
import Derived.Deep.RegionLaw
import Derived.Lib.Walk
import Derived.Shelf.RegionOpenPlain
import Derived.Lib.Walk
namespace Go.Proofs.Ytkdgdpeoneegnaa.feedSaysX
open Go.Abs Go.RowKit Go.ChangeShapes Go.WideShapes Go.ChangeAt
set_option maxRecDepth 100000
set_option linter.unusedVariables false
set_option linter.unusedSimpArgs false
noncomputable abbrev P0 : Program := Try.prog
noncomputable def bodyOf (fn : Func) : Code := fn.body.getD .skip
def L0 : Lend := fun f => aget [] [(91, [0])] f
def kpL (l : List Bool) : Nat → Bool := fun j => l.getD j true
theorem own : ownKnob Try.prog.godebug = none := by kernel_rfl
theorem laidOut : laidOutB Try.prog = true := by kernel_rfl
theorem mixed : P0.follows .mixedOrders = true := by decide +kernel
theorem progOk_ : progOk P0 = true := by decide +kernel
set_option linter.unusedSimpArgs false
set_option linter.unusedVariables false

theorem insU129 : Try.prog.underlying 49 = some (.slice 132) := by kernel_rfl
theorem insI129 : Try.prog.underlying 3 = some (.int .i64) := by kernel_rfl
theorem insE129 : ∃ (inf : TypeInfo) (z : Value), Try.prog.info? 132 = some inf ∧ inf.size = 3 ∧ inf.zero = some z ∧ z.cells.size = 3 ∧ inf.bytes = 24 := insE_of (by kernel_rfl)
set_option maxHeartbeats 4000000 in
theorem insShift129 {inf : TypeInfo} (hinf : Try.prog.info? 132 = some inf) (hsz : inf.size = 3) (w : World) (b i n c vb vo vc : Nat) (arr : Array Value) (tb : Nat) (fz : Nat × Nat) (cs vs : List Value) (hmem : w.heap[b]? = some (.cells arr tb fz)) (hf : ∀ j, j < arr.size → ¬ (fz.1 ≤ j ∧ j < fz.2))
    (hi : i < n) (hroom : n + 1 ≤ c) (hsize : arr.size = c * 3) (hby : (n + 1) * 24 ≤ 140737488355328) (hbn : vb ≠ b)
    (hcs : cs = (arr.toList.take (n * 3)).drop (i * 3)) (hvl : vs.length = 3) (hvs : ∀ (j : Nat) (u : Value), vs[j]? = some u → w.cell? ⟨vb, vo + j, none⟩ = some u) (h1c : ∀ u ∈ cs, u.oneCell' = true) (h1v : ∀ u ∈ vs, u.oneCell' = true)
    (hov : ∀ y, (callFunc 136 #[.slice (some ⟨vb, vo, none⟩) 1 vc, .slice (some ⟨b, (i + 1) * 3, none⟩) (n - i) y]).run Try.prog w = .ok (.value (.bool false)) w) (A1 A2 : Array Value)
    (hA1 : A1 = (arr.toList.take ((i + 1) * 3) ++ (cs ++ arr.toList.drop ((i + 1) * 3 + cs.length))).toArray) (hA2 : A2 = (A1.toList.take (i * 3) ++ (vs ++ A1.toList.drop (i * 3 + vs.length))).toArray) :
    Calls Try.prog 129 #[.slice (some ⟨b, 0, none⟩) n c, .int .i64 (i : Nat), .slice (some ⟨vb, vo, none⟩) 1 vc] w fun e w' => e = .returned (.slice (some ⟨b, 0, none⟩) (n + 1) c) ∧ w' = (w.drew.setRow b A1).setRow b A2 := by
  have mixed := mixed
  have hz2 : ¬ ((i : Int) = (n : Int)) := by omega
  have hw1 : IntKind.i64.wrap ((i : Int) + (1 : Int)) = (i : Int) + (1 : Int) := by rw [IntKind.wrap_i64]; omega
  have hw2 : IntKind.i64.wrap ((n : Int) + (1 : Int)) = (n : Int) + (1 : Int) := by rw [IntKind.wrap_i64]; omega
  have hcl : cs.length = (n - i) * 3 := by rw [hcs]; simp; omega
  have hA1s : A1.size = arr.size := by rw [hA1]; simp [hcl]; omega
  have hcp1 : ∀ ty dc sc, (Builtin.copy_ #[49, 49] ty #[.slice (some ⟨b, (i + 1) * 3, none⟩) (n - i) dc, .slice (some ⟨b, i * 3, none⟩) (n + 1 - i) sc]).run Try.prog w.drew = .ok (.int .i64 ((n - i : Nat) : Int)) (w.drew.setRow b A1) := fun ty dc sc => by
    rw [hA1]
    refine run_copyR insU129 hinf w.drew (fz := fz) hmem hf _ _ _ (m := n + 1 - i) (k := n - i) (by omega) (lenOf_slice _ _ _ _) (run_firstCells_some w.drew _ _ _ _ _ _ (by rw [hsz]; exact hcl) (fun j v hj => ?_)) (by omega) h1c
    rw [hcs, List.getElem?_drop, List.getElem?_take] at hj
    split at hj
    · have : (⟨b, i * 3, none⟩ : Addr).add j = ⟨b, i * 3 + j, none⟩ := by unfold Addr.add; split <;> simp_all
      rw [this]
      have e : w.drew.cell? ⟨b, i * 3 + j, none⟩ = arr[i * 3 + j]? := by simp [World.cell?, show w.drew.heap = w.heap from rfl, hmem]
      rw [e]; simpa using hj
    · cases hj
  have hcp2 : ∀ (W : World), W.heap = (w.drew.setRow b A1).heap → ∀ ty dc, (Builtin.copy_ #[49, 49] ty #[.slice (some ⟨b, i * 3, none⟩) (n + 1 - i) dc, .slice (some ⟨vb, vo, none⟩) 1 vc]).run Try.prog W = .ok (.int .i64 ((1 : Nat) : Int)) (W.setRow b A2) := fun W hW ty dc => by
    rw [hA2]
    have hm1 : W.heap[b]? = some (.cells A1 tb fz) := by rw [hW]; exact setRow_heap w.drew b arr A1 tb fz hmem
    refine run_copyR insU129 hinf W (fz := fz) hm1 (by rw [hA1s]; exact hf) _ _ _ (m := 1) (k := 1) (by omega) (lenOf_slice _ _ _ _) (run_firstCells_some W _ _ _ _ _ _ (by rw [hsz]; exact hvl) (fun j v hj => ?_)) (by omega) h1v
    have : (⟨vb, vo, none⟩ : Addr).add j = ⟨vb, vo + j, none⟩ := by unfold Addr.add; split <;> simp_all
    rw [this]
    have e : W.cell? ⟨vb, vo + j, none⟩ = w.cell? ⟨vb, vo + j, none⟩ := cell_congr (by rw [hW]; exact setRow_other w.drew b vb A1 hbn)
    rw [e]; exact hvs j v hj
  have hb1 : (0 : Int) ≤ (i : Int) + 1 := by omega
  have hin : i ≤ n := by omega
  have hb2 : ¬ (c = i + 1) := by omega
  have hb4 : ¬ (c = i) := by omega
  have hb3 : (i : Int) ≤ (n : Int) + 1 := by omega
  clear hcs hA1 hA2
  go_enter Try.func129, Try.ntmps129
  go_wp2_with (simp only [hov])
  go_region_law_o (refine step_copy_runR rfl _ _ 49 49 rfl _ _ (by simp [Act.eval, Act.put]) (by simp [Act.eval, Act.put]) (hcp1 _ _ _) ?_)
  go_wp2_with (at_builtin; refine wpList_copy_runR _ rfl _ _ 49 49 rfl _ _ rfl rfl (hcp2 _ rfl _ _) ?_)
  go_ret
  exact ⟨rfl, rfl⟩
set_option maxHeartbeats 4000000 in
theorem insGrow129 {inf : TypeInfo} {z : Value} (hinf : Try.prog.info? 132 = some inf) (hsz : inf.size = 3) (hzz : inf.zero = some z) (hzs : z.cells.size = 3) (hbb : inf.bytes = 24) (w : World) (b i n c vb vo vc : Nat) (arr : Array Value) (tb : Nat) (fz : Nat × Nat) (cs vs : List Value) (hmem : w.heap[b]? = some (.cells arr tb fz))
    (hi : i < n) (hnc : n ≤ c) (hroom : ¬ (n + 1 ≤ c)) (hsize : arr.size = c * 3) (hby : (n + 1) * 24 ≤ 140737488355328) (va : Array Value) (tv : Nat) (fv : Nat × Nat) (hmemv : w.heap[vb]? = some (.cells va tv fv))
    (hcs : cs = (arr.toList.take (n * 3)).drop (i * 3)) (hvl : vs.length = 3) (hvs : ∀ (j : Nat) (u : Value), vs[j]? = some u → va[vo + j]? = some u) (h1c : ∀ u ∈ cs, u.oneCell' = true) (h1v : ∀ u ∈ vs, u.oneCell' = true)
    (G : Nat) (hG : G = grownCap w (n + 1) c 132) (ROW A1 A2 : Array Value)
    (hROW : ROW = (arr.toList.take (i * 3)).toArray ++ Builtin.zeroCells z.cells (n + 1 - i) ++ Builtin.zeroCells z.cells (G - (n + 1)))
    (hA1 : A1 = (ROW.toList.take (i * 3) ++ (vs ++ ROW.toList.drop (i * 3 + vs.length))).toArray) (hA2 : A2 = (A1.toList.take ((i + 1) * 3) ++ (cs ++ A1.toList.drop ((i + 1) * 3 + cs.length))).toArray) :
    Calls Try.prog 129 #[.slice (some ⟨b, 0, none⟩) n c, .int .i64 (i : Nat), .slice (some ⟨vb, vo, none⟩) 1 vc] w fun e w' => e = .returned (.slice (some ⟨w.heap.size, 0, none⟩) (n + 1) G) ∧ w' = (((w.drew.alloc (.cells ROW 132)).setRow w.heap.size A1).drew).setRow w.heap.size A2 := by
  have mixed := mixed
  have hz2 : ¬ ((i : Int) = (n : Int)) := by omega
  have hw1 : IntKind.i64.wrap ((i : Int) + (1 : Int)) = (i : Int) + (1 : Int) := by rw [IntKind.wrap_i64]; omega
  have hw2 : IntKind.i64.wrap ((n : Int) + (1 : Int)) = (n : Int) + (1 : Int) := by rw [IntKind.wrap_i64]; omega
  have hw3 : IntKind.i64.wrap ((n : Int) + (1 : Int) - (i : Int)) = (n : Int) + (1 : Int) - (i : Int) := by rw [IntKind.wrap_i64]; omega
  have hcl : cs.length = (n - i) * 3 := by rw [hcs]; simp; omega
  have hGn : n + 1 ≤ G := by rw [hG]; exact grownCap_ge w _ _ _
  have hbw : b < w.heap.size := (Array.getElem?_eq_some_iff.1 hmem).1
  have hvw : vb < w.heap.size := (Array.getElem?_eq_some_iff.1 hmemv).1
  have hzc : ∀ k, (Builtin.zeroCells z.cells k).size = k * 3 := fun k => by rw [size_zeroCells, hzs]
  have hRs : ROW.size = G * 3 := by
    rw [hROW]; simp only [Array.size_append, hzc, List.size_toArray, List.length_take, Array.length_toList]; omega
  have hA1s : A1.size = ROW.size := by rw [hA1]; simp [hvl]; omega
  have hold : (Builtin.firstCells inf.size i (.slice (some ⟨b, 0, none⟩) i c)).run Try.prog w.drew = .ok (arr.toList.take (i * 3)).toArray w.drew := by
    rw [hsz]
    refine run_firstCells_some w.drew 3 i ⟨b, 0, none⟩ i c (arr.toList.take (i * 3)) (by rw [List.length_take]; simp; omega) (fun j v hj => ?_)
    rw [List.getElem?_take] at hj
    split at hj
    · have : (⟨b, 0, none⟩ : Addr).add j = ⟨b, j, none⟩ := by unfold Addr.add; split <;> simp_all
      rw [this]
      have e : w.drew.cell? ⟨b, j, none⟩ = arr[j]? := by simp [World.cell?, show w.drew.heap = w.heap from rfl, hmem]
      rw [e]; simpa using hj
    · cases hj
  have hik : i + (n + 1 - i) = n + 1 := by omega
  have hkk : (n : Int) + 1 - (i : Int) = ((n + 1 - i : Nat) : Int) := by omega
  obtain ⟨W1, hW1⟩ : ∃ W1, W1 = w.drew.alloc (.cells ROW 132) := ⟨_, rfl⟩
  have hrz : ∀ ty, (Builtin.append_ #[49, 3] ty #[.slice (some ⟨b, 0, none⟩) i c, .int .i64 ((n : Int) + 1 - (i : Int))]).run Try.prog w = .ok (.slice (some ⟨w.heap.size, 0, none⟩) (n + 1) G) W1 := fun ty => by
    have hnx := nextslicecap_le (need := n + 1) (old := c) (by omega)
    have h := Lib.run_append_grow_zeros w 49 3 ty 132 inf z .i64 .i64 insU129 insI129 hinf hzz (some ⟨b, 0, none⟩) i c (arr.toList.take (i * 3)) hold (n + 1 - i) (by omega) (by omega) (by omega) (by omega) (by rw [hbb]; omega) (by rw [hbb, hik]; omega)
    rw [hik, ← hG, ← hROW, ← hW1] at h
    rw [hkk]
    exact h
  have hWn : W1.heap[w.heap.size]? = some (.cells ROW 132 (0, 0)) := by rw [hW1]; exact heap_alloc_new w.drew _
  have hWo : ∀ j, j < w.heap.size → W1.heap[j]? = w.heap[j]? := fun j hj => by rw [hW1]; exact heap_alloc_old w.drew _ hj
  have hcp1 : ∀ (W : World), W.heap = W1.heap → ∀ ty dc, (Builtin.copy_ #[49, 49] ty #[.slice (some ⟨w.heap.size, i * 3, none⟩) (n + 1 - i) dc, .slice (some ⟨vb, vo, none⟩) 1 vc]).run Try.prog W = .ok (.int .i64 ((1 : Nat) : Int)) (W.setRow w.heap.size A1) := fun W hW ty dc => by
    rw [hA1]
    refine run_copyR insU129 hinf W (fz := (0, 0)) (by rw [hW]; exact hWn) (fun j _ hj => by simp at hj) _ _ _ (m := 1) (k := 1) (by omega) (lenOf_slice _ _ _ _) (run_firstCells_some W _ _ _ _ _ _ (by rw [hsz]; exact hvl) (fun j v hj => ?_)) (by omega) h1v
    have : (⟨vb, vo, none⟩ : Addr).add j = ⟨vb, vo + j, none⟩ := by unfold Addr.add; split <;> simp_all
    rw [this]
    have e : W.cell? ⟨vb, vo + j, none⟩ = va[vo + j]? := by simp [World.cell?, hW, hWo vb hvw, hmemv]
    rw [e]; exact hvs j v hj
  have hcp2 : ∀ (W : World), W.heap = (W1.setRow w.heap.size A1).heap → ∀ ty dc sc, (Builtin.copy_ #[49, 49] ty #[.slice (some ⟨w.heap.size, (i + 1) * 3, none⟩) (n - i) dc, .slice (some ⟨b, i * 3, none⟩) (n - i) sc]).run Try.prog W = .ok (.int .i64 ((n - i : Nat) : Int)) (W.setRow w.heap.size A2) := fun W hW ty dc sc => by
    rw [hA2]
    have hm1 : W.heap[w.heap.size]? = some (.cells A1 132 (0, 0)) := by rw [hW]; exact setRow_heap W1 w.heap.size ROW A1 132 (0, 0) hWn
    refine run_copyR insU129 hinf W (fz := (0, 0)) hm1 (fun j _ hj => by simp at hj) _ _ _ (m := n - i) (k := n - i) (by omega) (lenOf_slice _ _ _ _) (run_firstCells_some W _ _ _ _ _ _ (by rw [hsz]; exact hcl) (fun j v hj => ?_)) (by omega) h1c
    rw [hcs, List.getElem?_drop, List.getElem?_take] at hj
    split at hj
    · have : (⟨b, i * 3, none⟩ : Addr).add j = ⟨b, i * 3 + j, none⟩ := by unfold Addr.add; split <;> simp_all
      rw [this]
      have e : W.cell? ⟨b, i * 3 + j, none⟩ = arr[i * 3 + j]? := by
        have e1 : W.heap[b]? = w.heap[b]? := by rw [hW, setRow_other W1 w.heap.size b A1 (by omega)]; exact hWo b hbw
        simp [World.cell?, e1, hmem]
      rw [e]; simpa using hj
    · cases hj
  have hb1 : (0 : Int) ≤ (i : Int) + 1 := by omega
  have hin : i ≤ n := by omega
  have hb2 : ¬ (G = i + 1) := by omega
  have hb4 : ¬ (c = i) := by omega
  have hb5 : ¬ (G = i) := by omega
  have hb3 : (i : Int) ≤ (n : Int) + 1 := by omega
  have hb6 : (c : Int) < (n : Int) + 1 := by omega
  have hb7 : i ≤ c := by omega
  rw [← hW1]
  clear hG hcs hA1 hA2 hW1 hold hROW hWn hWo hik hkk
  go_enter Try.func129, Try.ntmps129
  go_wp2_with (first
    | (at_builtin; refine Lib.wpList_append_run _ rfl _ _ _ _ rfl _ _ rfl rfl _ _ (hrz _) ?_)
    | (at_builtin; refine wpList_copy_runR _ rfl _ _ 49 49 rfl _ _ rfl rfl (hcp1 _ (by exact rfl) _ _) ?_))
  have hF : ((W1.setRow w.heap.size A1).drew).heap = (W1.setRow w.heap.size A1).heap := rfl
  go_region_law_o (refine step_copy_runR rfl _ _ 49 49 rfl (.slice (some ⟨w.heap.size, (i + 1) * 3, none⟩) (n - i) (G - (i + 1))) (.slice (some ⟨b, i * 3, none⟩) (n - i) (c - i)) (by simp [Act.eval, Act.put]) (by simp [Act.eval, Act.put]) (hcp2 _ hF 3 (G - (i + 1)) (c - i)) ?_)
  go_wp2
  go_ret
  exact ⟨rfl, rfl⟩
theorem insF129 : InsF Try.prog 129 132 3 24 := by
  intro w b i n c vb vo vc arr va tb tv fz fv vs hmem hsize hf hmemv hfv hbn hvl hvs h1v h1c hi hnc hby
  obtain ⟨inf, z, hinf, hsz, hzz, hzs, hbb⟩ := insE129
  obtain ⟨cs, hcs⟩ : ∃ cs, cs = (arr.toList.take (n * 3)).drop (i * 3) := ⟨_, rfl⟩
  have h1 : ∀ u ∈ cs, u.oneCell' = true := fun u hu => h1c u (by rw [hcs] at hu; exact List.mem_of_mem_drop hu)
  have hcl : cs.length = (n - i) * 3 := by rw [hcs]; simp; omega
  by_cases hroom : n + 1 ≤ c
  · have hvo : vo < va.size := by
      have := hvs 0 vs[0] (List.getElem?_eq_getElem (by omega))
      have := (Array.getElem?_eq_some_iff.1 this).1
      omega
    have hov : ∀ y, (callFunc 136 #[.slice (some ⟨vb, vo, none⟩) 1 vc, .slice (some ⟨b, (i + 1) * 3, none⟩) (n - i) y]).run Try.prog w = .ok (.value (.bool false)) w := fun y => by
      rw [run_callFunc_extern Try.func136 (by kernel_rfl) (by kernel_rfl) (by kernel_rfl) (e := Extern.SlicesOverlaps.overlaps #[49, 49] #[4]) (by kernel_rfl),
        Lib.run_overlaps_apart w 49 4 132 insU129 3 (fun w => by rw [run_size hinf, hsz]) ⟨vb, vo, none⟩ ⟨b, (i + 1) * 3, none⟩ 1 vc (n - i) y hbn tv tb va.size arr.size (by simp [World.shape?, hmemv]) (by simp [World.shape?, hmem]) (by omega)
          (by have := hfv vo (by omega); simp only [World.frozen?, hmemv]; simp; omega) (by have := hfv va.size (Nat.le_refl _); simp only [World.frozen?, hmemv]; simp; omega)]
      rfl
    refine (insShift129 hinf hsz w b i n c vb vo vc arr tb fz cs vs hmem (fun j hj => hf j (by omega)) hi hroom hsize hby hbn hcs hvl (fun j u hj => by simpa [World.cell?, hmemv] using hvs j u hj) h1 h1v hov _ _ rfl rfl).mono fun x w' => ?_
    rintro ⟨rfl, rfl⟩
    have hA1s : (arr.toList.take ((i + 1) * 3) ++ (cs ++ arr.toList.drop ((i + 1) * 3 + cs.length))).toArray.size = arr.size := by simp [hcl]; omega
    have hm1 := setRow_heap w.drew b arr (arr.toList.take ((i + 1) * 3) ++ (cs ++ arr.toList.drop ((i + 1) * 3 + cs.length))).toArray tb fz hmem
    generalize hA1 : (arr.toList.take ((i + 1) * 3) ++ (cs ++ arr.toList.drop ((i + 1) * 3 + cs.length))).toArray = A1 at *
    have hA2s : (A1.toList.take (i * 3) ++ (vs ++ A1.toList.drop (i * 3 + vs.length))).toArray.size = A1.size := by simp [hvl]; omega
    have hm2 := setRow_heap (w.drew.setRow b A1) b A1 (A1.toList.take (i * 3) ++ (vs ++ A1.toList.drop (i * 3 + vs.length))).toArray tb fz hm1
    refine ⟨b, c, tb, _, fz, rfl, rfl, rfl, rfl, hm2, fun j hj => hf j (by rw [hA2s, hA1s] at hj; exact hj), by rw [hA2s, hA1s]; exact hsize, hroom, ?_, .inl ⟨rfl, rfl, by rw [hA2s, hA1s], by rw [setRow_size, setRow_size]; rfl, fun j hj => ?_⟩⟩
    · subst hA1
      exact insShiftL arr.toList vs cs (i * 3) (n * 3) 3 ((i + 1) * 3) ((n + 1) * 3) (by omega) (by omega) (by omega) (by simp; omega) hvl hcs
    · rw [setRow_other _ _ _ _ hj, setRow_other _ _ _ _ hj]; rfl
  · refine (insGrow129 hinf hsz hzz hzs hbb w b i n c vb vo vc arr tb fz cs vs hmem hi hnc hroom hsize hby va tv fv hmemv hcs hvl hvs h1 h1v _ rfl _ _ _ rfl rfl rfl).mono fun x w' => ?_
    rintro ⟨rfl, rfl⟩
    have hGn : n + 1 ≤ grownCap w (n + 1) c 132 := grownCap_ge w _ _ _
    have hzc : ∀ k, (Builtin.zeroCells z.cells k).size = k * 3 := fun k => by rw [size_zeroCells, hzs]
    have hRs : ((arr.toList.take (i * 3)).toArray ++ Builtin.zeroCells z.cells (n + 1 - i) ++ Builtin.zeroCells z.cells (grownCap w (n + 1) c 132 - (n + 1))).size = grownCap w (n + 1) c 132 * 3 := by
      simp only [Array.size_append, hzc, List.size_toArray, List.length_take, Array.length_toList]; omega
    have hRt : ((arr.toList.take (i * 3)).toArray ++ Builtin.zeroCells z.cells (n + 1 - i) ++ Builtin.zeroCells z.cells (grownCap w (n + 1) c 132 - (n + 1))).toList.take (i * 3) = arr.toList.take (i * 3) := by
      simp only [Array.toList_append, List.append_assoc]
      exact List.take_left' (by simp; omega)
    generalize hG : grownCap w (n + 1) c 132 = G at *
    generalize hR : (arr.toList.take (i * 3)).toArray ++ Builtin.zeroCells z.cells (n + 1 - i) ++ Builtin.zeroCells z.cells (G - (n + 1)) = ROW at *
    have hm0 : (w.drew.alloc (.cells ROW 132)).heap[w.heap.size]? = some (.cells ROW 132 (0, 0)) := heap_alloc_new w.drew _
    have hA1s : (ROW.toList.take (i * 3) ++ (vs ++ ROW.toList.drop (i * 3 + vs.length))).toArray.size = ROW.size := by simp [hvl]; omega
    have hm1 := setRow_heap (w.drew.alloc (.cells ROW 132)) w.heap.size ROW (ROW.toList.take (i * 3) ++ (vs ++ ROW.toList.drop (i * 3 + vs.length))).toArray 132 (0, 0) hm0
    generalize hA1 : (ROW.toList.take (i * 3) ++ (vs ++ ROW.toList.drop (i * 3 + vs.length))).toArray = A1 at *
    have hA2s : (A1.toList.take ((i + 1) * 3) ++ (cs ++ A1.toList.drop ((i + 1) * 3 + cs.length))).toArray.size = A1.size := by simp [hcl]; omega
    have hm2 := setRow_heap ((w.drew.alloc (.cells ROW 132)).setRow w.heap.size A1).drew w.heap.size A1 (A1.toList.take ((i + 1) * 3) ++ (cs ++ A1.toList.drop ((i + 1) * 3 + cs.length))).toArray 132 (0, 0) hm1
    refine ⟨w.heap.size, G, 132, _, (0, 0), rfl, rfl, rfl, rfl, hm2, fun j _ hj => by simp at hj, by rw [hA2s, hA1s]; exact hRs, hGn, ?_, .inr ⟨rfl, rfl, ?_, fun j hj => ?_⟩⟩
    · subst hA1
      exact insGrowL arr.toList ROW.toList vs cs (i * 3) (n * 3) 3 ((i + 1) * 3) ((n + 1) * 3) (by omega) (by omega) (by omega) (by simp; omega) hvl hcs hRt
    · rw [setRow_size]
      show ((w.drew.alloc (.cells ROW 132)).setRow w.heap.size A1).heap.size = _
      rw [setRow_size]
      simp
    · rw [setRow_other _ _ _ _ (by omega)]
      show ((w.drew.alloc (.cells ROW 132)).setRow w.heap.size A1).heap[j]? = _
      rw [setRow_other _ _ _ _ (by omega)]
      exact heap_alloc_old w.drew _ hj


theorem insU124 : Try.prog.underlying 24 = some (.slice 40) := by kernel_rfl
theorem insI124 : Try.prog.underlying 3 = some (.int .i64) := by kernel_rfl
theorem insE124 : ∃ (inf : TypeInfo) (z : Value), Try.prog.info? 40 = some inf ∧ inf.size = 2 ∧ inf.zero = some z ∧ z.cells.size = 2 ∧ inf.bytes = 24 := insE_of (by kernel_rfl)
set_option maxHeartbeats 4000000 in
theorem insShift124 {inf : TypeInfo} (hinf : Try.prog.info? 40 = some inf) (hsz : inf.size = 2) (w : World) (b i n c vb vo vc : Nat) (arr : Array Value) (tb : Nat) (fz : Nat × Nat) (cs vs : List Value) (hmem : w.heap[b]? = some (.cells arr tb fz)) (hf : ∀ j, j < arr.size → ¬ (fz.1 ≤ j ∧ j < fz.2))
    (hi : i < n) (hroom : n + 1 ≤ c) (hsize : arr.size = c * 2) (hby : (n + 1) * 24 ≤ 140737488355328) (hbn : vb ≠ b)
    (hcs : cs = (arr.toList.take (n * 2)).drop (i * 2)) (hvl : vs.length = 2) (hvs : ∀ (j : Nat) (u : Value), vs[j]? = some u → w.cell? ⟨vb, vo + j, none⟩ = some u) (h1c : ∀ u ∈ cs, u.oneCell' = true) (h1v : ∀ u ∈ vs, u.oneCell' = true)
    (hov : ∀ y, (callFunc 133 #[.slice (some ⟨vb, vo, none⟩) 1 vc, .slice (some ⟨b, (i + 1) * 2, none⟩) (n - i) y]).run Try.prog w = .ok (.value (.bool false)) w) (A1 A2 : Array Value)
    (hA1 : A1 = (arr.toList.take ((i + 1) * 2) ++ (cs ++ arr.toList.drop ((i + 1) * 2 + cs.length))).toArray) (hA2 : A2 = (A1.toList.take (i * 2) ++ (vs ++ A1.toList.drop (i * 2 + vs.length))).toArray) :
    Calls Try.prog 124 #[.slice (some ⟨b, 0, none⟩) n c, .int .i64 (i : Nat), .slice (some ⟨vb, vo, none⟩) 1 vc] w fun e w' => e = .returned (.slice (some ⟨b, 0, none⟩) (n + 1) c) ∧ w' = (w.drew.setRow b A1).setRow b A2 := by
  have mixed := mixed
  have hz2 : ¬ ((i : Int) = (n : Int)) := by omega
  have hw1 : IntKind.i64.wrap ((i : Int) + (1 : Int)) = (i : Int) + (1 : Int) := by rw [IntKind.wrap_i64]; omega
  have hw2 : IntKind.i64.wrap ((n : Int) + (1 : Int)) = (n : Int) + (1 : Int) := by rw [IntKind.wrap_i64]; omega
  have hcl : cs.length = (n - i) * 2 := by rw [hcs]; simp; omega
  have hA1s : A1.size = arr.size := by rw [hA1]; simp [hcl]; omega
  have hcp1 : ∀ ty dc sc, (Builtin.copy_ #[24, 24] ty #[.slice (some ⟨b, (i + 1) * 2, none⟩) (n - i) dc, .slice (some ⟨b, i * 2, none⟩) (n + 1 - i) sc]).run Try.prog w.drew = .ok (.int .i64 ((n - i : Nat) : Int)) (w.drew.setRow b A1) := fun ty dc sc => by
    rw [hA1]
    refine run_copyR insU124 hinf w.drew (fz := fz) hmem hf _ _ _ (m := n + 1 - i) (k := n - i) (by omega) (lenOf_slice _ _ _ _) (run_firstCells_some w.drew _ _ _ _ _ _ (by rw [hsz]; exact hcl) (fun j v hj => ?_)) (by omega) h1c
    rw [hcs, List.getElem?_drop, List.getElem?_take] at hj
    split at hj
    · have : (⟨b, i * 2, none⟩ : Addr).add j = ⟨b, i * 2 + j, none⟩ := by unfold Addr.add; split <;> simp_all
      rw [this]
      have e : w.drew.cell? ⟨b, i * 2 + j, none⟩ = arr[i * 2 + j]? := by simp [World.cell?, show w.drew.heap = w.heap from rfl, hmem]
      rw [e]; simpa using hj
    · cases hj
  have hcp2 : ∀ (W : World), W.heap = (w.drew.setRow b A1).heap → ∀ ty dc, (Builtin.copy_ #[24, 24] ty #[.slice (some ⟨b, i * 2, none⟩) (n + 1 - i) dc, .slice (some ⟨vb, vo, none⟩) 1 vc]).run Try.prog W = .ok (.int .i64 ((1 : Nat) : Int)) (W.setRow b A2) := fun W hW ty dc => by
    rw [hA2]
    have hm1 : W.heap[b]? = some (.cells A1 tb fz) := by rw [hW]; exact setRow_heap w.drew b arr A1 tb fz hmem
    refine run_copyR insU124 hinf W (fz := fz) hm1 (by rw [hA1s]; exact hf) _ _ _ (m := 1) (k := 1) (by omega) (lenOf_slice _ _ _ _) (run_firstCells_some W _ _ _ _ _ _ (by rw [hsz]; exact hvl) (fun j v hj => ?_)) (by omega) h1v
    have : (⟨vb, vo, none⟩ : Addr).add j = ⟨vb, vo + j, none⟩ := by unfold Addr.add; split <;> simp_all
    rw [this]
    have e : W.cell? ⟨vb, vo + j, none⟩ = w.cell? ⟨vb, vo + j, none⟩ := cell_congr (by rw [hW]; exact setRow_other w.drew b vb A1 hbn)
    rw [e]; exact hvs j v hj
  have hb1 : (0 : Int) ≤ (i : Int) + 1 := by omega
  have hin : i ≤ n := by omega
  have hb2 : ¬ (c = i + 1) := by omega
  have hb4 : ¬ (c = i) := by omega
  have hb3 : (i : Int) ≤ (n : Int) + 1 := by omega
  clear hcs hA1 hA2
  go_enter Try.func124, Try.ntmps124
  go_wp2_with (simp only [hov])
  go_region_law_o (refine step_copy_runR rfl _ _ 24 24 rfl _ _ (by simp [Act.eval, Act.put]) (by simp [Act.eval, Act.put]) (hcp1 _ _ _) ?_)
  go_wp2_with (at_builtin; refine wpList_copy_runR _ rfl _ _ 24 24 rfl _ _ rfl rfl (hcp2 _ rfl _ _) ?_)
  go_ret
  exact ⟨rfl, rfl⟩
set_option maxHeartbeats 4000000 in
theorem insGrow124 {inf : TypeInfo} {z : Value} (hinf : Try.prog.info? 40 = some inf) (hsz : inf.size = 2) (hzz : inf.zero = some z) (hzs : z.cells.size = 2) (hbb : inf.bytes = 24) (w : World) (b i n c vb vo vc : Nat) (arr : Array Value) (tb : Nat) (fz : Nat × Nat) (cs vs : List Value) (hmem : w.heap[b]? = some (.cells arr tb fz))
    (hi : i < n) (hnc : n ≤ c) (hroom : ¬ (n + 1 ≤ c)) (hsize : arr.size = c * 2) (hby : (n + 1) * 24 ≤ 140737488355328) (va : Array Value) (tv : Nat) (fv : Nat × Nat) (hmemv : w.heap[vb]? = some (.cells va tv fv))
    (hcs : cs = (arr.toList.take (n * 2)).drop (i * 2)) (hvl : vs.length = 2) (hvs : ∀ (j : Nat) (u : Value), vs[j]? = some u → va[vo + j]? = some u) (h1c : ∀ u ∈ cs, u.oneCell' = true) (h1v : ∀ u ∈ vs, u.oneCell' = true)
    (G : Nat) (hG : G = grownCap w (n + 1) c 40) (ROW A1 A2 : Array Value)
    (hROW : ROW = (arr.toList.take (i * 2)).toArray ++ Builtin.zeroCells z.cells (n + 1 - i) ++ Builtin.zeroCells z.cells (G - (n + 1)))
    (hA1 : A1 = (ROW.toList.take (i * 2) ++ (vs ++ ROW.toList.drop (i * 2 + vs.length))).toArray) (hA2 : A2 = (A1.toList.take ((i + 1) * 2) ++ (cs ++ A1.toList.drop ((i + 1) * 2 + cs.length))).toArray) :
    Calls Try.prog 124 #[.slice (some ⟨b, 0, none⟩) n c, .int .i64 (i : Nat), .slice (some ⟨vb, vo, none⟩) 1 vc] w fun e w' => e = .returned (.slice (some ⟨w.heap.size, 0, none⟩) (n + 1) G) ∧ w' = (((w.drew.alloc (.cells ROW 40)).setRow w.heap.size A1).drew).setRow w.heap.size A2 := by
  have mixed := mixed
  have hz2 : ¬ ((i : Int) = (n : Int)) := by omega
  have hw1 : IntKind.i64.wrap ((i : Int) + (1 : Int)) = (i : Int) + (1 : Int) := by rw [IntKind.wrap_i64]; omega
  have hw2 : IntKind.i64.wrap ((n : Int) + (1 : Int)) = (n : Int) + (1 : Int) := by rw [IntKind.wrap_i64]; omega
  have hw3 : IntKind.i64.wrap ((n : Int) + (1 : Int) - (i : Int)) = (n : Int) + (1 : Int) - (i : Int) := by rw [IntKind.wrap_i64]; omega
  have hcl : cs.length = (n - i) * 2 := by rw [hcs]; simp; omega
  have hGn : n + 1 ≤ G := by rw [hG]; exact grownCap_ge w _ _ _
  have hbw : b < w.heap.size := (Array.getElem?_eq_some_iff.1 hmem).1
  have hvw : vb < w.heap.size := (Array.getElem?_eq_some_iff.1 hmemv).1
  have hzc : ∀ k, (Builtin.zeroCells z.cells k).size = k * 2 := fun k => by rw [size_zeroCells, hzs]
  have hRs : ROW.size = G * 2 := by
    rw [hROW]; simp only [Array.size_append, hzc, List.size_toArray, List.length_take, Array.length_toList]; omega
  have hA1s : A1.size = ROW.size := by rw [hA1]; simp [hvl]; omega
  have hold : (Builtin.firstCells inf.size i (.slice (some ⟨b, 0, none⟩) i c)).run Try.prog w.drew = .ok (arr.toList.take (i * 2)).toArray w.drew := by
    rw [hsz]
    refine run_firstCells_some w.drew 2 i ⟨b, 0, none⟩ i c (arr.toList.take (i * 2)) (by rw [List.length_take]; simp; omega) (fun j v hj => ?_)
    rw [List.getElem?_take] at hj
    split at hj
    · have : (⟨b, 0, none⟩ : Addr).add j = ⟨b, j, none⟩ := by unfold Addr.add; split <;> simp_all
      rw [this]
      have e : w.drew.cell? ⟨b, j, none⟩ = arr[j]? := by simp [World.cell?, show w.drew.heap = w.heap from rfl, hmem]
      rw [e]; simpa using hj
    · cases hj
  have hik : i + (n + 1 - i) = n + 1 := by omega
  have hkk : (n : Int) + 1 - (i : Int) = ((n + 1 - i : Nat) : Int) := by omega
  obtain ⟨W1, hW1⟩ : ∃ W1, W1 = w.drew.alloc (.cells ROW 40) := ⟨_, rfl⟩
  have hrz : ∀ ty, (Builtin.append_ #[24, 3] ty #[.slice (some ⟨b, 0, none⟩) i c, .int .i64 ((n : Int) + 1 - (i : Int))]).run Try.prog w = .ok (.slice (some ⟨w.heap.size, 0, none⟩) (n + 1) G) W1 := fun ty => by
    have hnx := nextslicecap_le (need := n + 1) (old := c) (by omega)
    have h := Lib.run_append_grow_zeros w 24 3 ty 40 inf z .i64 .i64 insU124 insI124 hinf hzz (some ⟨b, 0, none⟩) i c (arr.toList.take (i * 2)) hold (n + 1 - i) (by omega) (by omega) (by omega) (by omega) (by rw [hbb]; omega) (by rw [hbb, hik]; omega)
    rw [hik, ← hG, ← hROW, ← hW1] at h
    rw [hkk]
    exact h
  have hWn : W1.heap[w.heap.size]? = some (.cells ROW 40 (0, 0)) := by rw [hW1]; exact heap_alloc_new w.drew _
  have hWo : ∀ j, j < w.heap.size → W1.heap[j]? = w.heap[j]? := fun j hj => by rw [hW1]; exact heap_alloc_old w.drew _ hj
  have hcp1 : ∀ (W : World), W.heap = W1.heap → ∀ ty dc, (Builtin.copy_ #[24, 24] ty #[.slice (some ⟨w.heap.size, i * 2, none⟩) (n + 1 - i) dc, .slice (some ⟨vb, vo, none⟩) 1 vc]).run Try.prog W = .ok (.int .i64 ((1 : Nat) : Int)) (W.setRow w.heap.size A1) := fun W hW ty dc => by
    rw [hA1]
    refine run_copyR insU124 hinf W (fz := (0, 0)) (by rw [hW]; exact hWn) (fun j _ hj => by simp at hj) _ _ _ (m := 1) (k := 1) (by omega) (lenOf_slice _ _ _ _) (run_firstCells_some W _ _ _ _ _ _ (by rw [hsz]; exact hvl) (fun j v hj => ?_)) (by omega) h1v
    have : (⟨vb, vo, none⟩ : Addr).add j = ⟨vb, vo + j, none⟩ := by unfold Addr.add; split <;> simp_all
    rw [this]
    have e : W.cell? ⟨vb, vo + j, none⟩ = va[vo + j]? := by simp [World.cell?, hW, hWo vb hvw, hmemv]
    rw [e]; exact hvs j v hj
  have hcp2 : ∀ (W : World), W.heap = (W1.setRow w.heap.size A1).heap → ∀ ty dc sc, (Builtin.copy_ #[24, 24] ty #[.slice (some ⟨w.heap.size, (i + 1) * 2, none⟩) (n - i) dc, .slice (some ⟨b, i * 2, none⟩) (n - i) sc]).run Try.prog W = .ok (.int .i64 ((n - i : Nat) : Int)) (W.setRow w.heap.size A2) := fun W hW ty dc sc => by
    rw [hA2]
    have hm1 : W.heap[w.heap.size]? = some (.cells A1 40 (0, 0)) := by rw [hW]; exact setRow_heap W1 w.heap.size ROW A1 40 (0, 0) hWn
    refine run_copyR insU124 hinf W (fz := (0, 0)) hm1 (fun j _ hj => by simp at hj) _ _ _ (m := n - i) (k := n - i) (by omega) (lenOf_slice _ _ _ _) (run_firstCells_some W _ _ _ _ _ _ (by rw [hsz]; exact hcl) (fun j v hj => ?_)) (by omega) h1c
    rw [hcs, List.getElem?_drop, List.getElem?_take] at hj
    split at hj
    · have : (⟨b, i * 2, none⟩ : Addr).add j = ⟨b, i * 2 + j, none⟩ := by unfold Addr.add; split <;> simp_all
      rw [this]
      have e : W.cell? ⟨b, i * 2 + j, none⟩ = arr[i * 2 + j]? := by
        have e1 : W.heap[b]? = w.heap[b]? := by rw [hW, setRow_other W1 w.heap.size b A1 (by omega)]; exact hWo b hbw
        simp [World.cell?, e1, hmem]
      rw [e]; simpa using hj
    · cases hj
  have hb1 : (0 : Int) ≤ (i : Int) + 1 := by omega
  have hin : i ≤ n := by omega
  have hb2 : ¬ (G = i + 1) := by omega
  have hb4 : ¬ (c = i) := by omega
  have hb5 : ¬ (G = i) := by omega
  have hb3 : (i : Int) ≤ (n : Int) + 1 := by omega
  have hb6 : (c : Int) < (n : Int) + 1 := by omega
  have hb7 : i ≤ c := by omega
  rw [← hW1]
  clear hG hcs hA1 hA2 hW1 hold hROW hWn hWo hik hkk
  go_enter Try.func124, Try.ntmps124
  go_wp2_with (first
    | (at_builtin; refine Lib.wpList_append_run _ rfl _ _ _ _ rfl _ _ rfl rfl _ _ (hrz _) ?_)
    | (at_builtin; refine wpList_copy_runR _ rfl _ _ 24 24 rfl _ _ rfl rfl (hcp1 _ (by exact rfl) _ _) ?_))
  have hF : ((W1.setRow w.heap.size A1).drew).heap = (W1.setRow w.heap.size A1).heap := rfl
  go_region_law_o (refine step_copy_runR rfl _ _ 24 24 rfl (.slice (some ⟨w.heap.size, (i + 1) * 2, none⟩) (n - i) (G - (i + 1))) (.slice (some ⟨b, i * 2, none⟩) (n - i) (c - i)) (by simp [Act.eval, Act.put]) (by simp [Act.eval, Act.put]) (hcp2 _ hF 3 (G - (i + 1)) (c - i)) ?_)
  go_wp2
  go_ret
  exact ⟨rfl, rfl⟩
theorem insF124 : InsF Try.prog 124 40 2 24 := by
  intro w b i n c vb vo vc arr va tb tv fz fv vs hmem hsize hf hmemv hfv hbn hvl hvs h1v h1c hi hnc hby
  obtain ⟨inf, z, hinf, hsz, hzz, hzs, hbb⟩ := insE124
  obtain ⟨cs, hcs⟩ : ∃ cs, cs = (arr.toList.take (n * 2)).drop (i * 2) := ⟨_, rfl⟩
  have h1 : ∀ u ∈ cs, u.oneCell' = true := fun u hu => h1c u (by rw [hcs] at hu; exact List.mem_of_mem_drop hu)
  have hcl : cs.length = (n - i) * 2 := by rw [hcs]; simp; omega
  by_cases hroom : n + 1 ≤ c
  · have hvo : vo < va.size := by
      have := hvs 0 vs[0] (List.getElem?_eq_getElem (by omega))
      have := (Array.getElem?_eq_some_iff.1 this).1
      omega
    have hov : ∀ y, (callFunc 133 #[.slice (some ⟨vb, vo, none⟩) 1 vc, .slice (some ⟨b, (i + 1) * 2, none⟩) (n - i) y]).run Try.prog w = .ok (.value (.bool false)) w := fun y => by
      rw [run_callFunc_extern Try.func133 (by kernel_rfl) (by kernel_rfl) (by kernel_rfl) (e := Extern.SlicesOverlaps.overlaps #[24, 24] #[4]) (by kernel_rfl),
        Lib.run_overlaps_apart w 24 4 40 insU124 2 (fun w => by rw [run_size hinf, hsz]) ⟨vb, vo, none⟩ ⟨b, (i + 1) * 2, none⟩ 1 vc (n - i) y hbn tv tb va.size arr.size (by simp [World.shape?, hmemv]) (by simp [World.shape?, hmem]) (by omega)
          (by have := hfv vo (by omega); simp only [World.frozen?, hmemv]; simp; omega) (by have := hfv va.size (Nat.le_refl _); simp only [World.frozen?, hmemv]; simp; omega)]
      rfl
    refine (insShift124 hinf hsz w b i n c vb vo vc arr tb fz cs vs hmem (fun j hj => hf j (by omega)) hi hroom hsize hby hbn hcs hvl (fun j u hj => by simpa [World.cell?, hmemv] using hvs j u hj) h1 h1v hov _ _ rfl rfl).mono fun x w' => ?_
    rintro ⟨rfl, rfl⟩
    have hA1s : (arr.toList.take ((i + 1) * 2) ++ (cs ++ arr.toList.drop ((i + 1) * 2 + cs.length))).toArray.size = arr.size := by simp [hcl]; omega
    have hm1 := setRow_heap w.drew b arr (arr.toList.take ((i + 1) * 2) ++ (cs ++ arr.toList.drop ((i + 1) * 2 + cs.length))).toArray tb fz hmem
    generalize hA1 : (arr.toList.take ((i + 1) * 2) ++ (cs ++ arr.toList.drop ((i + 1) * 2 + cs.length))).toArray = A1 at *
    have hA2s : (A1.toList.take (i * 2) ++ (vs ++ A1.toList.drop (i * 2 + vs.length))).toArray.size = A1.size := by simp [hvl]; omega
    have hm2 := setRow_heap (w.drew.setRow b A1) b A1 (A1.toList.take (i * 2) ++ (vs ++ A1.toList.drop (i * 2 + vs.length))).toArray tb fz hm1
    refine ⟨b, c, tb, _, fz, rfl, rfl, rfl, rfl, hm2, fun j hj => hf j (by rw [hA2s, hA1s] at hj; exact hj), by rw [hA2s, hA1s]; exact hsize, hroom, ?_, .inl ⟨rfl, rfl, by rw [hA2s, hA1s], by rw [setRow_size, setRow_size]; rfl, fun j hj => ?_⟩⟩
    · subst hA1
      exact insShiftL arr.toList vs cs (i * 2) (n * 2) 2 ((i + 1) * 2) ((n + 1) * 2) (by omega) (by omega) (by omega) (by simp; omega) hvl hcs
    · rw [setRow_other _ _ _ _ hj, setRow_other _ _ _ _ hj]; rfl
  · refine (insGrow124 hinf hsz hzz hzs hbb w b i n c vb vo vc arr tb fz cs vs hmem hi hnc hroom hsize hby va tv fv hmemv hcs hvl hvs h1 h1v _ rfl _ _ _ rfl rfl rfl).mono fun x w' => ?_
    rintro ⟨rfl, rfl⟩
    have hGn : n + 1 ≤ grownCap w (n + 1) c 40 := grownCap_ge w _ _ _
    have hzc : ∀ k, (Builtin.zeroCells z.cells k).size = k * 2 := fun k => by rw [size_zeroCells, hzs]
    have hRs : ((arr.toList.take (i * 2)).toArray ++ Builtin.zeroCells z.cells (n + 1 - i) ++ Builtin.zeroCells z.cells (grownCap w (n + 1) c 40 - (n + 1))).size = grownCap w (n + 1) c 40 * 2 := by
      simp only [Array.size_append, hzc, List.size_toArray, List.length_take, Array.length_toList]; omega
    have hRt : ((arr.toList.take (i * 2)).toArray ++ Builtin.zeroCells z.cells (n + 1 - i) ++ Builtin.zeroCells z.cells (grownCap w (n + 1) c 40 - (n + 1))).toList.take (i * 2) = arr.toList.take (i * 2) := by
      simp only [Array.toList_append, List.append_assoc]
      exact List.take_left' (by simp; omega)
    generalize hG : grownCap w (n + 1) c 40 = G at *
    generalize hR : (arr.toList.take (i * 2)).toArray ++ Builtin.zeroCells z.cells (n + 1 - i) ++ Builtin.zeroCells z.cells (G - (n + 1)) = ROW at *
    have hm0 : (w.drew.alloc (.cells ROW 40)).heap[w.heap.size]? = some (.cells ROW 40 (0, 0)) := heap_alloc_new w.drew _
    have hA1s : (ROW.toList.take (i * 2) ++ (vs ++ ROW.toList.drop (i * 2 + vs.length))).toArray.size = ROW.size := by simp [hvl]; omega
    have hm1 := setRow_heap (w.drew.alloc (.cells ROW 40)) w.heap.size ROW (ROW.toList.take (i * 2) ++ (vs ++ ROW.toList.drop (i * 2 + vs.length))).toArray 40 (0, 0) hm0
    generalize hA1 : (ROW.toList.take (i * 2) ++ (vs ++ ROW.toList.drop (i * 2 + vs.length))).toArray = A1 at *
    have hA2s : (A1.toList.take ((i + 1) * 2) ++ (cs ++ A1.toList.drop ((i + 1) * 2 + cs.length))).toArray.size = A1.size := by simp [hcl]; omega
    have hm2 := setRow_heap ((w.drew.alloc (.cells ROW 40)).setRow w.heap.size A1).drew w.heap.size A1 (A1.toList.take ((i + 1) * 2) ++ (cs ++ A1.toList.drop ((i + 1) * 2 + cs.length))).toArray 40 (0, 0) hm1
    refine ⟨w.heap.size, G, 40, _, (0, 0), rfl, rfl, rfl, rfl, hm2, fun j _ hj => by simp at hj, by rw [hA2s, hA1s]; exact hRs, hGn, ?_, .inr ⟨rfl, rfl, ?_, fun j hj => ?_⟩⟩
    · subst hA1
      exact insGrowL arr.toList ROW.toList vs cs (i * 2) (n * 2) 2 ((i + 1) * 2) ((n + 1) * 2) (by omega) (by omega) (by omega) (by simp; omega) hvl hcs hRt
    · rw [setRow_size]
      show ((w.drew.alloc (.cells ROW 40)).setRow w.heap.size A1).heap.size = _
      rw [setRow_size]
      simp
    · rw [setRow_other _ _ _ _ (by omega)]
      show ((w.drew.alloc (.cells ROW 40)).setRow w.heap.size A1).heap[j]? = _
      rw [setRow_other _ _ _ _ (by omega)]
      exact heap_alloc_old w.drew _ hj


def insT : InsT := [(129, (132, 3, 24)), (124, (40, 2, 24))]
theorem insT_ok : InsOk Try.prog insT := by
  intro f e sz bytes h
  by_cases h129 : f = 129
  · subst h129
    simp [insT, List.lookup] at h
    obtain ⟨rfl, rfl, rfl⟩ := h
    exact ⟨insF129, _, Try.func129, by kernel_rfl, by kernel_rfl⟩
  have e129 : (f == 129) = false := by simpa using h129
  by_cases h124 : f = 124
  · subst h124
    simp [insT, List.lookup] at h
    obtain ⟨rfl, rfl, rfl⟩ := h
    exact ⟨insF124, _, Try.func124, by kernel_rfl, by kernel_rfl⟩
  have e124 : (f == 124) = false := by simpa using h124
  simp [insT, List.lookup, e129, e124] at h


theorem delU91 : Try.prog.underlying 24 = some (.slice 40) := by kernel_rfl
theorem delE91 : ∃ (inf : TypeInfo) (z : Value), Try.prog.info? 40 = some inf ∧ inf.size = 2 ∧ inf.zero = some z ∧ z.cells.size = 2 ∧ (∀ u ∈ z.cells.toList, u.oneCell' = true) := delE_of (by kernel_rfl)
set_option maxHeartbeats 4000000 in
theorem delW91 {inf : TypeInfo} {z : Value} (hinf : Try.prog.info? 40 = some inf) (hsz : inf.size = 2) (hzz : inf.zero = some z) (hzs : z.cells.size = 2) (hz1 : ∀ u ∈ z.cells.toList, u.oneCell' = true) (w : World) (b i k c : Nat) (arr : Array Value) (tb : Nat) (fz : Nat × Nat) (cs : List Value) (hmem : w.heap[b]? = some (.cells arr tb fz)) (hf : ∀ j, j < arr.size → ¬ (fz.1 ≤ j ∧ j < fz.2))
    (hi : i < k + 1) (hnc : k + 1 ≤ c) (hn : k + 1 ≤ 140737488355328) (hsize : arr.size = c * 2) (hcs : cs = (arr.toList.take ((k + 1) * 2)).drop ((i + 1) * 2)) (h1c : ∀ u ∈ cs, u.oneCell' = true) (A1 A2 : Array Value)
    (hA1 : A1 = (arr.toList.take (i * 2) ++ (cs ++ arr.toList.drop (i * 2 + cs.length))).toArray) (hA2 : A2 = (A1.toList.take (k * 2) ++ (z.cells.toList ++ A1.toList.drop (k * 2 + z.cells.toList.length))).toArray) :
    Calls Try.prog 91 #[.slice (some ⟨b, 0, none⟩) (k + 1) c, .int .i64 (i : Nat), .int .i64 ((i : Int) + 1)] w fun e w' => e = .returned (.slice (some ⟨b, 0, none⟩) k c) ∧ w' = (w.drew.setRow b A1).setRow b A2 := by
  have mixed := mixed
  have hz2 : ¬ ((i : Int) = (i : Int) + 1) := by omega
  have hcl : cs.length = (k - i) * 2 := by rw [hcs]; simp; omega
  have hA1s : A1.size = arr.size := by rw [hA1]; simp [hcl]; omega
  obtain ⟨Ad, hA, hsrc⟩ : ∃ Ad : Addr, (if c = i + 1 then (some ⟨b, 0, none⟩ : Option Addr) else some ⟨b, (i + 1) * 2, none⟩) = some Ad ∧ (∀ (t : Nat) (u : Value), cs[t]? = some u → w.drew.cell? (Ad.add t) = some u) := by
    by_cases h : c = i + 1
    · refine ⟨⟨b, 0, none⟩, by simp [h], fun t u hu => ?_⟩
      have h0 : cs = [] := List.eq_nil_of_length_eq_zero (by rw [hcl, show k - i = 0 by omega, Nat.zero_mul])
      rw [h0] at hu; simp at hu
    · refine ⟨⟨b, (i + 1) * 2, none⟩, by simp [h], fun t u hu => ?_⟩
      rw [hcs, List.getElem?_drop, List.getElem?_take] at hu
      split at hu
      · rw [Addr.add_lit]
        have e : w.drew.cell? ⟨b, (i + 1) * 2 + t, none⟩ = arr[(i + 1) * 2 + t]? := by simp [World.cell?, show w.drew.heap = w.heap from rfl, hmem]
        rw [e]; simpa using hu
      · cases hu
  obtain ⟨W1, hW1⟩ : ∃ W1, W1 = w.drew.setRow b A1 := ⟨_, rfl⟩
  have hm1 : W1.heap[b]? = some (.cells A1 tb fz) := by rw [hW1]; exact setRow_heap w.drew b arr A1 tb fz hmem
  have hap : ∀ ty m' c', m' = k - i → (Builtin.append_ #[24, 24] ty #[.slice (some ⟨b, 0, none⟩) i c, .slice (some Ad) m' c']).run Try.prog w.drew = .ok (.slice (some ⟨b, 0, none⟩) k c) W1 := fun ty m' c' hm => by
    subst hm
    have h := run_appendR (P := Try.prog) delU91 hinf w.drew hmem hf i c ty Ad (k - i) c' cs (by rw [hsz]; exact hcl) hsrc h1c (by omega) (by rw [hsize, hsz])
    rw [hsz] at h
    rw [h, hW1, hA1, show i + (k - i) = k by omega]
  have hclr : ∀ ty m' c', m' = 1 → (Builtin.clear_ #[24] ty #[.slice (some ⟨b, k * 2, none⟩) m' c']).run Try.prog W1 = .ok (.tuple #[]) (W1.setRow b A2) := fun ty m' c' hm => by
    subst hm
    rw [hA2]
    exact run_clearR (P := Try.prog) delU91 hinf hzz W1 hm1 (by rw [hA1s]; exact hf) (k * 2) c' ty hz1 (by simp [hzs]; rw [hA1s, hsize]; omega)
  have hic : i ≤ c := by omega
  have hjc : i + 1 ≤ c := by omega
  have hb3 : ¬ (c = k) := by omega
  have hb1 : (0 : Int) ≤ (i : Int) + 1 := by omega
  have hb4 : ((k + 1 : Nat) : Int) = (k : Int) + 1 := by omega
  have hb5 : (0 : Int) ≤ (k : Int) := by omega
  have hb6 : (k : Int) ≤ (k : Int) + 1 := by omega
  have hb7 : (k : Int) + 1 ≤ (c : Int) := by omega
  have hb8 : (i : Int) + 1 ≤ (k : Int) + 1 := by omega
  have hb2 : (i : Int) + 1 ≤ ((k + 1 : Nat) : Int) := by omega
  rw [← hW1]
  clear hcs hA1 hA2 hW1 hm1 hsrc hcl
  go_enter Try.func91, Try.ntmps91
  go_wp2_with fail
  go_region_law_o (refine step_append_runR rfl _ _ 24 24 rfl (.slice (some ⟨b, 0, none⟩) i c) (.slice (some Ad) (k - i) (c - (i + 1))) (by simp [Act.eval, Act.put]) (by simp [Act.eval, Act.put]) (hap _ _ _ rfl) ?_)
  go_wp2
  go_ret
  exact ⟨rfl, rfl⟩
theorem delF91 : DelF Try.prog 91 2 := by
  intro w b i n c arr tb fz hmem hsize hf h1c hi hnc hn
  obtain ⟨inf, z, hinf, hsz, hzz, hzs, hz1⟩ := delE91
  obtain ⟨k, rfl⟩ : ∃ k, n = k + 1 := ⟨n - 1, by omega⟩
  simp only [Nat.add_sub_cancel]
  obtain ⟨cs, hcs⟩ : ∃ cs, cs = (arr.toList.take ((k + 1) * 2)).drop ((i + 1) * 2) := ⟨_, rfl⟩
  have hsl : arr.toList.length = arr.size := Array.length_toList
  have hcl : cs.length = (k - i) * 2 := by rw [hcs, List.length_drop, List.length_take, hsl, hsize]; omega
  have hzl : z.cells.toList.length = 2 := by rw [Array.length_toList, hzs]
  refine (delW91 hinf hsz hzz hzs hz1 w b i k c arr tb fz cs hmem hf hi hnc hn hsize hcs (fun u hu => h1c u (by rw [hcs] at hu; exact List.mem_of_mem_drop hu)) _ _ rfl rfl).mono fun x w' => ?_
  rintro ⟨rfl, rfl⟩
  have hA1s : (arr.toList.take (i * 2) ++ (cs ++ arr.toList.drop (i * 2 + cs.length))).toArray.size = arr.size := by simp [hcl]; omega
  have hm1 := setRow_heap w.drew b arr (arr.toList.take (i * 2) ++ (cs ++ arr.toList.drop (i * 2 + cs.length))).toArray tb fz hmem
  have hA1t : (arr.toList.take (i * 2) ++ (cs ++ arr.toList.drop (i * 2 + cs.length))).toArray.toList.take (k * 2) = arr.toList.take (i * 2) ++ cs := by
    rw [List.toList_toArray, ← List.append_assoc]
    exact List.take_left' (by rw [List.length_append, List.length_take, hcl, hsl, hsize]; omega)
  generalize hA1 : (arr.toList.take (i * 2) ++ (cs ++ arr.toList.drop (i * 2 + cs.length))).toArray = A1 at *
  have hA1l : A1.toList.length = A1.size := Array.length_toList
  have hA2s : (A1.toList.take (k * 2) ++ (z.cells.toList ++ A1.toList.drop (k * 2 + z.cells.toList.length))).toArray.size = A1.size := by simp only [List.size_toArray, List.length_append, List.length_take, List.length_drop, hzl, hA1l, hA1s, hsize]; omega
  have hm2 := setRow_heap (w.drew.setRow b A1) b A1 (A1.toList.take (k * 2) ++ (z.cells.toList ++ A1.toList.drop (k * 2 + z.cells.toList.length))).toArray tb fz hm1
  refine ⟨rfl, rfl, rfl, rfl, _, hm2, by rw [hA2s, hA1s], ?_, by simp [World.setRow], fun j hj => ?_⟩
  · rw [List.toList_toArray, List.take_left' (by rw [List.length_take, hA1l, hA1s, hsize]; omega), hA1t, hcs]
  · rw [setRow_other _ _ _ _ hj, setRow_other _ _ _ _ hj]; rfl

def tyN : Nat → Ty
  | 0 => .unit
  | n + 1 => .pair (.int .i64) (tyN n)
theorem cA89 : isA ((evOY nonJ noneΞ [91,96,94,74] P0 100000 60).1 89 [.snil] []) = true := by kernel_rfl
theorem cB89 : isB ((evOY nonJ noneΞ [91,96,94,74] P0 100000 60).1 89 [.nl ⟨tyN 5, []⟩] []) = true := by kernel_rfl
noncomputable def YC0 : Orc := addC 89 noneΞ
theorem okYC0 : GammaOk2 P0 YC0 := addC_ok (noneΞ_ok2 _) (evOY_ok (nonJ_ok _) (noneΞ_ok2 _) mixed progOk_ 60).1 cA89 cB89
theorem cA90 : isA ((evOY nonJ noneΞ [91,96,94,74] P0 100000 60).1 90 [.snil] []) = true := by kernel_rfl
theorem cB90 : isB ((evOY nonJ noneΞ [91,96,94,74] P0 100000 60).1 90 [.nl ⟨tyN 2, []⟩] []) = true := by kernel_rfl
noncomputable def YC1 : Orc := addC 90 YC0
theorem okYC1 : GammaOk2 P0 YC1 := addC_ok okYC0 (evOY_ok (nonJ_ok _) (noneΞ_ok2 _) mixed progOk_ 60).1 cA90 cB90
noncomputable def con_law18_begun (N : Nat) : Con := ⟨14, [], [], Unit, fun _ => some (), fun _ => (.bs true, [], [])⟩
theorem con_law18_begun_ok (N : Nat) : Con.ok P0 (con_law18_begun N) := closed_con2 (insIn_ok insT_ok) mixed progOk_ okYC1 (inl := [91,96,94,74]) (breath := 100000) (n := 60) (by kernel_rfl)
def as_slices_Clone_api_Item : List AS := [.val (.list (.agg (.pair (.int .i64) .str)))]
def bs_slices_Clone_api_Item : List BS := []
def pout_slices_Clone_api_Item : Pat := ⟨[(2, .acc 700005)], [(700005, .nrow 40 (.agg (.pair (.int .i64) .str)) false true)]⟩
noncomputable def G_slices_Clone_api_Item  (N : Nat) : OrcT := orcOf []
noncomputable def F_slices_Clone_api_Item  (N : Nat) (x : List (Int × List UInt8)) : Option (List (Int × List UInt8)) :=
  (evT (G_slices_Clone_api_Item  N) L0 P0 []
    [] N 400 (bodyOf Try.f90) ⟨8, slots 0 [.nl ⟨(.agg (.pair (.int .i64) .str)), x⟩], tabU (lbOf as_slices_Clone_api_Item bs_slices_Clone_api_Item x) [], []⟩).elim (kRet 8 pout_slices_Clone_api_Item (kpL []) (lbOf as_slices_Clone_api_Item bs_slices_Clone_api_Item x))
def out_slices_Clone_api_Item (y : List (Int × List UInt8)) : V × List OK × List OK := (.acc 2000000 0, [], [.nrow 40 false true ⟨(.agg (.pair (.int .i64) .str)), y⟩])
noncomputable def V_slices_Clone_api_Item  (N : Nat) (x : List (Int × List UInt8)) : Option (List (Int × List UInt8)) :=
  cnd (decide (List.length x * (24 : Nat) ≤ (140737488355328 : Nat))) (some x) none
theorem FV_slices_Clone_api_Item_eq  (N : Nat) (x : List (Int × List UInt8)) : F_slices_Clone_api_Item  N x = V_slices_Clone_api_Item  N x := by kernel_rfl
noncomputable def W_slices_Clone_api_Item (N : Nat) (x : List (Int × List UInt8)) : Option (List (Int × List UInt8)) :=
  cnd (decide (List.length x * (24 : Nat) ≤ (140737488355328 : Nat))) (some x) none
theorem F_slices_Clone_api_Item_eq (N : Nat) (x : List (Int × List UInt8)) : F_slices_Clone_api_Item  N x = W_slices_Clone_api_Item N x := (FV_slices_Clone_api_Item_eq  N x).trans (by kernel_rfl)
noncomputable def conw_slices_Clone_api_Item (w : List (Int × List UInt8) → Option (List (Int × List UInt8))) : Con := ⟨90, as_slices_Clone_api_Item, bs_slices_Clone_api_Item, List (Int × List UInt8), w, out_slices_Clone_api_Item⟩
noncomputable def con_slices_Clone_api_Item (N : Nat) : Con := conw_slices_Clone_api_Item (W_slices_Clone_api_Item N)
theorem R_slices_Clone_api_Item_eq (x : List (Int × List UInt8)) (y : List (Int × List UInt8)) : retOf2 P0 Try.f90 (kpL []) (lbOf as_slices_Clone_api_Item bs_slices_Clone_api_Item x) (patS ⟨8, [], [], []⟩ pout_slices_Clone_api_Item y) = some (out_slices_Clone_api_Item y) := by kernel_rfl
noncomputable def FA_slices_Clone_api_Item : Option (List (Int × List UInt8)) := (evT (G_slices_Clone_api_Item 1) L0 P0 [] [] 1 400 (bodyOf Try.f90) ⟨8, slots 0 [.snil], tabU [] [], []⟩).elim (kRet 8 pout_slices_Clone_api_Item (kpL []) [])
theorem FA_slices_Clone_api_Item_eq : FA_slices_Clone_api_Item = some [] := by kernel_rfl
theorem WN_slices_Clone_api_Item (N : Nat) (r : List (Int × List UInt8)) (h : W_slices_Clone_api_Item N [] = some r) : r = [] := by
  have e : W_slices_Clone_api_Item N [] = some [] := by kernel_rfl
  rw [e] at h; injection h with h; exact h.symm
theorem con_slices_Clone_api_Item_ok (N : Nat) : Con.ok P0 (con_slices_Clone_api_Item N) := ⟨⟨Try.f90, Try.func90, by kernel_rfl, by kernel_rfl⟩, fun (x : List (Int × List UInt8)) (r : List (Int × List UInt8)) (hr : W_slices_Clone_api_Item N x = some r) =>
  clone_split (e := (.agg (.pair (.int .i64) .str))) (ty := 40) (l := x) (r := r)
    (spec2_evT (Γ := G_slices_Clone_api_Item 1) (Λ := L0) (lb := []) (pout := pout_slices_Clone_api_Item) (kp := kpL []) mixed (orcOf_ok [] (by simp)) Try.func90 (c := bodyOf Try.f90) (by kernel_rfl) (by kernel_rfl) (of_decide_eq_true (by kernel_rfl)) FA_slices_Clone_api_Item_eq (R_slices_Clone_api_Item_eq x []))
    (spec2_evT (Γ := G_slices_Clone_api_Item N) (Λ := L0) (lb := []) (pout := pout_slices_Clone_api_Item) (kp := kpL []) mixed (orcOf_ok [] (by simp)) Try.func90 (c := bodyOf Try.f90) (by kernel_rfl) (by kernel_rfl) (of_decide_eq_true (by kernel_rfl)) ((F_slices_Clone_api_Item_eq N x).trans hr) (R_slices_Clone_api_Item_eq x r))
    (fun h => by subst h; exact WN_slices_Clone_api_Item N r hr)⟩
def as_slices_Clone_api_Event : List AS := [.val (.list (.agg (.pair (.int .i64) (.pair (.int .i64) (.pair (.int .i64) (.pair .str (.int .i64)))))))]
def bs_slices_Clone_api_Event : List BS := []
def pout_slices_Clone_api_Event : Pat := ⟨[(2, .acc 700005)], [(700005, .nrow 125 (.agg (.pair (.int .i64) (.pair (.int .i64) (.pair (.int .i64) (.pair .str (.int .i64)))))) false true)]⟩
noncomputable def G_slices_Clone_api_Event  (N : Nat) : OrcT := orcOf []
noncomputable def F_slices_Clone_api_Event  (N : Nat) (x : List (Int × Int × Int × (List UInt8) × Int)) : Option (List (Int × Int × Int × (List UInt8) × Int)) :=
  (evT (G_slices_Clone_api_Event  N) L0 P0 []
    [] N 400 (bodyOf Try.f89) ⟨8, slots 0 [.nl ⟨(.agg (.pair (.int .i64) (.pair (.int .i64) (.pair (.int .i64) (.pair .str (.int .i64)))))), x⟩], tabU (lbOf as_slices_Clone_api_Event bs_slices_Clone_api_Event x) [], []⟩).elim (kRet 8 pout_slices_Clone_api_Event (kpL []) (lbOf as_slices_Clone_api_Event bs_slices_Clone_api_Event x))
def out_slices_Clone_api_Event (y : List (Int × Int × Int × (List UInt8) × Int)) : V × List OK × List OK := (.acc 2000000 0, [], [.nrow 125 false true ⟨(.agg (.pair (.int .i64) (.pair (.int .i64) (.pair (.int .i64) (.pair .str (.int .i64)))))), y⟩])
noncomputable def V_slices_Clone_api_Event  (N : Nat) (x : List (Int × Int × Int × (List UInt8) × Int)) : Option (List (Int × Int × Int × (List UInt8) × Int)) :=
  cnd (decide (List.length x * (48 : Nat) ≤ (140737488355328 : Nat))) (some x) none
theorem FV_slices_Clone_api_Event_eq  (N : Nat) (x : List (Int × Int × Int × (List UInt8) × Int)) : F_slices_Clone_api_Event  N x = V_slices_Clone_api_Event  N x := by kernel_rfl
noncomputable def W_slices_Clone_api_Event (N : Nat) (x : List (Int × Int × Int × (List UInt8) × Int)) : Option (List (Int × Int × Int × (List UInt8) × Int)) :=
  cnd (decide (List.length x * (48 : Nat) ≤ (140737488355328 : Nat))) (some x) none
theorem F_slices_Clone_api_Event_eq (N : Nat) (x : List (Int × Int × Int × (List UInt8) × Int)) : F_slices_Clone_api_Event  N x = W_slices_Clone_api_Event N x := (FV_slices_Clone_api_Event_eq  N x).trans (by kernel_rfl)
noncomputable def conw_slices_Clone_api_Event (w : List (Int × Int × Int × (List UInt8) × Int) → Option (List (Int × Int × Int × (List UInt8) × Int))) : Con := ⟨89, as_slices_Clone_api_Event, bs_slices_Clone_api_Event, List (Int × Int × Int × (List UInt8) × Int), w, out_slices_Clone_api_Event⟩
noncomputable def con_slices_Clone_api_Event (N : Nat) : Con := conw_slices_Clone_api_Event (W_slices_Clone_api_Event N)
theorem R_slices_Clone_api_Event_eq (x : List (Int × Int × Int × (List UInt8) × Int)) (y : List (Int × Int × Int × (List UInt8) × Int)) : retOf2 P0 Try.f89 (kpL []) (lbOf as_slices_Clone_api_Event bs_slices_Clone_api_Event x) (patS ⟨8, [], [], []⟩ pout_slices_Clone_api_Event y) = some (out_slices_Clone_api_Event y) := by kernel_rfl
noncomputable def FA_slices_Clone_api_Event : Option (List (Int × Int × Int × (List UInt8) × Int)) := (evT (G_slices_Clone_api_Event 1) L0 P0 [] [] 1 400 (bodyOf Try.f89) ⟨8, slots 0 [.snil], tabU [] [], []⟩).elim (kRet 8 pout_slices_Clone_api_Event (kpL []) [])
theorem FA_slices_Clone_api_Event_eq : FA_slices_Clone_api_Event = some [] := by kernel_rfl
theorem WN_slices_Clone_api_Event (N : Nat) (r : List (Int × Int × Int × (List UInt8) × Int)) (h : W_slices_Clone_api_Event N [] = some r) : r = [] := by
  have e : W_slices_Clone_api_Event N [] = some [] := by kernel_rfl
  rw [e] at h; injection h with h; exact h.symm
theorem con_slices_Clone_api_Event_ok (N : Nat) : Con.ok P0 (con_slices_Clone_api_Event N) := ⟨⟨Try.f89, Try.func89, by kernel_rfl, by kernel_rfl⟩, fun (x : List (Int × Int × Int × (List UInt8) × Int)) (r : List (Int × Int × Int × (List UInt8) × Int)) (hr : W_slices_Clone_api_Event N x = some r) =>
  clone_split (e := (.agg (.pair (.int .i64) (.pair (.int .i64) (.pair (.int .i64) (.pair .str (.int .i64))))))) (ty := 125) (l := x) (r := r)
    (spec2_evT (Γ := G_slices_Clone_api_Event 1) (Λ := L0) (lb := []) (pout := pout_slices_Clone_api_Event) (kp := kpL []) mixed (orcOf_ok [] (by simp)) Try.func89 (c := bodyOf Try.f89) (by kernel_rfl) (by kernel_rfl) (of_decide_eq_true (by kernel_rfl)) FA_slices_Clone_api_Event_eq (R_slices_Clone_api_Event_eq x []))
    (spec2_evT (Γ := G_slices_Clone_api_Event N) (Λ := L0) (lb := []) (pout := pout_slices_Clone_api_Event) (kp := kpL []) mixed (orcOf_ok [] (by simp)) Try.func89 (c := bodyOf Try.f89) (by kernel_rfl) (by kernel_rfl) (of_decide_eq_true (by kernel_rfl)) ((F_slices_Clone_api_Event_eq N x).trans hr) (R_slices_Clone_api_Event_eq x r))
    (fun h => by subst h; exact WN_slices_Clone_api_Event N r hr)⟩
def as_twin_Feed : List AS := [.val (.agg (.pair (.int .i64) (.pair (.int .i64) (.pair (.list (.agg (.pair (.int .i64) .str))) (.pair (.list (.agg (.pair (.int .i64) .str))) (.pair (.list (.agg (.pair (.int .i64) (.pair (.int .i64) (.pair (.int .i64) (.pair .str (.int .i64))))))) (.agg (.pair (.int .i64) (.int .i64)))))))))]
def bs_twin_Feed : List BS := []
def pout_twin_Feed : Pat := ⟨[(2, .ptr 600002 0)], [(600002, .box 29 (.val (.pair (.int .i64) (.pair (.int .i64) (.pair (.list (.agg (.pair (.int .i64) .str))) (.pair (.list (.agg (.pair (.int .i64) .str))) (.pair (.list (.agg (.pair (.int .i64) (.pair (.int .i64) (.pair (.int .i64) (.pair .str (.int .i64))))))) (.agg (.pair (.int .i64) (.int .i64))))))))))]⟩
noncomputable def G_twin_Feed (w_slices_Clone_api_Item : List (Int × List UInt8) → Option (List (Int × List UInt8))) (w_slices_Clone_api_Event : List (Int × Int × Int × (List UInt8) × Int) → Option (List (Int × Int × Int × (List UInt8) × Int))) (N : Nat) : OrcT := orcOf [conw_slices_Clone_api_Item w_slices_Clone_api_Item, conw_slices_Clone_api_Event w_slices_Clone_api_Event]
noncomputable def F_twin_Feed (w_slices_Clone_api_Item : List (Int × List UInt8) → Option (List (Int × List UInt8))) (w_slices_Clone_api_Event : List (Int × Int × Int × (List UInt8) × Int) → Option (List (Int × Int × Int × (List UInt8) × Int))) (N : Nat) (x : Int × Int × (List (Int × List UInt8)) × (List (Int × List UInt8)) × (List (Int × Int × Int × (List UInt8) × Int)) × Int × Int) : Option (Int × Int × (List (Int × List UInt8)) × (List (Int × List UInt8)) × (List (Int × Int × Int × (List UInt8) × Int)) × Int × Int) :=
  (evT (G_twin_Feed w_slices_Clone_api_Item w_slices_Clone_api_Event N) L0 P0 []
    [] N 400 (bodyOf Try.f45) ⟨16, slots 0 (argsOf as_twin_Feed bs_twin_Feed x), tabU (lbOf as_twin_Feed bs_twin_Feed x) [], []⟩).elim (kRet 16 pout_twin_Feed (kpL []) (lbOf as_twin_Feed bs_twin_Feed x))
def out_twin_Feed (y : Int × Int × (List (Int × List UInt8)) × (List (Int × List UInt8)) × (List (Int × Int × Int × (List UInt8) × Int)) × Int × Int) : V × List OK × List OK := (valW (.agg (.pair (.int .i64) (.pair (.int .i64) (.pair (.list (.agg (.pair (.int .i64) .str))) (.pair (.list (.agg (.pair (.int .i64) .str))) (.pair (.list (.agg (.pair (.int .i64) (.pair (.int .i64) (.pair (.int .i64) (.pair .str (.int .i64))))))) (.agg (.pair (.int .i64) (.int .i64))))))))) y, [], [])
noncomputable def V_twin_Feed (w_slices_Clone_api_Item : List (Int × List UInt8) → Option (List (Int × List UInt8))) (w_slices_Clone_api_Event : List (Int × Int × Int × (List UInt8) × Int) → Option (List (Int × Int × Int × (List UInt8) × Int))) (N : Nat) (x : Int × Int × (List (Int × List UInt8)) × (List (Int × List UInt8)) × (List (Int × Int × Int × (List UInt8) × Int)) × Int × Int) : Option (Int × Int × (List (Int × List UInt8)) × (List (Int × List UInt8)) × (List (Int × Int × Int × (List UInt8) × Int)) × Int × Int) :=
  obind (w_slices_Clone_api_Item x.2.2.1) fun (b : List (Int × List UInt8)) => obind (w_slices_Clone_api_Item x.2.2.2.1) fun (b_1 : List (Int × List
    UInt8)) => obind (w_slices_Clone_api_Event x.2.2.2.2.1) fun (b_2 : List (Int × Int × Int × List UInt8 × Int)) => some (x.1, x.2.1, b, b_1, b_2,
    x.2.2.2.2.2.1, x.2.2.2.2.2.2)
theorem FV_twin_Feed_eq (w_slices_Clone_api_Item : List (Int × List UInt8) → Option (List (Int × List UInt8))) (w_slices_Clone_api_Event : List (Int × Int × Int × (List UInt8) × Int) → Option (List (Int × Int × Int × (List UInt8) × Int))) (N : Nat) (x : Int × Int × (List (Int × List UInt8)) × (List (Int × List UInt8)) × (List (Int × Int × Int × (List UInt8) × Int)) × Int × Int) : F_twin_Feed w_slices_Clone_api_Item w_slices_Clone_api_Event N x = V_twin_Feed w_slices_Clone_api_Item w_slices_Clone_api_Event N x := by kernel_rfl
noncomputable def W_twin_Feed (N : Nat) (x : Int × Int × (List (Int × List UInt8)) × (List (Int × List UInt8)) × (List (Int × Int × Int × (List UInt8) × Int)) × Int × Int) : Option (Int × Int × (List (Int × List UInt8)) × (List (Int × List UInt8)) × (List (Int × Int × Int × (List UInt8) × Int)) × Int × Int) :=
  obind (W_slices_Clone_api_Item N x.2.2.1) fun (b : List (Int × List UInt8)) => obind (W_slices_Clone_api_Item N x.2.2.2.1) fun (b_1 : List (Int × List
    UInt8)) => obind (W_slices_Clone_api_Event N x.2.2.2.2.1) fun (b_2 : List (Int × Int × Int × List UInt8 × Int)) => some (x.1, x.2.1, b, b_1, b_2,
    x.2.2.2.2.2.1, x.2.2.2.2.2.2)
theorem F_twin_Feed_eq (N : Nat) (x : Int × Int × (List (Int × List UInt8)) × (List (Int × List UInt8)) × (List (Int × Int × Int × (List UInt8) × Int)) × Int × Int) : F_twin_Feed (W_slices_Clone_api_Item N) (W_slices_Clone_api_Event N) N x = W_twin_Feed N x := (FV_twin_Feed_eq (W_slices_Clone_api_Item N) (W_slices_Clone_api_Event N) N x).trans (by kernel_rfl)
noncomputable def conw_twin_Feed (w : Int × Int × (List (Int × List UInt8)) × (List (Int × List UInt8)) × (List (Int × Int × Int × (List UInt8) × Int)) × Int × Int → Option (Int × Int × (List (Int × List UInt8)) × (List (Int × List UInt8)) × (List (Int × Int × Int × (List UInt8) × Int)) × Int × Int)) : Con := ⟨45, as_twin_Feed, bs_twin_Feed, Int × Int × (List (Int × List UInt8)) × (List (Int × List UInt8)) × (List (Int × Int × Int × (List UInt8) × Int)) × Int × Int, w, out_twin_Feed⟩
noncomputable def con_twin_Feed (N : Nat) : Con := conw_twin_Feed (W_twin_Feed N)
theorem R_twin_Feed_eq (x : Int × Int × (List (Int × List UInt8)) × (List (Int × List UInt8)) × (List (Int × Int × Int × (List UInt8) × Int)) × Int × Int) (y : Int × Int × (List (Int × List UInt8)) × (List (Int × List UInt8)) × (List (Int × Int × Int × (List UInt8) × Int)) × Int × Int) : retOf2 P0 Try.f45 (kpL []) (lbOf as_twin_Feed bs_twin_Feed x) (patS ⟨16, [], [], []⟩ pout_twin_Feed y) = some (out_twin_Feed y) := by kernel_rfl
theorem con_twin_Feed_ok (N : Nat) : Con.ok P0 (con_twin_Feed N) := ⟨⟨Try.f45, Try.func45, by kernel_rfl, by kernel_rfl⟩, fun (x : Int × Int × (List (Int × List UInt8)) × (List (Int × List UInt8)) × (List (Int × Int × Int × (List UInt8) × Int)) × Int × Int) (r : Int × Int × (List (Int × List UInt8)) × (List (Int × List UInt8)) × (List (Int × Int × Int × (List UInt8) × Int)) × Int × Int) (hr : W_twin_Feed N x = some r) =>
  spec2_evT (Γ := G_twin_Feed (W_slices_Clone_api_Item N) (W_slices_Clone_api_Event N) N) (Λ := L0) (pout := pout_twin_Feed) (kp := kpL []) mixed (orcOf_ok _ (by simp only [List.mem_cons, List.not_mem_nil, or_false, forall_eq_or_imp, forall_eq]; exact ⟨con_slices_Clone_api_Item_ok N, con_slices_Clone_api_Event_ok N⟩)) Try.func45 (c := bodyOf Try.f45) (by kernel_rfl) (by kernel_rfl) (of_decide_eq_true (by kernel_rfl)) ((F_twin_Feed_eq N x).trans hr) (R_twin_Feed_eq x r)⟩
def as_feed_read : List AS := [.val (.agg (.pair (.int .i64) (.pair (.int .i64) (.pair (.list (.agg (.pair (.int .i64) .str))) (.pair (.list (.agg (.pair (.int .i64) .str))) (.pair (.list (.agg (.pair (.int .i64) (.pair (.int .i64) (.pair (.int .i64) (.pair .str (.int .i64))))))) (.agg (.pair (.int .i64) (.int .i64)))))))))]
def bs_feed_read : List BS := []
def pout_feed_read : Pat := ⟨[(2, .val (.alt 87 (.agg (.int .i64)) (.alt1 127 (.agg .unit))))], []⟩
noncomputable def G_feed_read  (N : Nat) : OrcT := orcOf []
noncomputable def F_feed_read  (N : Nat) (x : Int × Int × (List (Int × List UInt8)) × (List (Int × List UInt8)) × (List (Int × Int × Int × (List UInt8) × Int)) × Int × Int) : Option (Int ⊕ Unit) :=
  (evT (G_feed_read  N) L0 P0 []
    [] N 400 (bodyOf Try.f46) ⟨12, slots 0 (argsOf as_feed_read bs_feed_read x), tabU (lbOf as_feed_read bs_feed_read x) [], []⟩).elim (kRet 12 pout_feed_read (kpL []) (lbOf as_feed_read bs_feed_read x))
def out_feed_read (y : Int ⊕ Unit) : V × List OK × List OK := (valW (.alt 87 (.agg (.int .i64)) (.alt1 127 (.agg .unit))) y, [], [])
noncomputable def V_feed_read  (N : Nat) (x : Int × Int × (List (Int × List UInt8)) × (List (Int × List UInt8)) × (List (Int × Int × Int × (List UInt8) × Int)) × Int × Int) : Option (Int ⊕ Unit) :=
  cnd (decide (x.1 < (1 : Int))) (some (Sum.inr ())) (some (Sum.inl x.1))
theorem FV_feed_read_eq  (N : Nat) (x : Int × Int × (List (Int × List UInt8)) × (List (Int × List UInt8)) × (List (Int × Int × Int × (List UInt8) × Int)) × Int × Int) : F_feed_read  N x = V_feed_read  N x := by kernel_rfl
noncomputable def W_feed_read (N : Nat) (x : Int × Int × (List (Int × List UInt8)) × (List (Int × List UInt8)) × (List (Int × Int × Int × (List UInt8) × Int)) × Int × Int) : Option (Int ⊕ Unit) :=
  cnd (decide (x.1 < (1 : Int))) (some (Sum.inr ())) (some (Sum.inl x.1))
theorem F_feed_read_eq (N : Nat) (x : Int × Int × (List (Int × List UInt8)) × (List (Int × List UInt8)) × (List (Int × Int × Int × (List UInt8) × Int)) × Int × Int) : F_feed_read  N x = W_feed_read N x := (FV_feed_read_eq  N x).trans (by kernel_rfl)
noncomputable def conw_feed_read (w : Int × Int × (List (Int × List UInt8)) × (List (Int × List UInt8)) × (List (Int × Int × Int × (List UInt8) × Int)) × Int × Int → Option (Int ⊕ Unit)) : Con := ⟨46, as_feed_read, bs_feed_read, Int ⊕ Unit, w, out_feed_read⟩
noncomputable def con_feed_read (N : Nat) : Con := conw_feed_read (W_feed_read N)
theorem R_feed_read_eq (x : Int × Int × (List (Int × List UInt8)) × (List (Int × List UInt8)) × (List (Int × Int × Int × (List UInt8) × Int)) × Int × Int) (y : Int ⊕ Unit) : retOf2 P0 Try.f46 (kpL []) (lbOf as_feed_read bs_feed_read x) (patS ⟨12, [], [], []⟩ pout_feed_read y) = some (out_feed_read y) := by kernel_rfl
theorem con_feed_read_ok (N : Nat) : Con.ok P0 (con_feed_read N) := ⟨⟨Try.f46, Try.func46, by kernel_rfl, by kernel_rfl⟩, fun (x : Int × Int × (List (Int × List UInt8)) × (List (Int × List UInt8)) × (List (Int × Int × Int × (List UInt8) × Int)) × Int × Int) (r : Int ⊕ Unit) (hr : W_feed_read N x = some r) =>
  spec2_evT (Γ := G_feed_read N) (Λ := L0) (pout := pout_feed_read) (kp := kpL []) mixed (orcOf_ok [] (by simp)) Try.func46 (c := bodyOf Try.f46) (by kernel_rfl) (by kernel_rfl) (of_decide_eq_true (by kernel_rfl)) ((F_feed_read_eq N x).trans hr) (R_feed_read_eq x r)⟩
def as_log_Tell : List AS := [.val (.list (.agg (.pair (.int .i64) (.pair (.int .i64) (.pair (.int .i64) (.pair .str (.int .i64))))))), .val (.int .i64), .val .str]
def bs_log_Tell : List BS := []
def pout_log_Tell : Pat := ⟨[(6, .val (.list (.agg (.pair (.int .i64) (.pair (.int .i64) (.pair (.int .i64) (.pair .str (.int .i64))))))))], []⟩
noncomputable def G_log_Tell (w_slices_Clone_api_Event : List (Int × Int × Int × (List UInt8) × Int) → Option (List (Int × Int × Int × (List UInt8) × Int))) (N : Nat) : OrcT := orcOf [conw_slices_Clone_api_Event w_slices_Clone_api_Event]
noncomputable def F_log_Tell (w_slices_Clone_api_Event : List (Int × Int × Int × (List UInt8) × Int) → Option (List (Int × Int × Int × (List UInt8) × Int))) (N : Nat) (x : (List (Int × Int × Int × (List UInt8) × Int)) × Int × List UInt8) : Option (List (Int × Int × Int × (List UInt8) × Int)) :=
  (evT (G_log_Tell w_slices_Clone_api_Event N) L0 P0 []
    [] N 400 (bodyOf Try.f47) ⟨15, slots 0 (argsOf as_log_Tell bs_log_Tell x), tabU (lbOf as_log_Tell bs_log_Tell x) [], []⟩).elim (kRet 15 pout_log_Tell (kpL []) (lbOf as_log_Tell bs_log_Tell x))
def out_log_Tell (y : List (Int × Int × Int × (List UInt8) × Int)) : V × List OK × List OK := (valW (.list (.agg (.pair (.int .i64) (.pair (.int .i64) (.pair (.int .i64) (.pair .str (.int .i64))))))) y, [], [])
noncomputable def V_log_Tell (w_slices_Clone_api_Event : List (Int × Int × Int × (List UInt8) × Int) → Option (List (Int × Int × Int × (List UInt8) × Int))) (N : Nat) (x : (List (Int × Int × Int × (List UInt8) × Int)) × Int × List UInt8) : Option (List (Int × Int × Int × (List UInt8) × Int)) :=
  obind (w_slices_Clone_api_Event x.1) fun (b : List (Int × Int × Int × List UInt8 × Int)) => cnd (decide ((List.length b + List.length [((1 : Int),
    x.2.1, x.2.1, x.2.2, (0 : Int))]) * (48 : Nat) ≤ (140737488355328 : Nat))) (some (b ++ [((1 : Int), x.2.1, x.2.1, x.2.2, (0 : Int))])) none
theorem FV_log_Tell_eq (w_slices_Clone_api_Event : List (Int × Int × Int × (List UInt8) × Int) → Option (List (Int × Int × Int × (List UInt8) × Int))) (N : Nat) (x : (List (Int × Int × Int × (List UInt8) × Int)) × Int × List UInt8) : F_log_Tell w_slices_Clone_api_Event N x = V_log_Tell w_slices_Clone_api_Event N x := by kernel_rfl
noncomputable def W_log_Tell (N : Nat) (x : (List (Int × Int × Int × (List UInt8) × Int)) × Int × List UInt8) : Option (List (Int × Int × Int × (List UInt8) × Int)) :=
  obind (W_slices_Clone_api_Event N x.1) fun (b : List (Int × Int × Int × List UInt8 × Int)) => cnd (decide ((List.length b + List.length [((1 : Int),
    x.2.1, x.2.1, x.2.2, (0 : Int))]) * (48 : Nat) ≤ (140737488355328 : Nat))) (some (b ++ [((1 : Int), x.2.1, x.2.1, x.2.2, (0 : Int))])) none
theorem F_log_Tell_eq (N : Nat) (x : (List (Int × Int × Int × (List UInt8) × Int)) × Int × List UInt8) : F_log_Tell (W_slices_Clone_api_Event N) N x = W_log_Tell N x := (FV_log_Tell_eq (W_slices_Clone_api_Event N) N x).trans (by kernel_rfl)
noncomputable def conw_log_Tell (w : (List (Int × Int × Int × (List UInt8) × Int)) × Int × List UInt8 → Option (List (Int × Int × Int × (List UInt8) × Int))) : Con := ⟨47, as_log_Tell, bs_log_Tell, List (Int × Int × Int × (List UInt8) × Int), w, out_log_Tell⟩
noncomputable def con_log_Tell (N : Nat) : Con := conw_log_Tell (W_log_Tell N)
theorem R_log_Tell_eq (x : (List (Int × Int × Int × (List UInt8) × Int)) × Int × List UInt8) (y : List (Int × Int × Int × (List UInt8) × Int)) : retOf2 P0 Try.f47 (kpL []) (lbOf as_log_Tell bs_log_Tell x) (patS ⟨15, [], [], []⟩ pout_log_Tell y) = some (out_log_Tell y) := by kernel_rfl
theorem con_log_Tell_ok (N : Nat) : Con.ok P0 (con_log_Tell N) := ⟨⟨Try.f47, Try.func47, by kernel_rfl, by kernel_rfl⟩, fun (x : (List (Int × Int × Int × (List UInt8) × Int)) × Int × List UInt8) (r : List (Int × Int × Int × (List UInt8) × Int)) (hr : W_log_Tell N x = some r) =>
  spec2_evT (Γ := G_log_Tell (W_slices_Clone_api_Event N) N) (Λ := L0) (pout := pout_log_Tell) (kp := kpL []) mixed (orcOf_ok _ (by simp only [List.mem_cons, List.not_mem_nil, or_false, forall_eq_or_imp, forall_eq]; exact con_slices_Clone_api_Event_ok N)) Try.func47 (c := bodyOf Try.f47) (by kernel_rfl) (by kernel_rfl) (of_decide_eq_true (by kernel_rfl)) ((F_log_Tell_eq N x).trans hr) (R_log_Tell_eq x r)⟩
def as_slices_Delete_api_Item : List AS := [.acc 0, .val (.int .i64), .val (.int .i64)]
def bs_slices_Delete_api_Item : List BS := [.nrow 40 (.agg (.pair (.int .i64) .str)) true]
def out_slices_Delete_api_Item (y : List (Int × List UInt8)) : V × List OK × List OK := (.acc 2000000 0, [.dead], [.nrow 40 false true ⟨(.agg (.pair (.int .i64) .str)), y⟩])
noncomputable def W_slices_Delete_api_Item (N : Nat) (x : Int × Int × List (Int × List UInt8)) : Option (List (Int × List UInt8)) :=
  cnd (decide ((0 : Int) ≤ x.1) && decide (x.1 < ((↑(List.length x.2.2) : Int) : Int)) && decide (x.2.1 = x.1 + (1 : Int)) && decide (List.length x.2.2
    ≤ (140737488355328 : Nat)) && decide ((2 : Nat) ≤ List.length x.2.2)) (some (List.take (Int.toNat x.1) x.2.2 ++ List.drop (Int.toNat x.1 + (1 :
    Nat)) x.2.2)) none
noncomputable def conw_slices_Delete_api_Item (w : Int × Int × List (Int × List UInt8) → Option (List (Int × List UInt8))) : Con := ⟨91, as_slices_Delete_api_Item, bs_slices_Delete_api_Item, List (Int × List UInt8), w, out_slices_Delete_api_Item⟩
noncomputable def con_slices_Delete_api_Item (N : Nat) : Con := conw_slices_Delete_api_Item (W_slices_Delete_api_Item N)
theorem con_slices_Delete_api_Item_ok (N : Nat) : Con.ok P0 (con_slices_Delete_api_Item N) := ⟨⟨Try.f91, Try.func91, by kernel_rfl, by kernel_rfl⟩, fun (x : Int × Int × List (Int × List UInt8)) (r : List (Int × List UInt8)) (hr : W_slices_Delete_api_Item N x = some r) => by
  obtain ⟨i, j, l⟩ := x
  exact del_con2 (e := (.agg (.pair (.int .i64) .str))) (ty := 40) (nl := true) (l := l) (r := r) (i := i) (j := j) delF91 rfl (by decide) hr⟩
def as_ring_Add : List AS := [.val (.list (.agg (.pair (.int .i64) .str))), .val (.agg (.pair (.int .i64) .str))]
def bs_ring_Add : List BS := []
def pout_ring_Add : Pat := ⟨[(4, .val (.list (.agg (.pair (.int .i64) .str))))], []⟩
noncomputable def G_ring_Add (w_slices_Clone_api_Item : List (Int × List UInt8) → Option (List (Int × List UInt8))) (w_slices_Delete_api_Item : Int × Int × List (Int × List UInt8) → Option (List (Int × List UInt8))) (N : Nat) : OrcT := orcOf [conw_slices_Clone_api_Item w_slices_Clone_api_Item, conw_slices_Delete_api_Item w_slices_Delete_api_Item]
noncomputable def F_ring_Add (w_slices_Clone_api_Item : List (Int × List UInt8) → Option (List (Int × List UInt8))) (w_slices_Delete_api_Item : Int × Int × List (Int × List UInt8) → Option (List (Int × List UInt8))) (N : Nat) (x : (List (Int × List UInt8)) × Int × List UInt8) : Option (List (Int × List UInt8)) :=
  (evT (G_ring_Add w_slices_Clone_api_Item w_slices_Delete_api_Item N) L0 P0 []
    [] N 400 (bodyOf Try.f48) ⟨34, slots 0 (argsOf as_ring_Add bs_ring_Add x), tabU (lbOf as_ring_Add bs_ring_Add x) [], []⟩).elim (kRet 34 pout_ring_Add (kpL []) (lbOf as_ring_Add bs_ring_Add x))
def out_ring_Add (y : List (Int × List UInt8)) : V × List OK × List OK := (valW (.list (.agg (.pair (.int .i64) .str))) y, [], [])
noncomputable def V_ring_Add (w_slices_Clone_api_Item : List (Int × List UInt8) → Option (List (Int × List UInt8))) (w_slices_Delete_api_Item : Int × Int × List (Int × List UInt8) → Option (List (Int × List UInt8))) (N : Nat) (x : (List (Int × List UInt8)) × Int × List UInt8) : Option (List (Int × List UInt8)) :=
  obind (w_slices_Clone_api_Item x.1) fun (b : List (Int × List UInt8)) => cnd (decide ((0 : Int) < (↑(List.length x.1) : Int))) (cnd (decide ((0 :
    Int) ≤ wr IntKind.i64 ((↑(List.length x.1) : Int) - (1 : Int))) && decide (wr IntKind.i64 ((↑(List.length x.1) : Int) - (1 : Int)) < (↑(List.length
    x.1) : Int))) (cnd (decide (x.2.1 ≤ Prod.fst (List.getD x.1 (Int.toNat (wr IntKind.i64 ((↑(List.length x.1) : Int) - (1 : Int)))) ((0 : Int), []))))
    (some b) (cnd (decide ((List.length b + List.length [(x.2.1, x.2.2)]) * (24 : Nat) ≤ (140737488355328 : Nat))) (cnd (decide ((6 : Int) <
    (↑(List.length (b ++ [(x.2.1, x.2.2)])) : Int))) (obind (w_slices_Delete_api_Item ((0 : Int), (1 : Int), b ++ [(x.2.1, x.2.2)])) fun (b : List
    (Int × List UInt8)) => some b) (some (b ++ [(x.2.1, x.2.2)]))) none)) none) (cnd (decide ((List.length b + List.length [(x.2.1, x.2.2)]) * (24 :
    Nat) ≤ (140737488355328 : Nat))) (cnd (decide ((6 : Int) < (↑(List.length (b ++ [(x.2.1, x.2.2)])) : Int))) (obind (w_slices_Delete_api_Item ((0 :
    Int), (1 : Int), b ++ [(x.2.1, x.2.2)])) fun (b : List (Int × List UInt8)) => some b) (some (b ++ [(x.2.1, x.2.2)]))) none)
theorem FV_ring_Add_eq (w_slices_Clone_api_Item : List (Int × List UInt8) → Option (List (Int × List UInt8))) (w_slices_Delete_api_Item : Int × Int × List (Int × List UInt8) → Option (List (Int × List UInt8))) (N : Nat) (x : (List (Int × List UInt8)) × Int × List UInt8) : F_ring_Add w_slices_Clone_api_Item w_slices_Delete_api_Item N x = V_ring_Add w_slices_Clone_api_Item w_slices_Delete_api_Item N x := by kernel_rfl
noncomputable def W_ring_Add (N : Nat) (x : (List (Int × List UInt8)) × Int × List UInt8) : Option (List (Int × List UInt8)) :=
  obind (W_slices_Clone_api_Item N x.1) fun (b : List (Int × List UInt8)) => cnd (decide ((0 : Int) < (↑(List.length x.1) : Int))) (cnd (decide ((0 :
    Int) ≤ wr IntKind.i64 ((↑(List.length x.1) : Int) - (1 : Int))) && decide (wr IntKind.i64 ((↑(List.length x.1) : Int) - (1 : Int)) < (↑(List.length
    x.1) : Int))) (cnd (decide (x.2.1 ≤ Prod.fst (List.getD x.1 (Int.toNat (wr IntKind.i64 ((↑(List.length x.1) : Int) - (1 : Int)))) ((0 : Int), []))))
    (some b) (cnd (decide ((List.length b + List.length [(x.2.1, x.2.2)]) * (24 : Nat) ≤ (140737488355328 : Nat))) (cnd (decide ((6 : Int) <
    (↑(List.length (b ++ [(x.2.1, x.2.2)])) : Int))) (obind (W_slices_Delete_api_Item N ((0 : Int), (1 : Int), b ++ [(x.2.1, x.2.2)])) fun (b : List
    (Int × List UInt8)) => some b) (some (b ++ [(x.2.1, x.2.2)]))) none)) none) (cnd (decide ((List.length b + List.length [(x.2.1, x.2.2)]) * (24 :
    Nat) ≤ (140737488355328 : Nat))) (cnd (decide ((6 : Int) < (↑(List.length (b ++ [(x.2.1, x.2.2)])) : Int))) (obind (W_slices_Delete_api_Item N ((0 :
    Int), (1 : Int), b ++ [(x.2.1, x.2.2)])) fun (b : List (Int × List UInt8)) => some b) (some (b ++ [(x.2.1, x.2.2)]))) none)
theorem F_ring_Add_eq (N : Nat) (x : (List (Int × List UInt8)) × Int × List UInt8) : F_ring_Add (W_slices_Clone_api_Item N) (W_slices_Delete_api_Item N) N x = W_ring_Add N x := (FV_ring_Add_eq (W_slices_Clone_api_Item N) (W_slices_Delete_api_Item N) N x).trans (by kernel_rfl)
noncomputable def conw_ring_Add (w : (List (Int × List UInt8)) × Int × List UInt8 → Option (List (Int × List UInt8))) : Con := ⟨48, as_ring_Add, bs_ring_Add, List (Int × List UInt8), w, out_ring_Add⟩
noncomputable def con_ring_Add (N : Nat) : Con := conw_ring_Add (W_ring_Add N)
theorem R_ring_Add_eq (x : (List (Int × List UInt8)) × Int × List UInt8) (y : List (Int × List UInt8)) : retOf2 P0 Try.f48 (kpL []) (lbOf as_ring_Add bs_ring_Add x) (patS ⟨34, [], [], []⟩ pout_ring_Add y) = some (out_ring_Add y) := by kernel_rfl
theorem con_ring_Add_ok (N : Nat) : Con.ok P0 (con_ring_Add N) := ⟨⟨Try.f48, Try.func48, by kernel_rfl, by kernel_rfl⟩, fun (x : (List (Int × List UInt8)) × Int × List UInt8) (r : List (Int × List UInt8)) (hr : W_ring_Add N x = some r) =>
  spec2_evT (Γ := G_ring_Add (W_slices_Clone_api_Item N) (W_slices_Delete_api_Item N) N) (Λ := L0) (pout := pout_ring_Add) (kp := kpL []) mixed (orcOf_ok _ (by simp only [List.mem_cons, List.not_mem_nil, or_false, forall_eq_or_imp, forall_eq]; exact ⟨con_slices_Clone_api_Item_ok N, con_slices_Delete_api_Item_ok N⟩)) Try.func48 (c := bodyOf Try.f48) (by kernel_rfl) (by kernel_rfl) (of_decide_eq_true (by kernel_rfl)) ((F_ring_Add_eq N x).trans hr) (R_ring_Add_eq x r)⟩
def as_feed_Say : List AS := [.val (.agg (.pair (.int .i64) (.pair (.int .i64) (.pair (.list (.agg (.pair (.int .i64) .str))) (.pair (.list (.agg (.pair (.int .i64) .str))) (.pair (.list (.agg (.pair (.int .i64) (.pair (.int .i64) (.pair (.int .i64) (.pair .str (.int .i64))))))) (.agg (.pair (.int .i64) (.int .i64))))))))), .val .str]
def bs_feed_Say : List BS := []
def pout_feed_Say : Pat := ⟨[(4, .ptr 600004 0), (5, .val .bool)], [(600004, .box 29 (.val (.pair (.int .i64) (.pair (.int .i64) (.pair (.list (.agg (.pair (.int .i64) .str))) (.pair (.list (.agg (.pair (.int .i64) .str))) (.pair (.list (.agg (.pair (.int .i64) (.pair (.int .i64) (.pair (.int .i64) (.pair .str (.int .i64))))))) (.agg (.pair (.int .i64) (.int .i64))))))))))]⟩
noncomputable def G_feed_Say (w_twin_Feed : Int × Int × (List (Int × List UInt8)) × (List (Int × List UInt8)) × (List (Int × Int × Int × (List UInt8) × Int)) × Int × Int → Option (Int × Int × (List (Int × List UInt8)) × (List (Int × List UInt8)) × (List (Int × Int × Int × (List UInt8) × Int)) × Int × Int)) (w_feed_read : Int × Int × (List (Int × List UInt8)) × (List (Int × List UInt8)) × (List (Int × Int × Int × (List UInt8) × Int)) × Int × Int → Option (Int ⊕ Unit)) (w_log_Tell : (List (Int × Int × Int × (List UInt8) × Int)) × Int × List UInt8 → Option (List (Int × Int × Int × (List UInt8) × Int))) (w_ring_Add : (List (Int × List UInt8)) × Int × List UInt8 → Option (List (Int × List UInt8))) (N : Nat) : OrcT := orcOf [conw_twin_Feed w_twin_Feed, conw_feed_read w_feed_read, conw_log_Tell w_log_Tell, conw_ring_Add w_ring_Add]
noncomputable def F_feed_Say (w_twin_Feed : Int × Int × (List (Int × List UInt8)) × (List (Int × List UInt8)) × (List (Int × Int × Int × (List UInt8) × Int)) × Int × Int → Option (Int × Int × (List (Int × List UInt8)) × (List (Int × List UInt8)) × (List (Int × Int × Int × (List UInt8) × Int)) × Int × Int)) (w_feed_read : Int × Int × (List (Int × List UInt8)) × (List (Int × List UInt8)) × (List (Int × Int × Int × (List UInt8) × Int)) × Int × Int → Option (Int ⊕ Unit)) (w_log_Tell : (List (Int × Int × Int × (List UInt8) × Int)) × Int × List UInt8 → Option (List (Int × Int × Int × (List UInt8) × Int))) (w_ring_Add : (List (Int × List UInt8)) × Int × List UInt8 → Option (List (Int × List UInt8))) (N : Nat) (x : (Int × Int × (List (Int × List UInt8)) × (List (Int × List UInt8)) × (List (Int × Int × Int × (List UInt8) × Int)) × Int × Int) × List UInt8) : Option (Bool × Int × Int × (List (Int × List UInt8)) × (List (Int × List UInt8)) × (List (Int × Int × Int × (List UInt8) × Int)) × Int × Int) :=
  (evT (G_feed_Say w_twin_Feed w_feed_read w_log_Tell w_ring_Add N) L0 P0 []
    [(6, .cut [] [(.normal, ⟨[(4, .ptr 600004 0), (6, .ptr 600006 0), (7, .val (.int .i64))], [(600004, .box 29 (.val (.pair (.int .i64) (.pair (.int .i64) (.pair (.list (.agg (.pair (.int .i64) .str))) (.pair (.list (.agg (.pair (.int .i64) .str))) (.pair (.list (.agg (.pair (.int .i64) (.pair (.int .i64) (.pair (.int .i64) (.pair .str (.int .i64))))))) (.agg (.pair (.int .i64) (.int .i64)))))))))), (600006, .box 29 (.val (.pair (.int .i64) (.pair (.int .i64) (.pair (.list (.agg (.pair (.int .i64) .str))) (.pair (.list (.agg (.pair (.int .i64) .str))) (.pair (.list (.agg (.pair (.int .i64) (.pair (.int .i64) (.pair (.int .i64) (.pair .str (.int .i64))))))) (.agg (.pair (.int .i64) (.int .i64))))))))))]⟩)])] N 400 (bodyOf Try.f15) ⟨48, slots 0 (argsOf as_feed_Say bs_feed_Say x), tabU (lbOf as_feed_Say bs_feed_Say x) [], []⟩).elim (kRet 48 pout_feed_Say (kpL []) (lbOf as_feed_Say bs_feed_Say x))
def out_feed_Say (y : Bool × Int × Int × (List (Int × List UInt8)) × (List (Int × List UInt8)) × (List (Int × Int × Int × (List UInt8) × Int)) × Int × Int) : V × List OK × List OK := (.tup [valW (.agg (.pair (.int .i64) (.pair (.int .i64) (.pair (.list (.agg (.pair (.int .i64) .str))) (.pair (.list (.agg (.pair (.int .i64) .str))) (.pair (.list (.agg (.pair (.int .i64) (.pair (.int .i64) (.pair (.int .i64) (.pair .str (.int .i64))))))) (.agg (.pair (.int .i64) (.int .i64))))))))) y.2, valW .bool y.1], [], [])
noncomputable def V_feed_Say (w_twin_Feed : Int × Int × (List (Int × List UInt8)) × (List (Int × List UInt8)) × (List (Int × Int × Int × (List UInt8) × Int)) × Int × Int → Option (Int × Int × (List (Int × List UInt8)) × (List (Int × List UInt8)) × (List (Int × Int × Int × (List UInt8) × Int)) × Int × Int)) (w_feed_read : Int × Int × (List (Int × List UInt8)) × (List (Int × List UInt8)) × (List (Int × Int × Int × (List UInt8) × Int)) × Int × Int → Option (Int ⊕ Unit)) (w_log_Tell : (List (Int × Int × Int × (List UInt8) × Int)) × Int × List UInt8 → Option (List (Int × Int × Int × (List UInt8) × Int))) (w_ring_Add : (List (Int × List UInt8)) × Int × List UInt8 → Option (List (Int × List UInt8))) (N : Nat) (x : (Int × Int × (List (Int × List UInt8)) × (List (Int × List UInt8)) × (List (Int × Int × Int × (List UInt8) × Int)) × Int × Int) × List UInt8) : Option (Bool × Int × Int × (List (Int × List UInt8)) × (List (Int × List UInt8)) × (List (Int × Int × Int × (List UInt8) × Int)) × Int × Int) :=
  obind (w_twin_Feed (x.1.1, x.1.2.1, x.1.2.2.1, x.1.2.2.2.1, x.1.2.2.2.2.1, x.1.2.2.2.2.2.1, x.1.2.2.2.2.2.2)) fun (b : Int × Int × List (Int × List
    UInt8) × List (Int × List UInt8) × List (Int × Int × Int × List UInt8 × Int) × Int × Int) => obind (obind (w_feed_read (x.1.1, x.1.2.1, x.1.2.2.1,
    x.1.2.2.2.1, x.1.2.2.2.2.1, x.1.2.2.2.2.2.1, x.1.2.2.2.2.2.2)) fun (b_1 : Int ⊕ PUnit) => selim (fun (b_2 : Int) => some (b_2, ((0 : Int), (0 :
    Int), [], [], [], (0 : Int), (0 : Int)), b.1, b.2.1, b.2.2.1, b.2.2.2.1, b.2.2.2.2.1, b.2.2.2.2.2.1, b.2.2.2.2.2.2)) (fun (c : PUnit) => some ((1 :
    Int), ((0 : Int), (0 : Int), [], [], [], (0 : Int), (0 : Int)), b.1, b.2.1, b.2.2.1, b.2.2.2.1, b.2.2.2.2.1, b.2.2.2.2.2.1, b.2.2.2.2.2.2)) b_1) fun
    (b : Int × (Int × Int × List (Int × List UInt8) × List (Int × List UInt8) × List (Int × Int × Int × List UInt8 × Int) × Int × Int) × Int × Int ×
    List (Int × List UInt8) × List (Int × List UInt8) × List (Int × Int × Int × List UInt8 × Int) × Int × Int) => cnd (decide ((12 : Int) <
    (↑(List.length x.2) : Int))) (some (false, b.2.2.1, b.2.2.2.1, b.2.2.2.2.1, b.2.2.2.2.2.1, b.2.2.2.2.2.2.1, b.2.2.2.2.2.2.2.1, b.2.2.2.2.2.2.2.2))
    (cnd (decide ((1000000 : Int) < b.1)) (some (false, b.2.2.1, b.2.2.2.1, b.2.2.2.2.1, b.2.2.2.2.2.1, b.2.2.2.2.2.2.1, b.2.2.2.2.2.2.2.1,
    b.2.2.2.2.2.2.2.2)) (obind (w_log_Tell (b.2.2.2.2.2.2.1, b.1, x.2)) fun (b_1 : List (Int × Int × Int × List UInt8 × Int)) => obind (w_ring_Add
    (b.2.2.2.2.1, b.1, x.2)) fun (b_2 : List (Int × List UInt8)) => some (true, wr IntKind.i64 (b.1 + (1 : Int)), b.1, b_2, b.2.2.2.2.2.1, b_1,
    b.2.2.2.2.2.2.2.1, b.2.2.2.2.2.2.2.2)))
theorem FV_feed_Say_eq (w_twin_Feed : Int × Int × (List (Int × List UInt8)) × (List (Int × List UInt8)) × (List (Int × Int × Int × (List UInt8) × Int)) × Int × Int → Option (Int × Int × (List (Int × List UInt8)) × (List (Int × List UInt8)) × (List (Int × Int × Int × (List UInt8) × Int)) × Int × Int)) (w_feed_read : Int × Int × (List (Int × List UInt8)) × (List (Int × List UInt8)) × (List (Int × Int × Int × (List UInt8) × Int)) × Int × Int → Option (Int ⊕ Unit)) (w_log_Tell : (List (Int × Int × Int × (List UInt8) × Int)) × Int × List UInt8 → Option (List (Int × Int × Int × (List UInt8) × Int))) (w_ring_Add : (List (Int × List UInt8)) × Int × List UInt8 → Option (List (Int × List UInt8))) (N : Nat) (x : (Int × Int × (List (Int × List UInt8)) × (List (Int × List UInt8)) × (List (Int × Int × Int × (List UInt8) × Int)) × Int × Int) × List UInt8) : F_feed_Say w_twin_Feed w_feed_read w_log_Tell w_ring_Add N x = V_feed_Say w_twin_Feed w_feed_read w_log_Tell w_ring_Add N x := by kernel_rfl
noncomputable def W_feed_Say (N : Nat) (x : (Int × Int × (List (Int × List UInt8)) × (List (Int × List UInt8)) × (List (Int × Int × Int × (List UInt8) × Int)) × Int × Int) × List UInt8) : Option (Bool × Int × Int × (List (Int × List UInt8)) × (List (Int × List UInt8)) × (List (Int × Int × Int × (List UInt8) × Int)) × Int × Int) :=
  obind (W_twin_Feed N (x.1.1, x.1.2.1, x.1.2.2.1, x.1.2.2.2.1, x.1.2.2.2.2.1, x.1.2.2.2.2.2.1, x.1.2.2.2.2.2.2)) fun (b : Int × Int × List (Int × List
    UInt8) × List (Int × List UInt8) × List (Int × Int × Int × List UInt8 × Int) × Int × Int) => obind (obind (W_feed_read N (x.1.1, x.1.2.1, x.1.2.2.1,
    x.1.2.2.2.1, x.1.2.2.2.2.1, x.1.2.2.2.2.2.1, x.1.2.2.2.2.2.2)) fun (b_1 : Int ⊕ PUnit) => selim (fun (b_2 : Int) => some (b_2, ((0 : Int), (0 :
    Int), [], [], [], (0 : Int), (0 : Int)), b.1, b.2.1, b.2.2.1, b.2.2.2.1, b.2.2.2.2.1, b.2.2.2.2.2.1, b.2.2.2.2.2.2)) (fun (c : PUnit) => some ((1 :
    Int), ((0 : Int), (0 : Int), [], [], [], (0 : Int), (0 : Int)), b.1, b.2.1, b.2.2.1, b.2.2.2.1, b.2.2.2.2.1, b.2.2.2.2.2.1, b.2.2.2.2.2.2)) b_1) fun
    (b : Int × (Int × Int × List (Int × List UInt8) × List (Int × List UInt8) × List (Int × Int × Int × List UInt8 × Int) × Int × Int) × Int × Int ×
    List (Int × List UInt8) × List (Int × List UInt8) × List (Int × Int × Int × List UInt8 × Int) × Int × Int) => cnd (decide ((12 : Int) <
    (↑(List.length x.2) : Int))) (some (false, b.2.2.1, b.2.2.2.1, b.2.2.2.2.1, b.2.2.2.2.2.1, b.2.2.2.2.2.2.1, b.2.2.2.2.2.2.2.1, b.2.2.2.2.2.2.2.2))
    (cnd (decide ((1000000 : Int) < b.1)) (some (false, b.2.2.1, b.2.2.2.1, b.2.2.2.2.1, b.2.2.2.2.2.1, b.2.2.2.2.2.2.1, b.2.2.2.2.2.2.2.1,
    b.2.2.2.2.2.2.2.2)) (obind (W_log_Tell N (b.2.2.2.2.2.2.1, b.1, x.2)) fun (b_1 : List (Int × Int × Int × List UInt8 × Int)) => obind (W_ring_Add N
    (b.2.2.2.2.1, b.1, x.2)) fun (b_2 : List (Int × List UInt8)) => some (true, wr IntKind.i64 (b.1 + (1 : Int)), b.1, b_2, b.2.2.2.2.2.1, b_1,
    b.2.2.2.2.2.2.2.1, b.2.2.2.2.2.2.2.2)))
theorem F_feed_Say_eq (N : Nat) (x : (Int × Int × (List (Int × List UInt8)) × (List (Int × List UInt8)) × (List (Int × Int × Int × (List UInt8) × Int)) × Int × Int) × List UInt8) : F_feed_Say (W_twin_Feed N) (W_feed_read N) (W_log_Tell N) (W_ring_Add N) N x = W_feed_Say N x := (FV_feed_Say_eq (W_twin_Feed N) (W_feed_read N) (W_log_Tell N) (W_ring_Add N) N x).trans (by kernel_rfl)
noncomputable def conw_feed_Say (w : (Int × Int × (List (Int × List UInt8)) × (List (Int × List UInt8)) × (List (Int × Int × Int × (List UInt8) × Int)) × Int × Int) × List UInt8 → Option (Bool × Int × Int × (List (Int × List UInt8)) × (List (Int × List UInt8)) × (List (Int × Int × Int × (List UInt8) × Int)) × Int × Int)) : Con := ⟨15, as_feed_Say, bs_feed_Say, Bool × Int × Int × (List (Int × List UInt8)) × (List (Int × List UInt8)) × (List (Int × Int × Int × (List UInt8) × Int)) × Int × Int, w, out_feed_Say⟩
noncomputable def con_feed_Say (N : Nat) : Con := conw_feed_Say (W_feed_Say N)
theorem R_feed_Say_eq (x : (Int × Int × (List (Int × List UInt8)) × (List (Int × List UInt8)) × (List (Int × Int × Int × (List UInt8) × Int)) × Int × Int) × List UInt8) (y : Bool × Int × Int × (List (Int × List UInt8)) × (List (Int × List UInt8)) × (List (Int × Int × Int × (List UInt8) × Int)) × Int × Int) : retOf2 P0 Try.f15 (kpL []) (lbOf as_feed_Say bs_feed_Say x) (patS ⟨48, [], [], []⟩ pout_feed_Say y) = some (out_feed_Say y) := by kernel_rfl
theorem con_feed_Say_ok (N : Nat) : Con.ok P0 (con_feed_Say N) := ⟨⟨Try.f15, Try.func15, by kernel_rfl, by kernel_rfl⟩, fun (x : (Int × Int × (List (Int × List UInt8)) × (List (Int × List UInt8)) × (List (Int × Int × Int × (List UInt8) × Int)) × Int × Int) × List UInt8) (r : Bool × Int × Int × (List (Int × List UInt8)) × (List (Int × List UInt8)) × (List (Int × Int × Int × (List UInt8) × Int)) × Int × Int) (hr : W_feed_Say N x = some r) =>
  spec2_evT (Γ := G_feed_Say (W_twin_Feed N) (W_feed_read N) (W_log_Tell N) (W_ring_Add N) N) (Λ := L0) (pout := pout_feed_Say) (kp := kpL []) mixed (orcOf_ok _ (by simp only [List.mem_cons, List.not_mem_nil, or_false, forall_eq_or_imp, forall_eq]; exact ⟨con_twin_Feed_ok N, con_feed_read_ok N, con_log_Tell_ok N, con_ring_Add_ok N⟩)) Try.func15 (c := bodyOf Try.f15) (by kernel_rfl) (by kernel_rfl) (of_decide_eq_true (by kernel_rfl)) ((F_feed_Say_eq N x).trans hr) (R_feed_Say_eq x r)⟩
def as_ref13_Tell : List AS := [.val (.list (.agg (.pair (.int .i64) (.pair (.int .i64) (.pair (.int .i64) (.pair .str (.int .i64))))))), .val (.int .i64), .val .str]
def bs_ref13_Tell : List BS := []
def pout_ref13_Tell : Pat := ⟨[(6, .val (.list (.agg (.pair (.int .i64) (.pair (.int .i64) (.pair (.int .i64) (.pair .str (.int .i64))))))))], []⟩
noncomputable def G_ref13_Tell  (N : Nat) : OrcT := orcOf []
noncomputable def F_ref13_Tell  (N : Nat) (x : (List (Int × Int × Int × (List UInt8) × Int)) × Int × List UInt8) : Option (List (Int × Int × Int × (List UInt8) × Int)) :=
  (evT (G_ref13_Tell  N) L0 P0 []
    [] N 400 (bodyOf Try.f49) ⟨16, slots 0 (argsOf as_ref13_Tell bs_ref13_Tell x), tabU (lbOf as_ref13_Tell bs_ref13_Tell x) [], []⟩).elim (kRet 16 pout_ref13_Tell (kpL []) (lbOf as_ref13_Tell bs_ref13_Tell x))
def out_ref13_Tell (y : List (Int × Int × Int × (List UInt8) × Int)) : V × List OK × List OK := (valW (.list (.agg (.pair (.int .i64) (.pair (.int .i64) (.pair (.int .i64) (.pair .str (.int .i64))))))) y, [], [])
noncomputable def V_ref13_Tell  (N : Nat) (x : (List (Int × Int × Int × (List UInt8) × Int)) × Int × List UInt8) : Option (List (Int × Int × Int × (List UInt8) × Int)) :=
  cnd (decide (List.length x.1 * (48 : Nat) ≤ (140737488355328 : Nat))) (cnd (decide ((List.length x.1 + List.length [((1 : Int), x.2.1, x.2.1, x.2.2,
    (0 : Int))]) * (48 : Nat) ≤ (140737488355328 : Nat))) (some (x.1 ++ [((1 : Int), x.2.1, x.2.1, x.2.2, (0 : Int))])) none) none
theorem FV_ref13_Tell_eq  (N : Nat) (x : (List (Int × Int × Int × (List UInt8) × Int)) × Int × List UInt8) : F_ref13_Tell  N x = V_ref13_Tell  N x := by kernel_rfl
noncomputable def W_ref13_Tell (N : Nat) (x : (List (Int × Int × Int × (List UInt8) × Int)) × Int × List UInt8) : Option (List (Int × Int × Int × (List UInt8) × Int)) :=
  cnd (decide (List.length x.1 * (48 : Nat) ≤ (140737488355328 : Nat))) (cnd (decide ((List.length x.1 + List.length [((1 : Int), x.2.1, x.2.1, x.2.2,
    (0 : Int))]) * (48 : Nat) ≤ (140737488355328 : Nat))) (some (x.1 ++ [((1 : Int), x.2.1, x.2.1, x.2.2, (0 : Int))])) none) none
theorem F_ref13_Tell_eq (N : Nat) (x : (List (Int × Int × Int × (List UInt8) × Int)) × Int × List UInt8) : F_ref13_Tell  N x = W_ref13_Tell N x := (FV_ref13_Tell_eq  N x).trans (by kernel_rfl)
noncomputable def conw_ref13_Tell (w : (List (Int × Int × Int × (List UInt8) × Int)) × Int × List UInt8 → Option (List (Int × Int × Int × (List UInt8) × Int))) : Con := ⟨49, as_ref13_Tell, bs_ref13_Tell, List (Int × Int × Int × (List UInt8) × Int), w, out_ref13_Tell⟩
noncomputable def con_ref13_Tell (N : Nat) : Con := conw_ref13_Tell (W_ref13_Tell N)
theorem R_ref13_Tell_eq (x : (List (Int × Int × Int × (List UInt8) × Int)) × Int × List UInt8) (y : List (Int × Int × Int × (List UInt8) × Int)) : retOf2 P0 Try.f49 (kpL []) (lbOf as_ref13_Tell bs_ref13_Tell x) (patS ⟨16, [], [], []⟩ pout_ref13_Tell y) = some (out_ref13_Tell y) := by kernel_rfl
theorem con_ref13_Tell_ok (N : Nat) : Con.ok P0 (con_ref13_Tell N) := ⟨⟨Try.f49, Try.func49, by kernel_rfl, by kernel_rfl⟩, fun (x : (List (Int × Int × Int × (List UInt8) × Int)) × Int × List UInt8) (r : List (Int × Int × Int × (List UInt8) × Int)) (hr : W_ref13_Tell N x = some r) =>
  spec2_evT (Γ := G_ref13_Tell N) (Λ := L0) (pout := pout_ref13_Tell) (kp := kpL []) mixed (orcOf_ok [] (by simp)) Try.func49 (c := bodyOf Try.f49) (by kernel_rfl) (by kernel_rfl) (of_decide_eq_true (by kernel_rfl)) ((F_ref13_Tell_eq N x).trans hr) (R_ref13_Tell_eq x r)⟩
def as_ref13_AddRing : List AS := [.val (.list (.agg (.pair (.int .i64) .str))), .val (.agg (.pair (.int .i64) .str))]
def bs_ref13_AddRing : List BS := []
def pout_ref13_AddRing : Pat := ⟨[(4, .val (.list (.agg (.pair (.int .i64) .str))))], []⟩
noncomputable def G_ref13_AddRing  (N : Nat) : OrcT := orcOf []
noncomputable def F_ref13_AddRing  (N : Nat) (x : (List (Int × List UInt8)) × Int × List UInt8) : Option (List (Int × List UInt8)) :=
  (evT (G_ref13_AddRing  N) L0 P0 []
    [] N 400 (bodyOf Try.f50) ⟨35, slots 0 (argsOf as_ref13_AddRing bs_ref13_AddRing x), tabU (lbOf as_ref13_AddRing bs_ref13_AddRing x) [], []⟩).elim (kRet 35 pout_ref13_AddRing (kpL []) (lbOf as_ref13_AddRing bs_ref13_AddRing x))
def out_ref13_AddRing (y : List (Int × List UInt8)) : V × List OK × List OK := (valW (.list (.agg (.pair (.int .i64) .str))) y, [], [])
noncomputable def V_ref13_AddRing  (N : Nat) (x : (List (Int × List UInt8)) × Int × List UInt8) : Option (List (Int × List UInt8)) :=
  cnd (decide (List.length x.1 * (24 : Nat) ≤ (140737488355328 : Nat))) (cnd (decide ((0 : Int) < (↑(List.length x.1) : Int))) (cnd (decide ((0 : Int) ≤
    wr IntKind.i64 ((↑(List.length x.1) : Int) - (1 : Int))) && decide (wr IntKind.i64 ((↑(List.length x.1) : Int) - (1 : Int)) < (↑(List.length x.1) :
    Int))) (cnd (decide (x.2.1 ≤ Prod.fst (List.getD x.1 (Int.toNat (wr IntKind.i64 ((↑(List.length x.1) : Int) - (1 : Int)))) ((0 : Int), [])))) (some
    x.1) (cnd (decide ((List.length x.1 + List.length [(x.2.1, x.2.2)]) * (24 : Nat) ≤ (140737488355328 : Nat))) (cnd (decide ((6 : Int) <
    (↑(List.length (x.1 ++ [(x.2.1, x.2.2)])) : Int))) (cnd (decide (Option.getD (some (1 : Int)) (0 : Int) ≤ (↑(List.length (x.1 ++ [(x.2.1, x.2.2)]))
    : Int))) (some (List.drop ((0 : Nat) + Prod.fst (Prod.snd (cutT (0 : Nat) (List.length (x.1 ++ [(x.2.1, x.2.2)])) (List.length (x.1 ++ [(x.2.1,
    x.2.2)])) (some (1 : Int)) none))) (List.take ((0 : Nat) + Prod.fst (Prod.snd (cutT (0 : Nat) (List.length (x.1 ++ [(x.2.1, x.2.2)])) (List.length
    (x.1 ++ [(x.2.1, x.2.2)])) (some (1 : Int)) none)) + (Prod.snd (Prod.snd (cutT (0 : Nat) (List.length (x.1 ++ [(x.2.1, x.2.2)])) (List.length (x.1
    ++ [(x.2.1, x.2.2)])) (some (1 : Int)) none)) - Prod.fst (Prod.snd (cutT (0 : Nat) (List.length (x.1 ++ [(x.2.1, x.2.2)])) (List.length (x.1 ++
    [(x.2.1, x.2.2)])) (some (1 : Int)) none)))) (x.1 ++ [(x.2.1, x.2.2)])))) none) (some (x.1 ++ [(x.2.1, x.2.2)]))) none)) none) (cnd (decide
    ((List.length x.1 + List.length [(x.2.1, x.2.2)]) * (24 : Nat) ≤ (140737488355328 : Nat))) (cnd (decide ((6 : Int) < (↑(List.length (x.1 ++ [(x.2.1,
    x.2.2)])) : Int))) (cnd (decide (Option.getD (some (1 : Int)) (0 : Int) ≤ (↑(List.length (x.1 ++ [(x.2.1, x.2.2)])) : Int))) (some (List.drop ((0 :
    Nat) + Prod.fst (Prod.snd (cutT (0 : Nat) (List.length (x.1 ++ [(x.2.1, x.2.2)])) (List.length (x.1 ++ [(x.2.1, x.2.2)])) (some (1 : Int)) none)))
    (List.take ((0 : Nat) + Prod.fst (Prod.snd (cutT (0 : Nat) (List.length (x.1 ++ [(x.2.1, x.2.2)])) (List.length (x.1 ++ [(x.2.1, x.2.2)])) (some (1
    : Int)) none)) + (Prod.snd (Prod.snd (cutT (0 : Nat) (List.length (x.1 ++ [(x.2.1, x.2.2)])) (List.length (x.1 ++ [(x.2.1, x.2.2)])) (some (1 :
    Int)) none)) - Prod.fst (Prod.snd (cutT (0 : Nat) (List.length (x.1 ++ [(x.2.1, x.2.2)])) (List.length (x.1 ++ [(x.2.1, x.2.2)])) (some (1 : Int))
    none)))) (x.1 ++ [(x.2.1, x.2.2)])))) none) (some (x.1 ++ [(x.2.1, x.2.2)]))) none)) none
theorem FV_ref13_AddRing_eq  (N : Nat) (x : (List (Int × List UInt8)) × Int × List UInt8) : F_ref13_AddRing  N x = V_ref13_AddRing  N x := by kernel_rfl
noncomputable def W_ref13_AddRing (N : Nat) (x : (List (Int × List UInt8)) × Int × List UInt8) : Option (List (Int × List UInt8)) :=
  cnd (decide (List.length x.1 * (24 : Nat) ≤ (140737488355328 : Nat))) (cnd (decide ((0 : Int) < (↑(List.length x.1) : Int))) (cnd (decide ((0 : Int) ≤
    wr IntKind.i64 ((↑(List.length x.1) : Int) - (1 : Int))) && decide (wr IntKind.i64 ((↑(List.length x.1) : Int) - (1 : Int)) < (↑(List.length x.1) :
    Int))) (cnd (decide (x.2.1 ≤ Prod.fst (List.getD x.1 (Int.toNat (wr IntKind.i64 ((↑(List.length x.1) : Int) - (1 : Int)))) ((0 : Int), [])))) (some
    x.1) (cnd (decide ((List.length x.1 + List.length [(x.2.1, x.2.2)]) * (24 : Nat) ≤ (140737488355328 : Nat))) (cnd (decide ((6 : Int) <
    (↑(List.length (x.1 ++ [(x.2.1, x.2.2)])) : Int))) (cnd (decide (Option.getD (some (1 : Int)) (0 : Int) ≤ (↑(List.length (x.1 ++ [(x.2.1, x.2.2)]))
    : Int))) (some (List.drop ((0 : Nat) + Prod.fst (Prod.snd (cutT (0 : Nat) (List.length (x.1 ++ [(x.2.1, x.2.2)])) (List.length (x.1 ++ [(x.2.1,
    x.2.2)])) (some (1 : Int)) none))) (List.take ((0 : Nat) + Prod.fst (Prod.snd (cutT (0 : Nat) (List.length (x.1 ++ [(x.2.1, x.2.2)])) (List.length
    (x.1 ++ [(x.2.1, x.2.2)])) (some (1 : Int)) none)) + (Prod.snd (Prod.snd (cutT (0 : Nat) (List.length (x.1 ++ [(x.2.1, x.2.2)])) (List.length (x.1
    ++ [(x.2.1, x.2.2)])) (some (1 : Int)) none)) - Prod.fst (Prod.snd (cutT (0 : Nat) (List.length (x.1 ++ [(x.2.1, x.2.2)])) (List.length (x.1 ++
    [(x.2.1, x.2.2)])) (some (1 : Int)) none)))) (x.1 ++ [(x.2.1, x.2.2)])))) none) (some (x.1 ++ [(x.2.1, x.2.2)]))) none)) none) (cnd (decide
    ((List.length x.1 + List.length [(x.2.1, x.2.2)]) * (24 : Nat) ≤ (140737488355328 : Nat))) (cnd (decide ((6 : Int) < (↑(List.length (x.1 ++ [(x.2.1,
    x.2.2)])) : Int))) (cnd (decide (Option.getD (some (1 : Int)) (0 : Int) ≤ (↑(List.length (x.1 ++ [(x.2.1, x.2.2)])) : Int))) (some (List.drop ((0 :
    Nat) + Prod.fst (Prod.snd (cutT (0 : Nat) (List.length (x.1 ++ [(x.2.1, x.2.2)])) (List.length (x.1 ++ [(x.2.1, x.2.2)])) (some (1 : Int)) none)))
    (List.take ((0 : Nat) + Prod.fst (Prod.snd (cutT (0 : Nat) (List.length (x.1 ++ [(x.2.1, x.2.2)])) (List.length (x.1 ++ [(x.2.1, x.2.2)])) (some (1
    : Int)) none)) + (Prod.snd (Prod.snd (cutT (0 : Nat) (List.length (x.1 ++ [(x.2.1, x.2.2)])) (List.length (x.1 ++ [(x.2.1, x.2.2)])) (some (1 :
    Int)) none)) - Prod.fst (Prod.snd (cutT (0 : Nat) (List.length (x.1 ++ [(x.2.1, x.2.2)])) (List.length (x.1 ++ [(x.2.1, x.2.2)])) (some (1 : Int))
    none)))) (x.1 ++ [(x.2.1, x.2.2)])))) none) (some (x.1 ++ [(x.2.1, x.2.2)]))) none)) none
theorem F_ref13_AddRing_eq (N : Nat) (x : (List (Int × List UInt8)) × Int × List UInt8) : F_ref13_AddRing  N x = W_ref13_AddRing N x := (FV_ref13_AddRing_eq  N x).trans (by kernel_rfl)
noncomputable def conw_ref13_AddRing (w : (List (Int × List UInt8)) × Int × List UInt8 → Option (List (Int × List UInt8))) : Con := ⟨50, as_ref13_AddRing, bs_ref13_AddRing, List (Int × List UInt8), w, out_ref13_AddRing⟩
noncomputable def con_ref13_AddRing (N : Nat) : Con := conw_ref13_AddRing (W_ref13_AddRing N)
theorem R_ref13_AddRing_eq (x : (List (Int × List UInt8)) × Int × List UInt8) (y : List (Int × List UInt8)) : retOf2 P0 Try.f50 (kpL []) (lbOf as_ref13_AddRing bs_ref13_AddRing x) (patS ⟨35, [], [], []⟩ pout_ref13_AddRing y) = some (out_ref13_AddRing y) := by kernel_rfl
theorem con_ref13_AddRing_ok (N : Nat) : Con.ok P0 (con_ref13_AddRing N) := ⟨⟨Try.f50, Try.func50, by kernel_rfl, by kernel_rfl⟩, fun (x : (List (Int × List UInt8)) × Int × List UInt8) (r : List (Int × List UInt8)) (hr : W_ref13_AddRing N x = some r) =>
  spec2_evT (Γ := G_ref13_AddRing N) (Λ := L0) (pout := pout_ref13_AddRing) (kp := kpL []) mixed (orcOf_ok [] (by simp)) Try.func50 (c := bodyOf Try.f50) (by kernel_rfl) (by kernel_rfl) (of_decide_eq_true (by kernel_rfl)) ((F_ref13_AddRing_eq N x).trans hr) (R_ref13_AddRing_eq x r)⟩
def as_ref13_Say : List AS := [.val (.agg (.pair (.int .i64) (.pair (.int .i64) (.pair (.list (.agg (.pair (.int .i64) .str))) (.pair (.list (.agg (.pair (.int .i64) .str))) (.pair (.list (.agg (.pair (.int .i64) (.pair (.int .i64) (.pair (.int .i64) (.pair .str (.int .i64))))))) (.agg (.pair (.int .i64) (.int .i64))))))))), .val .str]
def bs_ref13_Say : List BS := []
def pout_ref13_Say : Pat := ⟨[(4, .ptr 600004 0), (5, .val .bool)], [(600004, .box 29 (.val (.pair (.int .i64) (.pair (.int .i64) (.pair (.list (.agg (.pair (.int .i64) .str))) (.pair (.list (.agg (.pair (.int .i64) .str))) (.pair (.list (.agg (.pair (.int .i64) (.pair (.int .i64) (.pair (.int .i64) (.pair .str (.int .i64))))))) (.agg (.pair (.int .i64) (.int .i64))))))))))]⟩
noncomputable def G_ref13_Say (w_ref13_Tell : (List (Int × Int × Int × (List UInt8) × Int)) × Int × List UInt8 → Option (List (Int × Int × Int × (List UInt8) × Int))) (w_ref13_AddRing : (List (Int × List UInt8)) × Int × List UInt8 → Option (List (Int × List UInt8))) (N : Nat) : OrcT := orcOf [conw_ref13_Tell w_ref13_Tell, conw_ref13_AddRing w_ref13_AddRing]
noncomputable def F_ref13_Say (w_ref13_Tell : (List (Int × Int × Int × (List UInt8) × Int)) × Int × List UInt8 → Option (List (Int × Int × Int × (List UInt8) × Int))) (w_ref13_AddRing : (List (Int × List UInt8)) × Int × List UInt8 → Option (List (Int × List UInt8))) (N : Nat) (x : (Int × Int × (List (Int × List UInt8)) × (List (Int × List UInt8)) × (List (Int × Int × Int × (List UInt8) × Int)) × Int × Int) × List UInt8) : Option (Bool × Int × Int × (List (Int × List UInt8)) × (List (Int × List UInt8)) × (List (Int × Int × Int × (List UInt8) × Int)) × Int × Int) :=
  (evT (G_ref13_Say w_ref13_Tell w_ref13_AddRing N) L0 P0 []
    [] N 400 (bodyOf Try.f16) ⟨37, slots 0 (argsOf as_ref13_Say bs_ref13_Say x), tabU (lbOf as_ref13_Say bs_ref13_Say x) [], []⟩).elim (kRet 37 pout_ref13_Say (kpL []) (lbOf as_ref13_Say bs_ref13_Say x))
def out_ref13_Say (y : Bool × Int × Int × (List (Int × List UInt8)) × (List (Int × List UInt8)) × (List (Int × Int × Int × (List UInt8) × Int)) × Int × Int) : V × List OK × List OK := (.tup [valW (.agg (.pair (.int .i64) (.pair (.int .i64) (.pair (.list (.agg (.pair (.int .i64) .str))) (.pair (.list (.agg (.pair (.int .i64) .str))) (.pair (.list (.agg (.pair (.int .i64) (.pair (.int .i64) (.pair (.int .i64) (.pair .str (.int .i64))))))) (.agg (.pair (.int .i64) (.int .i64))))))))) y.2, valW .bool y.1], [], [])
noncomputable def V_ref13_Say (w_ref13_Tell : (List (Int × Int × Int × (List UInt8) × Int)) × Int × List UInt8 → Option (List (Int × Int × Int × (List UInt8) × Int))) (w_ref13_AddRing : (List (Int × List UInt8)) × Int × List UInt8 → Option (List (Int × List UInt8))) (N : Nat) (x : (Int × Int × (List (Int × List UInt8)) × (List (Int × List UInt8)) × (List (Int × Int × Int × (List UInt8) × Int)) × Int × Int) × List UInt8) : Option (Bool × Int × Int × (List (Int × List UInt8)) × (List (Int × List UInt8)) × (List (Int × Int × Int × (List UInt8) × Int)) × Int × Int) :=
  cnd (decide ((12 : Int) < (↑(List.length x.2) : Int))) (some (false, x.1.1, x.1.2.1, x.1.2.2.1, x.1.2.2.2.1, x.1.2.2.2.2.1, x.1.2.2.2.2.2.1,
    x.1.2.2.2.2.2.2)) (cnd (decide ((1000000 : Int) < max x.1.1 (1 : Int))) (some (false, x.1.1, x.1.2.1, x.1.2.2.1, x.1.2.2.2.1, x.1.2.2.2.2.1,
    x.1.2.2.2.2.2.1, x.1.2.2.2.2.2.2)) (obind (w_ref13_Tell (x.1.2.2.2.2.1, max x.1.1 (1 : Int), x.2)) fun (b : List (Int × Int × Int × List UInt8 ×
    Int)) => obind (w_ref13_AddRing (x.1.2.2.1, max x.1.1 (1 : Int), x.2)) fun (b_1 : List (Int × List UInt8)) => some (true, wr IntKind.i64 (max
    x.1.1 (1 : Int) + (1 : Int)), max x.1.1 (1 : Int), b_1, x.1.2.2.2.1, b, x.1.2.2.2.2.2.1, x.1.2.2.2.2.2.2)))
theorem FV_ref13_Say_eq (w_ref13_Tell : (List (Int × Int × Int × (List UInt8) × Int)) × Int × List UInt8 → Option (List (Int × Int × Int × (List UInt8) × Int))) (w_ref13_AddRing : (List (Int × List UInt8)) × Int × List UInt8 → Option (List (Int × List UInt8))) (N : Nat) (x : (Int × Int × (List (Int × List UInt8)) × (List (Int × List UInt8)) × (List (Int × Int × Int × (List UInt8) × Int)) × Int × Int) × List UInt8) : F_ref13_Say w_ref13_Tell w_ref13_AddRing N x = V_ref13_Say w_ref13_Tell w_ref13_AddRing N x := by kernel_rfl
noncomputable def W_ref13_Say (N : Nat) (x : (Int × Int × (List (Int × List UInt8)) × (List (Int × List UInt8)) × (List (Int × Int × Int × (List UInt8) × Int)) × Int × Int) × List UInt8) : Option (Bool × Int × Int × (List (Int × List UInt8)) × (List (Int × List UInt8)) × (List (Int × Int × Int × (List UInt8) × Int)) × Int × Int) :=
  cnd (decide ((12 : Int) < (↑(List.length x.2) : Int))) (some (false, x.1.1, x.1.2.1, x.1.2.2.1, x.1.2.2.2.1, x.1.2.2.2.2.1, x.1.2.2.2.2.2.1,
    x.1.2.2.2.2.2.2)) (cnd (decide ((1000000 : Int) < max x.1.1 (1 : Int))) (some (false, x.1.1, x.1.2.1, x.1.2.2.1, x.1.2.2.2.1, x.1.2.2.2.2.1,
    x.1.2.2.2.2.2.1, x.1.2.2.2.2.2.2)) (obind (W_ref13_Tell N (x.1.2.2.2.2.1, max x.1.1 (1 : Int), x.2)) fun (b : List (Int × Int × Int × List UInt8 ×
    Int)) => obind (W_ref13_AddRing N (x.1.2.2.1, max x.1.1 (1 : Int), x.2)) fun (b_1 : List (Int × List UInt8)) => some (true, wr IntKind.i64 (max
    x.1.1 (1 : Int) + (1 : Int)), max x.1.1 (1 : Int), b_1, x.1.2.2.2.1, b, x.1.2.2.2.2.2.1, x.1.2.2.2.2.2.2)))
theorem F_ref13_Say_eq (N : Nat) (x : (Int × Int × (List (Int × List UInt8)) × (List (Int × List UInt8)) × (List (Int × Int × Int × (List UInt8) × Int)) × Int × Int) × List UInt8) : F_ref13_Say (W_ref13_Tell N) (W_ref13_AddRing N) N x = W_ref13_Say N x := (FV_ref13_Say_eq (W_ref13_Tell N) (W_ref13_AddRing N) N x).trans (by kernel_rfl)
noncomputable def conw_ref13_Say (w : (Int × Int × (List (Int × List UInt8)) × (List (Int × List UInt8)) × (List (Int × Int × Int × (List UInt8) × Int)) × Int × Int) × List UInt8 → Option (Bool × Int × Int × (List (Int × List UInt8)) × (List (Int × List UInt8)) × (List (Int × Int × Int × (List UInt8) × Int)) × Int × Int)) : Con := ⟨16, as_ref13_Say, bs_ref13_Say, Bool × Int × Int × (List (Int × List UInt8)) × (List (Int × List UInt8)) × (List (Int × Int × Int × (List UInt8) × Int)) × Int × Int, w, out_ref13_Say⟩
noncomputable def con_ref13_Say (N : Nat) : Con := conw_ref13_Say (W_ref13_Say N)
theorem R_ref13_Say_eq (x : (Int × Int × (List (Int × List UInt8)) × (List (Int × List UInt8)) × (List (Int × Int × Int × (List UInt8) × Int)) × Int × Int) × List UInt8) (y : Bool × Int × Int × (List (Int × List UInt8)) × (List (Int × List UInt8)) × (List (Int × Int × Int × (List UInt8) × Int)) × Int × Int) : retOf2 P0 Try.f16 (kpL []) (lbOf as_ref13_Say bs_ref13_Say x) (patS ⟨37, [], [], []⟩ pout_ref13_Say y) = some (out_ref13_Say y) := by kernel_rfl
theorem con_ref13_Say_ok (N : Nat) : Con.ok P0 (con_ref13_Say N) := ⟨⟨Try.f16, Try.func16, by kernel_rfl, by kernel_rfl⟩, fun (x : (Int × Int × (List (Int × List UInt8)) × (List (Int × List UInt8)) × (List (Int × Int × Int × (List UInt8) × Int)) × Int × Int) × List UInt8) (r : Bool × Int × Int × (List (Int × List UInt8)) × (List (Int × List UInt8)) × (List (Int × Int × Int × (List UInt8) × Int)) × Int × Int) (hr : W_ref13_Say N x = some r) =>
  spec2_evT (Γ := G_ref13_Say (W_ref13_Tell N) (W_ref13_AddRing N) N) (Λ := L0) (pout := pout_ref13_Say) (kp := kpL []) mixed (orcOf_ok _ (by simp only [List.mem_cons, List.not_mem_nil, or_false, forall_eq_or_imp, forall_eq]; exact ⟨con_ref13_Tell_ok N, con_ref13_AddRing_ok N⟩)) Try.func16 (c := bodyOf Try.f16) (by kernel_rfl) (by kernel_rfl) (of_decide_eq_true (by kernel_rfl)) ((F_ref13_Say_eq N x).trans hr) (R_ref13_Say_eq x r)⟩
def as_ref13_SameItems : List AS := [.val (.list (.agg (.pair (.int .i64) .str))), .val (.list (.agg (.pair (.int .i64) .str)))]
def bs_ref13_SameItems : List BS := []
def pout_ref13_SameItems : Pat := ⟨[(4, .val .bool)], []⟩
noncomputable def G_ref13_SameItems  (N : Nat) : OrcT := orcOf []
noncomputable def F_ref13_SameItems  (N : Nat) (x : (List (Int × List UInt8)) × List (Int × List UInt8)) : Option (Bool) :=
  (evT (G_ref13_SameItems  N) L0 P0 [(4, .loop [] ⟨[(5, .val (.int .i64))], []⟩ [(.exit 0, ⟨[], []⟩), (.ret, ⟨[(4, .val .bool)], []⟩)])]
    [] N 400 (bodyOf Try.f51) ⟨26, slots 0 (argsOf as_ref13_SameItems bs_ref13_SameItems x), tabU (lbOf as_ref13_SameItems bs_ref13_SameItems x) [], []⟩).elim (kRet 26 pout_ref13_SameItems (kpL []) (lbOf as_ref13_SameItems bs_ref13_SameItems x))
def out_ref13_SameItems (y : Bool) : V × List OK × List OK := (valW .bool y, [], [])
noncomputable def V_ref13_SameItems  (N : Nat) (x : (List (Int × List UInt8)) × List (Int × List UInt8)) : Option (Bool) :=
  cnd (decide ((↑(List.length x.1) : Int) ≠ (↑(List.length x.2) : Int))) (some false) (obind (loopN N (fun (v : Int) => cnd (decide (v < (↑(List.length
    x.1) : Int))) (cnd (decide ((0 : Int) ≤ v) && decide (v < (↑(List.length x.1) : Int))) (cnd (decide ((0 : Int) ≤ v) && decide (v < (↑(List.length
    x.2) : Int))) (cnd (!(decide (Prod.fst (List.getD x.1 (Int.toNat v) ((0 : Int), [])) = Prod.fst (List.getD x.2 (Int.toNat v) ((0 : Int), []))) &&
    Prod.snd (List.getD x.1 (Int.toNat v) ((0 : Int), [])) == Prod.snd (List.getD x.2 (Int.toNat v) ((0 : Int), [])))) (some (Sum.inr (Sum.inr false)))
    (some (Sum.inl (wr IntKind.i64 (v + (1 : Int)))))) none) none) (some (Sum.inr (Sum.inl ())))) (Int.ofNat (0 : Nat))) fun (b : PUnit ⊕ Bool) => selim
    (fun (b : PUnit) => some true) (fun (c : Bool) => some c) b)
theorem FV_ref13_SameItems_eq  (N : Nat) (x : (List (Int × List UInt8)) × List (Int × List UInt8)) : F_ref13_SameItems  N x = V_ref13_SameItems  N x := by kernel_rfl
noncomputable def W_ref13_SameItems (N : Nat) (x : (List (Int × List UInt8)) × List (Int × List UInt8)) : Option (Bool) :=
  cnd (decide ((↑(List.length x.1) : Int) ≠ (↑(List.length x.2) : Int))) (some false) (obind (loopN N (fun (v : Int) => cnd (decide (v < (↑(List.length
    x.1) : Int))) (cnd (decide ((0 : Int) ≤ v) && decide (v < (↑(List.length x.1) : Int))) (cnd (decide ((0 : Int) ≤ v) && decide (v < (↑(List.length
    x.2) : Int))) (cnd (!(decide (Prod.fst (List.getD x.1 (Int.toNat v) ((0 : Int), [])) = Prod.fst (List.getD x.2 (Int.toNat v) ((0 : Int), []))) &&
    Prod.snd (List.getD x.1 (Int.toNat v) ((0 : Int), [])) == Prod.snd (List.getD x.2 (Int.toNat v) ((0 : Int), [])))) (some (Sum.inr (Sum.inr false)))
    (some (Sum.inl (wr IntKind.i64 (v + (1 : Int)))))) none) none) (some (Sum.inr (Sum.inl ())))) (Int.ofNat (0 : Nat))) fun (b : PUnit ⊕ Bool) => selim
    (fun (b : PUnit) => some true) (fun (c : Bool) => some c) b)
theorem F_ref13_SameItems_eq (N : Nat) (x : (List (Int × List UInt8)) × List (Int × List UInt8)) : F_ref13_SameItems  N x = W_ref13_SameItems N x := (FV_ref13_SameItems_eq  N x).trans (by kernel_rfl)
noncomputable def conw_ref13_SameItems (w : (List (Int × List UInt8)) × List (Int × List UInt8) → Option (Bool)) : Con := ⟨51, as_ref13_SameItems, bs_ref13_SameItems, Bool, w, out_ref13_SameItems⟩
noncomputable def con_ref13_SameItems (N : Nat) : Con := conw_ref13_SameItems (W_ref13_SameItems N)
theorem R_ref13_SameItems_eq (x : (List (Int × List UInt8)) × List (Int × List UInt8)) (y : Bool) : retOf2 P0 Try.f51 (kpL []) (lbOf as_ref13_SameItems bs_ref13_SameItems x) (patS ⟨26, [], [], []⟩ pout_ref13_SameItems y) = some (out_ref13_SameItems y) := by kernel_rfl
theorem con_ref13_SameItems_ok (N : Nat) : Con.ok P0 (con_ref13_SameItems N) := ⟨⟨Try.f51, Try.func51, by kernel_rfl, by kernel_rfl⟩, fun (x : (List (Int × List UInt8)) × List (Int × List UInt8)) (r : Bool) (hr : W_ref13_SameItems N x = some r) =>
  spec2_evT (Γ := G_ref13_SameItems N) (Λ := L0) (pout := pout_ref13_SameItems) (kp := kpL []) mixed (orcOf_ok [] (by simp)) Try.func51 (c := bodyOf Try.f51) (by kernel_rfl) (by kernel_rfl) (of_decide_eq_true (by kernel_rfl)) ((F_ref13_SameItems_eq N x).trans hr) (R_ref13_SameItems_eq x r)⟩
def as_ref13_SameEvents : List AS := [.val (.list (.agg (.pair (.int .i64) (.pair (.int .i64) (.pair (.int .i64) (.pair .str (.int .i64))))))), .val (.list (.agg (.pair (.int .i64) (.pair (.int .i64) (.pair (.int .i64) (.pair .str (.int .i64)))))))]
def bs_ref13_SameEvents : List BS := []
def pout_ref13_SameEvents : Pat := ⟨[(4, .val .bool)], []⟩
noncomputable def G_ref13_SameEvents  (N : Nat) : OrcT := orcOf []
noncomputable def F_ref13_SameEvents  (N : Nat) (x : (List (Int × Int × Int × (List UInt8) × Int)) × List (Int × Int × Int × (List UInt8) × Int)) : Option (Bool) :=
  (evT (G_ref13_SameEvents  N) L0 P0 [(4, .loop [] ⟨[(5, .val (.int .i64))], []⟩ [(.exit 0, ⟨[], []⟩), (.ret, ⟨[(4, .val .bool)], []⟩)])]
    [] N 400 (bodyOf Try.f52) ⟨26, slots 0 (argsOf as_ref13_SameEvents bs_ref13_SameEvents x), tabU (lbOf as_ref13_SameEvents bs_ref13_SameEvents x) [], []⟩).elim (kRet 26 pout_ref13_SameEvents (kpL []) (lbOf as_ref13_SameEvents bs_ref13_SameEvents x))
def out_ref13_SameEvents (y : Bool) : V × List OK × List OK := (valW .bool y, [], [])
noncomputable def V_ref13_SameEvents  (N : Nat) (x : (List (Int × Int × Int × (List UInt8) × Int)) × List (Int × Int × Int × (List UInt8) × Int)) : Option (Bool) :=
  cnd (decide ((↑(List.length x.1) : Int) ≠ (↑(List.length x.2) : Int))) (some false) (obind (loopN N (fun (v : Int) => cnd (decide (v < (↑(List.length
    x.1) : Int))) (cnd (decide ((0 : Int) ≤ v) && decide (v < (↑(List.length x.1) : Int))) (cnd (decide ((0 : Int) ≤ v) && decide (v < (↑(List.length
    x.2) : Int))) (cnd (!(decide (Prod.fst (List.getD x.1 (Int.toNat v) ((0 : Int), (0 : Int), (0 : Int), [], (0 : Int))) = Prod.fst (List.getD x.2
    (Int.toNat v) ((0 : Int), (0 : Int), (0 : Int), [], (0 : Int)))) && (decide (Prod.fst (Prod.snd (List.getD x.1 (Int.toNat v) ((0 : Int), (0 : Int),
    (0 : Int), [], (0 : Int)))) = Prod.fst (Prod.snd (List.getD x.2 (Int.toNat v) ((0 : Int), (0 : Int), (0 : Int), [], (0 : Int))))) && (decide
    (Prod.fst (Prod.snd (Prod.snd (List.getD x.1 (Int.toNat v) ((0 : Int), (0 : Int), (0 : Int), [], (0 : Int))))) = Prod.fst (Prod.snd (Prod.snd
    (List.getD x.2 (Int.toNat v) ((0 : Int), (0 : Int), (0 : Int), [], (0 : Int)))))) && (Prod.fst (Prod.snd (Prod.snd (Prod.snd (List.getD x.1
    (Int.toNat v) ((0 : Int), (0 : Int), (0 : Int), [], (0 : Int)))))) == Prod.fst (Prod.snd (Prod.snd (Prod.snd (List.getD x.2 (Int.toNat v) ((0 :
    Int), (0 : Int), (0 : Int), [], (0 : Int)))))) && decide (Prod.snd (Prod.snd (Prod.snd (Prod.snd (List.getD x.1 (Int.toNat v) ((0 : Int), (0 : Int),
    (0 : Int), [], (0 : Int)))))) = Prod.snd (Prod.snd (Prod.snd (Prod.snd (List.getD x.2 (Int.toNat v) ((0 : Int), (0 : Int), (0 : Int), [], (0 :
    Int)))))))))))) (some (Sum.inr (Sum.inr false))) (some (Sum.inl (wr IntKind.i64 (v + (1 : Int)))))) none) none) (some (Sum.inr (Sum.inl ()))))
    (Int.ofNat (0 : Nat))) fun (b : PUnit ⊕ Bool) => selim (fun (b : PUnit) => some true) (fun (c : Bool) => some c) b)
theorem FV_ref13_SameEvents_eq  (N : Nat) (x : (List (Int × Int × Int × (List UInt8) × Int)) × List (Int × Int × Int × (List UInt8) × Int)) : F_ref13_SameEvents  N x = V_ref13_SameEvents  N x := by kernel_rfl
noncomputable def W_ref13_SameEvents (N : Nat) (x : (List (Int × Int × Int × (List UInt8) × Int)) × List (Int × Int × Int × (List UInt8) × Int)) : Option (Bool) :=
  cnd (decide ((↑(List.length x.1) : Int) ≠ (↑(List.length x.2) : Int))) (some false) (obind (loopN N (fun (v : Int) => cnd (decide (v < (↑(List.length
    x.1) : Int))) (cnd (decide ((0 : Int) ≤ v) && decide (v < (↑(List.length x.1) : Int))) (cnd (decide ((0 : Int) ≤ v) && decide (v < (↑(List.length
    x.2) : Int))) (cnd (!(decide (Prod.fst (List.getD x.1 (Int.toNat v) ((0 : Int), (0 : Int), (0 : Int), [], (0 : Int))) = Prod.fst (List.getD x.2
    (Int.toNat v) ((0 : Int), (0 : Int), (0 : Int), [], (0 : Int)))) && (decide (Prod.fst (Prod.snd (List.getD x.1 (Int.toNat v) ((0 : Int), (0 : Int),
    (0 : Int), [], (0 : Int)))) = Prod.fst (Prod.snd (List.getD x.2 (Int.toNat v) ((0 : Int), (0 : Int), (0 : Int), [], (0 : Int))))) && (decide
    (Prod.fst (Prod.snd (Prod.snd (List.getD x.1 (Int.toNat v) ((0 : Int), (0 : Int), (0 : Int), [], (0 : Int))))) = Prod.fst (Prod.snd (Prod.snd
    (List.getD x.2 (Int.toNat v) ((0 : Int), (0 : Int), (0 : Int), [], (0 : Int)))))) && (Prod.fst (Prod.snd (Prod.snd (Prod.snd (List.getD x.1
    (Int.toNat v) ((0 : Int), (0 : Int), (0 : Int), [], (0 : Int)))))) == Prod.fst (Prod.snd (Prod.snd (Prod.snd (List.getD x.2 (Int.toNat v) ((0 :
    Int), (0 : Int), (0 : Int), [], (0 : Int)))))) && decide (Prod.snd (Prod.snd (Prod.snd (Prod.snd (List.getD x.1 (Int.toNat v) ((0 : Int), (0 : Int),
    (0 : Int), [], (0 : Int)))))) = Prod.snd (Prod.snd (Prod.snd (Prod.snd (List.getD x.2 (Int.toNat v) ((0 : Int), (0 : Int), (0 : Int), [], (0 :
    Int)))))))))))) (some (Sum.inr (Sum.inr false))) (some (Sum.inl (wr IntKind.i64 (v + (1 : Int)))))) none) none) (some (Sum.inr (Sum.inl ()))))
    (Int.ofNat (0 : Nat))) fun (b : PUnit ⊕ Bool) => selim (fun (b : PUnit) => some true) (fun (c : Bool) => some c) b)
theorem F_ref13_SameEvents_eq (N : Nat) (x : (List (Int × Int × Int × (List UInt8) × Int)) × List (Int × Int × Int × (List UInt8) × Int)) : F_ref13_SameEvents  N x = W_ref13_SameEvents N x := (FV_ref13_SameEvents_eq  N x).trans (by kernel_rfl)
noncomputable def conw_ref13_SameEvents (w : (List (Int × Int × Int × (List UInt8) × Int)) × List (Int × Int × Int × (List UInt8) × Int) → Option (Bool)) : Con := ⟨52, as_ref13_SameEvents, bs_ref13_SameEvents, Bool, w, out_ref13_SameEvents⟩
noncomputable def con_ref13_SameEvents (N : Nat) : Con := conw_ref13_SameEvents (W_ref13_SameEvents N)
theorem R_ref13_SameEvents_eq (x : (List (Int × Int × Int × (List UInt8) × Int)) × List (Int × Int × Int × (List UInt8) × Int)) (y : Bool) : retOf2 P0 Try.f52 (kpL []) (lbOf as_ref13_SameEvents bs_ref13_SameEvents x) (patS ⟨26, [], [], []⟩ pout_ref13_SameEvents y) = some (out_ref13_SameEvents y) := by kernel_rfl
theorem con_ref13_SameEvents_ok (N : Nat) : Con.ok P0 (con_ref13_SameEvents N) := ⟨⟨Try.f52, Try.func52, by kernel_rfl, by kernel_rfl⟩, fun (x : (List (Int × Int × Int × (List UInt8) × Int)) × List (Int × Int × Int × (List UInt8) × Int)) (r : Bool) (hr : W_ref13_SameEvents N x = some r) =>
  spec2_evT (Γ := G_ref13_SameEvents N) (Λ := L0) (pout := pout_ref13_SameEvents) (kp := kpL []) mixed (orcOf_ok [] (by simp)) Try.func52 (c := bodyOf Try.f52) (by kernel_rfl) (by kernel_rfl) (of_decide_eq_true (by kernel_rfl)) ((F_ref13_SameEvents_eq N x).trans hr) (R_ref13_SameEvents_eq x r)⟩
def as_ref13_SameFeed : List AS := [.val (.agg (.pair (.int .i64) (.pair (.int .i64) (.pair (.list (.agg (.pair (.int .i64) .str))) (.pair (.list (.agg (.pair (.int .i64) .str))) (.pair (.list (.agg (.pair (.int .i64) (.pair (.int .i64) (.pair (.int .i64) (.pair .str (.int .i64))))))) (.agg (.pair (.int .i64) (.int .i64))))))))), .val (.agg (.pair (.int .i64) (.pair (.int .i64) (.pair (.list (.agg (.pair (.int .i64) .str))) (.pair (.list (.agg (.pair (.int .i64) .str))) (.pair (.list (.agg (.pair (.int .i64) (.pair (.int .i64) (.pair (.int .i64) (.pair .str (.int .i64))))))) (.agg (.pair (.int .i64) (.int .i64)))))))))]
def bs_ref13_SameFeed : List BS := []
def pout_ref13_SameFeed : Pat := ⟨[(4, .val .bool)], []⟩
noncomputable def G_ref13_SameFeed (w_ref13_SameItems : (List (Int × List UInt8)) × List (Int × List UInt8) → Option (Bool)) (w_ref13_SameEvents : (List (Int × Int × Int × (List UInt8) × Int)) × List (Int × Int × Int × (List UInt8) × Int) → Option (Bool)) (N : Nat) : OrcT := orcOf [conw_ref13_SameItems w_ref13_SameItems, conw_ref13_SameEvents w_ref13_SameEvents]
noncomputable def F_ref13_SameFeed (w_ref13_SameItems : (List (Int × List UInt8)) × List (Int × List UInt8) → Option (Bool)) (w_ref13_SameEvents : (List (Int × Int × Int × (List UInt8) × Int)) × List (Int × Int × Int × (List UInt8) × Int) → Option (Bool)) (N : Nat) (x : (Int × Int × (List (Int × List UInt8)) × (List (Int × List UInt8)) × (List (Int × Int × Int × (List UInt8) × Int)) × Int × Int) × Int × Int × (List (Int × List UInt8)) × (List (Int × List UInt8)) × (List (Int × Int × Int × (List UInt8) × Int)) × Int × Int) : Option (Bool) :=
  (evT (G_ref13_SameFeed w_ref13_SameItems w_ref13_SameEvents N) L0 P0 []
    [(1000001, .reg [(12, [], ⟨[(2, .ptr 600002 0), (3, .ptr 600003 0), (16, .val .bool)], [(600002, .box 29 (.val (.pair (.int .i64) (.pair (.int .i64) (.pair (.list (.agg (.pair (.int .i64) .str))) (.pair (.list (.agg (.pair (.int .i64) .str))) (.pair (.list (.agg (.pair (.int .i64) (.pair (.int .i64) (.pair (.int .i64) (.pair .str (.int .i64))))))) (.agg (.pair (.int .i64) (.int .i64)))))))))), (600003, .box 29 (.val (.pair (.int .i64) (.pair (.int .i64) (.pair (.list (.agg (.pair (.int .i64) .str))) (.pair (.list (.agg (.pair (.int .i64) .str))) (.pair (.list (.agg (.pair (.int .i64) (.pair (.int .i64) (.pair (.int .i64) (.pair .str (.int .i64))))))) (.agg (.pair (.int .i64) (.int .i64))))))))))]⟩), (7, [], ⟨[(2, .ptr 600002 0), (3, .ptr 600003 0), (23, .val .bool)], [(600002, .box 29 (.val (.pair (.int .i64) (.pair (.int .i64) (.pair (.list (.agg (.pair (.int .i64) .str))) (.pair (.list (.agg (.pair (.int .i64) .str))) (.pair (.list (.agg (.pair (.int .i64) (.pair (.int .i64) (.pair (.int .i64) (.pair .str (.int .i64))))))) (.agg (.pair (.int .i64) (.int .i64)))))))))), (600003, .box 29 (.val (.pair (.int .i64) (.pair (.int .i64) (.pair (.list (.agg (.pair (.int .i64) .str))) (.pair (.list (.agg (.pair (.int .i64) .str))) (.pair (.list (.agg (.pair (.int .i64) (.pair (.int .i64) (.pair (.int .i64) (.pair .str (.int .i64))))))) (.agg (.pair (.int .i64) (.int .i64))))))))))]⟩), (7, [], ⟨[(2, .ptr 600002 0), (3, .ptr 600003 0), (30, .val .bool)], [(600002, .box 29 (.val (.pair (.int .i64) (.pair (.int .i64) (.pair (.list (.agg (.pair (.int .i64) .str))) (.pair (.list (.agg (.pair (.int .i64) .str))) (.pair (.list (.agg (.pair (.int .i64) (.pair (.int .i64) (.pair (.int .i64) (.pair .str (.int .i64))))))) (.agg (.pair (.int .i64) (.int .i64)))))))))), (600003, .box 29 (.val (.pair (.int .i64) (.pair (.int .i64) (.pair (.list (.agg (.pair (.int .i64) .str))) (.pair (.list (.agg (.pair (.int .i64) .str))) (.pair (.list (.agg (.pair (.int .i64) (.pair (.int .i64) (.pair (.int .i64) (.pair .str (.int .i64))))))) (.agg (.pair (.int .i64) (.int .i64))))))))))]⟩), (7, [], ⟨[(2, .ptr 600002 0), (3, .ptr 600003 0), (37, .val .bool)], [(600002, .box 29 (.val (.pair (.int .i64) (.pair (.int .i64) (.pair (.list (.agg (.pair (.int .i64) .str))) (.pair (.list (.agg (.pair (.int .i64) .str))) (.pair (.list (.agg (.pair (.int .i64) (.pair (.int .i64) (.pair (.int .i64) (.pair .str (.int .i64))))))) (.agg (.pair (.int .i64) (.int .i64)))))))))), (600003, .box 29 (.val (.pair (.int .i64) (.pair (.int .i64) (.pair (.list (.agg (.pair (.int .i64) .str))) (.pair (.list (.agg (.pair (.int .i64) .str))) (.pair (.list (.agg (.pair (.int .i64) (.pair (.int .i64) (.pair (.int .i64) (.pair .str (.int .i64))))))) (.agg (.pair (.int .i64) (.int .i64))))))))))]⟩)])] N 400 (bodyOf Try.f17) ⟨45, slots 0 (argsOf as_ref13_SameFeed bs_ref13_SameFeed x), tabU (lbOf as_ref13_SameFeed bs_ref13_SameFeed x) [], []⟩).elim (kRet 45 pout_ref13_SameFeed (kpL []) (lbOf as_ref13_SameFeed bs_ref13_SameFeed x))
def out_ref13_SameFeed (y : Bool) : V × List OK × List OK := (valW .bool y, [], [])
noncomputable def V_ref13_SameFeed (w_ref13_SameItems : (List (Int × List UInt8)) × List (Int × List UInt8) → Option (Bool)) (w_ref13_SameEvents : (List (Int × Int × Int × (List UInt8) × Int)) × List (Int × Int × Int × (List UInt8) × Int) → Option (Bool)) (N : Nat) (x : (Int × Int × (List (Int × List UInt8)) × (List (Int × List UInt8)) × (List (Int × Int × Int × (List UInt8) × Int)) × Int × Int) × Int × Int × (List (Int × List UInt8)) × (List (Int × List UInt8)) × (List (Int × Int × Int × (List UInt8) × Int)) × Int × Int) : Option (Bool) :=
  obind (cnd (decide (x.1.1 = x.2.1)) (some (decide (x.1.2.1 = x.2.2.1), (x.1.1, x.1.2.1, x.1.2.2.1, x.1.2.2.2.1, x.1.2.2.2.2.1, x.1.2.2.2.2.2.1,
    x.1.2.2.2.2.2.2), x.2.1, x.2.2.1, x.2.2.2.1, x.2.2.2.2.1, x.2.2.2.2.2.1, x.2.2.2.2.2.2.1, x.2.2.2.2.2.2.2)) (some (false, (x.1.1, x.1.2.1,
    x.1.2.2.1, x.1.2.2.2.1, x.1.2.2.2.2.1, x.1.2.2.2.2.2.1, x.1.2.2.2.2.2.2), x.2.1, x.2.2.1, x.2.2.2.1, x.2.2.2.2.1, x.2.2.2.2.2.1, x.2.2.2.2.2.2.1,
    x.2.2.2.2.2.2.2))) fun (b : Bool × (Int × Int × List (Int × List UInt8) × List (Int × List UInt8) × List (Int × Int × Int × List UInt8 × Int) × Int
    × Int) × Int × Int × List (Int × List UInt8) × List (Int × List UInt8) × List (Int × Int × Int × List UInt8 × Int) × Int × Int) => obind (cnd b.1
    (obind (w_ref13_SameItems (b.2.1.2.2.1, b.2.2.2.2.1)) fun (b_1 : Bool) => some (b_1, (b.2.1.1, b.2.1.2.1, b.2.1.2.2.1, b.2.1.2.2.2.1,
    b.2.1.2.2.2.2.1, b.2.1.2.2.2.2.2.1, b.2.1.2.2.2.2.2.2), b.2.2.1, b.2.2.2.1, b.2.2.2.2.1, b.2.2.2.2.2.1, b.2.2.2.2.2.2.1, b.2.2.2.2.2.2.2.1,
    b.2.2.2.2.2.2.2.2)) (some (false, (b.2.1.1, b.2.1.2.1, b.2.1.2.2.1, b.2.1.2.2.2.1, b.2.1.2.2.2.2.1, b.2.1.2.2.2.2.2.1, b.2.1.2.2.2.2.2.2), b.2.2.1,
    b.2.2.2.1, b.2.2.2.2.1, b.2.2.2.2.2.1, b.2.2.2.2.2.2.1, b.2.2.2.2.2.2.2.1, b.2.2.2.2.2.2.2.2))) fun (b : Bool × (Int × Int × List (Int × List UInt8)
    × List (Int × List UInt8) × List (Int × Int × Int × List UInt8 × Int) × Int × Int) × Int × Int × List (Int × List UInt8) × List (Int × List UInt8) ×
    List (Int × Int × Int × List UInt8 × Int) × Int × Int) => obind (cnd b.1 (obind (w_ref13_SameItems (b.2.1.2.2.2.1, b.2.2.2.2.2.1)) fun (b_1 :
    Bool) => some (b_1, (b.2.1.1, b.2.1.2.1, b.2.1.2.2.1, b.2.1.2.2.2.1, b.2.1.2.2.2.2.1, b.2.1.2.2.2.2.2.1, b.2.1.2.2.2.2.2.2), b.2.2.1, b.2.2.2.1,
    b.2.2.2.2.1, b.2.2.2.2.2.1, b.2.2.2.2.2.2.1, b.2.2.2.2.2.2.2.1, b.2.2.2.2.2.2.2.2)) (some (false, (b.2.1.1, b.2.1.2.1, b.2.1.2.2.1, b.2.1.2.2.2.1,
    b.2.1.2.2.2.2.1, b.2.1.2.2.2.2.2.1, b.2.1.2.2.2.2.2.2), b.2.2.1, b.2.2.2.1, b.2.2.2.2.1, b.2.2.2.2.2.1, b.2.2.2.2.2.2.1, b.2.2.2.2.2.2.2.1,
    b.2.2.2.2.2.2.2.2))) fun (b : Bool × (Int × Int × List (Int × List UInt8) × List (Int × List UInt8) × List (Int × Int × Int × List UInt8 × Int) ×
    Int × Int) × Int × Int × List (Int × List UInt8) × List (Int × List UInt8) × List (Int × Int × Int × List UInt8 × Int) × Int × Int) => obind (cnd
    b.1 (obind (w_ref13_SameEvents (b.2.1.2.2.2.2.1, b.2.2.2.2.2.2.1)) fun (b_1 : Bool) => some (b_1, (b.2.1.1, b.2.1.2.1, b.2.1.2.2.1, b.2.1.2.2.2.1,
    b.2.1.2.2.2.2.1, b.2.1.2.2.2.2.2.1, b.2.1.2.2.2.2.2.2), b.2.2.1, b.2.2.2.1, b.2.2.2.2.1, b.2.2.2.2.2.1, b.2.2.2.2.2.2.1, b.2.2.2.2.2.2.2.1,
    b.2.2.2.2.2.2.2.2)) (some (false, (b.2.1.1, b.2.1.2.1, b.2.1.2.2.1, b.2.1.2.2.2.1, b.2.1.2.2.2.2.1, b.2.1.2.2.2.2.2.1, b.2.1.2.2.2.2.2.2), b.2.2.1,
    b.2.2.2.1, b.2.2.2.2.1, b.2.2.2.2.2.1, b.2.2.2.2.2.2.1, b.2.2.2.2.2.2.2.1, b.2.2.2.2.2.2.2.2))) fun (b : Bool × (Int × Int × List (Int × List UInt8)
    × List (Int × List UInt8) × List (Int × Int × Int × List UInt8 × Int) × Int × Int) × Int × Int × List (Int × List UInt8) × List (Int × List UInt8) ×
    List (Int × Int × Int × List UInt8 × Int) × Int × Int) => cnd b.1 (some (decide (b.2.1.2.2.2.2.2.1 = b.2.2.2.2.2.2.2.1) && decide (b.2.1.2.2.2.2.2.2
    = b.2.2.2.2.2.2.2.2))) (some false)
theorem FV_ref13_SameFeed_eq (w_ref13_SameItems : (List (Int × List UInt8)) × List (Int × List UInt8) → Option (Bool)) (w_ref13_SameEvents : (List (Int × Int × Int × (List UInt8) × Int)) × List (Int × Int × Int × (List UInt8) × Int) → Option (Bool)) (N : Nat) (x : (Int × Int × (List (Int × List UInt8)) × (List (Int × List UInt8)) × (List (Int × Int × Int × (List UInt8) × Int)) × Int × Int) × Int × Int × (List (Int × List UInt8)) × (List (Int × List UInt8)) × (List (Int × Int × Int × (List UInt8) × Int)) × Int × Int) : F_ref13_SameFeed w_ref13_SameItems w_ref13_SameEvents N x = V_ref13_SameFeed w_ref13_SameItems w_ref13_SameEvents N x := by kernel_rfl
noncomputable def W_ref13_SameFeed (N : Nat) (x : (Int × Int × (List (Int × List UInt8)) × (List (Int × List UInt8)) × (List (Int × Int × Int × (List UInt8) × Int)) × Int × Int) × Int × Int × (List (Int × List UInt8)) × (List (Int × List UInt8)) × (List (Int × Int × Int × (List UInt8) × Int)) × Int × Int) : Option (Bool) :=
  obind (cnd (decide (x.1.1 = x.2.1)) (some (decide (x.1.2.1 = x.2.2.1), (x.1.1, x.1.2.1, x.1.2.2.1, x.1.2.2.2.1, x.1.2.2.2.2.1, x.1.2.2.2.2.2.1,
    x.1.2.2.2.2.2.2), x.2.1, x.2.2.1, x.2.2.2.1, x.2.2.2.2.1, x.2.2.2.2.2.1, x.2.2.2.2.2.2.1, x.2.2.2.2.2.2.2)) (some (false, (x.1.1, x.1.2.1,
    x.1.2.2.1, x.1.2.2.2.1, x.1.2.2.2.2.1, x.1.2.2.2.2.2.1, x.1.2.2.2.2.2.2), x.2.1, x.2.2.1, x.2.2.2.1, x.2.2.2.2.1, x.2.2.2.2.2.1, x.2.2.2.2.2.2.1,
    x.2.2.2.2.2.2.2))) fun (b : Bool × (Int × Int × List (Int × List UInt8) × List (Int × List UInt8) × List (Int × Int × Int × List UInt8 × Int) × Int
    × Int) × Int × Int × List (Int × List UInt8) × List (Int × List UInt8) × List (Int × Int × Int × List UInt8 × Int) × Int × Int) => obind (cnd b.1
    (obind (W_ref13_SameItems N (b.2.1.2.2.1, b.2.2.2.2.1)) fun (b_1 : Bool) => some (b_1, (b.2.1.1, b.2.1.2.1, b.2.1.2.2.1, b.2.1.2.2.2.1,
    b.2.1.2.2.2.2.1, b.2.1.2.2.2.2.2.1, b.2.1.2.2.2.2.2.2), b.2.2.1, b.2.2.2.1, b.2.2.2.2.1, b.2.2.2.2.2.1, b.2.2.2.2.2.2.1, b.2.2.2.2.2.2.2.1,
    b.2.2.2.2.2.2.2.2)) (some (false, (b.2.1.1, b.2.1.2.1, b.2.1.2.2.1, b.2.1.2.2.2.1, b.2.1.2.2.2.2.1, b.2.1.2.2.2.2.2.1, b.2.1.2.2.2.2.2.2), b.2.2.1,
    b.2.2.2.1, b.2.2.2.2.1, b.2.2.2.2.2.1, b.2.2.2.2.2.2.1, b.2.2.2.2.2.2.2.1, b.2.2.2.2.2.2.2.2))) fun (b : Bool × (Int × Int × List (Int × List UInt8)
    × List (Int × List UInt8) × List (Int × Int × Int × List UInt8 × Int) × Int × Int) × Int × Int × List (Int × List UInt8) × List (Int × List UInt8) ×
    List (Int × Int × Int × List UInt8 × Int) × Int × Int) => obind (cnd b.1 (obind (W_ref13_SameItems N (b.2.1.2.2.2.1, b.2.2.2.2.2.1)) fun (b_1 :
    Bool) => some (b_1, (b.2.1.1, b.2.1.2.1, b.2.1.2.2.1, b.2.1.2.2.2.1, b.2.1.2.2.2.2.1, b.2.1.2.2.2.2.2.1, b.2.1.2.2.2.2.2.2), b.2.2.1, b.2.2.2.1,
    b.2.2.2.2.1, b.2.2.2.2.2.1, b.2.2.2.2.2.2.1, b.2.2.2.2.2.2.2.1, b.2.2.2.2.2.2.2.2)) (some (false, (b.2.1.1, b.2.1.2.1, b.2.1.2.2.1, b.2.1.2.2.2.1,
    b.2.1.2.2.2.2.1, b.2.1.2.2.2.2.2.1, b.2.1.2.2.2.2.2.2), b.2.2.1, b.2.2.2.1, b.2.2.2.2.1, b.2.2.2.2.2.1, b.2.2.2.2.2.2.1, b.2.2.2.2.2.2.2.1,
    b.2.2.2.2.2.2.2.2))) fun (b : Bool × (Int × Int × List (Int × List UInt8) × List (Int × List UInt8) × List (Int × Int × Int × List UInt8 × Int) ×
    Int × Int) × Int × Int × List (Int × List UInt8) × List (Int × List UInt8) × List (Int × Int × Int × List UInt8 × Int) × Int × Int) => obind (cnd
    b.1 (obind (W_ref13_SameEvents N (b.2.1.2.2.2.2.1, b.2.2.2.2.2.2.1)) fun (b_1 : Bool) => some (b_1, (b.2.1.1, b.2.1.2.1, b.2.1.2.2.1, b.2.1.2.2.2.1,
    b.2.1.2.2.2.2.1, b.2.1.2.2.2.2.2.1, b.2.1.2.2.2.2.2.2), b.2.2.1, b.2.2.2.1, b.2.2.2.2.1, b.2.2.2.2.2.1, b.2.2.2.2.2.2.1, b.2.2.2.2.2.2.2.1,
    b.2.2.2.2.2.2.2.2)) (some (false, (b.2.1.1, b.2.1.2.1, b.2.1.2.2.1, b.2.1.2.2.2.1, b.2.1.2.2.2.2.1, b.2.1.2.2.2.2.2.1, b.2.1.2.2.2.2.2.2), b.2.2.1,
    b.2.2.2.1, b.2.2.2.2.1, b.2.2.2.2.2.1, b.2.2.2.2.2.2.1, b.2.2.2.2.2.2.2.1, b.2.2.2.2.2.2.2.2))) fun (b : Bool × (Int × Int × List (Int × List UInt8)
    × List (Int × List UInt8) × List (Int × Int × Int × List UInt8 × Int) × Int × Int) × Int × Int × List (Int × List UInt8) × List (Int × List UInt8) ×
    List (Int × Int × Int × List UInt8 × Int) × Int × Int) => cnd b.1 (some (decide (b.2.1.2.2.2.2.2.1 = b.2.2.2.2.2.2.2.1) && decide (b.2.1.2.2.2.2.2.2
    = b.2.2.2.2.2.2.2.2))) (some false)
theorem F_ref13_SameFeed_eq (N : Nat) (x : (Int × Int × (List (Int × List UInt8)) × (List (Int × List UInt8)) × (List (Int × Int × Int × (List UInt8) × Int)) × Int × Int) × Int × Int × (List (Int × List UInt8)) × (List (Int × List UInt8)) × (List (Int × Int × Int × (List UInt8) × Int)) × Int × Int) : F_ref13_SameFeed (W_ref13_SameItems N) (W_ref13_SameEvents N) N x = W_ref13_SameFeed N x := (FV_ref13_SameFeed_eq (W_ref13_SameItems N) (W_ref13_SameEvents N) N x).trans (by kernel_rfl)
noncomputable def conw_ref13_SameFeed (w : (Int × Int × (List (Int × List UInt8)) × (List (Int × List UInt8)) × (List (Int × Int × Int × (List UInt8) × Int)) × Int × Int) × Int × Int × (List (Int × List UInt8)) × (List (Int × List UInt8)) × (List (Int × Int × Int × (List UInt8) × Int)) × Int × Int → Option (Bool)) : Con := ⟨17, as_ref13_SameFeed, bs_ref13_SameFeed, Bool, w, out_ref13_SameFeed⟩
noncomputable def con_ref13_SameFeed (N : Nat) : Con := conw_ref13_SameFeed (W_ref13_SameFeed N)
theorem R_ref13_SameFeed_eq (x : (Int × Int × (List (Int × List UInt8)) × (List (Int × List UInt8)) × (List (Int × Int × Int × (List UInt8) × Int)) × Int × Int) × Int × Int × (List (Int × List UInt8)) × (List (Int × List UInt8)) × (List (Int × Int × Int × (List UInt8) × Int)) × Int × Int) (y : Bool) : retOf2 P0 Try.f17 (kpL []) (lbOf as_ref13_SameFeed bs_ref13_SameFeed x) (patS ⟨45, [], [], []⟩ pout_ref13_SameFeed y) = some (out_ref13_SameFeed y) := by kernel_rfl
theorem con_ref13_SameFeed_ok (N : Nat) : Con.ok P0 (con_ref13_SameFeed N) := ⟨⟨Try.f17, Try.func17, by kernel_rfl, by kernel_rfl⟩, fun (x : (Int × Int × (List (Int × List UInt8)) × (List (Int × List UInt8)) × (List (Int × Int × Int × (List UInt8) × Int)) × Int × Int) × Int × Int × (List (Int × List UInt8)) × (List (Int × List UInt8)) × (List (Int × Int × Int × (List UInt8) × Int)) × Int × Int) (r : Bool) (hr : W_ref13_SameFeed N x = some r) =>
  spec2_evT (Γ := G_ref13_SameFeed (W_ref13_SameItems N) (W_ref13_SameEvents N) N) (Λ := L0) (pout := pout_ref13_SameFeed) (kp := kpL []) mixed (orcOf_ok _ (by simp only [List.mem_cons, List.not_mem_nil, or_false, forall_eq_or_imp, forall_eq]; exact ⟨con_ref13_SameItems_ok N, con_ref13_SameEvents_ok N⟩)) Try.func17 (c := bodyOf Try.f17) (by kernel_rfl) (by kernel_rfl) (of_decide_eq_true (by kernel_rfl)) ((F_ref13_SameFeed_eq N x).trans hr) (R_ref13_SameFeed_eq x r)⟩
def as_law18_FeedSays : List AS := [.val (.list .str)]
def bs_law18_FeedSays : List BS := []
def pout_law18_FeedSays : Pat := ⟨[(2, .val .bool)], []⟩
noncomputable def G_law18_FeedSays (w_feed_Say : (Int × Int × (List (Int × List UInt8)) × (List (Int × List UInt8)) × (List (Int × Int × Int × (List UInt8) × Int)) × Int × Int) × List UInt8 → Option (Bool × Int × Int × (List (Int × List UInt8)) × (List (Int × List UInt8)) × (List (Int × Int × Int × (List UInt8) × Int)) × Int × Int)) (w_ref13_Say : (Int × Int × (List (Int × List UInt8)) × (List (Int × List UInt8)) × (List (Int × Int × Int × (List UInt8) × Int)) × Int × Int) × List UInt8 → Option (Bool × Int × Int × (List (Int × List UInt8)) × (List (Int × List UInt8)) × (List (Int × Int × Int × (List UInt8) × Int)) × Int × Int)) (w_ref13_SameFeed : (Int × Int × (List (Int × List UInt8)) × (List (Int × List UInt8)) × (List (Int × Int × Int × (List UInt8) × Int)) × Int × Int) × Int × Int × (List (Int × List UInt8)) × (List (Int × List UInt8)) × (List (Int × Int × Int × (List UInt8) × Int)) × Int × Int → Option (Bool)) (N : Nat) : OrcT := orcOf [con_law18_begun N, conw_feed_Say w_feed_Say, conw_ref13_Say w_ref13_Say, conw_ref13_SameFeed w_ref13_SameFeed]
noncomputable def F_law18_FeedSays (w_feed_Say : (Int × Int × (List (Int × List UInt8)) × (List (Int × List UInt8)) × (List (Int × Int × Int × (List UInt8) × Int)) × Int × Int) × List UInt8 → Option (Bool × Int × Int × (List (Int × List UInt8)) × (List (Int × List UInt8)) × (List (Int × Int × Int × (List UInt8) × Int)) × Int × Int)) (w_ref13_Say : (Int × Int × (List (Int × List UInt8)) × (List (Int × List UInt8)) × (List (Int × Int × Int × (List UInt8) × Int)) × Int × Int) × List UInt8 → Option (Bool × Int × Int × (List (Int × List UInt8)) × (List (Int × List UInt8)) × (List (Int × Int × Int × (List UInt8) × Int)) × Int × Int)) (w_ref13_SameFeed : (Int × Int × (List (Int × List UInt8)) × (List (Int × List UInt8)) × (List (Int × Int × Int × (List UInt8) × Int)) × Int × Int) × Int × Int × (List (Int × List UInt8)) × (List (Int × List UInt8)) × (List (Int × Int × Int × (List UInt8) × Int)) × Int × Int → Option (Bool)) (N : Nat) (x : List (List UInt8)) : Option (Bool) :=
  (evT (G_law18_FeedSays w_feed_Say w_ref13_Say w_ref13_SameFeed N) L0 P0 [(8, .loop [] ⟨[(3, .ptr 600003 0), (4, .ptr 600004 0), (5, .val (.int .i64)), (6, .val (.int .i64))], [(600003, .box 29 (.val (.pair (.int .i64) (.pair (.int .i64) (.pair (.list (.agg (.pair (.int .i64) .str))) (.pair (.list (.agg (.pair (.int .i64) .str))) (.pair (.list (.agg (.pair (.int .i64) (.pair (.int .i64) (.pair (.int .i64) (.pair .str (.int .i64))))))) (.agg (.pair (.int .i64) (.int .i64)))))))))), (600004, .box 29 (.val (.pair (.int .i64) (.pair (.int .i64) (.pair (.list (.agg (.pair (.int .i64) .str))) (.pair (.list (.agg (.pair (.int .i64) .str))) (.pair (.list (.agg (.pair (.int .i64) (.pair (.int .i64) (.pair (.int .i64) (.pair .str (.int .i64))))))) (.agg (.pair (.int .i64) (.int .i64))))))))))]⟩ [(.exit 0, ⟨[(3, .ptr 600003 0), (5, .val (.int .i64))], [(600003, .box 29 (.val (.pair (.int .i64) (.pair (.int .i64) (.pair (.list (.agg (.pair (.int .i64) .str))) (.pair (.list (.agg (.pair (.int .i64) .str))) (.pair (.list (.agg (.pair (.int .i64) (.pair (.int .i64) (.pair (.int .i64) (.pair .str (.int .i64))))))) (.agg (.pair (.int .i64) (.int .i64))))))))))]⟩), (.ret, ⟨[(2, .val .bool)], []⟩)])]
    [(1000014, .reg [(13, [], ⟨[(3, .ptr 600003 0), (4, .ptr 600004 0), (7, .ptr 600007 0), (9, .ptr 600009 0), (64, .val .bool)], [(600003, .box 29 (.val (.pair (.int .i64) (.pair (.int .i64) (.pair (.list (.agg (.pair (.int .i64) .str))) (.pair (.list (.agg (.pair (.int .i64) .str))) (.pair (.list (.agg (.pair (.int .i64) (.pair (.int .i64) (.pair (.int .i64) (.pair .str (.int .i64))))))) (.agg (.pair (.int .i64) (.int .i64)))))))))), (600004, .box 29 (.val (.pair (.int .i64) (.pair (.int .i64) (.pair (.list (.agg (.pair (.int .i64) .str))) (.pair (.list (.agg (.pair (.int .i64) .str))) (.pair (.list (.agg (.pair (.int .i64) (.pair (.int .i64) (.pair (.int .i64) (.pair .str (.int .i64))))))) (.agg (.pair (.int .i64) (.int .i64)))))))))), (600007, .box 29 (.val (.pair (.int .i64) (.pair (.int .i64) (.pair (.list (.agg (.pair (.int .i64) .str))) (.pair (.list (.agg (.pair (.int .i64) .str))) (.pair (.list (.agg (.pair (.int .i64) (.pair (.int .i64) (.pair (.int .i64) (.pair .str (.int .i64))))))) (.agg (.pair (.int .i64) (.int .i64)))))))))), (600009, .box 29 (.val (.pair (.int .i64) (.pair (.int .i64) (.pair (.list (.agg (.pair (.int .i64) .str))) (.pair (.list (.agg (.pair (.int .i64) .str))) (.pair (.list (.agg (.pair (.int .i64) (.pair (.int .i64) (.pair (.int .i64) (.pair .str (.int .i64))))))) (.agg (.pair (.int .i64) (.int .i64))))))))))]⟩)]),
    (18, .cut [] [(.normal, ⟨[(3, .ptr 600003 0), (4, .ptr 600004 0), (5, .val (.int .i64)), (7, .ptr 600007 0), (9, .ptr 600009 0)], [(600003, .box 29 (.val (.pair (.int .i64) (.pair (.int .i64) (.pair (.list (.agg (.pair (.int .i64) .str))) (.pair (.list (.agg (.pair (.int .i64) .str))) (.pair (.list (.agg (.pair (.int .i64) (.pair (.int .i64) (.pair (.int .i64) (.pair .str (.int .i64))))))) (.agg (.pair (.int .i64) (.int .i64)))))))))), (600004, .box 29 (.val (.pair (.int .i64) (.pair (.int .i64) (.pair (.list (.agg (.pair (.int .i64) .str))) (.pair (.list (.agg (.pair (.int .i64) .str))) (.pair (.list (.agg (.pair (.int .i64) (.pair (.int .i64) (.pair (.int .i64) (.pair .str (.int .i64))))))) (.agg (.pair (.int .i64) (.int .i64)))))))))), (600007, .box 29 (.val (.pair (.int .i64) (.pair (.int .i64) (.pair (.list (.agg (.pair (.int .i64) .str))) (.pair (.list (.agg (.pair (.int .i64) .str))) (.pair (.list (.agg (.pair (.int .i64) (.pair (.int .i64) (.pair (.int .i64) (.pair .str (.int .i64))))))) (.agg (.pair (.int .i64) (.int .i64)))))))))), (600009, .box 29 (.val (.pair (.int .i64) (.pair (.int .i64) (.pair (.list (.agg (.pair (.int .i64) .str))) (.pair (.list (.agg (.pair (.int .i64) .str))) (.pair (.list (.agg (.pair (.int .i64) (.pair (.int .i64) (.pair (.int .i64) (.pair .str (.int .i64))))))) (.agg (.pair (.int .i64) (.int .i64))))))))))]⟩)]),
    (1000021, .reg [(8, [], ⟨[(11, .ptr 600011 0), (93, .val .bool)], [(600011, .box 29 (.val (.pair (.int .i64) (.pair (.int .i64) (.pair (.list (.agg (.pair (.int .i64) .str))) (.pair (.list (.agg (.pair (.int .i64) .str))) (.pair (.list (.agg (.pair (.int .i64) (.pair (.int .i64) (.pair (.int .i64) (.pair .str (.int .i64))))))) (.agg (.pair (.int .i64) (.int .i64))))))))))]⟩), (4, [], ⟨[(11, .ptr 600011 0), (97, .val .bool)], [(600011, .box 29 (.val (.pair (.int .i64) (.pair (.int .i64) (.pair (.list (.agg (.pair (.int .i64) .str))) (.pair (.list (.agg (.pair (.int .i64) .str))) (.pair (.list (.agg (.pair (.int .i64) (.pair (.int .i64) (.pair (.int .i64) (.pair .str (.int .i64))))))) (.agg (.pair (.int .i64) (.int .i64))))))))))]⟩)])] N 400 (bodyOf Try.f4) ⟨103, slots 0 (argsOf as_law18_FeedSays bs_law18_FeedSays x), tabU (lbOf as_law18_FeedSays bs_law18_FeedSays x) [], []⟩).elim (kRet 103 pout_law18_FeedSays (kpL []) (lbOf as_law18_FeedSays bs_law18_FeedSays x))
def out_law18_FeedSays (y : Bool) : V × List OK × List OK := (valW .bool y, [], [])
noncomputable def V_law18_FeedSays (w_feed_Say : (Int × Int × (List (Int × List UInt8)) × (List (Int × List UInt8)) × (List (Int × Int × Int × (List UInt8) × Int)) × Int × Int) × List UInt8 → Option (Bool × Int × Int × (List (Int × List UInt8)) × (List (Int × List UInt8)) × (List (Int × Int × Int × (List UInt8) × Int)) × Int × Int)) (w_ref13_Say : (Int × Int × (List (Int × List UInt8)) × (List (Int × List UInt8)) × (List (Int × Int × Int × (List UInt8) × Int)) × Int × Int) × List UInt8 → Option (Bool × Int × Int × (List (Int × List UInt8)) × (List (Int × List UInt8)) × (List (Int × Int × Int × (List UInt8) × Int)) × Int × Int)) (w_ref13_SameFeed : (Int × Int × (List (Int × List UInt8)) × (List (Int × List UInt8)) × (List (Int × Int × Int × (List UInt8) × Int)) × Int × Int) × Int × Int × (List (Int × List UInt8)) × (List (Int × List UInt8)) × (List (Int × Int × Int × (List UInt8) × Int)) × Int × Int → Option (Bool)) (N : Nat) (x : List (List UInt8)) : Option (Bool) :=
  cnd (decide ((20 : Int) < (↑(List.length x) : Int))) (some true) (obind (loopN N (fun (v : Int × Int × (Int × Int × List (Int × List UInt8) × List
    (Int × List UInt8) × List (Int × Int × Int × List UInt8 × Int) × Int × Int) × Int × Int × List (Int × List UInt8) × List (Int × List UInt8) × List
    (Int × Int × Int × List UInt8 × Int) × Int × Int) => cnd (decide (v.2.1 < (↑(List.length x) : Int))) (cnd (decide ((0 : Int) ≤ v.2.1) && decide
    (v.2.1 < (↑(List.length x) : Int))) (cnd (decide ((40 : Int) < (↑(List.length (List.getD x (Int.toNat v.2.1) [])) : Int))) (some (Sum.inr (Sum.inr
    true))) (cnd (decide ((0 : Int) ≤ v.2.1) && decide (v.2.1 < (↑(List.length x) : Int))) (obind (w_feed_Say ((v.2.2.1.1, v.2.2.1.2.1, v.2.2.1.2.2.1,
    v.2.2.1.2.2.2.1, v.2.2.1.2.2.2.2.1, v.2.2.1.2.2.2.2.2.1, v.2.2.1.2.2.2.2.2.2), List.getD x (Int.toNat v.2.1) [])) fun (b : Bool × Int × Int × List
    (Int × List UInt8) × List (Int × List UInt8) × List (Int × Int × Int × List UInt8 × Int) × Int × Int) => cnd (decide ((0 : Int) ≤ v.2.1) && decide
    (v.2.1 < (↑(List.length x) : Int))) (obind (w_ref13_Say ((v.2.2.2.1, v.2.2.2.2.1, v.2.2.2.2.2.1, v.2.2.2.2.2.2.1, v.2.2.2.2.2.2.2.1,
    v.2.2.2.2.2.2.2.2.1, v.2.2.2.2.2.2.2.2.2), List.getD x (Int.toNat v.2.1) [])) fun (b_1 : Bool × Int × Int × List (Int × List UInt8) × List (Int ×
    List UInt8) × List (Int × Int × Int × List UInt8 × Int) × Int × Int) => obind (cnd (!b.1 == b_1.1) (some (true, (v.2.2.1.1, v.2.2.1.2.1,
    v.2.2.1.2.2.1, v.2.2.1.2.2.2.1, v.2.2.1.2.2.2.2.1, v.2.2.1.2.2.2.2.2.1, v.2.2.1.2.2.2.2.2.2), (v.2.2.2.1, v.2.2.2.2.1, v.2.2.2.2.2.1,
    v.2.2.2.2.2.2.1, v.2.2.2.2.2.2.2.1, v.2.2.2.2.2.2.2.2.1, v.2.2.2.2.2.2.2.2.2), (b.2.1, b.2.2.1, b.2.2.2.1, b.2.2.2.2.1, b.2.2.2.2.2.1,
    b.2.2.2.2.2.2.1, b.2.2.2.2.2.2.2), b_1.2.1, b_1.2.2.1, b_1.2.2.2.1, b_1.2.2.2.2.1, b_1.2.2.2.2.2.1, b_1.2.2.2.2.2.2.1, b_1.2.2.2.2.2.2.2)) (cnd
    (decide ((0 : Int) ≤ v.2.1) && decide (v.2.1 < (↑(List.length x) : Int))) (some (!b.1 == decide ((↑(List.length (List.getD x (Int.toNat v.2.1) []))
    : Int) ≤ (12 : Int)), (v.2.2.1.1, v.2.2.1.2.1, v.2.2.1.2.2.1, v.2.2.1.2.2.2.1, v.2.2.1.2.2.2.2.1, v.2.2.1.2.2.2.2.2.1, v.2.2.1.2.2.2.2.2.2),
    (v.2.2.2.1, v.2.2.2.2.1, v.2.2.2.2.2.1, v.2.2.2.2.2.2.1, v.2.2.2.2.2.2.2.1, v.2.2.2.2.2.2.2.2.1, v.2.2.2.2.2.2.2.2.2), (b.2.1, b.2.2.1, b.2.2.2.1,
    b.2.2.2.2.1, b.2.2.2.2.2.1, b.2.2.2.2.2.2.1, b.2.2.2.2.2.2.2), b_1.2.1, b_1.2.2.1, b_1.2.2.2.1, b_1.2.2.2.2.1, b_1.2.2.2.2.2.1, b_1.2.2.2.2.2.2.1,
    b_1.2.2.2.2.2.2.2)) none)) fun (b_2 : Bool × (Int × Int × List (Int × List UInt8) × List (Int × List UInt8) × List (Int × Int × Int × List UInt8 ×
    Int) × Int × Int) × (Int × Int × List (Int × List UInt8) × List (Int × List UInt8) × List (Int × Int × Int × List UInt8 × Int) × Int × Int) × (Int ×
    Int × List (Int × List UInt8) × List (Int × List UInt8) × List (Int × Int × Int × List UInt8 × Int) × Int × Int) × Int × Int × List (Int × List
    UInt8) × List (Int × List UInt8) × List (Int × Int × Int × List UInt8 × Int) × Int × Int) => cnd b_2.1 (some (Sum.inr (Sum.inr false))) (obind
    (w_ref13_SameFeed ((b_2.2.2.2.1.1, b_2.2.2.2.1.2.1, b_2.2.2.2.1.2.2.1, b_2.2.2.2.1.2.2.2.1, b_2.2.2.2.1.2.2.2.2.1, b_2.2.2.2.1.2.2.2.2.2.1,
    b_2.2.2.2.1.2.2.2.2.2.2), b_2.2.2.2.2.1, b_2.2.2.2.2.2.1, b_2.2.2.2.2.2.2.1, b_2.2.2.2.2.2.2.2.1, b_2.2.2.2.2.2.2.2.2.1, b_2.2.2.2.2.2.2.2.2.2.1,
    b_2.2.2.2.2.2.2.2.2.2.2)) fun (b_3 : Bool) => cnd (!b_3) (some (Sum.inr (Sum.inr false))) (obind (cnd b.1 (some (wr IntKind.i64 (v.1 + (1 : Int)),
    (b_2.2.1.1, b_2.2.1.2.1, b_2.2.1.2.2.1, b_2.2.1.2.2.2.1, b_2.2.1.2.2.2.2.1, b_2.2.1.2.2.2.2.2.1, b_2.2.1.2.2.2.2.2.2), (b_2.2.2.1.1, b_2.2.2.1.2.1,
    b_2.2.2.1.2.2.1, b_2.2.2.1.2.2.2.1, b_2.2.2.1.2.2.2.2.1, b_2.2.2.1.2.2.2.2.2.1, b_2.2.2.1.2.2.2.2.2.2), (b_2.2.2.2.1.1, b_2.2.2.2.1.2.1,
    b_2.2.2.2.1.2.2.1, b_2.2.2.2.1.2.2.2.1, b_2.2.2.2.1.2.2.2.2.1, b_2.2.2.2.1.2.2.2.2.2.1, b_2.2.2.2.1.2.2.2.2.2.2), b_2.2.2.2.2.1, b_2.2.2.2.2.2.1,
    b_2.2.2.2.2.2.2.1, b_2.2.2.2.2.2.2.2.1, b_2.2.2.2.2.2.2.2.2.1, b_2.2.2.2.2.2.2.2.2.2.1, b_2.2.2.2.2.2.2.2.2.2.2)) (some (v.1, (b_2.2.1.1,
    b_2.2.1.2.1, b_2.2.1.2.2.1, b_2.2.1.2.2.2.1, b_2.2.1.2.2.2.2.1, b_2.2.1.2.2.2.2.2.1, b_2.2.1.2.2.2.2.2.2), (b_2.2.2.1.1, b_2.2.2.1.2.1,
    b_2.2.2.1.2.2.1, b_2.2.2.1.2.2.2.1, b_2.2.2.1.2.2.2.2.1, b_2.2.2.1.2.2.2.2.2.1, b_2.2.2.1.2.2.2.2.2.2), (b_2.2.2.2.1.1, b_2.2.2.2.1.2.1,
    b_2.2.2.2.1.2.2.1, b_2.2.2.2.1.2.2.2.1, b_2.2.2.2.1.2.2.2.2.1, b_2.2.2.2.1.2.2.2.2.2.1, b_2.2.2.2.1.2.2.2.2.2.2), b_2.2.2.2.2.1, b_2.2.2.2.2.2.1,
    b_2.2.2.2.2.2.2.1, b_2.2.2.2.2.2.2.2.1, b_2.2.2.2.2.2.2.2.2.1, b_2.2.2.2.2.2.2.2.2.2.1, b_2.2.2.2.2.2.2.2.2.2.2))) fun (b : Int × (Int × Int × List
    (Int × List UInt8) × List (Int × List UInt8) × List (Int × Int × Int × List UInt8 × Int) × Int × Int) × (Int × Int × List (Int × List UInt8) × List
    (Int × List UInt8) × List (Int × Int × Int × List UInt8 × Int) × Int × Int) × (Int × Int × List (Int × List UInt8) × List (Int × List UInt8) × List
    (Int × Int × Int × List UInt8 × Int) × Int × Int) × Int × Int × List (Int × List UInt8) × List (Int × List UInt8) × List (Int × Int × Int × List
    UInt8 × Int) × Int × Int) => some (Sum.inl (b.1, wr IntKind.i64 (v.2.1 + (1 : Int)), (b.2.2.2.1.1, b.2.2.2.1.2.1, b.2.2.2.1.2.2.1,
    b.2.2.2.1.2.2.2.1, b.2.2.2.1.2.2.2.2.1, b.2.2.2.1.2.2.2.2.2.1, b.2.2.2.1.2.2.2.2.2.2), b.2.2.2.2.1, b.2.2.2.2.2.1, b.2.2.2.2.2.2.1,
    b.2.2.2.2.2.2.2.1, b.2.2.2.2.2.2.2.2.1, b.2.2.2.2.2.2.2.2.2.1, b.2.2.2.2.2.2.2.2.2.2))))) none) none)) none) (some (Sum.inr (Sum.inl (v.1,
    v.2.2.1.1, v.2.2.1.2.1, v.2.2.1.2.2.1, v.2.2.1.2.2.2.1, v.2.2.1.2.2.2.2.1, v.2.2.1.2.2.2.2.2.1, v.2.2.1.2.2.2.2.2.2))))) ((0 : Int), (0 : Int), ((0
    : Int), (0 : Int), [], [], [], (0 : Int), (0 : Int)), (0 : Int), (0 : Int), [], [], [], (0 : Int), (0 : Int))) fun (b : Int × Int × Int × List (Int
    × List UInt8) × List (Int × List UInt8) × List (Int × Int × Int × List UInt8 × Int) × Int × Int ⊕ Bool) => selim (fun (b : Int × Int × Int × List
    (Int × List UInt8) × List (Int × List UInt8) × List (Int × Int × Int × List UInt8 × Int) × Int × Int) => obind (w_feed_Say (((1000000 : Int),
    (999999 : Int), [], [], [], (0 : Int), (0 : Int)), [(120 : UInt8)])) fun (b_1 : Bool × Int × Int × List (Int × List UInt8) × List (Int × List UInt8)
    × List (Int × Int × Int × List UInt8 × Int) × Int × Int) => obind (w_feed_Say ((b_1.2.1, b_1.2.2.1, b_1.2.2.2.1, b_1.2.2.2.2.1, b_1.2.2.2.2.2.1,
    b_1.2.2.2.2.2.2.1, b_1.2.2.2.2.2.2.2), [(120 : UInt8)])) fun (b_2 : Bool × Int × Int × List (Int × List UInt8) × List (Int × List UInt8) × List (Int
    × Int × Int × List UInt8 × Int) × Int × Int) => obind (cnd (decide ((↑(List.length b.2.2.2.2.2.1) : Int) = b.1)) (some (b_1.1, b_1.2.1, b_1.2.2.1,
    b_1.2.2.2.1, b_1.2.2.2.2.1, b_1.2.2.2.2.2.1, b_1.2.2.2.2.2.2.1, b_1.2.2.2.2.2.2.2)) (some (false, b_1.2.1, b_1.2.2.1, b_1.2.2.2.1, b_1.2.2.2.2.1,
    b_1.2.2.2.2.2.1, b_1.2.2.2.2.2.2.1, b_1.2.2.2.2.2.2.2))) fun (b : Bool × Int × Int × List (Int × List UInt8) × List (Int × List UInt8) × List (Int ×
    Int × Int × List UInt8 × Int) × Int × Int) => obind (cnd b.1 (some (!b_2.1, b.2.1, b.2.2.1, b.2.2.2.1, b.2.2.2.2.1, b.2.2.2.2.2.1, b.2.2.2.2.2.2.1,
    b.2.2.2.2.2.2.2)) (some (false, b.2.1, b.2.2.1, b.2.2.2.1, b.2.2.2.2.1, b.2.2.2.2.2.1, b.2.2.2.2.2.2.1, b.2.2.2.2.2.2.2))) fun (b : Bool × Int × Int
    × List (Int × List UInt8) × List (Int × List UInt8) × List (Int × Int × Int × List UInt8 × Int) × Int × Int) => cnd b.1 (some (decide (b.2.1 =
    (1000001 : Int)))) (some false)) (fun (c : Bool) => some c) b)
theorem FV_law18_FeedSays_eq (w_feed_Say : (Int × Int × (List (Int × List UInt8)) × (List (Int × List UInt8)) × (List (Int × Int × Int × (List UInt8) × Int)) × Int × Int) × List UInt8 → Option (Bool × Int × Int × (List (Int × List UInt8)) × (List (Int × List UInt8)) × (List (Int × Int × Int × (List UInt8) × Int)) × Int × Int)) (w_ref13_Say : (Int × Int × (List (Int × List UInt8)) × (List (Int × List UInt8)) × (List (Int × Int × Int × (List UInt8) × Int)) × Int × Int) × List UInt8 → Option (Bool × Int × Int × (List (Int × List UInt8)) × (List (Int × List UInt8)) × (List (Int × Int × Int × (List UInt8) × Int)) × Int × Int)) (w_ref13_SameFeed : (Int × Int × (List (Int × List UInt8)) × (List (Int × List UInt8)) × (List (Int × Int × Int × (List UInt8) × Int)) × Int × Int) × Int × Int × (List (Int × List UInt8)) × (List (Int × List UInt8)) × (List (Int × Int × Int × (List UInt8) × Int)) × Int × Int → Option (Bool)) (N : Nat) (x : List (List UInt8)) : F_law18_FeedSays w_feed_Say w_ref13_Say w_ref13_SameFeed N x = V_law18_FeedSays w_feed_Say w_ref13_Say w_ref13_SameFeed N x := by kernel_rfl
noncomputable def W_law18_FeedSays (N : Nat) (x : List (List UInt8)) : Option (Bool) :=
  cnd (decide ((20 : Int) < (↑(List.length x) : Int))) (some true) (obind (loopN N (fun (v : Int × Int × (Int × Int × List (Int × List UInt8) × List
    (Int × List UInt8) × List (Int × Int × Int × List UInt8 × Int) × Int × Int) × Int × Int × List (Int × List UInt8) × List (Int × List UInt8) × List
    (Int × Int × Int × List UInt8 × Int) × Int × Int) => cnd (decide (v.2.1 < (↑(List.length x) : Int))) (cnd (decide ((0 : Int) ≤ v.2.1) && decide
    (v.2.1 < (↑(List.length x) : Int))) (cnd (decide ((40 : Int) < (↑(List.length (List.getD x (Int.toNat v.2.1) [])) : Int))) (some (Sum.inr (Sum.inr
    true))) (cnd (decide ((0 : Int) ≤ v.2.1) && decide (v.2.1 < (↑(List.length x) : Int))) (obind (W_feed_Say N ((v.2.2.1.1, v.2.2.1.2.1, v.2.2.1.2.2.1,
    v.2.2.1.2.2.2.1, v.2.2.1.2.2.2.2.1, v.2.2.1.2.2.2.2.2.1, v.2.2.1.2.2.2.2.2.2), List.getD x (Int.toNat v.2.1) [])) fun (b : Bool × Int × Int × List
    (Int × List UInt8) × List (Int × List UInt8) × List (Int × Int × Int × List UInt8 × Int) × Int × Int) => cnd (decide ((0 : Int) ≤ v.2.1) && decide
    (v.2.1 < (↑(List.length x) : Int))) (obind (W_ref13_Say N ((v.2.2.2.1, v.2.2.2.2.1, v.2.2.2.2.2.1, v.2.2.2.2.2.2.1, v.2.2.2.2.2.2.2.1,
    v.2.2.2.2.2.2.2.2.1, v.2.2.2.2.2.2.2.2.2), List.getD x (Int.toNat v.2.1) [])) fun (b_1 : Bool × Int × Int × List (Int × List UInt8) × List (Int ×
    List UInt8) × List (Int × Int × Int × List UInt8 × Int) × Int × Int) => obind (cnd (!b.1 == b_1.1) (some (true, (v.2.2.1.1, v.2.2.1.2.1,
    v.2.2.1.2.2.1, v.2.2.1.2.2.2.1, v.2.2.1.2.2.2.2.1, v.2.2.1.2.2.2.2.2.1, v.2.2.1.2.2.2.2.2.2), (v.2.2.2.1, v.2.2.2.2.1, v.2.2.2.2.2.1,
    v.2.2.2.2.2.2.1, v.2.2.2.2.2.2.2.1, v.2.2.2.2.2.2.2.2.1, v.2.2.2.2.2.2.2.2.2), (b.2.1, b.2.2.1, b.2.2.2.1, b.2.2.2.2.1, b.2.2.2.2.2.1,
    b.2.2.2.2.2.2.1, b.2.2.2.2.2.2.2), b_1.2.1, b_1.2.2.1, b_1.2.2.2.1, b_1.2.2.2.2.1, b_1.2.2.2.2.2.1, b_1.2.2.2.2.2.2.1, b_1.2.2.2.2.2.2.2)) (cnd
    (decide ((0 : Int) ≤ v.2.1) && decide (v.2.1 < (↑(List.length x) : Int))) (some (!b.1 == decide ((↑(List.length (List.getD x (Int.toNat v.2.1) []))
    : Int) ≤ (12 : Int)), (v.2.2.1.1, v.2.2.1.2.1, v.2.2.1.2.2.1, v.2.2.1.2.2.2.1, v.2.2.1.2.2.2.2.1, v.2.2.1.2.2.2.2.2.1, v.2.2.1.2.2.2.2.2.2),
    (v.2.2.2.1, v.2.2.2.2.1, v.2.2.2.2.2.1, v.2.2.2.2.2.2.1, v.2.2.2.2.2.2.2.1, v.2.2.2.2.2.2.2.2.1, v.2.2.2.2.2.2.2.2.2), (b.2.1, b.2.2.1, b.2.2.2.1,
    b.2.2.2.2.1, b.2.2.2.2.2.1, b.2.2.2.2.2.2.1, b.2.2.2.2.2.2.2), b_1.2.1, b_1.2.2.1, b_1.2.2.2.1, b_1.2.2.2.2.1, b_1.2.2.2.2.2.1, b_1.2.2.2.2.2.2.1,
    b_1.2.2.2.2.2.2.2)) none)) fun (b_2 : Bool × (Int × Int × List (Int × List UInt8) × List (Int × List UInt8) × List (Int × Int × Int × List UInt8 ×
    Int) × Int × Int) × (Int × Int × List (Int × List UInt8) × List (Int × List UInt8) × List (Int × Int × Int × List UInt8 × Int) × Int × Int) × (Int ×
    Int × List (Int × List UInt8) × List (Int × List UInt8) × List (Int × Int × Int × List UInt8 × Int) × Int × Int) × Int × Int × List (Int × List
    UInt8) × List (Int × List UInt8) × List (Int × Int × Int × List UInt8 × Int) × Int × Int) => cnd b_2.1 (some (Sum.inr (Sum.inr false))) (obind
    (W_ref13_SameFeed N ((b_2.2.2.2.1.1, b_2.2.2.2.1.2.1, b_2.2.2.2.1.2.2.1, b_2.2.2.2.1.2.2.2.1, b_2.2.2.2.1.2.2.2.2.1, b_2.2.2.2.1.2.2.2.2.2.1,
    b_2.2.2.2.1.2.2.2.2.2.2), b_2.2.2.2.2.1, b_2.2.2.2.2.2.1, b_2.2.2.2.2.2.2.1, b_2.2.2.2.2.2.2.2.1, b_2.2.2.2.2.2.2.2.2.1, b_2.2.2.2.2.2.2.2.2.2.1,
    b_2.2.2.2.2.2.2.2.2.2.2)) fun (b_3 : Bool) => cnd (!b_3) (some (Sum.inr (Sum.inr false))) (obind (cnd b.1 (some (wr IntKind.i64 (v.1 + (1 : Int)),
    (b_2.2.1.1, b_2.2.1.2.1, b_2.2.1.2.2.1, b_2.2.1.2.2.2.1, b_2.2.1.2.2.2.2.1, b_2.2.1.2.2.2.2.2.1, b_2.2.1.2.2.2.2.2.2), (b_2.2.2.1.1, b_2.2.2.1.2.1,
    b_2.2.2.1.2.2.1, b_2.2.2.1.2.2.2.1, b_2.2.2.1.2.2.2.2.1, b_2.2.2.1.2.2.2.2.2.1, b_2.2.2.1.2.2.2.2.2.2), (b_2.2.2.2.1.1, b_2.2.2.2.1.2.1,
    b_2.2.2.2.1.2.2.1, b_2.2.2.2.1.2.2.2.1, b_2.2.2.2.1.2.2.2.2.1, b_2.2.2.2.1.2.2.2.2.2.1, b_2.2.2.2.1.2.2.2.2.2.2), b_2.2.2.2.2.1, b_2.2.2.2.2.2.1,
    b_2.2.2.2.2.2.2.1, b_2.2.2.2.2.2.2.2.1, b_2.2.2.2.2.2.2.2.2.1, b_2.2.2.2.2.2.2.2.2.2.1, b_2.2.2.2.2.2.2.2.2.2.2)) (some (v.1, (b_2.2.1.1,
    b_2.2.1.2.1, b_2.2.1.2.2.1, b_2.2.1.2.2.2.1, b_2.2.1.2.2.2.2.1, b_2.2.1.2.2.2.2.2.1, b_2.2.1.2.2.2.2.2.2), (b_2.2.2.1.1, b_2.2.2.1.2.1,
    b_2.2.2.1.2.2.1, b_2.2.2.1.2.2.2.1, b_2.2.2.1.2.2.2.2.1, b_2.2.2.1.2.2.2.2.2.1, b_2.2.2.1.2.2.2.2.2.2), (b_2.2.2.2.1.1, b_2.2.2.2.1.2.1,
    b_2.2.2.2.1.2.2.1, b_2.2.2.2.1.2.2.2.1, b_2.2.2.2.1.2.2.2.2.1, b_2.2.2.2.1.2.2.2.2.2.1, b_2.2.2.2.1.2.2.2.2.2.2), b_2.2.2.2.2.1, b_2.2.2.2.2.2.1,
    b_2.2.2.2.2.2.2.1, b_2.2.2.2.2.2.2.2.1, b_2.2.2.2.2.2.2.2.2.1, b_2.2.2.2.2.2.2.2.2.2.1, b_2.2.2.2.2.2.2.2.2.2.2))) fun (b : Int × (Int × Int × List
    (Int × List UInt8) × List (Int × List UInt8) × List (Int × Int × Int × List UInt8 × Int) × Int × Int) × (Int × Int × List (Int × List UInt8) × List
    (Int × List UInt8) × List (Int × Int × Int × List UInt8 × Int) × Int × Int) × (Int × Int × List (Int × List UInt8) × List (Int × List UInt8) × List
    (Int × Int × Int × List UInt8 × Int) × Int × Int) × Int × Int × List (Int × List UInt8) × List (Int × List UInt8) × List (Int × Int × Int × List
    UInt8 × Int) × Int × Int) => some (Sum.inl (b.1, wr IntKind.i64 (v.2.1 + (1 : Int)), (b.2.2.2.1.1, b.2.2.2.1.2.1, b.2.2.2.1.2.2.1,
    b.2.2.2.1.2.2.2.1, b.2.2.2.1.2.2.2.2.1, b.2.2.2.1.2.2.2.2.2.1, b.2.2.2.1.2.2.2.2.2.2), b.2.2.2.2.1, b.2.2.2.2.2.1, b.2.2.2.2.2.2.1,
    b.2.2.2.2.2.2.2.1, b.2.2.2.2.2.2.2.2.1, b.2.2.2.2.2.2.2.2.2.1, b.2.2.2.2.2.2.2.2.2.2))))) none) none)) none) (some (Sum.inr (Sum.inl (v.1,
    v.2.2.1.1, v.2.2.1.2.1, v.2.2.1.2.2.1, v.2.2.1.2.2.2.1, v.2.2.1.2.2.2.2.1, v.2.2.1.2.2.2.2.2.1, v.2.2.1.2.2.2.2.2.2))))) ((0 : Int), (0 : Int), ((0
    : Int), (0 : Int), [], [], [], (0 : Int), (0 : Int)), (0 : Int), (0 : Int), [], [], [], (0 : Int), (0 : Int))) fun (b : Int × Int × Int × List (Int
    × List UInt8) × List (Int × List UInt8) × List (Int × Int × Int × List UInt8 × Int) × Int × Int ⊕ Bool) => selim (fun (b : Int × Int × Int × List
    (Int × List UInt8) × List (Int × List UInt8) × List (Int × Int × Int × List UInt8 × Int) × Int × Int) => obind (W_feed_Say N (((1000000 : Int),
    (999999 : Int), [], [], [], (0 : Int), (0 : Int)), [(120 : UInt8)])) fun (b_1 : Bool × Int × Int × List (Int × List UInt8) × List (Int × List UInt8)
    × List (Int × Int × Int × List UInt8 × Int) × Int × Int) => obind (W_feed_Say N ((b_1.2.1, b_1.2.2.1, b_1.2.2.2.1, b_1.2.2.2.2.1, b_1.2.2.2.2.2.1,
    b_1.2.2.2.2.2.2.1, b_1.2.2.2.2.2.2.2), [(120 : UInt8)])) fun (b_2 : Bool × Int × Int × List (Int × List UInt8) × List (Int × List UInt8) × List (Int
    × Int × Int × List UInt8 × Int) × Int × Int) => obind (cnd (decide ((↑(List.length b.2.2.2.2.2.1) : Int) = b.1)) (some (b_1.1, b_1.2.1, b_1.2.2.1,
    b_1.2.2.2.1, b_1.2.2.2.2.1, b_1.2.2.2.2.2.1, b_1.2.2.2.2.2.2.1, b_1.2.2.2.2.2.2.2)) (some (false, b_1.2.1, b_1.2.2.1, b_1.2.2.2.1, b_1.2.2.2.2.1,
    b_1.2.2.2.2.2.1, b_1.2.2.2.2.2.2.1, b_1.2.2.2.2.2.2.2))) fun (b : Bool × Int × Int × List (Int × List UInt8) × List (Int × List UInt8) × List (Int ×
    Int × Int × List UInt8 × Int) × Int × Int) => obind (cnd b.1 (some (!b_2.1, b.2.1, b.2.2.1, b.2.2.2.1, b.2.2.2.2.1, b.2.2.2.2.2.1, b.2.2.2.2.2.2.1,
    b.2.2.2.2.2.2.2)) (some (false, b.2.1, b.2.2.1, b.2.2.2.1, b.2.2.2.2.1, b.2.2.2.2.2.1, b.2.2.2.2.2.2.1, b.2.2.2.2.2.2.2))) fun (b : Bool × Int × Int
    × List (Int × List UInt8) × List (Int × List UInt8) × List (Int × Int × Int × List UInt8 × Int) × Int × Int) => cnd b.1 (some (decide (b.2.1 =
    (1000001 : Int)))) (some false)) (fun (c : Bool) => some c) b)
theorem F_law18_FeedSays_eq (N : Nat) (x : List (List UInt8)) : F_law18_FeedSays (W_feed_Say N) (W_ref13_Say N) (W_ref13_SameFeed N) N x = W_law18_FeedSays N x := (FV_law18_FeedSays_eq (W_feed_Say N) (W_ref13_Say N) (W_ref13_SameFeed N) N x).trans (by kernel_rfl)
noncomputable def conw_law18_FeedSays (w : List (List UInt8) → Option (Bool)) : Con := ⟨4, as_law18_FeedSays, bs_law18_FeedSays, Bool, w, out_law18_FeedSays⟩
noncomputable def con_law18_FeedSays (N : Nat) : Con := conw_law18_FeedSays (W_law18_FeedSays N)
theorem R_law18_FeedSays_eq (x : List (List UInt8)) (y : Bool) : retOf2 P0 Try.f4 (kpL []) (lbOf as_law18_FeedSays bs_law18_FeedSays x) (patS ⟨103, [], [], []⟩ pout_law18_FeedSays y) = some (out_law18_FeedSays y) := by kernel_rfl
theorem con_law18_FeedSays_ok (N : Nat) : Con.ok P0 (con_law18_FeedSays N) := ⟨⟨Try.f4, Try.func4, by kernel_rfl, by kernel_rfl⟩, fun (x : List (List UInt8)) (r : Bool) (hr : W_law18_FeedSays N x = some r) =>
  spec2_evT (Γ := G_law18_FeedSays (W_feed_Say N) (W_ref13_Say N) (W_ref13_SameFeed N) N) (Λ := L0) (pout := pout_law18_FeedSays) (kp := kpL []) mixed (orcOf_ok _ (by simp only [List.mem_cons, List.not_mem_nil, or_false, forall_eq_or_imp, forall_eq]; exact ⟨con_law18_begun_ok N, con_feed_Say_ok N, con_ref13_Say_ok N, con_ref13_SameFeed_ok N⟩)) Try.func4 (c := bodyOf Try.f4) (by kernel_rfl) (by kernel_rfl) (of_decide_eq_true (by kernel_rfl)) ((F_law18_FeedSays_eq N x).trans hr) (R_law18_FeedSays_eq x r)⟩
/-! What is reckoned. -/
-- PURE
theorem wr_m {z : Int} (h : -140737488355328 ≤ z) (h2 : z ≤ 140737488355328) : wr .i64 z = z := wr_i64 (by omega) (by omega)
abbrev It := Int × List UInt8
abbrev iD : It := ((0 : Int), ([] : List UInt8))
theorem Clone_i (N : Nat) (l : List It) (hl : l.length ≤ 1000) : W_slices_Clone_api_Item N l = some l := by
  unfold W_slices_Clone_api_Item
  rw [dT (by omega), cnd_t]
/-- What a ring comes to with one more behind it. -/
def addR (l : List It) (e : It) : List It := if 6 ≤ l.length then (l ++ [e]).drop 1 else l ++ [e]
theorem Add_eq (N : Nat) (l : List It) (e : It) (hl : l.length ≤ 6) (hs : ∀ h : 0 < l.length, (l.getD (l.length - 1) iD).1 < e.1) : W_ring_Add N (l, e.1, e.2) = some (addR l e) := by
  unfold W_ring_Add
  simp only [Clone_i N l (by omega), obind_s]
  have tail : cnd (decide ((List.length l + List.length [(e.1, e.2)]) * (24 : Nat) ≤ (140737488355328 : Nat)))
          (cnd (decide ((6 : Int) < (↑(List.length (l ++ [(e.1, e.2)])) : Int)))
            (obind
              (W_slices_Delete_api_Item N ((0 : Int), (1 : Int), l ++ [(e.1, e.2)]))
              fun (b : List (Int × List UInt8)) => some b)
            (some (l ++ [(e.1, e.2)])))
          none = some (addR l e) := by
    rw [dT (by simp only [List.length_singleton]; omega), cnd_t]
    unfold addR
    by_cases h6 : 6 ≤ l.length
    · rw [dT (by simp only [List.length_append, List.length_singleton]; omega), cnd_t, if_pos h6]
      unfold W_slices_Delete_api_Item
      simp only
      rw [dT (by omega), dT (by simp only [List.length_append, List.length_singleton]; omega), dT (by omega), dT (by simp only [List.length_append, List.length_singleton]; omega), dT (by simp only [List.length_append, List.length_singleton]; omega)]
      simp only [Bool.and_self, cnd_t, obind_s]
      rfl
    · rw [dF (by simp only [List.length_append, List.length_singleton]; omega), cnd_f, if_neg h6]
  by_cases h0 : (0 : Int) < l.length
  · have w1 : wr .i64 ((l.length : Int) - 1) = ((l.length - 1 : Nat) : Int) := by rw [wr_m (by omega) (by omega)]; omega
    have h1 := hs (by omega)
    rw [dT h0, cnd_t, w1, dT (by omega), dT (by omega), Bool.and_self, cnd_t, Int.toNat_natCast, dF (by show ¬ e.1 ≤ (l.getD (l.length - 1) iD).1; omega), cnd_f]
    exact tail
  · rw [dF h0, cnd_f]
    exact tail
theorem addR_len (l : List It) (e : It) (hl : l.length ≤ 6) : (addR l e).length = min (l.length + 1) 6 := by
  unfold addR
  split <;> simp <;> omega
theorem addR_get (l : List It) (e : It) (hl : l.length ≤ 6) (j : Nat) (hj : j < (addR l e).length) : (addR l e).getD j iD = if j + 1 = (addR l e).length then e else l.getD (j + (l.length + 1 - (addR l e).length)) iD := by
  have h := addR_len l e hl
  rw [h] at hj ⊢
  unfold addR
  split
  · rename_i h6
    have h7 : l.length = 6 := by omega
    rw [List.getD_eq_getElem?_getD, List.getElem?_drop, h7]
    by_cases c : j + 1 = 6
    · rw [if_pos (by omega), List.getElem?_append_right (by omega), show 1 + j - l.length = 0 by omega]; rfl
    · rw [if_neg (by omega), List.getElem?_append_left (by omega), List.getD_eq_getElem?_getD]; congr 2; omega
  · rename_i h6
    rw [List.getD_eq_getElem?_getD]
    by_cases c : j = l.length
    · rw [if_pos (by omega), List.getElem?_append_right (by omega), c, Nat.sub_self]; rfl
    · rw [if_neg (by omega), List.getElem?_append_left (by omega), List.getD_eq_getElem?_getD]; congr 2; omega
theorem loopG {σ ρ : Type} {f : σ → Option (σ ⊕ ρ)} (I : Nat → σ → Prop) (B : Nat) (J : ρ → Prop) (hb : ∀ k x, I k x → k ≤ B) (hs : ∀ k x, I k x → (∃ y, f x = some (.inl y) ∧ I (k + 1) y) ∨ ∃ r, f x = some (.inr r) ∧ J r) :
    ∀ (M k : Nat) (x : σ), I k x → B < M + k → ∃ r, loopN M f x = some r ∧ J r
  | 0, k, x, h, hm => by have := hb k x h; omega
  | M + 1, k, x, h, hm => by
    rcases hs k x h with ⟨y, h1, h2⟩ | ⟨r, h1, h2⟩
    · obtain ⟨r, h4, h5⟩ := loopG I B J hb hs M (k + 1) y h2 (by omega)
      exact ⟨r, by simp only [loopN, h1]; exact h4, h5⟩
    · exact ⟨r, by simp only [loopN, h1], h2⟩
theorem loop_G {σ ρ β : Type} {f : σ → Option (σ ⊕ ρ)} {g : ρ → Option β} {x : σ} {N : Nat} (Q : Option β → Prop) (I : Nat → σ → Prop) (B : Nat) (J : ρ → Prop) (hx : I 0 x) (hm : B < N) (hk : ∀ r, J r → Q (g r)) (hb : ∀ k x, I k x → k ≤ B)
    (hs : ∀ k x, I k x → (∃ y, f x = some (.inl y) ∧ I (k + 1) y) ∨ ∃ r, f x = some (.inr r) ∧ J r) : Q (obind (loopN N f x) g) := by
  obtain ⟨r, h1, h2⟩ := loopG I B J hb hs N 0 x hx (by omega)
  rw [h1]; exact hk r h2
abbrev Ev := Int × Int × Int × List UInt8 × Int
theorem cnd_T {α : Type} {p : Prop} {i : Decidable p} {x y : α} (h : p) : cnd (@decide p i) x y = x := by rw [decide_eq_true h]; rfl
theorem SameI_self (N : Nat) (l : List It) (hN : l.length < N) (hl : l.length ≤ 1000) : W_ref13_SameItems N (l, l) = some true := by
  unfold W_ref13_SameItems
  simp only
  rw [dF (by simp), cnd_f]
  refine obind_loop (fun v : Int => 0 ≤ v ∧ v ≤ l.length) (fun v => l.length - v.toNat) (fun r : PUnit ⊕ Bool => r = .inl ()) ⟨by simp, by simp⟩ (by simp; omega) ?_ ?_
  · rintro r rfl; rw [selim_l]
  · rintro v ⟨g1, g2⟩
    by_cases h : v < l.length
    case neg => right; rw [dF h, cnd_f]; exact ⟨_, rfl, rfl⟩
    left
    rw [dT h, cnd_t, dT g1, Bool.and_self, cnd_t, cnd_t, dT trivial, BEq.rfl, Bool.and_self, Bool.not_true, cnd_f, wr_m (by omega) (by omega)]
    exact ⟨_, rfl, ⟨by omega, by omega⟩, by omega⟩
theorem SameE_self (N : Nat) (a : List Ev) (hN : a.length < N) (hl : a.length ≤ 1000) : W_ref13_SameEvents N (a, a) = some true := by
  unfold W_ref13_SameEvents
  simp only
  rw [dF (by simp), cnd_f]
  refine obind_loop (fun v : Int => 0 ≤ v ∧ v ≤ a.length) (fun v => a.length - v.toNat) (fun r : PUnit ⊕ Bool => r = .inl ()) ⟨by simp, by simp⟩ (by simp; omega) ?_ ?_
  · rintro r rfl; rw [selim_l]
  · rintro v ⟨g1, g2⟩
    by_cases h : v < a.length
    case neg => right; rw [dF h, cnd_f]; exact ⟨_, rfl, rfl⟩
    left
    rw [dT h, cnd_t, dT g1, Bool.and_self, cnd_t, cnd_t]
    simp only [decide_true, beq_self_eq_true, Bool.and_self, Bool.not_true, cnd_f]
    rw [wr_m (by omega) (by omega)]
    exact ⟨_, rfl, ⟨by omega, by omega⟩, by omega⟩
theorem Clone_ev (N : Nat) (a : List Ev) (hl : a.length ≤ 1000) : W_slices_Clone_api_Event N a = some a := by
  unfold W_slices_Clone_api_Event
  rw [dT (by omega), cnd_t]
theorem lTell (N : Nat) (a : List Ev) (n : Int) (t : List UInt8) (hl : a.length ≤ 1000) : W_log_Tell N (a, n, t) = some (a ++ [(1, n, n, t, 0)]) := by
  unfold W_log_Tell
  simp only
  rw [Clone_ev N a hl, obind_s, cnd_T (by simp only [List.length_cons, List.length_nil]; omega)]
theorem rTell (N : Nat) (a : List Ev) (n : Int) (t : List UInt8) (hl : a.length ≤ 1000) : W_ref13_Tell N (a, n, t) = some (a ++ [(1, n, n, t, 0)]) := by
  unfold W_ref13_Tell
  simp only
  rw [cnd_T (by omega), cnd_T (by simp only [List.length_cons, List.length_nil]; omega)]
theorem cut1 (l : List It) (h : 1 ≤ l.length) : List.drop ((0 : Nat) + (cutT (0 : Nat) l.length l.length (some (1 : Int)) none).2.1) (List.take ((0 : Nat) + (cutT (0 : Nat) l.length l.length (some (1 : Int)) none).2.1 + ((cutT (0 : Nat) l.length l.length (some (1 : Int)) none).2.2 - (cutT (0 : Nat) l.length l.length (some (1 : Int)) none).2.1)) l) = l.drop 1 := by
  simp only [cutT, Option.getD_some, Option.getD_none]
  have e : (1 : Int).toNat = 1 := rfl
  rw [e, show 0 + 1 + (l.length - 1) = l.length by omega, List.take_length]
theorem rAdd_eq (N : Nat) (l : List It) (e : It) (hl : l.length ≤ 6) (hs : ∀ h : 0 < l.length, (l.getD (l.length - 1) iD).1 < e.1) : W_ref13_AddRing N (l, e.1, e.2) = some (addR l e) := by
  unfold W_ref13_AddRing
  simp only [Option.getD_some]
  rw [cnd_T (by omega)]
  have tail : cnd (decide ((List.length l + List.length [(e.1, e.2)]) * (24 : Nat) ≤ (140737488355328 : Nat)))
          (cnd (decide ((6 : Int) < (↑(List.length (l ++ [(e.1, e.2)])) : Int)))
            (cnd (decide ((1 : Int) ≤ (↑(List.length (l ++ [(e.1, e.2)])) : Int))) (some (List.drop ((0 : Nat) + (cutT (0 : Nat) (l ++ [(e.1, e.2)]).length (l ++ [(e.1, e.2)]).length (some (1 : Int)) none).2.1) (List.take ((0 : Nat) + (cutT (0 : Nat) (l ++ [(e.1, e.2)]).length (l ++ [(e.1, e.2)]).length (some (1 : Int)) none).2.1 + ((cutT (0 : Nat) (l ++ [(e.1, e.2)]).length (l ++ [(e.1, e.2)]).length (some (1 : Int)) none).2.2 - (cutT (0 : Nat) (l ++ [(e.1, e.2)]).length (l ++ [(e.1, e.2)]).length (some (1 : Int)) none).2.1)) (l ++ [(e.1, e.2)])))) none)
            (some (l ++ [(e.1, e.2)])))
          none = some (addR l e) := by
    rw [dT (by simp only [List.length_singleton]; omega), cnd_t]
    unfold addR
    by_cases h6 : 6 ≤ l.length
    · rw [dT (by simp only [List.length_append, List.length_singleton]; omega), cnd_t, if_pos h6, dT (by simp only [List.length_append, List.length_singleton]; omega), cnd_t, cut1 _ (by simp)]
    · rw [dF (by simp only [List.length_append, List.length_singleton]; omega), cnd_f, if_neg h6]
  by_cases h0 : (0 : Int) < l.length
  · have w1 : wr .i64 ((l.length : Int) - 1) = ((l.length - 1 : Nat) : Int) := by rw [wr_m (by omega) (by omega)]; omega
    have h1 := hs (by omega)
    rw [dT h0, cnd_t, w1, dT (by omega), dT (by omega), Bool.and_self, cnd_t, Int.toNat_natCast, dF (by show ¬ e.1 ≤ (l.getD (l.length - 1) iD).1; omega), cnd_f]
    exact tail
  · rw [dF h0, cnd_f]
    exact tail
abbrev Fd := Int × Int × List It × List It × List Ev × Int × Int
theorem twin_eq (N : Nat) (f : Fd) (h1 : f.2.2.1.length ≤ 1000) (h2 : f.2.2.2.1.length ≤ 1000) (h3 : f.2.2.2.2.1.length ≤ 1000) : W_twin_Feed N f = some f := by
  obtain ⟨n, t, R, Wn, L, a, b⟩ := f
  unfold W_twin_Feed
  simp only at h1 h2 h3 ⊢
  rw [Clone_i N R h1, obind_s, Clone_i N Wn h2, obind_s, Clone_ev N L h3, obind_s]
theorem SameF_self (N : Nat) (hN : 1000 < N) (f : Fd) (h1 : f.2.2.1.length ≤ 1000) (h2 : f.2.2.2.1.length ≤ 1000) (h3 : f.2.2.2.2.1.length ≤ 1000) : W_ref13_SameFeed N (f, f) = some true := by
  obtain ⟨n, t, R, Wn, L, a, b⟩ := f
  simp only at h1 h2 h3
  have s1 := SameI_self N R (by omega) h1
  have s2 := SameI_self N Wn (by omega) h2
  have s3 := SameE_self N L (by omega) h3
  unfold W_ref13_SameFeed
  simp only [decide_true, cnd_t, obind_s, s1, s2, s3, Bool.and_self]
/-- The number that is said next. -/
def sq (f : Fd) : Int := if f.1 < 1 then 1 else f.1
def sayF (f : Fd) (t : List UInt8) : Bool × Fd :=
  if (12 : Int) < t.length then (false, f) else if 1000000 < sq f then (false, f) else (true, sq f + 1, sq f, addR f.2.2.1 (sq f, t), f.2.2.2.1, f.2.2.2.2.1 ++ [(1, sq f, sq f, t, 0)], f.2.2.2.2.2)
/-- Such a feed as one can say on. -/
structure Ok (f : Fd) (n : Nat) : Prop where
  nx : 0 ≤ f.1 ∧ f.1 ≤ 2000000
  rl : f.2.2.1.length ≤ 6
  last : ∀ _ : 0 < f.2.2.1.length, (f.2.2.1.getD (f.2.2.1.length - 1) iD).1 < sq f
  wl : f.2.2.2.1.length ≤ 1000
  ll : f.2.2.2.2.1.length = n
theorem say_eq (N : Nat) {f : Fd} {n : Nat} (h : Ok f n) (hn : n ≤ 900) (t : List UInt8) : W_feed_Say N (f, t) = some (sayF f t) := by
  have h1 := h.rl; have h2 := h.wl; have h3 := h.ll; have h4 := h.nx; have h5 := h.last
  have ht := twin_eq N f (by omega) h2 (by omega)
  obtain ⟨nx, tp, R, Wn, L, a, b⟩ := f
  simp only at h1 h2 h3 h4
  unfold W_feed_Say W_feed_read sayF
  simp only
  rw [ht, obind_s]
  have e : (obind (cnd (decide (nx < (1 : Int))) (some (Sum.inr ())) (some (Sum.inl nx))) fun (b_1 : Int ⊕ PUnit) => selim (fun (b_2 : Int) => some (b_2, ((0 : Int), (0 : Int), ([] : List It), ([] : List It), ([] : List Ev), (0 : Int), (0 : Int)), nx, tp, R, Wn, L, a, b)) (fun (c : PUnit) => some ((1 : Int), ((0 : Int), (0 : Int), ([] : List It), ([] : List It), ([] : List Ev), (0 : Int), (0 : Int)), nx, tp, R, Wn, L, a, b)) b_1) = some (sq (nx, tp, R, Wn, L, a, b), ((0 : Int), (0 : Int), ([] : List It), ([] : List It), ([] : List Ev), (0 : Int), (0 : Int)), nx, tp, R, Wn, L, a, b) := by
    unfold sq
    by_cases c : nx < 1
    · rw [dT c, cnd_t, obind_s, selim_r, if_pos c]
    · rw [dF c, cnd_f, obind_s, selim_l, if_neg c]
  have hsq : sq (nx, tp, R, Wn, L, a, b) ≤ 2000000 ∧ 1 ≤ sq (nx, tp, R, Wn, L, a, b) := by unfold sq; simp only; split <;> omega
  simp only at e ⊢
  rw [e, obind_s]
  simp only
  generalize sq (nx, tp, R, Wn, L, a, b) = s at *
  by_cases c1 : (12 : Int) < t.length
  · rw [dT c1, cnd_t, if_pos c1]
  rw [dF c1, cnd_f, if_neg c1]
  by_cases c2 : 1000000 < s
  · rw [dT c2, cnd_t, if_pos c2]
  rw [dF c2, cnd_f, if_neg c2, lTell N L s t (by omega), obind_s, Add_eq N R (s, t) h1 h5, obind_s, wr_m (by omega) (by omega)]
theorem rsay_eq (N : Nat) {f : Fd} {n : Nat} (h : Ok f n) (hn : n ≤ 900) (t : List UInt8) : W_ref13_Say N (f, t) = some (sayF f t) := by
  have h1 := h.rl; have h2 := h.wl; have h3 := h.ll; have h4 := h.nx; have h5 := h.last
  obtain ⟨nx, tp, R, Wn, L, a, b⟩ := f
  simp only at h1 h2 h3 h4
  unfold W_ref13_Say sayF
  have e : max nx (1 : Int) = sq (nx, tp, R, Wn, L, a, b) := by unfold sq; simp only; split <;> omega
  have hsq : sq (nx, tp, R, Wn, L, a, b) ≤ 2000000 ∧ 1 ≤ sq (nx, tp, R, Wn, L, a, b) := by unfold sq; simp only; split <;> omega
  simp only [e]
  generalize sq (nx, tp, R, Wn, L, a, b) = s at *
  by_cases c1 : (12 : Int) < t.length
  · rw [dT c1, cnd_t, if_pos c1]
  rw [dF c1, cnd_f, if_neg c1]
  by_cases c2 : 1000000 < s
  · rw [dT c2, cnd_t, if_pos c2]
  rw [dF c2, cnd_f, if_neg c2, rTell N L s t (by omega), obind_s, rAdd_eq N R (s, t) h1 h5, obind_s, wr_m (by omega) (by omega)]
theorem Ok.say {f : Fd} {n : Nat} (h : Ok f n) (t : List UInt8) : Ok (sayF f t).2 (if (sayF f t).1 = true then n + 1 else n) ∧ (sayF f t).2.1 ≤ f.1 + 2 := by
  have h1 := h.rl; have h2 := h.wl; have h3 := h.ll; have h4 := h.nx; have h5 := h.last
  have hs : sq f ≤ f.1 + 1 ∧ 1 ≤ sq f := by unfold sq; split <;> omega
  unfold sayF
  by_cases c1 : (12 : Int) < t.length
  · rw [if_pos c1]; exact ⟨h, by simp only; omega⟩
  rw [if_neg c1]
  by_cases c2 : 1000000 < sq f
  · rw [if_pos c2]; exact ⟨h, by simp only; omega⟩
  rw [if_neg c2]
  have hl := addR_len f.2.2.1 (sq f, t) h1
  refine ⟨⟨⟨by simp only; omega, by simp only; omega⟩, by simp only; omega, fun q => ?_, h2, by simp only [List.length_append, List.length_cons, List.length_nil, h3]; rfl⟩, by simp only; omega⟩
  simp only at q ⊢
  rw [addR_get _ _ h1 _ (by omega), if_pos (by omega)]
  have e : sq (sq f + 1, sq f, addR f.2.2.1 (sq f, t), f.2.2.2.1, f.2.2.2.2.1 ++ [(1, sq f, sq f, t, 0)], f.2.2.2.2.2) = sq f + 1 := by
    show (if sq f + 1 < 1 then (1 : Int) else sq f + 1) = sq f + 1
    rw [if_neg (by omega)]
  rw [e]
  simp only
  omega
def zF : Fd := (0, 0, [], [], [], 0, 0)
theorem zOk : Ok zF 0 := ⟨⟨by decide, by decide⟩, by decide, fun h => by simp [zF] at h, by decide, rfl⟩
def mF : Fd := (1000000, 999999, [], [], [], 0, 0)
theorem mOk : Ok mF 0 := ⟨⟨by decide, by decide⟩, by decide, fun h => by simp [mF] at h, by decide, rfl⟩
theorem law_aux (N : Nat) (hN : 2000 ≤ N) (x : List (List UInt8)) : W_law18_FeedSays N x = some true := by
  unfold W_law18_FeedSays
  by_cases c1 : (20 : Int) < x.length
  · rw [dT c1, cnd_t]
  rw [dF c1, cnd_f]
  refine loop_G (N := N) (fun o => o = some true) (fun k (v : Int × Int × Fd × Fd) => ∃ (n : Nat) (f : Fd), v = ((n : Int), (k : Int), f, f) ∧ k ≤ x.length ∧ n ≤ k ∧ Ok f n ∧ f.1 ≤ 2 * k) x.length (fun r : (Int × Fd) ⊕ Bool => r = .inr true ∨ ∃ (n : Nat) (f : Fd), r = .inl ((n : Int), f) ∧ Ok f n) ⟨0, zF, rfl, by omega, by omega, zOk, by decide⟩ (by omega) ?_ (fun k v ⟨_, _, _, h, _⟩ => h) ?_
  · rintro r (rfl | ⟨n, f, rfl, hf⟩)
    · rw [selim_r]
    · obtain ⟨nx, tp, R, Wn, L, a, b⟩ := f
      have hl := hf.ll
      have h1 := say_eq N mOk (by omega) [(120 : UInt8)]
      have e1 : sayF mF [(120 : UInt8)] = (true, 1000001, 1000000, addR [] (1000000, [120]), [], [(1, 1000000, 1000000, [120], 0)], 0, 0) := rfl
      have hO := (mOk.say [(120 : UInt8)]).1
      rw [e1] at h1 hO
      have h2 := say_eq N hO (by simp) [(120 : UInt8)]
      have e2 : (sayF (1000001, 1000000, addR [] (1000000, [120]), [], [(1, 1000000, 1000000, [120], 0)], 0, 0) [(120 : UInt8)]).1 = false := by decide
      rw [selim_l]
      simp only [mF] at h1
      simp only at hl ⊢
      rw [h1, obind_s]
      simp only at h2 ⊢
      rw [h2, obind_s, hl, dT rfl, cnd_t, obind_s]
      simp only
      rw [e2, cnd_t, obind_s, Bool.not_false, cnd_t, dT rfl]
  · rintro k v ⟨n, f, rfl, hk, hn, hf, hf1⟩
    simp only
    by_cases c : (k : Int) < x.length
    case neg =>
      right
      rw [dF c, cnd_f]
      exact ⟨_, rfl, .inr ⟨n, f, rfl, hf⟩⟩
    rw [dT c, cnd_t, dT (by omega), Bool.and_self, cnd_t, Int.toNat_natCast]
    by_cases c2 : (40 : Int) < (x.getD k []).length
    · right
      rw [dT c2, cnd_t]
      exact ⟨_, rfl, .inl rfl⟩
    left
    have g1 := say_eq N hf (by omega) (x.getD k [])
    have g2 := rsay_eq N hf (by omega) (x.getD k [])
    obtain ⟨g3, g4⟩ := hf.say (x.getD k [])
    have hsq : sq f ≤ 1000000 := by unfold sq; split <;> omega
    have hp : (sayF f (x.getD k [])).1 = decide (((x.getD k []).length : Int) ≤ 12) := by
      unfold sayF
      by_cases c3 : (12 : Int) < (x.getD k []).length
      · rw [if_pos c3, dF (by omega)]
      · rw [if_neg c3, if_neg (by omega), dT (by omega)]
    have hS := SameF_self N (by omega) (sayF f (x.getD k [])).2 (by have := g3.rl; omega) g3.wl (by have := g3.ll; split at this <;> omega)
    rw [dF c2, cnd_f]
    obtain ⟨nx, tp, R, Wn, L, a, b⟩ := f
    generalize hQ : sayF (nx, tp, R, Wn, L, a, b) (x.getD k []) = Q at *
    obtain ⟨q, nx', tp', R', Wn', L', a', b'⟩ := Q
    simp only at g1 g2 g3 g4 hp hS hf1 ⊢
    simp only [cnd_t, g1, g2, obind_s, beq_self_eq_true, Bool.not_true, cnd_f, hp, hS]
    rw [wr_m (by omega) (by omega), wr_m (by omega) (by omega)]
    rw [hp] at g3
    cases hd : decide (((x.getD k []).length : Int) ≤ 12) with
    | true =>
      rw [hd] at g3
      simp only [cnd_t, obind_s]
      exact ⟨_, rfl, n + 1, _, rfl, by omega, by omega, g3, by simp only; omega⟩
    | false =>
      rw [hd] at g3
      simp only [cnd_f, obind_s]
      exact ⟨_, rfl, n, _, rfl, by omega, by omega, g3, by simp only; omega⟩
def NN : Nat := 2000
theorem law_true (y0 : List (List UInt8)) (h0 : Twf (.list .str) y0) : W_law18_FeedSays NN y0 = some true := law_aux NN (Nat.le_refl _) y0

theorem spec (y0 : List (List UInt8)) (h0 : Twf (.list .str) y0) : Spec2 P0 4 [valW (.list .str) y0] [] (.bs true) [] [] := (con_law18_FeedSays_ok NN).2 y0 true (law_true y0 h0)
theorem lifted (os : Os) (started : os.Started) (H : Type) (enc : TypeId × Value → H) :
    ReturnsInHanded {} Try.checked os 4 .any (Rows.feedSaysSpec.pre6 enc Try.prog Try.f4 Rows.feedSaysRow.domain false) (Rows.feedSaysSpec.post enc Try.prog Try.f4 false true false false) := by
  refine returnsInHanded_of_change (C := Try.checked) own started (by kernel_rfl) Try.func4
    (ChangeSpec.witness6 (enc := enc) (C := Try.checked) false ⟨#[], #[.slice none 0 0], []⟩ 8 (by kernel_rfl) (by kernel_rfl) (by kernel_rfl) (by kernel_rfl)) ?_
  intro W base args ds gs before hval0 hW hcnd _
  have hval : ∀ (j : Nat) t v, Try.f4.params[j]? = some t → args[j]? = some v → Value.okWide Try.prog W .any base t v := hval0
  have hW' := hW
  obtain ⟨p, q, hA0, hV, rfl, hfz, hnd⟩ := hW
  have hA : DataW.TrodAll enc Try.prog W 0 (fun _ => true) true Try.f4.params.toList args.toList ds p := hA0
  rw [Try.params4] at hA hval
  obtain ⟨v0, vs0, d0, ds0, p0, q0, hargs, rfl, rfl, h0, r0⟩ := trodAll_cons hA
  obtain ⟨rfl, rfl, rfl⟩ := trodAll_nil r0
  obtain rfl : args = #[v0] := by cases args; simp_all
  obtain ⟨rfl, rfl⟩ := trodVars_none hV
  have k0 := h0
  have lt0 : ∀ x ∈ p0, x.block < W.heap.size := by obtain ⟨m, hm⟩ := k0; exact DataW.trod_lt m _ _ _ hm
  obtain ⟨y0, rp0, wf0⟩ := arg_ok (n := 12) (ty := (.list .str)) (by kernel_rfl) (hval 0 _ v0 rfl rfl) h0
  clear hA0 hval0
  refine (law_of2 (spec y0 wf0) W #[v0] (.cons rp0 .nil)).mono fun e W' ⟨he, bel⟩ => ?_
  subst he
  exact ⟨_, rfl, _, _, _, [], _, [], hW', trodAll_mk1 (shut_bool Try.underlying4 _), (trodAll_cons_mk (Below.trod laidOut (by kernel_rfl) (of_decide_eq_true (by kernel_rfl)) k0 bel lt0) trodAll_mk0), rfl, bel.frame _, fun h => by cases h⟩

theorem over : Rows.feedSaysRow.holds Try.pinned (OpenSpec.ofChange Rows.feedSaysSpec) :=
  OpenClaim.holds_of_wide 4 Try.f4 rfl rfl rfl rfl rfl rfl rfl ⟨rfl, rfl, rfl, rfl, rfl⟩ rfl rfl rfl rfl rfl (by kernel_rfl) Try.func4 (by kernel_rfl)
    (of_decide_eq_true (by kernel_rfl)) (by unfold Func.isWrapper; first | (rw [if_pos (by decide +kernel)]; kernel_rfl) | (rw [if_neg (by decide +kernel)]; exact ⟨rfl, rfl⟩))
    (fun os started H enc _ => lifted os started H enc)

theorem holds : Rows.FeedSaysSaid := over
end Go.Proofs.Ytkdgdpeoneegnaa.feedSaysX
